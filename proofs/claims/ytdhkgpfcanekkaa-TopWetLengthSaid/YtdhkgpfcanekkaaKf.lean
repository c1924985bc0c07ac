/- A chance of package stock: by how much a part is thicker after some hours, and how thick it is. -/
import Derived.Test.YtdhkgpfcanekkaaKe
import Derived.Deep.RegionHeld3
import Derived.Deep.DrawnRows
namespace Go.Proofs.Ytdhkgpfcanekkaa
open Go Go.RowKit

/-- A chance: what hammers give, and the parts at first. -/
structure Chc where
  (s k l0 h0 l1 h1 l2 h2 : Int)
def ccells (bf : Nat) (x : Chc) : List Value := [.pointer (some ⟨bf, 0, none⟩), iv x.s, iv x.k, iv x.l0, iv x.h0, iv x.l1, iv x.h1, iv x.l2, iv x.h2]
def moreI (n : Nat) (c : Fe) (x : Chc) (part hour : Nat) : Int := (shr n c hour part : Int) * x.s + ((hour : Int) - (shr n c hour part : Int)) * x.k
def okG (x : Chc) : Prop := 0 ≤ x.s ∧ x.s ≤ 50 ∧ 0 ≤ x.k ∧ x.k ≤ 50
theorem mul_bd {a b A B : Int} (h0 : 0 ≤ a) (h1 : a ≤ A) (h2 : 0 ≤ b) (h3 : b ≤ B) : 0 ≤ a * b ∧ a * b ≤ A * B :=
  ⟨Int.mul_nonneg h0 h2, Int.mul_le_mul h1 h3 h2 (by omega)⟩
theorem moreI_bd {n : Nat} {c : Fe} {x : Chc} {part hour : Nat} (hh : hour ≤ 36) (hx : okG x) : 0 ≤ moreI n c x part hour ∧ moreI n c x part hour ≤ 3600 := by
  obtain ⟨x1, x2, x3, x4⟩ := hx
  have hb := shr_le n c part hour
  obtain ⟨a1, a2⟩ := mul_bd (a := (shr n c hour part : Int)) (A := 36) (by omega) (by omega) x1 x2
  obtain ⟨a3, a4⟩ := mul_bd (a := (hour : Int) - (shr n c hour part : Int)) (A := 36) (by omega) (by omega) x3 x4
  unfold moreI; omega

set_option maxRecDepth 20000 in
set_option maxHeartbeats 3200000 in
theorem more_any (n : Nat) (c : Fe) (pv mv : Value) (bf : Nat) (x : Chc) (part hour : Nat) (w : World) (hp : part < 3) (hh : hour ≤ 36) (hx : okG x) (hf : w.heap[bf]? = some (.cells (frow c pv mv n 36) 135 (0, 0))) :
    Calls Try.prog 73 #[.agg (ccells bf x).toArray, iv part, iv hour] w fun e w' => e = .returned (iv (moreI n c x part hour)) ∧ Below w.heap.size w w' := by
  have hb := shr_le n c part hour
  have hc : w.cell? ⟨bf, 10 + hour * 3 + part, none⟩ = some (iv (shr n c hour part)) := by
    rw [cell_of_row _ _ _ _ _ _ hf]; have := frow_at c pv mv n 36 hour part hh hp; rw [if_pos hh] at this; exact this
  have hlt : bf < w.heap.size := (Array.getElem?_eq_some_iff.1 hf).1
  have HM : Hid (moreI n c x part hour = (shr n c hour part : Int) * x.s + ((hour : Int) - (shr n c hour part : Int)) * x.k) := rfl
  obtain ⟨s, k, l0, h0, l1, h1, l2, h2⟩ := x
  obtain ⟨x1, x2, x3, x4⟩ := hx
  simp only at x1 x2 x3 x4
  generalize shr n c hour part = b at *
  generalize moreI n c ⟨s, k, l0, h0, l1, h1, l2, h2⟩ part hour = mo at *
  obtain ⟨a1, a2⟩ := mul_bd (a := (b : Int)) (A := 36) (by omega) (by omega) x1 x2
  obtain ⟨a3, a4⟩ := mul_bd (a := (hour : Int) - (b : Int)) (A := 36) (by omega) (by omega) x3 x4
  have e1 : IntKind.i64.wrap ((b : Int) * s) = (b : Int) * s := IntWalk.i64_in _ ⟨by omega, by omega⟩
  have e2 : IntKind.i64.wrap (((hour : Int) - (b : Int)) * k) = ((hour : Int) - (b : Int)) * k := IntWalk.i64_in _ ⟨by omega, by omega⟩
  have e3 : IntKind.i64.wrap ((b : Int) * s + ((hour : Int) - (b : Int)) * k) = (b : Int) * s + ((hour : Int) - (b : Int)) * k := IntWalk.i64_in _ ⟨by omega, by omega⟩
  clear hf
  simp only [ccells]
  go_enter Try.func73, Try.ntmps73
  go_wp2_with fail
  go_ret
  exact ⟨by rw [HM.out]; rfl, (by repeat (first | exact Below.refl _ _ | refine Below.drew ?_ | refine bpush ?_ _ | refine bput ?_ (by simp) _ | (refine bstep ?_ (by assumption))))⟩
end Go.Proofs.Ytdhkgpfcanekkaa
