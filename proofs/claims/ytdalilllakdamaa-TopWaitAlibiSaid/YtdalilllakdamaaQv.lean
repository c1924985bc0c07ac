/- Turns: Order; the example of the laws. -/
import Derived.Test.YtdalilllakdamaaQo
namespace Go.Proofs.Ytdalilllakdamaa
open Go Go.RowKit Go.Shelf
attribute [local go_sem] Oper.semAt_some

theorem field_order (cv rv ov : Value) (k : Int) (W : World) : (Instr.field 48 (qv cv rv k ov) 2).run Try.prog W = .ok ov W := by kernel_rfl
def OrderRes (C : List Ct) (R : List Int) (w : World) (e : Ending) (w' : World) : Prop :=
  ∃ (o : List Nat) (g oc : Nat), e = .returned (.tuple #[.slice (some ⟨g, 0, none⟩) o.length oc, iv 0]) ∧ OrdC C R (List.range C.length) o ∧ Owns encI 1 3 w.heap.size w' (.slice (some ⟨g, 0, none⟩) o.length oc) (ordI o) ∧ Below w.heap.size w w'
set_option maxRecDepth 20000 in
set_option maxHeartbeats 3200000 in
theorem Order_good (C : List Ct) (R : List Int) (ca : Option Addr) (ra rb cc rc : Nat) (w : World) (hC : SliceOf encC 4 w (.slice ca C.length cc) C) (hR : Ints w (.slice (some ⟨ra, rb, none⟩) R.length rc) R) (hchk : tChk C R = 0) :
    Calls Try.prog 16 #[.agg #[.slice ca C.length cc, .slice (some ⟨ra, rb, none⟩) R.length rc]] w (OrderRes C R w) := by
  have hz := tChk_zero hchk
  have hrl := vRanks_len hz.1
  have HCK := Lib.hid (fun (W : World) (hb : Below w.heap.size w W) => tCheck_any C R ca (some ⟨ra, rb, none⟩) cc rc W (hC.below hb) (hR.below hb) (by omega))
  have HAL := Lib.hid (fun (W : World) (hb : Below w.heap.size w W) => all_any C R ca ra rb cc rc 1 W (hC.below hb) (hR.below hb) (by omega) (day_we hchk))
  have HZ := Lib.hid hchk
  clear hC hR hchk hz hrl
  go_enter Try.func16, Try.ntmps16
  go_wp2_with fail
  refine (HCK.out _ (by repeat (first | exact Below.refl _ _ | refine Below.drew ?_ | refine bpush ?_ _ | refine bput ?_ (by simp) _ | (refine bstep ?_ (by assumption))))).mono ?_
  rintro e w1 ⟨he, hb1⟩; rw [HZ.out] at he; subst he
  have d0 : w1.cell? ⟨w.heap.size, 0, none⟩ = some (.slice ca C.length cc) := kcellQ hb1 (by go_simp)
  have d1 : w1.cell? ⟨w.heap.size, 1, none⟩ = some (.slice (some ⟨ra, rb, none⟩) R.length rc) := kcellQ hb1 (by go_simp)
  have HB1 := Lib.hid (show Below w.heap.size w w1 from bstep (by repeat (first | exact Below.refl _ _ | refine Below.drew ?_ | refine bpush ?_ _ | refine bput ?_ (by simp) _ | (refine bstep ?_ (by assumption)))) hb1)
  clear hb1
  go_wp2_with fail
  refine (HAL.out _ HB1.out).mono ?_
  rintro e w2 ⟨o, g, oc, rfl, hord, ho2, hb2⟩
  have HB2 := Lib.hid (bstep HB1.out hb2); have HO2 := Lib.hid ho2; have HORD := Lib.hid hord
  have HZ2 := Lib.hid HB1.out.size
  clear hb2 ho2 hord d0 d1
  have hfo := field_order (.slice ca C.length cc) (.slice (some ⟨ra, rb, none⟩) R.length rc) (.slice (some ⟨g, 0, none⟩) o.length oc) 1
  go_wp2_with fail
  go_ret2
  exact ⟨o, g, oc, rfl, HORD.out, owns_low HO2.out HZ2.out, HB2.out⟩

def k4C : List Ct := [⟨0, 0, 4, 6⟩, ⟨0, 0, 3, 3⟩, ⟨1, 0, 5, 8⟩, ⟨1, 2, 2, 4⟩]
def k4R : List Int := [1, 0]
theorem k4Chk : tChk k4C k4R = 0 := by decide
theorem k4Rk : RkOk k4R := by
  intro i j hi hj h
  have hi' : i < 2 := hi
  have hj' : j < 2 := hj
  rcases i with _ | _ | i
  · rcases j with _ | _ | j
    · rfl
    · simp [k4R] at h
    · omega
  · rcases j with _ | _ | j
    · simp [k4R] at h
    · rfl
    · omega
  · omega
instance (C : List Ct) (R : List Int) (xs : List Nat) (a b : Nat) : Decidable (ltK C R xs a b) := by unfold ltK; infer_instance
theorem k4Ord : OrdC k4C k4R (List.range 4) [2, 0, 1, 3] := ⟨by decide, by decide⟩
end Go.Proofs.Ytdalilllakdamaa
