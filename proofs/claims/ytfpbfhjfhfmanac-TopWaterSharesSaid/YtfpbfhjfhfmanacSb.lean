/- How a pond fills, and what hammers leave. -/
import Derived.Test.YtfpbfhjfhfmanacSa
import Derived.Deep.RegionHeld3
import Derived.Deep.DrawnRows
namespace Go.Proofs.Ytfpbfhjfhfmanac
open Go Go.RowKit
attribute [local go_sem ↓] Go.wp_at_zero Go.wp_at_succ

def fillL (H l f : Int) : Int := if H < l + f then H else l + f
def leftL (T H l f k : Int) : Int := fillL H l f - k * T

theorem kcell {W W1 : World} {b o : Nat} {v : Value} (hb : Below W.heap.size W W1) (h : W.cell? ⟨b, o, none⟩ = some v) : W1.cell? ⟨b, o, none⟩ = some v := (hb.cell (p := ⟨b, o, none⟩) (lt_of_cell h)).trans h

set_option maxRecDepth 20000 in
set_option maxHeartbeats 1600000 in
theorem fill_any (m : Ml) (fv : Value) (l f : Int) (w : World) (h1 : -1000000 ≤ l) (h2 : l ≤ 1000000) (h3 : -1000000 ≤ f) (h4 : f ≤ 1000000) :
    Calls Try.prog 33 #[.agg (vcells m fv), iv l, iv f] w fun e w' => e = .returned (iv (fillL m.h l f)) ∧ Below w.heap.size w w' := by
  obtain ⟨k, t, bl, bh, h, nl, nh⟩ := m
  simp only [vcells]
  by_cases hh : h < l + f
  · have HR : Hid (fillL h l f = h) := by simp [Hid, fillL, hh]
    go_enter Try.func33, Try.ntmps33
    go_wp2_with fail
    go_ret
    exact ⟨by rw [HR.out]; rfl, (by repeat (first | exact Below.refl _ _ | refine Below.drew ?_ | refine bpush ?_ _ | refine bput ?_ (by simp) _ | (refine bstep ?_ (by assumption))))⟩
  · have HR : Hid (fillL h l f = l + f) := by simp [Hid, fillL, hh]
    go_enter Try.func33, Try.ntmps33
    go_wp2_with fail
    go_ret
    exact ⟨by rw [HR.out]; rfl, (by repeat (first | exact Below.refl _ _ | refine Below.drew ?_ | refine bpush ?_ _ | refine bput ?_ (by simp) _ | (refine bstep ?_ (by assumption))))⟩

set_option maxRecDepth 20000 in
set_option maxHeartbeats 3200000 in
theorem work_any (m : Ml) (fv : Value) (l f k : Int) (w : World) (h1 : -1000000 ≤ l) (h2 : l ≤ 1000000) (h3 : -1000000 ≤ f) (h4 : f ≤ 1000000) (h5 : 0 ≤ k) (h6 : k ≤ 1000) (ht : 0 ≤ m.t) (ht' : m.t ≤ 1000) (hh : 0 ≤ m.h) (hh' : m.h ≤ 1000) :
    Calls Try.prog 31 #[.agg (vcells m fv), iv l, iv f, iv k] w fun e w' => e = .returned (.tuple #[iv (leftL m.t m.h l f k), .bool (decide (0 ≤ leftL m.t m.h l f k))]) ∧ Below w.heap.size w w' := by
  obtain ⟨kk, t, bl, bh, h, nl, nh⟩ := m
  dsimp only at *
  have hF := fill_any ⟨kk, t, bl, bh, h, nl, nh⟩ fv l f
  have HF := Lib.hid hF; clear hF
  have b1 : -2000000 ≤ fillL h l f := by unfold fillL; split <;> omega
  have b2 : fillL h l f ≤ 2000000 := by unfold fillL; split <;> omega
  have b3 : 0 ≤ k * t := Int.mul_nonneg h5 ht
  have b4 : k * t ≤ 1000000 := by
    have : k * t ≤ 1000 * 1000 := Int.mul_le_mul h6 ht' ht (by omega)
    omega
  have HL : Hid (leftL t h l f k = fillL h l f - k * t) := rfl
  simp only [vcells] at *
  generalize fillL h l f = fl at *
  generalize leftL t h l f k = ll at *
  have e1 : IntKind.i64.wrap (k * t) = k * t := IntWalk.i64_in _ ⟨by omega, by omega⟩
  have e2 : IntKind.i64.wrap (fl - k * t) = ll := by rw [HL.out]; exact IntWalk.i64_in _ ⟨by omega, by omega⟩
  go_enter Try.func31, Try.ntmps31
  go_wp2_with fail
  go_region_held3 (fun w' => w'.cell? ⟨w.heap.size, 0, none⟩ = some (iv kk) ∧ w'.cell? ⟨w.heap.size, 1, none⟩ = some (iv t) ∧ w'.cell? ⟨w.heap.size, 2, none⟩ = some (iv bl) ∧ w'.cell? ⟨w.heap.size, 3, none⟩ = some (iv bh) ∧ w'.cell? ⟨w.heap.size, 4, none⟩ = some (iv h) ∧ w'.cell? ⟨w.heap.size, 5, none⟩ = some (iv nl) ∧ w'.cell? ⟨w.heap.size, 6, none⟩ = some (iv nh) ∧ w'.cell? ⟨w.heap.size, 7, none⟩ = some fv) (first | (go_split_ands; refine ⟨?_, ?_, ?_, ?_, ?_, ?_, ?_, ?_⟩ <;> exact kcell hb (by assumption)) | go_keep)
    (first | (go_at_call 33; refine (HF.out _ h1 h2 h3 h4).mono ?_; rintro e w1 ⟨rfl, hb⟩))
  rename_i hHeld
  have HB := Lib.hid (show Below w.heap.size w w1 from bstep (by repeat (first | exact Below.refl _ _ | refine Below.drew ?_ | refine bpush ?_ _ | refine bput ?_ (by simp) _ | (refine bstep ?_ (by assumption)))) hb)
  clear hHeld hb e1 e2
  go_wp2_with fail
  go_ret2
  exact ⟨rfl, HB.out⟩

set_option maxHeartbeats 800000 in
theorem low1_any (p : Sp) (w : World) :
    Calls Try.prog 21 #[.agg (encS p).toArray] w fun e w' => e = .returned (iv p.1) ∧ Below w.heap.size w w' := by
  obtain ⟨l, h⟩ := p
  simp only [encS]
  go_enter Try.func21, Try.ntmps21
  go_wp2_with fail
  go_ret
  exact ⟨rfl, (by repeat (first | exact Below.refl _ _ | refine Below.drew ?_ | refine bpush ?_ _ | refine bput ?_ (by simp) _ | (refine bstep ?_ (by assumption))))⟩
set_option maxHeartbeats 800000 in
theorem high1_any (p : Sp) (w : World) :
    Calls Try.prog 23 #[.agg (encS p).toArray] w fun e w' => e = .returned (iv p.2) ∧ Below w.heap.size w w' := by
  obtain ⟨l, h⟩ := p
  simp only [encS]
  go_enter Try.func23, Try.ntmps23
  go_wp2_with fail
  go_ret
  exact ⟨rfl, (by repeat (first | exact Below.refl _ _ | refine Below.drew ?_ | refine bpush ?_ _ | refine bput ?_ (by simp) _ | (refine bstep ?_ (by assumption))))⟩

/-- Where an iterator's three boxes lie, and what is in them. -/
structure LvBox (W : World) (be bv bp : Nat) (ef : FuncId) (m : Ml) (fv pv : Value) : Prop where
  e : W.heap[be]? = some (.cells #[.func (.func ef) #[] #[]] 53 (0, 0))
  v : W.heap[bv]? = some (.cells (vcells m fv) 41 (0, 0))
  p : W.heap[bp]? = some (.cells #[pv] 29 (0, 0))

/-- An iterator over the levels, made behind w. -/
def LvRes (ef : FuncId) (m : Ml) (fv pv : Value) (w : World) (e : Ending) (w' : World) : Prop :=
  ∃ be bv bp, e = .returned (.func (.func 30) #[] #[.pointer (some ⟨be, 0, none⟩), .pointer (some ⟨bv, 0, none⟩), .pointer (some ⟨bp, 0, none⟩)]) ∧
    w.heap.size ≤ be ∧ w.heap.size ≤ bv ∧ w.heap.size ≤ bp ∧ LvBox w' be bv bp ef m fv pv ∧ Below w.heap.size w w'

set_option maxRecDepth 20000 in
set_option maxHeartbeats 1600000 in
theorem levels_any (m : Ml) (fv : Value) (pa : Option Addr) (pn pc : Nat) (ef : FuncId) (w : World) :
    Calls Try.prog 20 #[.agg (vcells m fv), .slice pa pn pc, .func (.func ef) #[] #[]] w (LvRes ef m fv (.slice pa pn pc) w) := by
  have HH : Hid (∀ (W W' : World), W' = ((W.alloc (.cells (vcells m fv) 41)).alloc (.cells #[.slice pa pn pc] 29)).alloc (.cells #[.func (.func ef) #[] #[]] 53) → LvBox W' (W.heap.size + 1 + 1) W.heap.size (W.heap.size + 1) ef m fv (.slice pa pn pc)) := by
    rintro W _ rfl
    refine ⟨?_, ?_, ?_⟩
    · have := heap_new ((W.alloc (.cells (vcells m fv) 41)).alloc (.cells #[.slice pa pn pc] 29)) #[.func (.func ef) #[] #[]] 53
      simpa only [World.size_alloc] using this
    · rw [Below.heap_alloc _ _ _ (by simp; omega), Below.heap_alloc _ _ _ (by simp)]; exact heap_new _ _ _
    · rw [Below.heap_alloc _ _ _ (by simp)]
      have := heap_new (W.alloc (.cells (vcells m fv) 41)) #[.slice pa pn pc] 29
      simpa only [World.size_alloc] using this
  obtain ⟨k, t, bl, bh, h, nl, nh⟩ := m
  simp only [vcells] at *
  go_enter Try.func20, Try.ntmps20
  go_wp2_with fail
  go_ret
  exact ⟨_, _, _, rfl, by omega, by omega, by omega, HH.out _ _ rfl, (by repeat (first | exact Below.refl _ _ | refine Below.drew ?_ | refine bpush ?_ _ | refine bput ?_ (by simp) _ | (refine bstep ?_ (by assumption))))⟩

set_option maxRecDepth 20000 in
set_option maxHeartbeats 1600000 in
theorem lowest_any (m : Ml) (fv : Value) (pa : Option Addr) (pn pc : Nat) (w : World) :
    Calls Try.prog 12 #[.agg (vcells m fv), .slice pa pn pc] w (LvRes 21 m fv (.slice pa pn pc) w) := by
  have hL := levels_any m fv pa pn pc 21
  have HL := Lib.hid hL; clear hL
  obtain ⟨k, t, bl, bh, h, nl, nh⟩ := m
  simp only [vcells] at *
  go_enter Try.func12, Try.ntmps12
  go_wp2_with fail
  refine (HL.out _).mono ?_
  rintro e w1 ⟨be, bv, bp, rfl, h1, h2, h3, hb, hbel⟩
  have HB := Lib.hid hb
  have HBB := Lib.hid (show Below w.heap.size w w1 from bstep (by repeat (first | exact Below.refl _ _ | refine Below.drew ?_ | refine bpush ?_ _ | refine bput ?_ (by simp) _ | (refine bstep ?_ (by assumption)))) hbel)
  have g1 : w.heap.size ≤ be := by simp at h1; omega
  have g2 : w.heap.size ≤ bv := by simp at h2; omega
  have g3 : w.heap.size ≤ bp := by simp at h3; omega
  clear hb hbel h1 h2 h3
  go_wp2_with fail
  go_ret
  exact ⟨_, _, _, rfl, g1, g2, g3, HB.out, HBB.out⟩
set_option maxRecDepth 20000 in
set_option maxHeartbeats 1600000 in
theorem highest_any (m : Ml) (fv : Value) (pa : Option Addr) (pn pc : Nat) (w : World) :
    Calls Try.prog 14 #[.agg (vcells m fv), .slice pa pn pc] w (LvRes 23 m fv (.slice pa pn pc) w) := by
  have hL := levels_any m fv pa pn pc 23
  have HL := Lib.hid hL; clear hL
  obtain ⟨k, t, bl, bh, h, nl, nh⟩ := m
  simp only [vcells] at *
  go_enter Try.func14, Try.ntmps14
  go_wp2_with fail
  refine (HL.out _).mono ?_
  rintro e w1 ⟨be, bv, bp, rfl, h1, h2, h3, hb, hbel⟩
  have HB := Lib.hid hb
  have HBB := Lib.hid (show Below w.heap.size w w1 from bstep (by repeat (first | exact Below.refl _ _ | refine Below.drew ?_ | refine bpush ?_ _ | refine bput ?_ (by simp) _ | (refine bstep ?_ (by assumption)))) hbel)
  have g1 : w.heap.size ≤ be := by simp at h1; omega
  have g2 : w.heap.size ≤ bv := by simp at h2; omega
  have g3 : w.heap.size ≤ bp := by simp at h3; omega
  clear hb hbel h1 h2 h3
  go_wp2_with fail
  go_ret
  exact ⟨_, _, _, rfl, g1, g2, g3, HB.out, HBB.out⟩
end Go.Proofs.Ytfpbfhjfhfmanac
