/- Lasts of package stream. -/
import Derived.Test.YtfpbfhjfhfmanabSd
import Derived.Deep.RegionHeld3
import Derived.Deep.DrawnRows
namespace Go.Proofs.Ytfpbfhjfhfmanab
open Go Go.RowKit Go.Shelf
attribute [local go_sem ↓] Go.wp_at_zero Go.wp_at_succ

theorem kfrozen {W W1 : World} {b o : Nat} {v : Value} (hb : Below W.heap.size W W1) (h : W.cell? ⟨b, o, none⟩ = some v) (hf : W.frozen? ⟨b, o, none⟩ = false) : W1.frozen? ⟨b, o, none⟩ = false := (hb.frozen (p := ⟨b, o, none⟩) (lt_of_cell h)).trans hf

/-- Levels of a plan, if one end of each span is true. -/
def lvOf (sel : Sp → Int) (m : Ml) (F : List Sp) (plan : List Int) : List Int := lvs m.t m.h (sel (m.nl, m.nh)) (hrs sel F plan)
theorem lvs_len (T H : Int) : ∀ (r : List (Int × Int)) (l : Int), (lvs T H l r).length ≤ r.length
  | [], _ => by simp [lvs]
  | (f, k) :: r, l => by
    rw [lvs]
    split
    · rw [List.length_cons, List.length_cons]; have := lvs_len T H r (leftL T H l f k); omega
    · simp
theorem lvOf_len (sel : Sp → Int) (m : Ml) (F : List Sp) (plan : List Int) : (lvOf sel m F plan).length ≤ plan.length := by
  refine Nat.le_trans (lvs_len _ _ _ _) ?_
  simp [hrs]; omega

def lastErr (m : Ml) (F : List Sp) (k fr : Int) : Int := if sChk m F ≠ 0 then sChk m F else if inB 1 m.k k = true ∧ inB 0 ((F.length : Int) - 1) fr = true then 0 else 3
def lastOf (sel : Sp → Int) (m : Ml) (F : List Sp) (k fr : Int) : Int := if lastErr m F k fr = 0 then ((lvOf sel m F (stdy F.length k fr)).length : Int) - fr else 0
theorem openV_bad {m : Ml} {F : List Sp} (fv : Value) (h : sChk m F ≠ 0) : openV m F fv = zv := by simp [openV, h]
theorem openV_good {m : Ml} {F : List Sp} (fv : Value) (h : sChk m F = 0) : openV m F fv = vcells m fv := by simp [openV, h]
theorem encMl_cells (m : Ml) : (encMl m).toArray = #[iv m.k, iv m.t, iv m.bl, iv m.bh, iv m.h, iv m.nl, iv m.nh] := rfl

end Go.Proofs.Ytfpbfhjfhfmanab
