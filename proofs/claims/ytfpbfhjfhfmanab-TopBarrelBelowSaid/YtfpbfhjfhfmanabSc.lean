/- The iterator over the levels of a pond. -/
import Derived.Test.YtfpbfhjfhfmanabSb
namespace Go.Proofs.Ytfpbfhjfhfmanab
open Go Go.RowKit Go.Shelf
attribute [local go_sem] Oper.semAt_some
attribute [local go_sem ↓] Go.wp_at_zero Go.wp_at_succ

/-- How high a pond stands after each hour that has enough water: of each hour what comes, and the hammers. -/
def lvs (T H : Int) : Int → List (Int × Int) → List Int
  | _, [] => []
  | l, (f, k) :: r => if 0 ≤ leftL T H l f k then leftL T H l f k :: lvs T H (leftL T H l f k) r else []
def hrs (sel : Sp → Int) (F : List Sp) (plan : List Int) : List (Int × Int) := (F.map sel).zip plan
theorem hrs_drop {sel : Sp → Int} {F : List Sp} {plan : List Int} {k : Nat} {p : Sp} {x : Int} (hp : F[k]? = some p) (hx : plan[k]? = some x) : (hrs sel F plan).drop k = (sel p, x) :: (hrs sel F plan).drop (k + 1) := by
  have h : (hrs sel F plan)[k]? = some (sel p, x) := by simp [hrs, List.getElem?_zip_eq_some, hp, hx]
  obtain ⟨hk, he⟩ := List.getElem?_eq_some_iff.1 h
  rw [← he]; exact List.drop_eq_getElem_cons hk
theorem hrs_end {sel : Sp → Int} {F : List Sp} {plan : List Int} {k : Nat} (h : plan.length ≤ k) : (hrs sel F plan).drop k = [] := by
  apply List.drop_eq_nil_of_le; simp [hrs]; omega
/-- A row of cells, cell by cell. -/
theorem row8 {W : World} {b : Nat} {a0 a1 a2 a3 a4 a5 a6 a7 : Value} {t : TypeId} (h : W.heap[b]? = some (.cells #[a0, a1, a2, a3, a4, a5, a6, a7] t (0, 0))) :
    W.cell? ⟨b, 0, none⟩ = some a0 ∧ W.cell? ⟨b, 1, none⟩ = some a1 ∧ W.cell? ⟨b, 2, none⟩ = some a2 ∧ W.cell? ⟨b, 3, none⟩ = some a3 ∧ W.cell? ⟨b, 4, none⟩ = some a4 ∧ W.cell? ⟨b, 5, none⟩ = some a5 ∧ W.cell? ⟨b, 6, none⟩ = some a6 ∧ W.cell? ⟨b, 7, none⟩ = some a7 := by
  refine ⟨?_, ?_, ?_, ?_, ?_, ?_, ?_, ?_⟩ <;> (rw [cell_of_row _ _ _ _ _ _ h]; rfl)
theorem vMill_iff {m : Ml} : vMill m = true ↔ (1 ≤ m.k ∧ m.k ≤ 8) ∧ (0 ≤ m.t ∧ m.t ≤ 100) ∧ okSpan m.bl m.bh 0 5000 = true ∧ (0 ≤ m.h ∧ m.h ≤ 500) ∧ (0 ≤ m.nl ∧ m.nl ≤ m.h ∧ 0 ≤ m.nh ∧ m.nh ≤ m.h ∧ m.nl ≤ m.nh) := by
  simp only [vMill, Bool.and_eq_true, inB_iff, okSpan_iff]

end Go.Proofs.Ytfpbfhjfhfmanab
