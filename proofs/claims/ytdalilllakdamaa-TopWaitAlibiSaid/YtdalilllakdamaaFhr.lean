/- firstHour of package cloth, with the two conditions that Below hands it. -/
import Derived.Test.YtdalilllakdamaaBhr
namespace Go.Proofs.Ytdalilllakdamaa
open Go Go.RowKit Go.Shelf

/-- The first hour at which a condition holds, and 49 if there is none. -/
def firstHr (p : Nat → Bool) : Nat := ((List.range 49).find? p).getD 49
theorem find_range (p : Nat → Bool) (n k : Nat) (hk : k < n) (ha : ∀ j, j < k → p j = false) (hp : p k = true) : (List.range n).find? p = some k := by
  rw [List.find?_eq_some_iff_getElem]
  refine ⟨hp, k, by simpa using hk, by simp, fun j hj => ?_⟩
  simp [ha j hj]
theorem firstHr_at (p : Nat → Bool) {k : Nat} (hk : k < 49) (ha : ∀ j, j < k → p j = false) (hp : p k = true) : firstHr p = k := by
  rw [firstHr, find_range p 49 k hk ha hp]; rfl
theorem firstHr_none (p : Nat → Bool) (ha : ∀ j, j < 49 → p j = false) : firstHr p = 49 := by
  rw [firstHr, List.find?_eq_none.2 (fun x hx => by simp [ha x (by simpa using hx)])]; rfl

end Go.Proofs.Ytdalilllakdamaa
