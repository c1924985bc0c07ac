/- quantities.possible and open of package cloth. -/
import Derived.Test.YtdalilllakdamaaSpl
namespace Go.Proofs.Ytdalilllakdamaa
open Go Go.RowKit Go.Shelf

def has (t : Tk) (what : Int) (M : List Ms) : Bool := !(trs t what M).isEmpty
/-- Each quantity has a truth. -/
def hasAll (ta tb tc : Tk) (M : List Ms) : Bool := has ta 0 M && (has tb 1 M && has tc 2 M)
theorem tk3_ok {ta tb tc : Tk} (h : [ta, tb, tc].all vTrack = true) (k : Nat) : vTrack (tk3 ta tb tc k) = true := by
  simp only [List.all_cons, List.all_nil, Bool.and_true, Bool.and_eq_true] at h
  rcases k with _ | _ | k
  · exact h.1
  · exact h.2.1
  · exact h.2.2
theorem hasAll_of {ta tb tc : Tk} {M : List Ms} (h : ∀ k, k < 3 → has (tk3 ta tb tc k) (k : Int) M = true) : hasAll ta tb tc M = true := by
  have h0 := h 0 (by omega); have h1 := h 1 (by omega); have h2 := h 2 (by omega)
  simp only [tk3] at h0 h1 h2
  simp only [hasAll, Bool.and_eq_true]
  exact ⟨h0, h1, h2⟩
theorem hasAll_not {ta tb tc : Tk} {M : List Ms} {k : Nat} (hk : k < 3) (h : has (tk3 ta tb tc k) (k : Int) M = false) : hasAll ta tb tc M = false := by
  rcases k with _ | _ | _ | k
  · simp only [tk3] at h; simp [hasAll]; intro h0; rw [show ((0 : Nat) : Int) = 0 from rfl] at h; rw [h] at h0; cases h0
  · simp only [tk3] at h; simp [hasAll]; intro _ h0; rw [show ((0 + 1 : Nat) : Int) = 1 from rfl] at h; rw [h] at h0; cases h0
  · simp only [tk3] at h; simp [hasAll]; intro _ _; exact h
  · omega

end Go.Proofs.Ytdalilllakdamaa
