/- fewest and Most of package stream. -/
import Derived.Test.YtfpbfhjfhfmanabSf
import Derived.Test.YtfpbfhjfhfmanabSt
namespace Go.Proofs.Ytfpbfhjfhfmanab
open Go Go.RowKit Go.Shelf
theorem busy_all {m : Ml} (hm : vMill m = true) : ∀ (r : List Sp) (l : Int), 0 ≤ l → r.all vFlow = true → (busy m l r).length = r.length ∧ ∀ x ∈ busy m l r, 0 ≤ x ∧ x ≤ 8
  | [], l, _, _ => by simp [busy]
  | p :: r, l, hl, hr => by
    rw [List.all_cons, Bool.and_eq_true] at hr
    obtain ⟨a1, a2, a3, a4, a5⟩ := okSpan_iff.1 hr.1
    obtain ⟨o1, o2, o3, o4⟩ := mostOf_bd (l := l) (f := p.1) hm hl a1
    have hk := (vMill_iff.1 hm).1.2
    obtain ⟨h1, h2⟩ := busy_all hm r _ o3 hr.2
    refine ⟨by simp [busy, h1], ?_⟩
    intro x hx
    rw [busy, List.mem_cons] at hx
    rcases hx with rfl | hx
    · omega
    · exact h2 x hx
theorem sum_bd : ∀ (l : List Int), (∀ x ∈ l, 0 ≤ x ∧ x ≤ 8) → 0 ≤ l.sum ∧ l.sum ≤ 8 * (l.length : Int)
  | [], _ => by simp
  | a :: l, h => by
    have h1 := h a (by simp)
    have h2 := sum_bd l (fun x hx => h x (by simp [hx]))
    rw [List.sum_cons, List.length_cons]; omega
theorem drop_all {α : Type} {p : α → Bool} {l : List α} (h : l.all p = true) (n : Nat) : (l.drop n).all p = true := by
  rw [List.all_eq_true] at *; intro x hx; exact h x (List.mem_of_mem_drop hx)

/-- Whether one hammer more must go in an hour. -/
def fewC (m : Ml) (level : Int) (p : Sp) (r : List Sp) (x : Int) : Bool := decide (x + (busy m (leftL m.t m.h level p.1 x) r).sum < (busy m level (p :: r)).sum)
def leastF (c : Int → Bool) : Nat → Nat → Nat
  | 0, k => k
  | f + 1, k => if c (k : Int) = true then leastF c f (k + 1) else k
def few (m : Ml) (level : Int) (p : Sp) (r : List Sp) : Nat := leastF (fewC m level p r) (mostOf m level p.1).toNat 0
theorem fewC_most {m : Ml} {level : Int} {p : Sp} {r : List Sp} : fewC m level p r (mostOf m level p.1) = false := by
  simp [fewC, busy]

/-- The plan with the most hammers, the smallest list. -/
def mostP (m : Ml) : Int → List Sp → List Int
  | _, [] => []
  | l, p :: r => (few m l p r : Int) :: mostP m (leftL m.t m.h l p.1 (few m l p r)) r
theorem leastF_le (c : Int → Bool) : ∀ (f k : Nat), leastF c f k ≤ k + f
  | 0, k => by simp [leastF]
  | f + 1, k => by
    rw [leastF]; split
    · have := leastF_le c f (k + 1); omega
    · omega
theorem few_bd {m : Ml} {l : Int} {p : Sp} {r : List Sp} (hm : vMill m = true) (h1 : 0 ≤ l) (h2 : 0 ≤ p.1) : (few m l p r : Int) ≤ mostOf m l p.1 ∧ 0 ≤ leftL m.t m.h l p.1 (few m l p r) ∧ leftL m.t m.h l p.1 (few m l p r) ≤ 500 := by
  obtain ⟨o1, o2, o3, o4⟩ := mostOf_bd (l := l) (f := p.1) hm h1 h2
  have h3 := leastF_le (fewC m l p r) (mostOf m l p.1).toNat 0
  have h4 : (few m l p r : Int) ≤ mostOf m l p.1 := by unfold few; omega
  have ht0 := (vMill_iff.1 hm).2.1.1
  have hh5 := (vMill_iff.1 hm).2.2.2.1
  have e1 : (few m l p r : Int) * m.t ≤ mostOf m l p.1 * m.t := Int.mul_le_mul_of_nonneg_right h4 ht0
  have e2 : 0 ≤ (few m l p r : Int) * m.t := Int.mul_nonneg (by omega) ht0
  have e3 := (fillL_bd (H := m.h) (l := l) (f := p.1) (by omega) h1 h2).2
  refine ⟨h4, ?_⟩
  unfold leftL at o3 ⊢; omega
end Go.Proofs.Ytfpbfhjfhfmanab
