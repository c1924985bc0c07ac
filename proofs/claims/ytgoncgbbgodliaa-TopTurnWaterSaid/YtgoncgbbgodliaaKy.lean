/- A felt made of bytes: ElmFelt.thick and fit. -/
import Derived.Test.YtgoncgbbgodliaaKx
namespace Go.Proofs.Ytgoncgbbgodliaa
open Go Go.RowKit Go.Shelf
attribute [local go_sem ↓] Go.wp_at_zero Go.wp_at_succ

/-- How thick a part truly is after so many hours. -/
def efTh (b : Nat → Int) (p : Nat) : Nat → Int
  | 0 => efN b p
  | h + 1 => efTh b p h + if (b 9 % 2 + (h : Int) / (1 + b 8 % 12)) % 2 = (p : Int) then efS b else efW b
theorem efTh_bd {b : Nat → Int} (hb : ∀ i, 0 ≤ b i ∧ b i ≤ 255) (p : Nat) : ∀ h : Nat, 5 ≤ efTh b p h ∧ efTh b p h ≤ 44 + 17 * (h : Int)
  | 0 => by have := hb (2 * p); simp only [efTh, efN]; omega
  | h + 1 => by
    have h4 := hb 4; have h5 := hb 5
    have := efTh_bd hb p h
    simp only [efTh]
    split <;> simp only [efS, efW] <;> omega
/-- Whether it truly is full and not harmed. -/
def efFit (b : Nat → Int) (h : Nat) : Bool := decide ((efFe b).full ≤ efTh b 0 h) && (decide (efTh b 0 h ≤ (efFe b).harm) && (decide ((efFe b).full ≤ efTh b 1 h) && decide (efTh b 1 h ≤ (efFe b).harm)))

end Go.Proofs.Ytgoncgbbgodliaa
