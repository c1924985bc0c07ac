/- Window of package stream at valid arguments. -/
import Derived.Test.YtdalilllakdamaaMb
namespace Go.Proofs.Ytdalilllakdamaa
open Go Go.RowKit Go.Shelf
attribute [local go_sem ↓] Go.wp_at_zero Go.wp_at_succ

/-- Whether hammers surely go for so many hours from an hour on. -/
def winB (m : Ml) (F : List Sp) (k hours : Int) (fr : Nat) : Bool := decide (hours ≤ ((lvOf Prod.fst m F (stdy F.length k fr)).length : Int) - fr)
/-- The first such hour. -/
def winO (m : Ml) (F : List Sp) (k hours : Int) : Option Nat := (List.range F.length).find? (winB m F k hours)
def winV : Option Nat → Value
  | some fr => .tuple #[iv fr, iv 0]
  | none => .tuple #[iv 0, iv 7]
theorem winO_some {m : Ml} {F : List Sp} {k hours : Int} {j : Nat} (h : ∀ q, q < j → winB m F k hours q = false) (hj : j < F.length) (h1 : winB m F k hours j = true) : winO m F k hours = some j := by
  unfold winO; rw [List.find?_range_eq_some]; exact ⟨h1, List.mem_range.2 hj, fun q hq => by simp [h q hq]⟩
theorem winO_none {m : Ml} {F : List Sp} {k hours : Int} (h : ∀ q, q < F.length → winB m F k hours q = false) : winO m F k hours = none := by
  unfold winO; rw [List.find?_range_eq_none]; exact fun q hq => by simp [h q hq]

end Go.Proofs.Ytdalilllakdamaa
