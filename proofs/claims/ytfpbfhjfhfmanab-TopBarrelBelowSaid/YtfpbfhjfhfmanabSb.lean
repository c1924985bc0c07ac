/- How a pond fills, and what hammers leave. -/
import Derived.Test.YtfpbfhjfhfmanabSa
import Derived.Deep.RegionHeld3
import Derived.Deep.DrawnRows
namespace Go.Proofs.Ytfpbfhjfhfmanab
open Go Go.RowKit
attribute [local go_sem ↓] Go.wp_at_zero Go.wp_at_succ

def fillL (H l f : Int) : Int := if H < l + f then H else l + f
def leftL (T H l f k : Int) : Int := fillL H l f - k * T

theorem kcell {W W1 : World} {b o : Nat} {v : Value} (hb : Below W.heap.size W W1) (h : W.cell? ⟨b, o, none⟩ = some v) : W1.cell? ⟨b, o, none⟩ = some v := (hb.cell (p := ⟨b, o, none⟩) (lt_of_cell h)).trans h

end Go.Proofs.Ytfpbfhjfhfmanab
