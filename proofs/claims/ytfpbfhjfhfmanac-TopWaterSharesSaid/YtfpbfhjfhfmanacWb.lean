/- The checks of package cloth: validMeasure, all, Check. -/
import Derived.Test.YtfpbfhjfhfmanacWa
namespace Go.Proofs.Ytfpbfhjfhfmanac
open Go Go.RowKit

/-- A span. -/
abbrev Sp := Int × Int
def encS (p : Sp) : List Value := [iv p.1, iv p.2]
def vSizeP (p : Sp) : Bool := vSize p.1 p.2
def vRateP (p : Sp) : Bool := vRate p.1 p.2
end Go.Proofs.Ytfpbfhjfhfmanac
