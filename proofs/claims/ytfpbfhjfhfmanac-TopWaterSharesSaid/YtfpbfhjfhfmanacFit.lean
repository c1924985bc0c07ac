/- truth.fits of package cloth. -/
import Derived.Test.YtfpbfhjfhfmanacTru
import Derived.Deep.RegionHeld3
import Derived.IntWalk
namespace Go.Proofs.Ytfpbfhjfhfmanac
open Go Go.RowKit

def fitsM (x r : Int) (m : Ms) : Bool := inB (-m.off) m.off (aft x r m.hour.toNat - m.reading)

end Go.Proofs.Ytfpbfhjfhfmanac
