/- The sum of what an iterator yields. -/
import Derived.Test.YtfpbfhjfhfmanacSd
namespace Go.Proofs.Ytfpbfhjfhfmanac
open Go Go.RowKit Go.Shelf
end Go.Proofs.Ytfpbfhjfhfmanac
