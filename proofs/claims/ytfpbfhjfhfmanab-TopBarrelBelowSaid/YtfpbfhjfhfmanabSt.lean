/- The sum of what an iterator yields. -/
import Derived.Test.YtfpbfhjfhfmanabSd
namespace Go.Proofs.Ytfpbfhjfhfmanab
open Go Go.RowKit Go.Shelf
end Go.Proofs.Ytfpbfhjfhfmanab
