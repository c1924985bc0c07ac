/- A felt made of bytes: ElmFelt.fit. -/
import Derived.Test.YtgoncgbbgodliaaKy
namespace Go.Proofs.Ytgoncgbbgodliaa
open Go Go.RowKit Go.Shelf
end Go.Proofs.Ytgoncgbbgodliaa
