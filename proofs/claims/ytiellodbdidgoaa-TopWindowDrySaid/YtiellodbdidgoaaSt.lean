/- The sum of what an iterator yields. -/
import Derived.Test.YtiellodbdidgoaaSd
namespace Go.Proofs.Ytiellodbdidgoaa
open Go Go.RowKit Go.Shelf
end Go.Proofs.Ytiellodbdidgoaa
