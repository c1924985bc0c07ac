/- Turns: how many stocks are needed. -/
import Derived.Test.YtdalilllakdamaaQt
namespace Go.Proofs.Ytdalilllakdamaa
open Go Go.RowKit Go.Shelf
end Go.Proofs.Ytdalilllakdamaa
