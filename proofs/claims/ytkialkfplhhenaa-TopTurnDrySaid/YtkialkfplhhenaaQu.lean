/- Turns: how many stocks are needed. -/
import Derived.Test.YtkialkfplhhenaaQt
namespace Go.Proofs.Ytkialkfplhhenaa
open Go Go.RowKit Go.Shelf
end Go.Proofs.Ytkialkfplhhenaa
