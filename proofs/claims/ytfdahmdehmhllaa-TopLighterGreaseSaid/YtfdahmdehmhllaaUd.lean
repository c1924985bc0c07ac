/- Values, Blows of package stream; copies of numbers. -/
import Derived.Test.YtfdahmdehmhllaaUc
namespace Go.Proofs.Ytfdahmdehmhllaa
open Go Go.RowKit Go.Shelf
end Go.Proofs.Ytfdahmdehmhllaa
