/- TopEnoughWater: the walk. -/
import Derived.Test.YthkmklfmobenaaaQy
import Derived.Deep.RegionLaw
import Derived.Deep.CutBlock
import Derived.Deep.DeepCutAuto
namespace Go.Proofs.Ythkmklfmobenaaa
open Go Go.RowKit Go.Shelf
end Go.Proofs.Ythkmklfmobenaaa
