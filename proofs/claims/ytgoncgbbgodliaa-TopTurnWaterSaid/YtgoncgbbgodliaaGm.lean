/- A copy of a field. -/
import Derived.Test.YtgoncgbbgodliaaGl
import Derived.Deep.RegionLaw
import Derived.Deep.CutBlock
import Derived.Deep.DeepCutAuto
namespace Go.Proofs.Ytgoncgbbgodliaa
open Go Go.RowKit Go.Shelf
theorem infoIn : (Try.prog.info? 3).map (fun i => (i.zero, i.size, i.bytes)) = some (some (.int .i64 0), 1, 8) := by kernel_rfl
theorem encN_len (c : Tn) : (encN c).length = 4 := rfl
theorem encN_one (c : Tn) : ∀ u ∈ encN c, u.oneCell' = true := by simp [encN, Value.oneCell']
end Go.Proofs.Ytgoncgbbgodliaa
