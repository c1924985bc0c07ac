/- Check of package cloth. -/
import Derived.Test.YtfpbfhjfhfmanacWb
namespace Go.Proofs.Ytfpbfhjfhfmanac
open Go Go.RowKit

def check (T : List Tk) (M : List Ms) : Int :=
  if T.length = 3 ∧ T.all vTrack = true then (if 8 < M.length then 5 else if M.all vMeas = true then 0 else 2) else 4

end Go.Proofs.Ytfpbfhjfhfmanac
