/- The weather made of bytes. -/
import Derived.Test.YtdhkgpfcanekkaaMe
import Derived.Test.YtdhkgpfcanekkaaSl
namespace Go.Proofs.Ytdhkgpfcanekkaa
open Go Go.RowKit Go.Shelf
attribute [local go_sem ↓] Go.wp_at_zero Go.wp_at_succ

def skN (V : List (Int × Int)) : Nat := if V.length = 0 then 1 else min V.length 16
def skSp (V : List (Int × Int)) (i : Nat) : Sp := ((V.getD i (15, 5)).1 % 40, (V.getD i (15, 5)).1 % 40 + (V.getD i (15, 5)).2 % 30)
def skL (V : List (Int × Int)) (k : Nat) : List Sp := (List.range k).map (skSp V)
end Go.Proofs.Ytdhkgpfcanekkaa
