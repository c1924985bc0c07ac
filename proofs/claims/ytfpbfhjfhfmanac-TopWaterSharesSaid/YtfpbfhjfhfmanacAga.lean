/- quantity.against of package cloth. -/
import Derived.Test.YtfpbfhjfhfmanacFit
import Derived.Test.YtfpbfhjfhfmanacOwn
namespace Go.Proofs.Ytfpbfhjfhfmanac
open Go Go.RowKit

/-- Measuring number k is of this quantity, and wrong if x and r are true. -/
def bad (what : Int) (M : List Ms) (x r : Int) (k : Nat) : Bool :=
  match M[k]? with
  | some m => (m.what == what) && !fitsM x r m
  | none => false
def agTo (what : Int) (M : List Ms) (x r : Int) : Nat → List Int
  | 0 => []
  | k + 1 => agTo what M x r k ++ if bad what M x r k then [(k : Int)] else []
def ag (what : Int) (M : List Ms) (x r : Int) : List Int := agTo what M x r M.length
theorem agTo_len (what : Int) (M : List Ms) (x r : Int) (k : Nat) : (agTo what M x r k).length ≤ k := by
  induction k with
  | zero => simp [agTo]
  | succ k ih => simp only [agTo, List.length_append]; split <;> simp <;> omega

theorem bpush2 {w W wr : World} (h : Below (w.heap.size + 2) W wr) (hz : w.heap.size + 1 < wr.heap.size) (o : Obj) : Below (w.heap.size + 2) W (wr.alloc o) := h.alloc hz o
/-- The cells of a quantity. -/
def qcells (t : Tk) (what : Int) (mv : Value) : Array Value := #[iv t.fl, iv t.fh, iv t.rl, iv t.rh, iv what, mv]

end Go.Proofs.Ytfpbfhjfhfmanac
