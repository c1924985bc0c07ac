/- stretch.add of package cloth. -/
import Derived.Test.YtfpbfhjfhfmanacOpo
import Derived.RegionTactic
import Derived.ChangeAlike
namespace Go.Proofs.Ytfpbfhjfhfmanac
open Go Go.RowKit Go.Shelf

/-- A stretch: its ends, and how many numbers it has. -/
structure Str where
  (l h : Int) (n : Nat)
def Str.cells (s : Str) : Array Value := #[iv s.l, iv s.h, iv s.n]
def Str.add (s : Str) (x : Int) : Str := if s.n = 0 then ⟨x, x, 1⟩ else ⟨if x < s.l then x else s.l, if s.h < x then x else s.h, s.n + 1⟩

/-- Block b alone has become o. -/
structure PutB (b : Nat) (o : Obj) (w w' : World) : Prop where
  os : w'.os = w.os
  tape : w'.tape = w.tape
  output : w'.output = w.output
  size : w'.heap.size = w.heap.size
  this : w'.heap[b]? = some o
  other : ∀ k, k ≠ b → w'.heap[k]? = w.heap[k]?
theorem PutB.below {b : Nat} {o : Obj} {w w1 w2 : World} (h : PutB b o w1 w2) (hb : Below w.heap.size w w1) (hB : w.heap.size ≤ b) : Below w.heap.size w w2 :=
  hb.trans ⟨h.os, h.tape, h.output, by rw [h.size]; exact Nat.le_refl _, fun k hk => h.other k (by omega)⟩

theorem PutB.set {b : Nat} {cs : Array Value} {t : TypeId} {w w' : World} (h : PutB b (.cells cs t (0, 0)) w w') (o : Nat) (v : Value) : PutB b (.cells (cs.setIfInBounds o v) t (0, 0)) w (w'.setCell ⟨b, o, none⟩ v) :=
  ⟨h.os, h.tape, h.output, by simp [h.size], heap_setCell_same _ _ _ _ _ _ h.this, fun k hk => (heap_setCell_other _ _ _ _ hk).trans (h.other k hk)⟩
theorem PutB.refl {b : Nat} {o : Obj} {w : World} (h : w.heap[b]? = some o) : PutB b o w w := ⟨rfl, rfl, rfl, rfl, h, fun _ _ => rfl⟩
theorem PutB.drew {b : Nat} {o : Obj} {w w' : World} (h : PutB b o w w') : PutB b o w w'.drew := ⟨h.os, h.tape, h.output, h.size, h.this, h.other⟩

end Go.Proofs.Ytfpbfhjfhfmanac
