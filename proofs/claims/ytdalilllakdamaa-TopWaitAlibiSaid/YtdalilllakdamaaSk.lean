/- A raw cloth and a stream made of bytes. -/
import Derived.Test.YtdalilllakdamaaSj
import Derived.Deep.RegionLaw
import Derived.RegionTactic
import Derived.Deep.DeepCutAuto
import Derived.Deep.CutBlock
namespace Go.Proofs.Ytdalilllakdamaa
open Go Go.RowKit Go.Shelf
attribute [local go_sem ↓] Go.wp_at_zero Go.wp_at_succ

abbrev u8 (n : Int) : Value := .int .u8 n
def fyT (b : Nat → Int) (i : Nat) : Tk := ⟨100 + b (4 * i), 100 + b (4 * i) + 2 * (b (4 * i + 1) % 20), b (4 * i + 2) % 70, b (4 * i + 2) % 70 + b (4 * i + 3) % 20⟩
def fyCells (b : Nat → Int) : Array Value := #[u8 (b 0), u8 (b 1), u8 (b 2), u8 (b 3), u8 (b 4), u8 (b 5), u8 (b 6), u8 (b 7), u8 (b 8), u8 (b 9), u8 (b 10), u8 (b 11)]

theorem bstep2 {B : Nat} {w W W1 : World} (h : Below (B + 2) w W) (hs : B + 3 ≤ W.heap.size) (hb : Below W.heap.size W W1) : Below (B + 2) w W1 := h.trans (hb.mono (by omega))
theorem bstep3 {B : Nat} {w W : World} (h : Below (B + 2) w W) (hs : B + 3 ≤ W.heap.size) (o : Obj) : Below (B + 2) w (W.alloc o) := bstep2 h hs (bpush (Below.refl _ _) o)
theorem bblk {W W1 : World} {k : Nat} {o : Obj} (hb : Below W.heap.size W W1) (h : W.heap[k]? = some o) : W1.heap[k]? = some o := (hb.block k (Array.getElem?_eq_some_iff.1 h).1).trans h
theorem heap_setA {W : World} {b : Nat} {x y u : Value} {t : TypeId} (h : W.heap[b]? = some (.cells #[x, y] t (0, 0))) : (W.setCell ⟨b, 0, none⟩ u).heap[b]? = some (.cells #[u, y] t (0, 0)) := by
  have h1 := heap_setCell_same W b 0 #[x, y] t u h
  simpa using h1
theorem grown_setA (W : World) (b : Nat) (u : Value) : W.grownBy (W.setCell ⟨b, 0, none⟩ u) (some b) :=
  ⟨rfl, rfl, rfl, by simp [World.setCell], fun k hk hne => Below.heap_setCell _ _ _ _ (fun e => hne (by rw [e]))⟩

end Go.Proofs.Ytdalilllakdamaa
