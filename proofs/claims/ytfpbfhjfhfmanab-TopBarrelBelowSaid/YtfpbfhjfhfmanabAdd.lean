/- stretch.add of package cloth. -/
import Derived.Test.YtfpbfhjfhfmanabOpo
import Derived.RegionTactic
import Derived.ChangeAlike
namespace Go.Proofs.Ytfpbfhjfhfmanab
open Go Go.RowKit Go.Shelf

/-- A stretch: its ends, and how many numbers it has. -/
structure Str where
  (l h : Int) (n : Nat)
def Str.cells (s : Str) : Array Value := #[iv s.l, iv s.h, iv s.n]
def Str.add (s : Str) (x : Int) : Str := if s.n = 0 then ⟨x, x, 1⟩ else ⟨if x < s.l then x else s.l, if s.h < x then x else s.h, s.n + 1⟩

/-- Block b alone has become o. -/
structure PutB (b : Nat) (o : Obj) (w w' : World) : Prop where
  os : w'.os = w.os
  tape : w'.tape = w.tape
  output : w'.output = w.output
  size : w'.heap.size = w.heap.size
  this : w'.heap[b]? = some o
  other : ∀ k, k ≠ b → w'.heap[k]? = w.heap[k]?
theorem PutB.below {b : Nat} {o : Obj} {w w1 w2 : World} (h : PutB b o w1 w2) (hb : Below w.heap.size w w1) (hB : w.heap.size ≤ b) : Below w.heap.size w w2 :=
  hb.trans ⟨h.os, h.tape, h.output, by rw [h.size]; exact Nat.le_refl _, fun k hk => h.other k (by omega)⟩

theorem PutB.set {b : Nat} {cs : Array Value} {t : TypeId} {w w' : World} (h : PutB b (.cells cs t (0, 0)) w w') (o : Nat) (v : Value) : PutB b (.cells (cs.setIfInBounds o v) t (0, 0)) w (w'.setCell ⟨b, o, none⟩ v) :=
  ⟨h.os, h.tape, h.output, by simp [h.size], heap_setCell_same _ _ _ _ _ _ h.this, fun k hk => (heap_setCell_other _ _ _ _ hk).trans (h.other k hk)⟩
theorem PutB.refl {b : Nat} {o : Obj} {w : World} (h : w.heap[b]? = some o) : PutB b o w w := ⟨rfl, rfl, rfl, rfl, h, fun _ _ => rfl⟩
theorem PutB.drew {b : Nat} {o : Obj} {w w' : World} (h : PutB b o w w') : PutB b o w w'.drew := ⟨h.os, h.tape, h.output, h.size, h.this, h.other⟩

set_option maxRecDepth 20000 in
set_option maxHeartbeats 3200000 in
theorem add_any (s : Str) (x : Int) (b : Nat) (w : World) (hb : w.heap[b]? = some (.cells s.cells 66 (0, 0))) (hn : s.n ≤ 1000000) :
    Calls Try.prog 29 #[.pointer (some ⟨b, 0, none⟩), iv x] w fun e w' => e = .returned (.tuple #[]) ∧ PutB b (.cells (s.add x).cells 66 (0, 0)) w w' := by
  obtain ⟨l, h, n⟩ := s
  have c0 : w.cell? ⟨b, 0, none⟩ = some (iv l) := by rw [cell_of_row _ _ _ _ _ _ hb]; rfl
  have c1 : w.cell? ⟨b, 1, none⟩ = some (iv h) := by rw [cell_of_row _ _ _ _ _ _ hb]; rfl
  have c2 : w.cell? ⟨b, 2, none⟩ = some (iv n) := by rw [cell_of_row _ _ _ _ _ _ hb]; rfl
  have f0 : w.frozen? ⟨b, 0, none⟩ = false := frozen_of_row _ _ _ _ _ hb
  have f1 : w.frozen? ⟨b, 1, none⟩ = false := frozen_of_row _ _ _ _ _ hb
  have f2 : w.frozen? ⟨b, 2, none⟩ = false := frozen_of_row _ _ _ _ _ hb
  have HB := Lib.hid (PutB.refl hb); clear hb
  dsimp only at hn
  by_cases h0 : n = 0
  · subst h0
    go_enter Try.func29, Try.ntmps29
    go_wp2_with fail
    have HP := Lib.hid ((HB.out.set 0 (iv x)).set 1 (iv x))
    generalize ((w.setCell ⟨b, 0, none⟩ (.int .i64 x)).setCell ⟨b, 1, none⟩ (.int .i64 x)) = W at *
    clear c0 c1 c2 f0 f1 f2
    have c0 : W.cell? ⟨b, 0, none⟩ = some (iv x) := by rw [cell_of_row _ _ _ _ _ _ HP.out.this]; rfl
    have c1 : W.cell? ⟨b, 1, none⟩ = some (iv x) := by rw [cell_of_row _ _ _ _ _ _ HP.out.this]; rfl
    have c2 : W.cell? ⟨b, 2, none⟩ = some (iv 0) := by rw [cell_of_row _ _ _ _ _ _ HP.out.this]; rfl
    have f0 : W.frozen? ⟨b, 0, none⟩ = false := frozen_of_row _ _ _ _ _ HP.out.this
    have f1 : W.frozen? ⟨b, 1, none⟩ = false := frozen_of_row _ _ _ _ _ HP.out.this
    have f2 : W.frozen? ⟨b, 2, none⟩ = false := frozen_of_row _ _ _ _ _ HP.out.this
    go_region
    go_wp2_with fail
    go_end0
    exact ⟨rfl, (((HP.out.set 0 (iv x)).set 1 (iv x)).set 2 (iv 1)).drew⟩
  · have e0 : ((n : Int) == 0) = false := by simp [h0]
    go_enter Try.func29, Try.ntmps29
    go_wp2_with fail
    go_region
    have HA : Hid (({ l := l, h := h, n := n } : Str).add x = ⟨if x < l then x else l, if h < x then x else h, n + 1⟩) := by simp [Hid, Str.add, h0]
    generalize (if x < l then x else l) = m1 at *
    generalize (if h < x then x else h) = m2 at *
    go_wp2_with fail
    go_end0
    refine ⟨rfl, ?_⟩
    rw [HA.out]
    exact (((HB.out.set 0 (iv m1)).set 1 (iv m2)).set 2 (iv ((n : Int) + 1))).drew
end Go.Proofs.Ytfpbfhjfhfmanab
