/- Slices that read as lists; what of memory stays: plain lemmas about worlds. -/
import Derived.Test.YtfpbfhjfhfmanabLog
namespace Go.Proofs.Ytfpbfhjfhfmanab
open Go Go.RowKit

abbrev iv (n : Int) : Value := .int .i64 n

/-- The slice v reads as the list xs, each element of sz cells. -/
def SliceOf {α : Type} (enc : α → List Value) (sz : Nat) (w : World) (v : Value) (xs : List α) : Prop :=
  ∃ a cap, v = .slice a xs.length cap ∧ xs.length ≤ 140737488355328 ∧
    ∀ i x, xs[i]? = some x → ∃ b off, a = some ⟨b, off, none⟩ ∧ ∀ j u, (enc x)[j]? = some u → w.cell? ⟨b, off + i * sz + j, none⟩ = some u

theorem lt_of_cell {w : World} {b o : Nat} {v : Value} (h : w.cell? ⟨b, o, none⟩ = some v) : b < w.heap.size := World.block_lt_of_cell? w _ h

/-- What the walk wants behind a call that has only made memory. -/
theorem bcell {W w1 : World} (hb : Below W.heap.size W w1) : (∀ b o, b < W.heap.size → w1.cell? ⟨b, o, none⟩ = W.cell? ⟨b, o, none⟩) ∧ (∀ b o, b < W.heap.size → w1.frozen? ⟨b, o, none⟩ = W.frozen? ⟨b, o, none⟩) :=
  ⟨fun b o h => hb.cell (p := ⟨b, o, none⟩) h, fun b o h => hb.frozen (p := ⟨b, o, none⟩) h⟩

theorem bpush {w w1 : World} (h : Below w.heap.size w w1) (o : Obj) : Below w.heap.size w (w1.alloc o) := h.alloc h.size o
theorem bput {w w1 : World} (h : Below w.heap.size w w1) {p : Addr} (hp : w.heap.size ≤ p.block) (v : Value) : Below w.heap.size w (w1.setCell p v) := h.setCell hp v
theorem bstep {w w1 w2 : World} (h : Below w.heap.size w w1) (k : Below w1.heap.size w1 w2) : Below w.heap.size w w2 := h.trans (k.mono h.size)

theorem SliceOf.below {α : Type} {enc : α → List Value} {sz : Nat} {w w' : World} {v : Value} {xs : List α} (h : SliceOf enc sz w v xs) (hb : Below w.heap.size w w') : SliceOf enc sz w' v xs := by
  obtain ⟨a, cap, rfl, hl, hc⟩ := h
  refine ⟨a, cap, rfl, hl, fun i x hx => ?_⟩
  obtain ⟨b, off, ha, hj⟩ := hc i x hx
  exact ⟨b, off, ha, fun j u hu => (hb.cell (p := ⟨b, _, none⟩) (lt_of_cell (hj j u hu))).trans (hj j u hu)⟩

theorem SliceOf.cellsEq {α : Type} {enc : α → List Value} {sz : Nat} {w w' : World} {v : Value} {xs : List α} (h : SliceOf enc sz w v xs) (hb : ∀ a u, w.cell? a = some u → w'.cell? a = some u) : SliceOf enc sz w' v xs := by
  obtain ⟨a, cap, rfl, hl, hc⟩ := h
  refine ⟨a, cap, rfl, hl, fun i x hx => ?_⟩
  obtain ⟨b, off, ha, hj⟩ := hc i x hx
  exact ⟨b, off, ha, fun j u hu => hb _ _ (hj j u hu)⟩

theorem SliceOf.len {α : Type} {enc : α → List Value} {sz : Nat} {w : World} {v : Value} {xs : List α} (h : SliceOf enc sz w v xs) : xs.length ≤ 140737488355328 := by
  obtain ⟨a, cap, rfl, hl, hc⟩ := h; exact hl

theorem SliceOf.nil {α : Type} (enc : α → List Value) (sz : Nat) (w : World) (a : Option Addr) (cap : Nat) : SliceOf enc sz w (.slice a 0 cap) [] :=
  ⟨a, cap, rfl, by simp, by simp⟩

def encI (n : Int) : List Value := [iv n]
abbrev Ints := SliceOf encI 1

theorem ints1 {w : World} {b off cap : Nat} {x : Int} (h : w.cell? ⟨b, off, none⟩ = some (iv x)) : Ints w (.slice (some ⟨b, off, none⟩) 1 cap) [x] := by
  refine ⟨_, cap, rfl, by simp, fun i y hy => ⟨b, off, rfl, fun j u hu => ?_⟩⟩
  rcases i with _ | i
  · simp at hy; subst hy
    rcases j with _ | j
    · simp [encI] at hu; subst hu; simpa using h
    · simp [encI] at hu
  · simp at hy
theorem ints2 {w : World} {b off cap : Nat} {x y : Int} (h : w.cell? ⟨b, off, none⟩ = some (iv x)) (h' : w.cell? ⟨b, off + 1, none⟩ = some (iv y)) : Ints w (.slice (some ⟨b, off, none⟩) 2 cap) [x, y] := by
  refine ⟨_, cap, rfl, by simp, fun i z hz => ⟨b, off, rfl, fun j u hu => ?_⟩⟩
  rcases j with _ | j
  · simp [encI] at hu; subst hu
    rcases i with _ | _ | i
    · simp at hz; subst hz; simpa using h
    · simp at hz; subst hz; simpa using h'
    · simp at hz
  · simp [encI] at hu

/-- The numbers between two others, all of them. -/
def inB (lo hi x : Int) : Bool := decide (lo ≤ x) && decide (x ≤ hi)
theorem inB_iff {lo hi x : Int} : inB lo hi x = true ↔ lo ≤ x ∧ x ≤ hi := by simp [inB]

theorem all_take_succ {α : Type} (p : α → Bool) {xs : List α} {k : Nat} {x : α} (hx : xs[k]? = some x) (h : (xs.take k).all p = true) (hp : p x = true) : (xs.take (k + 1)).all p = true := by
  rw [List.take_add_one, hx]; simp [List.all_append]; exact ⟨by simpa using h, hp⟩
theorem all_false_of {α : Type} (p : α → Bool) {xs : List α} {k : Nat} {x : α} (hx : xs[k]? = some x) (hp : p x = false) : xs.all p = false := by
  rw [List.all_eq_false]; exact ⟨x, List.mem_of_getElem? hx, by simp [hp]⟩
theorem getElem?_of_lt {α : Type} {xs : List α} {k : Nat} (h : k < xs.length) : ∃ x, xs[k]? = some x := ⟨xs[k], by simp [h]⟩
end Go.Proofs.Ytfpbfhjfhfmanab
