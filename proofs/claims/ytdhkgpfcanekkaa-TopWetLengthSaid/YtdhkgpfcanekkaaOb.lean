/- Stretched of package tenter, at valid fields. -/
import Derived.Test.YtdhkgpfcanekkaaMe
import Derived.Test.YtdhkgpfcanekkaaSj
import Derived.Deep.RegionHeld3
import Derived.Deep.CutBlock
import Derived.Deep.DeepCutAuto
namespace Go.Proofs.Ytdhkgpfcanekkaa
open Go Go.RowKit Go.Shelf
attribute [local go_sem] Oper.semAt_some
attribute [local go_sem ↓] Go.wp_at_zero Go.wp_at_succ

theorem ssKeep {W X Y : World} {fb cb o : Nat} {f0 f1 f2 f3 x0 x1 : Value} (hf : fb < W.heap.size) (hc : cb < W.heap.size) (he : ∀ b, b < W.heap.size → Y.heap[b]? = X.heap[b]?) (hB : Below W.heap.size W Y) (h : X.cell? ⟨fb, 0, none⟩ = some f0 ∧ X.cell? ⟨fb, 1, none⟩ = some f1 ∧ X.cell? ⟨fb, 2, none⟩ = some f2 ∧ X.cell? ⟨fb, 3, none⟩ = some f3 ∧ X.cell? ⟨cb, o, none⟩ = some x0 ∧ X.cell? ⟨cb, o + 1, none⟩ = some x1 ∧ Below W.heap.size W X) : Y.cell? ⟨fb, 0, none⟩ = some f0 ∧ Y.cell? ⟨fb, 1, none⟩ = some f1 ∧ Y.cell? ⟨fb, 2, none⟩ = some f2 ∧ Y.cell? ⟨fb, 3, none⟩ = some f3 ∧ Y.cell? ⟨cb, o, none⟩ = some x0 ∧ Y.cell? ⟨cb, o + 1, none⟩ = some x1 ∧ Below W.heap.size W Y := by
  obtain ⟨h0, h1, h2, h3, h4, h5, -⟩ := h
  have e : ∀ b i, b < W.heap.size → Y.cell? ⟨b, i, none⟩ = X.cell? ⟨b, i, none⟩ := fun b i hb => World.cell?_of_block (he b hb)
  exact ⟨(e _ _ hf).trans h0, (e _ _ hf).trans h1, (e _ _ hf).trans h2, (e _ _ hf).trans h3, (e _ _ hc).trans h4, (e _ _ hc).trans h5, hB⟩
theorem ssSet {W X : World} {fb cb o g i : Nat} {f0 f1 f2 f3 x0 x1 v : Value} (hf : fb < W.heap.size) (hc : cb < W.heap.size) (hg : W.heap.size ≤ g) (h : X.cell? ⟨fb, 0, none⟩ = some f0 ∧ X.cell? ⟨fb, 1, none⟩ = some f1 ∧ X.cell? ⟨fb, 2, none⟩ = some f2 ∧ X.cell? ⟨fb, 3, none⟩ = some f3 ∧ X.cell? ⟨cb, o, none⟩ = some x0 ∧ X.cell? ⟨cb, o + 1, none⟩ = some x1 ∧ Below W.heap.size W X) : (X.setCell ⟨g, i, none⟩ v).cell? ⟨fb, 0, none⟩ = some f0 ∧ (X.setCell ⟨g, i, none⟩ v).cell? ⟨fb, 1, none⟩ = some f1 ∧ (X.setCell ⟨g, i, none⟩ v).cell? ⟨fb, 2, none⟩ = some f2 ∧ (X.setCell ⟨g, i, none⟩ v).cell? ⟨fb, 3, none⟩ = some f3 ∧ (X.setCell ⟨g, i, none⟩ v).cell? ⟨cb, o, none⟩ = some x0 ∧ (X.setCell ⟨g, i, none⟩ v).cell? ⟨cb, o + 1, none⟩ = some x1 ∧ Below W.heap.size W (X.setCell ⟨g, i, none⟩ v) :=
  ssKeep hf hc (fun b hb => Below.heap_setCell _ _ _ _ (by show b ≠ g; omega)) (bput (p := ⟨g, i, none⟩) h.2.2.2.2.2.2 hg v) h
theorem ssPush {W X : World} {fb cb o : Nat} {f0 f1 f2 f3 x0 x1 : Value} {ob : Obj} (hf : fb < W.heap.size) (hc : cb < W.heap.size) (h : X.cell? ⟨fb, 0, none⟩ = some f0 ∧ X.cell? ⟨fb, 1, none⟩ = some f1 ∧ X.cell? ⟨fb, 2, none⟩ = some f2 ∧ X.cell? ⟨fb, 3, none⟩ = some f3 ∧ X.cell? ⟨cb, o, none⟩ = some x0 ∧ X.cell? ⟨cb, o + 1, none⟩ = some x1 ∧ Below W.heap.size W X) : (X.alloc ob).cell? ⟨fb, 0, none⟩ = some f0 ∧ (X.alloc ob).cell? ⟨fb, 1, none⟩ = some f1 ∧ (X.alloc ob).cell? ⟨fb, 2, none⟩ = some f2 ∧ (X.alloc ob).cell? ⟨fb, 3, none⟩ = some f3 ∧ (X.alloc ob).cell? ⟨cb, o, none⟩ = some x0 ∧ (X.alloc ob).cell? ⟨cb, o + 1, none⟩ = some x1 ∧ Below W.heap.size W (X.alloc ob) :=
  ssKeep hf hc (fun b hb => Below.heap_alloc _ _ _ (by have := h.2.2.2.2.2.2.size; omega)) (bpush h.2.2.2.2.2.2 _) h
theorem ssCall {W X Y : World} {fb cb o : Nat} {f0 f1 f2 f3 x0 x1 : Value} (hf : fb < W.heap.size) (hc : cb < W.heap.size) (hb : Below X.heap.size X Y) (h : X.cell? ⟨fb, 0, none⟩ = some f0 ∧ X.cell? ⟨fb, 1, none⟩ = some f1 ∧ X.cell? ⟨fb, 2, none⟩ = some f2 ∧ X.cell? ⟨fb, 3, none⟩ = some f3 ∧ X.cell? ⟨cb, o, none⟩ = some x0 ∧ X.cell? ⟨cb, o + 1, none⟩ = some x1 ∧ Below W.heap.size W X) : Y.cell? ⟨fb, 0, none⟩ = some f0 ∧ Y.cell? ⟨fb, 1, none⟩ = some f1 ∧ Y.cell? ⟨fb, 2, none⟩ = some f2 ∧ Y.cell? ⟨fb, 3, none⟩ = some f3 ∧ Y.cell? ⟨cb, o, none⟩ = some x0 ∧ Y.cell? ⟨cb, o + 1, none⟩ = some x1 ∧ Below W.heap.size W Y :=
  ssKeep hf hc (fun b hb2 => hb.block b (by have := h.2.2.2.2.2.2.size; omega)) (bstep h.2.2.2.2.2.2 hb) h
theorem ssDrew {W X : World} {fb cb o : Nat} {f0 f1 f2 f3 x0 x1 : Value} (h : X.cell? ⟨fb, 0, none⟩ = some f0 ∧ X.cell? ⟨fb, 1, none⟩ = some f1 ∧ X.cell? ⟨fb, 2, none⟩ = some f2 ∧ X.cell? ⟨fb, 3, none⟩ = some f3 ∧ X.cell? ⟨cb, o, none⟩ = some x0 ∧ X.cell? ⟨cb, o + 1, none⟩ = some x1 ∧ Below W.heap.size W X) : (X.drew).cell? ⟨fb, 0, none⟩ = some f0 ∧ (X.drew).cell? ⟨fb, 1, none⟩ = some f1 ∧ (X.drew).cell? ⟨fb, 2, none⟩ = some f2 ∧ (X.drew).cell? ⟨fb, 3, none⟩ = some f3 ∧ (X.drew).cell? ⟨cb, o, none⟩ = some x0 ∧ (X.drew).cell? ⟨cb, o + 1, none⟩ = some x1 ∧ Below W.heap.size W (X.drew) := ⟨h.1, h.2.1, h.2.2.1, h.2.2.2.1, h.2.2.2.2.1, h.2.2.2.2.2.1, h.2.2.2.2.2.2.drew⟩
theorem syKeep {W X Y : World} {gy go : Nat} {y0 y1 y2 y3 y4 o0 o1 : Value} (hf : gy < W.heap.size) (hc : go < W.heap.size) (he : ∀ b, b < W.heap.size → Y.heap[b]? = X.heap[b]?) (hB : Below W.heap.size W Y) (h : X.cell? ⟨gy, 0, none⟩ = some y0 ∧ X.cell? ⟨gy, 1, none⟩ = some y1 ∧ X.cell? ⟨gy, 2, none⟩ = some y2 ∧ X.cell? ⟨gy, 3, none⟩ = some y3 ∧ X.cell? ⟨gy, 4, none⟩ = some y4 ∧ X.cell? ⟨go, 0, none⟩ = some o0 ∧ X.cell? ⟨go, 1, none⟩ = some o1 ∧ Below W.heap.size W X) : Y.cell? ⟨gy, 0, none⟩ = some y0 ∧ Y.cell? ⟨gy, 1, none⟩ = some y1 ∧ Y.cell? ⟨gy, 2, none⟩ = some y2 ∧ Y.cell? ⟨gy, 3, none⟩ = some y3 ∧ Y.cell? ⟨gy, 4, none⟩ = some y4 ∧ Y.cell? ⟨go, 0, none⟩ = some o0 ∧ Y.cell? ⟨go, 1, none⟩ = some o1 ∧ Below W.heap.size W Y := by
  obtain ⟨h0, h1, h2, h3, h4, h5, h6, -⟩ := h
  have e : ∀ b i, b < W.heap.size → Y.cell? ⟨b, i, none⟩ = X.cell? ⟨b, i, none⟩ := fun b i hb => World.cell?_of_block (he b hb)
  exact ⟨(e _ _ hf).trans h0, (e _ _ hf).trans h1, (e _ _ hf).trans h2, (e _ _ hf).trans h3, (e _ _ hf).trans h4, (e _ _ hc).trans h5, (e _ _ hc).trans h6, hB⟩
theorem syPush {W X : World} {gy go : Nat} {y0 y1 y2 y3 y4 o0 o1 : Value} {ob : Obj} (hf : gy < W.heap.size) (hc : go < W.heap.size) (h : X.cell? ⟨gy, 0, none⟩ = some y0 ∧ X.cell? ⟨gy, 1, none⟩ = some y1 ∧ X.cell? ⟨gy, 2, none⟩ = some y2 ∧ X.cell? ⟨gy, 3, none⟩ = some y3 ∧ X.cell? ⟨gy, 4, none⟩ = some y4 ∧ X.cell? ⟨go, 0, none⟩ = some o0 ∧ X.cell? ⟨go, 1, none⟩ = some o1 ∧ Below W.heap.size W X) : (X.alloc ob).cell? ⟨gy, 0, none⟩ = some y0 ∧ (X.alloc ob).cell? ⟨gy, 1, none⟩ = some y1 ∧ (X.alloc ob).cell? ⟨gy, 2, none⟩ = some y2 ∧ (X.alloc ob).cell? ⟨gy, 3, none⟩ = some y3 ∧ (X.alloc ob).cell? ⟨gy, 4, none⟩ = some y4 ∧ (X.alloc ob).cell? ⟨go, 0, none⟩ = some o0 ∧ (X.alloc ob).cell? ⟨go, 1, none⟩ = some o1 ∧ Below W.heap.size W (X.alloc ob) :=
  syKeep hf hc (fun b hb => Below.heap_alloc _ _ _ (by have := h.2.2.2.2.2.2.2.size; omega)) (bpush h.2.2.2.2.2.2.2 _) h
theorem syCall {W X Y : World} {gy go : Nat} {y0 y1 y2 y3 y4 o0 o1 : Value} (hf : gy < W.heap.size) (hc : go < W.heap.size) (hb : Below X.heap.size X Y) (h : X.cell? ⟨gy, 0, none⟩ = some y0 ∧ X.cell? ⟨gy, 1, none⟩ = some y1 ∧ X.cell? ⟨gy, 2, none⟩ = some y2 ∧ X.cell? ⟨gy, 3, none⟩ = some y3 ∧ X.cell? ⟨gy, 4, none⟩ = some y4 ∧ X.cell? ⟨go, 0, none⟩ = some o0 ∧ X.cell? ⟨go, 1, none⟩ = some o1 ∧ Below W.heap.size W X) : Y.cell? ⟨gy, 0, none⟩ = some y0 ∧ Y.cell? ⟨gy, 1, none⟩ = some y1 ∧ Y.cell? ⟨gy, 2, none⟩ = some y2 ∧ Y.cell? ⟨gy, 3, none⟩ = some y3 ∧ Y.cell? ⟨gy, 4, none⟩ = some y4 ∧ Y.cell? ⟨go, 0, none⟩ = some o0 ∧ Y.cell? ⟨go, 1, none⟩ = some o1 ∧ Below W.heap.size W Y :=
  syKeep hf hc (fun b hb2 => hb.block b (by have := h.2.2.2.2.2.2.2.size; omega)) (bstep h.2.2.2.2.2.2.2 hb) h
theorem syDrew {W X : World} {gy go : Nat} {y0 y1 y2 y3 y4 o0 o1 : Value} (h : X.cell? ⟨gy, 0, none⟩ = some y0 ∧ X.cell? ⟨gy, 1, none⟩ = some y1 ∧ X.cell? ⟨gy, 2, none⟩ = some y2 ∧ X.cell? ⟨gy, 3, none⟩ = some y3 ∧ X.cell? ⟨gy, 4, none⟩ = some y4 ∧ X.cell? ⟨go, 0, none⟩ = some o0 ∧ X.cell? ⟨go, 1, none⟩ = some o1 ∧ Below W.heap.size W X) : (X.drew).cell? ⟨gy, 0, none⟩ = some y0 ∧ (X.drew).cell? ⟨gy, 1, none⟩ = some y1 ∧ (X.drew).cell? ⟨gy, 2, none⟩ = some y2 ∧ (X.drew).cell? ⟨gy, 3, none⟩ = some y3 ∧ (X.drew).cell? ⟨gy, 4, none⟩ = some y4 ∧ (X.drew).cell? ⟨go, 0, none⟩ = some o0 ∧ (X.drew).cell? ⟨go, 1, none⟩ = some o1 ∧ Below W.heap.size W (X.drew) := ⟨h.1, h.2.1, h.2.2.1, h.2.2.2.1, h.2.2.2.2.1, h.2.2.2.2.2.1, h.2.2.2.2.2.2.1, h.2.2.2.2.2.2.2.drew⟩
theorem krowN' {W W1 : World} {g : Nat} {o : Obj} (hb : Below W.heap.size W W1) (h : W.heap[g]? = some o) : W1.heap[g]? = some o := (hb.block g (Array.getElem?_eq_some_iff.1 h).1).trans h
/-- What the stores ask of a yard that was laid before the call. -/
theorem yardK {W : World} {g : Nat} (h : W.heap[g]? = some (.cells #[.slice none 0 0, .slice none 0 0, .int .i64 0, .int .i64 0, .slice none 0 0] 73 (0, 0))) :
    (W.cell? ⟨g, 0, none⟩ = some (.slice none 0 0) ∧ W.cell? ⟨g, 1, none⟩ = some (.slice none 0 0) ∧ W.cell? ⟨g, 2, none⟩ = some (.int .i64 0) ∧ W.cell? ⟨g, 3, none⟩ = some (.int .i64 0) ∧ W.cell? ⟨g, 4, none⟩ = some (.slice none 0 0)) ∧ (W.frozen? ⟨g, 0, none⟩ = false ∧ W.frozen? ⟨g, 1, none⟩ = false ∧ W.frozen? ⟨g, 2, none⟩ = false ∧ W.frozen? ⟨g, 3, none⟩ = false ∧ W.frozen? ⟨g, 4, none⟩ = false) ∧ g < W.heap.size := by
  refine ⟨⟨?_, ?_, ?_, ?_, ?_⟩, ⟨?_, ?_, ?_, ?_, ?_⟩, (Array.getElem?_eq_some_iff.1 h).1⟩ <;> first | (rw [cell_of_row _ _ _ _ _ _ h]; rfl) | exact frozen_of_row _ _ _ _ _ h
theorem spanK {W : World} {g : Nat} (h : W.heap[g]? = some (.cells #[.int .i64 0, .int .i64 0] 36 (0, 0))) :
    (W.cell? ⟨g, 0, none⟩ = some (.int .i64 0) ∧ W.cell? ⟨g, 1, none⟩ = some (.int .i64 0)) ∧ (W.frozen? ⟨g, 0, none⟩ = false ∧ W.frozen? ⟨g, 1, none⟩ = false) ∧ g < W.heap.size := by
  refine ⟨⟨?_, ?_⟩, ⟨?_, ?_⟩, (Array.getElem?_eq_some_iff.1 h).1⟩ <;> first | (rw [cell_of_row _ _ _ _ _ _ h]; rfl) | exact frozen_of_row _ _ _ _ _ h
/-- A yard and a span have been laid. -/
def YoCut (c0 c1 : Value) (gap str lo hi : Int) (W : World) (p q : Value) (wx : World) : Prop :=
  ∃ gy go ha hn hc, p = .pointer (some ⟨gy, 0, none⟩) ∧ q = .pointer (some ⟨go, 0, none⟩) ∧ Below W.heap.size W wx ∧ wx.heap[gy]? = some (.cells #[c0, c1, iv gap, iv str, .slice ha hn hc] 73 (0, 0)) ∧ wx.heap[go]? = some (.cells #[iv lo, iv hi] 36 (0, 0))

theorem row5O {W : World} {g : Nat} {x0 x1 x2 x3 x4 a b c d e : Value} {t : TypeId} (h : W.heap[g]? = some (.cells #[x0, x1, x2, x3, x4] t (0, 0))) : (((((W.setCell ⟨g, 0, none⟩ a).setCell ⟨g, 1, none⟩ b).setCell ⟨g, 2, none⟩ c).setCell ⟨g, 3, none⟩ d).setCell ⟨g, 4, none⟩ e).heap[g]? = some (.cells #[a, b, c, d, e] t (0, 0)) :=
  heap_setCell_same _ g 4 #[a, b, c, d, x4] t e (heap_setCell_same _ g 3 #[a, b, c, x3, x4] t d (heap_setCell_same _ g 2 #[a, b, x2, x3, x4] t c (heap_setCell_same _ g 1 #[a, x1, x2, x3, x4] t b (heap_setCell_same _ g 0 #[x0, x1, x2, x3, x4] t a h))))
theorem put5 {W : World} {g k : Nat} {a b c d e : Value} (hk : k ≠ g) : (((((W.setCell ⟨g, 0, none⟩ a).setCell ⟨g, 1, none⟩ b).setCell ⟨g, 2, none⟩ c).setCell ⟨g, 3, none⟩ d).setCell ⟨g, 4, none⟩ e).heap[k]? = W.heap[k]? := by
  rw [Below.heap_setCell _ _ _ _ hk, Below.heap_setCell _ _ _ _ hk, Below.heap_setCell _ _ _ _ hk, Below.heap_setCell _ _ _ _ hk, Below.heap_setCell _ _ _ _ hk]
theorem put2 {W : World} {g k : Nat} {a b : Value} (hk : k ≠ g) : ((W.setCell ⟨g, 0, none⟩ a).setCell ⟨g, 1, none⟩ b).heap[k]? = W.heap[k]? := by
  rw [Below.heap_setCell _ _ _ _ hk, Below.heap_setCell _ _ _ _ hk]
theorem bput5O {W X : World} {g : Nat} {a b c d e : Value} (h : Below W.heap.size W X) (hg : W.heap.size ≤ g) : Below W.heap.size W (((((X.setCell ⟨g, 0, none⟩ a).setCell ⟨g, 1, none⟩ b).setCell ⟨g, 2, none⟩ c).setCell ⟨g, 3, none⟩ d).setCell ⟨g, 4, none⟩ e) :=
  bput (bput (bput (bput (bput h hg _) hg _) hg _) hg _) hg _
theorem bput2O {W X : World} {g : Nat} {a b : Value} (h : Below W.heap.size W X) (hg : W.heap.size ≤ g) : Below W.heap.size W ((X.setCell ⟨g, 0, none⟩ a).setCell ⟨g, 1, none⟩ b) := bput (bput h hg _) hg _
section
variable {c0 c1 : Value} {gap str lo hi : Int} {W w3 : World} {ha : Option Addr} {hn hc : Nat}
theorem yo1 (hb : Below W.heap.size W w3) : YoCut c0 c1 gap str lo hi W (.pointer (some ⟨w3.heap.size, 0, none⟩)) (.pointer (some ⟨w3.heap.size + 1, 0, none⟩)) ((w3.alloc (.cells #[c0, c1, iv gap, iv str, .slice ha hn hc] 73)).alloc (.cells #[iv lo, iv hi] 36)) :=
  ⟨_, _, ha, hn, hc, rfl, rfl, bpush (bpush hb _) _, heap_new1 _ _ _ _, by have := heap_new (w3.alloc (.cells #[c0, c1, iv gap, iv str, .slice ha hn hc] 73)) #[iv lo, iv hi] 36; simpa using this⟩
theorem yo2 (hb : Below W.heap.size W w3) : YoCut c0 c1 gap str lo hi W (.pointer (some ⟨w3.heap.size + 1, 0, none⟩)) (.pointer (some ⟨w3.heap.size, 0, none⟩)) ((w3.alloc (.cells #[iv lo, iv hi] 36)).alloc (.cells #[c0, c1, iv gap, iv str, .slice ha hn hc] 73)) :=
  ⟨_, _, ha, hn, hc, rfl, rfl, bpush (bpush hb _) _, by have := heap_new (w3.alloc (.cells #[iv lo, iv hi] 36)) #[c0, c1, iv gap, iv str, .slice ha hn hc] 73; simpa using this, heap_new1 _ _ _ _⟩
theorem yo3 (hb : Below W.heap.size W w3) {x0 x1 x2 x3 x4 : Value} (hy : w3.heap[W.heap.size]? = some (.cells #[x0, x1, x2, x3, x4] 73 (0, 0))) : YoCut c0 c1 gap str lo hi W (.pointer (some ⟨W.heap.size, 0, none⟩)) (.pointer (some ⟨w3.heap.size, 0, none⟩)) ((((((w3.setCell ⟨W.heap.size, 0, none⟩ c0).setCell ⟨W.heap.size, 1, none⟩ c1).setCell ⟨W.heap.size, 2, none⟩ (iv gap)).setCell ⟨W.heap.size, 3, none⟩ (iv str)).setCell ⟨W.heap.size, 4, none⟩ (.slice ha hn hc)).alloc (.cells #[iv lo, iv hi] 36)) := by
  have hlt : W.heap.size < w3.heap.size := (Array.getElem?_eq_some_iff.1 hy).1
  refine ⟨_, _, ha, hn, hc, rfl, rfl, bpush (bput5O hb (Nat.le_refl _)) _, (Below.heap_alloc _ _ _ (by simp; omega)).trans (row5O hy), ?_⟩
  have := heap_new (((((w3.setCell ⟨W.heap.size, 0, none⟩ c0).setCell ⟨W.heap.size, 1, none⟩ c1).setCell ⟨W.heap.size, 2, none⟩ (iv gap)).setCell ⟨W.heap.size, 3, none⟩ (iv str)).setCell ⟨W.heap.size, 4, none⟩ (.slice ha hn hc)) #[iv lo, iv hi] 36
  simpa using this
theorem yo4 (hb : Below W.heap.size W w3) {x0 x1 x2 x3 x4 z0 z1 : Value} (hy : w3.heap[W.heap.size]? = some (.cells #[x0, x1, x2, x3, x4] 73 (0, 0))) (ho : w3.heap[W.heap.size + 1]? = some (.cells #[z0, z1] 36 (0, 0))) : YoCut c0 c1 gap str lo hi W (.pointer (some ⟨W.heap.size, 0, none⟩)) (.pointer (some ⟨W.heap.size + 1, 0, none⟩)) (((((((w3.setCell ⟨W.heap.size, 0, none⟩ c0).setCell ⟨W.heap.size, 1, none⟩ c1).setCell ⟨W.heap.size, 2, none⟩ (iv gap)).setCell ⟨W.heap.size, 3, none⟩ (iv str)).setCell ⟨W.heap.size, 4, none⟩ (.slice ha hn hc)).setCell ⟨W.heap.size + 1, 0, none⟩ (iv lo)).setCell ⟨W.heap.size + 1, 1, none⟩ (iv hi)) :=
  ⟨_, _, ha, hn, hc, rfl, rfl, bput2O (bput5O hb (Nat.le_refl _)) (by omega), (put2 (by omega)).trans (row5O hy), heap_set2 ((put5 (by omega)).trans ho)⟩
theorem yo5 (hb : Below W.heap.size W w3) {z0 z1 : Value} (ho : w3.heap[W.heap.size]? = some (.cells #[z0, z1] 36 (0, 0))) : YoCut c0 c1 gap str lo hi W (.pointer (some ⟨w3.heap.size, 0, none⟩)) (.pointer (some ⟨W.heap.size, 0, none⟩)) (((w3.setCell ⟨W.heap.size, 0, none⟩ (iv lo)).setCell ⟨W.heap.size, 1, none⟩ (iv hi)).alloc (.cells #[c0, c1, iv gap, iv str, .slice ha hn hc] 73)) := by
  have hlt : W.heap.size < w3.heap.size := (Array.getElem?_eq_some_iff.1 ho).1
  refine ⟨_, _, ha, hn, hc, rfl, rfl, bpush (bput2O hb (Nat.le_refl _)) _, ?_, (Below.heap_alloc _ _ _ (by simp; omega)).trans (heap_set2 ho)⟩
  have := heap_new ((w3.setCell ⟨W.heap.size, 0, none⟩ (iv lo)).setCell ⟨W.heap.size, 1, none⟩ (iv hi)) #[c0, c1, iv gap, iv str, .slice ha hn hc] 73
  simpa using this
theorem yo6 (hb : Below W.heap.size W w3) {x0 x1 x2 x3 x4 z0 z1 : Value} (hy : w3.heap[W.heap.size + 1]? = some (.cells #[x0, x1, x2, x3, x4] 73 (0, 0))) (ho : w3.heap[W.heap.size]? = some (.cells #[z0, z1] 36 (0, 0))) : YoCut c0 c1 gap str lo hi W (.pointer (some ⟨W.heap.size + 1, 0, none⟩)) (.pointer (some ⟨W.heap.size, 0, none⟩)) (((((((w3.setCell ⟨W.heap.size + 1, 0, none⟩ c0).setCell ⟨W.heap.size + 1, 1, none⟩ c1).setCell ⟨W.heap.size + 1, 2, none⟩ (iv gap)).setCell ⟨W.heap.size + 1, 3, none⟩ (iv str)).setCell ⟨W.heap.size + 1, 4, none⟩ (.slice ha hn hc)).setCell ⟨W.heap.size, 0, none⟩ (iv lo)).setCell ⟨W.heap.size, 1, none⟩ (iv hi)) :=
  ⟨_, _, ha, hn, hc, rfl, rfl, bput2O (bput5O hb (by omega)) (Nat.le_refl _), (put2 (by omega)).trans (row5O hy), heap_set2 ((put5 (by omega)).trans ho)⟩
end

set_option maxRecDepth 20000 in
set_option maxHeartbeats 12800000 in
theorem Stretched_good (C : List Tn) (R : List Int) (gap str : Int) (ca ra : Option Addr) (cc rc k : Nat) (x : Tn) (at_ : Int) (w : World) (hC : SliceOf encN 4 w (.slice ca C.length cc) C) (hR : Ints w (.slice ra R.length rc) R) (hchk : fdChk ⟨C, R, gap, str⟩ = 0) (hx : C[k]? = some x) (hat : 1 ≤ at_ ∧ at_ ≤ 4000) :
    Calls Try.prog 10 #[.agg #[.slice ca C.length cc, .slice ra R.length rc, iv gap, iv str], iv k, iv at_] w fun e w' => e = .returned (.tuple #[.bool (decide (permI str x.1.2 < at_)), .bool (decide (permI str x.1.1 < at_)), iv 0]) ∧ Below w.heap.size w w' := by
  obtain ⟨hln, hr3, hvf⟩ := fdChk_zero hchk
  have hr3 := (inB_iff.1 hr3).2
  simp only [vFd, Bool.and_eq_true, List.all_eq_true] at hvf
  have hst : 0 ≤ str ∧ str ≤ 200 := inB_iff.1 hvf.2.2.2
  have hln : C.length ≤ 7 := hln
  have hr3 : R.length ≤ 3 := by have : (R.length : Int) ≤ 3 := hr3; omega
  have hvx : vTn x = true := hvf.1 x (List.mem_of_getElem? hx)
  have hk : k < C.length := (List.getElem?_eq_some_iff.1 hx).1
  have hxb : (1 ≤ x.1.1 ∧ x.1.1 ≤ 2000) ∧ (1 ≤ x.1.2 ∧ x.1.2 ≤ 2000) := by
    simp only [vTn, Bool.and_eq_true, okSpan_iff] at hvx; omega
  obtain ⟨cb, co, rfl⟩ : ∃ cb co, ca = some ⟨cb, co, none⟩ := by
    obtain ⟨a, cap, e, -, hc⟩ := hC
    simp only [Value.slice.injEq] at e
    obtain ⟨rfl, -, -⟩ := e
    obtain ⟨b, off, ha, -⟩ := hc k x hx
    exact ⟨b, off, ha⟩
  have hcell : ∀ j u, (encN x)[j]? = some u → w.cell? ⟨cb, co + k * 4 + j, none⟩ = some u := by
    obtain ⟨a, cap, e, -, hc⟩ := hC
    simp only [Value.slice.injEq] at e
    obtain ⟨rfl, -, -⟩ := e
    obtain ⟨b, off, ha, hj⟩ := hc k x hx
    simp only [Option.some.injEq, Addr.mk.injEq] at ha
    obtain ⟨rfl, rfl, -⟩ := ha
    exact hj
  have HCK := Lib.hid (fun (W : World) (hb : Below w.heap.size w W) => by have := fdCheck_any C R gap str (some ⟨cb, co, none⟩) ra cc rc W (hC.below hb) (hR.below hb); rw [hchk] at this; exact this)
  have HNY := Lib.hid (fun (W : World) => newYard_any (some ⟨cb, co, none⟩) ra C.length cc R.length rc gap str W hr3)
  have HPM := Lib.hid (fun (W : World) (ha : Option Addr) (hn hc : Nat) (own : Int) (h : 0 ≤ own ∧ own ≤ 2000) => permitted_any (some ⟨cb, co, none⟩) ra ha C.length cc R.length rc hn hc gap str own W h hst)
  have HVN := Lib.hid (fun (W : World) => by have := validNum_any k C.length W (by omega); rw [show inB 0 ((C.length : Int) - 1) (k : Int) = true from inB_iff.2 ⟨by omega, by omega⟩] at this; exact this)
  have HWI : Hid (inB 1 4000 at_ = true) := inB_iff.2 hat
  obtain ⟨⟨lo, hi⟩, ⟨wl, wh⟩⟩ := x
  have HC0 : Hid (w.cell? ⟨cb, co + k * 4, none⟩ = some (iv lo)) := hcell 0 _ rfl
  have HC1 : Hid (w.cell? ⟨cb, co + k * 4 + 1, none⟩ = some (iv hi)) := hcell 1 _ rfl
  have HXB := Lib.hid hxb
  clear hC hR hchk hvf hcell hx hvx hxb
  go_enter Try.func10, Try.ntmps10
  go_wp2_with fail
  refine (HCK.out _ (by repeat (first | exact Below.refl _ _ | refine Below.drew ?_ | refine bpush ?_ _ | refine bput ?_ (by simp) _ | (refine bstep ?_ (by assumption))))).mono ?_
  rintro e w1 ⟨rfl, hb⟩
  have HB1 := Lib.hid (show Below w.heap.size w w1 from bstep (by repeat (first | exact Below.refl _ _ | refine Below.drew ?_ | refine bpush ?_ _ | refine bput ?_ (by simp) _ | (refine bstep ?_ (by assumption)))) hb)
  have hr1 := (hb.block w.heap.size (by simp)).trans (heap_new w #[.slice (some ⟨cb, co, none⟩) C.length cc, .slice ra R.length rc, iv gap, iv str] 40)
  have HR1 := Lib.hid hr1
  have c0 : w1.cell? ⟨w.heap.size, 0, none⟩ = some (.slice (some ⟨cb, co, none⟩) C.length cc) := by rw [cell_of_row _ _ _ _ _ _ hr1]; rfl
  clear hb hr1
  go_wp2_with fail
  refine (HVN.out _).mono ?_
  rintro e w2 ⟨rfl, hb⟩
  have HB2 := Lib.hid (bstep HB1.out hb)
  have HR2 := Lib.hid (bblkG hb HR1.out)
  clear hb c0
  go_wp2_with fail
  refine (within1 1 4000 at_ (by go_simp)).mono ?_
  rintro e w_ ⟨he, rfl⟩; rw [HWI.out] at he; subst he
  go_upto_region 8 with (fail)
  obtain ⟨W, hW⟩ : ∃ W : World, w2.alloc (.cells #[iv at_] 3) = W := ⟨_, rfl⟩
  have HBW : Hid (Below w.heap.size w W) := by rw [← hW]; exact bpush HB2.out _
  have hRW : W.heap[w.heap.size]? = some (.cells #[.slice (some ⟨cb, co, none⟩) C.length cc, .slice ra R.length rc, iv gap, iv str] 40 (0, 0)) := by rw [← hW]; exact (Below.heap_alloc _ _ _ (Array.getElem?_eq_some_iff.1 HR2.out).1).trans HR2.out
  rw [hW]
  clear hW
  have s0 : W.cell? ⟨w.heap.size, 0, none⟩ = some (.slice (some ⟨cb, co, none⟩) C.length cc) := by rw [cell_of_row _ _ _ _ _ _ hRW]; rfl
  have s1 : W.cell? ⟨w.heap.size, 1, none⟩ = some (.slice ra R.length rc) := by rw [cell_of_row _ _ _ _ _ _ hRW]; rfl
  have s2 : W.cell? ⟨w.heap.size, 2, none⟩ = some (iv gap) := by rw [cell_of_row _ _ _ _ _ _ hRW]; rfl
  have s3 : W.cell? ⟨w.heap.size, 3, none⟩ = some (iv str) := by rw [cell_of_row _ _ _ _ _ _ hRW]; rfl
  have s4 : W.cell? ⟨cb, co + k * 4, none⟩ = some (iv lo) := kcell HBW.out HC0.out
  have s5 : W.cell? ⟨cb, co + k * 4 + 1, none⟩ = some (iv hi) := kcell HBW.out HC1.out
  have s6 : Below W.heap.size W W := Below.refl _ _
  have hf : w.heap.size < W.heap.size := (Array.getElem?_eq_some_iff.1 hRW).1
  have hcb : cb < W.heap.size := lt_of_cell s4
  have hf1 : w.heap.size < W.heap.size + 1 := by omega
  have hf2 : w.heap.size < W.heap.size + 1 + 1 := by omega
  have hcb1 : cb < W.heap.size + 1 := by omega
  have hcb2 : cb < W.heap.size + 1 + 1 := by omega
  have HYa : Hid ((W.alloc (.cells #[.slice none 0 0, .slice none 0 0, .int .i64 0, .int .i64 0, .slice none 0 0] 73)).drew.heap[W.heap.size]? = some (.cells #[.slice none 0 0, .slice none 0 0, .int .i64 0, .int .i64 0, .slice none 0 0] 73 (0, 0))) := heap_new _ _ _
  have HOa : Hid ((W.alloc (.cells #[.int .i64 0, .int .i64 0] 36)).drew.heap[W.heap.size]? = some (.cells #[.int .i64 0, .int .i64 0] 36 (0, 0))) := heap_new _ _ _
  have HYb : Hid (((W.alloc (.cells #[.slice none 0 0, .slice none 0 0, .int .i64 0, .int .i64 0, .slice none 0 0] 73)).alloc (.cells #[.int .i64 0, .int .i64 0] 36)).drew.heap[W.heap.size]? = some (.cells #[.slice none 0 0, .slice none 0 0, .int .i64 0, .int .i64 0, .slice none 0 0] 73 (0, 0))) := heap_new1 _ _ _ _
  have HOb : Hid (((W.alloc (.cells #[.slice none 0 0, .slice none 0 0, .int .i64 0, .int .i64 0, .slice none 0 0] 73)).alloc (.cells #[.int .i64 0, .int .i64 0] 36)).drew.heap[W.heap.size + 1]? = some (.cells #[.int .i64 0, .int .i64 0] 36 (0, 0))) := heapB (by simp)
  have HYc : Hid (((W.alloc (.cells #[.int .i64 0, .int .i64 0] 36)).alloc (.cells #[.slice none 0 0, .slice none 0 0, .int .i64 0, .int .i64 0, .slice none 0 0] 73)).drew.heap[W.heap.size + 1]? = some (.cells #[.slice none 0 0, .slice none 0 0, .int .i64 0, .int .i64 0, .slice none 0 0] 73 (0, 0))) := heapB (by simp)
  have HOc : Hid (((W.alloc (.cells #[.int .i64 0, .int .i64 0] 36)).alloc (.cells #[.slice none 0 0, .slice none 0 0, .int .i64 0, .int .i64 0, .slice none 0 0] 73)).drew.heap[W.heap.size]? = some (.cells #[.int .i64 0, .int .i64 0] 36 (0, 0))) := heap_new1 _ _ _ _
  clear hRW
  go_cut [9, 10] (fun p q wx => YoCut (.slice (some ⟨cb, co, none⟩) C.length cc) (.slice ra R.length rc) gap str lo hi W p q wx)
  case first =>
    go_region_held3 (fun X => X.cell? ⟨w.heap.size, 0, none⟩ = some (.slice (some ⟨cb, co, none⟩) C.length cc) ∧ X.cell? ⟨w.heap.size, 1, none⟩ = some (.slice ra R.length rc) ∧ X.cell? ⟨w.heap.size, 2, none⟩ = some (iv gap) ∧ X.cell? ⟨w.heap.size, 3, none⟩ = some (iv str) ∧ X.cell? ⟨cb, co + k * 4, none⟩ = some (iv lo) ∧ X.cell? ⟨cb, co + k * 4 + 1, none⟩ = some (iv hi) ∧ Below W.heap.size W X)
      (repeat (first | (with_reducible assumption) | (with_reducible exact ⟨by assumption, by assumption, by assumption, by assumption, by assumption, by assumption, by assumption⟩) | (with_reducible refine ssPush hf hcb ?_) | (with_reducible refine ssDrew ?_) | (with_reducible refine ssSet hf hcb (by first | exact Nat.le_refl _ | omega) ?_) | (with_reducible refine ssCall hf hcb hbK ?_)))
      (first | (go_split_ands; (with_reducible refine (HNY.out _).mono ?_); rintro e w3 ⟨ha, hn, hc, rfl, hbK⟩; (try have hy1 := yardK (krowN' hbK HYa.out)); (try have ho1 := spanK (krowN' hbK HOa.out)); (try have hy2 := yardK (krowN' hbK HYb.out)); (try have ho2 := spanK (krowN' hbK HOb.out)); (try have hy3 := yardK (krowN' hbK HYc.out)); (try have ho3 := spanK (krowN' hbK HOc.out)); go_split_ands))
    all_goals
      have hBw : Below W.heap.size W w3 := by refine bstep ?_ hbK; exact (by repeat (first | exact Below.refl _ _ | refine Below.drew ?_ | refine bpush ?_ _ | refine bput ?_ (by simp) _ | (refine bstep ?_ (by assumption))))
      go_wp2_with fail
      go_meet
      first
        | with_reducible exact yo1 hBw
        | with_reducible exact yo2 hBw
        | with_reducible exact yo3 hBw (krowN' hbK HYa.out)
        | with_reducible exact yo4 hBw (krowN' hbK HYb.out) (krowN' hbK HOb.out)
        | with_reducible exact yo5 hBw (krowN' hbK HOa.out)
        | with_reducible exact yo6 hBw (krowN' hbK HYc.out) (krowN' hbK HOc.out)
  case rest =>
    obtain ⟨gy, go, ha, hn, hc, rfl, rfl, hBc, hy, ho⟩ := hcut
    have y0 : wc.cell? ⟨gy, 0, none⟩ = some (.slice (some ⟨cb, co, none⟩) C.length cc) := by rw [cell_of_row _ _ _ _ _ _ hy]; rfl
    have y1 : wc.cell? ⟨gy, 1, none⟩ = some (.slice ra R.length rc) := by rw [cell_of_row _ _ _ _ _ _ hy]; rfl
    have y2 : wc.cell? ⟨gy, 2, none⟩ = some (iv gap) := by rw [cell_of_row _ _ _ _ _ _ hy]; rfl
    have y3 : wc.cell? ⟨gy, 3, none⟩ = some (iv str) := by rw [cell_of_row _ _ _ _ _ _ hy]; rfl
    have y4 : wc.cell? ⟨gy, 4, none⟩ = some (.slice ha hn hc) := by rw [cell_of_row _ _ _ _ _ _ hy]; rfl
    have o0 : wc.cell? ⟨go, 0, none⟩ = some (iv lo) := by rw [cell_of_row _ _ _ _ _ _ ho]; rfl
    have o1 : wc.cell? ⟨go, 1, none⟩ = some (iv hi) := by rw [cell_of_row _ _ _ _ _ _ ho]; rfl
    have z1 : gy < wc.heap.size := (Array.getElem?_eq_some_iff.1 hy).1
    have z2 : go < wc.heap.size := (Array.getElem?_eq_some_iff.1 ho).1
    have hBW := HBW.out.trans (hBc.mono HBW.out.size)
    have HBC := Lib.hid hBW
    have hlo := Lib.hid (show 0 ≤ lo ∧ lo ≤ 2000 by have := HXB.out; omega)
    have hhi := Lib.hid (show 0 ≤ hi ∧ hi ≤ 2000 by have := HXB.out; omega)
    have b0 : Below wc.heap.size wc wc := Below.refl _ _
    clear hy ho hBc s0 s1 s2 s3 s4 s5 s6 hf hcb hf1 hf2 hcb1 hcb2 HYa HOa HYb HOb HYc HOc hBW
    go_upto_region 9 with (fail)
    go_region_held3 (fun X => X.cell? ⟨gy, 0, none⟩ = some (.slice (some ⟨cb, co, none⟩) C.length cc) ∧ X.cell? ⟨gy, 1, none⟩ = some (.slice ra R.length rc) ∧ X.cell? ⟨gy, 2, none⟩ = some (iv gap) ∧ X.cell? ⟨gy, 3, none⟩ = some (iv str) ∧ X.cell? ⟨gy, 4, none⟩ = some (.slice ha hn hc) ∧ X.cell? ⟨go, 0, none⟩ = some (iv lo) ∧ X.cell? ⟨go, 1, none⟩ = some (iv hi) ∧ Below wc.heap.size wc X)
      (repeat (first | (with_reducible assumption) | (with_reducible exact ⟨by assumption, by assumption, by assumption, by assumption, by assumption, by assumption, by assumption, by assumption⟩) | (with_reducible refine syPush z1 z2 ?_) | (with_reducible refine syDrew ?_) | (with_reducible refine syCall z1 z2 hbK ?_)))
      (first | (go_split_ands; (with_reducible refine (HPM.out _ ha hn hc _ (by first | exact hlo.out | exact hhi.out)).mono ?_); rintro e w3 ⟨rfl, hbK⟩; go_split_ands))
    all_goals
      rename_i hS
      have hBz := HBC.out.trans (hS.2.2.2.2.2.2.2.mono HBC.out.size)
      go_wp2_with fail
      go_ret3
      exact ⟨rfl, hBz⟩
end Go.Proofs.Ytdhkgpfcanekkaa
