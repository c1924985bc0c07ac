/- TopWaitAlibi: a day that is being made; the rows of minutes. -/
import Derived.Test.YtdalilllakdamaaEa
import Derived.Test.YtdalilllakdamaaSj
namespace Go.Proofs.Ytdalilllakdamaa
open Go Go.RowKit Go.Shelf

section
variable {P : Program} {ops : Array Oper} {o : Oper} {a : Act} {w : World} {Q : Exit → Act → World → Prop}
/-- s = append(s, y) at a step of a drawn region; and where the new list lies. -/
theorem S_append2W {α : Type} {enc : α → List Value} {sz e base bytes : Nat} {i : TypeInfo} {z v : Value} {xs : List α} {g c : Nat} {K : Act → World → Prop} {E : Prop} (y : α)
    (hg : o.guard = none) (s x : Operand) (t : TypeId) (hop : o.op = Op.call { callee := Callee.builtin Builtin.append, args := #[s, x], argTypes := #[t, t] })
    (h1 : P.underlying t = some (.slice e)) (h2 : P.info? e = some i) (h3 : i.zero = some z) (h4 : i.size = sz) (h5 : i.bytes = bytes) (h6 : z.cells.size = sz) (h7 : 0 < sz)
    (he : ∀ x, (enc x).length = sz) (h1c : ∀ u ∈ enc y, u.oneCell' = true)
    (hs : a.eval s = v) (hx : a.eval x = .slice (some ⟨g, 0, none⟩) 1 c) (hown : Owns enc sz e base w v xs) (hc : ∀ j u, (enc y)[j]? = some u → w.cell? ⟨g, j, none⟩ = some u)
    (b2 : xs.length + 1 ≤ maxLen ∧ (xs.length + 1) * bytes ≤ 140737488355328) (b3 : base ≤ w.heap.size)
    (hK : ∀ g' cap w', Owns enc sz e base w' (.slice (some ⟨g', 0, none⟩) (xs.length + 1) cap) (xs ++ [y]) → Below base w w' → w.grownBy w' v.ownBlock → (v.ownBlock = some g' ∨ g' = w.heap.size) → K (a.put o.dst (.slice (some ⟨g', 0, none⟩) (xs.length + 1) cap)) w') :
    if Region.wanted o (yielded ops a.tmps) = true then Oper.wp P o a w K Q else E := by
  refine step_append_lies w hg s x t hop base e i z sz bytes h1 h2 h3 h4 h5 h6 h7 v xs.length (xs.flatMap enc) hs hown ⟨g, 0, none⟩ 1 c (enc y) hx (by rw [he]; omega) (fun j u hu => ?_) h1c (by omega) b2.1 b2.2 b3 w.heap.size rfl (fun g' cap w' r1 r2 r3 _ => ?_)
  · have hadd : (⟨g, 0, none⟩ : Addr).add j = ⟨g, j, none⟩ := by unfold Addr.add; split <;> simp_all
    rw [hadd]; exact hc j u hu
  · refine hK g' cap w' ?_ (below_of_own hown b3 r2) r2 r3
    show w'.ownsRow base e sz _ (xs ++ [y]).length ((xs ++ [y]).flatMap enc)
    simpa using r1
end
theorem infoCW : (Try.prog.info? 32).map (fun i => (i.zero, i.size, i.bytes)) = some (some (.agg #[.int .i64 0, .int .i64 0, .int .i64 0, .int .i64 0]), 4, 32) := by kernel_rfl
structure WdInv (C : List Ct) (W0 : World) (rv cv : Value) (wr : World) : Prop where
  B : Below W0.heap.size W0 wr
  S : W0.heap.size + 1 ≤ wr.heap.size
  h : wr.heap[W0.heap.size]? = some (.cells #[cv, rv] 27 (0, 0))
  O : Owns encC 4 32 (W0.heap.size + 1) wr cv C
section
variable {C : List Ct} {W0 wr wa w3 w' : World} {rv cv : Value} {c : Ct} {g' n cap : Nat}
theorem WdInv.below (h : WdInv C W0 rv cv wr) (hb : Below wr.heap.size wr w') : WdInv C W0 rv cv w' :=
  ⟨h.B.trans (hb.mono (Nat.le_trans (by omega) h.S)), Nat.le_trans h.S hb.size, (hb.block _ (Array.getElem?_eq_some_iff.1 h.h).1).trans h.h, h.O.kept hb⟩
theorem WdInv.c0 (h : WdInv C W0 rv cv wr) : wr.cell? ⟨W0.heap.size, 0, none⟩ = some cv := by rw [cell_of_row _ _ _ _ _ _ h.h]; rfl
theorem WdInv.c1 (h : WdInv C W0 rv cv wr) : wr.cell? ⟨W0.heap.size, 1, none⟩ = some rv := by rw [cell_of_row _ _ _ _ _ _ h.h]; rfl
theorem WdInv.f0 (h : WdInv C W0 rv cv wr) : wr.frozen? ⟨W0.heap.size, 0, none⟩ = false := by unfold World.frozen?; rw [h.h]; rfl
theorem heap_setW2 {W : World} {b i : Nat} {x0 x1 u : Value} {t : TypeId} (h : W.heap[b]? = some (.cells #[x0, x1] t (0, 0))) : (W.setCell ⟨b, i, none⟩ u).heap[b]? = some (.cells (#[x0, x1].setIfInBounds i u) t (0, 0)) :=
  heap_setCell_same W b i #[x0, x1] t u h
theorem grown_setW (W : World) (b i : Nat) (u : Value) : W.grownBy (W.setCell ⟨b, i, none⟩ u) (some b) :=
  ⟨rfl, rfl, rfl, by simp [World.setCell], fun k hk hne => Below.heap_setCell _ _ _ _ (fun e => hne (by rw [e]))⟩
theorem WdInv.start {W0 : World} {rv : Value} : WdInv [] W0 rv (.slice none 0 0) (W0.alloc (.cells #[.slice none 0 0, rv] 27)) :=
  ⟨bpush (Below.refl _ _) _, by simp, heap_new _ _ _, Owns.nil _ _ _ _ _⟩
theorem WdInv.more (h : WdInv C W0 rv cv wa) (hO3 : Owns encC 4 32 (W0.heap.size + 1) w3 (.slice (some ⟨g', 0, none⟩) n cap) (C ++ [c])) (hb : Below (W0.heap.size + 1) wa w3) :
    WdInv (C ++ [c]) W0 rv (.slice (some ⟨g', 0, none⟩) n cap) (w3.setCell ⟨W0.heap.size, 0, none⟩ (.slice (some ⟨g', 0, none⟩) n cap)) := by
  have h7 : w3.heap[W0.heap.size]? = some (.cells #[cv, rv] 27 (0, 0)) := (hb.block _ (Nat.lt_succ_self _)).trans h.h
  have hB3 : Below W0.heap.size W0 w3 := h.B.trans (hb.mono (by omega))
  have hs := h.S
  have hs3 := hb.size
  refine ⟨hB3.setCell (p := ⟨W0.heap.size, 0, none⟩) (Nat.le_refl _) _, by simp [World.setCell]; omega, heap_setW2 h7, ?_⟩
  refine World.ownsRow.kept hO3 (grown_setW _ _ _ _) (.inr (fun e => ?_))
  have := (World.ownsRow.lt hO3 g' rfl).1
  simp only [Value.ownBlock, Option.some.injEq] at e; omega
end

section
variable {P : Program} {ops : Array Oper} {rest : List Oper} {o : Oper} {a : Act} {w : World} {Q : Exit → Act → World → Prop}
/-- s = append(s, y); and where the new list lies. -/
theorem L_append2W {α : Type} {enc : α → List Value} {sz e base bytes : Nat} {i : TypeInfo} {z v : Value} {xs : List α} {g c : Nat} (y : α)
    (hg : o.guard = none) (s x : Operand) (t : TypeId) (hop : o.op = Op.call { callee := Callee.builtin Builtin.append, args := #[s, x], argTypes := #[t, t] })
    (h1 : P.underlying t = some (.slice e)) (h2 : P.info? e = some i) (h3 : i.zero = some z) (h4 : i.size = sz) (h5 : i.bytes = bytes) (h6 : z.cells.size = sz) (h7 : 0 < sz)
    (he : ∀ x, (enc x).length = sz) (h1c : ∀ u ∈ enc y, u.oneCell' = true)
    (hs : a.eval s = v) (hx : a.eval x = .slice (some ⟨g, 0, none⟩) 1 c) (hown : Owns enc sz e base w v xs) (hc : ∀ j u, (enc y)[j]? = some u → w.cell? ⟨g, j, none⟩ = some u)
    (b2 : xs.length + 1 ≤ maxLen ∧ (xs.length + 1) * bytes ≤ 140737488355328) (b3 : base ≤ w.heap.size)
    (hK : ∀ g' cap w', Owns enc sz e base w' (.slice (some ⟨g', 0, none⟩) (xs.length + 1) cap) (xs ++ [y]) → Below base w w' → w.grownBy w' v.ownBlock → (v.ownBlock = some g' ∨ g' = w.heap.size) → wpList P ops Q rest (a.put o.dst (.slice (some ⟨g', 0, none⟩) (xs.length + 1) cap)) w') :
    wpList P ops Q (o :: rest) a w := by
  refine wpList_append_lies w hg s x t hop base e i z sz bytes h1 h2 h3 h4 h5 h6 h7 v xs.length (xs.flatMap enc) hs hown ⟨g, 0, none⟩ 1 c (enc y) hx (by rw [he]; omega) (fun j u hu => ?_) h1c (by omega) b2.1 b2.2 b3 w.heap.size rfl (fun g' cap w' r1 r2 r3 _ => ?_)
  · have hadd : (⟨g, 0, none⟩ : Addr).add j = ⟨g, j, none⟩ := by unfold Addr.add; split <;> simp_all
    rw [hadd]; exact hc j u hu
  · refine hK g' cap w' ?_ (below_of_own hown b3 r2) r2 r3
    show w'.ownsRow base e sz _ (xs ++ [y]).length ((xs ++ [y]).flatMap enc)
    simpa using r1
end
/-- A row of so many minutes. -/
def bRow (f : Nat → Bool) (N : Nat) : Array Value := ((List.range N).map fun j => Value.bool (f j)).toArray
theorem bRow_at (f : Nat → Bool) {N j : Nat} (h : j < N) : (bRow f N)[j]? = some (.bool (f j)) := by simp [bRow, h]
theorem bRow_set (f : Nat → Bool) {N j : Nat} (b : Bool) : (bRow f N).setIfInBounds j (.bool b) = bRow (fun i => if i = j then b else f i) N := by
  refine Array.ext_getElem? fun i => ?_
  rw [Array.getElem?_setIfInBounds]
  by_cases hi : i < N
  · rw [bRow_at _ hi]
    by_cases he : j = i
    · subst he; simp [bRow, hi]
    · rw [if_neg he, bRow_at _ hi, if_neg (fun e => he e.symm)]
  · have h1 : (bRow (fun i => if i = j then b else f i) N)[i]? = none := by rw [Array.getElem?_eq_none]; simp [bRow]; omega
    have h2 : (bRow f N)[i]? = none := by rw [Array.getElem?_eq_none]; simp [bRow]; omega
    rw [h1, h2]
    split
    · rename_i he
      rw [if_neg]; simp [bRow]; omega
    · rfl
/-- The four rows of minutes: their blocks, what is in them. -/
structure BarInv (F : Nat → Nat → Bool) (N : Nat) (bb : Nat → Nat) (q : Nat) (W : World) (wr : World) : Prop where
  B : Below W.heap.size W wr
  lo : ∀ p, p < 4 → W.heap.size ≤ bb p
  h : ∀ p, p < 4 → wr.heap[bb p]? = some (.cells (bRow (F p) N) 4 (0, 0))
  nq : ∀ p, p < 4 → bb p ≠ q
  ne : ∀ p r, p < 4 → r < 4 → bb p = bb r → p = r
  hq : wr.heap[q]? = some (.cells #[.slice (some ⟨bb 0, 0, none⟩) N N, .slice (some ⟨bb 1, 0, none⟩) N N, .slice (some ⟨bb 2, 0, none⟩) N N, .slice (some ⟨bb 3, 0, none⟩) N N] 39 (0, 0))
section
variable {F : Nat → Nat → Bool} {N q : Nat} {bb : Nat → Nat} {W wr w' : World}
theorem BarInv.below (h : BarInv F N bb q W wr) (hb : Below wr.heap.size wr w') : BarInv F N bb q W w' :=
  ⟨h.B.trans (hb.mono h.B.size), h.lo, fun p hp => (hb.block _ (Array.getElem?_eq_some_iff.1 (h.h p hp)).1).trans (h.h p hp), h.nq, h.ne, (hb.block _ (Array.getElem?_eq_some_iff.1 h.hq).1).trans h.hq⟩
theorem BarInv.cell (h : BarInv F N bb q W wr) {p j : Nat} (hp : p < 4) (hj : j < N) : wr.cell? ⟨bb p, j, none⟩ = some (.bool (F p j)) := by
  rw [cell_of_row _ _ _ _ _ _ (h.h p hp)]; exact bRow_at _ hj
theorem BarInv.frozen (h : BarInv F N bb q W wr) {p j : Nat} (hp : p < 4) : wr.frozen? ⟨bb p, j, none⟩ = false := by
  unfold World.frozen?; rw [h.h p hp]; rfl
theorem BarInv.slice (h : BarInv F N bb q W wr) {p : Nat} (hp : p < 4) : wr.cell? ⟨q, p, none⟩ = some (.slice (some ⟨bb p, 0, none⟩) N N) := by
  rw [cell_of_row _ _ _ _ _ _ h.hq]
  obtain rfl | rfl | rfl | rfl : p = 0 ∨ p = 1 ∨ p = 2 ∨ p = 3 := by omega
  all_goals rfl
theorem BarInv.set (h : BarInv F N bb q W wr) {p j : Nat} (hp : p < 4) (b : Bool) : BarInv (fun r i => if r = p ∧ i = j then b else F r i) N bb q W (wr.setCell ⟨bb p, j, none⟩ (.bool b)) := by
  refine ⟨h.B.setCell (p := ⟨bb p, j, none⟩) (h.lo p hp) _, h.lo, fun r hr => ?_, h.nq, h.ne, (Below.heap_setCell _ _ _ _ (fun e => h.nq p hp e.symm)).trans h.hq⟩
  by_cases e : r = p
  · subst e
    rw [heap_setCell_same _ _ _ _ _ _ (h.h r hr), bRow_set]
    congr 3; funext i; simp
  · rw [Below.heap_setCell _ _ _ _ (fun e2 => e (h.ne r p hr hp e2)), h.h r hr]
    congr 3; funext i; simp [e]
end
theorem BarInv.congr {F G : Nat → Nat → Bool} {N q : Nat} {bb : Nat → Nat} {W wr : World} (h : BarInv F N bb q W wr) (e : ∀ p i, p < 4 → i < N → F p i = G p i) : BarInv G N bb q W wr := by
  refine ⟨h.B, h.lo, fun p hp => ?_, h.nq, h.ne, h.hq⟩
  have hr : bRow (F p) N = bRow (G p) N := by
    unfold bRow
    exact congrArg List.toArray (List.map_congr_left fun i hi => by rw [e p i hp (List.mem_range.1 hi)])
  rw [h.h p hp, hr]
/-- What the first rows are, while they are being made. -/
def barC (bb : Nat → Nat) (N k p : Nat) : Value := if p < k then .slice (some ⟨bb p, 0, none⟩) N N else .slice none 0 0
structure BarK (N : Nat) (bb : Nat → Nat) (k : Nat) (W W1 wr : World) : Prop where
  B : Below W1.heap.size W1 wr
  z : W.heap.size ≤ W1.heap.size
  S : W1.heap.size + 1 ≤ wr.heap.size
  lo : ∀ p, p < k → W1.heap.size + 1 ≤ bb p
  h : ∀ p, p < k → wr.heap[bb p]? = some (.cells (bRow (fun _ => false) N) 4 (0, 0))
  ne : ∀ p r, p < k → r < k → bb p = bb r → p = r
  hq : wr.heap[W1.heap.size]? = some (.cells #[barC bb N k 0, barC bb N k 1, barC bb N k 2, barC bb N k 3] 39 (0, 0))
theorem BarK.start {N : Nat} {bb : Nat → Nat} {W W1 : World} (hz : W.heap.size ≤ W1.heap.size) : BarK N bb 0 W W1 (W1.alloc (.cells #[.slice none 0 0, .slice none 0 0, .slice none 0 0, .slice none 0 0] 39)) :=
  ⟨bpush (Below.refl _ _) _, hz, by simp, fun _ h => by omega, fun _ h => by omega, fun _ _ h => by omega, heap_new _ _ _⟩
theorem BarK.cell {N k : Nat} {bb : Nat → Nat} {W W1 wr : World} (h : BarK N bb k W W1 wr) (hk : k < 4) : wr.cell? ⟨W1.heap.size, k, none⟩ = some (.slice none 0 0) := by
  rw [cell_of_row _ _ _ _ _ _ h.hq]
  obtain rfl | rfl | rfl | rfl : k = 0 ∨ k = 1 ∨ k = 2 ∨ k = 3 := by omega
  all_goals rfl
theorem BarK.frozen {N k : Nat} {bb : Nat → Nat} {W W1 wr : World} (h : BarK N bb k W W1 wr) : wr.frozen? ⟨W1.heap.size, k, none⟩ = false := by
  unfold World.frozen?; rw [h.hq]; rfl
theorem BarK.more {N k : Nat} {bb : Nat → Nat} {W W1 wr : World} (h : BarK N bb k W W1 wr) (hk : k < 4) :
    BarK N (fun p => if p = k then wr.heap.size else bb p) (k + 1) W W1 ((wr.setCell ⟨W1.heap.size, k, none⟩ (.slice (some ⟨wr.heap.size, 0, none⟩) N N)).alloc (.cells (bRow (fun _ => false) N) 4)) := by
  have hs := h.S
  have hz : (wr.setCell ⟨W1.heap.size, k, none⟩ (.slice (some ⟨wr.heap.size, 0, none⟩) N N)).heap.size = wr.heap.size := by simp [World.setCell]
  have hold : ∀ g, g < wr.heap.size → g ≠ W1.heap.size → ((wr.setCell ⟨W1.heap.size, k, none⟩ (.slice (some ⟨wr.heap.size, 0, none⟩) N N)).alloc (.cells (bRow (fun _ => false) N) 4)).heap[g]? = wr.heap[g]? := fun g hg hn => by
    rw [Below.heap_alloc _ _ _ (by omega), Below.heap_setCell _ _ _ _ hn]
  have hnew : ((wr.setCell ⟨W1.heap.size, k, none⟩ (.slice (some ⟨wr.heap.size, 0, none⟩) N N)).alloc (.cells (bRow (fun _ => false) N) 4)).heap[wr.heap.size]? = some (.cells (bRow (fun _ => false) N) 4 (0, 0)) := by
    have := heap_new (wr.setCell ⟨W1.heap.size, k, none⟩ (.slice (some ⟨wr.heap.size, 0, none⟩) N N)) (bRow (fun _ => false) N) 4
    rwa [hz] at this
  refine ⟨bpush (h.B.setCell (p := ⟨W1.heap.size, k, none⟩) (Nat.le_refl _) _) _, h.z, by rw [World.size_alloc, hz]; omega, fun p hp => ?_, fun p hp => ?_, fun p r hp hr e => ?_, ?_⟩
  · split
    · exact hs
    · exact h.lo p (by omega)
  · split
    · exact hnew
    · have := h.lo p (by omega)
      have hh := h.h p (by omega)
      have hl := (Array.getElem?_eq_some_iff.1 hh).1
      rw [hold _ hl (by omega)]; exact hh
  · split at e <;> split at e
    · omega
    · rename_i h1 h2
      have hl := (Array.getElem?_eq_some_iff.1 (h.h r (by omega))).1; omega
    · rename_i h1 h2
      have hl := (Array.getElem?_eq_some_iff.1 (h.h p (by omega))).1; omega
    · exact h.ne p r (by omega) (by omega) e
  · rw [Below.heap_alloc _ _ _ (by omega), heap_setCell_same _ _ _ _ _ _ h.hq]
    obtain rfl | rfl | rfl | rfl : k = 0 ∨ k = 1 ∨ k = 2 ∨ k = 3 := by omega
    all_goals simp [barC]
theorem BarK.done {N : Nat} {bb : Nat → Nat} {W W1 wr : World} (h : BarK N bb 4 W W1 wr) (hb : Below W.heap.size W W1) : BarInv (fun _ _ => false) N bb W1.heap.size W wr :=
  ⟨hb.trans (h.B.mono h.z), fun p hp => by have := h.lo p hp; have := h.z; omega, h.h, fun p hp => by have := h.lo p hp; omega, fun p r hp hr e => h.ne p r hp hr e, by have := h.hq; simpa [barC] using this⟩
theorem bRow_made (N : Nat) : madeCells #[Value.bool false] N = bRow (fun _ => false) N := by
  apply Array.ext'
  rw [toList_madeCells_one]
  simp [bRow, List.map_const']
end Go.Proofs.Ytdalilllakdamaa
