/- A whole list that came in, appended to a list of one's own; copies of streams and of cloths. -/
import Derived.Test.YtdalilllakdamaaMb
import Derived.Laws.AppendOwnNone
import Derived.Deep.AppendLies
namespace Go.Proofs.Ytdalilllakdamaa
open Go Go.RowKit Go.Shelf
attribute [local go_sem ↓] Go.wp_at_zero Go.wp_at_succ

theorem flat_split {α : Type} {enc : α → List Value} {sz : Nat} (he : ∀ x, (enc x).length = sz) : ∀ (ys : List α) (k : Nat) (u : Value), (ys.flatMap enc)[k]? = some u → ∃ i x j, ys[i]? = some x ∧ (enc x)[j]? = some u ∧ k = i * sz + j
  | [], k, u, h => by simp at h
  | y :: ys, k, u, h => by
    rw [List.flatMap_cons] at h
    by_cases hk : k < sz
    · rw [List.getElem?_append_left (by rw [he]; exact hk)] at h
      exact ⟨0, y, k, rfl, h, by omega⟩
    · rw [List.getElem?_append_right (by rw [he]; omega), he] at h
      obtain ⟨i, x, j, h1, h2, h3⟩ := flat_split he ys _ u h
      exact ⟨i + 1, x, j, h1, h2, by rw [Nat.add_mul]; omega⟩

section
variable {P : Program} {ops : Array Oper} {rest : List Oper} {o : Oper} {a : Act} {w : World} {Q : Exit → Act → World → Prop}
theorem news_of_slice {α : Type} {enc : α → List Value} {sz : Nat} {ad : Addr} {n c : Nat} {ys : List α} (he : ∀ x, (enc x).length = sz) (hy : SliceOf enc sz w (.slice (some ad) n c) ys) : n = ys.length ∧ ∀ j u, (ys.flatMap enc)[j]? = some u → w.cell? (ad.add j) = some u := by
  obtain ⟨a', c', hv, _, hc⟩ := hy
  simp only [Value.slice.injEq] at hv
  obtain ⟨rfl, rfl, rfl⟩ := hv
  refine ⟨rfl, fun k u hu => ?_⟩
  obtain ⟨i, x, j, h1, h2, rfl⟩ := flat_split he ys k u hu
  obtain ⟨b, off, hab, hj⟩ := hc i x h1
  simp only [Option.some.injEq] at hab
  subst hab
  have hadd : (⟨b, off, none⟩ : Addr).add (i * sz + j) = ⟨b, off + i * sz + j, none⟩ := by unfold Addr.add; split <;> simp_all [Nat.add_assoc]
  rw [hadd]; exact hj j u h2

/-- s = append(s, ys...), the list ys not nil -/
theorem L_appendS {α : Type} {enc : α → List Value} {sz e base bytes : Nat} {i : TypeInfo} {z v : Value} {xs : List α} {ad : Addr} {n c : Nat} (ys : List α)
    (hg : o.guard = none) (s x : Operand) (t : TypeId) (hop : o.op = Op.call { callee := Callee.builtin Builtin.append, args := #[s, x], argTypes := #[t, t] })
    (h1 : P.underlying t = some (.slice e)) (h2 : P.info? e = some i) (h3 : i.zero = some z) (h4 : i.size = sz) (h5 : i.bytes = bytes) (h6 : z.cells.size = sz) (h7 : 0 < sz)
    (he : ∀ x, (enc x).length = sz) (h1c : ∀ y, ∀ u ∈ enc y, u.oneCell' = true)
    (hs : a.eval s = v) (hx : a.eval x = .slice (some ad) n c) (hown : Owns enc sz e base w v xs) (hy : SliceOf enc sz w (.slice (some ad) n c) ys)
    (b2 : xs.length + ys.length ≤ maxLen ∧ (xs.length + ys.length) * bytes ≤ 140737488355328) (b3 : base ≤ w.heap.size)
    (hK : ∀ v' w', Owns enc sz e base w' v' (xs ++ ys) → Below base w w' → w.grownBy w' v.ownBlock → wpList P ops Q rest (a.put o.dst v') w') : wpList P ops Q (o :: rest) a w := by
  obtain ⟨hn, hnews⟩ := news_of_slice he hy
  refine wpList_append_own w hg s x t hop base e i z sz bytes h1 h2 h3 h4 h5 h6 h7 v xs.length (xs.flatMap enc) hs hown ad n c (ys.flatMap enc) hx (by rw [flatMap_len he, hn]) hnews (fun u hu => ?_) (by rw [hn]; exact b2.1) (by rw [hn]; exact b2.2) b3 (fun v' w' r1 r2 _ => ?_)
  · obtain ⟨y, _, hu⟩ := List.mem_flatMap.1 hu
    exact h1c y u hu
  · refine hK v' w' ?_ (below_of_own hown b3 r2) r2
    show w'.ownsRow base e sz v' (xs ++ ys).length ((xs ++ ys).flatMap enc)
    rw [List.length_append, List.flatMap_append, ← hn]; exact r1
/-- The same at a step of a drawn region. -/
theorem S_appendS {α : Type} {enc : α → List Value} {sz e base bytes : Nat} {i : TypeInfo} {z v : Value} {xs : List α} {ad : Addr} {n c : Nat} {K : Act → World → Prop} {E : Prop} (ys : List α)
    (hg : o.guard = none) (s x : Operand) (t : TypeId) (hop : o.op = Op.call { callee := Callee.builtin Builtin.append, args := #[s, x], argTypes := #[t, t] })
    (h1 : P.underlying t = some (.slice e)) (h2 : P.info? e = some i) (h3 : i.zero = some z) (h4 : i.size = sz) (h5 : i.bytes = bytes) (h6 : z.cells.size = sz) (h7 : 0 < sz)
    (he : ∀ x, (enc x).length = sz) (h1c : ∀ y, ∀ u ∈ enc y, u.oneCell' = true)
    (hs : a.eval s = v) (hx : a.eval x = .slice (some ad) n c) (hown : Owns enc sz e base w v xs) (hy : SliceOf enc sz w (.slice (some ad) n c) ys)
    (b2 : xs.length + ys.length ≤ maxLen ∧ (xs.length + ys.length) * bytes ≤ 140737488355328) (b3 : base ≤ w.heap.size)
    (hK : ∀ v' w', Owns enc sz e base w' v' (xs ++ ys) → Below base w w' → w.grownBy w' v.ownBlock → K (a.put o.dst v') w') :
    if Region.wanted o (yielded ops a.tmps) = true then Oper.wp P o a w K Q else E := by
  have hw : Region.wanted o (yielded ops a.tmps) = true := by simp [Region.wanted, hg]
  rw [if_pos hw]
  obtain ⟨hn, hnews⟩ := news_of_slice he hy
  refine wp_append_own w s x t hop base e i z sz bytes h1 h2 h3 h4 h5 h6 h7 v xs.length (xs.flatMap enc) hs hown ad n c (ys.flatMap enc) hx (by rw [flatMap_len he, hn]) hnews (fun u hu => ?_) (by rw [hn]; exact b2.1) (by rw [hn]; exact b2.2) b3 (fun v' w' r1 r2 _ => ?_)
  · obtain ⟨y, _, hu⟩ := List.mem_flatMap.1 hu
    exact h1c y u hu
  · refine hK v' w' ?_ (below_of_own hown b3 r2) r2
    show w'.ownsRow base e sz v' (xs ++ ys).length ((xs ++ ys).flatMap enc)
    rw [List.length_append, List.flatMap_append, ← hn]; exact r1
end
section
variable {P : Program} {ops : Array Oper} {o : Oper} {a : Act} {w : World} {Q : Exit → Act → World → Prop}
/-- s = append(s, y) at a step of a drawn region. -/
theorem S_append1 {α : Type} {enc : α → List Value} {sz e base bytes : Nat} {i : TypeInfo} {z v : Value} {xs : List α} {g c : Nat} {K : Act → World → Prop} {E : Prop} (y : α)
    (hg : o.guard = none) (s x : Operand) (t : TypeId) (hop : o.op = Op.call { callee := Callee.builtin Builtin.append, args := #[s, x], argTypes := #[t, t] })
    (h1 : P.underlying t = some (.slice e)) (h2 : P.info? e = some i) (h3 : i.zero = some z) (h4 : i.size = sz) (h5 : i.bytes = bytes) (h6 : z.cells.size = sz) (h7 : 0 < sz)
    (he : ∀ x, (enc x).length = sz) (h1c : ∀ u ∈ enc y, u.oneCell' = true)
    (hs : a.eval s = v) (hx : a.eval x = .slice (some ⟨g, 0, none⟩) 1 c) (hown : Owns enc sz e base w v xs) (hc : ∀ j u, (enc y)[j]? = some u → w.cell? ⟨g, j, none⟩ = some u)
    (b2 : xs.length + 1 ≤ maxLen ∧ (xs.length + 1) * bytes ≤ 140737488355328) (b3 : base ≤ w.heap.size)
    (hK : ∀ g' cap w', Owns enc sz e base w' (.slice (some ⟨g', 0, none⟩) (xs.length + 1) cap) (xs ++ [y]) → Below base w w' → w.grownBy w' v.ownBlock → K (a.put o.dst (.slice (some ⟨g', 0, none⟩) (xs.length + 1) cap)) w') :
    if Region.wanted o (yielded ops a.tmps) = true then Oper.wp P o a w K Q else E := by
  refine step_append_lies w hg s x t hop base e i z sz bytes h1 h2 h3 h4 h5 h6 h7 v xs.length (xs.flatMap enc) hs hown ⟨g, 0, none⟩ 1 c (enc y) hx (by rw [he]; omega) (fun j u hu => ?_) h1c (by omega) b2.1 b2.2 b3 w.heap.size rfl (fun g' cap w' r1 r2 _ _ => ?_)
  · have hadd : (⟨g, 0, none⟩ : Addr).add j = ⟨g, j, none⟩ := by unfold Addr.add; split <;> simp_all
    rw [hadd]; exact hc j u hu
  · refine hK g' cap w' ?_ (below_of_own hown b3 r2) r2
    show w'.ownsRow base e sz _ (xs ++ [y]).length ((xs ++ [y]).flatMap enc)
    simpa using r1
end
theorem encT_cell {w : World} {g : Nat} {y : Tk} {t : TypeId} (h : w.heap[g]? = some (.cells #[iv y.fl, iv y.fh, iv y.rl, iv y.rh] t (0, 0))) : ∀ j u, (encT y)[j]? = some u → w.cell? ⟨g, j, none⟩ = some u := by
  intro j u hu
  rw [cell_of_row _ _ _ _ _ _ h]
  rcases j with _ | _ | _ | _ | j <;> simp [encT] at hu ⊢ <;> exact hu
theorem encT_len (t : Tk) : (encT t).length = 4 := rfl
theorem encT_one (t : Tk) : ∀ u ∈ encT t, u.oneCell' = true := by intro u hu; simp [encT] at hu; rcases hu with rfl | rfl | rfl | rfl <;> rfl
/-- An empty list of one's own, not nil. -/
theorem owns_empty {α : Type} (enc : α → List Value) (sz e base : Nat) (w : World) (h : base ≤ w.heap.size) : Owns enc sz e base (w.alloc (.cells #[] e)) (.slice (some ⟨w.heap.size, 0, none⟩) 0 0) [] := by
  refine ⟨by simp, .inr ⟨w.heap.size, 0, #[], rfl, h, heap_new _ _ _, Nat.le_refl _, by simp [maxLen], by simp, by simp⟩⟩

/-- What a cell holds. -/
def cv (W : World) (b o : Nat) : Value := (W.cell? ⟨b, o, none⟩).getD undef
theorem cv_of {W : World} {b o : Nat} {v : Value} (h : W.cell? ⟨b, o, none⟩ = some v) : W.cell? ⟨b, o, none⟩ = some (cv W b o) := by rw [cv, h]; rfl
theorem own_blk {α : Type} (enc : α → List Value) (sz e base : Nat) {w : World} {g : Nat} (h : w.heap[g]? = some (.cells #[] e (0, 0))) (hb : base ≤ g) : Owns enc sz e base w (.slice (some ⟨g, 0, none⟩) 0 0) [] :=
  ⟨by simp, .inr ⟨g, 0, #[], rfl, hb, h, Nat.le_refl _, by simp [maxLen], by simp, by simp⟩⟩
theorem heap_new1 (w : World) (z : Array Value) (t : TypeId) (o : Obj) : ((w.alloc (.cells z t)).alloc o).heap[w.heap.size]? = some (.cells z t (0, 0)) := (Below.heap_alloc _ _ _ (by simp)).trans (heap_new w z t)
theorem heapA {w : World} {z : Array Value} {t : TypeId} {k : Nat} (hk : k = w.heap.size) : (w.alloc (.cells z t)).heap[k]? = some (.cells z t (0, 0)) := by subst hk; exact heap_new _ _ _
theorem heapB {w : World} {z : Array Value} {t : TypeId} {k : Nat} (hk : k = w.heap.size) : (w.alloc (.cells z t)).drew.heap[k]? = some (.cells z t (0, 0)) := heapA hk
theorem heapC {w : World} {z : Array Value} {t : TypeId} {k : Nat} {o : Obj} (hk : k = w.heap.size) : ((w.alloc (.cells z t)).alloc o).heap[k]? = some (.cells z t (0, 0)) := by subst hk; exact heap_new1 _ _ _ _
theorem heapD {w : World} {z : Array Value} {t : TypeId} {k : Nat} {o : Obj} (hk : k = w.heap.size) : ((w.alloc (.cells z t)).alloc o).drew.heap[k]? = some (.cells z t (0, 0)) := heapC hk
theorem isSome_setCell (W : World) (p q : Addr) (v : Value) : ((W.setCell p v).cell? q).isSome = (W.cell? q).isSome := by
  unfold World.cell? World.setCell
  simp only [Array.getElem?_modify]
  by_cases h : p.block = q.block
  · rw [if_pos h]
    cases hb : W.heap[q.block]? with
    | none => rfl
    | some o =>
      cases o <;> try rfl
      rename_i c e fr
      show Option.isSome (if q.spot.isSome = true then none else (if p.spot.isSome = true then c else c.setIfInBounds p.off v)[q.off]?) = Option.isSome (if q.spot.isSome = true then none else c[q.off]?)
      split
      · rfl
      · split
        · rfl
        · rw [Array.getElem?_setIfInBounds]
          by_cases e : p.off = q.off
          · rw [if_pos e]
            by_cases hs : p.off < c.size
            · rw [if_pos hs, Array.getElem?_eq_getElem (by omega)]; rfl
            · rw [if_neg hs, Array.getElem?_eq_none (by omega)]
          · rw [if_neg e]
  · rw [if_neg h]
theorem set2_at0 {X : World} {b : Nat} {u v x : Value} (h : ((X.setCell ⟨b, 0, none⟩ u).setCell ⟨b, 1, none⟩ v).cell? ⟨b, 0, none⟩ = some x) : ((X.setCell ⟨b, 0, none⟩ u).setCell ⟨b, 1, none⟩ v).cell? ⟨b, 0, none⟩ = some u := by
  have h1 : (X.cell? ⟨b, 0, none⟩).isSome = true := by rw [← isSome_setCell X ⟨b, 0, none⟩ _ u, ← isSome_setCell _ ⟨b, 1, none⟩ _ v, h]; rfl
  exact (World.cell?_setCell_other (a := ⟨b, 1, none⟩) (b := ⟨b, 0, none⟩) _ _ (by simp)).trans (World.cell?_setCell_same' _ _ _ h1)
theorem set2_at1 {X : World} {b : Nat} {u v x : Value} (h : ((X.setCell ⟨b, 0, none⟩ u).setCell ⟨b, 1, none⟩ v).cell? ⟨b, 1, none⟩ = some x) : ((X.setCell ⟨b, 0, none⟩ u).setCell ⟨b, 1, none⟩ v).cell? ⟨b, 1, none⟩ = some v := by
  have h1 : ((X.setCell ⟨b, 0, none⟩ u).cell? ⟨b, 1, none⟩).isSome = true := by rw [← isSome_setCell _ ⟨b, 1, none⟩ _ v, h]; rfl
  exact World.cell?_setCell_same' _ _ _ h1
theorem SliceOf.at_block {α : Type} {enc : α → List Value} {sz : Nat} {w w' : World} {g n c : Nat} {xs : List α} (h : SliceOf enc sz w (.slice (some ⟨g, 0, none⟩) n c) xs) (hc : ∀ o u, w.cell? ⟨g, o, none⟩ = some u → w'.cell? ⟨g, o, none⟩ = some u) : SliceOf enc sz w' (.slice (some ⟨g, 0, none⟩) n c) xs := by
  obtain ⟨a, cap, hv, hl, hx⟩ := h
  refine ⟨a, cap, hv, hl, fun i x hi => ?_⟩
  simp only [Value.slice.injEq] at hv
  obtain ⟨b, off, hab, hj⟩ := hx i x hi
  refine ⟨b, off, hab, fun j u hu => ?_⟩
  have e := hv.1.trans hab
  simp only [Option.some.injEq, Addr.mk.injEq] at e
  rw [← e.1] at hj ⊢
  exact hc _ _ (hj j u hu)
theorem cell_set2_other {X : World} {b g o : Nat} {u v : Value} (h : b ≠ g) : ((X.setCell ⟨b, 0, none⟩ u).setCell ⟨b, 1, none⟩ v).cell? ⟨g, o, none⟩ = X.cell? ⟨g, o, none⟩ :=
  World.cell?_of_block ((Below.heap_setCell _ _ _ _ (Ne.symm h)).trans (Below.heap_setCell _ _ _ _ (Ne.symm h)))
theorem kdrew1 {X : World} {a : Addr} {v : Value} {o : Obj} (h : X.cell? a = some v) : (X.alloc o).drew.cell? a = some v := (World.cell?_alloc_lt _ _ _ (World.block_lt_of_cell? X _ h)).trans h
theorem kdrew2 {X : World} {a : Addr} {v : Value} {o o' : Obj} (h : X.cell? a = some v) : ((X.alloc o).alloc o').drew.cell? a = some v := kdrew1 (X := X.alloc o) ((World.cell?_alloc_lt _ _ _ (World.block_lt_of_cell? X _ h)).trans h)
theorem S_appendNone {P : Program} {ops : Array Oper} {o : Oper} {a : Act} {w : World} {Q : Exit → Act → World → Prop} {e size : Nat} {i : TypeInfo} {v : Value} {n base : Nat} {xs : List Value} {K : Act → World → Prop} {E : Prop}
    (hg : o.guard = none) (s x : Operand) (t : TypeId) (hop : o.op = Op.call { callee := Callee.builtin Builtin.append, args := #[s, x], argTypes := #[t, t] })
    (h1 : P.underlying t = some (.slice e)) (h2 : P.info? e = some i) (hs : a.eval s = v) (hx : a.eval x = .slice none 0 0) (hown : w.ownsRow base e size v n xs) (hK : K (a.put o.dst v) w) :
    if Region.wanted o (yielded ops a.tmps) = true then Oper.wp P o a w K Q else E := by
  have hw : Region.wanted o (yielded ops a.tmps) = true := by simp [Region.wanted, hg]
  rw [if_pos hw]
  have hrun := run_append_owned_none (P := P) (w := w) base t o.type e i size h1 h2 v n xs hown
  unfold Oper.wp
  simp [execOp, hop, resolve, invoke, builtin, hs, hx, hrun, Result.andThen]
  exact hK

theorem hB_of1 {B : Nat} {X : World} {o : Obj} (h : B + 2 ≤ (X.alloc o).heap.size) : B ≤ X.heap.size := by simp at h; omega
theorem hB_of2 {B : Nat} {X : World} {o o' : Obj} (h : B + 2 ≤ ((X.alloc o).alloc o').heap.size) : B ≤ X.heap.size := by simp at h; omega
theorem hB_of3 {B : Nat} {X : World} {o o' : Obj} (h : B + 2 ≤ ((X.alloc o).alloc o').heap.size) : B ≤ (X.alloc o).heap.size := by simp at h ⊢; omega
theorem _root_.Nat.four_pos' : 0 < 4 := by omega
theorem bput2 {w W : World} {b : Nat} {u v : Value} (h : Below w.heap.size w W) (hb : w.heap.size ≤ b) : Below w.heap.size w ((W.setCell ⟨b, 0, none⟩ u).setCell ⟨b, 1, none⟩ v) := bput (bput h (p := ⟨b, 0, none⟩) hb u) (p := ⟨b, 1, none⟩) hb v
theorem keepStore {w X : World} {ad : Addr} {c : Nat} {T : List Tk} {u v : Value} (hf : SliceOf encT 4 w (.slice (some ad) T.length c) T) (h : w.heap.size + 2 ≤ X.heap.size ∧ X.cell? ⟨w.heap.size, 0, none⟩ = some (.slice (some ad) T.length c) ∧ X.cell? ⟨w.heap.size, 1, none⟩ = some (.slice none 0 0) ∧ X.cell? ⟨w.heap.size + 1, 0, none⟩ = some (cv X (w.heap.size + 1) 0) ∧ X.cell? ⟨w.heap.size + 1, 1, none⟩ = some (cv X (w.heap.size + 1) 1) ∧ X.frozen? ⟨w.heap.size + 1, 0, none⟩ = false ∧ X.frozen? ⟨w.heap.size + 1, 1, none⟩ = false ∧ SliceOf encT 4 X (.slice (some ad) T.length c) T ∧ Below w.heap.size w X) : w.heap.size + 2 ≤ ((X.setCell ⟨w.heap.size + 1, 0, none⟩ u).setCell ⟨w.heap.size + 1, 1, none⟩ v).heap.size ∧ ((X.setCell ⟨w.heap.size + 1, 0, none⟩ u).setCell ⟨w.heap.size + 1, 1, none⟩ v).cell? ⟨w.heap.size, 0, none⟩ = some (.slice (some ad) T.length c) ∧ ((X.setCell ⟨w.heap.size + 1, 0, none⟩ u).setCell ⟨w.heap.size + 1, 1, none⟩ v).cell? ⟨w.heap.size, 1, none⟩ = some (.slice none 0 0) ∧ ((X.setCell ⟨w.heap.size + 1, 0, none⟩ u).setCell ⟨w.heap.size + 1, 1, none⟩ v).cell? ⟨w.heap.size + 1, 0, none⟩ = some (cv ((X.setCell ⟨w.heap.size + 1, 0, none⟩ u).setCell ⟨w.heap.size + 1, 1, none⟩ v) (w.heap.size + 1) 0) ∧ ((X.setCell ⟨w.heap.size + 1, 0, none⟩ u).setCell ⟨w.heap.size + 1, 1, none⟩ v).cell? ⟨w.heap.size + 1, 1, none⟩ = some (cv ((X.setCell ⟨w.heap.size + 1, 0, none⟩ u).setCell ⟨w.heap.size + 1, 1, none⟩ v) (w.heap.size + 1) 1) ∧ ((X.setCell ⟨w.heap.size + 1, 0, none⟩ u).setCell ⟨w.heap.size + 1, 1, none⟩ v).frozen? ⟨w.heap.size + 1, 0, none⟩ = false ∧ ((X.setCell ⟨w.heap.size + 1, 0, none⟩ u).setCell ⟨w.heap.size + 1, 1, none⟩ v).frozen? ⟨w.heap.size + 1, 1, none⟩ = false ∧ SliceOf encT 4 ((X.setCell ⟨w.heap.size + 1, 0, none⟩ u).setCell ⟨w.heap.size + 1, 1, none⟩ v) (.slice (some ad) T.length c) T ∧ Below w.heap.size w ((X.setCell ⟨w.heap.size + 1, 0, none⟩ u).setCell ⟨w.heap.size + 1, 1, none⟩ v) := by
  obtain ⟨h1, h2, h3, h4, h5, h6, h7, h8, h9⟩ := h
  have hb := bput2 (u := u) (v := v) h9 (Nat.le_succ w.heap.size)
  have hsame : ∀ b o, b ≠ w.heap.size + 1 → ((X.setCell ⟨w.heap.size + 1, 0, none⟩ u).setCell ⟨w.heap.size + 1, 1, none⟩ v).cell? ⟨b, o, none⟩ = X.cell? ⟨b, o, none⟩ := fun b o hne =>
    World.cell?_of_block ((Below.heap_setCell _ _ _ _ hne).trans (Below.heap_setCell _ _ _ _ hne))
  have c0 : ((X.setCell ⟨w.heap.size + 1, 0, none⟩ u).setCell ⟨w.heap.size + 1, 1, none⟩ v).cell? ⟨w.heap.size + 1, 0, none⟩ = some u := by go_simp
  have c1 : ((X.setCell ⟨w.heap.size + 1, 0, none⟩ u).setCell ⟨w.heap.size + 1, 1, none⟩ v).cell? ⟨w.heap.size + 1, 1, none⟩ = some v := by go_simp
  refine ⟨by simpa [World.setCell] using h1, (hsame _ _ (by omega)).trans h2, (hsame _ _ (by omega)).trans h3, cv_of c0, cv_of c1, ?_, ?_, SliceOf.below hf hb, hb⟩
  · go_simp
  · go_simp
/-- What stays, and what comes, when a list is appended to an empty one of block g. -/
structure Fresh {α : Type} (enc : α → List Value) (sz : Nat) (B g g' : Nat) (W w' : World) (v' : Value) (ys : List α) : Prop where
  sl : SliceOf enc sz w' v' ys
  cell : ∀ a u, W.cell? a = some u → a.block ≠ g' ∧ w'.cell? a = some u
  frozen : ∀ a u, W.cell? a = some u → w'.frozen? a = W.frozen? a
  below : Below B W w'
  block : ∀ k, k < W.heap.size → k ≠ g → w'.heap[k]? = W.heap[k]?
theorem S_appendE {P : Program} {ops : Array Oper} {o : Oper} {a : Act} {w : World} {Q : Exit → Act → World → Prop} {α : Type} {enc : α → List Value} {sz e bytes : Nat} {i : TypeInfo} {z : Value} {ad : Addr} {n c g B : Nat} {K : Act → World → Prop} {E : Prop} (ys : List α) (hne : ys ≠ [])
    (hg : o.guard = none) (s x : Operand) (t : TypeId) (hop : o.op = Op.call { callee := Callee.builtin Builtin.append, args := #[s, x], argTypes := #[t, t] })
    (h1 : P.underlying t = some (.slice e)) (h2 : P.info? e = some i) (h3 : i.zero = some z) (h4 : i.size = sz) (h5 : i.bytes = bytes) (h6 : z.cells.size = sz) (h7 : 0 < sz)
    (he : ∀ x, (enc x).length = sz) (h1c : ∀ y, ∀ u ∈ enc y, u.oneCell' = true)
    (hs : a.eval s = .slice (some ⟨g, 0, none⟩) 0 0) (hx : a.eval x = .slice (some ad) n c) (h0 : w.heap[g]? = some (.cells #[] e (0, 0))) (hy : SliceOf enc sz w (.slice (some ad) n c) ys)
    (b2 : ys.length ≤ maxLen ∧ ys.length * bytes ≤ 140737488355328) (hB : B ≤ g)
    (hK : ∀ g' cap w', Fresh enc sz B g g' w w' (.slice (some ⟨g', 0, none⟩) ys.length cap) ys → K (a.put o.dst (.slice (some ⟨g', 0, none⟩) ys.length cap)) w') :
    if Region.wanted o (yielded ops a.tmps) = true then Oper.wp P o a w K Q else E := by
  obtain ⟨hn, hnews⟩ := news_of_slice he hy
  have hgl : g < w.heap.size := (Array.getElem?_eq_some_iff.1 h0).1
  have hpos : 0 < ys.length := List.length_pos_iff.2 hne
  have hnog : ∀ (a : Addr) u, w.cell? a = some u → a.block ≠ g := by
    intro a u hu e
    unfold World.cell? at hu
    rw [e, h0] at hu
    simp at hu
  refine step_append_lies w hg s x t hop B e i z sz bytes h1 h2 h3 h4 h5 h6 h7 _ 0 [] hs (own_blk enc sz e B h0 hB) ad n c (ys.flatMap enc) hx (by rw [flatMap_len he, hn]) hnews (fun u hu => ?_) (by omega) (by rw [hn]; simpa using b2.1) (by rw [hn]; simpa using b2.2) (by omega) w.heap.size rfl (fun g' cap w' r1 r2 r3 r4 => ?_)
  · obtain ⟨y, _, hu⟩ := List.mem_flatMap.1 hu
    exact h1c y u hu
  · have hcb : ∀ (a : Addr) u, w.cell? a = some u → a.block < w.heap.size := fun a u hu => World.block_lt_of_cell? w _ hu
    have hblk : ∀ k, k < w.heap.size → k ≠ g → w'.heap[k]? = w.heap[k]? := fun k hk hkg => r2.block k hk (by simp only [Value.ownBlock, ne_eq, Option.some.injEq]; exact hkg)
    rw [Nat.zero_add, hn]
    refine hK g' cap w' ⟨?_, fun a u hu => ⟨?_, ?_⟩, fun a u hu => ?_, ?_, hblk⟩
    · have hr : Owns enc sz e B w' (.slice (some ⟨g', 0, none⟩) ys.length cap) ys := by
        have : w'.ownsRow B e sz (.slice (some ⟨g', 0, none⟩) ys.length cap) ys.length (ys.flatMap enc) := by
          have h := r1
          simp only [List.nil_append, Nat.zero_add, hn] at h ⊢
          exact h
        exact this
      exact hr.slice he (by have := b2.1; unfold maxLen at this; have := hy.len; exact this)
    · rcases r3 with h | h
      · simp only [Value.ownBlock, Option.some.injEq] at h
        rw [← h]; exact hnog a u hu
      · have := hcb a u hu; omega
    · exact (World.cell?_of_block (hblk _ (hcb a u hu) (hnog a u hu))).trans hu
    · exact World.frozen?_of_block (hblk _ (hcb a u hu) (hnog a u hu))
    · exact (Below.refl B w).grown r2 (by omega) (fun k hk => by simp only [Value.ownBlock, Option.some.injEq] at hk; omega)

end Go.Proofs.Ytdalilllakdamaa
