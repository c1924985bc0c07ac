/- When each cloth is dry: the call from outside, at valid fields. -/
import Derived.Test.YtiellodbdidgoaaGd
import Derived.Test.YtiellodbdidgoaaQb
namespace Go.Proofs.Ytiellodbdidgoaa
open Go Go.RowKit Go.Shelf
attribute [local go_sem ↓] Go.wp_at_zero Go.wp_at_succ

theorem infoSpG : (Try.prog.info? 30).map (fun i => (i.zero, i.size, i.bytes)) = some (some (.agg #[.int .i64 0, .int .i64 0]), 2, 16) := by kernel_rfl
theorem made_rowG (n : Nat) : (madeCells (Value.cells (.agg #[.int .i64 0, .int .i64 0])) (n * 2)).toList = (List.replicate (n * 2) (0 : Int)).map iv := by
  refine List.ext_getElem? fun i => ?_
  by_cases h : i < n * 2
  · have h2 : i % 2 = 0 ∨ i % 2 = 1 := by omega
    simp only [madeCells, Value.cells, Array.toList_map, Array.toList_range, List.getElem?_map, List.getElem?_range h, Option.map_some, List.map_replicate, List.getElem?_replicate, if_pos h]
    rcases h2 with h2 | h2 <;> simp [h2]
  · rw [List.getElem?_eq_none (by simp [madeCells]; omega), List.getElem?_eq_none (by simp; omega)]
theorem heap_ownsG {w : World} {base g n : Nat} {e : TypeId} {xs : List Value} (h : w.ownsRow base e 2 (.slice (some ⟨g, 0, none⟩) n n) n xs) : w.heap[g]? = some (.cells xs.toArray e (0, 0)) := by
  rcases h.2 with ⟨h0, _⟩ | ⟨g', cap, cur, h0, hg, hh, h1, h2, h3, h4⟩
  · cases h0
  · cases h0
    rw [hh]
    congr 2
    apply Array.ext'
    rw [← h4, List.take_of_length_le]
    simp; omega
theorem span_newG {w : World} {base g n : Nat} {e : TypeId} (h : w.ownsRow base e 2 (.slice (some ⟨g, 0, none⟩) n n) n (madeCells (Value.cells (.agg #[.int .i64 0, .int .i64 0])) (n * 2)).toList) : w.heap[g]? = some (.cells (rowI (List.replicate (n * 2) 0)) e (0, 0)) := by
  have := heap_ownsG h
  rw [made_rowG] at this
  exact this

/-- A list of spans, flat, of which the first k are filled. -/
def flS (L : List Sp) (n k : Nat) : List Int := (L.take k).flatMap (fun p => [p.1, p.2]) ++ List.replicate ((n - k) * 2) 0
theorem flat2_len (L : List Sp) : (L.flatMap (fun p => [p.1, p.2])).length = L.length * 2 := by
  induction L with
  | nil => rfl
  | cons p L ih => simp [List.flatMap_cons, ih]; omega
theorem flS_len {L : List Sp} {n k : Nat} (hL : L.length = n) (hk : k ≤ n) : (flS L n k).length = n * 2 := by
  simp only [flS, List.length_append, flat2_len, List.length_take, List.length_replicate]; omega
theorem flS_zero (L : List Sp) (n : Nat) : flS L n 0 = List.replicate (n * 2) 0 := by simp [flS]
theorem flS_succ {L : List Sp} {n k : Nat} {p : Sp} (hL : L.length = n) (hk : L[k]? = some p) : ((flS L n k).set (k * 2) p.1).set (k * 2 + 1) p.2 = flS L n (k + 1) := by
  have hlt := (List.getElem?_eq_some_iff.1 hk).1
  have hlen : ((L.take k).flatMap (fun p => [p.1, p.2])).length = k * 2 := by rw [flat2_len, List.length_take]; omega
  have ht : L.take (k + 1) = L.take k ++ [p] := by rw [List.take_add_one, hk]; rfl
  unfold flS
  rw [ht, List.flatMap_append, show (n - k) * 2 = (n - (k + 1)) * 2 + 1 + 1 by omega, List.replicate_succ, List.replicate_succ]
  rw [List.set_append_right _ _ (by omega), hlen, List.set_append_right _ _ (by omega), hlen]
  simp
theorem flS_get {L : List Sp} {n i : Nat} {p : Sp} (hL : L.length = n) (hi : L[i]? = some p) : (flS L n n).getD (i * 2) 0 = p.1 ∧ (flS L n n).getD (i * 2 + 1) 0 = p.2 := by
  have hlt := (List.getElem?_eq_some_iff.1 hi).1
  have hd : L.drop i = p :: L.drop (i + 1) := by rw [List.drop_eq_getElem_cons hlt]; congr 1; exact (List.getElem?_eq_some_iff.1 hi).2
  have e : L = L.take i ++ p :: L.drop (i + 1) := by rw [← hd, List.take_append_drop]
  have hlen : ((L.take i).flatMap (fun p => [p.1, p.2])).length = i * 2 := by rw [flat2_len, List.length_take]; omega
  have hf : flS L n n = (L.take i).flatMap (fun p => [p.1, p.2]) ++ (p.1 :: p.2 :: (L.drop (i + 1)).flatMap (fun p => [p.1, p.2])) := by
    unfold flS
    rw [Nat.sub_self, Nat.zero_mul, List.replicate_zero, List.append_nil, List.take_of_length_le (by omega)]
    rw [show L.flatMap (fun p => [p.1, p.2]) = (L.take i ++ p :: L.drop (i + 1)).flatMap (fun p => [p.1, p.2]) from congrArg (fun l => List.flatMap (fun p : Sp => [p.1, p.2]) l) e]
    rw [List.flatMap_append, List.flatMap_cons]; rfl
  rw [hf]
  constructor
  · rw [List.getD_eq_getElem?_getD, List.getElem?_append_right (by omega), hlen, Nat.sub_self]; rfl
  · rw [List.getD_eq_getElem?_getD, List.getElem?_append_right (by omega), hlen, show i * 2 + 1 - i * 2 = 1 by omega]; rfl
theorem slice_flS {w : World} {g n : Nat} {L : List Sp} {t : TypeId} (hL : L.length = n) (hn : n ≤ 1000000) (h : w.heap[g]? = some (.cells (rowI (flS L n n)) t (0, 0))) : SliceOf encS 2 w (.slice (some ⟨g, 0, none⟩) n n) L := by
  subst hL
  refine ⟨some ⟨g, 0, none⟩, L.length, rfl, by omega, fun i p hi => ⟨g, 0, rfl, fun j u hu => ?_⟩⟩
  have hlt := (List.getElem?_eq_some_iff.1 hi).1
  obtain ⟨g0, g1⟩ := flS_get rfl hi
  have hl := flS_len (L := L) rfl (Nat.le_refl _)
  rcases j with _ | _ | j
  · have := cell_rowI (i := i * 2) h (by omega)
    simp only [encS, List.getElem?_cons_zero, Option.some.injEq] at hu
    rw [Nat.zero_add, Nat.add_zero, this, g0, hu]
  · have := cell_rowI (i := i * 2 + 1) h (by omega)
    simp only [encS, List.getElem?_cons_succ, List.getElem?_cons_zero, Option.some.injEq] at hu
    rw [Nat.zero_add, this, g1, hu]
  · simp [encS] at hu
/-- A row of which two cells may have been written. -/
def RowBut (W : World) (g : Nat) (cs : Array Value) (t : TypeId) (i j : Nat) : Prop := ∃ u v, W.heap[g]? = some (.cells ((cs.setIfInBounds i u).setIfInBounds j v) t (0, 0))
theorem RowBut.of {W : World} {g : Nat} {f : List Int} {t : TypeId} {i j : Nat} (h : W.heap[g]? = some (.cells (rowI f) t (0, 0))) (hi : i < f.length) (hj : j < f.length) : RowBut W g (rowI f) t i j := by
  refine ⟨iv (f.getD i 0), iv (f.getD j 0), h.trans ?_⟩
  have e : ∀ k, k < f.length → ∀ l : List Int, l = f → l.set k (f.getD k 0) = f := by
    rintro k hk l rfl
    refine List.ext_getElem? fun m => ?_
    rw [List.getElem?_set]
    split
    · subst m; simp [hk, List.getD_eq_getElem?_getD]
    · rfl
  rw [rowI_set, rowI_set, e i hi f rfl, e j hj f rfl]
theorem RowBut.below {W W' : World} {g : Nat} {cs : Array Value} {t : TypeId} {i j : Nat} (h : RowBut W g cs t i j) (hb : Below W.heap.size W W') : RowBut W' g cs t i j := by
  obtain ⟨u, v, h⟩ := h
  exact ⟨u, v, bblkG hb h⟩
theorem RowBut.set {W : World} {g : Nat} {cs : Array Value} {t : TypeId} {i j : Nat} (h : RowBut W g cs t i j) (u v : Value) : ((W.setCell ⟨g, i, none⟩ u).setCell ⟨g, j, none⟩ v).heap[g]? = some (.cells ((cs.setIfInBounds i u).setIfInBounds j v) t (0, 0)) := by
  obtain ⟨u', v', h⟩ := h
  have h1 := heap_setCell_same W g i _ t u h
  have h2 := heap_setCell_same _ g j _ t v h1
  rw [h2]
  congr 2
  apply Array.ext'
  simp only [Array.toList_setIfInBounds]
  refine List.ext_getElem? fun m => ?_
  simp only [List.getElem?_set, List.length_set]
  by_cases e1 : j = m
  · subst e1; simp
  · by_cases e2 : i = m
    · subst e2; simp [e1]
    · simp [e1, e2]
theorem RowBut.cell {W : World} {g : Nat} {cs : Array Value} {t : TypeId} {i j : Nat} (h : RowBut W g cs t i j) (hi : i < cs.size) (hj : j < cs.size) : (∃ u, W.cell? ⟨g, i, none⟩ = some u) ∧ (∃ v, W.cell? ⟨g, j, none⟩ = some v) ∧ W.frozen? ⟨g, i, none⟩ = false ∧ W.frozen? ⟨g, j, none⟩ = false := by
  obtain ⟨u, v, h⟩ := h
  refine ⟨⟨_, (cell_of_row _ _ _ _ _ _ h).trans (Array.getElem?_eq_getElem (by simp; omega))⟩, ⟨_, (cell_of_row _ _ _ _ _ _ h).trans (Array.getElem?_eq_getElem (by simp; omega))⟩, ?_, ?_⟩ <;> (unfold World.frozen?; rw [h]; rfl)
def cvG (W : World) (b o : Nat) : Value := (W.cell? ⟨b, o, none⟩).getD undef
theorem cvG_of {W : World} {b o : Nat} {v : Value} (h : W.cell? ⟨b, o, none⟩ = some v) : W.cell? ⟨b, o, none⟩ = some (cvG W b o) := by rw [cvG, h]; rfl
theorem isSome_setCellG (W : World) (p q : Addr) (v : Value) : ((W.setCell p v).cell? q).isSome = (W.cell? q).isSome := by
  unfold World.cell? World.setCell
  simp only [Array.getElem?_modify]
  by_cases h : p.block = q.block
  · rw [if_pos h]
    cases hb : W.heap[q.block]? with
    | none => rfl
    | some o =>
      cases o <;> try rfl
      rename_i c e fr
      show Option.isSome (if q.spot.isSome = true then none else (if p.spot.isSome = true then c else c.setIfInBounds p.off v)[q.off]?) = Option.isSome (if q.spot.isSome = true then none else c[q.off]?)
      split
      · rfl
      · split
        · rfl
        · rw [Array.getElem?_setIfInBounds]
          by_cases e : p.off = q.off
          · rw [if_pos e]
            by_cases hs : p.off < c.size
            · rw [if_pos hs, Array.getElem?_eq_getElem (by omega)]; rfl
            · rw [if_neg hs, Array.getElem?_eq_none (by omega)]
          · rw [if_neg e]
  · rw [if_neg h]
/-- What was written in two cells. -/
theorem RowBut.fix {Z : World} {g : Nat} {cs : Array Value} {t : TypeId} {i j : Nat} {u v : Value} (hij : i ≠ j) (hi : i < cs.size) (hj : j < cs.size) (h : RowBut ((Z.setCell ⟨g, i, none⟩ u).setCell ⟨g, j, none⟩ v) g cs t i j) :
    ((Z.setCell ⟨g, i, none⟩ u).setCell ⟨g, j, none⟩ v).heap[g]? = some (.cells ((cs.setIfInBounds i u).setIfInBounds j v) t (0, 0)) := by
  obtain ⟨a, b, hh⟩ := h
  have f0 : ((cs.setIfInBounds i a).setIfInBounds j b)[i]? = some a := by rw [Array.getElem?_setIfInBounds_ne (Ne.symm hij)]; simp [hi]
  have f1 : ((cs.setIfInBounds i a).setIfInBounds j b)[j]? = some b := by simp [hj]
  have hs : (Z.cell? ⟨g, i, none⟩).isSome = true := by
    rw [← isSome_setCellG Z ⟨g, i, none⟩ _ u, ← isSome_setCellG _ ⟨g, j, none⟩ _ v, cell_of_row _ _ _ _ _ _ hh, f0]; rfl
  have hs' : (Z.cell? ⟨g, j, none⟩).isSome = true := by
    rw [← isSome_setCellG Z ⟨g, i, none⟩ _ u, ← isSome_setCellG _ ⟨g, j, none⟩ _ v, cell_of_row _ _ _ _ _ _ hh, f1]; rfl
  have e0 : ((Z.setCell ⟨g, i, none⟩ u).setCell ⟨g, j, none⟩ v).cell? ⟨g, i, none⟩ = some u :=
    (World.cell?_setCell_other (a := ⟨g, j, none⟩) (b := ⟨g, i, none⟩) _ _ (by simp <;> omega)).trans (World.cell?_setCell_same' _ _ _ hs)
  have e1 : ((Z.setCell ⟨g, i, none⟩ u).setCell ⟨g, j, none⟩ v).cell? ⟨g, j, none⟩ = some v := by
    refine World.cell?_setCell_same' _ _ _ ?_
    rw [World.cell?_setCell_other (a := ⟨g, i, none⟩) (b := ⟨g, j, none⟩) _ _ (by simp <;> omega)]; exact hs'
  rw [cell_of_row _ _ _ _ _ _ hh] at e0 e1
  obtain rfl := Option.some.inj (f0.symm.trans e0)
  obtain rfl := Option.some.inj (f1.symm.trans e1)
  exact hh
end Go.Proofs.Ytiellodbdidgoaa
