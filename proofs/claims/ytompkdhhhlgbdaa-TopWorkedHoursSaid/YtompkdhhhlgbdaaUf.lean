/- Three rows of 49 answers. -/
import Derived.Test.YtompkdhhhlgbdaaUe
import Derived.Deep.MidRow
namespace Go.Proofs.Ytompkdhhhlgbdaa
open Go Go.RowKit Go.Shelf

/-- Three rows of 49 answers. -/
def drow (f : Nat → Nat → Bool) : Array Value := Array.ofFn (n := 147) fun i => .bool (f (i.val / 49) (i.val % 49))
theorem drow_get (f : Nat → Nat → Bool) (i : Nat) : (drow f)[i]? = if i < 147 then some (.bool (f (i / 49) (i % 49))) else none := by
  simp only [drow, Array.getElem?_ofFn]
  split <;> rfl
theorem drow_size (f : Nat → Nat → Bool) : (drow f).size = 147 := by simp [drow]
theorem drow_congr {f g : Nat → Nat → Bool} (h : ∀ k, k < 3 → ∀ j, j < 49 → f k j = g k j) : drow f = drow g := by
  apply Array.ext_getElem?
  intro i
  rw [drow_get, drow_get]
  split
  · rw [h (i / 49) (by omega) (i % 49) (by omega)]
  · rfl
theorem drow_one (f : Nat → Nat → Bool) : (drow f).all (·.oneCell') = true := by
  rw [Array.all_eq_true]
  intro i hi
  have h := drow_get f i
  rw [Array.getElem?_eq_getElem hi] at h
  rw [drow_size] at hi
  rw [if_pos hi] at h
  rw [Option.some.inj h]
  rfl
def zeroD : Array Value := Array.replicate 147 (.bool false)
theorem zeroD_eq : zeroD = drow (fun _ _ => false) := by
  apply Array.ext_getElem?
  intro i
  rw [drow_get, zeroD, Array.getElem?_replicate]
theorem zinfoD : (Try.prog.info? 114).map (·.zero) = some (some (.agg (drow (fun _ _ => false)))) := by rw [← zeroD_eq]; kernel_rfl
theorem sinfoD (f : Nat → Nat → Bool) : (Try.prog.info? 114).map (·.size) = some (drow f).size := by rw [drow_size]; kernel_rfl
/-- The answers as a list. -/
def clist (f : Nat → Bool) : List Value := (List.range 49).map fun i => .bool (f i)
theorem clist_len (f : Nat → Bool) : (clist f).length = 49 := by simp [clist]
theorem clist_arr (f : Nat → Bool) : (clist f).toArray = crow f := by
  apply Array.ext_getElem?
  intro i
  rw [crow_get, List.getElem?_toArray, clist, List.getElem?_map]
  by_cases h : i < 49
  · rw [if_pos h, List.getElem?_range h]; rfl
  · rw [if_neg h, List.getElem?_eq_none (by simp; omega)]; rfl
theorem clist_one (f : Nat → Bool) : ∀ v ∈ clist f, v.oneCell' = true := by
  intro v hv
  obtain ⟨i, -, rfl⟩ := List.mem_map.1 hv
  rfl
theorem sinfoCl (f : Nat → Bool) : (Try.prog.info? 113).map (·.size) = some (clist f).length := by rw [clist_len]; kernel_rfl
theorem drow_ext (f : Nat → Nat → Bool) {k : Nat} (hk : k < 3) : (drow f).extract (k * 49) (k * 49 + 49) = crow (f k) := by
  apply Array.ext_getElem?
  intro i
  rw [crow_get, Array.getElem?_extract, drow_size]
  by_cases h : i < 49
  · rw [if_pos h, if_pos (by omega), drow_get, if_pos (by omega), show (k * 49 + i) / 49 = k by omega, show (k * 49 + i) % 49 = i by omega]
  · rw [if_neg h, if_neg (by omega)]
theorem index_d (f : Nat → Nat → Bool) {k : Nat} (hk : k < 3) (w : World) : (Instr.index 114 (.agg (drow f)) (.int .i64 (k : Int))).run Try.prog w = .ok (.agg (crow (f k))) w := by
  have h1 := drow_ext f hk
  simp [Instr.index, go_sem]
  rw [if_pos hk, h1]
theorem cells_heap {b : Nat} {t : TypeId} : ∀ (cs : List Value) (o : Nat) (old : Array Value) (W : World), W.heap[b]? = some (.cells old t (0, 0)) → ∃ new, (W.setCells b o cs).heap[b]? = some (.cells new t (0, 0)) ∧ ∀ i, new[i]? = if o ≤ i ∧ i < o + cs.length ∧ i < old.size then cs[i - o]? else old[i]?
  | [], o, old, W, h => ⟨old, h, fun i => by rw [if_neg (by simp; omega)]⟩
  | v :: r, o, old, W, h => by
    obtain ⟨new, h1, h2⟩ := cells_heap r (o + 1) _ _ (heap_setCell_same W b o old t v h)
    refine ⟨new, h1, fun i => ?_⟩
    rw [h2, Array.size_setIfInBounds, Array.getElem?_setIfInBounds]
    by_cases e : o = i
    · subst e
      rw [if_neg (by omega), if_pos rfl]
      by_cases hs : o < old.size
      · rw [if_pos hs, if_pos (by simp; omega)]; simp
      · rw [if_neg hs, if_neg (by omega), Array.getElem?_eq_none (by omega)]
    · rw [if_neg e]
      by_cases hc : o + 1 ≤ i ∧ i < o + 1 + r.length ∧ i < old.size
      · rw [if_pos hc, if_pos (by simp; omega)]
        rw [show i - o = (i - (o + 1)) + 1 by omega]; rfl
      · rw [if_neg hc, if_neg (by simp; omega)]
theorem cells_other {b k : Nat} (hk : k ≠ b) : ∀ (cs : List Value) (o : Nat) (W : World), (W.setCells b o cs).heap[k]? = W.heap[k]?
  | [], _, _ => rfl
  | v :: r, o, W => by rw [World.setCells, cells_other hk r]; exact Below.heap_setCell _ _ _ _ hk
theorem bcells {B b : Nat} {w : World} (hb : B ≤ b) : ∀ (cs : List Value) (o : Nat) (W : World), Below B w W → Below B w (W.setCells b o cs)
  | [], _, _, h => h
  | v :: r, o, W, h => by rw [World.setCells]; exact bcells hb r (o + 1) _ (h.setCell hb v)
theorem cells_drow {f : Nat → Nat → Bool} {g : Nat → Bool} {b k : Nat} {t : TypeId} {W : World} (h : W.heap[b]? = some (.cells (drow f) t (0, 0))) :
    (W.setCells b (k * 49) (clist g)).heap[b]? = some (.cells (drow fun i j => if i = k then g j else f i j) t (0, 0)) := by
  obtain ⟨new, h1, h2⟩ := cells_heap (clist g) (k * 49) _ W h
  have e : new = drow fun i j => if i = k then g j else f i j := by
    apply Array.ext_getElem?
    intro i
    rw [h2, clist_len, drow_size, drow_get, drow_get]
    by_cases hc : k * 49 ≤ i ∧ i < k * 49 + 49 ∧ i < 147
    · rw [if_pos hc, if_pos (by omega), if_pos (by omega), clist, List.getElem?_map, List.getElem?_range (by omega)]
      rw [show i - k * 49 = i % 49 by omega]; rfl
    · rw [if_neg hc]
      by_cases hi : i < 147
      · rw [if_pos hi, if_pos hi, if_neg (by omega)]
      · rw [if_neg hi, if_neg hi]
  rw [h1, e]
theorem scell {W : World} {b b' o o' : Nat} {cs : List Value} {v : Value} (hne : b' ≠ b) (h : W.cell? ⟨b', o', none⟩ = some v) : (W.setCells b o cs).cell? ⟨b', o', none⟩ = some v := (World.cell?_of_block (cells_other hne cs o W)).trans h
theorem there_row {W : World} {b o n : Nat} {cs : Array Value} {t : TypeId} (h : W.heap[b]? = some (.cells cs t (0, 0))) (hn : o + n ≤ cs.size) : W.there b o n := fun j hj => by
  refine ⟨?_, frozen_of_row _ _ _ _ _ h⟩
  rw [cell_of_row _ _ _ _ _ _ h, Array.getElem?_eq_getElem (by omega)]; rfl
theorem there_below {W W1 : World} {b o n : Nat} (h : W.there b o n) (hb : Below W.heap.size W W1) : W1.there b o n := fun j hj => by
  obtain ⟨h1, h2⟩ := h j hj
  obtain ⟨u, hu⟩ := Option.isSome_iff_exists.1 h1
  have hl := World.block_lt_of_cell? W _ hu
  exact ⟨by rw [hb.cell hl, hu]; rfl, by rw [hb.frozen hl]; exact h2⟩
end Go.Proofs.Ytompkdhhhlgbdaa
