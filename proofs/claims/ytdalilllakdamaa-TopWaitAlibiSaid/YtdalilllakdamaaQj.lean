/- Turns: slices.SortFunc by the custom. -/
import Derived.Test.YtdalilllakdamaaQi
import Derived.Test.YtdalilllakdamaaQs
import Derived.Sort.OwnSortedInts
namespace Go.Proofs.Ytdalilllakdamaa
open Go Go.RowKit Go.Shelf

theorem cfK_neg (C : List Ct) (R z : List Int) (a b : Nat) : cfK C R z a b < 0 ↔ ((ctAt C a).co < (ctAt C b).co ∨ (ctAt C a).co = (ctAt C b).co ∧ (z.getD a 0 < z.getD b 0 ∨ z.getD a 0 = z.getD b 0 ∧ rkC C R a < rkC C R b)) := by
  have hc : ∀ x y : Int, (cmpI x y < 0 ↔ x < y) ∧ (cmpI x y = 0 ↔ x = y) := fun x y => by
    unfold cmpI; split
    · constructor <;> constructor <;> intro h <;> omega
    · split <;> constructor <;> constructor <;> intro h <;> omega
  obtain ⟨p1, p2⟩ := hc (ctAt C a).co (ctAt C b).co
  obtain ⟨q1, q2⟩ := hc (z.getD a 0) (z.getD b 0)
  obtain ⟨r1, r2⟩ := hc (rkC C R a) (rkC C R b)
  unfold cfK orL
  split
  · unfold orL
    split
    · unfold orL
      split
      · unfold orL; omega
      · omega
    · omega
  · omega
theorem swoK (C : List Ct) (R z : List Int) (n : Nat) : Go.Sort.SWO (ltOf (fun x y : Fin n => cfK C R z x.val y.val)) where
  irrefl x := by unfold ltOf; rw [decide_eq_false_iff_not, cfK_neg]; omega
  trans x y u h1 h2 := by unfold ltOf at *; rw [decide_eq_true_eq, cfK_neg] at *; omega
  ntrans x y u h1 h2 := by unfold ltOf at *; rw [decide_eq_false_iff_not, cfK_neg] at *; omega
theorem grn_grow {w w' : World} (h : Grn w w') : ∃ q os, w' = Go.Sort.grow (w.drewN q) os := by
  obtain ⟨⟨h1, h2, h3, h4, h5⟩, h6⟩ := h
  refine ⟨w'.drawn - w.drawn, w'.heap.extract w.heap.size w'.heap.size, ?_⟩
  have hh : w'.heap = w.heap ++ w'.heap.extract w.heap.size w'.heap.size := by
    apply Array.ext_getElem?
    intro i
    rw [Array.getElem?_append]
    split
    · rename_i hi; exact h5 i hi
    · rename_i hi
      rw [Array.getElem?_extract]
      split
      · congr 1; omega
      · rw [Array.getElem?_eq_none (by omega)]
  obtain ⟨hp, tp, dr, os, out⟩ := w'
  simp only at h1 h2 h3 h4 h5 h6 hh
  subst h1 h2 h3
  simp only [Go.Sort.grow, World.drewN, World.mk.injEq, true_and, and_true]
  exact ⟨hh, by omega⟩
def encF {n : Nat} (x : Fin n) : Value := iv (x.val : Int)
theorem sw_block {α : Type} [Inhabited α] (enc : α → Value) (w : World) (blk off m : Nat) (dk : Array α) (os : Array Obj) {k : Nat} (hk : k < w.heap.size) (hne : k ≠ blk) : (sortWorld enc w blk off m dk os).heap[k]? = w.heap[k]? := by
  unfold sortWorld
  rw [Go.Sort.heap_grow_old _ _ (by simpa using hk)]
  have : blk ≠ k := fun e => hne e.symm
  simp [Go.Sort.putRow, Go.Sort.mapBlock, Go.Sort.ahead, Array.getElem?_modify, this]
theorem sw_size {α : Type} [Inhabited α] (enc : α → Value) (w : World) (blk off m : Nat) (dk : Array α) (os : Array Obj) : w.heap.size ≤ (sortWorld enc w blk off m dk os).heap.size := by
  unfold sortWorld
  simp [Go.Sort.grow]
theorem put_fin {n : Nat} [Inhabited (Fin n)] (off : Nat) (d : Array (Fin n)) (c : Array Value) : Go.Sort.putCells (encF (n := n)) off d c = Go.Sort.putCells (Value.int .i64) off (d.map fun x => (x.val : Int)) c := by
  unfold Go.Sort.putCells
  congr 1
  funext k x
  rw [Array.size_map]
  split
  · rename_i h
    have hk : k - off < d.size := by omega
    rw [getElem!_pos d _ hk, getElem!_pos _ _ (by simpa using hk)]
    simp [encF]
  · rfl
theorem sw_fin {n : Nat} [Inhabited (Fin n)] (w : World) (blk off m : Nat) (dk : Array (Fin n)) (os : Array Obj) : sortWorld (encF (n := n)) w blk off m dk os = Go.Sort.grow (Go.Sort.putRow (Value.int .i64) (Go.Sort.ahead w m) blk off (dk.map fun x => (x.val : Int))) os := by
  unfold sortWorld Go.Sort.putRow
  congr 2
  funext c
  exact put_fin off dk c
/-- Numbers of cloths as such. -/
def finL {n : Nat} (xs : List Nat) (hx : ∀ x ∈ xs, x < n) : List (Fin n) := xs.pmap (fun x h => ⟨x, h⟩) hx
theorem finL_val {n : Nat} (xs : List Nat) (hx : ∀ x ∈ xs, x < n) : (finL xs hx).map (fun x => x.val) = xs := by
  unfold finL; rw [List.map_pmap]; simp
theorem finL_len {n : Nat} (xs : List Nat) (hx : ∀ x ∈ xs, x < n) : (finL xs hx).length = xs.length := by simp [finL]

set_option maxRecDepth 20000 in
set_option maxHeartbeats 3200000 in
theorem sortQ_any (C : List Ct) (R z : List Int) (xs : List Nat) (blk cap base bd bt tb ra rb : Nat) (ca : Option Addr) (cc rc : Nat) (w : World) (hn : 0 < C.length) (hx : ∀ x ∈ xs, x < C.length) (hl : xs.length ≤ 1000) (hz : z.length = C.length) (hzr : ∀ x ∈ xs, z.getD x 0 = (rnd C xs x : Int)) (hW : WeOk C R)
    (hown : Owns encI 1 3 base w (.slice (some ⟨blk, 0, none⟩) xs.length cap) (ordI xs)) (hbd : bd ≠ blk) (hbt : bt ≠ blk) (htb : tb ≠ blk)
    (hd : w.heap[bd]? = some (.cells #[.slice ca C.length cc, .slice (some ⟨ra, rb, none⟩) R.length rc] 27 (0, 0))) (ht : w.heap[bt]? = some (.cells #[.slice (some ⟨tb, 0, none⟩) C.length C.length] 24 (0, 0))) (htr : w.heap[tb]? = some (.cells (rowI z) 3 (0, 0)))
    (hC : ∀ W : World, (∀ k, k < w.heap.size → k ≠ blk → W.heap[k]? = w.heap[k]?) → SliceOf encC 4 W (.slice ca C.length cc) C) (hR : ∀ W : World, (∀ k, k < w.heap.size → k ≠ blk → W.heap[k]? = w.heap[k]?) → Ints W (.slice (some ⟨ra, rb, none⟩) R.length rc) R) :
    Calls Try.prog 41 #[.slice (some ⟨blk, 0, none⟩) xs.length cap, .func (.func 42) #[] #[.pointer (some ⟨bd, 0, none⟩), .pointer (some ⟨bt, 0, none⟩)]] w fun e w' =>
      e = .returned (.tuple #[]) ∧ ∃ o : List Nat, OrdC C R xs o ∧ Owns encI 1 3 base w' (.slice (some ⟨blk, 0, none⟩) xs.length cap) (ordI o) ∧ w.grownBy w' (some blk) := by
  letI : Inhabited (Fin C.length) := ⟨⟨0, hn⟩⟩
  have hown' : w.ownsRow base 3 1 (.slice (some ⟨blk, 0, none⟩) xs.length cap) xs.length ((ordI xs).map iv) := by rw [Owns, flatQ, ordI_len] at hown; exact hown
  have hsl := Owns.slice hown encI_len (by rw [ordI_len]; omega)
  have hholds : Go.Sort.Holds (encF (n := C.length)) w blk 0 (finL xs hx).toArray := by
    intro j hj
    have hj' : j < xs.length := by simpa [finL_len] using hj
    refine ⟨?_, World.ownsRow.frozenAt hown' _⟩
    have h1 : w.cell? ⟨blk, 0 + j, none⟩ = some (iv (xs[j] : Int)) := int_cell hsl (by simp [ordI, hj'])
    rw [h1]
    simp [encF, finL, hj']
  have hblk : blk < w.heap.size := by
    rcases hown'.2 with ⟨h0, _⟩ | ⟨g, cp, cur, h0, _, hb, _⟩
    · cases h0
    · cases h0; exact (Array.getElem?_eq_some_iff.1 hb).1
  have hcmp : CmpLays1 Try.prog 42 #[.pointer (some ⟨bd, 0, none⟩), .pointer (some ⟨bt, 0, none⟩)] (encF (n := C.length)) (fun x y => cfK C R z x.val y.val) blk 0 (finL xs hx).toArray.size w := by
    intro m os dk hs x y
    have hk : ∀ k, k < w.heap.size → k ≠ blk → (sortWorld (encF (n := C.length)) w blk 0 m dk os).heap[k]? = w.heap[k]? := fun k h1 h2 => sw_block _ _ _ _ _ _ _ h1 h2
    have lt : ∀ {k : Nat} {o : Obj}, w.heap[k]? = some o → k < w.heap.size := fun h => (Array.getElem?_eq_some_iff.1 h).1
    have hd' := (hk bd (lt hd) hbd).trans hd
    have ht' := (hk bt (lt ht) hbt).trans ht
    have htr' := (hk tb (lt htr) htb).trans htr
    refine (line1_any bd bt tb ra rb x.val y.val ca cc rc C R z _ x.isLt y.isLt hz (hW _ x.isLt) (hW _ y.isLt) (by rw [cell_of_row _ _ _ _ _ _ hd']; rfl) (by rw [cell_of_row _ _ _ _ _ _ hd']; rfl) (hC _ hk) (by rw [cell_of_row _ _ _ _ _ _ ht']; rfl) htr' (hR _ hk)).mono ?_
    rintro e w' ⟨he, hg⟩
    exact ⟨he, grn_grow hg⟩
  have hc := Any.slices_SortFunc Try.sortF (encF (n := C.length)) (fun _ => rfl) (fun x y => cfK C R z x.val y.val) (swoK C R z C.length) 42 _ blk 0 cap (finL xs hx).toArray w (enters_of Try.func42 (by kernel_rfl) rfl) hcmp hholds hblk (by simp [finL_len]; omega)
  have hnum : Try.sortF_ren.f 6 = 41 := by kernel_rfl
  have hsz : (finL xs hx).toArray.size = xs.length := by simp [finL_len]
  rw [hnum, hsz] at hc
  refine hc.mono ?_
  rintro e w' ⟨rfl, d', m, os, hp, hso, rfl⟩
  have hsz' : d'.size = xs.length := by rw [hp.1, hsz]
  have hperm : (d'.toList.map fun x => x.val).Perm xs := by
    have h2 := hp.2.2
    rw [show d'.extract 0 xs.length = d' from by rw [← hsz']; simp, show (finL xs hx).toArray.extract 0 xs.length = (finL xs hx).toArray from by rw [← hsz]; simp] at h2
    have h3 := h2.map (fun x : Fin C.length => x.val)
    rwa [List.toList_toArray, finL_val] at h3
  refine ⟨rfl, d'.toList.map (fun x => x.val), ⟨hperm, ?_⟩, ?_, ?_⟩
  · rw [List.pairwise_map, List.pairwise_iff_getElem]
    intro i j hi hj hij hlt
    have hi' : i < d'.size := by simpa using hi
    have hj' : j < d'.size := by simpa using hj
    have h4 := hso i j (Nat.zero_le _) hij (by omega)
    rw [getElem!_pos d' i hi', getElem!_pos d' j hj'] at h4
    unfold ltOf at h4
    rw [decide_eq_false_iff_not, cfK_neg] at h4
    have m1 : d'[i].val ∈ xs := hperm.mem_iff.1 (List.mem_map.2 ⟨d'[i], by simp, rfl⟩)
    have m2 : d'[j].val ∈ xs := hperm.mem_iff.1 (List.mem_map.2 ⟨d'[j], by simp, rfl⟩)
    rw [hzr _ m1, hzr _ m2] at h4
    unfold ltK at hlt
    simp only [Array.getElem_toList] at hlt
    omega
  · rw [sw_fin]
    have he : (d'.map fun x => (x.val : Int)) = (ordI (d'.toList.map fun x => x.val)).toArray := by
      apply Array.ext'
      simp [ordI]
    rw [he]
    have hlo : (ordI (d'.toList.map fun x => x.val)).length = (ordI xs).length := by rw [ordI_len, ordI_len]; simp [hsz']
    rcases hown'.2 with ⟨h0, _⟩ | ⟨g, cp, cur, h0, hg, hb, h1, h2, h3, h4⟩
    · cases h0
    · cases h0
      have := ownsRow_sortedI (n := m) (os := os) (ss := ordI xs) (ts := ordI (d'.toList.map fun x => x.val)) hlo hg hb (by rw [ordI_len]; exact h1) h2 h3
      rw [Owns, flatQ, hlo]
      rw [ordI_len] at this ⊢
      exact this
  · rw [sw_fin]; exact grownBy_sortedI _
end Go.Proofs.Ytdalilllakdamaa
