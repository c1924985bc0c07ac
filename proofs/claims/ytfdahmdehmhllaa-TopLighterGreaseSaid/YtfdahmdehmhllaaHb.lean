/- TopBarrelBelow: plain facts. -/
import Derived.Test.YtfdahmdehmhllaaHa
import Derived.Test.YtfdahmdehmhllaaTc
namespace Go.Proofs.Ytfdahmdehmhllaa
open Go Go.RowKit Go.Shelf

theorem aft_pos {x r : Int} (hx : 1 ≤ x) (hr : 0 ≤ r) (hr' : r ≤ 999) : ∀ h, 1 ≤ aft x r h
  | 0 => hx
  | h + 1 => by
    have h1 := aft_pos hx hr hr' h
    unfold aft
    have h3 : 0 ≤ aft x r h * r := Int.mul_nonneg (by omega) hr
    have h4 : aft x r h * r ≤ aft x r h * 999 := Int.mul_le_mul_of_nonneg_left hr' (by omega)
    omega
theorem qAt_in {t : Tk} (ht : vTrack t = true) (h : Nat) : 1 ≤ (qAt t h).1 ∧ (qAt t h).1 ≤ (qAt t h).2 ∧ (qAt t h).2 ≤ t.fh := by
  have h0 := qAt_ends ht h
  simp only [vTrack, vRate, Bool.and_eq_true, vSpan_iff] at ht
  have hne : ((crs t).map fun p => aft p.1 p.2 h) ≠ [] := by
    intro e
    have := mem_crs (t := t) (x := t.fl) (r := t.rl) (by omega) (by omega) (by omega) (by omega)
    rw [List.map_eq_nil_iff] at e; rw [e] at this; cases this
  obtain ⟨-, h2, h3, -⟩ := strOf_spec _ hne
  have hin : ∀ y ∈ ((crs t).map fun p => aft p.1 p.2 h), 1 ≤ y ∧ y ≤ t.fh := by
    intro y hy
    obtain ⟨⟨x, r⟩, hp, rfl⟩ := List.mem_map.1 hy
    have := crs_mem hp
    dsimp only at this ⊢
    exact ⟨aft_pos (by omega) (by omega) (by omega) h, Int.le_trans (aft_bd (by omega) (by omega) (by omega) h).2 (by omega)⟩
  exact ⟨(hin _ h2).1, h0, (hin _ h3).2⟩
/-- What Below says of the weight of a cloth without measurings. -/
theorem below_heavy {a b c : Tk} {lim : Int} (hv : [a, b, c].all vTrack = true) (hl : 0 ≤ lim ∧ lim ≤ 2000) :
    ∃ sn pn : Nat, belowErr [a, b, c] [] 2 lim = 0 ∧ belowS [a, b, c] [] 2 lim = sn ∧ belowP [a, b, c] [] 2 lim = pn ∧ sn ≤ 49 ∧ pn ≤ 49 ∧ ∀ n, n ≤ 48 → ((qAt c n).2 ≤ lim ↔ sn ≤ n) ∧ ((qAt c n).1 ≤ lim ↔ pn ≤ n) := by
  have hb : vTrack c = true := List.all_eq_true.1 hv c (by simp)
  have he : belowErr [a, b, c] [] 2 lim = 0 := by
    have h1 : inB 0 2 2 = true := by decide
    have h2 : inB 0 2000 lim = true := inB_iff.2 hl
    simp [belowErr, opn_nil hv, h1, h2]
  have ht : trsT [a, b, c] [] (2 : Int).toNat = crs c := trs_nil _ _
  have e1 : ∀ h, (hourStr (crs c) h).h = (qAt c h).2 := fun _ => rfl
  have e2 : ∀ h, (hourStr (crs c) h).l = (qAt c h).1 := fun _ => rfl
  obtain ⟨s1, s2, s3⟩ := firstHr_spec (fun h => decide ((hourStr (crs c) h).h ≤ lim))
  obtain ⟨p1, p2, p3⟩ := firstHr_spec (fun h => decide ((hourStr (crs c) h).l ≤ lim))
  have hS : belowS [a, b, c] [] 2 lim = firstHr (fun h => decide ((hourStr (crs c) h).h ≤ lim)) := by rw [belowS, if_pos he, ht]
  have hP : belowP [a, b, c] [] 2 lim = firstHr (fun h => decide ((hourStr (crs c) h).l ≤ lim)) := by rw [belowP, if_pos he, ht]
  generalize firstHr (fun h => decide ((hourStr (crs c) h).h ≤ lim)) = sn at *
  generalize firstHr (fun h => decide ((hourStr (crs c) h).l ≤ lim)) = pn at *
  simp only [decide_eq_true_eq, decide_eq_false_iff_not, e1, e2] at s2 s3 p2 p3
  refine ⟨sn, pn, he, hS, hP, s1, p1, fun n hn => ⟨⟨fun h => ?_, fun h => ?_⟩, ⟨fun h => ?_, fun h => ?_⟩⟩⟩
  · exact Nat.le_of_not_lt (fun hlt => s2 _ hlt h)
  · exact Int.le_trans (qAt_mono hb h).2 (s3 (by omega))
  · exact Nat.le_of_not_lt (fun hlt => p2 _ hlt h)
  · exact Int.le_trans (qAt_mono hb h).1 (p3 (by omega))
theorem brS_one (f : Br → Int) (b : Br) : brS f [b] 1 = if f b < 0 then [0] else [] := by
  have := brS_succ f (L := [b]) (n := 0) (b := b) rfl
  rw [this]; rfl
theorem cswapH {W : World} {o o' : Obj} {b i : Nat} {v : Value} (h : (W.alloc o).cell? ⟨b, i, none⟩ = some v) (hb : b < W.heap.size) : (W.alloc o').cell? ⟨b, i, none⟩ = some v :=
  (World.cell?_of_block ((Below.heap_alloc _ _ _ hb).trans (Below.heap_alloc _ _ _ hb).symm)).trans h
theorem fswapH {W : World} {o o' : Obj} {b i : Nat} (h : (W.alloc o).frozen? ⟨b, i, none⟩ = false) (hb : b < W.heap.size) : (W.alloc o').frozen? ⟨b, i, none⟩ = false :=
  (World.frozen?_of_block ((Below.heap_alloc _ _ _ hb).trans (Below.heap_alloc _ _ _ hb).symm)).trans h
theorem cset2H {W : World} {g b i : Nat} {x y v : Value} (hne : b ≠ g) (h : W.cell? ⟨b, i, none⟩ = some v) : ((W.setCell ⟨g, 0, none⟩ x).setCell ⟨g, 1, none⟩ y).cell? ⟨b, i, none⟩ = some v :=
  (World.cell?_of_block ((Below.heap_setCell _ _ _ _ hne).trans (Below.heap_setCell _ _ _ _ hne))).trans h
theorem fset2H {W : World} {g b i : Nat} {x y : Value} (hne : b ≠ g) (h : W.frozen? ⟨b, i, none⟩ = false) : ((W.setCell ⟨g, 0, none⟩ x).setCell ⟨g, 1, none⟩ y).frozen? ⟨b, i, none⟩ = false :=
  (World.frozen?_of_block ((Below.heap_setCell _ _ _ _ hne).trans (Below.heap_setCell _ _ _ _ hne))).trans h
theorem ncell0H (W : World) (a b : Value) (t : TypeId) : (W.alloc (.cells #[a, b] t)).cell? ⟨W.heap.size, 0, none⟩ = some a := by rw [cell_of_row _ _ _ _ _ _ (heap_new W #[a, b] t)]; rfl
theorem ncell1H (W : World) (a b : Value) (t : TypeId) : (W.alloc (.cells #[a, b] t)).cell? ⟨W.heap.size, 1, none⟩ = some b := by rw [cell_of_row _ _ _ _ _ _ (heap_new W #[a, b] t)]; rfl
theorem nfrozH (W : World) (a b : Value) (t : TypeId) (i : Nat) : (W.alloc (.cells #[a, b] t)).frozen? ⟨W.heap.size, i, none⟩ = false := frozen_of_row _ _ _ _ _ (heap_new W #[a, b] t)
theorem bswapH {w w1 : World} {o o' : Obj} (h : Below w.heap.size w (w1.alloc o)) (hle : w.heap.size ≤ w1.heap.size) : Below w.heap.size w (w1.alloc o') :=
  ⟨h.os, h.tape, h.output, by simpa using h.size, fun k hk => by
    have := h.block k hk
    rw [Below.heap_alloc _ _ _ (by omega)] at this ⊢
    exact this⟩

theorem ncellH (W : World) (cs : Array Value) (t : TypeId) (i : Nat) (v : Value) (h : cs[i]? = some v) : (W.alloc (.cells cs t)).cell? ⟨W.heap.size, i, none⟩ = some v := by rw [cell_of_row _ _ _ _ _ _ (heap_new W cs t)]; exact h
theorem n5c0 (W : World) (a b c d e : Value) (t : TypeId) : (W.alloc (.cells #[a, b, c, d, e] t)).cell? ⟨W.heap.size, 0, none⟩ = some a := by rw [cell_of_row _ _ _ _ _ _ (heap_new W #[a, b, c, d, e] t)]; rfl
theorem n5c1 (W : World) (a b c d e : Value) (t : TypeId) : (W.alloc (.cells #[a, b, c, d, e] t)).cell? ⟨W.heap.size, 1, none⟩ = some b := by rw [cell_of_row _ _ _ _ _ _ (heap_new W #[a, b, c, d, e] t)]; rfl
theorem n5c2 (W : World) (a b c d e : Value) (t : TypeId) : (W.alloc (.cells #[a, b, c, d, e] t)).cell? ⟨W.heap.size, 2, none⟩ = some c := by rw [cell_of_row _ _ _ _ _ _ (heap_new W #[a, b, c, d, e] t)]; rfl
theorem n5c3 (W : World) (a b c d e : Value) (t : TypeId) : (W.alloc (.cells #[a, b, c, d, e] t)).cell? ⟨W.heap.size, 3, none⟩ = some d := by rw [cell_of_row _ _ _ _ _ _ (heap_new W #[a, b, c, d, e] t)]; rfl
theorem n5c4 (W : World) (a b c d e : Value) (t : TypeId) : (W.alloc (.cells #[a, b, c, d, e] t)).cell? ⟨W.heap.size, 4, none⟩ = some e := by rw [cell_of_row _ _ _ _ _ _ (heap_new W #[a, b, c, d, e] t)]; rfl
theorem nfrozN (W : World) (cs : Array Value) (t : TypeId) (i : Nat) : (W.alloc (.cells cs t)).frozen? ⟨W.heap.size, i, none⟩ = false := frozen_of_row _ _ _ _ _ (heap_new W cs t)
theorem cset5H {W : World} {g b i : Nat} {x0 x1 x2 x3 x4 v : Value} (hne : b ≠ g) (h : W.cell? ⟨b, i, none⟩ = some v) : (((((W.setCell ⟨g, 0, none⟩ x0).setCell ⟨g, 1, none⟩ x1).setCell ⟨g, 2, none⟩ x2).setCell ⟨g, 3, none⟩ x3).setCell ⟨g, 4, none⟩ x4).cell? ⟨b, i, none⟩ = some v :=
  (cset_far hne).trans ((cset_far hne).trans ((cset_far hne).trans ((cset_far hne).trans ((cset_far hne).trans h))))
theorem bput5H {w W : World} {g : Nat} {x0 x1 x2 x3 x4 : Value} (h : Below w.heap.size w W) (hg : w.heap.size ≤ g) : Below w.heap.size w (((((W.setCell ⟨g, 0, none⟩ x0).setCell ⟨g, 1, none⟩ x1).setCell ⟨g, 2, none⟩ x2).setCell ⟨g, 3, none⟩ x3).setCell ⟨g, 4, none⟩ x4) :=
  bput (p := ⟨g, 4, none⟩) (bput (p := ⟨g, 3, none⟩) (bput (p := ⟨g, 2, none⟩) (bput (p := ⟨g, 1, none⟩) (bput (p := ⟨g, 0, none⟩) h hg _) hg _) hg _) hg _) hg _
theorem row5H {W : World} {g : Nat} {x0 x1 x2 x3 x4 a b c d e : Value} {t : TypeId} (h : W.heap[g]? = some (.cells #[x0, x1, x2, x3, x4] t (0, 0))) : (((((W.setCell ⟨g, 0, none⟩ a).setCell ⟨g, 1, none⟩ b).setCell ⟨g, 2, none⟩ c).setCell ⟨g, 3, none⟩ d).setCell ⟨g, 4, none⟩ e).heap[g]? = some (.cells #[a, b, c, d, e] t (0, 0)) :=
  heap_setCell_same _ g 4 #[a, b, c, d, x4] t e (heap_setCell_same _ g 3 #[a, b, c, x3, x4] t d (heap_setCell_same _ g 2 #[a, b, x2, x3, x4] t c (heap_setCell_same _ g 1 #[a, x1, x2, x3, x4] t b (heap_setCell_same _ g 0 #[x0, x1, x2, x3, x4] t a h))))
/-- One barrel in a row of its own. -/
theorem sl_br {W : World} {g c : Nat} {b : Br} {t : TypeId} (h : W.heap[g]? = some (.cells #[iv b.sa, iv b.gr, iv b.off, iv b.tl, iv b.th] t (0, 0))) : SliceOf encBr 5 W (.slice (some ⟨g, 0, none⟩) 1 c) [b] := by
  refine ⟨_, c, rfl, by simp, fun i p hp => ⟨g, 0, rfl, fun j u hu => ?_⟩⟩
  rw [cell_of_row _ _ _ _ _ _ h]
  rcases i with _ | i
  · simp at hp; subst hp; rcases j with _ | _ | _ | _ | _ | j <;> simp [encBr] at hu ⊢ <;> exact hu
  · simp at hp
end Go.Proofs.Ytfdahmdehmhllaa
