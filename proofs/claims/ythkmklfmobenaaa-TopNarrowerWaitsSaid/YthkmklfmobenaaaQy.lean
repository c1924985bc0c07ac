/- TopEnoughWater: the walk. -/
import Derived.Test.YthkmklfmobenaaaQx
import Derived.Test.YthkmklfmobenaaaQu
import Derived.Test.YthkmklfmobenaaaQt
import Derived.Test.YthkmklfmobenaaaMc
import Derived.Test.YthkmklfmobenaaaMd
namespace Go.Proofs.Ythkmklfmobenaaa
open Go Go.RowKit Go.Shelf
attribute [local go_sem] Oper.semAt_some
attribute [local go_sem ↓] Go.wp_at_zero Go.wp_at_succ

theorem owns_addrQ {α : Type} {enc : α → List Value} {sz e base : Nat} {w : World} {v : Value} {xs : List α} (h : Owns enc sz e base w v xs) (hne : 0 < xs.length) : ∃ g c, v = .slice (some ⟨g, 0, none⟩) xs.length c := by
  rcases h.2 with ⟨_, h0⟩ | ⟨g, cap, cur, rfl, _⟩
  · omega
  · exact ⟨g, cap, rfl⟩
theorem zero_chk {m : Ml} {F : List Sp} (hc : sChk m F = 0) : sChk ⟨m.k, 0, m.bl, m.bh, m.h, m.nl, m.nh⟩ F = 0 := by
  obtain ⟨hm, h1, h2, h3⟩ := sChk_zero hc
  have hv := vMill_iff.1 hm
  have hm' : vMill ⟨m.k, 0, m.bl, m.bh, m.h, m.nl, m.nh⟩ = true := vMill_iff.2 ⟨hv.1, by dsimp only; omega, hv.2.2.1, hv.2.2.2⟩
  unfold sChk
  rw [if_pos hm', if_neg (by omega), if_neg (by omega), if_pos h3]
theorem busy_zero (k bl bh h nl nh : Int) : ∀ (F : List Sp) (l : Int), busy ⟨k, 0, bl, bh, h, nl, nh⟩ l F = List.replicate F.length k
  | [], _ => rfl
  | p :: F, l => by
    rw [busy, busy_zero]
    simp [mostOf, List.replicate_succ]
theorem sum_rep (k : Int) : ∀ n : Nat, (List.replicate n k).sum = n * k
  | 0 => by simp
  | n + 1 => by rw [List.replicate_succ, List.sum_cons, sum_rep k n]; rw [Int.natCast_add, Int.add_mul]; omega
/-- When all cloths are done, if all hammers always go. -/
theorem done_zero {K L cl : Nat} {n err : Int} (hK : 1 ≤ K) (h : DoneR (List.replicate L (K : Int)) cl n err) : ((cl + K - 1) / K ≤ L → n = ((cl + K - 1) / K : Nat) ∧ err = 0) ∧ (L < (cl + K - 1) / K → n = 0 ∧ err = 7) := by
  have hs : ∀ j, j ≤ L → ((List.replicate L (K : Int)).take j).sum = j * K := fun j hj => by
    rw [List.take_replicate, sum_rep, Nat.min_eq_left hj]
  have key : ∀ j : Nat, (cl : Int) ≤ j * K ↔ (cl + K - 1) / K ≤ j := fun j => by
    have : ((j : Int) * K) = ((j * K : Nat) : Int) := by simp
    rw [this, Int.ofNat_le, Nat.div_le_iff_le_mul (by omega)]
    rw [Nat.mul_comm]; omega
  rcases h with ⟨k, rfl, rfl, hk, h1, h2⟩ | ⟨rfl, rfl, h1⟩
  · rw [List.length_replicate] at hk
    rw [hs k hk] at h1
    have h3 := (key k).1 h1
    have h4 : (cl + K - 1) / K = k := by
      rcases Nat.lt_or_ge ((cl + K - 1) / K) k with hlt | hge
      · have := h2 _ hlt
        rw [hs _ (by omega)] at this
        have := (key ((cl + K - 1) / K)).2 (Nat.le_refl _)
        omega
      · omega
    exact ⟨fun _ => ⟨by rw [h4], rfl⟩, fun h => by omega⟩
  · rw [List.length_replicate] at h1
    have h2 := h1 L (Nat.le_refl _)
    rw [hs L (Nat.le_refl _)] at h2
    have h3 : ¬ (cl + K - 1) / K ≤ L := fun h => by have := (key L).2 h; omega
    exact ⟨fun h => absurd h h3, fun _ => ⟨rfl, rfl⟩⟩

/-- Cloths that come at once, and stay for an hour. -/
def oneC : Ct := ⟨0, 0, 1, 1⟩
def onesC (n : Nat) : List Ct := List.replicate n oneC
theorem onesC_at {n a : Nat} (h : a < n) : ctAt (onesC n) a = oneC := by
  simp [ctAt, onesC, List.getD_eq_getElem?_getD, h]
theorem onesChk {n : Nat} (h : n ≤ 10) : tChk (onesC n) [0] = 0 := by
  have h1 : vRanks [0] = true := by decide
  have h2 : (onesC n).all (vCloth 1) = true := by
    rw [List.all_eq_true]; intro c hc
    rw [onesC, List.mem_replicate] at hc
    rw [hc.2]; decide
  unfold tChk
  rw [if_pos h1, if_neg (by simp [onesC]; omega)]
  exact if_pos h2
theorem onesRk : RkOk [0] := fun i j hi hj _ => by simp at hi hj; omega
theorem ones_ord {n : Nat} {o : List Nat} (ho : OrdC (onesC n) [0] (List.range (onesC n).length) o) : o.length = n ∧ ∀ x ∈ o, coOf (onesC n) x = 0 ∧ loOf (onesC n) x = 1 ∧ hiOf (onesC n) x = 1 := by
  have hl := ho.1.length_eq
  refine ⟨by simpa [onesC] using hl, fun x hx => ?_⟩
  have := List.mem_range.1 (ho.1.mem_iff.1 hx)
  have := onesC_at (n := n) (by simpa [onesC] using this)
  simp [coOf, loOf, hiOf, this, oneC]
/-- A day that is being made: its cloths so far. -/
structure OnInv (C : List Ct) (Wl : World) (rv tv : Value) (wr : World) : Prop where
  B : Below Wl.heap.size Wl wr
  S : Wl.heap.size + 1 ≤ wr.heap.size
  h : wr.heap[Wl.heap.size]? = some (.cells #[tv, rv] 27 (0, 0))
  N : C = [] → tv = .slice none 0 0
  O : Owns encC 4 49 (Wl.heap.size + 1) wr tv C
def OnNext (C : List Ct) (Wl : World) (rv : Value) (wr : World) : Prop := ∃ tv, OnInv C Wl rv tv wr
theorem on_done {C : List Ct} {Wl wr w3 : World} {rv tv : Value} {c : Ct} {g' n cap : Nat} (_h : OnInv C Wl rv tv wr) (hO3 : Owns encC 4 49 (Wl.heap.size + 1) w3 (.slice (some ⟨g', 0, none⟩) n cap) (C ++ [c])) (n4 : Below Wl.heap.size Wl w3)
    (n7 : w3.heap[Wl.heap.size]? = some (.cells #[tv, rv] 27 (0, 0))) : OnNext (C ++ [c]) Wl rv (w3.setCell ⟨Wl.heap.size, 0, none⟩ (.slice (some ⟨g', 0, none⟩) n cap)) := by
  have hl := (Array.getElem?_eq_some_iff.1 n7).1
  refine ⟨_, n4.setCell (p := ⟨Wl.heap.size, 0, none⟩) (Nat.le_refl _) _, by simp [World.setCell]; omega, heap_setA n7, fun h => by simp at h, ?_⟩
  refine World.ownsRow.kept hO3 (grown_setA _ _ _) (.inr (fun e => ?_))
  have := (World.ownsRow.lt hO3 g' rfl).1
  simp only [Value.ownBlock, Option.some.injEq] at e; omega
theorem encC_cell {w : World} {g : Nat} {y : Ct} {t : TypeId} (h : w.heap[g]? = some (.cells #[iv y.we, iv y.co, iv y.lo, iv y.hi] t (0, 0))) : ∀ j u, (encC y)[j]? = some u → w.cell? ⟨g, j, none⟩ = some u := by
  intro j u hu
  rw [cell_of_row _ _ _ _ _ _ h]
  rcases j with _ | _ | _ | _ | j <;> simp [encC] at hu ⊢ <;> exact hu
theorem bblkQ {W W1 : World} {k : Nat} {o : Obj} (hb : Below W.heap.size W W1) (h : W.heap[k]? = some o) : W1.heap[k]? = some o := (hb.block k (Array.getElem?_eq_some_iff.1 h).1).trans h
theorem bup {B : Nat} {w W W1 : World} (h : Below B w W) (hs : B ≤ W.heap.size) (hb : Below W.heap.size W W1) : Below B w W1 := h.trans (hb.mono hs)
theorem onesC_succ (k : Nat) : onesC (k + 1) = onesC k ++ [oneC] := by simp [onesC, List.replicate_succ']
theorem cswapQ {W : World} {o o' : Obj} {b i : Nat} {v : Value} (h : (W.alloc o).cell? ⟨b, i, none⟩ = some v) (hb : b < W.heap.size) : (W.alloc o').cell? ⟨b, i, none⟩ = some v :=
  (World.cell?_of_block ((Below.heap_alloc _ _ _ hb).trans (Below.heap_alloc _ _ _ hb).symm)).trans h
theorem cset2Q {W : World} {g b i : Nat} {x y v : Value} (hne : b ≠ g) (h : W.cell? ⟨b, i, none⟩ = some v) : ((W.setCell ⟨g, 0, none⟩ x).setCell ⟨g, 1, none⟩ y).cell? ⟨b, i, none⟩ = some v :=
  (World.cell?_of_block ((Below.heap_setCell _ _ _ _ hne).trans (Below.heap_setCell _ _ _ _ hne))).trans h
theorem ncell0Q (W : World) (a b : Value) (t : TypeId) : (W.alloc (.cells #[a, b] t)).cell? ⟨W.heap.size, 0, none⟩ = some a := by rw [cell_of_row _ _ _ _ _ _ (heap_new W #[a, b] t)]; rfl
theorem ncell1Q (W : World) (a b : Value) (t : TypeId) : (W.alloc (.cells #[a, b] t)).cell? ⟨W.heap.size, 1, none⟩ = some b := by rw [cell_of_row _ _ _ _ _ _ (heap_new W #[a, b] t)]; rfl
theorem nfrozQ (W : World) (a b : Value) (t : TypeId) (i : Nat) : (W.alloc (.cells #[a, b] t)).frozen? ⟨W.heap.size, i, none⟩ = false := frozen_of_row _ _ _ _ _ (heap_new W #[a, b] t)
theorem bswapQ {w w1 : World} {o o' : Obj} (h : Below w.heap.size w (w1.alloc o)) (hle : w.heap.size ≤ w1.heap.size) : Below w.heap.size w (w1.alloc o') :=
  ⟨h.os, h.tape, h.output, by simpa using h.size, fun k hk => by
    have := h.block k hk
    rw [Below.heap_alloc _ _ _ (by omega)] at this ⊢
    exact this⟩
theorem onesC_len (n : Nat) : (onesC n).length = n := by simp [onesC]
theorem onesDay_any (n base rk : Nat) (hn : n ≤ 10) (tv : Value) (W : World) (hN : onesC n = [] → tv = .slice none 0 0) (hO : Owns encC 4 49 base W tv (onesC n)) (hR : Ints W (.slice (some ⟨rk, 0, none⟩) 1 1) [0]) :
    Calls Try.prog 9 #[.agg #[tv, .slice (some ⟨rk, 0, none⟩) 1 1]] W fun e w' => ∃ ca cc g rc, e = .returned (.agg #[.slice ca n cc, .slice (some ⟨g, 0, none⟩) 1 rc]) ∧ SliceOf encC 4 w' (.slice ca n cc) (onesC n) ∧ Ints w' (.slice (some ⟨g, 0, none⟩) 1 rc) [0] ∧ Below W.heap.size W w' := by
  by_cases h0 : n = 0
  · subst h0
    rw [hN rfl]
    exact firDay_nil [0] rk 0 1 W hR (by decide)
  · have hne : onesC n ≠ [] := by intro h; have := onesC_len n; rw [h] at this; simp at this; omega
    obtain ⟨g, c, rfl⟩ := owns_addrQ hO (by rw [onesC_len]; omega)
    have hs := Owns.slice hO encC_len (by rw [onesC_len]; omega)
    have := firDay_ne (onesC n) [0] hne ⟨g, 0, none⟩ rk 0 c 1 W hs hR (by rw [onesC_len]; omega) (by decide)
    rw [onesC_len] at this ⊢
    exact this
theorem onesFew_any (n lm g cc rc : Nat) (ca : Option Addr) (hn : n ≤ 10) (hlm : lm ≤ 9) (W : World) (hC : SliceOf encC 4 W (.slice ca n cc) (onesC n)) (hR : Ints W (.slice (some ⟨g, 0, none⟩) 1 rc) [0]) (o : List Nat) (ho : OrdC (onesC n) [0] (List.range (onesC n).length) o) :
    Calls Try.prog 10 #[.agg #[.slice ca n cc, .slice (some ⟨g, 0, none⟩) 1 rc], iv lm] W fun e w' => e = .returned (.tuple #[iv (max 1 ((n + lm) / (lm + 1)) : Nat), iv 0]) ∧ Below W.heap.size W w' := by
  have h := Fewest_good (onesC n) [0] ca g 0 cc rc lm o W (by rw [onesC_len]; exact hC) hR (onesChk hn) (by omega) ho onesRk
  obtain ⟨hl, ha⟩ := ones_ord ho
  rw [onesC_len, few_alike (fun x hx => ⟨(ha x hx).1, (ha x hx).2.2⟩), hl, alike_few n (by omega) lm (by omega)] at h
  exact h
end Go.Proofs.Ythkmklfmobenaaa
