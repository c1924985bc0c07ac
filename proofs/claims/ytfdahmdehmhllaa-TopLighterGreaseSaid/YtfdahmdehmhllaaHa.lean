/- Package soap: barrels. -/
import Derived.Test.YtfdahmdehmhllaaPc
import Derived.Test.YtfdahmdehmhllaaPd
import Derived.Deep.Cut
import Derived.Deep.CutRange
namespace Go.Proofs.Ytfdahmdehmhllaa
open Go Go.RowKit Go.Shelf
attribute [local go_sem ↓] Go.wp_at_zero Go.wp_at_succ

/-- A barrel: what it says, gross, off, the wood. -/
structure Br where
  (sa gr off tl th : Int)
def encBr (b : Br) : List Value := [iv b.sa, iv b.gr, iv b.off, iv b.tl, iv b.th]
def vBr (b : Br) : Bool := inB 1 400 b.sa && (inB 0 10000 b.gr && (inB 0 50 b.off && okSpan b.tl b.th 0 2000))
theorem vBr_iff {b : Br} : vBr b = true ↔ (1 ≤ b.sa ∧ b.sa ≤ 400) ∧ (0 ≤ b.gr ∧ b.gr ≤ 10000) ∧ (0 ≤ b.off ∧ b.off ≤ 50) ∧ (0 ≤ b.tl ∧ b.tl ≤ 2000 ∧ 0 ≤ b.th ∧ b.th ≤ 2000 ∧ b.tl ≤ b.th) := by
  simp only [vBr, Bool.and_eq_true, inB_iff, okSpan_iff]
/-- How many ounces more than it says are in a barrel. -/
def brLo (b : Br) : Int := b.gr - 16 * b.sa - b.off - b.th
def brHi (b : Br) : Int := b.gr - 16 * b.sa + b.off - b.tl
/-- The places of which something is so, below n. -/
def brS (f : Br → Int) (L : List Br) (n : Nat) : List Int := ((List.range n).filter fun i => decide (f (L.getD i ⟨0, 0, 0, 0, 0⟩) < 0)).map fun i : Nat => (i : Int)
theorem brS_succ (f : Br → Int) {L : List Br} {n : Nat} {b : Br} (h : L[n]? = some b) : brS f L (n + 1) = brS f L n ++ if f b < 0 then [(n : Int)] else [] := by
  have hb : L.getD n ⟨0, 0, 0, 0, 0⟩ = b := by rw [List.getD_eq_getElem?_getD, h]; rfl
  unfold brS
  rw [List.range_succ, List.filter_append, List.map_append]
  congr 1
  by_cases hf : f b < 0
  · rw [if_pos hf, List.filter_cons_of_pos (by rw [hb]; simpa using hf)]; rfl
  · rw [if_neg hf, List.filter_cons_of_neg (by rw [hb]; simpa using hf)]; rfl
theorem brS_len (f : Br → Int) (L : List Br) (n : Nat) : (brS f L n).length ≤ n := by
  unfold brS
  rw [List.length_map]
  exact Nat.le_trans (List.length_filter_le _ _) (by simp)
def ShortRes (L : List Br) (w : World) (e : Ending) (w' : World) : Prop :=
  ∃ v2 v3, e = .returned (.tuple #[v2, v3, iv 0]) ∧ Owns encI 1 3 w.heap.size w' v2 (brS brHi L L.length) ∧ Owns encI 1 3 w.heap.size w' v3 (brS brLo L L.length) ∧ Below w.heap.size w w'
abbrev TwoH (A B : List Int) (w : World) (lv pv : Value) (wr : World) : Prop := TwoL encI 1 3 encI 1 3 A B w lv pv wr
theorem keepH {wa w2 w4 : World} {base e : Nat} {v : Value} {xs : List Int} {o : Obj} (ho : Owns encI 1 e base w2 v xs) (hg : wa.grownBy w4 v.ownBlock) (hc : wa.heap[w2.heap.size]? = some o) : w4.heap[w2.heap.size]? = some o := by
  refine (hg.block _ (Array.getElem?_eq_some_iff.1 hc).1 (fun e2 => ?_)).trans hc
  have := (World.ownsRow.lt ho _ e2.symm).2
  omega
end Go.Proofs.Ytfdahmdehmhllaa
