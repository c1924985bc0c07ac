/- Turns: numbers, first, briefly, long. -/
import Derived.Test.YtfdahmdehmhllaaOwn
import Derived.Test.YtfdahmdehmhllaaQa
import Derived.RegionTactic
import Derived.IntWalk
import Derived.Deep.RegionHeld3
import Derived.Deep.DrawnRows
namespace Go.Proofs.Ytfdahmdehmhllaa
open Go Go.RowKit Go.Shelf
attribute [local go_sem] Oper.semAt_some
attribute [local go_sem ↓] Go.wp_at_zero Go.wp_at_succ

/-- A row of integers. -/
def rowI (f : List Int) : Array Value := (f.map iv).toArray
theorem rowI_get (f : List Int) (i : Nat) (h : i < f.length) : (rowI f)[i]? = some (iv (f.getD i 0)) := by
  simp [rowI, List.getD_eq_getElem?_getD, List.getElem?_eq_getElem h]
theorem rowI_size (f : List Int) : (rowI f).size = f.length := by simp [rowI]
theorem rowI_set (f : List Int) (i : Nat) (v : Int) : (rowI f).setIfInBounds i (iv v) = rowI (f.set i v) := by
  simp [rowI, List.map_set]
theorem cell_rowI {w : World} {b i : Nat} {f : List Int} {t : TypeId} (h : w.heap[b]? = some (.cells (rowI f) t (0, 0))) (hi : i < f.length) : w.cell? ⟨b, i, none⟩ = some (iv (f.getD i 0)) := by
  rw [cell_of_row _ _ _ _ _ _ h]; exact rowI_get f i hi
theorem flatQ (l : List Int) : l.flatMap encI = l.map iv := by
  induction l with
  | nil => rfl
  | cons a l ih => rw [List.flatMap_cons, ih]; rfl
theorem heap_ownsI {w : World} {base g n : Nat} {e : TypeId} {xs : List Value} (h : w.ownsRow base e 1 (.slice (some ⟨g, 0, none⟩) n n) n xs) : w.heap[g]? = some (.cells xs.toArray e (0, 0)) := by
  rcases h.2 with ⟨h0, _⟩ | ⟨g', cap, cur, h0, hg, hh, h1, h2, h3, h4⟩
  · cases h0
  · cases h0
    rw [hh]
    congr 2
    apply Array.ext'
    rw [← h4, List.take_of_length_le]
    simp; omega
theorem ownsI_heap {w : World} {base g : Nat} {e : TypeId} {f : List Int} (h : w.heap[g]? = some (.cells (rowI f) e (0, 0))) (hb : base ≤ g) (hn : f.length ≤ 1000000) : Owns encI 1 e base w (.slice (some ⟨g, 0, none⟩) f.length f.length) f := by
  refine ⟨by rw [flatQ]; simp, .inr ⟨g, f.length, _, rfl, hb, h, Nat.le_refl _, by unfold maxLen; omega, by rw [rowI_size]; simp, ?_⟩⟩
  rw [flatQ, rowI]
  simp [List.take_of_length_le]

theorem made_row {n : Nat} : (madeCells (Value.cells (.int .i64 0)) (n * 1)).toList = (List.replicate n (0 : Int)).map iv := by
  have := toList_madeCells_one (.int .i64 0) n
  rw [Nat.mul_one]
  refine Eq.trans ?_ (this.trans ?_)
  · rfl
  · simp
/-- The numbers from 0 on. -/
def natsTo (n : Nat) : List Int := (List.range n).map fun x : Nat => (x : Int)
theorem natsTo_len (n : Nat) : (natsTo n).length = n := by simp [natsTo]
def numTo (n j : Nat) : List Int := natsTo j ++ List.replicate (n - j) 0
theorem numTo_len {n j : Nat} (h : j ≤ n) : (numTo n j).length = n := by simp [numTo, natsTo_len]; omega
theorem numTo_succ {n j : Nat} (h : j < n) : (numTo n j).set j (j : Int) = numTo n (j + 1) := by
  unfold numTo natsTo
  rw [List.range_succ, List.map_append, List.map_singleton, List.append_assoc, show n - j = (n - (j + 1)) + 1 by omega, List.replicate_succ]
  rw [List.set_append_right _ _ (by simp)]
  simp

def encC (c : Ct) : List Value := [iv c.we, iv c.co, iv c.lo, iv c.hi]
/-- A queue: cloths, ranks, stocks, the order. -/
abbrev qv (cv rv : Value) (k : Int) (ov : Value) : Value := .agg #[cv, rv, iv k, ov]

end Go.Proofs.Ytfdahmdehmhllaa
