/- How many numbers an iterator yields, and their sum; steady plans. -/
import Derived.Test.YtfpbfhjfhfmanabSc
import Derived.Test.YtfpbfhjfhfmanabSpn
namespace Go.Proofs.Ytfpbfhjfhfmanab
open Go Go.RowKit Go.Shelf
attribute [local go_sem] Oper.semAt_some

theorem SeqL.later {α : Type} {P : Program} {gf : Nat} {lb : Array Value} {enc : α → Array Value} {S : Nat → Prop} {xs : List α} {w w' : World} (h : SeqL P gf lb enc S xs w) (hs : SameOn S w w') : SeqL P gf lb enc S xs w' :=
  fun n l J Jx W hW => h n l J Jx W (hs.trans hW)
theorem heap_set1 {W : World} {b : Nat} {v u : Value} {t : TypeId} (h : W.heap[b]? = some (.cells #[v] t (0, 0))) : (W.setCell ⟨b, 0, none⟩ u).heap[b]? = some (.cells #[u] t (0, 0)) := by
  have := heap_setCell_same W b 0 #[v] t u h
  simpa using this
theorem turn_set {W : World} {b : Nat} (v : Value) : Turn (fun k => k = b) W (W.setCell ⟨b, 0, none⟩ v) :=
  ⟨rfl, rfl, rfl, by simp [World.setCell], fun k _ hk => Below.heap_setCell _ _ _ _ hk⟩

/-- A plan in which k hammers go from an hour on: the first j hours are filled in. -/
def stdTo (n : Nat) (k fr : Int) (j : Nat) : List Int := (List.range n).map fun i => if i < j ∧ fr ≤ (i : Int) then k else 0
def stdy (n : Nat) (k fr : Int) : List Int := stdTo n k fr n
theorem stdTo_len (n : Nat) (k fr : Int) (j : Nat) : (stdTo n k fr j).length = n := by simp [stdTo]
theorem stdTo_get (n : Nat) (k fr : Int) (j i : Nat) : (stdTo n k fr j)[i]? = if i < n then some (if i < j ∧ fr ≤ (i : Int) then k else 0) else none := by
  unfold stdTo
  rw [List.getElem?_map]
  by_cases h : i < n
  · rw [List.getElem?_range h, if_pos h]; rfl
  · rw [if_neg h, List.getElem?_eq_none (by simp; omega)]; rfl
theorem stdTo_zero (n : Nat) (k fr : Int) : (stdTo n k fr 0).map iv = List.replicate n (iv 0) := by
  apply List.ext_getElem?; intro i
  rw [List.getElem?_map, stdTo_get, List.getElem?_replicate]
  split <;> simp
theorem stdTo_yes {n : Nat} {k fr : Int} {j : Nat} (h : fr ≤ (j : Int)) : (stdTo n k fr (j + 1)).map iv = ((stdTo n k fr j).map iv).set j (iv k) := by
  apply List.ext_getElem?; intro i
  rw [List.getElem?_map, List.getElem?_set, List.getElem?_map, stdTo_get, stdTo_get, List.length_map, stdTo_len]
  by_cases e : j = i
  · subst e
    rw [if_pos rfl]
    by_cases hn : j < n
    · rw [if_pos hn, if_pos hn, if_pos ⟨by omega, h⟩]; rfl
    · rw [if_neg hn, if_neg hn]; rfl
  · rw [if_neg e]
    have hc : (i < j + 1 ∧ fr ≤ (i : Int)) ↔ (i < j ∧ fr ≤ (i : Int)) := ⟨fun h2 => ⟨by omega, h2.2⟩, fun h2 => ⟨by omega, h2.2⟩⟩
    simp only [hc]
theorem stdTo_no {n : Nat} {k fr : Int} {j : Nat} (h : ¬ fr ≤ (j : Int)) : stdTo n k fr (j + 1) = stdTo n k fr j := by
  apply List.ext_getElem?; intro i
  rw [stdTo_get, stdTo_get]
  have hc : (i < j + 1 ∧ fr ≤ (i : Int)) ↔ (i < j ∧ fr ≤ (i : Int)) := ⟨fun h2 => ⟨by
    by_cases e : i = j
    · subst e; exact absurd h2.2 h
    · omega, h2.2⟩, fun h2 => ⟨by omega, h2.2⟩⟩
  simp only [hc]
theorem flatI (l : List Int) : l.flatMap encI = l.map iv := by
  induction l with
  | nil => rfl
  | cons a l ih => rw [List.flatMap_cons, ih]; rfl

/-- A list of numbers is returned. -/
def IntsRes (n : Nat) (xs : List Int) (w : World) (e : Ending) (w' : World) : Prop := ∃ pa, e = .returned (.slice pa n n) ∧ Ints w' (.slice pa n n) xs ∧ Below w.heap.size w w'
end Go.Proofs.Ytfpbfhjfhfmanab
