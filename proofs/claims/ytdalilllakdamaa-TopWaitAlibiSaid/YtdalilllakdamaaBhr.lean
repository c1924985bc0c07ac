/- quantity.byHour of package cloth. -/
import Derived.Test.YtdalilllakdamaaAt
import Derived.RegionTactic
namespace Go.Proofs.Ytdalilllakdamaa
open Go Go.RowKit Go.Shelf
attribute [local go_sem] Oper.semAt_some

/-- A row in which the stretch at o has become s. -/
def put3 (cs : Array Value) (o : Nat) (s : Str) : Array Value := ((cs.setIfInBounds o (iv s.l)).setIfInBounds (o + 1) (iv s.h)).setIfInBounds (o + 2) (iv s.n)
theorem put3_size (cs : Array Value) (o : Nat) (s : Str) : (put3 cs o s).size = cs.size := by simp [put3]
theorem set_set {cs : Array Value} {i : Nat} {a b : Value} : (cs.setIfInBounds i a).setIfInBounds i b = cs.setIfInBounds i b := by
  apply Array.ext_getElem?
  intro j
  simp only [Array.getElem?_setIfInBounds, Array.size_setIfInBounds]
  split <;> rfl
theorem set_comm {cs : Array Value} {i j : Nat} {a b : Value} (h : i ≠ j) : (cs.setIfInBounds i a).setIfInBounds j b = (cs.setIfInBounds j b).setIfInBounds i a := by
  apply Array.ext_getElem?
  intro k
  simp only [Array.getElem?_setIfInBounds, Array.size_setIfInBounds]
  by_cases h1 : j = k
  · subst h1; rw [if_pos rfl, if_neg h, if_pos rfl]
  · rw [if_neg h1]
    by_cases h2 : i = k
    · rw [if_pos h2, if_pos h2]
    · rw [if_neg h2, if_neg h2, if_neg h1]

/-- A row of 49 stretches. -/
def brow (f : Nat → Str) : Array Value := Array.ofFn (n := 147) fun i => if i.val % 3 = 0 then iv (f (i.val / 3)).l else if i.val % 3 = 1 then iv (f (i.val / 3)).h else iv (f (i.val / 3)).n
theorem brow_get (f : Nat → Str) (i : Nat) : (brow f)[i]? = if i < 147 then some (if i % 3 = 0 then iv (f (i / 3)).l else if i % 3 = 1 then iv (f (i / 3)).h else iv (f (i / 3)).n) else none := by
  simp only [brow, Array.getElem?_ofFn]
  split <;> rfl
theorem brow_size (f : Nat → Str) : (brow f).size = 147 := by simp [brow]
theorem brow_congr {f g : Nat → Str} (h : ∀ j, j < 49 → f j = g j) : brow f = brow g := by
  apply Array.ext_getElem?
  intro i
  rw [brow_get, brow_get]
  split
  · rw [h (i / 3) (by omega)]
  · rfl
theorem brow_l (f : Nat → Str) {j : Nat} (hj : j < 49) : (brow f)[j * 3]? = some (iv (f j).l) := by
  rw [brow_get, if_pos (by omega), if_pos (by omega), show j * 3 / 3 = j by omega]
theorem brow_h (f : Nat → Str) {j : Nat} (hj : j < 49) : (brow f)[j * 3 + 1]? = some (iv (f j).h) := by
  rw [brow_get, if_pos (by omega), if_neg (by omega), if_pos (by omega), show (j * 3 + 1) / 3 = j by omega]
theorem brow_n (f : Nat → Str) {j : Nat} (hj : j < 49) : (brow f)[j * 3 + 2]? = some (iv (f j).n) := by
  rw [brow_get, if_pos (by omega), if_neg (by omega), if_neg (by omega), show (j * 3 + 2) / 3 = j by omega]
theorem brow_put (f : Nat → Str) (j : Nat) (s : Str) (hj : j < 49) : put3 (brow f) (j * 3) s = brow (fun k => if k = j then s else f k) := by
  apply Array.ext_getElem?
  intro i
  simp only [put3, Array.getElem?_setIfInBounds, Array.size_setIfInBounds, brow_size, brow_get]
  by_cases h2 : j * 3 + 2 = i
  · subst h2
    rw [if_pos rfl, if_pos (by omega), if_pos (by omega), if_neg (by omega), if_neg (by omega), show (j * 3 + 2) / 3 = j by omega, if_pos rfl]
  · rw [if_neg h2]
    by_cases h1 : j * 3 + 1 = i
    · subst h1
      rw [if_pos rfl, if_pos (by omega), if_pos (by omega), if_neg (by omega), if_pos (by omega), show (j * 3 + 1) / 3 = j by omega, if_pos rfl]
    · rw [if_neg h1]
      by_cases h0 : j * 3 = i
      · subst h0
        rw [if_pos rfl, if_pos (by omega), if_pos (by omega), if_pos (by omega), show j * 3 / 3 = j by omega, if_pos rfl]
      · rw [if_neg h0, if_neg (show ¬ i / 3 = j by omega)]
theorem brow_one (f : Nat → Str) : (brow f).all (·.oneCell') = true := by
  rw [Array.all_eq_true]
  intro i hi
  have h := brow_get f i
  rw [Array.getElem?_eq_getElem hi] at h
  rw [brow_size] at hi
  rw [if_pos hi] at h
  rw [Option.some.inj h]
  split
  · rfl
  · split <;> rfl
def zeroB : Array Value := Array.replicate 147 (iv 0)
theorem zeroB_eq : zeroB = brow (fun _ => ⟨0, 0, 0⟩) := by
  apply Array.ext_getElem?
  intro i
  rw [brow_get, zeroB, Array.getElem?_replicate]
  split
  · split
    · rfl
    · split <;> rfl
  · rfl
theorem brow_sz (f g : Nat → Str) : (brow f).size = (brow g).size := by rw [brow_size, brow_size]

/-- The sizes of a truth, hour by hour. -/
def tsizes (x r : Int) : Array Value := Array.ofFn (n := 49) fun i => iv (aft x r i.val)
theorem tsizes_get (x r : Int) {h : Nat} (hh : h < 49) : (tsizes x r)[h]? = some (iv (aft x r h)) := by
  simp only [tsizes, Array.getElem?_ofFn]; rw [dif_pos hh]
def hourStr (L : List (Int × Int)) (j : Nat) : Str := strOf (L.map fun p => aft p.1 p.2 j)
theorem hourStr_snoc (L : List (Int × Int)) (x r : Int) (j : Nat) : hourStr (L ++ [(x, r)]) j = (hourStr L j).add (aft x r j) := by simp [hourStr, strOf_snoc]
theorem hourStr_n (L : List (Int × Int)) (j : Nat) : (hourStr L j).n = L.length := by simp [hourStr, strOf_n]
theorem bsucc (L : List (Int × Int)) (x r : Int) (k : Nat) (hk : k < 49) :
    put3 (brow fun j => if j < k then hourStr (L ++ [(x, r)]) j else hourStr L j) (k * 3) ((hourStr L k).add (aft x r k)) = brow fun j => if j < k + 1 then hourStr (L ++ [(x, r)]) j else hourStr L j := by
  rw [brow_put _ _ _ hk]
  apply brow_congr
  intro j _
  by_cases h : j = k
  · subst h; rw [if_pos rfl, if_pos (by omega), hourStr_snoc]
  · rw [if_neg h]
    by_cases h2 : j < k
    · rw [if_pos h2, if_pos (by omega)]
    · rw [if_neg h2, if_neg (by omega)]

end Go.Proofs.Ytdalilllakdamaa
