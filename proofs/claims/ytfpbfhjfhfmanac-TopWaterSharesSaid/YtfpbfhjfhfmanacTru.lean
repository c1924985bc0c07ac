/- Truths: what a quantity is hour by hour, as a row of 50 cells; course and fits of package cloth. -/
import Derived.Test.YtfpbfhjfhfmanacRow
import Derived.Test.YtfpbfhjfhfmanacWc
namespace Go.Proofs.Ytfpbfhjfhfmanac
open Go Go.RowKit

/-- What x becomes by the rate r in so many hours. -/
def aft (x r : Int) : Nat → Int
  | 0 => x
  | h + 1 => aft x r h - aft x r h * r / 1000

theorem aft_bd {x r : Int} (hx : 0 ≤ x) (hr : 0 ≤ r) (hr' : r ≤ 1000) : ∀ h, 0 ≤ aft x r h ∧ aft x r h ≤ x
  | 0 => ⟨hx, Int.le_refl _⟩
  | h + 1 => by
    obtain ⟨h1, h2⟩ := aft_bd hx hr hr' h
    unfold aft
    have h3 : 0 ≤ aft x r h * r := Int.mul_nonneg h1 hr
    have h4 : aft x r h * r ≤ aft x r h * 1000 := Int.mul_le_mul_of_nonneg_left hr' h1
    omega

/-- The row of a truth, filled in up to hour k. -/
def tpart (x r : Int) (k : Nat) : Array Value := Array.ofFn (n := 50) fun i => if i.val = 0 then iv r else if i.val ≤ k then iv (aft x r (i.val - 1)) else iv 0
def tvals (x r : Int) : Array Value := tpart x r 49
def zeroT : Array Value := Array.replicate 50 (iv 0)
theorem tpart_size (x r : Int) (k : Nat) : (tpart x r k).size = 50 := by simp [tpart]
theorem tvals_size (x r : Int) : (tvals x r).size = 50 := tpart_size x r 49
theorem tpart_get (x r : Int) (k i : Nat) : (tpart x r k)[i]? = if i < 50 then some (if i = 0 then iv r else if i ≤ k then iv (aft x r (i - 1)) else iv 0) else none := by
  simp only [tpart, Array.getElem?_ofFn]
  split <;> rfl
theorem zeroT_get (i : Nat) : zeroT[i]? = if i < 50 then some (iv 0) else none := by
  simp only [zeroT, Array.getElem?_replicate]
theorem zeroT_size : zeroT.size = 50 := by simp [zeroT]
theorem tpart_zero (x r : Int) : zeroT.setIfInBounds 0 (iv r) = tpart x r 0 := by
  apply Array.ext_getElem?
  intro i
  rw [Array.getElem?_setIfInBounds, tpart_get, zeroT_get, zeroT_size]
  by_cases h : 0 = i
  · subst h; simp
  · rw [if_neg h]
    split
    · rw [if_neg (by omega), if_neg (by omega)]
    · rfl
theorem tpart_succ (x r : Int) (k : Nat) : (tpart x r k).setIfInBounds (1 + k) (iv (aft x r k)) = tpart x r (k + 1) := by
  apply Array.ext_getElem?
  intro i
  rw [Array.getElem?_setIfInBounds, tpart_get, tpart_get, tpart_size]
  by_cases h : 1 + k = i
  · subst h
    rw [if_pos rfl]
    split
    · rw [if_neg (by omega), if_pos (by omega)]; congr 3; omega
    · rfl
  · rw [if_neg h]
    split
    · by_cases h0 : i = 0
      · rw [if_pos h0, if_pos h0]
      · rw [if_neg h0, if_neg h0]
        by_cases hk : i ≤ k
        · rw [if_pos hk, if_pos (by omega)]
        · rw [if_neg hk, if_neg (by omega)]
    · rfl
theorem tvals_rate (x r : Int) : (tvals x r)[0]? = some (iv r) := by rw [tvals, tpart_get]; simp
theorem tvals_hour (x r : Int) (h : Nat) (hh : h ≤ 48) : (tvals x r)[1 + h]? = some (iv (aft x r h)) := by
  rw [tvals, tpart_get, if_pos (by omega), if_neg (by omega), if_pos (by omega)]
  congr 3; omega
theorem tpart_one (x r : Int) (k : Nat) : (tpart x r k).all (·.oneCell') = true := by
  rw [Array.all_eq_true]
  intro i hi
  have h := tpart_get x r k i
  rw [Array.getElem?_eq_getElem hi] at h
  rw [tpart_size] at hi
  rw [if_pos hi] at h
  rw [Option.some.inj h]
  split
  · rfl
  · split <;> rfl
abbrev tval (x r : Int) : Value := .agg (tvals x r)

theorem heap_new (w : World) (z : Array Value) (t : TypeId) : (w.alloc (.cells z t)).heap[w.heap.size]? = some (.cells z t (0, 0)) := World.alloc_heap_new w _

end Go.Proofs.Ytfpbfhjfhfmanac
