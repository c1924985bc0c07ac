/- Truths: what a quantity is hour by hour, as a row of 50 cells; course and fits of package cloth. -/
import Derived.Test.YtfpbfhjfhfmanabRow
import Derived.Test.YtfpbfhjfhfmanabWc
namespace Go.Proofs.Ytfpbfhjfhfmanab
open Go Go.RowKit

/-- What x becomes by the rate r in so many hours. -/
def aft (x r : Int) : Nat → Int
  | 0 => x
  | h + 1 => aft x r h - aft x r h * r / 1000

theorem aft_bd {x r : Int} (hx : 0 ≤ x) (hr : 0 ≤ r) (hr' : r ≤ 1000) : ∀ h, 0 ≤ aft x r h ∧ aft x r h ≤ x
  | 0 => ⟨hx, Int.le_refl _⟩
  | h + 1 => by
    obtain ⟨h1, h2⟩ := aft_bd hx hr hr' h
    unfold aft
    have h3 : 0 ≤ aft x r h * r := Int.mul_nonneg h1 hr
    have h4 : aft x r h * r ≤ aft x r h * 1000 := Int.mul_le_mul_of_nonneg_left hr' h1
    omega

/-- The row of a truth, filled in up to hour k. -/
def tpart (x r : Int) (k : Nat) : Array Value := Array.ofFn (n := 50) fun i => if i.val = 0 then iv r else if i.val ≤ k then iv (aft x r (i.val - 1)) else iv 0
def tvals (x r : Int) : Array Value := tpart x r 49
def zeroT : Array Value := Array.replicate 50 (iv 0)
theorem tpart_size (x r : Int) (k : Nat) : (tpart x r k).size = 50 := by simp [tpart]
theorem tvals_size (x r : Int) : (tvals x r).size = 50 := tpart_size x r 49
theorem tpart_get (x r : Int) (k i : Nat) : (tpart x r k)[i]? = if i < 50 then some (if i = 0 then iv r else if i ≤ k then iv (aft x r (i - 1)) else iv 0) else none := by
  simp only [tpart, Array.getElem?_ofFn]
  split <;> rfl
theorem zeroT_get (i : Nat) : zeroT[i]? = if i < 50 then some (iv 0) else none := by
  simp only [zeroT, Array.getElem?_replicate]
theorem zeroT_size : zeroT.size = 50 := by simp [zeroT]
theorem tpart_zero (x r : Int) : zeroT.setIfInBounds 0 (iv r) = tpart x r 0 := by
  apply Array.ext_getElem?
  intro i
  rw [Array.getElem?_setIfInBounds, tpart_get, zeroT_get, zeroT_size]
  by_cases h : 0 = i
  · subst h; simp
  · rw [if_neg h]
    split
    · rw [if_neg (by omega), if_neg (by omega)]
    · rfl
theorem tpart_succ (x r : Int) (k : Nat) : (tpart x r k).setIfInBounds (1 + k) (iv (aft x r k)) = tpart x r (k + 1) := by
  apply Array.ext_getElem?
  intro i
  rw [Array.getElem?_setIfInBounds, tpart_get, tpart_get, tpart_size]
  by_cases h : 1 + k = i
  · subst h
    rw [if_pos rfl]
    split
    · rw [if_neg (by omega), if_pos (by omega)]; congr 3; omega
    · rfl
  · rw [if_neg h]
    split
    · by_cases h0 : i = 0
      · rw [if_pos h0, if_pos h0]
      · rw [if_neg h0, if_neg h0]
        by_cases hk : i ≤ k
        · rw [if_pos hk, if_pos (by omega)]
        · rw [if_neg hk, if_neg (by omega)]
    · rfl
theorem tvals_rate (x r : Int) : (tvals x r)[0]? = some (iv r) := by rw [tvals, tpart_get]; simp
theorem tvals_hour (x r : Int) (h : Nat) (hh : h ≤ 48) : (tvals x r)[1 + h]? = some (iv (aft x r h)) := by
  rw [tvals, tpart_get, if_pos (by omega), if_neg (by omega), if_pos (by omega)]
  congr 3; omega
theorem tpart_one (x r : Int) (k : Nat) : (tpart x r k).all (·.oneCell') = true := by
  rw [Array.all_eq_true]
  intro i hi
  have h := tpart_get x r k i
  rw [Array.getElem?_eq_getElem hi] at h
  rw [tpart_size] at hi
  rw [if_pos hi] at h
  rw [Option.some.inj h]
  split
  · rfl
  · split <;> rfl
abbrev tval (x r : Int) : Value := .agg (tvals x r)

theorem zinfo120 : (Try.prog.info? 62).map (·.zero) = some (some (.agg zeroT)) := by kernel_rfl
theorem sinfo120 : (Try.prog.info? 62).map (·.size) = some 50 := by kernel_rfl

theorem built120 (x r : Int) : Try.prog.built 62 [(0, iv r)] = some (tpart x r 0) := by rw [← tpart_zero]; kernel_rfl
theorem sinfoP (x r : Int) (k : Nat) : (Try.prog.info? 62).map (·.size) = some (tpart x r k).size := by rw [tpart_size]; exact sinfo120
theorem sinfoV (x r : Int) : (Try.prog.info? 62).map (·.size) = some (tvals x r).size := sinfoP x r 49
theorem heap_new (w : World) (z : Array Value) (t : TypeId) : (w.alloc (.cells z t)).heap[w.heap.size]? = some (.cells z t (0, 0)) := World.alloc_heap_new w _

set_option maxRecDepth 20000 in
set_option maxHeartbeats 1600000 in
theorem course_any (x r : Int) (w : World) (hx : 0 ≤ x) (hx' : x ≤ 100000) (hr : 0 ≤ r) (hr' : r ≤ 1000) :
    Calls Try.prog 46 #[iv x, iv r] w fun e w' => e = .returned (tval x r) ∧ Below w.heap.size w w' := by
  go_enter Try.func46, Try.ntmps46
  go_wp2_with (first | (with_reducible change wpList _ _ _ (Oper.mk _ (Op.alloc 62) _ _ _ _ :: _) _ _; refine L_val rfl (run_alloc_row 62 zeroT zinfo120 rfl) ?_) | (with_reducible change wpList _ _ _ (Oper.mk _ (Op.build 62 _) _ _ _ _ :: _) _ _; refine L_val rfl (run_build_row1 62 _ _ rfl _ rfl (tpart x r 0) (built120 x r)) ?_) | (with_reducible change wpList _ _ _ (Oper.mk _ (Op.store 62 _ _) _ _ _ _ :: _) _ _; refine L_skip rfl (run_store_row 62 _ _ rfl _ rfl _ rfl 62 zeroT (by exact heap_new _ _ _) (by rw [tpart_size]; exact sinfo120) (by rw [tpart_size, zeroT_size]) (tpart_one _ _ _)) ?_))
  go_loopw [11, 7, 6] (fun i _ s wr => ∃ k : Nat, k ≤ 49 ∧ i = iv k ∧ s = iv (aft x r k) ∧ wr.heap[w.heap.size + 1]? = some (.cells (tpart x r k) 62 (0, 0)) ∧ wr.heap[w.heap.size]? = some (.cells zeroT 62 (0, 0)) ∧ Below w.heap.size w wr) (fun i _ _ _ => 49 - (intOf i).toNat)
  case atStart => exact ⟨0, by omega, rfl, rfl, by have := heap_new (w.alloc (.cells zeroT 62)) (tpart x r 0) 62; simpa using this, by rw [Below.heap_alloc _ _ _ (by simp)]; exact heap_new _ _ _, (by repeat (first | exact Below.refl _ _ | refine Below.drew ?_ | refine bpush ?_ _ | refine bput ?_ (by simp) _ | (refine bstep ?_ (by assumption))))⟩
  case round =>
    obtain ⟨k, hk, rfl, rfl, hb, hz, hbl⟩ := hrel
    obtain ⟨hs0, hs1⟩ := aft_bd (x := x) hx hr hr' k
    have HB := Lib.hid hb; clear hb
    have HZ := Lib.hid hz; clear hz
    by_cases hlt : k < 49
    · have hc : ∃ v, wr.cell? ⟨w.heap.size + 1, 1 + k, none⟩ = some v := ⟨_, by rw [cell_of_row _ _ _ _ _ _ HB.out, tpart_get, if_pos (by omega)]⟩
      obtain ⟨v0, hc⟩ := hc
      have hfz : wr.frozen? ⟨w.heap.size + 1, 1 + k, none⟩ = false := frozen_of_row _ _ _ _ _ HB.out
      have hm0 : 0 ≤ aft x r k * r := Int.mul_nonneg hs0 hr
      have hm1 : aft x r k * r ≤ 100000000 := by
        have h1 : aft x r k * r ≤ aft x r k * 1000 := Int.mul_le_mul_of_nonneg_left hr' hs0
        omega
      go_wp2
      go_roundw
      case rel =>
        refine ⟨k + 1, by omega, by go_num, rfl, ?_, ?_, bput hbl (by simp) _⟩
        · rw [heap_setCell_same _ _ _ _ _ _ HB.out, tpart_succ]
        · rw [heap_setCell_other _ _ _ _ (by simp)]; exact HZ.out
      case measure => simp [intOf]; omega
    · obtain rfl : k = 49 := by omega
      have hsz : w.heap.size + 1 < wr.heap.size := (Array.getElem?_eq_some_iff.1 HB.out).1
      go_wp2_with (first | (with_reducible change wpList _ _ _ (Oper.mk _ (Op.load 62 _) _ _ _ _ :: _) _ _; refine L_val rfl (run_load_row 62 _ rfl _ rfl 62 (tpart x r 49) _ HB.out Try.underlying62 rfl (sinfoP x r 49)) ?_) | (with_reducible change wpList _ _ _ (Oper.mk _ (Op.store 62 _ _) _ _ _ _ :: _) _ _; refine L_skip rfl (run_store_row 62 _ _ rfl _ rfl _ rfl 62 zeroT HZ.out (sinfoP x r 49) (by rw [tpart_size, zeroT_size]) (tpart_one _ _ _)) ?_))
      exact bodyPost_ret (results_cell_row (fn := Try.f46) Try.results46 _ _ w.heap.size 62 (tpart x r 49) (0, 0) _ rfl (heap_setRow_same HZ.out) Try.underlying62 rfl (sinfoP _ _ _)) rfl ⟨rfl, bsetRow hbl (Nat.le_refl _) _⟩
end Go.Proofs.Ytfpbfhjfhfmanab
