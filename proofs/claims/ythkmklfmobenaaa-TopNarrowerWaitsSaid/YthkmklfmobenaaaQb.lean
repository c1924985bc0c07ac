/- Turns: numbers, first, briefly, long. -/
import Derived.Test.YthkmklfmobenaaaOwn
import Derived.Test.YthkmklfmobenaaaQa
import Derived.RegionTactic
import Derived.IntWalk
import Derived.Deep.RegionHeld3
import Derived.Deep.DrawnRows
namespace Go.Proofs.Ythkmklfmobenaaa
open Go Go.RowKit Go.Shelf
attribute [local go_sem] Oper.semAt_some
attribute [local go_sem ↓] Go.wp_at_zero Go.wp_at_succ

/-- A row of integers. -/
def rowI (f : List Int) : Array Value := (f.map iv).toArray
theorem rowI_get (f : List Int) (i : Nat) (h : i < f.length) : (rowI f)[i]? = some (iv (f.getD i 0)) := by
  simp [rowI, List.getD_eq_getElem?_getD, List.getElem?_eq_getElem h]
theorem rowI_size (f : List Int) : (rowI f).size = f.length := by simp [rowI]
theorem rowI_set (f : List Int) (i : Nat) (v : Int) : (rowI f).setIfInBounds i (iv v) = rowI (f.set i v) := by
  simp [rowI, List.map_set]
theorem cell_rowI {w : World} {b i : Nat} {f : List Int} {t : TypeId} (h : w.heap[b]? = some (.cells (rowI f) t (0, 0))) (hi : i < f.length) : w.cell? ⟨b, i, none⟩ = some (iv (f.getD i 0)) := by
  rw [cell_of_row _ _ _ _ _ _ h]; exact rowI_get f i hi
theorem flatQ (l : List Int) : l.flatMap encI = l.map iv := by
  induction l with
  | nil => rfl
  | cons a l ih => rw [List.flatMap_cons, ih]; rfl
theorem heap_ownsI {w : World} {base g n : Nat} {e : TypeId} {xs : List Value} (h : w.ownsRow base e 1 (.slice (some ⟨g, 0, none⟩) n n) n xs) : w.heap[g]? = some (.cells xs.toArray e (0, 0)) := by
  rcases h.2 with ⟨h0, _⟩ | ⟨g', cap, cur, h0, hg, hh, h1, h2, h3, h4⟩
  · cases h0
  · cases h0
    rw [hh]
    congr 2
    apply Array.ext'
    rw [← h4, List.take_of_length_le]
    simp; omega
theorem ownsI_heap {w : World} {base g : Nat} {e : TypeId} {f : List Int} (h : w.heap[g]? = some (.cells (rowI f) e (0, 0))) (hb : base ≤ g) (hn : f.length ≤ 1000000) : Owns encI 1 e base w (.slice (some ⟨g, 0, none⟩) f.length f.length) f := by
  refine ⟨by rw [flatQ]; simp, .inr ⟨g, f.length, _, rfl, hb, h, Nat.le_refl _, by unfold maxLen; omega, by rw [rowI_size]; simp, ?_⟩⟩
  rw [flatQ, rowI]
  simp [List.take_of_length_le]

theorem made_row {n : Nat} : (madeCells (Value.cells (.int .i64 0)) (n * 1)).toList = (List.replicate n (0 : Int)).map iv := by
  have := toList_madeCells_one (.int .i64 0) n
  rw [Nat.mul_one]
  refine Eq.trans ?_ (this.trans ?_)
  · rfl
  · simp
/-- The numbers from 0 on. -/
def natsTo (n : Nat) : List Int := (List.range n).map fun x : Nat => (x : Int)
theorem natsTo_len (n : Nat) : (natsTo n).length = n := by simp [natsTo]
def numTo (n j : Nat) : List Int := natsTo j ++ List.replicate (n - j) 0
theorem numTo_len {n j : Nat} (h : j ≤ n) : (numTo n j).length = n := by simp [numTo, natsTo_len]; omega
theorem numTo_succ {n j : Nat} (h : j < n) : (numTo n j).set j (j : Int) = numTo n (j + 1) := by
  unfold numTo natsTo
  rw [List.range_succ, List.map_append, List.map_singleton, List.append_assoc, show n - j = (n - (j + 1)) + 1 by omega, List.replicate_succ]
  rw [List.set_append_right _ _ (by simp)]
  simp

set_option maxRecDepth 20000 in
set_option maxHeartbeats 1600000 in
theorem numbers_any (n : Nat) (w : World) (hn : n ≤ 1000000) :
    Calls Try.prog 43 #[iv n] w fun e w' => e = .returned (.slice (some ⟨w.heap.size, 0, none⟩) n n) ∧ w'.heap[w.heap.size]? = some (.cells (rowI (natsTo n)) 3 (0, 0)) ∧ Below w.heap.size w w' := by
  obtain ⟨i0, hi, hz0, hz1, hz2⟩ := info_parts info3
  have HI := Lib.hid hi; have HZ0 := Lib.hid hz0; have HZ1 := Lib.hid hz1
  have HBY := Lib.hid (show i0.bytes * n ≤ 281474976710656 by rw [hz2]; omega)
  have HML := Lib.hid (show n ≤ maxLen by unfold maxLen; omega)
  clear hi hz0 hz1 hz2
  go_enter Try.func43, Try.ntmps43
  go_wp2_with (with_reducible change wpList _ _ _ (Oper.mk _ (Op.makeSlice 24 _ _) _ _ _ _ :: _) _ _; refine wpList_make_full _ rfl _ _ 24 rfl w.heap.size 3 i0 (.int .i64 0) 1 Try.underlying24 HI.out HZ0.out HZ1.out .i64 .i64 n n n rfl rfl rfl rfl HBY.out HML.out (Nat.le_refl _) ?_; intro w1 hown hgrow)
  have HR : Hid (w1.heap[w.heap.size]? = some (.cells (rowI (numTo n 0)) 3 (0, 0))) := by
    have := heap_ownsI hown
    rw [made_row] at this
    simpa [numTo, natsTo, rowI, Hid] using this
  have HB : Hid (Below w.heap.size w w1) := ⟨hgrow.os, hgrow.tape, hgrow.output, hgrow.size, fun q hq => hgrow.block q hq (by simp)⟩
  clear hown hgrow
  go_wp2_with fail
  go_loopw [8] (fun i wr => ∃ j : Nat, j ≤ n ∧ i = iv j ∧ wr.heap[w.heap.size]? = some (.cells (rowI (numTo n j)) 3 (0, 0)) ∧ Below w.heap.size w wr) (fun i _ => n - (intOf i).toNat)
  case atStart => exact ⟨0, Nat.zero_le _, rfl, HR.out, HB.out⟩
  case round =>
    obtain ⟨j, hj, rfl, hr, hb⟩ := hrel
    have HRr := Lib.hid hr; have HBr := Lib.hid hb
    clear hr hb
    by_cases hlt : j < n
    · have hc : wr.cell? ⟨w.heap.size, j, none⟩ = some (iv ((numTo n j).getD j 0)) := cell_rowI HRr.out (by rw [numTo_len (by omega)]; exact hlt)
      have hf : wr.frozen? ⟨w.heap.size, j, none⟩ = false := frozen_of_row _ _ _ _ _ HRr.out
      generalize (numTo n j).getD j 0 = old at *
      go_wp2_with fail
      go_roundw
      case rel => exact ⟨j + 1, by omega, by go_num, by rw [heap_setCell_same _ _ _ _ _ _ HRr.out, rowI_set, numTo_succ hlt], bput HBr.out (Nat.le_refl _) _⟩
      case measure => simp [intOf]; omega
    · obtain rfl : j = n := by omega
      go_wp2_with fail
      go_ret
      exact ⟨rfl, by have := HRr.out; simpa [numTo] using this, HBr.out⟩

def encC (c : Ct) : List Value := [iv c.we, iv c.co, iv c.lo, iv c.hi]
set_option maxHeartbeats 800000 in
theorem briefly_any (c : Ct) (w : World) :
    Calls Try.prog 21 #[.agg (encC c).toArray] w fun e w' => e = .returned (iv c.lo) ∧ Below w.heap.size w w' := by
  obtain ⟨we, co, lo, hi⟩ := c
  simp only [encC]
  go_enter Try.func21, Try.ntmps21
  go_wp2_with fail
  go_ret
  exact ⟨rfl, (by repeat (first | exact Below.refl _ _ | refine Below.drew ?_ | refine bpush ?_ _ | refine bput ?_ (by simp) _ | (refine bstep ?_ (by assumption))))⟩
set_option maxHeartbeats 800000 in
theorem long_any (c : Ct) (w : World) :
    Calls Try.prog 22 #[.agg (encC c).toArray] w fun e w' => e = .returned (iv c.hi) ∧ Below w.heap.size w w' := by
  obtain ⟨we, co, lo, hi⟩ := c
  simp only [encC]
  go_enter Try.func22, Try.ntmps22
  go_wp2_with fail
  go_ret
  exact ⟨rfl, (by repeat (first | exact Below.refl _ _ | refine Below.drew ?_ | refine bpush ?_ _ | refine bput ?_ (by simp) _ | (refine bstep ?_ (by assumption))))⟩

/-- A queue: cloths, ranks, stocks, the order. -/
abbrev qv (cv rv : Value) (k : Int) (ov : Value) : Value := .agg #[cv, rv, iv k, ov]

set_option maxRecDepth 20000 in
set_option maxHeartbeats 1600000 in
theorem first_any (cv rv ov : Value) (f : List Int) (b : Nat) (t : TypeId) (w : World) (hn : f.length ≤ 1000000) (h : w.heap[b]? = some (.cells (rowI f) t (0, 0))) :
    Calls Try.prog 37 #[qv cv rv f.length ov, .slice (some ⟨b, 0, none⟩) f.length f.length] w fun e w' => e = .returned (iv (best f)) ∧ Below w.heap.size w w' := by
  have HR := Lib.hid h; clear h
  have HB := Lib.hid (show best f = bestTo f f.length from rfl)
  go_enter Try.func37, Try.ntmps37
  go_wp2_with fail
  go_loopw [9, 5] (fun i s wr => ∃ j : Nat, j ≤ f.length ∧ i = iv j ∧ s = iv (bestTo f j) ∧ Below w.heap.size w wr) (fun i _ _ => f.length - (intOf i).toNat)
  case atStart => exact ⟨0, Nat.zero_le _, rfl, rfl, (by repeat (first | exact Below.refl _ _ | refine Below.drew ?_ | refine bpush ?_ _ | refine bput ?_ (by simp) _ | (refine bstep ?_ (by assumption))))⟩
  case round =>
    obtain ⟨j, hj, rfl, rfl, hb⟩ := hrel
    have HBr := Lib.hid hb
    clear hb
    by_cases hlt : j < f.length
    · have hbl := bestTo_le f j
      have hrow := (HBr.out.block b (Array.getElem?_eq_some_iff.1 HR.out).1).trans HR.out
      have hc : wr.cell? ⟨b, j, none⟩ = some (iv (f.getD j 0)) := cell_rowI hrow hlt
      have hc2 : wr.cell? ⟨b, bestTo f j, none⟩ = some (iv (f.getD (bestTo f j) 0)) := cell_rowI hrow (by omega)
      have HN : Hid (bestTo f (j + 1) = if f.getD j 0 < f.getD (bestTo f j) 0 then j else bestTo f j) := rfl
      have hbl2 : bestTo f j < f.length := by omega
      clear hrow hbl
      generalize f.getD (bestTo f j) 0 = u at *
      generalize f.getD j 0 = v at *
      generalize bestTo f j = bt at *
      go_wp2_with fail
      go_region
      by_cases hvu : v < u
      · go_wp2_with fail
        go_roundw
        case rel => exact ⟨j + 1, by omega, by go_num, by rw [HN.out, if_pos hvu], HBr.out.drew⟩
        case measure => simp [intOf]; omega
      · go_wp2_with fail
        go_roundw
        case rel => exact ⟨j + 1, by omega, by go_num, by rw [HN.out, if_neg hvu], HBr.out.drew⟩
        case measure => simp [intOf]; omega
    · obtain rfl : j = f.length := by omega
      go_wp2_with fail
      go_ret
      exact ⟨by rw [HB.out]; rfl, HBr.out⟩
end Go.Proofs.Ythkmklfmobenaaa
