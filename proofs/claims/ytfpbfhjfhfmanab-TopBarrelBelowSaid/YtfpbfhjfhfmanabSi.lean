/- The small functions of the statements across the chapters: spans, copies, comparisons, and the known example. -/
import Derived.Test.YtfpbfhjfhfmanabSh
import Derived.Deep.QuietTactic
import Derived.BigQuiet
namespace Go.Proofs.Ytfpbfhjfhfmanab
open Go Go.RowKit Go.Shelf
attribute [local go_sem ↓] Go.wp_at_zero Go.wp_at_succ

set_option maxHeartbeats 800000 in
theorem firSpan_any (lo hi : Int) (w : World) :
    Calls Try.prog 8 #[iv lo, iv hi] w fun e w' => e = .returned (.agg #[iv lo, iv hi]) ∧ Below w.heap.size w w' := by
  go_enter Try.func8, Try.ntmps8
  go_wp2_with fail
  exact bodyPost_ret (v := .agg #[iv lo, iv hi]) (by simp [results, Try.results8, go_sem]) rfl ⟨rfl, (by repeat (first | exact Below.refl _ _ | refine Below.drew ?_ | refine bpush ?_ _ | refine bput ?_ (by simp) _ | (refine bstep ?_ (by assumption))))⟩

theorem spans3 {w : World} {g cap : Nat} {a b c d e f : Int} {t : TypeId} (h : w.heap[g]? = some (.cells #[iv a, iv b, iv c, iv d, iv e, iv f] t (0, 0))) : SliceOf encS 2 w (.slice (some ⟨g, 0, none⟩) 3 cap) [(a, b), (c, d), (e, f)] := by
  refine ⟨_, cap, rfl, by simp, fun i p hp => ⟨g, 0, rfl, fun j u hu => ?_⟩⟩
  rw [cell_of_row _ _ _ _ _ _ h]
  rcases i with _ | _ | _ | i
  · simp at hp; subst hp; rcases j with _ | _ | j <;> simp [encS] at hu ⊢ <;> exact hu
  · simp at hp; subst hp; rcases j with _ | _ | j <;> simp [encS] at hu ⊢ <;> exact hu
  · simp at hp; subst hp; rcases j with _ | _ | j <;> simp [encS] at hu ⊢ <;> exact hu
  · simp at hp

theorem ints3 {w : World} {g cap : Nat} {a b c : Int} {t : TypeId} (h : w.heap[g]? = some (.cells #[iv a, iv b, iv c] t (0, 0))) : Ints w (.slice (some ⟨g, 0, none⟩) 3 cap) [a, b, c] := by
  refine ⟨_, cap, rfl, by simp, fun i p hp => ⟨g, 0, rfl, fun j u hu => ?_⟩⟩
  rw [cell_of_row _ _ _ _ _ _ h]
  rcases i with _ | _ | _ | i
  · simp at hp; subst hp; rcases j with _ | j <;> simp [encI] at hu ⊢ <;> exact hu
  · simp at hp; subst hp; rcases j with _ | j <;> simp [encI] at hu ⊢ <;> exact hu
  · simp at hp; subst hp; rcases j with _ | j <;> simp [encI] at hu ⊢ <;> exact hu
  · simp at hp
theorem bdrewN {B : Nat} {w w1 : World} (h : Below B w w1) (n : Nat) : Below B w (w1.drewN n) := ⟨h.os, h.tape, h.output, h.size, h.block⟩
theorem beq_take_succ {xs ys : List Int} {k : Nat} {x y : Int} (h : xs.take k = ys.take k) (hx : xs[k]? = some x) (hy : ys[k]? = some y) (he : x = y) : xs.take (k + 1) = ys.take (k + 1) := by
  rw [List.take_add_one, List.take_add_one, h, hx, hy, he]

set_option maxRecDepth 20000 in
set_option maxHeartbeats 3200000 in
theorem firSame_any (xs ys : List Int) (av bv : Value) (w : World) (ha : Ints w av xs) (hb : Ints w bv ys) :
    Calls Try.prog 24 #[av, bv] w fun e w' => e = .returned (.bool (decide (xs = ys))) ∧ Below w.heap.size w w' := by
  obtain ⟨aa, ac, rfl, hal, hac⟩ := ha
  obtain ⟨ba, bc, rfl, hbl, hbc⟩ := hb
  have HA := Lib.hid hac; have HB := Lib.hid hbc
  clear hac hbc
  by_cases hl : xs.length = ys.length
  · have e1 : ((xs.length : Int) != (ys.length : Int)) = false := by simp [hl]
    have HL := Lib.hid hl; clear hl
    go_enter Try.func24, Try.ntmps24
    go_wp2_with fail
    go_loopw [5] (fun i wr => ∃ k : Nat, k ≤ xs.length ∧ i = iv k ∧ Hid (xs.take k = ys.take k) ∧ Below w.heap.size w wr) (fun i _ => xs.length - (intOf i).toNat)
    case atStart => exact ⟨0, Nat.zero_le _, rfl, rfl, Below.refl _ _⟩
    case round =>
      obtain ⟨k, hk, rfl, HT, hbw⟩ := hrel
      by_cases hlt : k < xs.length
      · obtain ⟨x, hx⟩ := getElem?_of_lt hlt
        obtain ⟨y, hy⟩ := getElem?_of_lt (xs := ys) (k := k) (by rw [← HL.out]; exact hlt)
        obtain ⟨p, po, rfl, hpj⟩ := HA.out k x hx
        obtain ⟨q, qo, rfl, hqj⟩ := HB.out k y hy
        have c0 := hpj 0 (iv x) rfl
        have c1 := hqj 0 (iv y) rfl
        simp only [Nat.mul_one, Nat.add_zero] at c0 c1
        have d0 := kcell hbw c0
        have d1 := kcell hbw c1
        have HX := Lib.hid hx; have HY := Lib.hid hy
        have HBW := Lib.hid hbw
        have i0 : (0 : Int) ≤ (k : Int) := by omega
        have i1 : (k : Int) < (xs.length : Int) := by omega
        have i2 : (k : Int) < (ys.length : Int) := by rw [← HL.out]; exact i1
        clear hpj hqj hx hy c0 c1 hbw
        by_cases hxy : x = y
        · have e2 : (x != y) = false := by simp [hxy]
          have HXY := Lib.hid hxy; clear hxy
          go_wp2_with fail
          go_quiet (fail)
          go_wp2_with fail
          go_roundw
          case rel => exact ⟨k + 1, by omega, by go_num, beq_take_succ HT.out HX.out HY.out HXY.out, bdrewN HBW.out _⟩
          case measure => simp [intOf]; omega
        · have e2 : (x != y) = true := by simpa using hxy
          have HR : Hid (decide (xs = ys) = false) := by
            simp only [Hid, decide_eq_false_iff_not]; intro h; subst h
            have := HX.out.symm.trans HY.out
            exact hxy (by simpa using this)
          clear hxy
          go_wp2_with fail
          go_quiet (fail)
          go_wp2_with fail
          go_ret
          exact ⟨by rw [HR.out]; rfl, bdrewN HBW.out _⟩
      · obtain rfl : k = xs.length := by omega
        have HR : Hid (decide (xs = ys) = true) := by
          have := HT.out
          rw [List.take_length, HL.out, List.take_length] at this
          simpa [Hid] using this
        go_wp2_with fail
        go_ret
        exact ⟨by rw [HR.out]; rfl, hbw⟩
  · have e1 : ((xs.length : Int) != (ys.length : Int)) = true := by simp; omega
    have HR : Hid (decide (xs = ys) = false) := by
      simp only [Hid, decide_eq_false_iff_not]; intro h; subst h; exact hl rfl
    clear hl
    go_enter Try.func24, Try.ntmps24
    go_wp2_with fail
    go_ret
    exact ⟨by rw [HR.out]; rfl, (by repeat (first | exact Below.refl _ _ | refine Below.drew ?_ | refine bpush ?_ _ | refine bput ?_ (by simp) _ | (refine bstep ?_ (by assumption))))⟩

def kMl : Ml := ⟨3, 10, 30, 40, 50, 20, 25⟩
def kFl : List Sp := [(10, 20), (0, 5), (15, 30)]
theorem kMost : mostL kMl kFl = [0, 1, 3] := by decide +kernel
theorem kChk : sChk kMl kFl = 0 := by decide +kernel

end Go.Proofs.Ytfpbfhjfhfmanab
