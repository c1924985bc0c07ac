import Derived.Test.YtghnkhpjblnabaaMb
import Derived.Test.YtghnkhpjblnabaaSf
import Derived.Deep.QuietTactic
import Derived.BigQuiet
/- The sum of what an iterator yields. -/
namespace Go.Proofs.Ytghnkhpjblnabaa
open Go Go.RowKit Go.Shelf
end Go.Proofs.Ytghnkhpjblnabaa

/- fewest and Most of package stream. -/
namespace Go.Proofs.Ytghnkhpjblnabaa
open Go Go.RowKit Go.Shelf
theorem busy_all {m : Ml} (hm : vMill m = true) : ∀ (r : List Sp) (l : Int), 0 ≤ l → r.all vFlow = true → (busy m l r).length = r.length ∧ ∀ x ∈ busy m l r, 0 ≤ x ∧ x ≤ 8
  | [], l, _, _ => by simp [busy]
  | p :: r, l, hl, hr => by
    rw [List.all_cons, Bool.and_eq_true] at hr
    obtain ⟨a1, a2, a3, a4, a5⟩ := okSpan_iff.1 hr.1
    obtain ⟨o1, o2, o3, o4⟩ := mostOf_bd (l := l) (f := p.1) hm hl a1
    have hk := (vMill_iff.1 hm).1.2
    obtain ⟨h1, h2⟩ := busy_all hm r _ o3 hr.2
    refine ⟨by simp [busy, h1], ?_⟩
    intro x hx
    rw [busy, List.mem_cons] at hx
    rcases hx with rfl | hx
    · omega
    · exact h2 x hx
theorem sum_bd : ∀ (l : List Int), (∀ x ∈ l, 0 ≤ x ∧ x ≤ 8) → 0 ≤ l.sum ∧ l.sum ≤ 8 * (l.length : Int)
  | [], _ => by simp
  | a :: l, h => by
    have h1 := h a (by simp)
    have h2 := sum_bd l (fun x hx => h x (by simp [hx]))
    rw [List.sum_cons, List.length_cons]; omega
theorem drop_all {α : Type} {p : α → Bool} {l : List α} (h : l.all p = true) (n : Nat) : (l.drop n).all p = true := by
  rw [List.all_eq_true] at *; intro x hx; exact h x (List.mem_of_mem_drop hx)

/-- Whether one hammer more must go in an hour. -/
def fewC (m : Ml) (level : Int) (p : Sp) (r : List Sp) (x : Int) : Bool := decide (x + (busy m (leftL m.t m.h level p.1 x) r).sum < (busy m level (p :: r)).sum)
def leastF (c : Int → Bool) : Nat → Nat → Nat
  | 0, k => k
  | f + 1, k => if c (k : Int) = true then leastF c f (k + 1) else k
def few (m : Ml) (level : Int) (p : Sp) (r : List Sp) : Nat := leastF (fewC m level p r) (mostOf m level p.1).toNat 0
theorem fewC_most {m : Ml} {level : Int} {p : Sp} {r : List Sp} : fewC m level p r (mostOf m level p.1) = false := by
  simp [fewC, busy]

/-- The plan with the most hammers, the smallest list. -/
def mostP (m : Ml) : Int → List Sp → List Int
  | _, [] => []
  | l, p :: r => (few m l p r : Int) :: mostP m (leftL m.t m.h l p.1 (few m l p r)) r
theorem leastF_le (c : Int → Bool) : ∀ (f k : Nat), leastF c f k ≤ k + f
  | 0, k => by simp [leastF]
  | f + 1, k => by
    rw [leastF]; split
    · have := leastF_le c f (k + 1); omega
    · omega
theorem few_bd {m : Ml} {l : Int} {p : Sp} {r : List Sp} (hm : vMill m = true) (h1 : 0 ≤ l) (h2 : 0 ≤ p.1) : (few m l p r : Int) ≤ mostOf m l p.1 ∧ 0 ≤ leftL m.t m.h l p.1 (few m l p r) ∧ leftL m.t m.h l p.1 (few m l p r) ≤ 500 := by
  obtain ⟨o1, o2, o3, o4⟩ := mostOf_bd (l := l) (f := p.1) hm h1 h2
  have h3 := leastF_le (fewC m l p r) (mostOf m l p.1).toNat 0
  have h4 : (few m l p r : Int) ≤ mostOf m l p.1 := by unfold few; omega
  have ht0 := (vMill_iff.1 hm).2.1.1
  have hh5 := (vMill_iff.1 hm).2.2.2.1
  have e1 : (few m l p r : Int) * m.t ≤ mostOf m l p.1 * m.t := Int.mul_le_mul_of_nonneg_right h4 ht0
  have e2 : 0 ≤ (few m l p r : Int) * m.t := Int.mul_nonneg (by omega) ht0
  have e3 := (fillL_bd (H := m.h) (l := l) (f := p.1) (by omega) h1 h2).2
  refine ⟨h4, ?_⟩
  unfold leftL at o3 ⊢; omega
end Go.Proofs.Ytghnkhpjblnabaa

/- Most of package stream. -/
namespace Go.Proofs.Ytghnkhpjblnabaa
open Go Go.RowKit Go.Shelf
attribute [local go_sem ↓] Go.wp_at_zero Go.wp_at_succ

/-- A list of numbers, and an error. -/
def IntsErr (L : List Int) (err : Int) (w : World) (e : Ending) (w' : World) : Prop := ∃ v, e = .returned (.tuple #[v, iv err]) ∧ Owns encI 1 3 w.heap.size w' v L ∧ Below w.heap.size w w'
def mostL (m : Ml) (F : List Sp) : List Int := if sChk m F = 0 then mostP m m.nl F else []
theorem Owns.base2 {α : Type} {enc : α → List Value} {sz e base base' : Nat} {w : World} {v : Value} {xs : List α} (h : Owns enc sz e base w v xs) (hb : base' ≤ base) : Owns enc sz e base' w v xs := by
  refine ⟨h.1, ?_⟩
  rcases h.2 with h0 | ⟨g, cap, cur, h1, h2, h3⟩
  · exact .inl h0
  · exact .inr ⟨g, cap, cur, h1, Nat.le_trans hb h2, h3⟩
theorem bbase {B : Nat} {W w1 : World} (hb : Below B W w1) : (∀ b o, b < B → w1.cell? ⟨b, o, none⟩ = W.cell? ⟨b, o, none⟩) ∧ (∀ b o, b < B → w1.frozen? ⟨b, o, none⟩ = W.frozen? ⟨b, o, none⟩) :=
  ⟨fun b o h => hb.cell (p := ⟨b, o, none⟩) h, fun b o h => hb.frozen (p := ⟨b, o, none⟩) h⟩
theorem heap_set2 {W : World} {b : Nat} {x y u v : Value} {t : TypeId} (h : W.heap[b]? = some (.cells #[x, y] t (0, 0))) : ((W.setCell ⟨b, 0, none⟩ u).setCell ⟨b, 1, none⟩ v).heap[b]? = some (.cells #[u, v] t (0, 0)) := by
  have h1 := heap_setCell_same W b 0 #[x, y] t u h
  have h2 := heap_setCell_same _ b 1 _ t v h1
  simpa using h2
theorem grown_set2 (W : World) (b : Nat) (u v : Value) : W.grownBy ((W.setCell ⟨b, 0, none⟩ u).setCell ⟨b, 1, none⟩ v) (some b) :=
  ⟨rfl, rfl, rfl, by simp [World.setCell], fun k hk hne => by
    have : k ≠ b := fun e => hne (by rw [e])
    rw [Below.heap_setCell _ _ _ _ (by simpa using this), Below.heap_setCell _ _ _ _ (by simpa using this)]⟩

end Go.Proofs.Ytghnkhpjblnabaa

/- The small functions of the statements across the chapters: spans, copies, comparisons, and the known example. -/
namespace Go.Proofs.Ytghnkhpjblnabaa
open Go Go.RowKit Go.Shelf
attribute [local go_sem ↓] Go.wp_at_zero Go.wp_at_succ

set_option maxHeartbeats 800000 in
theorem firSpan_any (lo hi : Int) (w : World) :
    Calls Try.prog 6 #[iv lo, iv hi] w fun e w' => e = .returned (.agg #[iv lo, iv hi]) ∧ Below w.heap.size w w' := by
  go_enter Try.func6, Try.ntmps6
  go_wp2_with fail
  exact bodyPost_ret (v := .agg #[iv lo, iv hi]) (by simp [results, Try.results6, go_sem]) rfl ⟨rfl, (by repeat (first | exact Below.refl _ _ | refine Below.drew ?_ | refine bpush ?_ _ | refine bput ?_ (by simp) _ | (refine bstep ?_ (by assumption))))⟩

theorem spans3 {w : World} {g cap : Nat} {a b c d e f : Int} {t : TypeId} (h : w.heap[g]? = some (.cells #[iv a, iv b, iv c, iv d, iv e, iv f] t (0, 0))) : SliceOf encS 2 w (.slice (some ⟨g, 0, none⟩) 3 cap) [(a, b), (c, d), (e, f)] := by
  refine ⟨_, cap, rfl, by simp, fun i p hp => ⟨g, 0, rfl, fun j u hu => ?_⟩⟩
  rw [cell_of_row _ _ _ _ _ _ h]
  rcases i with _ | _ | _ | i
  · simp at hp; subst hp; rcases j with _ | _ | j <;> simp [encS] at hu ⊢ <;> exact hu
  · simp at hp; subst hp; rcases j with _ | _ | j <;> simp [encS] at hu ⊢ <;> exact hu
  · simp at hp; subst hp; rcases j with _ | _ | j <;> simp [encS] at hu ⊢ <;> exact hu
  · simp at hp

theorem ints3 {w : World} {g cap : Nat} {a b c : Int} {t : TypeId} (h : w.heap[g]? = some (.cells #[iv a, iv b, iv c] t (0, 0))) : Ints w (.slice (some ⟨g, 0, none⟩) 3 cap) [a, b, c] := by
  refine ⟨_, cap, rfl, by simp, fun i p hp => ⟨g, 0, rfl, fun j u hu => ?_⟩⟩
  rw [cell_of_row _ _ _ _ _ _ h]
  rcases i with _ | _ | _ | i
  · simp at hp; subst hp; rcases j with _ | j <;> simp [encI] at hu ⊢ <;> exact hu
  · simp at hp; subst hp; rcases j with _ | j <;> simp [encI] at hu ⊢ <;> exact hu
  · simp at hp; subst hp; rcases j with _ | j <;> simp [encI] at hu ⊢ <;> exact hu
  · simp at hp
theorem bdrewN {B : Nat} {w w1 : World} (h : Below B w w1) (n : Nat) : Below B w (w1.drewN n) := ⟨h.os, h.tape, h.output, h.size, h.block⟩
theorem beq_take_succ {xs ys : List Int} {k : Nat} {x y : Int} (h : xs.take k = ys.take k) (hx : xs[k]? = some x) (hy : ys[k]? = some y) (he : x = y) : xs.take (k + 1) = ys.take (k + 1) := by
  rw [List.take_add_one, List.take_add_one, h, hx, hy, he]

set_option maxRecDepth 20000 in
set_option maxHeartbeats 3200000 in
theorem firSame_any (xs ys : List Int) (av bv : Value) (w : World) (ha : Ints w av xs) (hb : Ints w bv ys) :
    Calls Try.prog 31 #[av, bv] w fun e w' => e = .returned (.bool (decide (xs = ys))) ∧ Below w.heap.size w w' := by
  obtain ⟨aa, ac, rfl, hal, hac⟩ := ha
  obtain ⟨ba, bc, rfl, hbl, hbc⟩ := hb
  have HA := Lib.hid hac; have HB := Lib.hid hbc
  clear hac hbc
  by_cases hl : xs.length = ys.length
  · have e1 : ((xs.length : Int) != (ys.length : Int)) = false := by simp [hl]
    have HL := Lib.hid hl; clear hl
    go_enter Try.func31, Try.ntmps31
    go_wp2_with fail
    go_loopw [5] (fun i wr => ∃ k : Nat, k ≤ xs.length ∧ i = iv k ∧ Hid (xs.take k = ys.take k) ∧ Below w.heap.size w wr) (fun i _ => xs.length - (intOf i).toNat)
    case atStart => exact ⟨0, Nat.zero_le _, rfl, rfl, Below.refl _ _⟩
    case round =>
      obtain ⟨k, hk, rfl, HT, hbw⟩ := hrel
      by_cases hlt : k < xs.length
      · obtain ⟨x, hx⟩ := getElem?_of_lt hlt
        obtain ⟨y, hy⟩ := getElem?_of_lt (xs := ys) (k := k) (by rw [← HL.out]; exact hlt)
        obtain ⟨p, po, rfl, hpj⟩ := HA.out k x hx
        obtain ⟨q, qo, rfl, hqj⟩ := HB.out k y hy
        have c0 := hpj 0 (iv x) rfl
        have c1 := hqj 0 (iv y) rfl
        simp only [Nat.mul_one, Nat.add_zero] at c0 c1
        have d0 := kcell hbw c0
        have d1 := kcell hbw c1
        have HX := Lib.hid hx; have HY := Lib.hid hy
        have HBW := Lib.hid hbw
        have i0 : (0 : Int) ≤ (k : Int) := by omega
        have i1 : (k : Int) < (xs.length : Int) := by omega
        have i2 : (k : Int) < (ys.length : Int) := by rw [← HL.out]; exact i1
        clear hpj hqj hx hy c0 c1 hbw
        by_cases hxy : x = y
        · have e2 : (x != y) = false := by simp [hxy]
          have HXY := Lib.hid hxy; clear hxy
          go_wp2_with fail
          go_quiet (fail)
          go_wp2_with fail
          go_roundw
          case rel => exact ⟨k + 1, by omega, by go_num, beq_take_succ HT.out HX.out HY.out HXY.out, bdrewN HBW.out _⟩
          case measure => simp [intOf]; omega
        · have e2 : (x != y) = true := by simpa using hxy
          have HR : Hid (decide (xs = ys) = false) := by
            simp only [Hid, decide_eq_false_iff_not]; intro h; subst h
            have := HX.out.symm.trans HY.out
            exact hxy (by simpa using this)
          clear hxy
          go_wp2_with fail
          go_quiet (fail)
          go_wp2_with fail
          go_ret
          exact ⟨by rw [HR.out]; rfl, bdrewN HBW.out _⟩
      · obtain rfl : k = xs.length := by omega
        have HR : Hid (decide (xs = ys) = true) := by
          have := HT.out
          rw [List.take_length, HL.out, List.take_length] at this
          simpa [Hid] using this
        go_wp2_with fail
        go_ret
        exact ⟨by rw [HR.out]; rfl, hbw⟩
  · have e1 : ((xs.length : Int) != (ys.length : Int)) = true := by simp; omega
    have HR : Hid (decide (xs = ys) = false) := by
      simp only [Hid, decide_eq_false_iff_not]; intro h; subst h; exact hl rfl
    clear hl
    go_enter Try.func31, Try.ntmps31
    go_wp2_with fail
    go_ret
    exact ⟨by rw [HR.out]; rfl, (by repeat (first | exact Below.refl _ _ | refine Below.drew ?_ | refine bpush ?_ _ | refine bput ?_ (by simp) _ | (refine bstep ?_ (by assumption))))⟩

def kMl : Ml := ⟨3, 10, 30, 40, 50, 20, 25⟩
def kFl : List Sp := [(10, 20), (0, 5), (15, 30)]
theorem kMost : mostL kMl kFl = [0, 1, 3] := by decide +kernel
theorem kChk : sChk kMl kFl = 0 := by decide +kernel

end Go.Proofs.Ytghnkhpjblnabaa
