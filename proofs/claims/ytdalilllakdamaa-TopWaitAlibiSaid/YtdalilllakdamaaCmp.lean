/- cmp.Compare, cmp.Or, slices.Compare at integers; the reference's Spans and Ints; span of the laws. -/
import Derived.Test.YtdalilllakdamaaMa
namespace Go.Proofs.Ytdalilllakdamaa
open Go Go.RowKit Go.Shelf
attribute [local go_sem] Oper.semAt_some

def cmpI (x y : Int) : Int := if x < y then -1 else if y < x then 1 else 0
def cmpL : List Int → List Int → Int
  | [], [] => 0
  | [], _ :: _ => -1
  | _ :: _, [] => 1
  | x :: xs, y :: ys => if cmpI x y = 0 then cmpL xs ys else cmpI x y
theorem cmpI_zero {x y : Int} : cmpI x y = 0 ↔ x = y := by
  unfold cmpI
  split
  · constructor <;> omega
  · split <;> constructor <;> omega
theorem cmpL_drop {xs ys : List Int} : ∀ {k : Nat}, xs.take k = ys.take k → k ≤ xs.length → k ≤ ys.length → cmpL xs ys = cmpL (xs.drop k) (ys.drop k) := by
  intro k
  induction k generalizing xs ys with
  | zero => intro _ _ _; rfl
  | succ k ih =>
    intro h h1 h2
    cases xs with
    | nil => simp at h1
    | cons x xs =>
      cases ys with
      | nil => simp at h2
      | cons y ys =>
        simp only [List.take_succ_cons, List.cons.injEq] at h
        simp only [List.drop_succ_cons, cmpL, if_pos (cmpI_zero.2 h.1)]
        exact ih h.2 (by simpa using h1) (by simpa using h2)
theorem drop_cons {α : Type} {xs : List α} {k : Nat} {x : α} (h : xs[k]? = some x) : xs.drop k = x :: xs.drop (k + 1) := by
  obtain ⟨hk, rfl⟩ := List.getElem?_eq_some_iff.1 h
  exact List.drop_eq_getElem_cons hk

set_option maxHeartbeats 800000 in
theorem isNaN_any (x : Int) (w : World) : Calls Try.prog 53 #[iv x] w fun e w' => e = .returned (.bool false) ∧ w' = w := by
  go_enter Try.func53, Try.ntmps53
  go_wp2_with fail
  go_ret
  exact ⟨by simp, rfl⟩

set_option maxHeartbeats 800000 in
theorem compare_any (x y : Int) (w : World) : Calls Try.prog 44 #[iv x, iv y] w fun e w' => e = .returned (iv (cmpI x y)) ∧ w' = w := by
  have H : (x < y ∧ Hid (cmpI x y = -1)) ∨ (¬ x < y ∧ y < x ∧ Hid (cmpI x y = 1)) ∨ (¬ x < y ∧ ¬ y < x ∧ Hid (cmpI x y = 0)) := by
    unfold cmpI
    by_cases h1 : x < y
    · exact .inl ⟨h1, if_pos h1⟩
    · by_cases h2 : y < x
      · exact .inr (.inl ⟨h1, h2, by rw [Hid, if_neg h1, if_pos h2]⟩)
      · exact .inr (.inr ⟨h1, h2, by rw [Hid, if_neg h1, if_neg h2]⟩)
  rcases H with ⟨h1, H⟩ | ⟨h1, h2, H⟩ | ⟨h1, h2, H⟩
  all_goals
    go_enter Try.func44, Try.ntmps44
    go_wp2_with fail
    refine (isNaN_any x _).mono ?_
    rintro e w1 ⟨rfl, rfl⟩
    go_wp2_with fail
    refine (isNaN_any y _).mono ?_
    rintro e w1 ⟨rfl, rfl⟩
    go_wp2_with fail
    go_ret
    exact ⟨by rw [H.out]; rfl, rfl⟩

def orL : List Int → Int
  | [] => 0
  | x :: xs => if x = 0 then orL xs else x
theorem orL_drop {xs : List Int} : ∀ {k : Nat}, (xs.take k).all (fun x => decide (x = 0)) = true → orL xs = orL (xs.drop k) := by
  intro k
  induction k generalizing xs with
  | zero => intro _; rfl
  | succ k ih =>
    intro h
    cases xs with
    | nil => rfl
    | cons x xs =>
      simp only [List.take_succ_cons, List.all_cons, Bool.and_eq_true, decide_eq_true_eq] at h
      simp only [List.drop_succ_cons, orL, if_pos h.1]
      exact ih h.2

set_option maxHeartbeats 1600000 in
theorem or_any (xs : List Int) (v : Value) (w : World) (hs : Ints w v xs) : Calls Try.prog 43 #[v] w fun e w' => e = .returned (iv (orL xs)) ∧ w' = w := by
  obtain ⟨a, cap, rfl, hm, hc⟩ := hs
  go_enter Try.func43, Try.ntmps43
  go_wp2_with fail
  go_loopw [8, 5] (fun i _ wr => ∃ k : Nat, k ≤ xs.length ∧ i = iv k ∧ (xs.take k).all (fun x => decide (x = 0)) = true ∧ wr = w) (fun i _ _ => xs.length - (intOf i).toNat)
  case atStart => exact ⟨0, Nat.zero_le _, rfl, by simp, rfl⟩
  case round =>
    obtain ⟨k, hk, rfl, hall, rfl⟩ := hrel
    have HA := Lib.hid hall; clear hall
    by_cases hlt : k < xs.length
    · obtain ⟨x, hx⟩ := getElem?_of_lt hlt
      obtain ⟨b, off, rfl, hj⟩ := hc k x hx
      have hcell : wr.cell? ⟨b, off + k, none⟩ = some (iv x) := by have h := hj 0 (iv x) rfl; rwa [Nat.mul_one, Nat.add_zero] at h
      have HD := Lib.hid (orL_drop HA.out)
      have HX := Lib.hid hx; clear hx hj hc
      by_cases h0 : x = 0
      · subst h0
        go_wp2_with fail
        go_roundw
        case rel => exact ⟨k + 1, by omega, by go_num, all_take_succ _ HX.out HA.out (by simp), trivial⟩
        case measure => simp [intOf]; omega
      · have HR : Hid (orL xs = x) := by rw [Hid, HD.out, drop_cons HX.out, orL, if_neg h0]
        go_wp2_with fail
        go_ret
        exact ⟨by rw [HR.out]; rfl, rfl⟩
    · obtain rfl : k = xs.length := by omega
      have HR : Hid (orL xs = 0) := by rw [Hid, orL_drop HA.out, List.drop_length]; rfl
      clear hc
      go_wp2_with fail
      go_ret
      exact ⟨by rw [HR.out]; rfl, rfl⟩

set_option maxHeartbeats 3200000 in
theorem compareL_any (xs ys : List Int) (v u : Value) (w : World) (hs : Ints w v xs) (ht : Ints w u ys) : Calls Try.prog 45 #[v, u] w fun e w' => e = .returned (iv (cmpL xs ys)) ∧ w' = w := by
  obtain ⟨a, cap, rfl, hm, hc⟩ := hs
  obtain ⟨b, cap2, rfl, hm2, hc2⟩ := ht
  go_enter Try.func45, Try.ntmps45
  go_wp2_with fail
  go_loopw [11, 5] (fun i _ wr => ∃ k : Nat, k ≤ xs.length ∧ k ≤ ys.length ∧ i = iv k ∧ xs.take k = ys.take k ∧ wr = w) (fun i _ _ => xs.length - (intOf i).toNat)
  case atStart => exact ⟨0, Nat.zero_le _, Nat.zero_le _, rfl, by simp, rfl⟩
  case round =>
    obtain ⟨k, hk, hk2, rfl, hall, rfl⟩ := hrel
    have HD := Lib.hid (cmpL_drop hall hk hk2)
    have HA := Lib.hid hall; clear hall
    by_cases hlt : k < xs.length
    · obtain ⟨x, hx⟩ := getElem?_of_lt hlt
      obtain ⟨b1, off, rfl, hj⟩ := hc k x hx
      have hcell : wr.cell? ⟨b1, off + k, none⟩ = some (iv x) := by have h := hj 0 (iv x) rfl; rwa [Nat.mul_one, Nat.add_zero] at h
      have HX := Lib.hid hx; clear hx hj hc
      by_cases hlt2 : k < ys.length
      · obtain ⟨y, hy⟩ := getElem?_of_lt hlt2
        obtain ⟨b2, off2, rfl, hj2⟩ := hc2 k y hy
        have hcell2 : wr.cell? ⟨b2, off2 + k, none⟩ = some (iv y) := by have h := hj2 0 (iv y) rfl; rwa [Nat.mul_one, Nat.add_zero] at h
        have HY := Lib.hid hy; clear hy hj2 hc2
        have HF : Hid (cmpL xs ys = if cmpI x y = 0 then cmpL (xs.drop (k + 1)) (ys.drop (k + 1)) else cmpI x y) := by rw [Hid, HD.out, drop_cons HX.out, drop_cons HY.out, cmpL]
        go_wp2_with fail
        refine (compare_any x y _).mono ?_
        rintro e w1 ⟨rfl, rfl⟩
        by_cases h0 : cmpI x y = 0
        · have h1 := Lib.hid (cmpI_zero.1 h0)
          rw [h0]
          go_wp2_with fail
          go_roundw
          case rel => exact ⟨k + 1, by omega, by omega, by go_num, by rw [List.take_add_one, List.take_add_one, HX.out, HY.out, HA.out, h1.out], trivial⟩
          case measure => simp [intOf]; omega
        · have HR : Hid (cmpL xs ys = cmpI x y) := by rw [Hid, HF.out, if_neg h0]
          generalize cmpI x y = z at *
          go_wp2_with fail
          go_ret
          exact ⟨by rw [HR.out]; rfl, rfl⟩
      · obtain rfl : k = ys.length := by omega
        have HR : Hid (cmpL xs ys = 1) := by rw [Hid, HD.out, drop_cons HX.out, List.drop_length]; rfl
        clear hc2
        go_wp2_with fail
        go_ret
        exact ⟨by rw [HR.out]; rfl, rfl⟩
    · obtain rfl : k = xs.length := by omega
      by_cases hlt2 : xs.length < ys.length
      · obtain ⟨y, hy⟩ := getElem?_of_lt hlt2
        have HR : Hid (cmpL xs ys = -1) := by rw [Hid, HD.out, List.drop_length, drop_cons hy]; rfl
        clear hc hc2 hy
        go_wp2_with fail
        go_ret
        exact ⟨by rw [HR.out]; rfl, rfl⟩
      · have hle : xs.length = ys.length := by omega
        have HR : Hid (cmpL xs ys = 0) := by rw [Hid, HD.out, List.drop_length, hle, List.drop_length]; rfl
        clear hc hc2
        go_wp2_with fail
        go_ret
        exact ⟨by rw [HR.out]; rfl, rfl⟩
end Go.Proofs.Ytdalilllakdamaa
