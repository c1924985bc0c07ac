/- Shares of a load: plain mathematics. -/
import Derived.Test.YtfdahmdehmhllaaQb
namespace Go.Proofs.Ytfdahmdehmhllaa
open Go Go.RowKit

/-- The greatest of a list. -/
def mxL : List Int → Int
  | [] => 0
  | x :: t => t.foldl max x
theorem foldl_max_mem : ∀ (t : List Int) (x : Int), t.foldl max x ∈ x :: t
  | [], x => by simp
  | y :: t, x => by
    have h := foldl_max_mem t (max x y)
    rw [List.foldl_cons]
    simp only [List.mem_cons] at h ⊢
    rcases h with h | h
    · rcases Int.le_total x y with h2 | h2
      · rw [Int.max_eq_right h2] at h ⊢; exact .inr (.inl h)
      · rw [Int.max_eq_left h2] at h ⊢; exact .inl h
    · exact .inr (.inr h)
theorem mxL_mem {l : List Int} (h : l ≠ []) : mxL l ∈ l := by
  cases l with
  | nil => exact absurd rfl h
  | cons x t => exact foldl_max_mem t x
/-- The first place of a number. -/
def atI (x : Int) : List Int → Nat
  | [] => 0
  | y :: t => if y = x then 0 else atI x t + 1
theorem atI_lt {x : Int} : ∀ {l : List Int}, x ∈ l → atI x l < l.length
  | [], h => by simp at h
  | y :: t, h => by
    unfold atI
    split
    · simp
    · rename_i hne
      have : x ∈ t := by simpa [Ne.symm hne, show ¬ x = y from fun e => hne e.symm] using h
      have := atI_lt this
      simp; omega
theorem atI_ge {x : Int} : ∀ {l : List Int}, ¬ x ∈ l → atI x l = l.length
  | [], _ => rfl
  | y :: t, h => by
    have h1 : ¬ y = x := fun e => h (by simp [e])
    have h2 : ¬ x ∈ t := fun e => h (by simp [e])
    rw [atI, if_neg h1, atI_ge h2]; rfl
theorem atI_get {x : Int} : ∀ {l : List Int}, x ∈ l → l[atI x l]? = some x
  | [], h => by simp at h
  | y :: t, h => by
    unfold atI
    split
    · rename_i e; simp [e]
    · rename_i hne
      have : x ∈ t := by simpa [show ¬ x = y from fun e => hne e.symm] using h
      simpa using atI_get this
theorem atI_before {x : Int} : ∀ {l : List Int} {k : Nat}, k < atI x l → l[k]? ≠ some x
  | [], k, h => by simp [atI] at h
  | y :: t, k, h => by
    unfold atI at h
    split at h
    · omega
    · rename_i hne
      cases k with
      | zero => simpa using hne
      | succ k => simpa using atI_before (l := t) (k := k) (by omega)
theorem atI_of {x : Int} {l : List Int} {k : Nat} (h1 : l[k]? = some x) (h2 : ∀ z ∈ l.take k, z ≠ x) : atI x l = k := by
  have hm : x ∈ l := List.mem_of_getElem? h1
  have h3 := atI_get hm
  rcases Nat.lt_trichotomy (atI x l) k with h | h | h
  · exfalso
    have : (l.take k)[atI x l]? = some x := by rw [List.getElem?_take, if_pos h, h3]
    exact h2 x (List.mem_of_getElem? this) rfl
  · exact h
  · exact absurd h1 (atI_before h)
/-- One farthing more for the one whose share was rounded by most. -/
def payS (l r : List Int) : Nat → List Int × List Int
  | 0 => (l, r)
  | j + 1 => ((payS l r j).1.set (atI (mxL (payS l r j).2) (payS l r j).2) ((payS l r j).1.getD (atI (mxL (payS l r j).2) (payS l r j).2) 0 + 1), (payS l r j).2.set (atI (mxL (payS l r j).2) (payS l r j).2) 0)
theorem payS_len (l r : List Int) : ∀ j, (payS l r j).1.length = l.length ∧ (payS l r j).2.length = r.length
  | 0 => ⟨rfl, rfl⟩
  | j + 1 => by
    have h := payS_len l r j
    simp [payS, h.1, h.2]
theorem mem_set_or {l : List Int} {i : Nat} {a x : Int} (h : x ∈ l.set i a) : x ∈ l ∨ x = a := List.mem_or_eq_of_mem_set h
theorem payS_bd {l r : List Int} {B C : Int} (hl : ∀ x ∈ l, 0 ≤ x ∧ x ≤ B) (hr : ∀ x ∈ r, 0 ≤ x ∧ x ≤ C) (hB : 0 ≤ B) (hC : 0 ≤ C) : ∀ j : Nat, (∀ x ∈ (payS l r j).1, 0 ≤ x ∧ x ≤ B + j) ∧ (∀ x ∈ (payS l r j).2, 0 ≤ x ∧ x ≤ C)
  | 0 => ⟨fun x hx => by have := hl x hx; exact ⟨this.1, by simpa using this.2⟩, hr⟩
  | j + 1 => by
    obtain ⟨h1, h2⟩ := payS_bd hl hr hB hC j
    constructor
    · intro x hx
      rcases mem_set_or hx with h | h
      · have := h1 x h; omega
      · generalize atI _ _ = i at h
        rcases Nat.lt_or_ge i (payS l r j).1.length with hi | hi
        · have h3 := h1 _ (List.getElem_mem hi)
          rw [List.getD_eq_getElem?_getD, List.getElem?_eq_getElem hi, Option.getD_some] at h
          omega
        · rw [List.getD_eq_getElem?_getD, List.getElem?_eq_none (by omega), Option.getD_none] at h
          omega
    · intro x hx
      rcases mem_set_or hx with h | h
      · exact h2 x h
      · omega
/-- The shares, rounded down, what was rounded off, and what each one pays. -/
def shrL (P : List Int) (m : Int) : List Int := P.map fun p => (m * p).tdiv P.sum
def rstL (P : List Int) (m : Int) : List Int := P.map fun p => (m * p).tmod P.sum
def payL (P : List Int) (m : Int) : List Int := (payS (shrL P m) (rstL P m) (m - (shrL P m).sum).toNat).1
example : payL [3, 3, 1] 10 = [4, 4, 2] := by decide
theorem sum_one {P : List Int} (h : ∀ p ∈ P, 1 ≤ p ∧ p ≤ 100) : (P.length : Int) ≤ P.sum ∧ P.sum ≤ 100 * P.length := by
  induction P with
  | nil => simp
  | cons p P ih =>
    have h1 := h p (by simp)
    have h2 := ih (fun q hq => h q (by simp [hq]))
    simp only [List.length_cons, List.sum_cons]; omega
theorem shr_even {P : List Int} {t : Int} (hs : 0 < P.sum) : shrL P (P.sum * t) = P.map (fun p => p * t) ∧ rstL P (P.sum * t) = P.map fun _ => 0 := by
  constructor
  · refine List.map_congr_left fun p _ => ?_
    rw [Int.mul_assoc, Int.mul_tdiv_cancel_left _ (by omega), Int.mul_comm]
  · refine List.map_congr_left fun p _ => ?_
    rw [Int.mul_assoc, Int.mul_tmod_right]
theorem sum_map_mul (P : List Int) (t : Int) : (P.map (fun p => p * t)).sum = P.sum * t := by
  induction P with
  | nil => simp
  | cons p P ih => simp [ih, Int.add_mul]
theorem pay_even {P : List Int} {t : Int} (hs : 0 < P.sum) : payL P (P.sum * t) = P.map (fun p => p * t) := by
  rw [payL, (shr_even hs).1, sum_map_mul, Int.sub_self]; rfl
end Go.Proofs.Ytfdahmdehmhllaa
