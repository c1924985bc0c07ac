/- Windows: the first hour from which hammers surely last so long; the plan of these hours is right. -/
import Derived.Test.YtgoncgbbgodliaaLf
import Derived.Test.YtgoncgbbgodliaaMe
namespace Go.Proofs.Ytgoncgbbgodliaa
open Go Go.RowKit Go.Shelf

theorem lvs_cutL {T H : Int} (hH : 0 ≤ H) : ∀ (n : Nat) (r r' : List (Int × Int)) (l : Int), 0 ≤ l → n ≤ (lvs T H l r).length → (∀ i, i < n → r'[i]? = r[i]?) → (∀ i x, n ≤ i → r'[i]? = some x → 0 ≤ x.1 ∧ x.2 = 0) → (lvs T H l r').length = r'.length
  | 0, r, r', l, hl, _, _, hz => lvs_zero hH r' l hl (fun p hp => by obtain ⟨i, hi⟩ := List.getElem?_of_mem hp; exact hz i p (Nat.zero_le _) hi)
  | n + 1, [], r', l, _, h, _, _ => by simp [lvs] at h
  | n + 1, _ :: _, [], l, _, _, _, _ => rfl
  | n + 1, (f, k) :: r, x :: r', l, hl, h, he, hz => by
    have e0 := he 0 (by omega)
    simp only [List.getElem?_cons_zero, Option.some.injEq] at e0
    subst e0
    rw [lvs] at h ⊢
    split at h
    · rename_i hpos
      rw [if_pos hpos]
      simp only [List.length_cons, Nat.add_right_cancel_iff, Nat.add_le_add_iff_right] at h ⊢
      exact lvs_cutL hH n r r' _ hpos h (fun i hi => by have := he (i + 1) (by omega); simpa using this) (fun i x hi hx => hz (i + 1) x (by omega) (by simpa using hx))
    · simp at h
/-- A window is where hammers surely last so long. -/
theorem win_last {m : Ml} {F : List Sp} {k hours : Int} {fr : Nat} (hc : sChk m F = 0) (hk : inB 1 m.k k = true) (hf : fr < F.length) : winB m F k hours fr = decide (hours ≤ lastOf Prod.fst m F k (fr : Int)) := by
  have hr : inB 0 ((F.length : Int) - 1) (fr : Int) = true := inB_iff.2 ⟨by omega, by omega⟩
  obtain ⟨e1, -⟩ := last_bd hc hk hr
  rw [winB, lastOf, if_pos e1]
theorem window_plain {m : Ml} {F : List Sp} {k : Int} {a hours : Nat} (hc : sChk m F = 0) (h : winB m F k (hours : Int) a = true) :
    a + hours ≤ F.length ∧ rightB m F (stdTo F.length k (a : Int) (a + hours)) = true := by
  obtain ⟨hm, hl24, hl0, hFv⟩ := sChk_zero hc
  obtain ⟨-, -, -, ⟨m5, m6⟩, m7, m8, m9, m10, m11⟩ := vMill_iff.1 hm
  have hFs : ∀ p ∈ F, 0 ≤ p.1 := fun p hp => (okSpan_iff.1 (List.all_eq_true.1 hFv p hp)).1
  have hN := lvOf_len Prod.fst m F (stdy F.length k (a : Int))
  rw [show (stdy F.length k (a : Int)).length = F.length from stdTo_len _ _ _ _] at hN
  unfold winB at h
  rw [decide_eq_true_eq] at h
  have hle : a + hours ≤ (lvOf Prod.fst m F (stdy F.length k (a : Int))).length := by omega
  refine ⟨by omega, ?_⟩
  unfold rightB
  rw [decide_eq_true_eq, stdTo_len]
  have hlen : (hrs Prod.fst F (stdTo F.length k (a : Int) (a + hours))).length = F.length := by simp [hrs, stdTo_len]
  refine Eq.trans (lvs_cutL m5 (a + hours) (hrs Prod.fst F (stdy F.length k (a : Int))) (hrs Prod.fst F (stdTo F.length k (a : Int) (a + hours))) m.nl m7 hle (fun i hi => ?_) (fun i x hi hx => ?_)) hlen
  · rw [hrs_get, hrs_get, stdy, stdTo_get, stdTo_get]
    have e : (i < a + hours ∧ (a : Int) ≤ (i : Int)) ↔ (i < F.length ∧ (a : Int) ≤ (i : Int)) := by omega
    simp only [e]
  · rw [hrs_get, stdTo_get] at hx
    by_cases h1 : i < F.length
    · rw [if_pos h1, if_neg (by omega)] at hx
      obtain ⟨p, hp⟩ := getElem?_of_lt h1
      rw [hp] at hx
      simp only [Option.some.injEq] at hx
      subst hx
      exact ⟨hFs p (List.mem_of_getElem? hp), rfl⟩
    · rw [if_neg h1] at hx
      cases hp : F[i]? <;> rw [hp] at hx <;> cases hx
end Go.Proofs.Ytgoncgbbgodliaa
