/- Plans of one number of hammers: as long as they surely last, and one hour longer. -/
import Derived.Test.YtgoncgbbgodliaaMc
import Derived.Test.YtgoncgbbgodliaaUa
namespace Go.Proofs.Ytgoncgbbgodliaa
open Go Go.RowKit Go.Shelf

theorem lvs_pre {T H : Int} : ∀ (r r' : List (Int × Int)) (l : Int) (n : Nat), (lvs T H l r).length = n → n < r.length → n < r'.length → (∀ i, i ≤ n → r'[i]? = r[i]?) → (lvs T H l r').length = n
  | [], _, _, n, _, hl, _, _ => by simp at hl
  | _ :: _, [], _, n, _, _, hl, _ => by simp at hl
  | (f, k) :: r, x :: r', l, n, h, hl, hl', he => by
    have e0 := he 0 (Nat.zero_le _)
    simp only [List.getElem?_cons_zero, Option.some.injEq] at e0
    subst e0
    rw [lvs] at h ⊢
    split at h
    · rename_i hpos
      rw [if_pos hpos]
      cases n with
      | zero => simp at h
      | succ n =>
        simp only [List.length_cons, Nat.add_right_cancel_iff, Nat.add_lt_add_iff_right] at h hl hl' ⊢
        exact lvs_pre r r' _ n h hl hl' (fun i hi => by have := he (i + 1) (by omega); simpa using this)
    · rename_i hneg
      rw [if_neg hneg]; exact h
theorem lvs_zero {T H : Int} (hH : 0 ≤ H) : ∀ (r : List (Int × Int)) (l : Int), 0 ≤ l → (∀ p ∈ r, 0 ≤ p.1 ∧ p.2 = 0) → (lvs T H l r).length = r.length
  | [], _, _, _ => rfl
  | (f, k) :: r, l, hl, hp => by
    obtain ⟨h1, h2⟩ := hp (f, k) List.mem_cons_self
    dsimp only at h1 h2
    subst h2
    have h3 : 0 ≤ leftL T H l f 0 := by unfold leftL fillL; split <;> omega
    rw [lvs, if_pos h3, List.length_cons, List.length_cons, lvs_zero hH r _ h3 (fun p h => hp p (List.mem_cons_of_mem _ h))]
theorem lvs_cut {T H : Int} (hH : 0 ≤ H) : ∀ (n : Nat) (r r' : List (Int × Int)) (l : Int), 0 ≤ l → (lvs T H l r).length = n → (∀ i, i < n → r'[i]? = r[i]?) → (∀ i x, n ≤ i → r'[i]? = some x → 0 ≤ x.1 ∧ x.2 = 0) → (lvs T H l r').length = r'.length
  | 0, r, r', l, hl, _, _, hz => lvs_zero hH r' l hl (fun p hp => by obtain ⟨i, hi⟩ := List.getElem?_of_mem hp; exact hz i p (Nat.zero_le _) hi)
  | n + 1, [], r', l, _, h, _, _ => by simp [lvs] at h
  | n + 1, _ :: _, [], l, _, _, _, _ => rfl
  | n + 1, (f, k) :: r, x :: r', l, hl, h, he, hz => by
    have e0 := he 0 (by omega)
    simp only [List.getElem?_cons_zero, Option.some.injEq] at e0
    subst e0
    rw [lvs] at h ⊢
    split at h
    · rename_i hpos
      rw [if_pos hpos]
      simp only [List.length_cons, Nat.add_right_cancel_iff] at h ⊢
      exact lvs_cut hH n r r' _ hpos h (fun i hi => by have := he (i + 1) (by omega); simpa using this) (fun i x hi hx => hz (i + 1) x (by omega) (by simpa using hx))
    · simp at h
theorem hrs_get (sel : Sp → Int) (F : List Sp) (plan : List Int) (i : Nat) : (hrs sel F plan)[i]? = (match F[i]?, plan[i]? with | some p, some x => some (sel p, x) | _, _ => none) := by
  unfold hrs
  rw [List.zip, List.getElem?_zipWith, List.getElem?_map]
  cases F[i]? <;> cases plan[i]? <;> rfl
/-- The plan of so many hammers from an hour on till another one. -/
theorem hammers_plain {m : Ml} {F : List Sp} {k fr : Int} (hc : sChk m F = 0) (hk : inB 1 m.k k = true) (hf : inB 0 ((F.length : Int) - 1) fr = true) :
    ∃ N : Nat, fr + lastOf Prod.fst m F k fr = (N : Int) ∧ N ≤ F.length ∧ rightB m F (stdTo F.length k fr N) = true ∧ (N < F.length → rightB m F (stdTo F.length k fr (N + 1)) = false ∧ (lvOf Prod.fst m F (stdTo F.length k fr (N + 1))).length = N) ∧ (N = F.length → rightB m F (stdTo F.length k fr (N + 1)) = true) := by
  obtain ⟨he, -⟩ := last_bd hc hk hf
  obtain ⟨hm, hl24, hl0, hFv⟩ := sChk_zero hc
  obtain ⟨-, -, -, ⟨m5, m6⟩, m7, m8, m9, m10, m11⟩ := vMill_iff.1 hm
  have hFs : ∀ p ∈ F, 0 ≤ p.1 := fun p hp => (okSpan_iff.1 (List.all_eq_true.1 hFv p hp)).1
  have hN := lvOf_len Prod.fst m F (stdy F.length k fr)
  rw [show (stdy F.length k fr).length = F.length from stdTo_len _ _ _ _] at hN
  refine ⟨(lvOf Prod.fst m F (stdy F.length k fr)).length, ?_, hN, ?_, ?_, ?_⟩
  · rw [lastOf, if_pos he]; omega
  all_goals generalize hNN : (lvOf Prod.fst m F (stdy F.length k fr)).length = N at *
  · unfold rightB
    rw [decide_eq_true_eq, stdTo_len]
    have hlen : (hrs Prod.fst F (stdTo F.length k fr N)).length = F.length := by simp [hrs, stdTo_len]
    refine Eq.trans (lvs_cut m5 N (hrs Prod.fst F (stdy F.length k fr)) (hrs Prod.fst F (stdTo F.length k fr N)) m.nl m7 hNN (fun i hi => ?_) (fun i x hi hx => ?_)) hlen
    · rw [hrs_get, hrs_get, stdy, stdTo_get, stdTo_get]
      by_cases h1 : i < F.length
      · rw [if_pos h1, if_pos h1]
        have e : (i < N ∧ fr ≤ (i : Int)) ↔ (i < F.length ∧ fr ≤ (i : Int)) := by omega
        simp only [e]
      · omega
    · rw [hrs_get, stdTo_get] at hx
      by_cases h1 : i < F.length
      · rw [if_pos h1, if_neg (by omega)] at hx
        obtain ⟨p, hp⟩ := getElem?_of_lt h1
        rw [hp] at hx
        simp only [Option.some.injEq] at hx
        subst hx
        exact ⟨hFs p (List.mem_of_getElem? hp), rfl⟩
      · rw [if_neg h1] at hx
        cases hp : F[i]? <;> rw [hp] at hx <;> cases hx
  · intro hlt
    have e : (lvOf Prod.fst m F (stdTo F.length k fr (N + 1))).length = N := by
      refine lvs_pre (hrs Prod.fst F (stdy F.length k fr)) (hrs Prod.fst F (stdTo F.length k fr (N + 1))) m.nl N hNN (by simp [hrs, stdy, stdTo_len]; omega) (by simp [hrs, stdTo_len]; omega) (fun i hi => ?_)
      rw [hrs_get, hrs_get, stdy, stdTo_get, stdTo_get]
      have e : (i < N + 1 ∧ fr ≤ (i : Int)) ↔ (i < F.length ∧ fr ≤ (i : Int)) := by omega
      simp only [e]
    refine ⟨?_, e⟩
    unfold rightB
    rw [decide_eq_false_iff_not, e, stdTo_len]; omega
  · intro h
    have e : stdTo F.length k fr (N + 1) = stdy F.length k fr := by
      unfold stdy stdTo
      refine List.map_congr_left (fun i hi => ?_)
      have := List.mem_range.1 hi
      have e : (i < N + 1 ∧ fr ≤ (i : Int)) ↔ (i < F.length ∧ fr ≤ (i : Int)) := by omega
      simp only [e]
    unfold rightB
    rw [decide_eq_true_eq, e, hNN, show (stdy F.length k fr).length = F.length from stdTo_len _ _ _ _, h]
end Go.Proofs.Ytgoncgbbgodliaa
