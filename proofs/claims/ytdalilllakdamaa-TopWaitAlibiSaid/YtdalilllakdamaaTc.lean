/- What Below, Done and Most say of what is made of bytes. -/
import Derived.Test.YtdalilllakdamaaTb
import Derived.Test.YtdalilllakdamaaSn
namespace Go.Proofs.Ytdalilllakdamaa
open Go Go.RowKit Go.Shelf

theorem first_or (p : Nat → Bool) : ∀ n, (∀ j, j < n → p j = false) ∨ ∃ k, k < n ∧ p k = true ∧ ∀ j, j < k → p j = false
  | 0 => .inl (fun j hj => by omega)
  | n + 1 => by
    rcases first_or p n with h | ⟨k, h1, h2, h3⟩
    · cases hp : p n
      · refine .inl (fun j hj => ?_)
        by_cases e : j = n
        · rw [e]; exact hp
        · exact h j (by omega)
      · exact .inr ⟨n, by omega, hp, h⟩
    · exact .inr ⟨k, by omega, h2, h3⟩
theorem firstHr_spec (p : Nat → Bool) : firstHr p ≤ 49 ∧ (∀ j, j < firstHr p → p j = false) ∧ (firstHr p < 49 → p (firstHr p) = true) := by
  rcases first_or p 49 with h | ⟨k, h1, h2, h3⟩
  · rw [firstHr_none p h]; exact ⟨Nat.le_refl _, h, fun h => by omega⟩
  · rw [firstHr_at p h1 h3 h2]; exact ⟨by omega, h3, fun _ => h2⟩
theorem qAt_ends {t : Tk} (ht : vTrack t = true) (h : Nat) : (qAt t h).1 ≤ (qAt t h).2 := by
  simp only [vTrack, vRate, Bool.and_eq_true, vSpan_iff] at ht
  have hne : ((crs t).map fun p => aft p.1 p.2 h) ≠ [] := by
    intro e
    have := mem_crs (t := t) (x := t.fl) (r := t.rl) (by omega) (by omega) (by omega) (by omega)
    rw [List.map_eq_nil_iff] at e; rw [e] at this; cases this
  obtain ⟨-, h2, h3, h4⟩ := strOf_spec _ hne
  exact (h4 _ h2).2
theorem below_nil {a b c : Tk} {lim : Int} (hv : [a, b, c].all vTrack = true) (hl : 0 ≤ lim ∧ lim ≤ 2000) :
    ∃ sn pn : Nat, belowErr [a, b, c] [] 1 lim = 0 ∧ belowS [a, b, c] [] 1 lim = sn ∧ belowP [a, b, c] [] 1 lim = pn ∧ pn ≤ sn ∧ sn ≤ 49 ∧ ∀ n, n ≤ 48 → ((qAt b n).2 ≤ lim ↔ sn ≤ n) := by
  have hb : vTrack b = true := List.all_eq_true.1 hv b (by simp)
  have he : belowErr [a, b, c] [] 1 lim = 0 := by
    have h1 : inB 0 2 1 = true := by decide
    have h2 : inB 0 2000 lim = true := inB_iff.2 hl
    simp [belowErr, opn_nil hv, h1, h2]
  have ht : trsT [a, b, c] [] (1 : Int).toNat = crs b := trs_nil _ _
  have e1 : ∀ h, (hourStr (crs b) h).h = (qAt b h).2 := fun _ => rfl
  have e2 : ∀ h, (hourStr (crs b) h).l = (qAt b h).1 := fun _ => rfl
  obtain ⟨s1, s2, s3⟩ := firstHr_spec (fun h => decide ((hourStr (crs b) h).h ≤ lim))
  obtain ⟨p1, p2, p3⟩ := firstHr_spec (fun h => decide ((hourStr (crs b) h).l ≤ lim))
  have hS : belowS [a, b, c] [] 1 lim = firstHr (fun h => decide ((hourStr (crs b) h).h ≤ lim)) := by rw [belowS, if_pos he, ht]
  have hP : belowP [a, b, c] [] 1 lim = firstHr (fun h => decide ((hourStr (crs b) h).l ≤ lim)) := by rw [belowP, if_pos he, ht]
  generalize firstHr (fun h => decide ((hourStr (crs b) h).h ≤ lim)) = sn at *
  generalize firstHr (fun h => decide ((hourStr (crs b) h).l ≤ lim)) = pn at *
  simp only [decide_eq_true_eq, decide_eq_false_iff_not, e1, e2] at s2 s3 p2 p3
  refine ⟨sn, pn, he, hS, hP, ?_, s1, ?_⟩
  · by_cases hs : sn < 49
    · have h1 := s3 hs
      refine Nat.le_of_not_lt (fun hlt => ?_)
      have h2 := p2 _ hlt
      have := qAt_ends hb sn
      omega
    · omega
  · intro n hn
    constructor
    · intro h
      exact Nat.le_of_not_lt (fun hlt => s2 _ hlt h)
    · intro h
      exact Int.le_trans (qAt_mono hb h).2 (s3 (by omega))
/-- The plan with the most hammers of the first hours. -/
theorem most_pre {m : Ml} {F : List Sp} (hc : sChk m F = 0) (hk : m.k = 1) {j : Nat} (h1 : 1 ≤ j) (h2 : j ≤ F.length) :
    sChk m (F.take j) = 0 ∧ (mostL m (F.take j)).length = j ∧ (mostL m (F.take j)).sum = ((busy m m.nl F).take j).sum ∧ (0 ≤ (mostL m (F.take j)).sum ∧ (mostL m (F.take j)).sum ≤ j) ∧ ∀ x ∈ mostL m (F.take j), -1000 ≤ x ∧ x ≤ 1000 := by
  obtain ⟨hm, hl24, hl0, hF⟩ := sChk_zero hc
  have hlt : (F.take j).length = j := by rw [List.length_take]; omega
  have hF' : (F.take j).all vFlow = true := by
    rw [List.all_eq_true] at *; intro x hx; exact hF x (List.mem_of_mem_take hx)
  have hc' : sChk m (F.take j) = 0 := by
    unfold sChk
    rw [if_pos hm, if_neg (by omega), if_neg (by omega), if_pos hF']
  have h0 : 0 ≤ m.nl := (vMill_iff.1 hm).2.2.2.2.1
  have hp : ∀ p ∈ F.take j, 0 ≤ p.1 := fun p hp => (okSpan_iff.1 (List.all_eq_true.1 hF' p hp)).1
  obtain ⟨e1, e2⟩ := mostP_sum hm (F.take j) m.nl h0 hp
  have e3 := mostP_mem hm (F.take j) m.nl h0 hp
  have e4 := sum_le_k (k := 1) (by omega) (mostP m m.nl (F.take j)) (fun x hx => by rw [← hk]; exact e3 x hx)
  have e : mostL m (F.take j) = mostP m m.nl (F.take j) := by rw [mostL, if_pos hc']
  rw [e, e2, hlt]
  refine ⟨hc', rfl, by rw [e1, busy_take], ?_, fun x hx => ?_⟩
  · rw [e2, hlt] at e4; omega
  · have := e3 x hx; omega
theorem SliceOf.take {α : Type} {enc : α → List Value} {sz : Nat} {w : World} {a : Option Addr} {l c n : Nat} {xs : List α} (h : SliceOf enc sz w (.slice a l c) xs) (hn : n ≤ xs.length) : SliceOf enc sz w (.slice a n c) (xs.take n) := by
  obtain ⟨a', c', hv, hl, hc⟩ := h
  simp only [Value.slice.injEq] at hv
  obtain ⟨rfl, -, rfl⟩ := hv
  have e : (xs.take n).length = n := by rw [List.length_take]; omega
  refine ⟨a, c, by rw [e], by omega, fun i x hx => ?_⟩
  rw [List.getElem?_take] at hx
  split at hx
  · exact hc i x hx
  · cases hx
theorem owns_addr2 {α : Type} {enc : α → List Value} {sz e base : Nat} {w : World} {v : Value} {xs : List α} (h : Owns enc sz e base w v xs) (hne : 0 < xs.length) : ∃ g c, v = .slice (some ⟨g, 0, none⟩) xs.length c ∧ xs.length ≤ c := by
  obtain ⟨h1, h2⟩ := h
  rcases h2 with ⟨rfl, h0⟩ | ⟨g, cap, cur, rfl, -, -, h3, -⟩
  · omega
  · exact ⟨g, _, rfl, h3⟩
theorem one_valid {m : Ml} (hm : vMill m = true) : vMill ⟨1, m.t, m.bl, m.bh, m.h, m.nl, m.nh⟩ = true := by
  rw [vMill_iff] at *
  exact ⟨⟨by show (1 : Int) ≤ 1; omega, by show (1 : Int) ≤ 8; omega⟩, hm.2⟩
theorem one_chk {m : Ml} {F : List Sp} (hc : sChk m F = 0) : sChk ⟨1, m.t, m.bl, m.bh, m.h, m.nl, m.nh⟩ F = 0 := by
  obtain ⟨hm, hl24, hl0, hF⟩ := sChk_zero hc
  unfold sChk
  rw [if_pos (one_valid hm), if_neg (by omega), if_neg (by omega), if_pos hF]
/-- What is found out of the work. -/
theorem done_one {m : Ml} {F : List Sp} {sn : Nat} {n err : Int} (hc : sChk m F = 0) (hk : m.k = 1) (h : DoneR (busy m m.nl F) sn n err) :
    (∃ k : Nat, n = k ∧ err = 0 ∧ sn ≤ k ∧ k ≤ F.length ∧ (1 ≤ k → (sn : Int) ≤ (mostL m (F.take k)).sum) ∧ ∀ j, 1 ≤ j → j < k → (mostL m (F.take j)).sum < sn) ∨ (n = 0 ∧ err = 7 ∧ (mostL m F).sum < sn) := by
  obtain ⟨hm, hl24, hl0, hF⟩ := sChk_zero hc
  rcases h with ⟨k, rfl, rfl, h1, h2, h3⟩ | ⟨rfl, rfl, h1⟩
  · rw [busy_len] at h1
    refine .inl ⟨k, rfl, rfl, ?_, h1, fun hk1 => ?_, fun j hj1 hj => ?_⟩
    · have hp : ∀ p ∈ F, 0 ≤ p.1 := fun p hp => (okSpan_iff.1 (List.all_eq_true.1 hF p hp)).1
      have e3 := busy_mem hm F m.nl (vMill_iff.1 hm).2.2.2.2.1 hp
      have e4 := sum_le_k (k := 1) (by omega) ((busy m m.nl F).take k) (fun x hx => by rw [← hk]; exact e3 x (List.mem_of_mem_take hx))
      rw [List.length_take, busy_len] at e4
      omega
    · rw [(most_pre hc hk hk1 h1).2.2.1]; exact h2
    · rw [(most_pre hc hk hj1 (by omega)).2.2.1]; exact h3 j hj
  · have e := (most_pre hc hk (j := F.length) (by omega) (Nat.le_refl _)).2.2.1
    rw [List.take_length] at e
    exact .inr ⟨rfl, rfl, by rw [e]; exact h1 _ (by rw [busy_len]; exact Nat.le_refl _)⟩
end Go.Proofs.Ytdalilllakdamaa
