/- TopWindowDry: plain facts. -/
import Derived.Test.YtkialkfplhhenaaGm
namespace Go.Proofs.Ytkialkfplhhenaa
open Go Go.RowKit

/-- More water, and hours that dry less: no earlier. -/
theorem dryL_mono {S : List Sp} {s1 s2 : Sp → Int} (h : ∀ p ∈ S, s2 p ≤ s1 p) : ∀ (d k : Nat) (a b : Int), k + d = S.length → a ≤ b → dryL ((S.map s1).drop k) a k ≤ dryL ((S.map s2).drop k) b k := by
  intro d
  induction d with
  | zero =>
    intro k a b hk hab
    obtain rfl : k = S.length := by omega
    by_cases ha : 0 < a
    · rw [dryL_end ha, dryL_end (by omega)]; exact Nat.le_refl _
    · rw [dryL_done ha]
      exact (dryL_le 0 S.length b (by omega)).2
  | succ d ih =>
    intro k a b hk hab
    by_cases ha : 0 < a
    · obtain ⟨p, hp⟩ := getElem?_of_lt (show k < S.length by omega)
      rw [dryL_step ha hp, dryL_step (by omega) hp]
      have := h p (List.mem_of_getElem? hp)
      exact ih (k + 1) _ _ (by omega) (by omega)
    · rw [dryL_done ha]
      exact (dryL_le (d + 1) k b (by omega)).2
/-- Hung one hour later: no earlier. -/
theorem dryL_later {S : List Sp} {s : Sp → Int} (h : ∀ p ∈ S, 0 ≤ s p) {k : Nat} (wt : Int) (hk : k + 1 ≤ S.length) : dryL ((S.map s).drop k) wt k ≤ dryL ((S.map s).drop (k + 1)) wt (k + 1) := by
  by_cases h0 : 0 < wt
  · obtain ⟨p, hp⟩ := getElem?_of_lt (show k < S.length by omega)
    rw [dryL_step h0 hp]
    have := h p (List.mem_of_getElem? hp)
    exact dryL_mono (fun _ _ => Int.le_refl _) (S.length - (k + 1)) (k + 1) _ _ (by omega) (by omega)
  · rw [dryL_done h0, dryL_done h0]; omega
theorem vWth_iff {p : Sp} : vWth p = true ↔ 0 ≤ p.1 ∧ p.1 ≤ 100 ∧ 0 ≤ p.2 ∧ p.2 ≤ 100 ∧ p.1 ≤ p.2 := okSpan_iff
theorem latL_mono {c : Tn} {S : List Sp} (hv : S.all vWth = true) : ∀ (d k : Nat), k + d ≤ S.length → latL c S k ≤ latL c S (k + d)
  | 0, k, _ => Nat.le_refl _
  | d + 1, k, h => by
    refine Nat.le_trans (latL_mono hv d k (by omega)) ?_
    exact dryL_later (s := Prod.fst) (fun p hp => (vWth_iff.1 (List.all_eq_true.1 hv p hp)).1) c.2.2 (k := k + d) (by omega)
theorem ear_lat {c : Tn} {S : List Sp} {k : Nat} (hv : S.all vWth = true) (hc : vTn c = true) (hk : k ≤ S.length) : k ≤ earL c S k ∧ earL c S k ≤ latL c S k ∧ latL c S k ≤ S.length + 1 :=
  ⟨(dryL_le (S.length - k) k c.2.1 (by omega)).2, dryL_mono (fun p hp => (vWth_iff.1 (List.all_eq_true.1 hv p hp)).2.2.2.2) (S.length - k) k _ _ (by omega) (vTn_water hc).2.2, (dryL_le (S.length - k) k c.2.2 (by omega)).1⟩
/-- A cloth that is hung surely is dry in time just if it is hung no later than Late. -/
theorem late_iff {c : Tn} {S : List Sp} {rain fr : Nat} (hv : S.all vWth = true) (hr : rain ≤ S.length) (hf : fr ≤ rain) : latL c S fr ≤ rain ↔ ∃ h, lateO c S rain = some h ∧ fr ≤ h := by
  constructor
  · intro h
    cases e : lateO c S rain with
    | none => have := lateTo_none e fr (by omega); omega
    | some q =>
      obtain ⟨h1, h2, h3⟩ := lateTo_some e
      refine ⟨q, rfl, ?_⟩
      by_cases hq : fr ≤ q
      · exact hq
      · have := h3 fr (by omega) (by omega); omega
  · rintro ⟨q, e, hq⟩
    obtain ⟨h1, h2, -⟩ := lateTo_some e
    have := latL_mono (c := c) hv (q - fr) fr (by omega)
    rw [show fr + (q - fr) = q by omega] at this
    omega
theorem late_le {c : Tn} {S : List Sp} {rain h : Nat} (e : lateO c S rain = some h) : h ≤ rain := by have := (lateTo_some e).1; omega

/-- The weather that is made is valid. -/
theorem skL_len (V : List (Int × Int)) (k : Nat) : (skL V k).length = k := by simp [skL]
theorem skN_le (V : List (Int × Int)) : 1 ≤ skN V ∧ skN V ≤ 16 := by unfold skN; split <;> omega
theorem skL_ok {V : List (Int × Int)} (hV : ∀ p ∈ V, (0 ≤ p.1 ∧ p.1 ≤ 255) ∧ (0 ≤ p.2 ∧ p.2 ≤ 255)) (k : Nat) : (skL V k).all vWth = true := by
  rw [List.all_eq_true]
  intro p hp
  simp only [skL, List.mem_map] at hp
  obtain ⟨i, -, rfl⟩ := hp
  have hb : (0 ≤ (V.getD i (15, 5)).1 ∧ (V.getD i (15, 5)).1 ≤ 255) ∧ (0 ≤ (V.getD i (15, 5)).2 ∧ (V.getD i (15, 5)).2 ≤ 255) := by
    rw [List.getD_eq_getElem?_getD]
    cases h : V[i]? with
    | none => simp
    | some p => exact hV p (List.mem_of_getElem? h)
  rw [vWth_iff]
  simp only [skSp]
  omega
theorem emL_len (V : List (Int × Int)) (k : Nat) : (emL V k).length = k := by simp [emL]
theorem emN_le (V : List (Int × Int)) : 1 ≤ emN V ∧ emN V ≤ 12 := by unfold emN; split <;> omega
theorem emL_ok {V : List (Int × Int)} (hV : ∀ p ∈ V, (0 ≤ p.1 ∧ p.1 ≤ 255) ∧ (0 ≤ p.2 ∧ p.2 ≤ 255)) (k : Nat) : (emL V k).all vFlow = true := by
  rw [List.all_eq_true]
  intro p hp
  simp only [emL, List.mem_map] at hp
  obtain ⟨i, -, rfl⟩ := hp
  have hb : (0 ≤ (V.getD i (20, 4)).1 ∧ (V.getD i (20, 4)).1 ≤ 255) ∧ (0 ≤ (V.getD i (20, 4)).2 ∧ (V.getD i (20, 4)).2 ≤ 255) := by
    rw [List.getD_eq_getElem?_getD]
    cases h : V[i]? with
    | none => simp
    | some p => exact hV p (List.mem_of_getElem? h)
  unfold vFlow
  rw [okSpan_iff]
  simp only [emSp]
  omega
theorem emMl_ok {m0 m1 m2 m3 m4 : Int} (h2 : 0 ≤ m2 ∧ m2 ≤ 255) (h3 : 0 ≤ m3 ∧ m3 ≤ 255) : vMill (emMl m0 m1 m2 m3 m4) = true := by
  simp only [vMill, emMl, Bool.and_eq_true, inB_iff, okSpan_iff]
  omega
theorem em_chk {m0 m1 m2 m3 m4 : Int} {V : List (Int × Int)} (h2 : 0 ≤ m2 ∧ m2 ≤ 255) (h3 : 0 ≤ m3 ∧ m3 ≤ 255) (hV : ∀ p ∈ V, (0 ≤ p.1 ∧ p.1 ≤ 255) ∧ (0 ≤ p.2 ∧ p.2 ≤ 255)) : sChk (emMl m0 m1 m2 m3 m4) (emL V (emN V)) = 0 := by
  have hn := emN_le V
  simp only [sChk, emMl_ok h2 h3, emL_len, emL_ok hV]
  rw [if_pos trivial, if_neg (by omega), if_neg (by omega), if_pos trivial]
/-- The field of the law. -/
def wdC (lo : Int) : Tn := ((50, 50), (lo, lo + 2))
theorem wdC_ok {lo : Int} (h : 0 ≤ lo ∧ lo ≤ 42) : vTn (wdC lo) = true := by
  simp only [vTn, wdC, Bool.and_eq_true, okSpan_iff]; omega
theorem wd_ok {lo : Int} {S : List Sp} (h : 0 ≤ lo ∧ lo ≤ 42) (hs : 1 ≤ S.length ∧ S.length ≤ 16) (hv : S.all vWth = true) : FdOk [wdC lo] [60] 0 0 S := by
  refine ⟨?_, by omega, hv⟩
  have e1 : vFd ⟨[wdC lo], [60], 0, 0⟩ = true := by simp [vFd, wdC_ok h, inB]
  simp [fdChk, e1, inB]
theorem win_lt {m : Ml} {F : List Sp} {k hours : Int} {j : Nat} (h : winO m F k hours = some j) : j < F.length := by
  unfold winO at h
  exact List.mem_range.1 (List.mem_of_find?_eq_some h)
theorem wd_own (lo : Int) (g1 g2 : Nat) (W : World) (h1 : SliceOf encN 4 W (.slice (some ⟨g1, 0, none⟩) 1 1) [wdC lo]) (h2 : Ints W (.slice (some ⟨g2, 0, none⟩) 1 1) [60]) :
    Calls Try.prog 10 #[.agg #[.slice (some ⟨g1, 0, none⟩) 1 1, .slice (some ⟨g2, 0, none⟩) 1 1, iv 0, iv 0]] W fun e w' => ∃ h1 d1 h2 d2, e = .returned (.agg #[.slice (some ⟨h1, 0, none⟩) 1 d1, .slice (some ⟨h2, 0, none⟩) 1 d2, iv 0, iv 0]) ∧ SliceOf encN 4 w' (.slice (some ⟨h1, 0, none⟩) 1 d1) [wdC lo] ∧ Ints w' (.slice (some ⟨h2, 0, none⟩) 1 d2) [60] ∧ Below W.heap.size W w' :=
  elmOwn_any [wdC lo] [60] 0 0 ⟨g1, 0, none⟩ ⟨g2, 0, none⟩ 1 1 W (by simp) (by simp) (by simp) (by simp) h1 h2
theorem wd_late {lo : Int} {S : List Sp} {l : Nat} {el : Int} {rn : Nat} (hok : FdOk [wdC lo] [60] 0 0 S) (hr : rn ≤ S.length) (hl : lateV (lateO (wdC lo) S rn) = .tuple #[iv l, iv el]) (ca ra wa : Option Addr) (cc rc wc : Nat) (W : World) (h1 : SliceOf encN 4 W (.slice ca 1 cc) [wdC lo]) (h2 : Ints W (.slice ra 1 rc) [60]) (h3 : SliceOf encS 2 W (.slice wa S.length wc) S) :
    Calls Try.prog 9 #[.agg #[.slice ca 1 cc, .slice ra 1 rc, iv 0, iv 0], .slice wa S.length wc, iv 0, iv rn] W fun e w' => e = .returned (.tuple #[iv l, iv el]) ∧ Below W.heap.size W w' := by
  have := Late_good [wdC lo] [60] 0 0 S ca ra wa cc rc wc 0 rn (wdC lo) W ⟨h1, h2, h3⟩ hok hr rfl
  rw [hl] at this
  exact this
theorem wd_dry {lo : Int} {S : List Sp} {fr : Nat} (hok : FdOk [wdC lo] [60] 0 0 S) (hr : fr ≤ S.length) (ca ra wa : Option Addr) (cc rc wc : Nat) (W : World) (h1 : SliceOf encN 4 W (.slice ca 1 cc) [wdC lo]) (h2 : Ints W (.slice ra 1 rc) [60]) (h3 : SliceOf encS 2 W (.slice wa S.length wc) S) :
    Calls Try.prog 12 #[.agg #[.slice ca 1 cc, .slice ra 1 rc, iv 0, iv 0], .slice wa S.length wc, iv fr] W fun e w' => ∃ g, e = .returned (.tuple #[.slice (some ⟨g, 0, none⟩) 1 1, iv 0]) ∧ SliceOf encS 2 w' (.slice (some ⟨g, 0, none⟩) 1 1) [dryS S fr (wdC lo)] ∧ Below W.heap.size W w' :=
  Dry_good [wdC lo] [60] 0 0 S ca ra wa cc rc wc fr W ⟨h1, h2, h3⟩ hok hr
theorem win_pair {m : Ml} {F : List Sp} {k hours : Int} : ∃ (a : Nat) (er : Int), winV (winO m F k hours) = .tuple #[iv a, iv er] ∧ ((er = 0 ∧ winO m F k hours = some a) ∨ (er = 7 ∧ a = 0)) := by
  cases h : winO m F k hours with
  | none => exact ⟨0, 7, rfl, .inr ⟨rfl, rfl⟩⟩
  | some j => exact ⟨j, 0, rfl, .inl ⟨rfl, rfl⟩⟩
theorem late_pair {c : Tn} {S : List Sp} {rn : Nat} : ∃ (l : Nat) (el : Int), lateV (lateO c S rn) = .tuple #[iv l, iv el] ∧ ((el = 0 ∧ lateO c S rn = some l) ∨ (el = 9 ∧ l = 0 ∧ lateO c S rn = none)) := by
  cases h : lateO c S rn with
  | none => exact ⟨0, 9, rfl, .inr ⟨rfl, rfl, rfl⟩⟩
  | some j => exact ⟨j, 0, rfl, .inl ⟨rfl, rfl⟩⟩
end Go.Proofs.Ytkialkfplhhenaa
