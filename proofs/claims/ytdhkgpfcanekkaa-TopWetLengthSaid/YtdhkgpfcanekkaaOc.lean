/- TopWetLength: plain facts. -/
import Derived.Test.YtdhkgpfcanekkaaOa
import Derived.Test.YtdhkgpfcanekkaaOb
import Derived.Test.YtdhkgpfcanekkaaKz
namespace Go.Proofs.Ytdhkgpfcanekkaa
open Go Go.RowKit Go.Shelf

theorem aft_posO {x r : Int} (hx : 1 ≤ x) (hr : 0 ≤ r) (hr' : r ≤ 999) : ∀ h, 1 ≤ aft x r h
  | 0 => hx
  | h + 1 => by
    have h1 := aft_posO hx hr hr' h
    unfold aft
    have h3 : 0 ≤ aft x r h * r := Int.mul_nonneg (by omega) hr
    have h4 : aft x r h * r ≤ aft x r h * 999 := Int.mul_le_mul_of_nonneg_left hr' (by omega)
    omega
theorem qAt_inO {t : Tk} (ht : vTrack t = true) (h : Nat) : 1 ≤ (qAt t h).1 ∧ (qAt t h).2 ≤ t.fh := by
  simp only [vTrack, vRate, Bool.and_eq_true, vSpan_iff] at ht
  have hne : ((crs t).map fun p => aft p.1 p.2 h) ≠ [] := by
    intro e
    have := mem_crs (t := t) (x := t.fl) (r := t.rl) (by omega) (by omega) (by omega) (by omega)
    rw [List.map_eq_nil_iff] at e; rw [e] at this; cases this
  obtain ⟨-, h2, h3, -⟩ := strOf_spec _ hne
  have hin : ∀ y ∈ ((crs t).map fun p => aft p.1 p.2 h), 1 ≤ y ∧ y ≤ t.fh := by
    intro y hy
    obtain ⟨⟨x, r⟩, hp, rfl⟩ := List.mem_map.1 hy
    have := crs_mem hp
    dsimp only at this ⊢
    exact ⟨aft_posO (by omega) (by omega) (by omega) h, Int.le_trans (aft_bd (by omega) (by omega) (by omega) h).2 (by omega)⟩
  exact ⟨(hin _ h2).1, (hin _ h3).2⟩
/-- How long the cloth is said to be, and is. -/
theorem wet_len {b : Nat → Int} (hb : ∀ i, 0 ≤ b i ∧ b i ≤ 255) (h : Nat) : 1 ≤ (qAt (ebT b 0) h).1 ∧ (qAt (ebT b 0) h).1 ≤ ebA b 0 h ∧ ebA b 0 h ≤ (qAt (ebT b 0) h).2 ∧ (qAt (ebT b 0) h).2 ≤ 2000 := by
  have h1 := qAt_inO (ebT_valid hb 0) h
  have h2 := ebT_in hb 0 h
  have h3 : (ebT b 0).fh ≤ 2000 := by
    have := ebT_valid hb 0
    simp only [vTrack, Bool.and_eq_true, vSpan_iff] at this; omega
  omega
theorem permI_lt (str own at_ : Int) : permI str own < at_ ↔ own * (1000 + str) < at_ * 1000 := by
  unfold permI
  exact Int.ediv_lt_iff_lt_mul (by omega)
theorem permI_up {str a b : Int} (hs : 0 ≤ str) (h : a ≤ b) : permI str a ≤ permI str b :=
  Int.ediv_le_ediv (by omega) (Int.mul_le_mul_of_nonneg_right h (by omega))
theorem permI_ge {str a : Int} (hs : 0 ≤ str) (h : 0 ≤ a) : a ≤ permI str a := by
  have h2 : permI 0 a = a := by unfold permI; omega
  have h3 : 0 ≤ a * str := Int.mul_nonneg h hs
  have h4 : a * (1000 + str) = a * 1000 + a * str := Int.mul_add _ _ _
  unfold permI; omega
/-- Farther than the statute permits, at a length: what is true, what is sure, what may be. -/
theorem wet_over {lo hi real str : Int} (h2 : lo ≤ real) (h3 : real ≤ hi) (hs : 0 ≤ str) (at_ : Int) :
    (permI str hi < at_ → real * (1000 + str) < at_ * 1000) ∧ (real * (1000 + str) < at_ * 1000 → permI str lo < at_) := by
  have m1 : lo * (1000 + str) ≤ real * (1000 + str) := Int.mul_le_mul_of_nonneg_right h2 (by omega)
  have m2 : real * (1000 + str) ≤ hi * (1000 + str) := Int.mul_le_mul_of_nonneg_right h3 (by omega)
  rw [permI_lt, permI_lt]
  omega
/-- The length that is tried. -/
def wetAt (str : Int) (lo hi : Int) (k : Nat) : Int :=
  if permI str lo < hi then hi else if k = 0 then hi else if k = 1 then permI str lo else permI str lo + 1
theorem wetAt_in {str lo hi : Int} (h1 : 1 ≤ lo) (h2 : lo ≤ hi) (h3 : hi ≤ 2000) (hs : 0 ≤ str ∧ str ≤ 119) (k : Nat) : 1 ≤ wetAt str lo hi k ∧ wetAt str lo hi k ≤ 4000 := by
  have h4 : permI str lo ≤ permI 119 2000 := by
    refine Int.ediv_le_ediv (by omega) ?_
    refine Int.le_trans (Int.mul_le_mul_of_nonneg_right (show lo ≤ 2000 by omega) (by omega)) (Int.mul_le_mul_of_nonneg_left (by omega) (by omega))
  have h5 : permI 119 2000 = 2238 := by decide
  unfold wetAt
  split
  · omega
  · split
    · omega
    · split <;> omega
/-- No length, or the one past the longest: it may be too much. -/
theorem wet_last {str lo hi : Int} {k : Nat} (h : permI str lo < hi ∨ k = 2) : permI str lo < wetAt str lo hi k := by
  unfold wetAt
  split
  · assumption
  · rcases h with h | rfl
    · omega
    · simp; omega
/-- Else it is neither slack nor stretched too much. -/
theorem wet_good {str lo hi real : Int} {k : Nat} (hr : real ≤ hi) (h : ¬ permI str lo < hi) (hk : k < 2) : real ≤ wetAt str lo hi k ∧ ¬ permI str lo < wetAt str lo hi k := by
  unfold wetAt
  rw [if_neg h]
  split
  · omega
  · split <;> omega
/-- The field is a valid one. -/
theorem wet_chk {lo hi v0 v1 v2 v3 : Int} {n : Nat} (h1 : 1 ≤ lo) (h2 : lo ≤ hi) (h3 : hi ≤ 2000) (b2 : 0 ≤ v2 ∧ v2 ≤ 255) (b3 : 0 ≤ v3 ∧ v3 ≤ 255) (hn : v0 / 32 % 3 = (n : Int)) :
    fdChk ⟨[((lo, hi), (0, 0))], frL v2 v3 (n + 1), v0 % 20, v1 % 120⟩ = 0 := by
  have a1 : okSpan lo hi 1 2000 = true := okSpan_iff.2 (by omega)
  have a2 : okSpan 0 0 0 500 = true := by decide
  have a3 : inB 1 3 ((frL v2 v3 (n + 1)).length : Int) = true := inB_iff.2 (by rw [frL_len]; omega)
  have a4 : (frL v2 v3 (n + 1)).all (inB 1 2000) = true := by
    rw [List.all_eq_true]
    intro x hx
    obtain ⟨i, -, rfl⟩ := List.mem_map.1 hx
    refine inB_iff.2 ?_
    unfold frI
    split <;> omega
  have a5 : inB 0 50 (v0 % 20) = true := inB_iff.2 (by omega)
  have a6 : inB 0 200 (v1 % 120) = true := inB_iff.2 (by omega)
  simp [fdChk, vFd, vTn, a1, a2, a3, a4, a5, a6]
end Go.Proofs.Ytdhkgpfcanekkaa
