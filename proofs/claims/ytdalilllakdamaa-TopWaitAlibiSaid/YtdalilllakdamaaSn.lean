/- What is made of bytes is valid. -/
import Derived.Test.YtdalilllakdamaaSl
import Derived.Test.YtdalilllakdamaaSm
namespace Go.Proofs.Ytdalilllakdamaa
open Go Go.RowKit Go.Shelf

theorem fbN_bd (V : List (Int × Int)) : 1 ≤ fbN V ∧ fbN V ≤ 12 := by unfold fbN; split <;> omega
theorem fbL_len (V : List (Int × Int)) (k : Nat) : (fbL V k).length = k := by simp [fbL]
theorem fbSp_bd {V : List (Int × Int)} (hV : ∀ p ∈ V, (0 ≤ p.1 ∧ p.1 ≤ 255) ∧ (0 ≤ p.2 ∧ p.2 ≤ 255)) (i : Nat) : vFlow (fbSp V i) = true := by
  have h : 0 ≤ (V.getD i (10, 2)).1 ∧ 0 ≤ (V.getD i (10, 2)).2 := by
    by_cases hi : i < V.length
    · rw [show V.getD i (10, 2) = V[i] by simp [List.getD, List.getElem?_eq_getElem hi]]
      obtain ⟨h1, h2⟩ := hV _ (List.getElem_mem hi)
      exact ⟨h1.1, h2.1⟩
    · rw [show V.getD i (10, 2) = (10, 2) by simp [List.getD, List.getElem?_eq_none (show V.length ≤ i by omega)]]; exact ⟨by decide, by decide⟩
  refine okSpan_iff.2 ?_
  simp only [fbSp]
  generalize (V.getD i (10, 2)).1 = x at *
  generalize (V.getD i (10, 2)).2 = y at *
  obtain ⟨hx, hy⟩ := h
  omega
theorem fb_valid {m0 m1 m2 m3 : Int} {V : List (Int × Int)} (_h0 : 0 ≤ m0 ∧ m0 ≤ 255) (_h1 : 0 ≤ m1 ∧ m1 ≤ 255) (_h2 : 0 ≤ m2 ∧ m2 ≤ 255) (_h3 : 0 ≤ m3 ∧ m3 ≤ 255) (hV : ∀ p ∈ V, (0 ≤ p.1 ∧ p.1 ≤ 255) ∧ (0 ≤ p.2 ∧ p.2 ≤ 255)) :
    sChk (fbMl m0 m1 m2 m3) (fbL V (fbN V)) = 0 := by
  have hb := fbN_bd V
  have hm : vMill (fbMl m0 m1 m2 m3) = true := by
    refine vMill_iff.2 ?_
    have e1 : 0 ≤ m3 % (21 + m2 % 80) := Int.emod_nonneg _ (by omega)
    have e2 : m3 % (21 + m2 % 80) < 21 + m2 % 80 := Int.emod_lt_of_pos _ (by omega)
    simp only [fbMl]
    generalize m3 % (21 + m2 % 80) = N at *
    refine ⟨?_, ?_, by decide, ?_, ?_⟩ <;> (try split) <;> omega
  have hf : (fbL V (fbN V)).all vFlow = true := by
    refine List.all_eq_true.2 (fun x hx => ?_)
    obtain ⟨i, -, rfl⟩ := List.mem_map.1 hx
    exact fbSp_bd hV i
  unfold sChk
  rw [if_pos hm, if_neg (by rw [fbL_len]; omega), if_neg (by rw [fbL_len]; omega), if_pos hf]
theorem fyT_valid {b : Nat → Int} (hb : ∀ i, 0 ≤ b i ∧ b i ≤ 255) (i : Nat) : vTrack (fyT b i) = true := by
  have h0 := hb (4 * i); have h1 := hb (4 * i + 1); have h2 := hb (4 * i + 2); have h3 := hb (4 * i + 3)
  simp only [vTrack, vRate, Bool.and_eq_true, vSpan_iff, fyT]
  omega
end Go.Proofs.Ytdalilllakdamaa
