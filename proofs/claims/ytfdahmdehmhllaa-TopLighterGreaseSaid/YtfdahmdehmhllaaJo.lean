/- Plain facts for TopLighterGrease. -/
import Derived.Test.YtfdahmdehmhllaaJn
import Derived.Test.YtfdahmdehmhllaaHb
import Derived.Test.YtfdahmdehmhllaaSo
namespace Go.Proofs.Ytfdahmdehmhllaa
open Go Go.RowKit Go.Shelf

theorem grsI_mono {a b t : Int} (h : a ≤ b) (ht : 0 ≤ t) : grsI a t ≤ grsI b t := by
  have := Int.mul_le_mul_of_nonneg_right h ht
  unfold grsI; omega
theorem shS_valid {q : Q4} (h : q4B q) : vSo (shS q) = true := by
  obtain ⟨h1, h2, h3, h4⟩ := h
  exact vSo_iff.2 (by simp only [shS]; omega)
theorem shN_bd (X : List Q4) : 1 ≤ shN X ∧ shN X ≤ 3 := by unfold shN; split <;> omega
theorem shL_len (X : List Q4) (k : Nat) : (shL X k).length = k := by simp [shL]
theorem shL_chk {X : List Q4} (hX : ∀ q ∈ X, q4B q) : soChk (shL X (shN X)) = 0 := by
  have h1 := shN_bd X
  have hl := shL_len X (shN X)
  unfold soChk
  rw [if_neg (by omega), if_neg (by omega), if_pos]
  refine List.all_eq_true.2 fun s hs => ?_
  obtain ⟨i, -, rfl⟩ := List.mem_map.1 hs
  refine shS_valid ?_
  rw [List.getD_eq_getElem?_getD]
  cases hi : X[i]? with
  | none => exact by unfold q4B; simp
  | some q => exact hX q (List.mem_of_getElem? hi)
attribute [local go_sem ↓] Go.wp_at_zero Go.wp_at_succ
set_option maxHeartbeats 1600000 in
theorem firSpan_exact (lo hi : Int) (w : World) :
    Calls Try.prog 8 #[iv lo, iv hi] w fun e w' => e = .returned (.agg #[iv lo, iv hi]) ∧ w.alloc (.cells #[iv lo, iv hi] 43) = w' := by
  go_enter Try.func8, Try.ntmps8
  go_wp2_with fail
  exact bodyPost_ret (v := .agg #[iv lo, iv hi]) (by simp [results, Try.results8, go_sem]) rfl ⟨rfl, rfl⟩
end Go.Proofs.Ytfdahmdehmhllaa
