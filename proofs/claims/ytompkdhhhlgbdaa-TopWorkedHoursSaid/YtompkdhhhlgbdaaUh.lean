/- Plain facts for TopWorkedHours. -/
import Derived.Test.YtompkdhhhlgbdaaUg
import Derived.Test.YtompkdhhhlgbdaaUd
import Derived.Test.YtompkdhhhlgbdaaTc
namespace Go.Proofs.Ytompkdhhhlgbdaa
open Go Go.RowKit Go.Shelf

theorem qAt_size {t : Tk} (ht : vTrack t = true) (n : Nat) : vSizeP (qAt t n) = true := by
  have ht' := ht
  simp only [vTrack, vRate, Bool.and_eq_true, vSpan_iff] at ht
  have hne : ((crs t).map fun p => aft p.1 p.2 n) ≠ [] := by
    intro e
    have := mem_crs (t := t) (x := t.fl) (r := t.rl) (by omega) (by omega) (by omega) (by omega)
    rw [List.map_eq_nil_iff] at e; rw [e] at this; cases this
  obtain ⟨-, h2, h3, h4⟩ := strOf_spec _ hne
  have hin : ∀ y ∈ ((crs t).map fun p => aft p.1 p.2 n), 0 ≤ y ∧ y ≤ 2000 := by
    intro y hy
    obtain ⟨⟨x, r⟩, hp, rfl⟩ := List.mem_map.1 hy
    have h5 := crs_mem hp
    have h6 := aft_bd (x := x) (r := r) (by omega) (by omega) (by omega) n
    dsimp only; omega
  have a1 := hin _ h2
  have a2 := hin _ h3
  have a3 := qAt_ends ht' n
  show vSpan (qAt t n).1 (qAt t n).2 0 2000 2000 = true
  have b1 : 0 ≤ (qAt t n).1 ∧ (qAt t n).1 ≤ 2000 := a1
  have b2 : 0 ≤ (qAt t n).2 ∧ (qAt t n).2 ≤ 2000 := a2
  simp only [vSpan, Bool.and_eq_true, inB_iff]
  omega
theorem canF_own {t : Tk} (ht : vTrack t = true) (n : Nat) : canF (qAt t n).1 (qAt t n).2 (crs t) n = true := by
  simp only [vTrack, vRate, Bool.and_eq_true, vSpan_iff] at ht
  have hm := mem_crs (t := t) (x := t.fl) (r := t.rl) (by omega) (by omega) (by omega) (by omega)
  have hne : ((crs t).map fun p => aft p.1 p.2 n) ≠ [] := by
    intro e
    rw [List.map_eq_nil_iff] at e; rw [e] at hm; cases hm
  obtain ⟨-, -, -, h4⟩ := strOf_spec _ hne
  refine List.any_eq_true.2 ⟨_, hm, inB_iff.2 ?_⟩
  exact h4 _ (List.mem_map.2 ⟨_, hm, rfl⟩)
theorem canQ_own {a b c : Tk} (hv : [a, b, c].all vTrack = true) (n : Nat) {k : Nat} (hk : k < 3) : canQ a b c [] [qAt a n, qAt b n, qAt c n] k n = true := by
  unfold canQ
  rw [trs_nil]
  simp only [List.all_cons, List.all_nil, Bool.and_true, Bool.and_eq_true] at hv
  rcases (show k = 0 ∨ k = 1 ∨ k = 2 by omega) with rfl | rfl | rfl
  · exact canF_own hv.1 n
  · exact canF_own hv.2.1 n
  · exact canF_own hv.2.2 n
theorem hrs_mem {f : Nat → Nat → Bool} {n : Nat} (hn : n < 49) (h : ∀ k, k < 3 → f k n = true) : ∃ k0 : Nat, (hrsTo f 49)[k0]? = some (n : Int) := by
  have : (n : Int) ∈ hrsTo f 49 := by
    refine List.mem_map.2 ⟨n, List.mem_filter.2 ⟨List.mem_range.2 hn, ?_⟩, rfl⟩
    rw [h 0 (by omega), h 1 (by omega), h 2 (by omega)]; rfl
  exact List.mem_iff_getElem?.1 this
/-- The plan that bytes make: one hammer or none. -/
def wPlan (H : List Int) (k : Nat) : List Int := (List.range k).map fun i => if i < H.length then H.getD i 0 % 2 else 0
theorem wPlan_len (H : List Int) (k : Nat) : (wPlan H k).length = k := by simp [wPlan]
theorem wPlan_succ (H : List Int) (k : Nat) : wPlan H (k + 1) = wPlan H k ++ [if k < H.length then H.getD k 0 % 2 else 0] := by simp [wPlan, List.range_succ]
theorem wPlan_mem (H : List Int) (k : Nat) : ∀ x ∈ wPlan H k, 0 ≤ x ∧ x ≤ 1 := by
  intro x hx
  obtain ⟨i, -, rfl⟩ := List.mem_map.1 hx
  split <;> omega
theorem wPlan_ok (H : List Int) (n : Nat) : vPlan 1 (wPlan H n) n n = true := by
  refine vPlan_iff.2 ⟨by rw [wPlan_len]; omega, List.all_eq_true.2 (fun x hx => inB_iff.2 (wPlan_mem H n x hx))⟩
theorem wPlan_sum (H : List Int) (n : Nat) : 0 ≤ (wPlan H n).sum ∧ (wPlan H n).sum ≤ n := by
  have := sum_le_k (k := 1) (by omega) (wPlan H n) (wPlan_mem H n)
  rw [wPlan_len] at this; omega
end Go.Proofs.Ytompkdhhhlgbdaa
