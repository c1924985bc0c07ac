/- quantity.courses of package cloth: the iterator. -/
import Derived.Test.YtfpbfhjfhfmanacAga
namespace Go.Proofs.Ytfpbfhjfhfmanac
open Go Go.RowKit
attribute [local go_sem] Oper.semAt_some

def ups (lo : Int) (n : Nat) : List Int := (List.range n).map fun (i : Nat) => lo + (i : Int)
theorem ups_zero (lo : Int) : ups lo 0 = [] := rfl
theorem ups_succ (lo : Int) (n : Nat) : ups lo (n + 1) = ups lo n ++ [lo + (n : Int)] := by simp [ups, List.range_succ]
/-- The first x rates, with one length. -/
def rowOf (t : Tk) (x : Int) (n : Nat) : List (Int × Int) := (ups t.rl n).map fun r => (x, r)
def crsTo (t : Tk) (i : Nat) : List (Int × Int) := (ups t.fl i).flatMap fun x => rowOf t x (t.rh + 1 - t.rl).toNat
/-- All lengths with all rates, in their order. -/
def crs (t : Tk) : List (Int × Int) := crsTo t (t.fh + 1 - t.fl).toNat
theorem crsTo_succ (t : Tk) (i : Nat) : crsTo t (i + 1) = crsTo t i ++ rowOf t (t.fl + (i : Int)) (t.rh + 1 - t.rl).toNat := by simp [crsTo, ups_succ]
theorem rowOf_succ (t : Tk) (x : Int) (n : Nat) : rowOf t x (n + 1) = rowOf t x n ++ [(x, t.rl + (n : Int))] := by simp [rowOf, ups_succ]
theorem ups_prefix (lo : Int) {a b : Nat} (h : a ≤ b) : ups lo a <+: ups lo b := by
  obtain ⟨c, rfl⟩ := Nat.le.dest h
  simp only [ups, List.range_add, List.map_append]
  exact List.prefix_append _ _
theorem rowOf_prefix (t : Tk) (x : Int) {a b : Nat} (h : a ≤ b) : rowOf t x a <+: rowOf t x b := by
  obtain ⟨c, hc⟩ := ups_prefix t.rl h
  exact ⟨c.map fun r => (x, r), by rw [rowOf, rowOf, ← hc, List.map_append]⟩
theorem crsTo_prefix (t : Tk) {a b : Nat} (h : a ≤ b) : crsTo t a <+: crsTo t b := by
  obtain ⟨c, hc⟩ := ups_prefix t.fl h
  exact ⟨_, by rw [crsTo, crsTo, ← hc, List.flatMap_append]⟩
theorem crs_prefix (t : Tk) {i j : Nat} (hi : i < (t.fh + 1 - t.fl).toNat) (hj : j < (t.rh + 1 - t.rl).toNat) : (crsTo t i ++ rowOf t (t.fl + (i : Int)) j) ++ [(t.fl + (i : Int), t.rl + (j : Int))] <+: crs t := by
  refine List.IsPrefix.trans ?_ (crsTo_prefix t (show i + 1 ≤ (t.fh + 1 - t.fl).toNat from hi))
  rw [crsTo_succ, List.append_assoc, ← rowOf_succ]
  exact List.prefix_append_right_inj _ |>.2 (rowOf_prefix t _ hj)

theorem vSpan_iff {l h lo hi apart : Int} : vSpan l h lo hi apart = true ↔ lo ≤ l ∧ l ≤ hi ∧ lo ≤ h ∧ h ≤ hi ∧ 0 ≤ h - l ∧ h - l ≤ apart := by simp [vSpan, inB]; omega

end Go.Proofs.Ytfpbfhjfhfmanac
