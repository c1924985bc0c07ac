/- quantities.spans of package cloth, with the two functions that it is handed. -/
import Derived.Test.YtfpbfhjfhfmanacBox
namespace Go.Proofs.Ytfpbfhjfhfmanac
open Go Go.RowKit Go.Shelf
def strOf (l : List Int) : Str := l.foldl Str.add ⟨0, 0, 0⟩
theorem strOf_snoc (l : List Int) (x : Int) : strOf (l ++ [x]) = (strOf l).add x := by simp [strOf]
theorem foldl_n (l : List Int) : ∀ s : Str, (l.foldl Str.add s).n = s.n + l.length := by
  induction l with
  | nil => intro s; rfl
  | cons x l ih =>
    intro s
    rw [List.foldl_cons, ih, List.length_cons, Str.add]
    split <;> simp_all <;> omega
theorem strOf_n (l : List Int) : (strOf l).n = l.length := by rw [strOf, foldl_n]; simp
/-- From the least to the greatest of some numbers. -/
def hull (l : List Int) : Sp := ((strOf l).l, (strOf l).h)
/-- For the first k quantities from the least to the greatest number of their truths. -/
def spansTo (f : Int × Int → Int) (ta tb tc : Tk) (M : List Ms) : Nat → List Sp
  | 0 => []
  | k + 1 => spansTo f ta tb tc M k ++ [hull ((trs (tk3 ta tb tc k) (k : Int) M).map f)]
theorem spansTo_len (f : Int × Int → Int) (ta tb tc : Tk) (M : List Ms) (k : Nat) : (spansTo f ta tb tc M k).length = k := by
  induction k with
  | zero => rfl
  | succ k ih => simp [spansTo, ih]
theorem info72 : (Try.prog.info? 24).map (fun i => (i.zero, i.size, i.bytes)) = some (some (.agg #[.int .i64 0, .int .i64 0]), 2, 16) := by kernel_rfl
theorem encS_len (p : Sp) : (encS p).length = 2 := rfl
theorem encS_one (p : Sp) : ∀ u ∈ encS p, u.oneCell' = true := by intro u hu; simp [encS] at hu; rcases hu with rfl | rfl <;> rfl
theorem encS_cell {w : World} {g : Nat} {p : Sp} (h : w.cell? ⟨g, 0, none⟩ = some (iv p.1)) (h' : w.cell? ⟨g, 1, none⟩ = some (iv p.2)) : ∀ j u, (encS p)[j]? = some u → w.cell? ⟨g, j, none⟩ = some u := by
  intro j u hu
  rcases j with _ | _ | j
  · simp [encS] at hu; subst hu; exact h
  · simp [encS] at hu; subst hu; exact h'
  · simp [encS] at hu
theorem crs_len (t : Tk) (ht : vTrack t = true) : (crs t).length ≤ 2000 := by
  simp only [vTrack, vRate, Bool.and_eq_true, vSpan_iff] at ht
  have h1 : (crs t).length = (t.fh + 1 - t.fl).toNat * (t.rh + 1 - t.rl).toNat := by
    simp only [crs, crsTo, rowOf, ups, List.length_flatMap, List.length_map, List.length_range, List.map_const', List.sum_replicate_nat]
  rw [h1]
  have h2 : (t.fh + 1 - t.fl).toNat ≤ 61 := by omega
  have h3 : (t.rh + 1 - t.rl).toNat ≤ 31 := by omega
  calc _ ≤ 61 * 31 := Nat.mul_le_mul h2 h3
    _ ≤ 2000 := by omega
theorem trs_len (t : Tk) (what : Int) (M : List Ms) (ht : vTrack t = true) : (trs t what M).length ≤ 2000 := Nat.le_trans (List.length_filter_le _ _) (crs_len t ht)
theorem PutB.turn {b : Nat} {o : Obj} {w w' : World} (h : PutB b o w w') : Turn (fun k => k = b) w w' := ⟨h.os, h.tape, h.output, by rw [h.size]; exact Nat.le_refl _, fun k _ hk => h.other k hk⟩
theorem marks_cons (D : Nat) (Ds : List Nat) : (({ target := .collected D, args := #[] } : Deferred) :: Ds.map fun D => { target := .collected D, args := #[] }) = (D :: Ds).map fun D => { target := .collected D, args := #[] } := rfl

end Go.Proofs.Ytfpbfhjfhfmanac
