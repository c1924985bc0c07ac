/- Share of package soap, and the known example of chapter 6. -/
import Derived.Test.YtfdahmdehmhllaaPb
namespace Go.Proofs.Ytfdahmdehmhllaa
open Go Go.RowKit Go.Shelf
attribute [local go_sem ↓] Go.wp_at_zero Go.wp_at_succ

/-- What Share returns. -/
def ShareRes (L : List Int) (n : Nat) (w : World) (e : Ending) (w' : World) : Prop :=
  ∃ g, w.heap.size ≤ g ∧ e = .returned (.tuple #[.slice (some ⟨g, 0, none⟩) n n, iv 0]) ∧ Ints w' (.slice (some ⟨g, 0, none⟩) n n) L ∧ Below w.heap.size w w'
theorem payL_len (P : List Int) (m : Int) : (payL P m).length = P.length := by
  rw [payL, (payS_len _ _ _).1]; simp [shrL]
set_option maxRecDepth 20000 in
set_option maxHeartbeats 3200000 in
theorem Share_good (P : List Int) (m : Int) (pa : Option Addr) (pc : Nat) (w : World) (hP : ∀ p ∈ P, 1 ≤ p ∧ p ≤ 100) (hl : 1 ≤ P.length ∧ P.length ≤ 6) (hm : 0 ≤ m ∧ m ≤ 100000) (hs : Ints w (.slice pa P.length pc) P) :
    Calls Try.prog 21 #[.slice pa P.length pc, iv m] w (ShareRes (payL P m) P.length w) := by
  have HS := Lib.hid hs
  have HSH := Lib.hid (fun (W : World) (h : Ints W (.slice pa P.length pc) P) => shares_good P m pa pc W hP hl hm h)
  have HA : Hid (P.all (inB 1 100) = true) := List.all_eq_true.2 fun p hp => inB_iff.2 (hP p hp)
  have HM : Hid (inB 0 100000 m = true) := inB_iff.2 hm
  have HWI := Lib.hid (fun (W : World) (h : Ints W (.slice pa P.length pc) P) => within_any 1 100 P _ W h)
  have n1 : ¬ (6 < (P.length : Int)) := by omega
  have n2 : ((P.length : Int) == 0) = false := by rw [beq_eq_false_iff_ne]; omega
  have n3 : ¬ ((P.length : Int) = 0) := by omega
  clear hs hP
  go_enter Try.func21, Try.ntmps21
  go_wp2_with fail
  refine (HWI.out _ HS.out).mono ?_
  rintro e w_ ⟨rfl, rfl⟩
  rw [HA.out]
  go_wp2_with fail
  refine (within1 0 100000 m (b := w.heap.size) (off := 0) (cap := 1) (by go_simp)).mono ?_
  rintro e w_ ⟨rfl, rfl⟩
  rw [HM.out]
  have HS2 := Lib.hid (HS.out.below (bpush (Below.refl _ _) (.cells #[iv m] 3)))
  go_wp2_with fail
  refine (HSH.out _ HS2.out).mono ?_
  rintro e w2 ⟨g, hg, rfl, hr, hb⟩
  have HB := Lib.hid (show Below w.heap.size w w2 from bstep (bpush (Below.refl _ _) _) hb)
  have HG : Hid (w.heap.size ≤ g) := by simp at hg; unfold Hid; omega
  have HR := Lib.hid hr
  clear hb hg hr
  go_wp2_with fail
  go_ret2
  refine ⟨g, HG.out, rfl, ?_, HB.out⟩
  have := rowI_slice (c := P.length) HR.out (by rw [payL_len]; omega)
  rwa [payL_len] at this

set_option maxRecDepth 20000 in
set_option maxHeartbeats 3200000 in
theorem firKnown06_any (w : World) : Calls Try.prog 12 #[] w fun e w' => e = .returned (.bool true) ∧ Below w.heap.size w w' := by
  have HSH := Lib.hid (fun (W : World) h => Share_good [3, 3, 1] 10 (some ⟨w.heap.size, 0, none⟩) 3 W (by simp) (by simp) (by omega) h)
  have HP : Hid (payL [3, 3, 1] 10 = [4, 4, 2]) := by unfold Hid; decide
  rw [HP.out] at HSH
  go_enter Try.func12, Try.ntmps12
  go_wp2_with fail
  refine (HSH.out _ (ints3 (heap_new _ _ _))).mono ?_
  rintro e w1 ⟨g, -, rfl, hi, hb⟩
  have HB := Lib.hid (show Below w.heap.size w w1 from bstep (bpush (Below.refl _ _) _) hb)
  have HI := Lib.hid hi
  clear hb hi
  go_wp2_with fail
  refine (firSame_any [4, 4, 2] [4, 4, 2] _ _ _ (HI.out.below (bpush (Below.refl _ _) _)) (ints3 (heap_new _ _ _))).mono ?_
  rintro e w2 ⟨rfl, hb⟩
  have HB2 := Lib.hid (bstep (bpush HB.out _) hb); clear hb
  go_wp2_with fail
  go_ret
  exact ⟨rfl, HB2.out⟩
end Go.Proofs.Ytfdahmdehmhllaa
