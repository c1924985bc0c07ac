/- Check of package cloth. -/
import Derived.Test.YtfpbfhjfhfmanabWb
namespace Go.Proofs.Ytfpbfhjfhfmanab
open Go Go.RowKit

def check (T : List Tk) (M : List Ms) : Int :=
  if T.length = 3 ∧ T.all vTrack = true then (if 8 < M.length then 5 else if M.all vMeas = true then 0 else 2) else 4

set_option maxHeartbeats 1600000 in
theorem Check_any (T : List Tk) (M : List Ms) (tv mv : Value) (w : World) (ht : SliceOf encT 4 w tv T) (hm : SliceOf encM 4 w mv M) :
    Calls Try.prog 25 #[.agg #[tv, mv]] w fun e w' => e = .returned (iv (check T M)) ∧ Below w.heap.size w w' := by
  have ht' := Lib.hid ht
  have hm' := Lib.hid hm
  obtain ⟨ta, tc, rfl, htl, -⟩ := ht
  obtain ⟨ma, mc, rfl, hml, -⟩ := hm
  by_cases h3 : T.length = 3
  · have e1 : ((T.length : Int) != 3) = false := by simp [h3]
    cases hT : T.all vTrack
    · have hr : Hid (check T M = 4) := by simp [Hid, check, h3, hT]
      have h3' := Lib.hid h3
      have hT' := Lib.hid hT
      clear h3 hT
      go_enter Try.func25, Try.ntmps25
      go_wp2_with fail
      refine (allT_any T _ _ (ht'.out.below (by repeat (first | exact Below.refl _ _ | refine Below.drew ?_ | refine bpush ?_ _ | refine bput ?_ (by simp) _ | (refine bstep ?_ (by assumption)))))).mono ?_
      rintro e w1 ⟨he, hb⟩; rw [hT'.out] at he; subst he
      go_wp2_with fail
      go_ret
      exact ⟨by rw [hr.out]; rfl, (by repeat (first | exact Below.refl _ _ | refine Below.drew ?_ | refine bpush ?_ _ | refine bput ?_ (by simp) _ | (refine bstep ?_ (by assumption))))⟩
    · by_cases h8 : 8 < M.length
      · have hr : Hid (check T M = 5) := by simp [Hid, check, h3, hT, h8]
        have h3' := Lib.hid h3
        have hT' := Lib.hid hT
        clear h3 hT
        go_enter Try.func25, Try.ntmps25
        go_wp2_with fail
        refine (allT_any T _ _ (ht'.out.below (by repeat (first | exact Below.refl _ _ | refine Below.drew ?_ | refine bpush ?_ _ | refine bput ?_ (by simp) _ | (refine bstep ?_ (by assumption)))))).mono ?_
        rintro e w1 ⟨he, hb⟩; rw [hT'.out] at he; subst he
        obtain ⟨hbc, hbf⟩ := bcell hb
        have hbz := hb.size
        simp [Nat.add_one_le_iff] at hbz
        go_wp2_with fail
        go_ret
        exact ⟨by rw [hr.out]; rfl, (by repeat (first | exact Below.refl _ _ | refine Below.drew ?_ | refine bpush ?_ _ | refine bput ?_ (by simp) _ | (refine bstep ?_ (by assumption))))⟩
      · cases hM : M.all vMeas
        · have hr : Hid (check T M = 2) := by simp [Hid, check, h3, hT, h8, hM]
          have h3' := Lib.hid h3
          have hT' := Lib.hid hT
          have hM' := Lib.hid hM
          clear h3 hT hM
          go_enter Try.func25, Try.ntmps25
          go_wp2_with fail
          refine (allT_any T _ _ (ht'.out.below (by repeat (first | exact Below.refl _ _ | refine Below.drew ?_ | refine bpush ?_ _ | refine bput ?_ (by simp) _ | (refine bstep ?_ (by assumption)))))).mono ?_
          rintro e w1 ⟨he, hb⟩; rw [hT'.out] at he; subst he
          obtain ⟨hbc, hbf⟩ := bcell hb
          have hbz := hb.size
          simp [Nat.add_one_le_iff] at hbz
          go_wp2_with fail
          refine (allM_any M _ _ (hm'.out.below (by repeat (first | exact Below.refl _ _ | refine Below.drew ?_ | refine bpush ?_ _ | refine bput ?_ (by simp) _ | (refine bstep ?_ (by assumption)))))).mono ?_
          rintro e w2 ⟨he, hb2⟩; rw [hM'.out] at he; subst he
          go_wp2_with fail
          go_ret
          exact ⟨by rw [hr.out]; rfl, (by repeat (first | exact Below.refl _ _ | refine Below.drew ?_ | refine bpush ?_ _ | refine bput ?_ (by simp) _ | (refine bstep ?_ (by assumption))))⟩
        · have hr : Hid (check T M = 0) := by simp [Hid, check, h3, hT, h8, hM]
          have h3' := Lib.hid h3
          have hT' := Lib.hid hT
          have hM' := Lib.hid hM
          clear h3 hT hM
          go_enter Try.func25, Try.ntmps25
          go_wp2_with fail
          refine (allT_any T _ _ (ht'.out.below (by repeat (first | exact Below.refl _ _ | refine Below.drew ?_ | refine bpush ?_ _ | refine bput ?_ (by simp) _ | (refine bstep ?_ (by assumption)))))).mono ?_
          rintro e w1 ⟨he, hb⟩; rw [hT'.out] at he; subst he
          obtain ⟨hbc, hbf⟩ := bcell hb
          have hbz := hb.size
          simp [Nat.add_one_le_iff] at hbz
          go_wp2_with fail
          refine (allM_any M _ _ (hm'.out.below (by repeat (first | exact Below.refl _ _ | refine Below.drew ?_ | refine bpush ?_ _ | refine bput ?_ (by simp) _ | (refine bstep ?_ (by assumption)))))).mono ?_
          rintro e w2 ⟨he, hb2⟩; rw [hM'.out] at he; subst he
          go_wp2_with fail
          go_ret
          exact ⟨by rw [hr.out]; rfl, (by repeat (first | exact Below.refl _ _ | refine Below.drew ?_ | refine bpush ?_ _ | refine bput ?_ (by simp) _ | (refine bstep ?_ (by assumption))))⟩
  · have e1 : ((T.length : Int) != 3) = true := by simp; omega
    have hr : Hid (check T M = 4) := by simp [Hid, check, h3]
    have h3' := Lib.hid h3
    clear h3
    go_enter Try.func25, Try.ntmps25
    go_wp2_with fail
    go_ret
    exact ⟨by rw [hr.out]; rfl, (by repeat (first | exact Below.refl _ _ | refine Below.drew ?_ | refine bpush ?_ _ | refine bput ?_ (by simp) _ | (refine bstep ?_ (by assumption))))⟩
end Go.Proofs.Ytfpbfhjfhfmanab
