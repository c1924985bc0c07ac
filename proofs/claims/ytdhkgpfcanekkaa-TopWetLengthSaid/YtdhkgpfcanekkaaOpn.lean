/- quantities.possible and open of package cloth. -/
import Derived.Test.YtdhkgpfcanekkaaSpl
namespace Go.Proofs.Ytdhkgpfcanekkaa
open Go Go.RowKit Go.Shelf

def has (t : Tk) (what : Int) (M : List Ms) : Bool := !(trs t what M).isEmpty
/-- Each quantity has a truth. -/
def hasAll (ta tb tc : Tk) (M : List Ms) : Bool := has ta 0 M && (has tb 1 M && has tc 2 M)
theorem index_qs (ta tb tc : Tk) (ma : Option Addr) (mn mc : Nat) (k : Nat) (hk : k < 3) (w : World) :
    (Instr.index 58 (.agg (qs ta tb tc (.slice ma mn mc))) (.int .i64 (k : Int))).run Try.prog w =
      .ok (.agg #[iv (tk3 ta tb tc k).fl, iv (tk3 ta tb tc k).fh, iv (tk3 ta tb tc k).rl, iv (tk3 ta tb tc k).rh, iv (k : Int), .slice ma mn mc]) w := by
  rcases k with _ | _ | _ | k
  · kernel_rfl
  · kernel_rfl
  · kernel_rfl
  · omega
theorem tk3_ok {ta tb tc : Tk} (h : [ta, tb, tc].all vTrack = true) (k : Nat) : vTrack (tk3 ta tb tc k) = true := by
  simp only [List.all_cons, List.all_nil, Bool.and_true, Bool.and_eq_true] at h
  rcases k with _ | _ | k
  · exact h.1
  · exact h.2.1
  · exact h.2.2
theorem hasAll_of {ta tb tc : Tk} {M : List Ms} (h : ∀ k, k < 3 → has (tk3 ta tb tc k) (k : Int) M = true) : hasAll ta tb tc M = true := by
  have h0 := h 0 (by omega); have h1 := h 1 (by omega); have h2 := h 2 (by omega)
  simp only [tk3] at h0 h1 h2
  simp only [hasAll, Bool.and_eq_true]
  exact ⟨h0, h1, h2⟩
theorem hasAll_not {ta tb tc : Tk} {M : List Ms} {k : Nat} (hk : k < 3) (h : has (tk3 ta tb tc k) (k : Int) M = false) : hasAll ta tb tc M = false := by
  rcases k with _ | _ | _ | k
  · simp only [tk3] at h; simp [hasAll]; intro h0; rw [show ((0 : Nat) : Int) = 0 from rfl] at h; rw [h] at h0; cases h0
  · simp only [tk3] at h; simp [hasAll]; intro _ h0; rw [show ((0 + 1 : Nat) : Int) = 1 from rfl] at h; rw [h] at h0; cases h0
  · simp only [tk3] at h; simp [hasAll]; intro _ _; exact h
  · omega

set_option maxRecDepth 20000 in
set_option maxHeartbeats 3200000 in
theorem possibleAll_any (ta tb tc : Tk) (ma : Option Addr) (mn mc : Nat) (M : List Ms) (w : World) (ht : [ta, tb, tc].all vTrack = true) (hm : M.all vMeas = true) (hl : M.length ≤ 1000000) (hs : SliceOf encM 4 w (.slice ma mn mc) M) :
    Calls Try.prog 28 #[.agg (qs ta tb tc (.slice ma mn mc))] w fun e w' => e = .returned (.bool (hasAll ta tb tc M)) ∧ Below w.heap.size w w' := by
  have HS := Lib.hid hs; clear hs
  have HT := Lib.hid ht; clear ht
  have HM := Lib.hid hm; clear hm
  go_enter Try.func28, Try.ntmps28
  go_wp2_with (with_reducible change wpList _ _ _ (Oper.mk _ (Op.load 58 _) _ _ _ _ :: _) _ _; refine L_val rfl (run_load_row 58 _ rfl _ rfl 58 (qs ta tb tc (.slice ma mn mc)) _ (heap_new _ _ _) Try.underlying58 rfl (sinfoS _ _ _ _ _)) ?_)
  go_loopw [6, 4] (fun i _ wr => ∃ k : Nat, k ≤ 3 ∧ i = iv k ∧ (∀ j, j < k → has (tk3 ta tb tc j) (j : Int) M = true) ∧ Below w.heap.size w wr) (fun i _ _ => 3 - (intOf i).toNat)
  case atStart => exact ⟨0, by omega, rfl, fun _ h => by omega, (by repeat (first | exact Below.refl _ _ | refine Below.drew ?_ | refine bpush ?_ _ | refine bput ?_ (by simp) _ | (refine bstep ?_ (by assumption))))⟩
  case round =>
    obtain ⟨k, hk, rfl, hall, hbl⟩ := hrel
    have HA := Lib.hid hall; clear hall
    have HB := Lib.hid hbl; clear hbl
    by_cases hlt : k < 3
    · have hidx := index_qs ta tb tc ma mn mc k hlt
      have hok : QOk (tk3 ta tb tc k) (k : Int) (.slice ma mn mc) M w := ⟨tk3_ok HT.out k, HM.out, hl, HS.out⟩
      have HOK := Lib.hid hok; clear hok
      generalize htk : tk3 ta tb tc k = tt at *
      have HTK := Lib.hid htk; clear htk
      cases hh : has tt (k : Int) M
      · have hr : Hid (hasAll ta tb tc M = false) := hasAll_not hlt (by rw [HTK.out]; exact hh)
        have HH := Lib.hid hh; clear hh
        go_wp2_with fail
        refine (possible_any tt (k : Int) (.slice ma mn mc) M _ (HOK.out.below (bpush HB.out _))).mono ?_
        rintro e w1 ⟨he, hb1⟩
        rw [show (!(trs tt (k : Int) M).isEmpty) = false from HH.out] at he; subst he
        have HB1 := Lib.hid (bstep (bpush HB.out _) hb1); clear hb1
        go_wp2_with fail
        go_ret
        exact ⟨by rw [hr.out]; rfl, HB1.out⟩
      · have HH := Lib.hid hh; clear hh
        go_wp2_with fail
        refine (possible_any tt (k : Int) (.slice ma mn mc) M _ (HOK.out.below (bpush HB.out _))).mono ?_
        rintro e w1 ⟨he, hb1⟩
        rw [show (!(trs tt (k : Int) M).isEmpty) = true from HH.out] at he; subst he
        have HB1 := Lib.hid (bstep (bpush HB.out _) hb1); clear hb1
        go_wp2_with fail
        go_roundw
        case rel =>
          refine ⟨k + 1, by omega, by go_num, fun j hj => ?_, HB1.out⟩
          by_cases hjk : j = k
          · subst hjk; rw [HTK.out]; exact HH.out
          · exact HA.out j (by omega)
        case measure => simp [intOf]; omega
    · obtain rfl : k = 3 := by omega
      have hr : Hid (hasAll ta tb tc M = true) := hasAll_of HA.out
      go_wp2_with fail
      go_ret
      exact ⟨by rw [hr.out]; rfl, HB.out⟩
end Go.Proofs.Ytdhkgpfcanekkaa
