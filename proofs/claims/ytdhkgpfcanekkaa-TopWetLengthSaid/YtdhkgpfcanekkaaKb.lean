/- Check of package stock at a cloth that is valid and without measurings. -/
import Derived.Test.YtdhkgpfcanekkaaKa
namespace Go.Proofs.Ytdhkgpfcanekkaa
open Go Go.RowKit

set_option maxHeartbeats 800000 in
theorem validHour_any (h : Int) (w : World) :
    Calls Try.prog 70 #[iv h] w fun e w' => e = .returned (.bool (inB 0 36 h)) ∧ Below w.heap.size w w' := by
  go_enter Try.func70, Try.ntmps70
  go_wp2_with fail
  refine (within1 0 36 h (by go_simp)).mono ?_
  rintro e w' ⟨rfl, rfl⟩
  go_wp2_with fail
  go_ret
  exact ⟨rfl, (by repeat (first | exact Below.refl _ _ | refine Below.drew ?_ | refine bpush ?_ _ | refine bput ?_ (by simp) _ | (refine bstep ?_ (by assumption))))⟩

set_option maxHeartbeats 800000 in
theorem allSM_nil (f : Value) (ma : Option Addr) (mc : Nat) (w : World) :
    Calls Try.prog 60 #[f, .slice ma 0 mc] w fun e w' => e = .returned (.bool true) ∧ Below w.heap.size w w' := by
  go_enter Try.func60, Try.ntmps60
  go_wp2
  go_loopw [9, 6] (fun i _ wr => i = iv 0 ∧ Below w.heap.size w wr) (fun i _ _ => 0)
  case atStart => exact ⟨rfl, Below.refl _ _⟩
  case round =>
    obtain ⟨rfl, hbw⟩ := hrel
    go_wp2
    go_ret
    exact ⟨rfl, hbw⟩

/-- A valid cloth, but for its measurings. -/
def okFe (P : List Sp) (c : Fe) : Bool := (inB 1 3 (P.length : Int) && P.all vPart) && vBeat P.length c

set_option maxRecDepth 20000 in
set_option maxHeartbeats 3200000 in
theorem kCheck_good (P : List Sp) (c : Fe) (pv : Value) (ma : Option Addr) (mc : Nat) (w : World) (hs : SliceOf encS 2 w pv P) (hok : okFe P c = true) :
    Calls Try.prog 44 #[.agg (stcells c pv (.slice ma 0 mc)).toArray] w fun e w' => e = .returned (iv 0) ∧ Below w.heap.size w w' := by
  have HS := Lib.hid hs
  obtain ⟨pa, pc, rfl, hpl, -⟩ := hs
  simp only [okFe, Bool.and_eq_true] at hok
  obtain ⟨⟨h1, h2⟩, h3⟩ := hok
  have hB := fun w => validBeating_any c pa P.length pc (.slice ma 0 mc) w hpl
  rw [h3] at hB
  have HB := Lib.hid hB; clear hB
  have HP := Lib.hid h2; have HN := Lib.hid h1
  clear h1 h2 h3
  obtain ⟨sl, sh, wl, wh, turn, start, full, harm⟩ := c
  simp only [stcells] at *
  go_enter Try.func44, Try.ntmps44
  go_wp2_with fail
  refine (within1 1 3 (P.length : Int) (by go_simp)).mono ?_
  rintro e w1 ⟨he, rfl⟩; rw [HN.out] at he; subst he
  go_wp2_with fail
  refine (allPt_any P _ _ (HS.out.below (by repeat (first | exact Below.refl _ _ | refine Below.drew ?_ | refine bpush ?_ _ | refine bput ?_ (by simp) _ | (refine bstep ?_ (by assumption)))))).mono ?_
  rintro e w1 ⟨he, hb⟩; rw [HP.out] at he; subst he
  obtain ⟨hbc, hbf⟩ := bcell hb
  have hbz := hb.size
  simp [Nat.add_one_le_iff] at hbz
  go_wp2_with fail
  refine (HB.out _).mono ?_
  rintro e w2 ⟨rfl, hb2⟩
  obtain ⟨hb2c, hb2f⟩ := bcell hb2
  have hb2z := hb2.size
  have hlt0 : w.heap.size < w1.heap.size := by omega
  have hlt1 : w.heap.size < w2.heap.size := by omega
  go_wp2_with fail
  refine (allSM_nil _ ma mc _).mono ?_
  rintro e w3 ⟨rfl, hb3⟩
  go_wp2_with fail
  go_ret
  exact ⟨rfl, (by repeat (first | exact Below.refl _ _ | refine Below.drew ?_ | refine bpush ?_ _ | refine bput ?_ (by simp) _ | (refine bstep ?_ (by assumption))))⟩
end Go.Proofs.Ytdhkgpfcanekkaa
