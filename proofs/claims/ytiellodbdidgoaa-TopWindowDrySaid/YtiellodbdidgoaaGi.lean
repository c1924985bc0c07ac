/- Hangs of package tenter. -/
import Derived.Test.YtiellodbdidgoaaGh
namespace Go.Proofs.Ytiellodbdidgoaa
open Go Go.RowKit Go.Shelf
attribute [local go_sem ↓] Go.wp_at_zero Go.wp_at_succ

def HangsRes (C : List Tn) (str : Int) (w : World) (e : Ending) (w' : World) : Prop :=
  ∃ g, e = .returned (.tuple #[.slice (some ⟨g, 0, none⟩) C.length C.length, iv 0]) ∧ SliceOf encS 2 w' (.slice (some ⟨g, 0, none⟩) C.length C.length) (C.map (lenS str)) ∧ Below w.heap.size w w'
set_option maxRecDepth 20000 in
set_option maxHeartbeats 6400000 in
theorem Hangs_good (C : List Tn) (R : List Int) (gap str : Int) (ca ra : Option Addr) (cc rc : Nat) (w : World) (hC : SliceOf encN 4 w (.slice ca C.length cc) C) (hR : Ints w (.slice ra R.length rc) R) (hchk : fdChk ⟨C, R, gap, str⟩ = 0) :
    Calls Try.prog 24 #[.agg #[.slice ca C.length cc, .slice ra R.length rc, iv gap, iv str]] w (HangsRes C str w) := by
  obtain ⟨i0, hi, hz0, hz1, hz2⟩ := info_parts infoSpG
  obtain ⟨hln, hr3, hvf⟩ := fdChk_zero hchk
  have hr3 := (inB_iff.1 hr3).2
  simp only [vFd, Bool.and_eq_true, List.all_eq_true] at hvf
  have hst := inB_iff.1 hvf.2.2.2
  have hln : C.length ≤ 7 := hln
  have hr3 : R.length ≤ 3 := by have : (R.length : Int) ≤ 3 := hr3; omega
  have hst : 0 ≤ str ∧ str ≤ 200 := hst
  have HVC := Lib.hid (show ∀ (k : Nat) (c : Tn), C[k]? = some c → vTn c = true from fun k c hk => hvf.1 c (List.mem_of_getElem? hk))
  have HIF := Lib.hid hi; have HZ0 := Lib.hid hz0; have HZ1 := Lib.hid hz1
  have HBY := Lib.hid (show i0.bytes * C.length ≤ 281474976710656 by rw [hz2]; omega)
  have HML := Lib.hid (show C.length ≤ maxLen by unfold maxLen; omega)
  have HC := Lib.hid hC; have HR := Lib.hid hR
  have HCK := Lib.hid (fun (W : World) (hb : Below w.heap.size w W) => by have := fdCheck_any C R gap str ca ra cc rc W (hC.below hb) (hR.below hb); rw [hchk] at this; exact this)
  have HNY := Lib.hid (fun (W : World) => newYard_any ca ra C.length cc R.length rc gap str W hr3)
  have HST := Lib.hid hst
  clear hi hz0 hz1 hz2 hC hR hchk hr3 hvf hst
  go_enter Try.func24, Try.ntmps24
  go_wp2_with fail
  refine (HCK.out _ (by repeat (first | exact Below.refl _ _ | refine Below.drew ?_ | refine bpush ?_ _ | refine bput ?_ (by simp) _ | (refine bstep ?_ (by assumption))))).mono ?_
  rintro e w1 ⟨rfl, hb⟩
  have HB1 := Lib.hid (show Below w.heap.size w w1 from bstep (by repeat (first | exact Below.refl _ _ | refine Below.drew ?_ | refine bpush ?_ _ | refine bput ?_ (by simp) _ | (refine bstep ?_ (by assumption)))) hb)
  have hr1 := (hb.block w.heap.size (by simp)).trans (heap_new w #[.slice ca C.length cc, .slice ra R.length rc, iv gap, iv str] 43)
  have HR1 := Lib.hid hr1
  have c0 : w1.cell? ⟨w.heap.size, 0, none⟩ = some (.slice ca C.length cc) := by rw [cell_of_row _ _ _ _ _ _ hr1]; rfl
  have c1 : w1.cell? ⟨w.heap.size, 1, none⟩ = some (.slice ra R.length rc) := by rw [cell_of_row _ _ _ _ _ _ hr1]; rfl
  have c2 : w1.cell? ⟨w.heap.size, 2, none⟩ = some (iv gap) := by rw [cell_of_row _ _ _ _ _ _ hr1]; rfl
  have c3 : w1.cell? ⟨w.heap.size, 3, none⟩ = some (iv str) := by rw [cell_of_row _ _ _ _ _ _ hr1]; rfl
  clear hb hr1
  go_wp2_with fail
  refine (HNY.out _).mono ?_
  rintro e w2 ⟨ha, hn, hcp, rfl, hb2⟩
  have HB2 := Lib.hid (bstep HB1.out hb2)
  have hr2 := bblkG hb2 HR1.out
  have hz2 : w.heap.size < w2.heap.size := (Array.getElem?_eq_some_iff.1 hr2).1
  obtain ⟨Wn, hWn⟩ : ∃ W : World, w2.alloc (.cells #[.slice ca C.length cc, .slice ra R.length rc, iv gap, iv str, .slice ha hn hcp] 83) = W := ⟨_, rfl⟩
  have hBn : Below w2.heap.size w2 Wn := by rw [← hWn]; exact bpush (Below.refl _ _) _
  have hdn : Wn.heap[w2.heap.size]? = some (.cells #[.slice ca C.length cc, .slice ra R.length rc, iv gap, iv str, .slice ha hn hcp] 83 (0, 0)) := by rw [← hWn]; exact heap_new _ _ _
  have hzn : Wn.heap.size = w2.heap.size + 1 := by rw [← hWn]; simp
  have hfn := bblkG hBn hr2
  have HB := Lib.hid (bstep HB2.out hBn); have HD := Lib.hid hdn; have HFN := Lib.hid hfn; have HZ := Lib.hid hzn
  have c00 : Wn.cell? ⟨w.heap.size, 0, none⟩ = some (.slice ca C.length cc) := by rw [cell_of_row _ _ _ _ _ _ hfn]; rfl
  clear hb2 hr2 hBn hdn hfn hzn c0 c1 c2 c3
  go_wp2_with (
    with_reducible change wpList _ _ _ (Oper.mk _ (Op.makeSlice 33 _ _) _ _ _ _ :: _) _ _
    refine wpList_make_full _ rfl _ _ 33 rfl Wn.heap.size 30 i0 (.agg #[.int .i64 0, .int .i64 0]) 2 Try.underlying33 HIF.out HZ0.out HZ1.out .i64 .i64 C.length C.length C.length rfl rfl rfl rfl HBY.out HML.out (Nat.le_refl _) ?_
    intro w3 hown hgrow
    have hl2 := span_newG hown
    have hB2 : Below Wn.heap.size Wn w3 := ⟨hgrow.os, hgrow.tape, hgrow.output, hgrow.size, fun q hq => hgrow.block q hq (by simp)⟩
    have hf2 := (hB2.block _ (by have := HZ.out; omega)).trans HFN.out
    have HL2 := Lib.hid hl2; have HBW := Lib.hid hB2
    have c0 : w3.cell? ⟨w.heap.size, 0, none⟩ = some (.slice ca C.length cc) := by rw [cell_of_row _ _ _ _ _ _ hf2]; rfl
    clear hown hgrow hl2 hB2 hf2 hWn)
  obtain ⟨D, hD⟩ : ∃ D : List Sp, C.map (lenS str) = D := ⟨_, rfl⟩
  have hDl : D.length = C.length := by rw [← hD]; simp
  have HDG := Lib.hid (show ∀ (k : Nat) (c : Tn), C[k]? = some c → D[k]? = some (lenS str c) from fun k c hk => by rw [← hD, List.getElem?_map, hk]; rfl)
  have HDL := Lib.hid hDl
  have HDD := Lib.hid hD
  have hzb : w2.heap.size < Wn.heap.size := by have := HZ.out; omega
  clear hD hDl c00
  go_loopw [22, 7] (fun i _ wr => ∃ k : Nat, k ≤ C.length ∧ i = iv k ∧ Hid (wr.heap[Wn.heap.size]? = some (.cells (rowI (flS D C.length k)) 30 (0, 0))) ∧ Hid (Below Wn.heap.size Wn wr)) (fun i _ _ => C.length - (intOf i).toNat)
  case atStart => exact ⟨0, Nat.zero_le _, rfl, by rw [flS_zero]; exact HL2.out, HBW.out⟩
  case round =>
    obtain ⟨k, hk, rfl, HRW, HBR⟩ := hrel
    clear c0
    by_cases hlt : k < C.length
    · obtain ⟨c, hc⟩ := getElem?_of_lt hlt
      have HDk := Lib.hid (HDG.out k c hc)
      have HLN := Lib.hid (fun (W : World) (hb : Below w.heap.size w W) => lengths_any C ca ra ha cc R.length rc hn hcp k gap str c W (HC.out.below hb) hc (HVC.out k c hc) HST.out)
      have hrd := (HBR.out.block _ hzb).trans HD.out
      have d0 : wr.cell? ⟨w2.heap.size, 0, none⟩ = some (.slice ca C.length cc) := by rw [cell_of_row _ _ _ _ _ _ hrd]; rfl
      have d1 : wr.cell? ⟨w2.heap.size, 1, none⟩ = some (.slice ra R.length rc) := by rw [cell_of_row _ _ _ _ _ _ hrd]; rfl
      have d2 : wr.cell? ⟨w2.heap.size, 2, none⟩ = some (iv gap) := by rw [cell_of_row _ _ _ _ _ _ hrd]; rfl
      have d3 : wr.cell? ⟨w2.heap.size, 3, none⟩ = some (iv str) := by rw [cell_of_row _ _ _ _ _ _ hrd]; rfl
      have d4 : wr.cell? ⟨w2.heap.size, 4, none⟩ = some (.slice ha hn hcp) := by rw [cell_of_row _ _ _ _ _ _ hrd]; rfl
      have hfl := flS_len HDL.out hk
      clear hrd
      go_wp2_with fail
      refine (HLN.out _ (bstep HB.out HBR.out)).mono ?_
      rintro e w4 ⟨rfl, hb4⟩
      have HR4 := Lib.hid (bblkG hb4 HRW.out)
      have HB4 := Lib.hid (bstep HBR.out hb4)
      have y0 := cell_rowI (i := k * 2) HR4.out (by omega)
      have y1 := cell_rowI (i := k * 2 + 1) HR4.out (by omega)
      have z0 : w4.frozen? ⟨Wn.heap.size, k * 2, none⟩ = false := by unfold World.frozen?; rw [HR4.out]; rfl
      have z1 : w4.frozen? ⟨Wn.heap.size, k * 2 + 1, none⟩ = false := by unfold World.frozen?; rw [HR4.out]; rfl
      generalize (flS D C.length k).getD (k * 2) 0 = p0 at *
      generalize (flS D C.length k).getD (k * 2 + 1) 0 = p1 at *
      obtain ⟨q, hq⟩ : ∃ q : Sp, lenS str c = q := ⟨_, rfl⟩
      rw [hq] at HDk
      rw [hq]
      have HST2 := Lib.hid (flS_succ HDL.out HDk.out)
      clear hb4 d0 d1 d2 d3 d4 hc hq hfl
      go_wp2_with fail
      go_roundw
      case rel =>
        refine ⟨k + 1, by omega, by go_num, ?_, bput (p := ⟨Wn.heap.size, k * 2 + 1, none⟩) (bput (p := ⟨Wn.heap.size, k * 2, none⟩) HB4.out (Nat.le_refl _) _) (Nat.le_refl _) _⟩
        have h1 := heap_setCell_same w4 Wn.heap.size (k * 2) _ _ (iv q.1) HR4.out
        have h2 := heap_setCell_same _ Wn.heap.size (k * 2 + 1) _ _ (iv q.2) h1
        rw [rowI_set, rowI_set, HST2.out] at h2
        exact h2
      case measure => simp [intOf]; omega
    · obtain rfl : k = C.length := by omega
      go_wp2_with fail
      go_ret2
      exact ⟨_, rfl, by rw [HDD.out]; exact slice_flS HDL.out (by omega) HRW.out, bstep HB.out HBR.out⟩
end Go.Proofs.Ytiellodbdidgoaa
