/- TopWindowDry: the walk. -/
import Derived.Test.YtiellodbdidgoaaGo
namespace Go.Proofs.Ytiellodbdidgoaa
open Go Go.RowKit Go.Shelf
attribute [local go_sem] Oper.semAt_some
attribute [local go_sem ↓] Go.wp_at_zero Go.wp_at_succ

set_option maxRecDepth 20000 in
set_option maxHeartbeats 12800000 in
theorem windry_any (m0 m1 m2 m3 m4 : Int) (fv gv : Value) (V U : List (Int × Int)) (v0 v1 v2 v3 : Int) (w : World) (h0 : 0 ≤ m0 ∧ m0 ≤ 255) (h1 : 0 ≤ m1 ∧ m1 ≤ 255) (h2 : 0 ≤ m2 ∧ m2 ≤ 255) (h3 : 0 ≤ m3 ∧ m3 ≤ 255) (h4 : 0 ≤ m4 ∧ m4 ≤ 255)
    (hv0 : 0 ≤ v0 ∧ v0 ≤ 255) (hv1 : 0 ≤ v1 ∧ v1 ≤ 255) (hv2 : 0 ≤ v2 ∧ v2 ≤ 255) (hv3 : 0 ≤ v3 ∧ v3 ≤ 255) (hV : ∀ p ∈ V, (0 ≤ p.1 ∧ p.1 ≤ 255) ∧ (0 ≤ p.2 ∧ p.2 ≤ 255)) (hU : ∀ p ∈ U, (0 ≤ p.1 ∧ p.1 ≤ 255) ∧ (0 ≤ p.2 ∧ p.2 ≤ 255)) (hf : SliceU enc2 2 w fv V) (hg : SliceU enc2 2 w gv U) :
    Calls Try.prog 3 #[.agg #[u8 m0, u8 m1, u8 m2, u8 m3, u8 m4, fv], .agg #[gv], .agg #[u8 v0, u8 v1, u8 v2, u8 v3]] w fun e w' => e = .returned (.bool true) ∧ Below w.heap.size w w' := by
  have HF := Lib.hid hf; have HGv := Lib.hid hg
  have HV0 := Lib.hid hv0; have HV1 := Lib.hid hv1; have HV2 := Lib.hid hv2; have HV3 := Lib.hid hv3
  clear hv0 hv1 hv2 hv3
  obtain ⟨fa, fc, rfl, hfl, -⟩ := hf
  obtain ⟨ga, gc, rfl, hgl, -⟩ := hg
  have HCK := Lib.hid (em_chk (m0 := m0) (m1 := m1) (m4 := m4) h2 h3 hV)
  have hFN := emN_le V
  have hSN := skN_le U
  have HSV := Lib.hid (skL_ok hU (skN U))
  have HEM := Lib.hid (fun (W : World) (hb : Below w.heap.size w W) => emMade_any m0 m1 m2 m3 m4 (.slice fa V.length fc) V W h0 h1 h2 h3 h4 hV (HF.out.below hb))
  have HSK := Lib.hid (fun (W : World) (hb : Below w.heap.size w W) => skMade_any (.slice ga U.length gc) U W hU (HGv.out.below hb))
  obtain ⟨F, hF⟩ : ∃ F, emL V (emN V) = F := ⟨_, rfl⟩
  obtain ⟨S, hS⟩ : ∃ S, skL U (skN U) = S := ⟨_, rfl⟩
  have hFl : 1 ≤ F.length ∧ F.length ≤ 12 := by rw [← hF, emL_len]; exact hFN
  have hSl : 1 ≤ S.length ∧ S.length ≤ 16 := by rw [← hS, skL_len]; exact hSN
  have HFL := Lib.hid hFl; have HSL := Lib.hid hSl
  obtain ⟨M, hM⟩ : ∃ M, emMl m0 m1 m2 m3 m4 = M := ⟨_, rfl⟩
  rw [hF, hM] at HCK HEM
  rw [hS] at HSK HSV
  have hMk : M.k = 1 + m0 % 6 := by rw [← hM]; rfl
  have hMr : 1 ≤ M.k ∧ M.k ≤ 6 := by omega
  obtain ⟨K, t, bl, bh, H, nl, nh⟩ := M
  have hMr : 1 ≤ K ∧ K ≤ 6 := hMr
  clear hMk hF hS hM h0 h1 h2 h3 h4 hV hU hfl hgl hFN hSN HF HGv
  obtain ⟨Wn, hWn⟩ : ∃ W : World, ((w.alloc (.cells #[u8 m0, u8 m1, u8 m2, u8 m3, u8 m4, .slice fa V.length fc] 25)).alloc (.cells #[.slice ga U.length gc] 27)).alloc (.cells #[u8 v0, u8 v1, u8 v2, u8 v3] 28) = W := ⟨_, rfl⟩
  have hBn : Below w.heap.size w Wn := by rw [← hWn]; exact bpush (bpush (bpush (Below.refl _ _) _) _) _
  have hR0 : Wn.heap[w.heap.size]? = some (.cells #[u8 m0, u8 m1, u8 m2, u8 m3, u8 m4, .slice fa V.length fc] 25 (0, 0)) := by
    rw [← hWn, Below.heap_alloc _ _ _ (by simp; omega), Below.heap_alloc _ _ _ (by simp)]; exact heap_new _ _ _
  have hR1 : Wn.heap[w.heap.size + 1]? = some (.cells #[.slice ga U.length gc] 27 (0, 0)) := by
    rw [← hWn, Below.heap_alloc _ _ _ (by simp)]; exact heapA (by simp)
  have hR2 : Wn.heap[w.heap.size + 1 + 1]? = some (.cells #[u8 v0, u8 v1, u8 v2, u8 v3] 28 (0, 0)) := by
    rw [← hWn]; exact heapA (by simp)
  have HWN := Lib.hid hWn; have HBN := Lib.hid hBn; have HR1 := Lib.hid hR1; have HR2 := Lib.hid hR2
  have c0 : Wn.cell? ⟨w.heap.size, 0, none⟩ = some (u8 m0) := by rw [cell_of_row _ _ _ _ _ _ hR0]; rfl
  have c1 : Wn.cell? ⟨w.heap.size, 1, none⟩ = some (u8 m1) := by rw [cell_of_row _ _ _ _ _ _ hR0]; rfl
  have c2 : Wn.cell? ⟨w.heap.size, 2, none⟩ = some (u8 m2) := by rw [cell_of_row _ _ _ _ _ _ hR0]; rfl
  have c3 : Wn.cell? ⟨w.heap.size, 3, none⟩ = some (u8 m3) := by rw [cell_of_row _ _ _ _ _ _ hR0]; rfl
  have c4 : Wn.cell? ⟨w.heap.size, 4, none⟩ = some (u8 m4) := by rw [cell_of_row _ _ _ _ _ _ hR0]; rfl
  have c5 : Wn.cell? ⟨w.heap.size, 5, none⟩ = some (.slice fa V.length fc) := by rw [cell_of_row _ _ _ _ _ _ hR0]; rfl
  clear hWn hBn hR0 hR1 hR2
  go_enter Try.func3, Try.ntmps3
  go_upto_region 1 with (fail)
  rw [HWN.out]
  go_wp2_with fail
  refine (HEM.out _ HBN.out).mono ?_
  rintro e w1 ⟨lv, rfl, hoF, hb1⟩
  have HB1 := Lib.hid (bstep HBN.out hb1)
  have HR1a := Lib.hid (bblkG hb1 HR1.out)
  have HR2a := Lib.hid (bblkG hb1 HR2.out)
  obtain ⟨lg, lc, rfl⟩ := owns_addrG hoF (by omega)
  have HSF := Lib.hid (Owns.slice hoF encS_len (by omega))
  obtain ⟨W1, hW1⟩ : ∃ W : World, w1.alloc (.cells #[iv K, iv t, iv bl, iv bh, iv H, iv nl, iv nh] 32) = W := ⟨_, rfl⟩
  have hBa : Below w1.heap.size w1 W1 := by rw [← hW1]; exact bpush (Below.refl _ _) _
  have HRM := Lib.hid (show W1.heap[w1.heap.size]? = some (.cells #[iv K, iv t, iv bl, iv bh, iv H, iv nl, iv nh] 32 (0, 0)) by rw [← hW1]; exact heap_new _ _ _)
  have HB1 := Lib.hid (bstep HB1.out hBa)
  have HR1 := Lib.hid (bblkG hBa HR1a.out)
  have HR2 := Lib.hid (bblkG hBa HR2a.out)
  have HSF := Lib.hid (HSF.out.below hBa)
  have HW1 := Lib.hid hW1
  clear hoF hb1 hBa hW1 c0 c1 c2 c3 c4 c5 HR1a HR2a HWN HBN
  unfold encMl
  go_upto_region 2 with (fail)
  rw [HW1.out]
  have c0 : W1.cell? ⟨w.heap.size + 1, 0, none⟩ = some (.slice ga U.length gc) := by rw [cell_of_row _ _ _ _ _ _ HR1.out]; rfl
  have c1 : W1.cell? ⟨w.heap.size + 1 + 1, 0, none⟩ = some (u8 v0) := by rw [cell_of_row _ _ _ _ _ _ HR2.out]; rfl
  have c2 : W1.cell? ⟨w.heap.size + 1 + 1, 1, none⟩ = some (u8 v1) := by rw [cell_of_row _ _ _ _ _ _ HR2.out]; rfl
  have c3 : W1.cell? ⟨w1.heap.size, 0, none⟩ = some (iv K) := by rw [cell_of_row _ _ _ _ _ _ HRM.out]; rfl
  have hbz : Below W1.heap.size W1 W1 := Below.refl _ _
  have hv0 := HV0.out; have hv1 := HV1.out
  have e0 : IntKind.i64.wrap v0 = v0 := IntWalk.i64_in _ ⟨by omega, by omega⟩
  have e1 : IntKind.i64.wrap v1 = v1 := IntWalk.i64_in _ ⟨by omega, by omega⟩
  have hKne : ¬ K = 0 := by omega
  have hK0 : (K == 0) = false := by simpa using hKne
  have hq0 : 0 ≤ v0 % K := Int.emod_nonneg _ hKne
  have hq1 : v0 % K < K := Int.emod_lt_of_pos _ (by omega)
  have f0 : v0.tmod K = v0 % K := Int.tmod_eq_emod_of_nonneg hv0.1
  have f1 : v1.tmod 6 = v1 % 6 := Int.tmod_eq_emod_of_nonneg hv1.1
  obtain ⟨kk, hkk⟩ : ∃ kk, 1 + v0 % K = kk := ⟨_, rfl⟩
  obtain ⟨hn, hhn⟩ : ∃ hn : Nat, 1 + v1 % 6 = (hn : Int) := ⟨(1 + v1 % 6).toNat, by omega⟩
  have g0 : IntKind.i64.wrap (1 + v0 % K) = kk := by rw [IntWalk.i64_in _ ⟨by omega, by omega⟩, hkk]
  have g1 : IntKind.i64.wrap (1 + v1 % 6) = (hn : Int) := by rw [IntWalk.i64_in _ ⟨by omega, by omega⟩, hhn]
  have HKK := Lib.hid (show 1 ≤ kk ∧ kk ≤ K by omega)
  have HHN := Lib.hid (show 1 ≤ hn ∧ hn ≤ 6 by omega)
  have g2 : IntKind.i64.wrap (v0 % K) = v0 % K := IntWalk.i64_in _ ⟨by omega, by omega⟩
  clear hkk hhn hq0 hq1 hv0 hv1
  go_region_held3 (fun w' => w'.cell? ⟨w.heap.size + 1, 0, none⟩ = some (.slice ga U.length gc) ∧ w'.cell? ⟨w.heap.size + 1 + 1, 0, none⟩ = some (Ytiellodbdidgoaa.u8 v0) ∧ w'.cell? ⟨w.heap.size + 1 + 1, 1, none⟩ = some (Ytiellodbdidgoaa.u8 v1) ∧ w'.cell? ⟨w1.heap.size, 0, none⟩ = some (iv K) ∧ Below W1.heap.size W1 w')
    (first | (go_split_ands; refine ⟨?_, ?_, ?_, ?_, ?_⟩ <;> first | assumption | exact kcell hbK (by assumption) | exact kfrozen hbK (by assumption) (by assumption) | exact bstep (by assumption) hbK | exact SliceOf.below (by assumption) hbK | exact kcell (bpush (Below.refl _ _) _) (by assumption) | exact kfrozen (bpush (Below.refl _ _) _) (by assumption) (by assumption) | exact bpush (by assumption) _ | exact SliceOf.below (by assumption) (bpush (Below.refl _ _) _)) | (refine ⟨?_, ?_, ?_, ?_, ?_⟩ <;> first | exact Below.drew (by assumption) | exact SliceOf.below (by assumption) ((Below.refl _ _).drew) | assumption))
    (first | (go_split_ands; (with_reducible refine (HSK.out _ (bstep HB1.out (by assumption))).mono ?_); rintro e wS ⟨sv, rfl, hoS, hbK⟩; have HOS := Lib.hid hoS; clear hoS))
  rename_i hHeld
  have hbS : Below W1.heap.size W1 wS := hHeld.2.2.2.2
  have HBS := Lib.hid (bstep HB1.out hbS)
  have HR2S := Lib.hid (bblkG hbS HR2.out)
  have HRMS := Lib.hid (bblkG hbS HRM.out)
  have HSFS := Lib.hid (HSF.out.below hbS)
  obtain ⟨sg, sc, rfl⟩ := owns_addrG HOS.out (by omega)
  have HSS := Lib.hid (Owns.slice HOS.out encS_len (by omega))
  have hzS : w.heap.size + 1 + 1 < wS.heap.size := (Array.getElem?_eq_some_iff.1 HR2S.out).1
  clear hHeld hbS hbK c0 c1 c2 c3 hbz e0 e1 hKne hK0 f0 f1 g0 g1 g2 HRM HR1 HR2 HSF HOS HSK HEM HW1 HB1
  have hv2 := HV2.out
  obtain ⟨lo, hlo⟩ : ∃ lo, v2 / 6 = lo := ⟨_, rfl⟩
  have hlo1 : 0 ≤ lo ∧ lo ≤ 42 := by omega
  have c0 : wS.cell? ⟨w.heap.size + 1 + 1, 2, none⟩ = some (u8 v2) := by rw [cell_of_row _ _ _ _ _ _ HR2S.out]; rfl
  have e0 : IntKind.i64.wrap v2 = v2 := IntWalk.i64_in _ ⟨by omega, by omega⟩
  have e1 : v2.tdiv 6 = lo := by rw [Int.tdiv_eq_ediv_of_nonneg hv2.1, hlo]
  have e2 : IntKind.i64.wrap lo = lo := IntWalk.i64_in _ ⟨by omega, by omega⟩
  have e3 : IntKind.i64.wrap (lo + 2) = lo + 2 := IntWalk.i64_in _ ⟨by omega, by omega⟩
  have hbz : Below wS.heap.size wS wS := Below.refl _ _
  have n0 : w.heap.size + 1 + 1 < wS.heap.size + 1 := by omega
  have n1 : w.heap.size + 1 + 1 < wS.heap.size + 1 + 1 := by omega
  have n2 : w.heap.size + 1 + 1 < wS.heap.size + 1 + 1 + 1 := by omega
  have HLO := Lib.hid hlo1
  clear hlo hlo1 hv2
  go_upto_region 3 with (fail)
  go_cut [12, 52, 53] (fun p a b wx => FdCut wS lo p a b wx)
  case first =>
    go_region_held3 (fun w' => w'.cell? ⟨w.heap.size + 1 + 1, 2, none⟩ = some (Ytiellodbdidgoaa.u8 v2) ∧ Below wS.heap.size wS w')
      (first | (go_split_ands; refine ⟨?_, ?_⟩ <;> (repeat (first | assumption | (with_reducible refine kdrewG ?_) | (with_reducible refine kpushG ?_) | (with_reducible refine Below.drew ?_) | (with_reducible refine bpush ?_ _) | (with_reducible refine ksetG (by omega) ?_) | (with_reducible refine bputG ?_ (by omega) _)))))
      (first | ((with_reducible refine (elmSpan_exact _ _ _).mono ?_); rintro e wO ⟨rfl, rfl⟩))
    all_goals
      go_wp2_with fail
      go_meet
      refine ⟨_, _, _, rfl, rfl, rfl, ?_, ?_, ?_, ?_, ?_, ?_, ?_, ?_, ?_, ?_⟩
      · repeat (first | exact Below.refl _ _ | (with_reducible refine Below.drew ?_) | (with_reducible refine bpush ?_ _))
      all_goals (go_simp; done)
  case rest =>
    refine (show ∀ (a : _) (w : _), Code.wp Try.prog _ _ a w → _ from by assumption) _ _ (windry_rest HV3.out HFL.out HSL.out HSV.out HCK.out HKK.out HHN.out HLO.out HBS.out HSFS.out HSS.out HR2S.out HRMS.out hcut)
end Go.Proofs.Ytiellodbdidgoaa
