/- TopTurnDry: the walk up to the field. -/
import Derived.Test.YtkialkfplhhenaaDe
namespace Go.Proofs.Ytkialkfplhhenaa
open Go Go.RowKit Go.Shelf
attribute [local go_sem] Oper.semAt_some
attribute [local go_sem ↓] Go.wp_at_zero Go.wp_at_succ

set_option maxRecDepth 20000 in
set_option maxHeartbeats 12800000 in
theorem tdry_any (fv : Value) (U : List (Int × Int)) (v0 v1 v2 v3 : Int) (la : Option Addr) (lc : Nat) (Y : List B3) (w : World)
    (hv0 : 0 ≤ v0 ∧ v0 ≤ 255) (hv1 : 0 ≤ v1 ∧ v1 ≤ 255) (hv2 : 0 ≤ v2 ∧ v2 ≤ 255) (hv3 : 0 ≤ v3 ∧ v3 ≤ 255) (hU : ∀ p ∈ U, (0 ≤ p.1 ∧ p.1 ≤ 255) ∧ (0 ≤ p.2 ∧ p.2 ≤ 255))
    (hY : ∀ p ∈ Y, B3ok p) (_hl63 : Y.length ≤ 9223372036854775807) (hg : SliceU enc2 2 w fv U) (hf : SliceU encB3 3 w (.slice la Y.length lc) Y) :
    Calls Try.prog 3 #[.agg #[fv], .slice la Y.length lc, .agg #[u8 v0, u8 v1, u8 v2, u8 v3]] w fun e w' => e = .returned (.bool true) ∧ Below w.heap.size w w' := by
  have HYY := Lib.hid hY; have HGv := Lib.hid hg
  have HV0 := Lib.hid hv0; have HV1 := Lib.hid hv1; have HV2 := Lib.hid hv2; have HV3 := Lib.hid hv3
  have HFY := Lib.hid hf
  have hSN := skN_le U
  have HSV := Lib.hid (skL_ok hU (skN U))
  obtain ⟨ga, gc, rfl, hgl, -⟩ := hg
  have HSK := Lib.hid (fun (W : World) (hb : Below w.heap.size w W) => skMade_any (.slice ga U.length gc) U W hU (HGv.out.below hb))
  obtain ⟨S, hS⟩ : ∃ S, skL U (skN U) = S := ⟨_, rfl⟩
  have hSl : 1 ≤ S.length ∧ S.length ≤ 16 := by rw [← hS, skL_len]; exact hSN
  have HSL := Lib.hid hSl
  rw [hS] at HSK HSV
  clear hv0 hv1 hv2 hv3 hY hU hgl hSN HGv hS hf
  obtain ⟨Wn, hWn⟩ : ∃ W : World, (w.alloc (.cells #[.slice ga U.length gc] 24)).alloc (.cells #[u8 v0, u8 v1, u8 v2, u8 v3] 26) = W := ⟨_, rfl⟩
  have hBn : Below w.heap.size w Wn := by rw [← hWn]; exact bpush (bpush (Below.refl _ _) _) _
  have hR0 : Wn.heap[w.heap.size]? = some (.cells #[.slice ga U.length gc] 24 (0, 0)) := by
    rw [← hWn, Below.heap_alloc _ _ _ (by simp)]; exact heap_new _ _ _
  have hR1 : Wn.heap[w.heap.size + 1]? = some (.cells #[u8 v0, u8 v1, u8 v2, u8 v3] 26 (0, 0)) := by
    rw [← hWn]; exact heapA (by simp)
  have HWN := Lib.hid hWn; have HBN := Lib.hid hBn; have HR1 := Lib.hid hR1
  have c0 : Wn.cell? ⟨w.heap.size, 0, none⟩ = some (.slice ga U.length gc) := by rw [cell_of_row _ _ _ _ _ _ hR0]; rfl
  clear hWn hBn hR0 hR1
  go_enter Try.func3, Try.ntmps3
  go_upto_region 1 with (fail)
  rw [HWN.out]
  go_wp2_with fail
  refine (HSK.out _ HBN.out).mono ?_
  rintro e w1 ⟨tv, rfl, hoS, hb1⟩
  obtain ⟨sg, sc, rfl⟩ := owns_addrG hoS (by omega)
  have HB1 := Lib.hid (bstep HBN.out hb1)
  have HVR1 := Lib.hid (bblkG hb1 HR1.out)
  have HS1 := Lib.hid (Owns.slice hoS encS_len (by omega))
  clear hoS hb1 HWN HBN c0
  go_upto_region 2 with (fail)
  obtain ⟨W0, hW0⟩ : ∃ W : World, w1.alloc (.cells #[.int .i64 1, .int .i64 0] 3) = W := ⟨_, rfl⟩
  have hz0 : w1.heap.size + 1 = W0.heap.size := by rw [← hW0]; simp
  rw [hW0, hz0]
  have hb0 : Below w1.heap.size w1 W0 := by rw [← hW0]; exact bpush (Below.refl _ _) _
  have HRK := Lib.hid (show W0.heap[w1.heap.size]? = some (.cells #[iv 1, iv 0] 3 (0, 0)) by rw [← hW0]; exact heap_new _ _ _)
  have HB0 := Lib.hid (bstep HB1.out hb0)
  have HVR := Lib.hid (bblkG hb0 HVR1.out)
  have HS0 := Lib.hid (HS1.out.below hb0)
  have HZ0 := Lib.hid hz0
  have HFY0 := Lib.hid (SliceU.below HFY.out HB0.out)
  clear hW0 hz0 hb0 HB1 HVR1 HS1 HFY
  obtain ⟨i0, hi, hz0, hz1, hz2⟩ := info_parts infoCD
  have HI := Lib.hid hi; have HZI0 := Lib.hid hz0; have HZI1 := Lib.hid hz1; have HZI2 := Lib.hid hz2
  obtain ⟨i1, hi1, hy0, hy1, hy2⟩ := info_parts infoTn
  have HJ := Lib.hid hi1; have HZJ0 := Lib.hid hy0; have HZJ1 := Lib.hid hy1; have HZJ2 := Lib.hid hy2
  clear hi hz0 hz1 hz2 hi1 hy0 hy1 hy2
  obtain ⟨rv, hrv⟩ : ∃ rv : Value, .slice (some ⟨w1.heap.size, 0, none⟩) 2 2 = rv := ⟨_, rfl⟩
  rw [hrv]
  have HRV := Lib.hid hrv
  clear hrv
  go_wp2_with fail
  go_loopw [9, 10] (fun wv i wr => ∃ (k : Nat) (cv : Value), k ≤ Y.length ∧ k ≤ 4 ∧ i = iv k ∧ Hid (TdInv ((Y.take k).map tdC) ((Y.take k).map tdT) W0 rv cv wv wr)) (fun _ i _ => 4 - (intOf i).toNat)
  case atStart => exact ⟨0, .slice none 0 0, Nat.zero_le _, Nat.zero_le _, rfl, by rw [← HRV.out]; exact TdInv.start⟩
  case round =>
    obtain ⟨k, cv, hkY, hk4, rfl, HTI⟩ := hrel
    by_cases hlt : k < Y.length ∧ k < 4
    · obtain ⟨hl1, hl2⟩ := hlt
      obtain ⟨p, hp⟩ := getElem?_of_lt hl1
      have hpk := HYY.out p (List.mem_of_getElem? hp)
      obtain ⟨q0, q1, q2⟩ := p
      simp only [B3ok] at hpk
      obtain ⟨yb, yo, rfl, x0, x1, x2⟩ := b3_cells HFY0.out hp
      obtain ⟨we, hwe⟩ : ∃ x : Int, q0 % 2 = x := ⟨_, rfl⟩
      obtain ⟨co, hco⟩ : ∃ x : Int, q0 / 2 % 3 = x := ⟨_, rfl⟩
      obtain ⟨lo, hlo⟩ : ∃ x : Int, 1 + q1 % 4 = x := ⟨_, rfl⟩
      obtain ⟨hi, hhi⟩ : ∃ x : Int, lo + q1 / 16 % 3 = x := ⟨_, rfl⟩
      obtain ⟨wl, hwl⟩ : ∃ x : Int, q2 / 8 = x := ⟨_, rfl⟩
      obtain ⟨wh, hwh⟩ : ∃ x : Int, wl + 3 = x := ⟨_, rfl⟩
      obtain ⟨C, hC⟩ : ∃ C, (Y.take k).map tdC = C := ⟨_, rfl⟩
      obtain ⟨T, hT⟩ : ∃ T, (Y.take k).map tdT = T := ⟨_, rfl⟩
      have HTK : Hid ((Y.take (k + 1)).map tdC = C ++ [⟨we, co, lo, hi⟩]) := by
        unfold Hid; rw [← hC, List.take_add_one, hp]; simp [tdC, hwe, hco, hlo, hhi]
      have HTT : Hid ((Y.take (k + 1)).map tdT = T ++ [((50, 50), (wl, wh))]) := by
        unfold Hid; rw [← hT, List.take_add_one, hp]; simp [tdT, hwl, hwh]
      have hb2 : Hid (C.length + 1 ≤ maxLen ∧ (C.length + 1) * 32 ≤ 140737488355328) := by rw [← hC]; simp [Hid]; unfold maxLen; omega
      have hb3 : Hid (T.length + 1 ≤ maxLen ∧ (T.length + 1) * 32 ≤ 140737488355328) := by rw [← hT]; simp [Hid]; unfold maxLen; omega
      rw [hC, hT] at HTI
      have t1 : q1.tmod 4 = q1 % 4 := Int.tmod_eq_emod_of_nonneg (by omega)
      have t2 : q0.tmod 2 = we := by rw [Int.tmod_eq_emod_of_nonneg (by omega), hwe]
      have t3 : q0.tdiv 2 = q0 / 2 := Int.tdiv_eq_ediv_of_nonneg (by omega)
      have t4 : (q0 / 2).tmod 3 = co := by rw [Int.tmod_eq_emod_of_nonneg (by omega), hco]
      have t5 : q1.tdiv 16 = q1 / 16 := Int.tdiv_eq_ediv_of_nonneg (by omega)
      have t6 : (q1 / 16).tmod 3 = q1 / 16 % 3 := Int.tmod_eq_emod_of_nonneg (by omega)
      have t7 : q2.tdiv 8 = wl := by rw [Int.tdiv_eq_ediv_of_nonneg (by omega), hwl]
      have g0 : IntKind.i64.wrap q0 = q0 := IntWalk.i64_in _ ⟨by omega, by omega⟩
      have g1 : IntKind.i64.wrap q1 = q1 := IntWalk.i64_in _ ⟨by omega, by omega⟩
      have g2 : IntKind.i64.wrap q2 = q2 := IntWalk.i64_in _ ⟨by omega, by omega⟩
      have g3 : IntKind.i64.wrap (1 + q1 % 4) = lo := by rw [IntWalk.i64_in _ ⟨by omega, by omega⟩, hlo]
      have g4 : IntKind.i64.wrap (q0 / 2) = q0 / 2 := IntWalk.i64_in _ ⟨by omega, by omega⟩
      have g5 : IntKind.i64.wrap (q1 / 16) = q1 / 16 := IntWalk.i64_in _ ⟨by omega, by omega⟩
      have g6 : IntKind.i64.wrap (lo + q1 / 16 % 3) = hi := by rw [IntWalk.i64_in _ ⟨by omega, by omega⟩, hhi]
      have g7 : IntKind.i64.wrap wl = wl := IntWalk.i64_in _ ⟨by omega, by omega⟩
      have g8 : IntKind.i64.wrap (wl + 3) = wh := by rw [IntWalk.i64_in _ ⟨by omega, by omega⟩, hwh]
      have HX0 := Lib.hid x0; have HX1 := Lib.hid x1; have HX2 := Lib.hid x2
      have hk0 : (0 : Int) ≤ (k : Int) := by omega
      clear hwe hco hlo hhi hwl hwh hC hT hp hpk x0 x1 x2
      have y0 := kcellG HTI.out.B HX0.out; have y1 := kcellG HTI.out.B HX1.out; have y2 := kcellG HTI.out.B HX2.out
      go_wp2_with fail
      have HTD : Hid (TdInv C T W0 rv cv u9 wr.drew) := TdInv.below HTI.out (Below.refl _ _).drew
      have hBz : Below W0.heap.size W0 wr := HTI.out.B
      have hBzd : Below W0.heap.size W0 wr.drew := HTD.out.B
      have z0 : wr.drew.cell? ⟨W0.heap.size + 1, 0, none⟩ = some cv := HTD.out.c0
      have z1 : wr.drew.frozen? ⟨W0.heap.size + 1, 0, none⟩ = false := HTD.out.f0
      have z2 : W0.heap.size + 1 < wr.heap.size := HTI.out.S
      go_cut [] (fun wx => ∃ cv', Hid (TdInv (C ++ [⟨we, co, lo, hi⟩]) T W0 rv cv' u9 wx))
      case first =>
        have hS0 : wr.drew.cell? ⟨yb, yo + k * 3, none⟩ = some (Ytkialkfplhhenaa.u8 q0) ∧ wr.drew.cell? ⟨yb, yo + k * 3 + 1, none⟩ = some (Ytkialkfplhhenaa.u8 q1) := ⟨y0, y1⟩
        clear y0 y1 y2 hBz
        refine wp_region_held_drew (S := fun w' => w'.cell? ⟨yb, yo + k * 3, none⟩ = some (Ytkialkfplhhenaa.u8 q0) ∧ w'.cell? ⟨yb, yo + k * 3 + 1, none⟩ = some (Ytkialkfplhhenaa.u8 q1)) (by kernel_rfl) hS0 (fun hHeld => ?_)
        clear hS0
        refine wpAnyH_take (i := 0) (v := ?_) rfl (by kernel_rfl) (by kernel_rfl) (by kernel_rfl) (fun _ _ _ h => h) (Or.inl ⟨by kernel_rfl, ?_⟩) (by assumption) ?_
        rotate_left
        · (intro W hS; obtain ⟨hS1, hS2⟩ := hS; go_simp; try (with_reducible rfl))
        refine (show wpAnyH Try.prog Region.Mode.any _ _ _ _ _ (Act.mk (Array.setIfInBounds (List.toArray _) _ _) _) _ from ?_)
        simp only [List.setIfInBounds_toArray, List.set_cons_zero, List.set_cons_succ]
        refine wpAnyH_take (i := 2) (v := ?_) rfl (by kernel_rfl) (by kernel_rfl) (by kernel_rfl) (fun _ _ _ h => h) (Or.inl ⟨by kernel_rfl, ?_⟩) (by assumption) ?_
        rotate_left
        · (intro W hS; obtain ⟨hS1, hS2⟩ := hS; go_simp; try (with_reducible rfl))
        refine (show wpAnyH Try.prog Region.Mode.any _ _ _ _ _ (Act.mk (Array.setIfInBounds (List.toArray _) _ _) _) _ from ?_)
        simp only [List.setIfInBounds_toArray, List.set_cons_zero, List.set_cons_succ]
        refine wpAnyH_take (i := 3) (v := ?_) rfl (by kernel_rfl) (by kernel_rfl) (by kernel_rfl) (fun _ _ _ h => h) (Or.inl ⟨by kernel_rfl, ?_⟩) (by assumption) ?_
        rotate_left
        · (intro W hS; obtain ⟨hS1, hS2⟩ := hS; go_simp; try (with_reducible rfl))
        refine (show wpAnyH Try.prog Region.Mode.any _ _ _ _ _ (Act.mk (Array.setIfInBounds (List.toArray _) _ _) _) _ from ?_)
        simp only [List.setIfInBounds_toArray, List.set_cons_zero, List.set_cons_succ]
        refine wpAnyH_take (i := 4) (v := ?_) rfl (by kernel_rfl) (by kernel_rfl) (by kernel_rfl) (fun _ _ _ h => h) (Or.inl ⟨by kernel_rfl, ?_⟩) (by assumption) ?_
        rotate_left
        · (intro W hS; obtain ⟨hS1, hS2⟩ := hS; go_simp; try (with_reducible rfl))
        refine (show wpAnyH Try.prog Region.Mode.any _ _ _ _ _ (Act.mk (Array.setIfInBounds (List.toArray _) _ _) _) _ from ?_)
        simp only [List.setIfInBounds_toArray, List.set_cons_zero, List.set_cons_succ]
        refine wpAnyH_take (i := 5) (v := ?_) rfl (by kernel_rfl) (by kernel_rfl) (by kernel_rfl) (fun _ _ _ h => h) (Or.inl ⟨by kernel_rfl, ?_⟩) (by assumption) ?_
        rotate_left
        · (intro W hS; obtain ⟨hS1, hS2⟩ := hS; go_simp; try (with_reducible rfl))
        refine (show wpAnyH Try.prog Region.Mode.any _ _ _ _ _ (Act.mk (Array.setIfInBounds (List.toArray _) _ _) _) _ from ?_)
        simp only [List.setIfInBounds_toArray, List.set_cons_zero, List.set_cons_succ]
        refine wpAnyH_take (i := 6) (v := ?_) rfl (by kernel_rfl) (by kernel_rfl) (by kernel_rfl) (fun _ _ _ h => h) (Or.inl ⟨by kernel_rfl, ?_⟩) (by assumption) ?_
        rotate_left
        · (intro W hS; obtain ⟨hS1, hS2⟩ := hS; go_simp; try (with_reducible rfl))
        refine (show wpAnyH Try.prog Region.Mode.any _ _ _ _ _ (Act.mk (Array.setIfInBounds (List.toArray _) _ _) _) _ from ?_)
        simp only [List.setIfInBounds_toArray, List.set_cons_zero, List.set_cons_succ]
        refine wpAnyH_take (i := 7) (v := ?_) rfl (by kernel_rfl) (by kernel_rfl) (by kernel_rfl) (fun _ _ _ h => h) (Or.inl ⟨by kernel_rfl, ?_⟩) (by assumption) ?_
        rotate_left
        · (intro W hS; obtain ⟨hS1, hS2⟩ := hS; go_simp; try (with_reducible rfl))
        refine (show wpAnyH Try.prog Region.Mode.any _ _ _ _ _ (Act.mk (Array.setIfInBounds (List.toArray _) _ _) _) _ from ?_)
        simp only [List.setIfInBounds_toArray, List.set_cons_zero, List.set_cons_succ]
        refine wpAnyH_take (i := 8) (v := ?_) rfl (by kernel_rfl) (by kernel_rfl) (by kernel_rfl) (fun _ _ _ h => h) (Or.inl ⟨by kernel_rfl, ?_⟩) (by assumption) ?_
        rotate_left
        · (intro W hS; obtain ⟨hS1, hS2⟩ := hS; go_simp; try (with_reducible rfl))
        refine (show wpAnyH Try.prog Region.Mode.any _ _ _ _ _ (Act.mk (Array.setIfInBounds (List.toArray _) _ _) _) _ from ?_)
        simp only [List.setIfInBounds_toArray, List.set_cons_zero, List.set_cons_succ]
        refine wpAnyH_take (i := 9) (v := ?_) rfl (by kernel_rfl) (by kernel_rfl) (by kernel_rfl) (fun _ _ _ h => h) (Or.inl ⟨by kernel_rfl, ?_⟩) (by assumption) ?_
        rotate_left
        · (intro W hS; obtain ⟨hS1, hS2⟩ := hS; go_simp; try (with_reducible rfl))
        refine (show wpAnyH Try.prog Region.Mode.any _ _ _ _ _ (Act.mk (Array.setIfInBounds (List.toArray _) _ _) _) _ from ?_)
        simp only [List.setIfInBounds_toArray, List.set_cons_zero, List.set_cons_succ]
        refine wpAnyH_take (i := 10) (v := ?_) rfl (by kernel_rfl) (by kernel_rfl) (by kernel_rfl) (fun _ _ _ h => h) (Or.inl ⟨by kernel_rfl, ?_⟩) (by assumption) ?_
        rotate_left
        · (intro W hS; obtain ⟨hS1, hS2⟩ := hS; go_simp; try (with_reducible rfl))
        refine (show wpAnyH Try.prog Region.Mode.any _ _ _ _ _ (Act.mk (Array.setIfInBounds (List.toArray _) _ _) _) _ from ?_)
        simp only [List.setIfInBounds_toArray, List.set_cons_zero, List.set_cons_succ]
        refine wpAnyH_take (i := 11) (v := ?_) rfl (by kernel_rfl) (by kernel_rfl) (by kernel_rfl) (fun _ _ _ h => h) (Or.inl ⟨by kernel_rfl, ?_⟩) (by assumption) ?_
        rotate_left
        · (intro W hS; obtain ⟨hS1, hS2⟩ := hS; go_simp; try (with_reducible rfl))
        refine (show wpAnyH Try.prog Region.Mode.any _ _ _ _ _ (Act.mk (Array.setIfInBounds (List.toArray _) _ _) _) _ from ?_)
        simp only [List.setIfInBounds_toArray, List.set_cons_zero, List.set_cons_succ]
        refine wpAnyH_take (i := 12) (v := ?_) rfl (by kernel_rfl) (by kernel_rfl) (by kernel_rfl) (fun _ _ _ h => h) (Or.inl ⟨by kernel_rfl, ?_⟩) (by assumption) ?_
        rotate_left
        · (intro W hS; obtain ⟨hS1, hS2⟩ := hS; go_simp; try (with_reducible rfl))
        refine (show wpAnyH Try.prog Region.Mode.any _ _ _ _ _ (Act.mk (Array.setIfInBounds (List.toArray _) _ _) _) _ from ?_)
        simp only [List.setIfInBounds_toArray, List.set_cons_zero, List.set_cons_succ]
        refine wpAnyH_take (i := 13) (v := ?_) rfl (by kernel_rfl) (by kernel_rfl) (by kernel_rfl) (fun _ _ _ h => h) (Or.inl ⟨by kernel_rfl, ?_⟩) (by assumption) ?_
        rotate_left
        · (intro W hS; obtain ⟨hS1, hS2⟩ := hS; go_simp; try (with_reducible rfl))
        refine (show wpAnyH Try.prog Region.Mode.any _ _ _ _ _ (Act.mk (Array.setIfInBounds (List.toArray _) _ _) _) _ from ?_)
        simp only [List.setIfInBounds_toArray, List.set_cons_zero, List.set_cons_succ]
        refine wpAnyH_take (i := 14) (v := ?_) rfl (by kernel_rfl) (by kernel_rfl) (by kernel_rfl) (fun _ _ _ h => h) (Or.inl ⟨by kernel_rfl, ?_⟩) (by assumption) ?_
        rotate_left
        · (intro W hS; obtain ⟨hS1, hS2⟩ := hS; go_simp; try (with_reducible rfl))
        refine (show wpAnyH Try.prog Region.Mode.any _ _ _ _ _ (Act.mk (Array.setIfInBounds (List.toArray _) _ _) _) _ from ?_)
        simp only [List.setIfInBounds_toArray, List.set_cons_zero, List.set_cons_succ]
        refine wpAnyH_take (i := 15) (v := ?_) rfl (by kernel_rfl) (by kernel_rfl) (by kernel_rfl) (fun _ _ _ h => h) (Or.inl ⟨by kernel_rfl, ?_⟩) (by assumption) ?_
        rotate_left
        · (intro W hS; obtain ⟨hS1, hS2⟩ := hS; go_simp; try (with_reducible rfl))
        refine (show wpAnyH Try.prog Region.Mode.any _ _ _ _ _ (Act.mk (Array.setIfInBounds (List.toArray _) _ _) _) _ from ?_)
        simp only [List.setIfInBounds_toArray, List.set_cons_zero, List.set_cons_succ]
        refine wpAnyH_take (i := 16) (v := ?_) rfl (by kernel_rfl) (by kernel_rfl) (by kernel_rfl) (fun _ _ _ h => h) (Or.inl ⟨by kernel_rfl, ?_⟩) (by assumption) ?_
        rotate_left
        · (intro W hS; obtain ⟨hS1, hS2⟩ := hS; go_simp; try (with_reducible rfl))
        refine (show wpAnyH Try.prog Region.Mode.any _ _ _ _ _ (Act.mk (Array.setIfInBounds (List.toArray _) _ _) _) _ from ?_)
        simp only [List.setIfInBounds_toArray, List.set_cons_zero, List.set_cons_succ]
        refine wpAnyH_take (i := 17) (v := ?_) rfl (by kernel_rfl) (by kernel_rfl) (by kernel_rfl) (fun _ _ _ h => h) (Or.inl ⟨by kernel_rfl, ?_⟩) (by assumption) ?_
        rotate_left
        · (intro W hS; obtain ⟨hS1, hS2⟩ := hS; go_simp; try (with_reducible rfl))
        refine (show wpAnyH Try.prog Region.Mode.any _ _ _ _ _ (Act.mk (Array.setIfInBounds (List.toArray _) _ _) _) _ from ?_)
        simp only [List.setIfInBounds_toArray, List.set_cons_zero, List.set_cons_succ]
        refine wpAnyH_take (i := 18) (v := ?_) rfl (by kernel_rfl) (by kernel_rfl) (by kernel_rfl) (fun _ _ _ h => h) (Or.inl ⟨by kernel_rfl, ?_⟩) (by assumption) ?_
        rotate_left
        · (intro W hS; obtain ⟨hS1, hS2⟩ := hS; go_simp; try (with_reducible rfl))
        refine (show wpAnyH Try.prog Region.Mode.any _ _ _ _ _ (Act.mk (Array.setIfInBounds (List.toArray _) _ _) _) _ from ?_)
        simp only [List.setIfInBounds_toArray, List.set_cons_zero, List.set_cons_succ]
        refine wpAnyH_take (i := 19) (v := ?_) rfl (by kernel_rfl) (by kernel_rfl) (by kernel_rfl) (fun _ _ _ h => h) (Or.inl ⟨by kernel_rfl, ?_⟩) (by assumption) ?_
        rotate_left
        · (intro W hS; obtain ⟨hS1, hS2⟩ := hS; go_simp; try (with_reducible rfl))
        refine (show wpAnyH Try.prog Region.Mode.any _ _ _ _ _ (Act.mk (Array.setIfInBounds (List.toArray _) _ _) _) _ from ?_)
        simp only [List.setIfInBounds_toArray, List.set_cons_zero, List.set_cons_succ]
        refine wpAnyH_take (i := 20) (v := ?_) rfl (by kernel_rfl) (by kernel_rfl) (by kernel_rfl) (fun _ _ _ h => h) (Or.inl ⟨by kernel_rfl, ?_⟩) (by assumption) ?_
        rotate_left
        · (intro W hS; obtain ⟨hS1, hS2⟩ := hS; go_simp; try (with_reducible rfl))
        refine (show wpAnyH Try.prog Region.Mode.any _ _ _ _ _ (Act.mk (Array.setIfInBounds (List.toArray _) _ _) _) _ from ?_)
        simp only [List.setIfInBounds_toArray, List.set_cons_zero, List.set_cons_succ]
        refine wpAnyH_take (i := 21) (v := ?_) rfl (by kernel_rfl) (by kernel_rfl) (by kernel_rfl) (fun _ _ _ h => h) (Or.inl ⟨by kernel_rfl, ?_⟩) (by assumption) ?_
        rotate_left
        · (intro W hS; obtain ⟨hS1, hS2⟩ := hS; go_simp; try (with_reducible rfl))
        refine (show wpAnyH Try.prog Region.Mode.any _ _ _ _ _ (Act.mk (Array.setIfInBounds (List.toArray _) _ _) _) _ from ?_)
        simp only [List.setIfInBounds_toArray, List.set_cons_zero, List.set_cons_succ]
        refine wpAnyH_take (i := 22) (v := ?_) rfl (by kernel_rfl) (by kernel_rfl) (by kernel_rfl) (fun _ _ _ h => h) (Or.inl ⟨by kernel_rfl, ?_⟩) (by assumption) ?_
        rotate_left
        · (intro W hS; obtain ⟨hS1, hS2⟩ := hS; go_simp; try (with_reducible rfl))
        refine (show wpAnyH Try.prog Region.Mode.any _ _ _ _ _ (Act.mk (Array.setIfInBounds (List.toArray _) _ _) _) _ from ?_)
        simp only [List.setIfInBounds_toArray, List.set_cons_zero, List.set_cons_succ]
        refine wpAnyH_take (i := 23) (v := ?_) rfl (by kernel_rfl) (by kernel_rfl) (by kernel_rfl) (fun _ _ _ h => h) (Or.inl ⟨by kernel_rfl, ?_⟩) (by assumption) ?_
        rotate_left
        · (intro W hS; obtain ⟨hS1, hS2⟩ := hS; go_simp; try (with_reducible rfl))
        refine (show wpAnyH Try.prog Region.Mode.any _ _ _ _ _ (Act.mk (Array.setIfInBounds (List.toArray _) _ _) _) _ from ?_)
        simp only [List.setIfInBounds_toArray, List.set_cons_zero, List.set_cons_succ]
        refine wpAnyH_take (i := 24) (v := ?_) rfl (by kernel_rfl) (by kernel_rfl) (by kernel_rfl) (fun _ _ _ h => h) (Or.inl ⟨by kernel_rfl, ?_⟩) (by assumption) ?_
        rotate_left
        · (intro W hS; obtain ⟨hS1, hS2⟩ := hS; go_simp; try (with_reducible rfl))
        refine (show wpAnyH Try.prog Region.Mode.any _ _ _ _ _ (Act.mk (Array.setIfInBounds (List.toArray _) _ _) _) _ from ?_)
        simp only [List.setIfInBounds_toArray, List.set_cons_zero, List.set_cons_succ]
        refine wpAnyH_take (i := 25) (v := ?_) rfl (by kernel_rfl) (by kernel_rfl) (by kernel_rfl) (fun _ _ _ h => h) (Or.inl ⟨by kernel_rfl, ?_⟩) (by assumption) ?_
        rotate_left
        · (intro W hS; obtain ⟨hS1, hS2⟩ := hS; go_simp; try (with_reducible rfl))
        refine (show wpAnyH Try.prog Region.Mode.any _ _ _ _ _ (Act.mk (Array.setIfInBounds (List.toArray _) _ _) _) _ from ?_)
        simp only [List.setIfInBounds_toArray, List.set_cons_zero, List.set_cons_succ]
        refine wpAnyH_take (i := 26) (v := ?_) rfl (by kernel_rfl) (by kernel_rfl) (by kernel_rfl) (fun _ _ _ h => h) (Or.inl ⟨by kernel_rfl, ?_⟩) (by assumption) ?_
        rotate_left
        · (intro W hS; obtain ⟨hS1, hS2⟩ := hS; go_simp; try (with_reducible rfl))
        refine (show wpAnyH Try.prog Region.Mode.any _ _ _ _ _ (Act.mk (Array.setIfInBounds (List.toArray _) _ _) _) _ from ?_)
        simp only [List.setIfInBounds_toArray, List.set_cons_zero, List.set_cons_succ]
        refine wpAnyH_take (i := 27) (v := ?_) rfl (by kernel_rfl) (by kernel_rfl) (by kernel_rfl) (fun _ _ _ h => h) (Or.inl ⟨by kernel_rfl, ?_⟩) (by assumption) ?_
        rotate_left
        · (intro W hS; obtain ⟨hS1, hS2⟩ := hS; go_simp; try (with_reducible rfl))
        refine (show wpAnyH Try.prog Region.Mode.any _ _ _ _ _ (Act.mk (Array.setIfInBounds (List.toArray _) _ _) _) _ from ?_)
        simp only [List.setIfInBounds_toArray, List.set_cons_zero, List.set_cons_succ]
        refine wpAnyH_ready (rs := [1, 28]) (by kernel_rfl) (by simp) (AllReadyH.cons rfl (fun K hK => ?_) (AllReadyH.cons rfl (fun K hK => ?_) AllReadyH.nil))
        · go_simp
          refine hK.out _ _ hHeld (fun hHeld => ?_)
          clear hK K
          refine wpAnyH_ready (rs := [28]) (by kernel_rfl) (by simp) (AllReadyH.cons rfl (fun K hK => ?_) AllReadyH.nil)
          go_simp
          refine (elmSpan_any _ _ _).mono ?_
          rintro e w3 ⟨rfl, hbK⟩
          have hT3 : Hid (TdInv C T W0 rv cv u9 w3) := TdInv.below (Hid.out (by assumption)) hbK
          have nm0 : w3.cell? ⟨W0.heap.size + 1, 0, none⟩ = some cv := hT3.out.c0
          have nm1 : w3.frozen? ⟨W0.heap.size + 1, 0, none⟩ = false := hT3.out.f0
          have nm8 : W0.heap.size + 1 < w3.heap.size := hT3.out.S
          go_wp2_with fail
          refine hK.out _ _ ⟨kcellG hT3.out.B HX0.out, kcellG hT3.out.B HX1.out⟩ (fun hHeld => ?_)
          clear hK K
          refine wpAnyH_take (i := 29) (v := ?_) rfl (by kernel_rfl) (by kernel_rfl) (by kernel_rfl) (fun _ _ _ h => h) (Or.inl ⟨by kernel_rfl, ?_⟩) (by assumption) ?_
          rotate_left
          · (intro W hS; obtain ⟨hS1, hS2⟩ := hS; go_simp; try (with_reducible rfl))
          refine (show wpAnyH Try.prog Region.Mode.any _ _ _ _ _ (Act.mk (Array.setIfInBounds (List.toArray _) _ _) _) _ from ?_)
          simp only [List.setIfInBounds_toArray, List.set_cons_zero, List.set_cons_succ]
          refine wpAnyH_ready (rs := [30]) (by kernel_rfl) (by simp) (AllReadyH.cons rfl (fun K hK => ?_) AllReadyH.nil)
          go_simp
          refine hK.out _ _ ⟨kcellG (bpush (Below.refl _ _) _) hHeld.1, kcellG (bpush (Below.refl _ _) _) hHeld.2⟩ (fun hHeld => ?_)
          clear hK K
          refine wpAnyH_ready (rs := [31]) (by kernel_rfl) (by simp) (AllReadyH.cons rfl (fun K hK => ?_) AllReadyH.nil)
          refine S_append2D (enc := encC) (sz := 4) (e := 39) (base := W0.heap.size + 1 + 1) (⟨we, co, lo, hi⟩ : Ct) (by rfl) _ _ 30 (by rfl) Try.underlying30 HI.out HZI0.out HZI1.out HZI2.out rfl Nat.four_pos' encC_len (encC_oneD _) (by rfl) (by rfl) ?_ ?_ hb2.out ?_ ?_
          · exact (TdInv.below hT3.out (bpush (Below.refl _ _) _)).O0
          · exact encC_cellD (heap_new _ _ _)
          · exact (TdInv.below hT3.out (bpush (Below.refl _ _) _)).S
          intro g' cap wA hown hbe hG hlie
          have HDN := Lib.hid (TdInv.more0 (TdInv.below hT3.out (bpush (Below.refl _ _) _)) hown hbe hG hlie)
          have hBA : Below W0.heap.size W0 wA := (TdInv.below hT3.out (bpush (Below.refl _ _) _)).B.trans (hbe.mono (Nat.le_succ_of_le (Nat.le_succ _)))
          have n0 : wA.cell? ⟨W0.heap.size + 1, 0, none⟩ = some cv := (hbe.cell (p := ⟨W0.heap.size + 1, 0, none⟩) (Nat.lt_succ_self _)).trans (TdInv.below hT3.out (bpush (Below.refl _ _) _)).c0
          have n1 : wA.frozen? ⟨W0.heap.size + 1, 0, none⟩ = false := (hbe.frozen (p := ⟨W0.heap.size + 1, 0, none⟩) (Nat.lt_succ_self _)).trans (TdInv.below hT3.out (bpush (Below.refl _ _) _)).f0
          refine hK.out _ _ ⟨kcellG hBA HX0.out, kcellG hBA HX1.out⟩ (fun hHeld => ?_)
          clear hK K
          refine (show wpAnyH Try.prog Region.Mode.any _ _ _ _ _ (Act.mk (Array.setIfInBounds (List.toArray _) _ _) _) _ from ?_)
          simp only [List.setIfInBounds_toArray, List.set_cons_zero, List.set_cons_succ]
          refine wpAnyH_take (i := 32) (v := ?_) rfl (by kernel_rfl) (by kernel_rfl) (by kernel_rfl) (fun _ _ _ h => h) (Or.inl ⟨by kernel_rfl, ?_⟩) (by assumption) ?_
          rotate_left
          · (intro W hS; obtain ⟨hS1, hS2⟩ := hS; go_simp; try (with_reducible rfl))
          refine (show wpAnyH Try.prog Region.Mode.any _ _ _ _ _ (Act.mk (Array.setIfInBounds (List.toArray _) _ _) _) _ from ?_)
          simp only [List.setIfInBounds_toArray, List.set_cons_zero, List.set_cons_succ]
          refine wpAnyH_ready (rs := [33]) (by kernel_rfl) (by simp) (AllReadyH.cons rfl (fun K hK => ?_) AllReadyH.nil)
          go_simp
          refine hK.out _ _ ⟨kcellG HDN.out.B HX0.out, kcellG HDN.out.B HX1.out⟩ (fun hHeld => ?_)
          clear hK K
          refine wpAnyH_done (by kernel_rfl) ?_ _
          go_wp2_with fail
          go_meet
          exact ⟨_, HDN⟩
        · go_simp
          refine (elmSpan_any _ _ _).mono ?_
          rintro e w3 ⟨rfl, hbK⟩
          have hT3 : Hid (TdInv C T W0 rv cv u9 w3) := TdInv.below (Hid.out (by assumption)) hbK
          have nm0 : w3.cell? ⟨W0.heap.size + 1, 0, none⟩ = some cv := hT3.out.c0
          have nm1 : w3.frozen? ⟨W0.heap.size + 1, 0, none⟩ = false := hT3.out.f0
          have nm8 : W0.heap.size + 1 < w3.heap.size := hT3.out.S
          go_wp2_with fail
          refine hK.out _ _ ⟨kcellG hT3.out.B HX0.out, kcellG hT3.out.B HX1.out⟩ (fun hHeld => ?_)
          clear hK K
          refine wpAnyH_take (i := 29) (v := ?_) rfl (by kernel_rfl) (by kernel_rfl) (by kernel_rfl) (fun _ _ _ h => h) (Or.inl ⟨by kernel_rfl, ?_⟩) (by assumption) ?_
          rotate_left
          · (intro W hS; obtain ⟨hS1, hS2⟩ := hS; go_simp; try (with_reducible rfl))
          refine (show wpAnyH Try.prog Region.Mode.any _ _ _ _ _ (Act.mk (Array.setIfInBounds (List.toArray _) _ _) _) _ from ?_)
          simp only [List.setIfInBounds_toArray, List.set_cons_zero, List.set_cons_succ]
          refine wpAnyH_ready (rs := [1, 30]) (by kernel_rfl) (by simp) (AllReadyH.cons rfl (fun K hK => ?_) (AllReadyH.cons rfl (fun K hK => ?_) AllReadyH.nil))
          · go_simp
            refine hK.out _ _ hHeld (fun hHeld => ?_)
            clear hK K
            refine wpAnyH_ready (rs := [30]) (by kernel_rfl) (by simp) (AllReadyH.cons rfl (fun K hK => ?_) AllReadyH.nil)
            go_simp
            refine hK.out _ _ ⟨kcellG (bpush (Below.refl _ _) _) hHeld.1, kcellG (bpush (Below.refl _ _) _) hHeld.2⟩ (fun hHeld => ?_)
            clear hK K
            refine wpAnyH_ready (rs := [31]) (by kernel_rfl) (by simp) (AllReadyH.cons rfl (fun K hK => ?_) AllReadyH.nil)
            refine S_append2D (enc := encC) (sz := 4) (e := 39) (base := W0.heap.size + 1 + 1) (⟨we, co, lo, hi⟩ : Ct) (by rfl) _ _ 30 (by rfl) Try.underlying30 HI.out HZI0.out HZI1.out HZI2.out rfl Nat.four_pos' encC_len (encC_oneD _) (by rfl) (by rfl) ?_ ?_ hb2.out ?_ ?_
            · exact (TdInv.below hT3.out (bpush (Below.refl _ _) _)).O0
            · exact encC_cellD (heap_new _ _ _)
            · exact (TdInv.below hT3.out (bpush (Below.refl _ _) _)).S
            intro g' cap wA hown hbe hG hlie
            have HDN := Lib.hid (TdInv.more0 (TdInv.below hT3.out (bpush (Below.refl _ _) _)) hown hbe hG hlie)
            have hBA : Below W0.heap.size W0 wA := (TdInv.below hT3.out (bpush (Below.refl _ _) _)).B.trans (hbe.mono (Nat.le_succ_of_le (Nat.le_succ _)))
            have n0 : wA.cell? ⟨W0.heap.size + 1, 0, none⟩ = some cv := (hbe.cell (p := ⟨W0.heap.size + 1, 0, none⟩) (Nat.lt_succ_self _)).trans (TdInv.below hT3.out (bpush (Below.refl _ _) _)).c0
            have n1 : wA.frozen? ⟨W0.heap.size + 1, 0, none⟩ = false := (hbe.frozen (p := ⟨W0.heap.size + 1, 0, none⟩) (Nat.lt_succ_self _)).trans (TdInv.below hT3.out (bpush (Below.refl _ _) _)).f0
            refine hK.out _ _ ⟨kcellG hBA HX0.out, kcellG hBA HX1.out⟩ (fun hHeld => ?_)
            clear hK K
            refine (show wpAnyH Try.prog Region.Mode.any _ _ _ _ _ (Act.mk (Array.setIfInBounds (List.toArray _) _ _) _) _ from ?_)
            simp only [List.setIfInBounds_toArray, List.set_cons_zero, List.set_cons_succ]
            refine wpAnyH_take (i := 32) (v := ?_) rfl (by kernel_rfl) (by kernel_rfl) (by kernel_rfl) (fun _ _ _ h => h) (Or.inl ⟨by kernel_rfl, ?_⟩) (by assumption) ?_
            rotate_left
            · (intro W hS; obtain ⟨hS1, hS2⟩ := hS; go_simp; try (with_reducible rfl))
            refine (show wpAnyH Try.prog Region.Mode.any _ _ _ _ _ (Act.mk (Array.setIfInBounds (List.toArray _) _ _) _) _ from ?_)
            simp only [List.setIfInBounds_toArray, List.set_cons_zero, List.set_cons_succ]
            refine wpAnyH_ready (rs := [33]) (by kernel_rfl) (by simp) (AllReadyH.cons rfl (fun K hK => ?_) AllReadyH.nil)
            go_simp
            refine hK.out _ _ ⟨kcellG HDN.out.B HX0.out, kcellG HDN.out.B HX1.out⟩ (fun hHeld => ?_)
            clear hK K
            refine wpAnyH_done (by kernel_rfl) ?_ _
            go_wp2_with fail
            go_meet
            exact ⟨_, HDN⟩
          · go_simp
            refine hK.out _ _ ⟨kcellG (bpush (Below.refl _ _) _) hHeld.1, kcellG (bpush (Below.refl _ _) _) hHeld.2⟩ (fun hHeld => ?_)
            clear hK K
            refine wpAnyH_ready (rs := [1]) (by kernel_rfl) (by simp) (AllReadyH.cons rfl (fun K hK => ?_) AllReadyH.nil)
            go_simp
            refine hK.out _ _ hHeld (fun hHeld => ?_)
            clear hK K
            refine wpAnyH_ready (rs := [31]) (by kernel_rfl) (by simp) (AllReadyH.cons rfl (fun K hK => ?_) AllReadyH.nil)
            refine S_append2D (enc := encC) (sz := 4) (e := 39) (base := W0.heap.size + 1 + 1) (⟨we, co, lo, hi⟩ : Ct) (by rfl) _ _ 30 (by rfl) Try.underlying30 HI.out HZI0.out HZI1.out HZI2.out rfl Nat.four_pos' encC_len (encC_oneD _) (by rfl) (by rfl) ?_ ?_ hb2.out ?_ ?_
            · exact (TdInv.below hT3.out (bpush (Below.refl _ _) _)).O0
            · exact encC_cellD (heap_new _ _ _)
            · exact (TdInv.below hT3.out (bpush (Below.refl _ _) _)).S
            intro g' cap wA hown hbe hG hlie
            have HDN := Lib.hid (TdInv.more0 (TdInv.below hT3.out (bpush (Below.refl _ _) _)) hown hbe hG hlie)
            have hBA : Below W0.heap.size W0 wA := (TdInv.below hT3.out (bpush (Below.refl _ _) _)).B.trans (hbe.mono (Nat.le_succ_of_le (Nat.le_succ _)))
            have n0 : wA.cell? ⟨W0.heap.size + 1, 0, none⟩ = some cv := (hbe.cell (p := ⟨W0.heap.size + 1, 0, none⟩) (Nat.lt_succ_self _)).trans (TdInv.below hT3.out (bpush (Below.refl _ _) _)).c0
            have n1 : wA.frozen? ⟨W0.heap.size + 1, 0, none⟩ = false := (hbe.frozen (p := ⟨W0.heap.size + 1, 0, none⟩) (Nat.lt_succ_self _)).trans (TdInv.below hT3.out (bpush (Below.refl _ _) _)).f0
            refine hK.out _ _ ⟨kcellG hBA HX0.out, kcellG hBA HX1.out⟩ (fun hHeld => ?_)
            clear hK K
            refine (show wpAnyH Try.prog Region.Mode.any _ _ _ _ _ (Act.mk (Array.setIfInBounds (List.toArray _) _ _) _) _ from ?_)
            simp only [List.setIfInBounds_toArray, List.set_cons_zero, List.set_cons_succ]
            refine wpAnyH_take (i := 32) (v := ?_) rfl (by kernel_rfl) (by kernel_rfl) (by kernel_rfl) (fun _ _ _ h => h) (Or.inl ⟨by kernel_rfl, ?_⟩) (by assumption) ?_
            rotate_left
            · (intro W hS; obtain ⟨hS1, hS2⟩ := hS; go_simp; try (with_reducible rfl))
            refine (show wpAnyH Try.prog Region.Mode.any _ _ _ _ _ (Act.mk (Array.setIfInBounds (List.toArray _) _ _) _) _ from ?_)
            simp only [List.setIfInBounds_toArray, List.set_cons_zero, List.set_cons_succ]
            refine wpAnyH_ready (rs := [33]) (by kernel_rfl) (by simp) (AllReadyH.cons rfl (fun K hK => ?_) AllReadyH.nil)
            go_simp
            refine hK.out _ _ ⟨kcellG HDN.out.B HX0.out, kcellG HDN.out.B HX1.out⟩ (fun hHeld => ?_)
            clear hK K
            refine wpAnyH_done (by kernel_rfl) ?_ _
            go_wp2_with fail
            go_meet
            exact ⟨_, HDN⟩
      case rest =>
        obtain ⟨cv', HT2⟩ := hcut
        have HTD2 : Hid (TdInv (C ++ [⟨we, co, lo, hi⟩]) T W0 rv cv' u9 wc.drew) := TdInv.below HT2.out (Below.refl _ _).drew
        have y2 := kcellG HT2.out.B HX2.out
        have hBzd : Below W0.heap.size W0 wc := HT2.out.B
        clear y0 y1 HTD hBz z0 z1 z2 HTI
        go_wp2_with fail
        go_region_held3 (fun w' => w'.cell? ⟨yb, yo + k * 3 + 2, none⟩ = some (Ytkialkfplhhenaa.u8 q2) ∧ Below W0.heap.size W0 w')
          (first | ((with_reducible refine tdKeep1 HX2.out ?_); repeat (first | (with_reducible assumption) | (with_reducible refine Below.drew ?_) | (with_reducible refine bpush ?_ _))))
          (first | ((with_reducible refine (elmSpan_any _ _ _).mono ?_); rintro e w3 ⟨rfl, hbK⟩; have hT3 : Hid (TdInv (C ++ [⟨we, co, lo, hi⟩]) T W0 rv cv' u9 w3) := TdInv.below (Hid.out (by assumption)) hbK; have hB3 : Below W0.heap.size W0 w3 := hT3.out.B) | ((refine S_append2D (enc := encN) (sz := 4) (e := 41) (base := W0.heap.size) (((50, 50), (wl, wh)) : Tn) (by rfl) _ _ 33 (by rfl) Try.underlying33 HJ.out HZJ0.out HZJ1.out HZJ2.out rfl Nat.four_pos' encN_len (encN_one _) (by rfl) (by rfl) ?_ ?_ hb3.out ?_ ?_); (focus exact (TdInv.below hT3.out (bpush (Below.refl _ _) _)).O1); (focus exact encN_cellD (heap_new _ _ _)); (focus exact (TdInv.below hT3.out (bpush (Below.refl _ _) _)).s0); intro g' cap wA hown hbe hG hlie; have HDN := Lib.hid (TdInv.more1 (TdInv.below hT3.out (bpush (Below.refl _ _) _)) hown hbe hG hlie rfl); have hBA : Below W0.heap.size W0 wA := HDN.out.B))
        have HDX : Hid (TdInv ((Y.take (k + 1)).map tdC) ((Y.take (k + 1)).map tdT) W0 rv cv' (.slice (some ⟨g', 0, none⟩) (T.length + 1) cap) wA) := by rw [HTK.out, HTT.out]; exact HDN
        clear y2 HTD2 hBzd
        go_wp2_with fail
        go_roundw
        case rel => exact ⟨k + 1, cv', by omega, by omega, by go_num, HDX⟩
        case measure => simp [intOf]; omega
    · go_upto_region 3 with (fail)
      go_cut [38] (fun b wx => b = .bool false ∧ wx = wr)
      case first =>
        by_cases hkl : k < Y.length
        · have hk1 : ¬ (k : Int) < 4 := by omega
          go_wp2_with fail
          go_meet
          exact ⟨rfl, rfl⟩
        · have hk1 : ¬ (k : Int) < (Y.length : Int) := by omega
          go_wp2_with fail
          go_meet
          exact ⟨rfl, rfl⟩
      case rest =>
        obtain ⟨rfl, hcut⟩ := hcut
        subst hcut
        rename World => wA
        have hv0 := HV0.out; have hv1 := HV1.out; have hv2 := HV2.out; have hv3 := HV3.out
        have hL : ∀ p ∈ Y.take k, B3ok p := fun p hp => HYY.out p (List.mem_of_mem_take hp)
        have hl4 : (Y.take k).length ≤ 4 := by rw [List.length_take]; omega
        obtain ⟨n, hn⟩ : ∃ n : Nat, v0 / 32 % 3 = (n : Int) := ⟨(v0 / 32 % 3).toNat, by omega⟩
        have HCK := Lib.hid (td_chk hL hl4)
        have HN2 : Hid (n ≤ 2) := by unfold Hid; omega
        have HFD := Lib.hid (td_fd (v0 := v0) (v1 := v1) (v2 := v2) (v3 := v3) (n := n) hL hl4 (by omega) hv2 hv3 HSL.out HSV.out)
        have hCT : ((Y.take k).map tdC).length = ((Y.take k).map tdT).length := by simp only [List.length_map]
        have hC4 : ((Y.take k).map tdC).length ≤ 4 := by rw [List.length_map]; exact hl4
        generalize (Y.take k).map tdC = C at *
        generalize (Y.take k).map tdT = T at *
        have hT4 : T.length ≤ 4 := by omega
        have HCT := Lib.hid hCT
        clear hL hl4 HYY HFY0 hCT
        obtain ⟨ta, tn, rfl⟩ := HTI.out.O0.len
        obtain ⟨wg, wk, rfl⟩ := HTI.out.V
        obtain ⟨K, hK⟩ : ∃ K : Nat, 1 + v3 % 2 = (K : Int) := ⟨(1 + v3 % 2).toNat, by omega⟩
        have HK : Hid (1 ≤ K ∧ K ≤ 5) := by unfold Hid; omega
        have hSl := HSL.out
        obtain ⟨rn, hrn⟩ : ∃ rn : Nat, v2 % ((S.length : Int) + 1) = (rn : Int) := ⟨(v2 % ((S.length : Int) + 1)).toNat, by have := Int.emod_nonneg v2 (b := (S.length : Int) + 1) (by omega); omega⟩
        have hrl : rn ≤ S.length := by have := Int.emod_lt_of_pos v2 (b := (S.length : Int) + 1) (by omega); omega
        have f0 : IntKind.i64.wrap v2 = v2 := IntWalk.i64_in _ ⟨by omega, by omega⟩
        have f1 : IntKind.i64.wrap ((S.length : Int) + 1) = (S.length : Int) + 1 := IntWalk.i64_in _ ⟨by omega, by omega⟩
        have f2 : v2.tmod ((S.length : Int) + 1) = (rn : Int) := by rw [Int.tmod_eq_emod_of_nonneg hv2.1, hrn]
        have f3 : IntKind.i64.wrap (rn : Int) = (rn : Int) := IntWalk.i64_in _ ⟨by omega, by omega⟩
        have f4 : ¬ ((S.length : Int) + 1 = 0) := by omega
        have f5 : (((S.length : Int) + 1) == 0) = false := by simpa using f4
        have f6 : IntKind.i64.wrap v3 = v3 := IntWalk.i64_in _ ⟨by omega, by omega⟩
        have f7 : v3.tmod 2 = v3 % 2 := Int.tmod_eq_emod_of_nonneg hv3.1
        have f8 : IntKind.i64.wrap (1 + v3 % 2) = (K : Int) := by rw [IntWalk.i64_in _ ⟨by omega, by omega⟩, hK]
        have HTE := Lib.hid (fun (W : World) (h : SliceOf encN 4 W (.slice (some ⟨wg, 0, none⟩) T.length wk) T) => elmTenter_any T ⟨wg, 0, none⟩ wk n v0 v1 v2 v3 W (by omega) h hv0 hv1 hv2 hv3 hn)
        have HTW := Lib.hid (Owns.slice HTI.out.O1 encN_len (by omega))
        have HVW := Lib.hid (bblkG HTI.out.B HVR.out)
        have HZa : Hid ((wA.alloc (.cells #[.slice none 0 0, .slice none 0 0, .int .i64 0, .int .i64 0] 43)).drew.heap[wA.heap.size]? = some (.cells #[.slice none 0 0, .slice none 0 0, .int .i64 0, .int .i64 0] 43 (0, 0))) := heap_new _ _ _
        have HRL : Hid (0 < (frL v2 v3 (n + 1)).length) := by rw [frL_len]; exact Nat.succ_pos _
        have hBz : Below wA.heap.size wA wA := Below.refl _ _
        obtain ⟨d0, d1, d2, d3, -⟩ := tdKeep4 HVW.out hBz
        clear hn hK hrn hv0 hv1 hv2 hv3
        go_wp2_with fail
        go_cut [12, 13, 14] (fun p a b wx => a = iv rn ∧ b = iv K ∧ TdFld T (v0 % 20) (v1 % 120) (n + 1) (frL v2 v3 (n + 1)) wA p wx)
        case first =>
          go_region_held3 (fun w' => w'.cell? ⟨w.heap.size + 1, 0, none⟩ = some (Ytkialkfplhhenaa.u8 v0) ∧ w'.cell? ⟨w.heap.size + 1, 1, none⟩ = some (Ytkialkfplhhenaa.u8 v1) ∧ w'.cell? ⟨w.heap.size + 1, 2, none⟩ = some (Ytkialkfplhhenaa.u8 v2) ∧ w'.cell? ⟨w.heap.size + 1, 3, none⟩ = some (Ytkialkfplhhenaa.u8 v3) ∧ Below wA.heap.size wA w')
            (first | ((with_reducible refine tdKeep4 HVW.out ?_); repeat (first | (with_reducible assumption) | (with_reducible refine Below.drew ?_) | (with_reducible refine bpush ?_ _) | (with_reducible refine bputGG ?_ (Nat.le_refl _) _))))
            (first | (go_split_ands; (with_reducible refine (HTE.out _ ?_).mono ?_); (focus exact HTW.out.below (by assumption)); rintro e w3 ⟨g1, c1, g2, c2, rfl, hs1, hs2, hbK⟩; have hb8 : Below wA.heap.size wA w3 := bstep (by assumption) hbK; (try have hy1 := fieldK (bblkG hbK HZa.out)); go_split_ands))
          all_goals
            go_wp2_with fail
            go_meet
            refine ⟨rfl, rfl, ?_⟩
            first
              | with_reducible exact tfA hb8 hs1 hs2
              | with_reducible exact tfB hb8 hs1 hs2 HRL.out (bblkG hbK HZa.out) (Nat.le_refl _)
        case rest =>
          obtain ⟨rfl, rfl, gf, g1, c1, g2, c2, rfl, hfr, hfs, hfi, hBc⟩ := hcut
          have hrv := HRV.out
          subst hrv
          have HT3 := Lib.hid (TdInv.below HTI.out hBc)
          have HFR := Lib.hid hfr; have HFS := Lib.hid hfs; have HFI := Lib.hid hfi
          have HS3 := Lib.hid (HS0.out.below HT3.out.B)
          have HB3 := Lib.hid (bstep HB0.out HT3.out.B)
          have HCR := Lib.hid (show Ints wc (.slice (some ⟨w1.heap.size, 0, none⟩) 2 2) k4R from slice_row (enc := encI) (xs := k4R) (fun _ => rfl) (bblkG HT3.out.B HRK.out) rfl (by decide))
          refine (show ∀ (a : _) (w : _), Code.wp Try.prog _ _ a w → _ from by assumption) _ _ (tdry_rest HSL.out HSV.out HCK.out HFD.out HN2.out hrl HK.out HCT.out hT4 hC4 HT3.out HFR.out HFS.out HFI.out HS3.out HB3.out HCR.out)
end Go.Proofs.Ytkialkfplhhenaa
