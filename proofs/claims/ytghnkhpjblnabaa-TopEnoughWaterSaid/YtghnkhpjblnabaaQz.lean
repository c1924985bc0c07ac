/- TopEnoughWater: the walk. -/
import Derived.Test.YtghnkhpjblnabaaQy
import Derived.Deep.RegionLaw
import Derived.Deep.CutBlock
import Derived.Deep.DeepCutAuto
namespace Go.Proofs.Ytghnkhpjblnabaa
open Go Go.RowKit Go.Shelf
attribute [local go_sem] Oper.semAt_some
attribute [local go_sem ↓] Go.wp_at_zero Go.wp_at_succ

set_option maxRecDepth 20000 in
set_option maxHeartbeats 12800000 in
theorem enough_any (m0 m1 m2 m3 v0 v1 v2 : Int) (fv : Value) (V : List (Int × Int)) (w : World) (h0 : 0 ≤ m0 ∧ m0 ≤ 255) (h1 : 0 ≤ m1 ∧ m1 ≤ 255) (h2 : 0 ≤ m2 ∧ m2 ≤ 255) (h3 : 0 ≤ m3 ∧ m3 ≤ 255) (hv0 : 0 ≤ v0 ∧ v0 ≤ 255) (hv1 : 0 ≤ v1 ∧ v1 ≤ 255)
    (hV : ∀ p ∈ V, (0 ≤ p.1 ∧ p.1 ≤ 255) ∧ (0 ≤ p.2 ∧ p.2 ≤ 255)) (hf : SliceU enc2 2 w fv V) :
    Calls Try.prog 3 #[.agg #[u8 m0, u8 m1, u8 m2, u8 m3, fv], .agg #[u8 v0, u8 v1, u8 v2]] w fun e w' => e = .returned (.bool true) ∧ Below w.heap.size w w' := by
  have hCC := fb_valid h0 h1 h2 h3 hV
  have hFF := fun W (h : SliceU enc2 2 W fv V) => fbMade_any m0 m1 m2 m3 fv V W h0 h1 h2 h3 hV h
  have hkk : (fbMl m0 m1 m2 m3).k = 1 + m0 % 4 := rfl
  have hFl : (fbL V (fbN V)).length ≤ 12 := by rw [fbL_len]; exact (fbN_bd V).2
  generalize fbMl m0 m1 m2 m3 = m at *
  generalize fbL V (fbN V) = F at *
  have HFB := Lib.hid hFF; clear hFF
  have hC0 := zero_chk hCC
  have hl0 : 0 < F.length := (sChk_zero hCC).2.2.1
  clear hCC
  obtain ⟨kk, t, bl, bh, h, nl, nh⟩ := m
  dsimp only at hC0 hkk
  obtain ⟨K, rfl⟩ : ∃ K : Nat, kk = (K : Int) := ⟨kk.toNat, by omega⟩
  have hK : 1 ≤ K ∧ K ≤ 4 := by omega
  obtain ⟨cl, hcl⟩ : ∃ cl : Nat, (cl : Int) = v0 % 11 := ⟨(v0 % 11).toNat, by omega⟩
  obtain ⟨lm, hlm⟩ : ∃ lm : Nat, (lm : Int) = v1 % 10 := ⟨(v1 % 10).toNat, by omega⟩
  have hcl10 : cl ≤ 10 := by omega
  have hlm9 : lm ≤ 9 := by omega
  have et0 : v0.tmod 11 = (cl : Int) := by rw [Int.tmod_eq_emod_of_nonneg hv0.1, hcl]
  have et1 : v1.tmod 10 = (lm : Int) := by rw [Int.tmod_eq_emod_of_nonneg hv1.1, hlm]
  have HDN : Hid (∀ (w : World) (fv : Value), SliceOf encS 2 w fv F → Calls Try.prog 9 #[.agg #[iv K, iv 0, iv bl, iv bh, iv h, iv nl, iv nh], fv, iv cl] w (DoneEnd (List.replicate F.length (K : Int)) cl w)) := fun w fv hs => by
    have := Done_good ⟨K, 0, bl, bh, h, nl, nh⟩ F fv cl w hC0 (by omega) hs
    rw [busy_zero] at this; exact this
  have HDZ := Lib.hid (fun (n err : Int) hd => done_zero (K := K) (L := F.length) (cl := cl) (n := n) (err := err) hK.1 hd)
  clear hC0 hkk hcl hlm
  obtain ⟨w0, hw0⟩ : ∃ W : World, ((w.alloc (.cells #[u8 m0, u8 m1, u8 m2, u8 m3, fv] 25)).alloc (.cells #[u8 v0, u8 v1, u8 v2] 26)) = W := ⟨_, rfl⟩
  have HB0 : Hid (Below w.heap.size w w0) := by rw [← hw0]; exact (by repeat (first | exact Below.refl _ _ | refine Below.drew ?_ | refine bpush ?_ _ | refine bput ?_ (by simp) _ | (refine bstep ?_ (by assumption))))
  have hz0 : w0.heap.size = w.heap.size + 2 := by rw [← hw0]; simp
  have HR1 : Hid (w0.heap[w.heap.size + 1]? = some (.cells #[u8 v0, u8 v1, u8 v2] 26 (0, 0))) := by rw [← hw0]; exact heapA (by simp)
  have HF0 := Lib.hid (SliceU.below hf HB0.out)
  have HZ0 := Lib.hid hz0
  have HW0 := Lib.hid hw0
  clear hw0 hf hz0
  go_enter Try.func3, Try.ntmps3
  go_wp2_with fail
  rw [HW0.out]
  refine (HFB.out _ HF0.out).mono ?_
  rintro e w1 ⟨flv, rfl, ho1, hb1⟩
  obtain ⟨lg, lc, rfl⟩ := owns_addrQ ho1 hl0
  have hz0 := HZ0.out
  have HSF := Lib.hid (Owns.slice ho1 encS_len (by omega))
  have HB1 := Lib.hid (bstep HB0.out hb1)
  have HV1 := Lib.hid ((hb1.block (w.heap.size + 1) (by omega)).trans HR1.out)
  have hz1 : w.heap.size + 2 ≤ w1.heap.size := by have := hb1.size; omega
  have vc0 : w1.cell? ⟨w.heap.size + 1, 0, none⟩ = some (u8 v0) := by rw [cell_of_row _ _ _ _ _ _ HV1.out]; rfl
  have vc1 : w1.cell? ⟨w.heap.size + 1, 1, none⟩ = some (u8 v1) := by rw [cell_of_row _ _ _ _ _ _ HV1.out]; rfl
  have hl1 : w.heap.size + 1 < w1.heap.size := by omega
  clear ho1 hb1 hz0
  simp only [encMl]
  go_wp2_with fail
  obtain ⟨Wm, hWm⟩ : ∃ W : World, (w1.alloc (.cells #[.int .i64 K, .int .i64 0, .int .i64 bl, .int .i64 bh, .int .i64 h, .int .i64 nl, .int .i64 nh] 30)) = W := ⟨_, rfl⟩
  rw [hWm]
  have hBm : Below w1.heap.size w1 Wm := by rw [← hWm]; exact bpush (Below.refl _ _) _
  have HMI : Hid (Wm.heap[w1.heap.size]? = some (.cells #[iv K, iv 0, iv bl, iv bh, iv h, iv nl, iv nh] 30 (0, 0))) := by rw [← hWm]; exact heap_new _ _ _
  have HBm := Lib.hid (bstep HB1.out hBm)
  have HSm := Lib.hid (SliceOf.below HSF.out hBm)
  have vm0 := kcellQ hBm vc0
  have vm1 := kcellQ hBm vc1
  clear hWm hBm vc0 vc1 hl1 HW0 HB0 HZ0 HR1 HV1 HF0
  have hv0l := hv0.1; have hv0h := hv0.2; have hv1l := hv1.1; have hv1h := hv1.2
  obtain ⟨i0, hi, hz0, hz1, hz2⟩ := info_parts infoC
  have HI := Lib.hid hi; have HZ0 := Lib.hid hz0; have HZ1 := Lib.hid hz1; have HZ2 := Lib.hid hz2
  clear hi hz0 hz1 hz2
  go_region
  go_wp2_with fail
  obtain ⟨Wl, hWl⟩ : ∃ W : World, Wm.alloc (.cells #[.int .i64 0] 3) = W := ⟨_, rfl⟩
  have hzl : Wm.heap.size + 1 = Wl.heap.size := by rw [← hWl]; simp
  have hBl : Below Wm.heap.size Wm Wl := by rw [← hWl]; exact bpush (Below.refl _ _) _
  have HRK : Hid (Wl.heap[Wm.heap.size]? = some (.cells #[iv 0] 3 (0, 0))) := by rw [← hWl]; exact heap_new _ _ _
  rw [hWl, hzl]
  have HBl := Lib.hid (bstep HBm.out hBl)
  have HMl := Lib.hid (bblkQ hBl HMI.out)
  have HSl := Lib.hid (SliceOf.below HSm.out hBl)
  have HZL := Lib.hid hzl
  clear hWl hzl hBl vm0 vm1 HMI HSm HBm
  go_loopw [10] (fun i wr => ∃ k : Nat, k ≤ cl ∧ i = iv k ∧ Hid (OnNext (onesC k) Wl (.slice (some ⟨Wm.heap.size, 0, none⟩) 1 1) wr)) (fun i _ => cl - (intOf i).toNat)
  case atStart => exact ⟨0, Nat.zero_le _, rfl, .slice none 0 0, (bpush (Below.refl _ _) _).drew, by simp, heap_new _ _ _, fun _ => rfl, Owns.nil _ _ _ _ _⟩
  case round =>
    obtain ⟨k, hk, rfl, HN⟩ := hrel
    obtain ⟨tv, hinv⟩ := HN.out
    have HV := Lib.hid hinv
    have HO := Lib.hid hinv.O
    have hS := hinv.S
    clear hinv
    by_cases hlt : k < cl
    · have z7 := Lib.hid HV.out.h
      have d0 : wr.cell? ⟨Wl.heap.size, 0, none⟩ = some tv := by rw [cell_of_row _ _ _ _ _ _ HV.out.h]; rfl
      have d1 : wr.frozen? ⟨Wl.heap.size, 0, none⟩ = false := by unfold World.frozen?; rw [HV.out.h]; rfl
      have z0 : wr.drew.cell? ⟨Wl.heap.size, 0, none⟩ = some tv := d0
      have z1 : wr.drew.frozen? ⟨Wl.heap.size, 0, none⟩ = false := d1
      have z4 : Below Wl.heap.size Wl wr.drew := HV.out.B.drew
      have z6 : Wl.heap.size + 1 ≤ wr.drew.heap.size := hS
      have z9 : Wl.heap.size < wr.heap.size := hS
      have z8 : Hid (wr.drew.heap[Wl.heap.size]? = some (.cells #[tv, .slice (some ⟨Wm.heap.size, 0, none⟩) 1 1] 37 (0, 0))) := HV.out.h
      have hO7 : Hid (Owns encC 4 40 (Wl.heap.size + 1) wr.drew tv (onesC k)) := HO.out
      have hbb2 : Hid ((onesC k).length + 1 ≤ maxLen ∧ ((onesC k).length + 1) * 32 ≤ 140737488355328) := by simp only [Hid, onesC, List.length_replicate]; unfold maxLen; omega
      go_upto_block 1 with (fail)
      go_cut [] (fun wx => OnNext (onesC (k + 1)) Wl (.slice (some ⟨Wm.heap.size, 0, none⟩) 1 1) wx)
      case first =>
        go_wp2_with fail
        go_region_law (first | (go_simp; go_at_call 6; refine (firSpan_any _ _ _).mono ?_; rintro e w1' ⟨rfl, hb1⟩; have nm0 : w1'.cell? ⟨Wl.heap.size, 0, none⟩ = some tv := kcellQ hb1 (by assumption); have nm1 : w1'.frozen? ⟨Wl.heap.size, 0, none⟩ = false := kfrozenQ hb1 (v := tv) (by assumption) (by assumption); have m4 : Below Wl.heap.size Wl w1' := bup (by assumption) (Nat.le_of_succ_le (by assumption)) hb1; have m6 : Wl.heap.size + 1 ≤ w1'.heap.size := Nat.le_trans (by assumption) hb1.size; have m8 : Wl.heap.size < w1'.heap.size := m6; have m7 : Hid (w1'.heap[Wl.heap.size]? = some (.cells #[tv, .slice (some ⟨Wm.heap.size, 0, none⟩) 1 1] 37 (0, 0))) := bblkQ hb1 (Hid.out (by assumption)); have m5 : Hid (Owns encC 4 40 (Wl.heap.size + 1) w1' tv (onesC k)) := Owns.kept (Hid.out (by assumption)) hb1) | (refine S_append1 oneC (by rfl) _ _ 35 (by rfl) Try.underlying35 HI.out HZ0.out HZ1.out HZ2.out rfl Nat.four_pos' encC_len (encC_one _) (by rfl) (by rfl) (Owns.kept (Hid.out (by assumption)) (bpush (Below.refl _ _) _)) (encC_cell (heap_new _ _ _)) hbb2.out (Nat.le_trans (by assumption) (bpush (Below.refl _ _) _).size) ?_; intro g' cap w3 hown hbe hg; have n0 : w3.cell? ⟨Wl.heap.size, 0, none⟩ = some tv := (hbe.cell (p := ⟨Wl.heap.size, 0, none⟩) (Nat.lt_succ_self _)).trans (kcellQ (bpush (Below.refl _ _) _) (by assumption)); have n1 : w3.frozen? ⟨Wl.heap.size, 0, none⟩ = false := (hbe.frozen (p := ⟨Wl.heap.size, 0, none⟩) (Nat.lt_succ_self _)).trans (kfrozenQ (bpush (Below.refl _ _) _) (v := tv) (by assumption) (by assumption)); have n4 : Below Wl.heap.size Wl w3 := (bup (by assumption) (Nat.le_of_succ_le (by assumption)) (bpush (Below.refl _ _) _)).trans (hbe.mono (Nat.le_succ _)); have n7 : Hid (w3.heap[Wl.heap.size]? = some (.cells #[tv, .slice (some ⟨Wm.heap.size, 0, none⟩) 1 1] 37 (0, 0))) := (hbe.block Wl.heap.size (Nat.lt_succ_self _)).trans (bblkQ (bpush (Below.refl _ _) _) (Hid.out (by assumption)))))
        all_goals
          go_wp2_with fail
          go_meet
          rw [onesC_succ]
          exact on_done HV.out hown n4 n7.out
      case rest =>
        have HC2 := Lib.hid hcut; clear hcut
        clear d0 d1 z0 z1 z4 z6
        go_wp2_with fail
        go_roundw
        case rel => exact ⟨k + 1, by omega, by go_num, HC2.out⟩
        case measure => simp [intOf]; omega
    · obtain rfl : k = cl := by omega
      have HDAY := Lib.hid (fun (W : World) (hb : Below wr.heap.size wr W) => onesDay_any k (Wl.heap.size + 1) Wm.heap.size hcl10 tv W HV.out.N (Owns.kept HO.out hb) (slice_row (enc := encI) (xs := [0]) (fun _ => rfl) (bblkQ hb ((HV.out.B.block _ (Array.getElem?_eq_some_iff.1 HRK.out).1).trans HRK.out)) rfl (by decide)))
      have HEN := Lib.hid (fun (W : World) (ca : Option Addr) (g cc rc : Nat) h1 h2 => onesEnds_any k K g cc rc ca hcl10 hK W h1 h2)
      have HFE := Lib.hid (fun (W : World) (ca : Option Addr) (g cc rc : Nat) (o : List Nat) ho h1 h2 => onesFew_any k lm g cc rc ca hcl10 hlm9 W h1 h2 o ho)
      obtain ⟨due, hdue⟩ : ∃ due : Nat, (k + K - 1) / K = due := ⟨_, rfl⟩
      obtain ⟨fw, hfw⟩ : ∃ fw : Nat, max 1 ((k + lm) / (lm + 1)) = fw := ⟨_, rfl⟩
      rw [hdue] at HEN HDZ
      rw [hfw] at HFE
      obtain ⟨qq, hqq⟩ : ∃ qq : Nat, (k + lm) / (lm + 1) = qq := ⟨_, rfl⟩
      rw [hqq] at hfw
      have HFW := Lib.hid hfw
      have HQB : Hid (qq ≤ 1000) := by unfold Hid; rw [← hqq]; exact Nat.le_trans (Nat.div_le_self _ _) (by omega)
      have hedv : ((k : Int) + (K : Int) - 1).tdiv (K : Int) = (due : Int) := by
        rw [Int.tdiv_eq_ediv_of_nonneg (by omega), ← hdue, Int.natCast_ediv]; congr 1; omega
      have hedw : ((k : Int) + (lm : Int)).tdiv ((lm : Int) + 1) = (qq : Int) := by
        rw [Int.tdiv_eq_ediv_of_nonneg (by omega), ← hqq, Int.natCast_ediv]; congr 1
      have hdu : due ≤ 10 := by rw [← hdue]; exact Nat.le_trans (Nat.div_le_div_right (c := K) (show k + K - 1 ≤ 10 * K by have := Nat.mul_le_mul_left 10 hK.1; omega)) (by rw [Nat.mul_div_cancel _ (by omega)]; exact Nat.le_refl _)
      have z7 := Lib.hid HV.out.h
      have d0 : wr.cell? ⟨Wl.heap.size, 0, none⟩ = some tv := by rw [cell_of_row _ _ _ _ _ _ HV.out.h]; rfl
      have d1 : wr.cell? ⟨Wl.heap.size, 1, none⟩ = some (.slice (some ⟨Wm.heap.size, 0, none⟩) 1 1) := by rw [cell_of_row _ _ _ _ _ _ HV.out.h]; rfl
      have hml := (HV.out.B.block _ (Array.getElem?_eq_some_iff.1 HMl.out).1).trans HMl.out
      have e0 : wr.cell? ⟨w1.heap.size, 0, none⟩ = some (iv K) := by rw [cell_of_row _ _ _ _ _ _ hml]; rfl
      have HML := Lib.hid hml
      have HSLr := Lib.hid (SliceOf.below HSl.out HV.out.B)
      have HBr := Lib.hid (bstep HBl.out HV.out.B)
      have hb0 : Below wr.heap.size wr wr := Below.refl _ _
      have hq0 := lt_of_cell d0; have hq1 := lt_of_cell e0
      obtain ⟨ta, tn, tc, rfl⟩ : ∃ ta tn tc, tv = .slice ta tn tc := by
        obtain ⟨a, c, h⟩ := HO.out.len
        exact ⟨a, _, c, h⟩
      clear hml hdue hS hlt hz1 hfw hqq
      go_wp2_with fail
      go_cut [11, 12] (fun s11 s12 wx => ∃ g, s11 = .pointer (some ⟨g, 0, none⟩) ∧ s12 = iv 0 ∧ Hid (wx.cell? ⟨g, 0, none⟩ = some (iv due) ∧ wx.cell? ⟨g, 1, none⟩ = some (iv due)) ∧ Hid (∃ o, OrdC (onesC k) [0] (List.range (onesC k).length) o) ∧ Hid (Below wr.heap.size wr wx))
      case first =>
       go_region_held3 (fun w' => w'.cell? ⟨Wl.heap.size, 0, none⟩ = some (.slice ta tn tc) ∧ w'.cell? ⟨Wl.heap.size, 1, none⟩ = some (.slice (some ⟨Wm.heap.size, 0, none⟩) 1 1) ∧ w'.cell? ⟨w1.heap.size, 0, none⟩ = some (iv K) ∧ Below wr.heap.size wr w')
        (first | (go_split_ands; refine ⟨?_, ?_, ?_, ?_⟩ <;> first | assumption | exact kcellQ hbK (by assumption) | exact bstep (by assumption) hbK | exact kcellQ (bpush (Below.refl _ _) _) (by assumption) | exact bpush (by assumption) _ | exact cswapQ (by assumption) (by omega) | exact bswapQ (by assumption) (by omega)) | (go_split_ands; refine ⟨?_, ?_, ?_, ?_⟩ <;> first | exact cset2Q (by omega) (by assumption) | exact bput (p := ⟨wr.heap.size, 1, none⟩) (bput (p := ⟨wr.heap.size, 0, none⟩) (by assumption) (Nat.le_refl _) _) (Nat.le_refl _) _ | exact bput (p := ⟨wD.heap.size, 1, none⟩) (bput (p := ⟨wD.heap.size, 0, none⟩) (by assumption) (by dsimp only; omega) _) (by dsimp only; omega) _) | (refine ⟨?_, ?_, ?_, ?_⟩ <;> first | exact Below.drew (by assumption) | assumption))
        (first | (go_split_ands; (with_reducible refine (HDAY.out _ (by assumption)).mono ?_); rintro e wD ⟨ca', cc', g', rc', rfl, hcD, hrD, hbK⟩; have hqD := hbK.size; (try simp at hqD); (try have t0 : wD.cell? ⟨wr.heap.size, 0, none⟩ = some (iv 0) := kcellQ hbK (ncell0Q _ _ _ _)); (try have t1 : wD.cell? ⟨wr.heap.size, 1, none⟩ = some (iv 0) := kcellQ hbK (ncell1Q _ _ _ _)); (try have t2 : wD.frozen? ⟨wr.heap.size, 0, none⟩ = false := kfrozenQ hbK (ncell0Q _ _ _ _) (nfrozQ _ _ _ _ 0)); (try have t3 : wD.frozen? ⟨wr.heap.size, 1, none⟩ = false := kfrozenQ hbK (ncell1Q _ _ _ _) (nfrozQ _ _ _ _ 1)); have HCD := Lib.hid hcD; have HRD := Lib.hid hrD) | ((with_reducible refine (HEN.out _ _ _ _ _ (SliceOf.below HCD.out ?_) (SliceOf.below HRD.out ?_)).mono ?_); (focus (first | exact Below.refl _ _ | exact bpush (Below.refl _ _) _)); (focus (first | exact Below.refl _ _ | exact bpush (Below.refl _ _) _)); rintro e wE ⟨⟨o, hord⟩, rfl, hbK⟩; have hqE := hbK.size; (try simp at hqE); (try have u0 := kcellQ hbK t0); (try have u1 := kcellQ hbK t1); (try have u2 := kfrozenQ hbK t0 t2); (try have u3 := kfrozenQ hbK t1 t3); (try have x0 : wE.cell? ⟨wD.heap.size, 0, none⟩ = some (iv 0) := kcellQ hbK (ncell0Q _ _ _ _)); (try have x1 : wE.cell? ⟨wD.heap.size, 1, none⟩ = some (iv 0) := kcellQ hbK (ncell1Q _ _ _ _)); (try have x2 : wE.frozen? ⟨wD.heap.size, 0, none⟩ = false := kfrozenQ hbK (ncell0Q _ _ _ _) (nfrozQ _ _ _ _ 0)); (try have x3 : wE.frozen? ⟨wD.heap.size, 1, none⟩ = false := kfrozenQ hbK (ncell1Q _ _ _ _) (nfrozQ _ _ _ _ 1)); have HORD := Lib.hid hord))
       all_goals
        rename_i hHeld
        go_wp2_with fail
        go_meet
        refine ⟨_, rfl, rfl, ⟨?_, ?_⟩, ⟨_, HORD.out⟩, hHeld.2.2.2⟩
        · first | exact ncell0Q _ _ _ _ | go_simp
        · first | exact ncell1Q _ _ _ _ | go_simp
      case rest =>
        obtain ⟨g11, rfl, rfl, HG11, HOE, HBX⟩ := hcut
        clear d0 d1 e0 hb0 hq0 hq1
        have hbx := HBX.out
        have hmc := bblkQ hbx HML.out
        have a0 : wc.cell? ⟨w1.heap.size, 0, none⟩ = some (iv K) := by rw [cell_of_row _ _ _ _ _ _ hmc]; rfl
        have a1 : wc.cell? ⟨w1.heap.size, 1, none⟩ = some (iv 0) := by rw [cell_of_row _ _ _ _ _ _ hmc]; rfl
        have a2 : wc.cell? ⟨w1.heap.size, 2, none⟩ = some (iv bl) := by rw [cell_of_row _ _ _ _ _ _ hmc]; rfl
        have a3 : wc.cell? ⟨w1.heap.size, 3, none⟩ = some (iv bh) := by rw [cell_of_row _ _ _ _ _ _ hmc]; rfl
        have a4 : wc.cell? ⟨w1.heap.size, 4, none⟩ = some (iv h) := by rw [cell_of_row _ _ _ _ _ _ hmc]; rfl
        have a5 : wc.cell? ⟨w1.heap.size, 5, none⟩ = some (iv nl) := by rw [cell_of_row _ _ _ _ _ _ hmc]; rfl
        have a6 : wc.cell? ⟨w1.heap.size, 6, none⟩ = some (iv nh) := by rw [cell_of_row _ _ _ _ _ _ hmc]; rfl
        have hsl := SliceOf.below HSLr.out hbx
        have hb0 : Below wc.heap.size wc wc := Below.refl _ _
        have HFO := Lib.hid (fun (W : World) (hs : SliceOf encS 2 W (.slice (some ⟨lg, 0, none⟩) F.length lc) F) => firOwn_any F ⟨lg, 0, none⟩ lc W (by omega) hs)
        clear hbx hmc
        go_wp2_with fail
        go_cut [13, 14] (fun s13 s14 wx => ∃ n err, s13 = iv n ∧ s14 = iv err ∧ Hid ((due ≤ F.length → n = due ∧ err = 0) ∧ (F.length < due → n = 0 ∧ err = 7)) ∧ Hid (Below wc.heap.size wc wx))
        case first =>
          go_region_held3 (fun w' => w'.cell? ⟨w1.heap.size, 0, none⟩ = some (iv K) ∧ w'.cell? ⟨w1.heap.size, 1, none⟩ = some (iv 0) ∧ w'.cell? ⟨w1.heap.size, 2, none⟩ = some (iv bl) ∧ w'.cell? ⟨w1.heap.size, 3, none⟩ = some (iv bh) ∧ w'.cell? ⟨w1.heap.size, 4, none⟩ = some (iv h) ∧ w'.cell? ⟨w1.heap.size, 5, none⟩ = some (iv nl) ∧ w'.cell? ⟨w1.heap.size, 6, none⟩ = some (iv nh) ∧ SliceOf encS 2 w' (.slice (some ⟨lg, 0, none⟩) F.length lc) F ∧ Below wc.heap.size wc w')
            (first | (go_split_ands; refine ⟨?_, ?_, ?_, ?_, ?_, ?_, ?_, ?_, ?_⟩ <;> first | assumption | exact kcellQ hbK (by assumption) | exact bstep (by assumption) hbK | exact SliceOf.below (by assumption) hbK) | (refine ⟨?_, ?_, ?_, ?_, ?_, ?_, ?_, ?_, ?_⟩ <;> first | exact Below.drew (by assumption) | exact SliceOf.below (by assumption) ((Below.refl _ _).drew) | assumption))
            (first | (go_split_ands; (with_reducible refine (HFO.out _ (by assumption)).mono ?_); rintro e wO ⟨vo, rfl, hoO, hbK⟩; have HSO := Lib.hid (Owns.slice hoO encS_len (by omega))) | ((with_reducible refine (HDN.out _ _ HSO.out).mono ?_); rintro e wD ⟨n, err, rfl, hd, hbK⟩; have HDR := Lib.hid (HDZ.out _ _ hd)))
          all_goals
            rename_i hHeld
            go_wp2_with fail
            go_meet
            exact ⟨_, _, rfl, rfl, HDR.out, hHeld.2.2.2.2.2.2.2.2⟩
        case rest =>
          obtain ⟨n, err, rfl, rfl, HDR, HBY⟩ := hcut
          clear a0 a1 a2 a3 a4 a5 a6 hsl hb0
          have hbx := bstep HBX.out HBY.out
          have hmc := bblkQ hbx HML.out
          have hdc := bblkQ hbx z7.out
          have c0 : wc.cell? ⟨Wl.heap.size, 0, none⟩ = some (.slice ta tn tc) := by rw [cell_of_row _ _ _ _ _ _ hdc]; rfl
          have c1 : wc.cell? ⟨Wl.heap.size, 1, none⟩ = some (.slice (some ⟨Wm.heap.size, 0, none⟩) 1 1) := by rw [cell_of_row _ _ _ _ _ _ hdc]; rfl
          have HG2 : Hid (wc.cell? ⟨g11, 0, none⟩ = some (iv due) ∧ wc.cell? ⟨g11, 1, none⟩ = some (iv due)) := ⟨kcellQ HBY.out HG11.out.1, kcellQ HBY.out HG11.out.2⟩
          have HM2 := Lib.hid hmc; have HB2 := Lib.hid hbx
          obtain ⟨o, hord⟩ := HOE.out
          have HFE2 := Lib.hid (fun (W : World) (ca : Option Addr) (g cc rc : Nat) h1 h2 => HFE.out W ca g cc rc o hord h1 h2)
          clear hbx hmc hdc hord
          go_wp2_with fail
          refine (HDAY.out _ HB2.out).mono ?_
          rintro e wD ⟨ca2, cc2, g2, rc2, rfl, hcD, hrD, hbD⟩
          have HCD := Lib.hid hcD; have HRD := Lib.hid hrD; have HBD := Lib.hid (bstep HB2.out hbD)
          have HG3 : Hid (wD.cell? ⟨g11, 0, none⟩ = some (iv due) ∧ wD.cell? ⟨g11, 1, none⟩ = some (iv due)) := ⟨kcellQ hbD HG2.out.1, kcellQ hbD HG2.out.2⟩
          have HM3 := Lib.hid (bblkQ hbD HM2.out)
          clear hcD hrD hbD c0 c1
          go_wp2_with fail
          refine (HFE2.out _ _ _ _ _ HCD.out HRD.out).mono ?_
          rintro e wF ⟨rfl, hbF⟩
          obtain ⟨s0, s1⟩ := HG3.out
          have s0 := kcellQ hbF s0
          have s1 := kcellQ hbF s1
          have hmF := bblkQ hbF HM3.out
          have m0' : wF.cell? ⟨w1.heap.size, 0, none⟩ = some (iv K) := by rw [cell_of_row _ _ _ _ _ _ hmF]; rfl
          have HBF := Lib.hid (bstep HBr.out (bstep HBD.out hbF))
          have hk1 : ¬ (K : Int) = 0 := by omega
          have hk2 : ((K : Int) == 0) = false := by simpa using hk1
          clear hbF hmF
          go_wp2_with fail
          have hln : ¬ ((lm : Int) + 1) = 0 := by omega
          have hln2 : (((lm : Int) + 1) == 0) = false := by simpa using hln
          have hwl : IntKind.i64.wrap ((lm : Int) + 1) = (lm : Int) + 1 := IntWalk.i64_in _ ⟨by omega, by omega⟩
          have hwk : IntKind.i64.wrap ((k : Int) + (lm : Int)) = (k : Int) + (lm : Int) := IntWalk.i64_in _ ⟨by omega, by omega⟩
          have hff := HFW.out
          have hb0 : Below wF.heap.size wF wF := Below.refl _ _
          have hqb : qq ≤ 1000 := HQB.out
          have hwq : IntKind.i64.wrap (qq : Int) = (qq : Int) := IntWalk.i64_in _ ⟨by omega, by omega⟩
          have hmx : max (1 : Int) (qq : Int) = (fw : Int) := by omega
          have hne : ((fw : Int) != (fw : Int)) = false := by simp
          go_region_held3 (fun w' => w'.cell? ⟨g11, 0, none⟩ = some (iv due) ∧ w'.cell? ⟨g11, 1, none⟩ = some (iv due) ∧ Below wF.heap.size wF w')
            (first | (go_split_ands; refine ⟨?_, ?_, ?_⟩ <;> first | assumption | exact kcellQ hbK (by assumption) | exact bstep (by assumption) hbK) | (refine ⟨?_, ?_, ?_⟩ <;> first | exact Below.drew (by assumption) | assumption))
            (first | ((with_reducible refine (firSpan_any _ _ _).mono ?_); rintro e wS ⟨rfl, hbK⟩))
          all_goals
            rename_i hHeld
            have HBS := Lib.hid (bstep HBF.out hHeld.2.2)
            clear hHeld hbK hb0 s0 s1 m0'
            by_cases hdl : F.length < due
            · obtain ⟨rfl, rfl⟩ := HDR.out.2 hdl
              go_wp2_with fail
              refine (known04_any _).mono ?_
              rintro e wK ⟨rfl, hbK⟩
              have HBK := Lib.hid (bstep HBS.out hbK); clear hbK
              go_wp2_with fail
              go_ret
              exact ⟨rfl, HBK.out⟩
            · obtain ⟨rfl, rfl⟩ := HDR.out.1 (by omega)
              go_wp2_with fail
              refine (known04_any _).mono ?_
              rintro e wK ⟨rfl, hbK⟩
              have HBK := Lib.hid (bstep HBS.out hbK); clear hbK
              go_wp2_with fail
              go_ret
              exact ⟨rfl, HBK.out⟩
end Go.Proofs.Ytghnkhpjblnabaa
