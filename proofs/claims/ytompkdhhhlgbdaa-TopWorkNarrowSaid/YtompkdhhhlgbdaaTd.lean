/- TopWorkNarrow's walk. -/
import Derived.Test.YtompkdhhhlgbdaaSo
import Derived.Test.YtompkdhhhlgbdaaTc
namespace Go.Proofs.Ytompkdhhhlgbdaa
open Go Go.RowKit Go.Shelf
attribute [local go_sem ↓] Go.wp_at_zero Go.wp_at_succ

set_option maxRecDepth 20000 in
set_option maxHeartbeats 12800000 in
theorem narrow_any (b : Nat → Int) (m0 m1 m2 m3 v0 : Int) (fv : Value) (V : List (Int × Int)) (w : World) (hb : ∀ i, 0 ≤ b i ∧ b i ≤ 255) (h0 : 0 ≤ m0 ∧ m0 ≤ 255) (h1 : 0 ≤ m1 ∧ m1 ≤ 255) (h2 : 0 ≤ m2 ∧ m2 ≤ 255) (h3 : 0 ≤ m3 ∧ m3 ≤ 255) (hv0 : 0 ≤ v0 ∧ v0 ≤ 255) (hV : ∀ p ∈ V, (0 ≤ p.1 ∧ p.1 ≤ 255) ∧ (0 ≤ p.2 ∧ p.2 ≤ 255)) (hf : SliceU enc2 2 w fv V) :
    Calls Try.prog 4 #[.agg (fyCells b), .agg #[u8 m0, u8 m1, u8 m2, u8 m3, fv], u8 v0] w fun e w' => e = .returned (.bool true) ∧ Below w.heap.size w w' := by
  have HBB := Lib.hid hb
  have hCC := fb_valid h0 h1 h2 h3 hV
  have hFF := fun W (h : SliceU enc2 2 W fv V) => fbMade_any m0 m1 m2 m3 fv V W h0 h1 h2 h3 hV h
  have hFl : (fbL V (fbN V)).length ≤ 12 := by rw [fbL_len]; exact (fbN_bd V).2
  generalize fbMl m0 m1 m2 m3 = m at *
  generalize fbL V (fbN V) = F at *
  have HFB := Lib.hid hFF; clear hFF
  have hC1 := one_chk hCC
  have hl0 : 0 < F.length := (sChk_zero hCC).2.2.1
  clear hCC
  obtain ⟨kk, t, bl, bh, h, nl, nh⟩ := m
  dsimp only at hC1
  have hVT : [fyT b 0, fyT b 1, fyT b 2].all vTrack = true := by simp [fyT_valid hb]
  have hfh : 100 ≤ (fyT b 1).fh ∧ (fyT b 1).fh ≤ 400 := by
    have x4 := hb 4; have x5 := hb 5
    show 100 ≤ 100 + b 4 + 2 * (b 5 % 20) ∧ 100 + b 4 + 2 * (b 5 % 20) ≤ 400
    omega
  obtain ⟨hv0, hv0'⟩ := hv0
  have hr : 0 ≤ v0 % 30 ∧ v0 % 30 ≤ 29 := by omega
  obtain ⟨sn, pn, e1, e2, e3, q1, q2, q3⟩ := below_nil (lim := (fyT b 1).fh - v0 % 30) hVT (by omega)
  have HBE : Hid (∀ (w : World) (tv mv : Value), SliceOf encT 4 w tv [fyT b 0, fyT b 1, fyT b 2] → SliceOf encM 4 w mv [] → Calls Try.prog 13 #[.agg #[tv, mv], iv 1, iv ((fyT b 1).fh - v0 % 30)] w fun e w' => e = .returned (.tuple #[iv sn, iv pn, iv 0]) ∧ Below w.heap.size w w') := fun w tv mv ht hm => by
    have := Below_any [fyT b 0, fyT b 1, fyT b 2] [] tv mv 1 ((fyT b 1).fh - v0 % 30) w ht hm
    rw [e1, e2, e3] at this; exact this
  have HDN : Hid (∀ (w : World) (fv : Value), SliceOf encS 2 w fv F → Calls Try.prog 14 #[.agg #[iv 1, iv t, iv bl, iv bh, iv h, iv nl, iv nh], fv, iv sn] w (DoneEnd (busy ⟨1, t, bl, bh, h, nl, nh⟩ nl F) sn w)) := fun w fv hs =>
    Done_good ⟨1, t, bl, bh, h, nl, nh⟩ F fv sn w hC1 (by omega) hs
  have HMO : Hid (∀ (j : Nat) (w : World) (fv : Value), 1 ≤ j → j ≤ F.length → SliceOf encS 2 w fv (F.take j) → Calls Try.prog 15 #[.agg #[iv 1, iv t, iv bl, iv bh, iv h, iv nl, iv nh], fv] w (IntsErr (mostL ⟨1, t, bl, bh, h, nl, nh⟩ (F.take j)) 0 w)) := fun j w fv h1 h2 hs => by
    have := Most_any ⟨1, t, bl, bh, h, nl, nh⟩ (F.take j) fv w hs
    rw [(most_pre hC1 rfl h1 h2).1] at this; exact this
  have HMP := Lib.hid (fun (j : Nat) (h1 : 1 ≤ j) (h2 : j ≤ F.length) => (most_pre hC1 rfl h1 h2).2)
  have HD1 := Lib.hid (fun (n err : Int) h => done_one (n := n) (err := err) (sn := sn) hC1 rfl h)
  have HQ := Lib.hid q3
  have HVT := Lib.hid hVT
  have HLE := Lib.hid (show pn ≤ sn from q1)
  clear e1 e2 e3 q3 hVT hC1 q1
  obtain ⟨w0, hw0⟩ : ∃ W : World, ((w.alloc (.cells (fyCells b) 25)).alloc (.cells #[u8 m0, u8 m1, u8 m2, u8 m3, fv] 28)) = W := ⟨_, rfl⟩
  have HB0 : Hid (Below w.heap.size w w0) := by rw [← hw0]; exact (by repeat (first | exact Below.refl _ _ | refine Below.drew ?_ | refine bpush ?_ _ | refine bput ?_ (by simp) _ | (refine bstep ?_ (by assumption))))
  have hz0 : w0.heap.size = w.heap.size + 2 := by rw [← hw0]; simp
  have HR1 : Hid (w0.heap[w.heap.size + 1]? = some (.cells #[u8 m0, u8 m1, u8 m2, u8 m3, fv] 28 (0, 0))) := by rw [← hw0]; exact heapA (by simp)
  have HF0 := Lib.hid (SliceU.below hf HB0.out)
  have HZ0 := Lib.hid hz0
  simp only [fyCells] at hw0 ⊢
  have HW0 := Lib.hid hw0
  clear hw0 hf hz0
  go_enter Try.func4, Try.ntmps4
  go_wp2_with fail
  rw [HW0.out]
  refine (fyMade_any b _ HBB.out).mono ?_
  rintro e w1 ⟨tv, rfl, ho1, hb1⟩
  obtain ⟨tg, tc, rfl⟩ := owns_addr ho1 (by simp)
  have hz0 := HZ0.out
  have HS1 := Lib.hid (Owns.slice ho1 encT_len (by simp))
  have hz1 := hb1.size
  have x1 := (hb1.block (w.heap.size + 1) (by omega)).trans HR1.out
  have HF1 := Lib.hid (SliceU.below HF0.out hb1)
  have HB1 := Lib.hid (bstep HB0.out hb1)
  have c0 : w1.cell? ⟨w.heap.size + 1, 0, none⟩ = some (u8 m0) := by rw [cell_of_row _ _ _ _ _ _ x1]; rfl
  have c1 : w1.cell? ⟨w.heap.size + 1, 1, none⟩ = some (u8 m1) := by rw [cell_of_row _ _ _ _ _ _ x1]; rfl
  have c2 : w1.cell? ⟨w.heap.size + 1, 2, none⟩ = some (u8 m2) := by rw [cell_of_row _ _ _ _ _ _ x1]; rfl
  have c3 : w1.cell? ⟨w.heap.size + 1, 3, none⟩ = some (u8 m3) := by rw [cell_of_row _ _ _ _ _ _ x1]; rfl
  have c4 : w1.cell? ⟨w.heap.size + 1, 4, none⟩ = some fv := by rw [cell_of_row _ _ _ _ _ _ x1]; rfl
  have q1 : w.heap.size + 1 < w1.heap.size := by omega
  clear ho1 hb1 x1 hz1 hz0 hb h0 h1 h2 h3 hV
  go_wp2_with fail
  refine (HFB.out _ (SliceU.below HF1.out (bpush (Below.refl _ _) _))).mono ?_
  rintro e w2 ⟨lv, rfl, ho2, hb2⟩
  obtain ⟨lg, lc, rfl, hcap⟩ := owns_addr2 ho2 hl0
  simp only [encMl]
  have HC7 : Hid ((w1.alloc (.cells #[.slice (some ⟨tg, 0, none⟩) 3 tc, .slice none 0 0] 33)).heap[w1.heap.size]? = some (.cells #[.slice (some ⟨tg, 0, none⟩) 3 tc, .slice none 0 0] 33 (0, 0))) := heap_new _ _ _
  have hbA : Below w1.heap.size w1 w2 := bstep (bpush (Below.refl _ _) _) hb2
  have hzA : w1.heap.size < w2.heap.size := Nat.lt_of_lt_of_le (by simp) hb2.size
  have HC72 := Lib.hid ((hb2.block w1.heap.size (by simp)).trans HC7.out)
  have HS2 := Lib.hid (SliceOf.below HS1.out hbA)
  have HB2 := Lib.hid (bstep HB1.out hbA)
  have HSL := Lib.hid (Owns.slice ho2 encS_len (by omega))
  clear ho2 hb2 hbA c0 c1 c2 c3 c4
  have d0 : w2.cell? ⟨w1.heap.size, 0, none⟩ = some (.slice (some ⟨tg, 0, none⟩) 3 tc) := by rw [cell_of_row _ _ _ _ _ _ HC72.out]; rfl
  have d1 : w2.cell? ⟨w1.heap.size, 1, none⟩ = some (.slice none 0 0) := by rw [cell_of_row _ _ _ _ _ _ HC72.out]; rfl
  obtain ⟨-, d2⟩ := sl_cellsT (k := 1) HS2.out rfl
  have htg : tg < w2.heap.size := lt_of_cell d2
  generalize hx : (fyT b 1).fh = fh at *
  have p0 : v0.tmod 30 = v0 % 30 := Int.tmod_eq_emod_of_nonneg hv0
  generalize v0 % 30 = r0 at *
  obtain ⟨hr, hr'⟩ := hr; obtain ⟨hfh, hfh'⟩ := hfh
  have g0 : IntKind.i64.wrap v0 = v0 := IntWalk.i64_in _ ⟨by omega, by omega⟩
  have g1 : IntKind.i64.wrap r0 = r0 := IntWalk.i64_in _ ⟨by omega, by omega⟩
  have g2 : IntKind.i64.wrap (fh - r0) = fh - r0 := IntWalk.i64_in _ ⟨by omega, by omega⟩
  have g3 : ¬ (fh - r0 < 0) := by omega
  have g4 : 0 < fh - r0 := by omega
  go_wp2_with fail
  obtain ⟨Wn, hWn⟩ : ∃ Wn : World, w2.alloc (.cells #[.int .i64 1, .int .i64 t, .int .i64 bl, .int .i64 bh, .int .i64 h, .int .i64 nl, .int .i64 nh] 38) = Wn := ⟨_, rfl⟩
  rw [hWn]
  have hbN : Below w2.heap.size w2 Wn := by rw [← hWn]; exact (by repeat (first | exact Below.refl _ _ | refine Below.drew ?_ | refine bpush ?_ _ | refine bput ?_ (by simp) _ | (refine bstep ?_ (by assumption))))
  have hrN : Wn.heap[w2.heap.size]? = some (.cells #[iv 1, iv t, iv bl, iv bh, iv h, iv nl, iv nh] 38 (0, 0)) := by rw [← hWn]; exact heap_new _ _ _
  have hzN : w2.heap.size < Wn.heap.size := by rw [← hWn]; simp
  have HSN := Lib.hid (SliceOf.below HS2.out hbN)
  have HLN := Lib.hid (SliceOf.below HSL.out hbN)
  have HBN := Lib.hid (bstep HB2.out hbN)
  have HCN := Lib.hid ((hbN.block w1.heap.size hzA).trans HC72.out)
  have HRN := Lib.hid hrN
  clear hrN hbN d0 d1 d2 hWn
  refine (firCloth_any [fyT b 0, fyT b 1, fyT b 2] (by simp) _ _ _ (by simp) HSN.out).mono ?_
  rintro e wF ⟨tvF, mvF, rfl, hst, hsm, hbF⟩
  have HF := Lib.hid hbF; clear hbF
  have hst := Lib.hid hst; have hsm := Lib.hid hsm
  go_wp2_with fail
  refine (HBE.out _ _ _ hst.out hsm.out).mono ?_
  rintro e wG ⟨rfl, hbG⟩
  have hbT : Below Wn.heap.size Wn wG := bstep HF.out hbG
  have HBG := Lib.hid (bstep HBN.out hbT)
  have HCG := Lib.hid ((hbT.block w1.heap.size (by omega)).trans HCN.out)
  have HRG := (hbT.block w2.heap.size hzN).trans HRN.out
  have HSG := Lib.hid (SliceOf.below HSN.out hbT)
  have hLG := SliceOf.below HLN.out hbT
  have hzG : w2.heap.size < wG.heap.size := Nat.lt_of_lt_of_le hzN hbT.size
  have hzH : w1.heap.size < wG.heap.size := by omega
  have d0 : wG.cell? ⟨w2.heap.size, 0, none⟩ = some (iv 1) := by rw [cell_of_row _ _ _ _ _ _ HRG]; rfl
  have d1 : wG.cell? ⟨w2.heap.size, 1, none⟩ = some (iv t) := by rw [cell_of_row _ _ _ _ _ _ HRG]; rfl
  have d2 : wG.cell? ⟨w2.heap.size, 2, none⟩ = some (iv bl) := by rw [cell_of_row _ _ _ _ _ _ HRG]; rfl
  have d3 : wG.cell? ⟨w2.heap.size, 3, none⟩ = some (iv bh) := by rw [cell_of_row _ _ _ _ _ _ HRG]; rfl
  have d4 : wG.cell? ⟨w2.heap.size, 4, none⟩ = some (iv h) := by rw [cell_of_row _ _ _ _ _ _ HRG]; rfl
  have d5 : wG.cell? ⟨w2.heap.size, 5, none⟩ = some (iv nl) := by rw [cell_of_row _ _ _ _ _ _ HRG]; rfl
  have d6 : wG.cell? ⟨w2.heap.size, 6, none⟩ = some (iv nh) := by rw [cell_of_row _ _ _ _ _ _ HRG]; rfl
  have HRG := Lib.hid HRG
  clear hst hsm hbG hbT
  have hle := HLE.out
  have s1 : ¬ ((pn : Int) < 0) := by omega
  have s2 : ¬ ((sn : Int) < (pn : Int)) := by omega
  have s3 : ¬ (49 < (sn : Int)) := by omega
  have hlm : F.length ≤ 1000000 := by omega
  have hlm2 : F.length ≤ 140737488355328 := by omega
  have hbg : Below wG.heap.size wG wG := Below.refl _ _
  go_wp2_with fail
  go_region_held3 (fun w' => w'.cell? ⟨w2.heap.size, 0, none⟩ = some (iv 1) ∧ w'.cell? ⟨w2.heap.size, 1, none⟩ = some (iv t) ∧ w'.cell? ⟨w2.heap.size, 2, none⟩ = some (iv bl) ∧ w'.cell? ⟨w2.heap.size, 3, none⟩ = some (iv bh) ∧ w'.cell? ⟨w2.heap.size, 4, none⟩ = some (iv h) ∧ w'.cell? ⟨w2.heap.size, 5, none⟩ = some (iv nl) ∧ w'.cell? ⟨w2.heap.size, 6, none⟩ = some (iv nh) ∧ SliceOf encS 2 w' (.slice (some ⟨lg, 0, none⟩) F.length lc) F ∧ Below wG.heap.size wG w')
    (first | (go_split_ands; refine ⟨?_, ?_, ?_, ?_, ?_, ?_, ?_, ?_, ?_⟩ <;> first | assumption | exact kcell hbK (by assumption) | exact kfrozen hbK (by assumption) (by assumption) | exact bstep (by assumption) hbK | exact SliceOf.below (by assumption) hbK) | (refine ⟨?_, ?_, ?_, ?_, ?_, ?_, ?_, ?_, ?_⟩ <;> first | exact Below.drew (by assumption) | exact SliceOf.below (by assumption) ((Below.refl _ _).drew) | assumption))
    (first | (go_split_ands; (with_reducible refine (firOwn_any F _ _ _ hlm (by assumption)).mono ?_); rintro e wO ⟨vo, rfl, hoO, hbK⟩; have hSO := Owns.slice hoO encS_len hlm2) | ((with_reducible refine (HDN.out _ _ (by assumption)).mono ?_); rintro e wD ⟨nd, er, rfl, hR, hbK⟩))
  rename_i hHeld
  obtain ⟨d0', d1', d2', d3', d4', d5', d6', hLD, hBD⟩ := hHeld
  clear d0 d1 d2 d3 d4 d5 d6 hbK hbg hoO hSO hLG
  have hDD := HD1.out nd er hR
  clear hR
  have HBD := Lib.hid (bstep HBG.out hBD)
  have HCD := Lib.hid ((hBD.block w1.heap.size hzH).trans HCG.out)
  have HRD := Lib.hid ((hBD.block w2.heap.size hzG).trans HRG.out)
  have HSD := Lib.hid (SliceOf.below HSG.out hBD)
  have hzD : w2.heap.size < wD.heap.size := Nat.lt_of_lt_of_le hzG hBD.size
  clear hBD
  have hbd : Below wD.heap.size wD wD := Below.refl _ _
  rcases hDD with ⟨k, rfl, rfl, k1, k2, k3, k4⟩ | ⟨rfl, rfl, k1⟩
  · have n1 : ¬ ((k : Int) < (sn : Int)) := by omega
    have n2 : ¬ ((F.length : Int) < (k : Int)) := by omega
    have HK3 := Lib.hid k3; have HK4 := Lib.hid k4
    have HLD := Lib.hid hLD
    clear k3 k4 d0' d1' d2' d3' d4' d5' d6' hbd hLD
    go_wp2_with fail
    go_loopw [18] (fun i wr => ∃ j : Nat, j ≤ 2 ∧ i = iv j ∧ Hid (Below wD.heap.size wD wr)) (fun i _ => 2 - (intOf i).toNat)
    case atStart => exact ⟨0, by omega, rfl, Below.refl _ _⟩
    case round =>
      obtain ⟨j, hj, rfl, HW⟩ := hrel
      by_cases hlt : j < 2
      · rcases (show j = 0 ∨ j = 1 by omega) with rfl | rfl
        · by_cases hk0 : k = 0
          · subst hk0
            go_wp2_with fail
            go_roundw
            case rel => exact ⟨1, by omega, by go_num, HW.out⟩
            case measure => simp [intOf]
          · have hq1 : 1 ≤ k := by omega
            have hqF : k ≤ F.length := by omega
            have hqc : ((k : Nat) : Int) ≤ (lc : Int) := by omega
            have hq0 : (0 : Int) ≤ ((k : Nat) : Int) := by omega
            have hqcN : k ≤ lc := by omega
            have hqw : IntKind.i64.wrap ((k : Nat) : Int) = ((k : Nat) : Int) := IntWalk.i64_in _ ⟨by omega, by omega⟩
            have nq : ¬ (((k : Nat) : Int) < 1) := by omega
            have nlc : ¬ lc = 0 := by omega
            obtain ⟨a1, -, a3, a4⟩ := HMP.out k hq1 hqF
            have HA4 := Lib.hid a4
            have HMQ := Lib.hid (fun (w : World) (fv : Value) (hs : SliceOf encS 2 w fv (F.take k)) => HMO.out k w fv hq1 hqF hs)
            have hsum := HK3.out hq1
            clear a4
            generalize mostL ⟨1, t, bl, bh, h, nl, nh⟩ (F.take k) = P at *
            obtain ⟨ns, hns⟩ := Int.eq_ofNat_of_zero_le a3.1
            rw [hns] at a3 hsum
            have HFS : Hid (∀ (w : World) (v : Value), Ints w v P → Calls Try.prog 16 #[v] w fun e w' => e = .returned (iv (ns : Int)) ∧ Below w.heap.size w w') := fun w v hs => by
              have := firSum_any P v w HA4.out (by omega) hs
              rw [hns] at this; exact this
            have hn12 : ns ≤ 12 := by omega
            have hat := HQ.out ns (by omega)
            have HTL : (F.take k).length = k := by rw [List.length_take]; omega
            have HFO : Hid (∀ w : World, SliceOf encS 2 w (.slice (some ⟨lg, 0, none⟩) k lc) (F.take k) → Calls Try.prog 9 #[.slice (some ⟨lg, 0, none⟩) k lc] w fun e w' => ∃ v, e = .returned v ∧ Owns encS 2 36 w.heap.size w' v (F.take k) ∧ Below w.heap.size w w') := fun w hs => by
              have := firOwn_any (F.take k) ⟨lg, 0, none⟩ lc w (by omega) (by rw [HTL]; exact hs)
              rw [HTL] at this; exact this
            have hRr := (HW.out.block w2.heap.size hzD).trans HRD.out
            have hCr := Lib.hid ((HW.out.block w1.heap.size (by omega)).trans HCD.out)
            have hSr := Lib.hid (SliceOf.below HSD.out HW.out)
            have hLr := SliceOf.take (SliceOf.below HLD.out HW.out) hqF
            have HBr := Lib.hid (bstep HBD.out HW.out)
            have hzr : w2.heap.size < wr.heap.size := Nat.lt_of_lt_of_le hzD HW.out.size
            have d0 : wr.cell? ⟨w2.heap.size, 0, none⟩ = some (iv 1) := by rw [cell_of_row _ _ _ _ _ _ hRr]; rfl
            have d1 : wr.cell? ⟨w2.heap.size, 1, none⟩ = some (iv t) := by rw [cell_of_row _ _ _ _ _ _ hRr]; rfl
            have d2 : wr.cell? ⟨w2.heap.size, 2, none⟩ = some (iv bl) := by rw [cell_of_row _ _ _ _ _ _ hRr]; rfl
            have d3 : wr.cell? ⟨w2.heap.size, 3, none⟩ = some (iv bh) := by rw [cell_of_row _ _ _ _ _ _ hRr]; rfl
            have d4 : wr.cell? ⟨w2.heap.size, 4, none⟩ = some (iv h) := by rw [cell_of_row _ _ _ _ _ _ hRr]; rfl
            have d5 : wr.cell? ⟨w2.heap.size, 5, none⟩ = some (iv nl) := by rw [cell_of_row _ _ _ _ _ _ hRr]; rfl
            have d6 : wr.cell? ⟨w2.heap.size, 6, none⟩ = some (iv nh) := by rw [cell_of_row _ _ _ _ _ _ hRr]; rfl
            have hbr : Below wr.heap.size wr wr := Below.refl _ _
            have hlq : (F.take k).length ≤ 140737488355328 := by omega
            clear hRr HMO HMP HD1
            go_wp2_with fail
            go_region_held3 (fun w' => w'.cell? ⟨w2.heap.size, 0, none⟩ = some (iv 1) ∧ w'.cell? ⟨w2.heap.size, 1, none⟩ = some (iv t) ∧ w'.cell? ⟨w2.heap.size, 2, none⟩ = some (iv bl) ∧ w'.cell? ⟨w2.heap.size, 3, none⟩ = some (iv bh) ∧ w'.cell? ⟨w2.heap.size, 4, none⟩ = some (iv h) ∧ w'.cell? ⟨w2.heap.size, 5, none⟩ = some (iv nl) ∧ w'.cell? ⟨w2.heap.size, 6, none⟩ = some (iv nh) ∧ SliceOf encS 2 w' (.slice (some ⟨lg, 0, none⟩) k lc) (F.take k) ∧ Below wr.heap.size wr w')
              (first | (go_split_ands; refine ⟨?_, ?_, ?_, ?_, ?_, ?_, ?_, ?_, ?_⟩ <;> first | assumption | exact kcell hbK (by assumption) | exact kfrozen hbK (by assumption) (by assumption) | exact bstep (by assumption) hbK | exact SliceOf.below (by assumption) hbK) | (refine ⟨?_, ?_, ?_, ?_, ?_, ?_, ?_, ?_, ?_⟩ <;> first | exact Below.drew (by assumption) | exact SliceOf.below (by assumption) ((Below.refl _ _).drew) | assumption))
              (first | (go_split_ands; (with_reducible refine (HFO.out _ (by assumption)).mono ?_); rintro e wO ⟨vo, rfl, hoO, hbK⟩; have hSO := Owns.slice hoO encS_len hlq) | ((with_reducible refine (HMQ.out _ _ (by assumption)).mono ?_); rintro e wM ⟨vp, rfl, hoP, hbK⟩; have HOP := Lib.hid hoP; clear hoP))
            rename_i hHeld
            obtain ⟨-, -, -, -, -, -, -, -, hBM⟩ := hHeld
            obtain ⟨pg, pc, rfl⟩ := owns_addr HOP.out (by omega)
            have HSP := Lib.hid (Owns.slice HOP.out encI_len (by omega))
            rw [a1] at HSP ⊢
            have hzM : w2.heap.size < wM.heap.size := Nat.lt_of_lt_of_le hzr hBM.size
            have HBM := Lib.hid hBM
            clear d0 d1 d2 d3 d4 d5 d6 hbK hbr hoO hSO hLr hBM HOP
            have u1 : ¬ ((ns : Int) < 0) := by omega
            have u2 : ¬ (12 < (ns : Int)) := by omega
            have u3 : ¬ (12 < ns) := by omega
            have u4 : sn ≤ ns := by omega
            have u5 : (qAt (fyT b 1) ns).2 ≤ fh - r0 := hat.2 u4
            clear hat
            go_wp2_with fail
            refine (HFS.out _ _ HSP.out).mono ?_
            rintro e wA ⟨rfl, hbA⟩
            have HBA := Lib.hid hbA; clear hbA
            go_wp2_with fail
            refine (HFS.out _ _ (HSP.out.below HBA.out)).mono ?_
            rintro e wB ⟨rfl, hbB⟩
            have HBB2 := Lib.hid (bstep HBA.out hbB); clear hbB
            go_wp2_with fail
            refine (HFS.out _ _ (HSP.out.below HBB2.out)).mono ?_
            rintro e wC ⟨rfl, hbC⟩
            have hbC2 : Below wM.heap.size wM wC := bstep HBB2.out hbC
            have hbC3 : Below wr.heap.size wr wC := bstep HBM.out hbC2
            have HCC := (hbC3.block w1.heap.size (by omega)).trans hCr.out
            have e0 : wC.cell? ⟨w1.heap.size, 0, none⟩ = some (.slice (some ⟨tg, 0, none⟩) 3 tc) := by rw [cell_of_row _ _ _ _ _ _ HCC]; rfl
            have e1 : wC.cell? ⟨w1.heap.size, 1, none⟩ = some (.slice none 0 0) := by rw [cell_of_row _ _ _ _ _ _ HCC]; rfl
            have HSC := Lib.hid (SliceOf.below hSr.out hbC3)
            have HPC := Lib.hid (HSP.out.below hbC2)
            have HBC := Lib.hid hbC3
            clear hbC hbC2 hbC3 HCC
            go_wp2_with fail
            refine (firCloth_any [fyT b 0, fyT b 1, fyT b 2] (by simp) _ _ _ (by simp) HSC.out).mono ?_
            rintro e wE ⟨tvE, mvE, rfl, hst, hsm, hbE⟩
            have HE := Lib.hid hbE
            have HPE := Lib.hid (HPC.out.below hbE); clear hbE
            have hst := Lib.hid hst; have hsm := Lib.hid hsm
            clear e0 e1
            go_wp2_with fail
            refine (HFS.out _ _ HPE.out).mono ?_
            rintro e wH ⟨rfl, hbH⟩
            have HST := Lib.hid (SliceOf.below hst.out hbH); have HSM := Lib.hid (SliceOf.below hsm.out hbH)
            have HH := Lib.hid (bstep HE.out hbH); clear hbH hst hsm
            go_wp2_with fail
            refine (at3_any _ _ _ ns HVT.out (by omega) _ _ _ HST.out HSM.out).mono ?_
            rintro e wI ⟨rv, rfl, hoR, hbI⟩
            obtain ⟨rg, rc, rfl⟩ := owns_addr hoR (by simp)
            have HRI := Lib.hid (Owns.slice hoR encS_len (by simp))
            have HBI := Lib.hid (bstep HBC.out (bstep HH.out hbI))
            obtain ⟨r0c, r1c⟩ := sl_cellsS (k := 1) HRI.out rfl
            generalize (qAt (fyT b 1) ns).2 = hi at *
            generalize (qAt (fyT b 1) ns).1 = lo at *
            have hki : (1 : Int) < 3 := by omega
            clear hoR hbI
            go_wp2_with fail
            go_roundw
            case rel => exact ⟨1, by omega, by go_num, HW.out.trans (HBI.out.mono HW.out.size)⟩
            case measure => simp [intOf]
        · by_cases hk1 : k ≤ 1
          · rcases (show k = 0 ∨ k = 1 by omega) with rfl | rfl
            · go_wp2_with fail
              go_roundw
              case rel => exact ⟨2, by omega, by go_num, HW.out⟩
              case measure => simp [intOf]
            · go_wp2_with fail
              go_roundw
              case rel => exact ⟨2, by omega, by go_num, HW.out⟩
              case measure => simp [intOf]
          · obtain ⟨q, hq⟩ : ∃ q, q + 1 = k := ⟨k - 1, by omega⟩
            have hqe : (k : Int) - 1 = (q : Int) := by omega
            have hq1 : 1 ≤ q := by omega
            have hqF : q ≤ F.length := by omega
            have hqc : ((q : Nat) : Int) ≤ (lc : Int) := by omega
            have hq0 : (0 : Int) ≤ ((q : Nat) : Int) := by omega
            have hqcN : q ≤ lc := by omega
            have hqw : IntKind.i64.wrap ((q : Nat) : Int) = ((q : Nat) : Int) := IntWalk.i64_in _ ⟨by omega, by omega⟩
            have nq : ¬ (((q : Nat) : Int) < 1) := by omega
            have nlc : ¬ lc = 0 := by omega
            obtain ⟨a1, -, a3, a4⟩ := HMP.out q hq1 hqF
            have HA4 := Lib.hid a4
            have HMQ := Lib.hid (fun (w : World) (fv : Value) (hs : SliceOf encS 2 w fv (F.take q)) => HMO.out q w fv hq1 hqF hs)
            have hsum := HK4.out q hq1 (by omega)
            clear a4
            generalize mostL ⟨1, t, bl, bh, h, nl, nh⟩ (F.take q) = P at *
            obtain ⟨ns, hns⟩ := Int.eq_ofNat_of_zero_le a3.1
            rw [hns] at a3 hsum
            have HFS : Hid (∀ (w : World) (v : Value), Ints w v P → Calls Try.prog 16 #[v] w fun e w' => e = .returned (iv (ns : Int)) ∧ Below w.heap.size w w') := fun w v hs => by
              have := firSum_any P v w HA4.out (by omega) hs
              rw [hns] at this; exact this
            have hn12 : ns ≤ 12 := by omega
            have hat := HQ.out ns (by omega)
            have HTL : (F.take q).length = q := by rw [List.length_take]; omega
            have HFO : Hid (∀ w : World, SliceOf encS 2 w (.slice (some ⟨lg, 0, none⟩) q lc) (F.take q) → Calls Try.prog 9 #[.slice (some ⟨lg, 0, none⟩) q lc] w fun e w' => ∃ v, e = .returned v ∧ Owns encS 2 36 w.heap.size w' v (F.take q) ∧ Below w.heap.size w w') := fun w hs => by
              have := firOwn_any (F.take q) ⟨lg, 0, none⟩ lc w (by omega) (by rw [HTL]; exact hs)
              rw [HTL] at this; exact this
            have hRr := (HW.out.block w2.heap.size hzD).trans HRD.out
            have hCr := Lib.hid ((HW.out.block w1.heap.size (by omega)).trans HCD.out)
            have hSr := Lib.hid (SliceOf.below HSD.out HW.out)
            have hLr := SliceOf.take (SliceOf.below HLD.out HW.out) hqF
            have HBr := Lib.hid (bstep HBD.out HW.out)
            have hzr : w2.heap.size < wr.heap.size := Nat.lt_of_lt_of_le hzD HW.out.size
            have d0 : wr.cell? ⟨w2.heap.size, 0, none⟩ = some (iv 1) := by rw [cell_of_row _ _ _ _ _ _ hRr]; rfl
            have d1 : wr.cell? ⟨w2.heap.size, 1, none⟩ = some (iv t) := by rw [cell_of_row _ _ _ _ _ _ hRr]; rfl
            have d2 : wr.cell? ⟨w2.heap.size, 2, none⟩ = some (iv bl) := by rw [cell_of_row _ _ _ _ _ _ hRr]; rfl
            have d3 : wr.cell? ⟨w2.heap.size, 3, none⟩ = some (iv bh) := by rw [cell_of_row _ _ _ _ _ _ hRr]; rfl
            have d4 : wr.cell? ⟨w2.heap.size, 4, none⟩ = some (iv h) := by rw [cell_of_row _ _ _ _ _ _ hRr]; rfl
            have d5 : wr.cell? ⟨w2.heap.size, 5, none⟩ = some (iv nl) := by rw [cell_of_row _ _ _ _ _ _ hRr]; rfl
            have d6 : wr.cell? ⟨w2.heap.size, 6, none⟩ = some (iv nh) := by rw [cell_of_row _ _ _ _ _ _ hRr]; rfl
            have hbr : Below wr.heap.size wr wr := Below.refl _ _
            have hlq : (F.take q).length ≤ 140737488355328 := by omega
            clear hRr HMO HMP HD1
            go_wp2_with fail
            go_region_held3 (fun w' => w'.cell? ⟨w2.heap.size, 0, none⟩ = some (iv 1) ∧ w'.cell? ⟨w2.heap.size, 1, none⟩ = some (iv t) ∧ w'.cell? ⟨w2.heap.size, 2, none⟩ = some (iv bl) ∧ w'.cell? ⟨w2.heap.size, 3, none⟩ = some (iv bh) ∧ w'.cell? ⟨w2.heap.size, 4, none⟩ = some (iv h) ∧ w'.cell? ⟨w2.heap.size, 5, none⟩ = some (iv nl) ∧ w'.cell? ⟨w2.heap.size, 6, none⟩ = some (iv nh) ∧ SliceOf encS 2 w' (.slice (some ⟨lg, 0, none⟩) q lc) (F.take q) ∧ Below wr.heap.size wr w')
              (first | (go_split_ands; refine ⟨?_, ?_, ?_, ?_, ?_, ?_, ?_, ?_, ?_⟩ <;> first | assumption | exact kcell hbK (by assumption) | exact kfrozen hbK (by assumption) (by assumption) | exact bstep (by assumption) hbK | exact SliceOf.below (by assumption) hbK) | (refine ⟨?_, ?_, ?_, ?_, ?_, ?_, ?_, ?_, ?_⟩ <;> first | exact Below.drew (by assumption) | exact SliceOf.below (by assumption) ((Below.refl _ _).drew) | assumption))
              (first | (go_split_ands; (with_reducible refine (HFO.out _ (by assumption)).mono ?_); rintro e wO ⟨vo, rfl, hoO, hbK⟩; have hSO := Owns.slice hoO encS_len hlq) | ((with_reducible refine (HMQ.out _ _ (by assumption)).mono ?_); rintro e wM ⟨vp, rfl, hoP, hbK⟩; have HOP := Lib.hid hoP; clear hoP))
            rename_i hHeld
            obtain ⟨-, -, -, -, -, -, -, -, hBM⟩ := hHeld
            obtain ⟨pg, pc, rfl⟩ := owns_addr HOP.out (by omega)
            have HSP := Lib.hid (Owns.slice HOP.out encI_len (by omega))
            rw [a1] at HSP ⊢
            have hzM : w2.heap.size < wM.heap.size := Nat.lt_of_lt_of_le hzr hBM.size
            have HBM := Lib.hid hBM
            clear d0 d1 d2 d3 d4 d5 d6 hbK hbr hoO hSO hLr hBM HOP
            have u1 : ¬ ((ns : Int) < 0) := by omega
            have u2 : ¬ (12 < (ns : Int)) := by omega
            have u3 : ¬ (12 < ns) := by omega
            have u4 : ns < sn := by omega
            have u5 : fh - r0 < (qAt (fyT b 1) ns).2 := by
              refine Int.not_le.1 (fun h => ?_)
              have := hat.1 h; omega
            clear hat
            go_wp2_with fail
            refine (HFS.out _ _ HSP.out).mono ?_
            rintro e wA ⟨rfl, hbA⟩
            have HBA := Lib.hid hbA; clear hbA
            go_wp2_with fail
            refine (HFS.out _ _ (HSP.out.below HBA.out)).mono ?_
            rintro e wB ⟨rfl, hbB⟩
            have HBB2 := Lib.hid (bstep HBA.out hbB); clear hbB
            go_wp2_with fail
            refine (HFS.out _ _ (HSP.out.below HBB2.out)).mono ?_
            rintro e wC ⟨rfl, hbC⟩
            have hbC2 : Below wM.heap.size wM wC := bstep HBB2.out hbC
            have hbC3 : Below wr.heap.size wr wC := bstep HBM.out hbC2
            have HCC := (hbC3.block w1.heap.size (by omega)).trans hCr.out
            have e0 : wC.cell? ⟨w1.heap.size, 0, none⟩ = some (.slice (some ⟨tg, 0, none⟩) 3 tc) := by rw [cell_of_row _ _ _ _ _ _ HCC]; rfl
            have e1 : wC.cell? ⟨w1.heap.size, 1, none⟩ = some (.slice none 0 0) := by rw [cell_of_row _ _ _ _ _ _ HCC]; rfl
            have HSC := Lib.hid (SliceOf.below hSr.out hbC3)
            have HPC := Lib.hid (HSP.out.below hbC2)
            have HBC := Lib.hid hbC3
            clear hbC hbC2 hbC3 HCC
            go_wp2_with fail
            refine (firCloth_any [fyT b 0, fyT b 1, fyT b 2] (by simp) _ _ _ (by simp) HSC.out).mono ?_
            rintro e wE ⟨tvE, mvE, rfl, hst, hsm, hbE⟩
            have HE := Lib.hid hbE
            have HPE := Lib.hid (HPC.out.below hbE); clear hbE
            have hst := Lib.hid hst; have hsm := Lib.hid hsm
            clear e0 e1
            go_wp2_with fail
            refine (HFS.out _ _ HPE.out).mono ?_
            rintro e wH ⟨rfl, hbH⟩
            have HST := Lib.hid (SliceOf.below hst.out hbH); have HSM := Lib.hid (SliceOf.below hsm.out hbH)
            have HH := Lib.hid (bstep HE.out hbH); clear hbH hst hsm
            go_wp2_with fail
            refine (at3_any _ _ _ ns HVT.out (by omega) _ _ _ HST.out HSM.out).mono ?_
            rintro e wI ⟨rv, rfl, hoR, hbI⟩
            obtain ⟨rg, rc, rfl⟩ := owns_addr hoR (by simp)
            have HRI := Lib.hid (Owns.slice hoR encS_len (by simp))
            have HBI := Lib.hid (bstep HBC.out (bstep HH.out hbI))
            obtain ⟨r0c, r1c⟩ := sl_cellsS (k := 1) HRI.out rfl
            generalize (qAt (fyT b 1) ns).2 = hi at *
            generalize (qAt (fyT b 1) ns).1 = lo at *
            have hki : (1 : Int) < 3 := by omega
            clear hoR hbI
            go_wp2_with fail
            go_roundw
            case rel => exact ⟨2, by omega, by go_num, HW.out.trans (HBI.out.mono HW.out.size)⟩
            case measure => simp [intOf]
      · obtain rfl : j = 2 := by omega
        go_wp2_with fail
        refine (firKnown_any _).mono ?_
        rintro e w9 ⟨rfl, hb9⟩
        have HB9 := Lib.hid (bstep (bstep HBD.out HW.out) hb9); clear hb9
        go_wp2_with fail
        go_ret
        exact ⟨rfl, HB9.out⟩
  · have HMA := Lib.hid (fun (w : World) (fv : Value) (hs : SliceOf encS 2 w fv F) => HMO.out F.length w fv hl0 (Nat.le_refl _) (by rw [List.take_length]; exact hs))
    rw [List.take_length] at HMA
    have HK1 := Lib.hid k1
    obtain ⟨a1, a2, a3, a4⟩ := HMP.out F.length hl0 (Nat.le_refl _)
    rw [List.take_length] at a1 a2 a3 a4
    have HA4 := Lib.hid a4
    clear k1 a2 a4
    go_wp2_with fail
    generalize mostL ⟨1, t, bl, bh, h, nl, nh⟩ F = P at *
    go_region_held3 (fun w' => w'.cell? ⟨w2.heap.size, 0, none⟩ = some (iv 1) ∧ w'.cell? ⟨w2.heap.size, 1, none⟩ = some (iv t) ∧ w'.cell? ⟨w2.heap.size, 2, none⟩ = some (iv bl) ∧ w'.cell? ⟨w2.heap.size, 3, none⟩ = some (iv bh) ∧ w'.cell? ⟨w2.heap.size, 4, none⟩ = some (iv h) ∧ w'.cell? ⟨w2.heap.size, 5, none⟩ = some (iv nl) ∧ w'.cell? ⟨w2.heap.size, 6, none⟩ = some (iv nh) ∧ SliceOf encS 2 w' (.slice (some ⟨lg, 0, none⟩) F.length lc) F ∧ Below wD.heap.size wD w')
      (first | (go_split_ands; refine ⟨?_, ?_, ?_, ?_, ?_, ?_, ?_, ?_, ?_⟩ <;> first | assumption | exact kcell hbK (by assumption) | exact kfrozen hbK (by assumption) (by assumption) | exact bstep (by assumption) hbK | exact SliceOf.below (by assumption) hbK) | (refine ⟨?_, ?_, ?_, ?_, ?_, ?_, ?_, ?_, ?_⟩ <;> first | exact Below.drew (by assumption) | exact SliceOf.below (by assumption) ((Below.refl _ _).drew) | assumption))
      (first | (go_split_ands; (with_reducible refine (firOwn_any F _ _ _ hlm (by assumption)).mono ?_); rintro e wO ⟨vo, rfl, hoO, hbK⟩; have hSO := Owns.slice hoO encS_len hlm2) | ((with_reducible refine (HMA.out _ _ (by assumption)).mono ?_); rintro e wM ⟨vp, rfl, hoP, hbK⟩; have HOP := Lib.hid hoP; clear hoP))
    rename_i hHeld
    obtain ⟨-, -, -, -, -, -, -, -, hBM⟩ := hHeld
    have HBM := Lib.hid (bstep HBD.out hBM)
    have HSP := Lib.hid (Owns.slice HOP.out encI_len (by omega))
    clear d0' d1' d2' d3' d4' d5' d6' hbK hbd hoO hSO hLD hBM
    go_wp2_with fail
    refine (firSum_any P _ _ HA4.out (by omega) HSP.out).mono ?_
    rintro e wS ⟨rfl, hbS⟩
    have HBS := Lib.hid (bstep HBM.out hbS)
    have HK := HK1.out
    clear hbS
    go_wp2_with fail
    refine (firKnown_any _).mono ?_
    rintro e w9 ⟨rfl, hb9⟩
    have HB9 := Lib.hid (bstep HBS.out hb9); clear hb9
    go_wp2_with fail
    go_ret
    exact ⟨rfl, HB9.out⟩
end Go.Proofs.Ytompkdhhhlgbdaa
