/- TopBarrelBelow's walk. -/
import Derived.Test.YtfpbfhjfhfmanabHb
import Derived.Test.YtfpbfhjfhfmanabSo
import Derived.Deep.DeepCutAuto
namespace Go.Proofs.Ytfpbfhjfhfmanab
open Go Go.RowKit Go.Shelf
attribute [local go_sem ↓] Go.wp_at_zero Go.wp_at_succ

set_option maxRecDepth 20000 in
set_option maxHeartbeats 12800000 in
theorem barrel_any (b : Nat → Int) (v0 v1 v2 v3 : Int) (w : World) (hb : ∀ i, 0 ≤ b i ∧ b i ≤ 255) (hv0 : 0 ≤ v0 ∧ v0 ≤ 255) (hv1 : 0 ≤ v1 ∧ v1 ≤ 255) (hv2 : 0 ≤ v2 ∧ v2 ≤ 255) :
    Calls Try.prog 3 #[.agg (fyCells b), .agg #[u8 v0, u8 v1, u8 v2, u8 v3]] w fun e w' => e = .returned (.bool true) ∧ Below w.heap.size w w' := by
  have HBB := Lib.hid hb
  have hVT : [fyT b 0, fyT b 1, fyT b 2].all vTrack = true := by simp [fyT_valid hb]
  have hfh : (fyT b 2).fh ≤ 393 := by
    have x8 := hb 8; have x9 := hb 9
    show 100 + b 8 + 2 * (b 9 % 20) ≤ 393
    omega
  obtain ⟨hr, hhr⟩ : ∃ hr : Nat, (hr : Int) = v0 % 49 := ⟨(v0 % 49).toNat, by omega⟩
  obtain ⟨sy, hsy⟩ : ∃ sy : Int, sy = v1 % 25 := ⟨_, rfl⟩
  have et0 : v0.tmod 49 = (hr : Int) := by rw [Int.tmod_eq_emod_of_nonneg hv0.1, hhr]
  have et1 : v1.tmod 25 = sy := by rw [Int.tmod_eq_emod_of_nonneg hv1.1, hsy]
  have hr48 : hr ≤ 48 := by omega
  have hs24 : 0 ≤ sy ∧ sy ≤ 24 := by omega
  obtain ⟨sn, pn, e1, e2, e3, q1, q2, q3⟩ := below_heavy (lim := 16 * (1 + sy) - 1) hVT (by omega)
  obtain ⟨q4, q5⟩ := q3 hr hr48
  obtain ⟨q6, q7, q8⟩ := qAt_in (t := fyT b 2) (List.all_eq_true.1 hVT _ (by simp)) hr
  have HAT : Hid (∀ (W : World) (tv mv : Value), SliceOf encT 4 W tv [fyT b 0, fyT b 1, fyT b 2] → SliceOf encM 4 W mv [] → Calls Try.prog 5 #[.agg #[tv, mv], iv hr] W fun e w' => ∃ rg rc, e = .returned (.tuple #[.slice (some ⟨rg, 0, none⟩) 3 rc, iv 0]) ∧ (w'.cell? ⟨rg, 4, none⟩ = some (iv (qAt (fyT b 2) hr).1) ∧ w'.cell? ⟨rg, 5, none⟩ = some (iv (qAt (fyT b 2) hr).2)) ∧ Below W.heap.size W w') := fun W tv mv h1 h2 => by
    refine (at3_any _ _ _ hr hVT hr48 _ _ _ h1 h2).mono ?_
    rintro e w' ⟨rv, rfl, ho, hb⟩
    obtain ⟨rg, rc, rfl⟩ := owns_addr ho (by simp)
    have hs := Owns.slice ho encS_len (by simp)
    exact ⟨rg, rc, rfl, sl_cellsS (k := 2) hs rfl, hb⟩
  have HBE : Hid (∀ (w : World) (tv mv : Value), SliceOf encT 4 w tv [fyT b 0, fyT b 1, fyT b 2] → SliceOf encM 4 w mv [] → Calls Try.prog 7 #[.agg #[tv, mv], iv 2, iv (16 * (1 + sy) - 1)] w fun e w' => e = .returned (.tuple #[iv sn, iv pn, iv 0]) ∧ Below w.heap.size w w') := fun w tv mv ht hm => by
    have := Below_any [fyT b 0, fyT b 1, fyT b 2] [] tv mv 2 (16 * (1 + sy) - 1) w ht hm
    rw [e1, e2, e3] at this; exact this
  have HFM : Hid (∀ W : World, Calls Try.prog 4 #[.agg #[u8 (b 0), u8 (b 1), u8 (b 2), u8 (b 3), u8 (b 4), u8 (b 5), u8 (b 6), u8 (b 7), u8 (b 8), u8 (b 9), u8 (b 10), u8 (b 11)]] W fun e w' => ∃ tg tc, e = .returned (.agg #[.slice (some ⟨tg, 0, none⟩) 3 tc, .slice none 0 0]) ∧ Hid (SliceOf encT 4 w' (.slice (some ⟨tg, 0, none⟩) 3 tc) [fyT b 0, fyT b 1, fyT b 2]) ∧ W.heap.size ≤ tg ∧ Below W.heap.size W w') := fun W => by
    refine (fyMade_any b W HBB.out).mono ?_
    rintro e w1 ⟨tv, rfl, ho1, hb1⟩
    obtain ⟨tg, tc, rfl⟩ := owns_addr ho1 (by simp)
    exact ⟨tg, tc, rfl, Owns.slice ho1 encT_len (by simp), (World.ownsRow.lt ho1 tg rfl).1, hb1⟩
  have HFC : Hid (∀ (W : World) (tg tc : Nat), SliceOf encT 4 W (.slice (some ⟨tg, 0, none⟩) 3 tc) [fyT b 0, fyT b 1, fyT b 2] → Calls Try.prog 6 #[.agg #[.slice (some ⟨tg, 0, none⟩) 3 tc, .slice none 0 0]] W fun e w' => ∃ tv mv, e = .returned (.agg #[tv, mv]) ∧ SliceOf encT 4 w' tv [fyT b 0, fyT b 1, fyT b 2] ∧ SliceOf encM 4 w' mv [] ∧ Below W.heap.size W w') := fun W tg tc h =>
    firCloth_any [fyT b 0, fyT b 1, fyT b 2] (by simp) _ _ _ (by simp) h
  generalize (qAt (fyT b 2) hr).1 = lo at *
  generalize (qAt (fyT b 2) hr).2 = hi at *
  have hi393 : hi ≤ 393 := Int.le_trans q8 hfh
  have HSH : Hid (∀ (W : World) (g : Nat), SliceOf encBr 5 W (.slice (some ⟨g, 0, none⟩) 1 1) [⟨1 + sy, hi + v2, 0, v2, v2 + hi - lo⟩] → Calls Try.prog 9 #[.slice (some ⟨g, 0, none⟩) 1 1] W fun e w' => ∃ a2 n2 c2 a3 n3 c3, e = .returned (.tuple #[.slice a2 n2 c2, .slice a3 n3 c3, iv 0]) ∧ n2 = (if sn ≤ hr then 1 else 0) ∧ n3 = (if pn ≤ hr then 1 else 0) ∧ Below W.heap.size W w') := fun W g h => by
    refine (Short_good [⟨1 + sy, hi + v2, 0, v2, v2 + hi - lo⟩] _ _ W ?_ (by simp) h).mono ?_
    · rw [List.all_cons, List.all_nil, Bool.and_true]
      exact vBr_iff.2 (by dsimp only; omega)
    · rintro e w' ⟨v2', v3', rfl, ho2, ho3, hb⟩
      obtain ⟨a2, c2, rfl⟩ := ho2.len
      obtain ⟨a3, c3, rfl⟩ := ho3.len
      refine ⟨a2, _, c2, a3, _, c3, rfl, ?_, ?_, hb⟩
      · show (brS brHi [_] 1).length = _
        rw [brS_one]
        by_cases h : sn ≤ hr
        · have := q4.2 h
          rw [if_pos h, if_pos (by simp only [brHi]; omega)]; rfl
        · rw [if_neg h, if_neg (by simp only [brHi]; intro h2; exact h (q4.1 (by omega)))]; rfl
      · show (brS brLo [_] 1).length = _
        rw [brS_one]
        by_cases h : pn ≤ hr
        · have := q5.2 h
          rw [if_pos h, if_pos (by simp only [brLo]; omega)]; rfl
        · rw [if_neg h, if_neg (by simp only [brLo]; intro h2; exact h (q5.1 (by omega)))]; rfl
  have hsp : sn ≤ hr → pn ≤ hr := fun h => q5.1 (Int.le_trans q7 (q4.2 h))
  clear e1 e2 e3 q3 q4 q5 q8 hfh hVT hhr hsy hb
  obtain ⟨Wn, hWn⟩ : ∃ W : World, ((w.alloc (.cells (fyCells b) 25)).alloc (.cells #[u8 v0, u8 v1, u8 v2, u8 v3] 22)) = W := ⟨_, rfl⟩
  have hBw : Below w.heap.size w Wn := by rw [← hWn]; exact (by repeat (first | exact Below.refl _ _ | refine Below.drew ?_ | refine bpush ?_ _ | refine bput ?_ (by simp) _ | (refine bstep ?_ (by assumption))))
  have hzn : Wn.heap.size = w.heap.size + 2 := by rw [← hWn]; simp
  have hrx : Wn.heap[w.heap.size]? = some (.cells (fyCells b) 25 (0, 0)) := by rw [← hWn]; exact heapC rfl
  have hrv : Wn.heap[w.heap.size + 1]? = some (.cells #[u8 v0, u8 v1, u8 v2, u8 v3] 22 (0, 0)) := by rw [← hWn]; exact heapA (by simp)
  have HRV := Lib.hid hrv; have HZN := Lib.hid hzn
  have x0 : Wn.cell? ⟨w.heap.size, 0, none⟩ = some (u8 (b 0)) := by rw [cell_of_row _ _ _ _ _ _ hrx]; rfl
  have x1 : Wn.cell? ⟨w.heap.size, 1, none⟩ = some (u8 (b 1)) := by rw [cell_of_row _ _ _ _ _ _ hrx]; rfl
  have x2 : Wn.cell? ⟨w.heap.size, 2, none⟩ = some (u8 (b 2)) := by rw [cell_of_row _ _ _ _ _ _ hrx]; rfl
  have x3 : Wn.cell? ⟨w.heap.size, 3, none⟩ = some (u8 (b 3)) := by rw [cell_of_row _ _ _ _ _ _ hrx]; rfl
  have x4 : Wn.cell? ⟨w.heap.size, 4, none⟩ = some (u8 (b 4)) := by rw [cell_of_row _ _ _ _ _ _ hrx]; rfl
  have x5 : Wn.cell? ⟨w.heap.size, 5, none⟩ = some (u8 (b 5)) := by rw [cell_of_row _ _ _ _ _ _ hrx]; rfl
  have x6 : Wn.cell? ⟨w.heap.size, 6, none⟩ = some (u8 (b 6)) := by rw [cell_of_row _ _ _ _ _ _ hrx]; rfl
  have x7 : Wn.cell? ⟨w.heap.size, 7, none⟩ = some (u8 (b 7)) := by rw [cell_of_row _ _ _ _ _ _ hrx]; rfl
  have x8 : Wn.cell? ⟨w.heap.size, 8, none⟩ = some (u8 (b 8)) := by rw [cell_of_row _ _ _ _ _ _ hrx]; rfl
  have x9 : Wn.cell? ⟨w.heap.size, 9, none⟩ = some (u8 (b 9)) := by rw [cell_of_row _ _ _ _ _ _ hrx]; rfl
  have x10 : Wn.cell? ⟨w.heap.size, 10, none⟩ = some (u8 (b 10)) := by rw [cell_of_row _ _ _ _ _ _ hrx]; rfl
  have x11 : Wn.cell? ⟨w.heap.size, 11, none⟩ = some (u8 (b 11)) := by rw [cell_of_row _ _ _ _ _ _ hrx]; rfl
  have y0 : Wn.cell? ⟨w.heap.size + 1, 0, none⟩ = some (u8 v0) := by rw [cell_of_row _ _ _ _ _ _ hrv]; rfl
  have y1 : Wn.cell? ⟨w.heap.size + 1, 1, none⟩ = some (u8 v1) := by rw [cell_of_row _ _ _ _ _ _ hrv]; rfl
  have y2 : Wn.cell? ⟨w.heap.size + 1, 2, none⟩ = some (u8 v2) := by rw [cell_of_row _ _ _ _ _ _ hrv]; rfl
  have g0 : IntKind.i64.wrap v0 = v0 := IntWalk.i64_in _ ⟨by omega, by omega⟩
  have g1 : IntKind.i64.wrap v1 = v1 := IntWalk.i64_in _ ⟨by omega, by omega⟩
  have g2 : IntKind.i64.wrap sy = sy := IntWalk.i64_in _ ⟨by omega, by omega⟩
  have g3 : IntKind.i64.wrap (1 + sy) = 1 + sy := IntWalk.i64_in _ ⟨by omega, by omega⟩
  have g4 : IntKind.i64.wrap (hr : Int) = (hr : Int) := IntWalk.i64_in _ ⟨by omega, by omega⟩
  have hlw : w.heap.size + 1 < Wn.heap.size := by omega
  simp only [fyCells] at hWn ⊢
  have HWn := Lib.hid hWn
  clear hWn hrx hrv hzn
  go_enter Try.func3, Try.ntmps3
  go_upto_region 1 with (fail)
  rw [HWn.out]
  go_cut [5, 6, 7] (fun s5 s6 s7 wx => ∃ g tg tc, s5 = .pointer (some ⟨g, 0, none⟩) ∧ s6 = iv hr ∧ s7 = iv (1 + sy) ∧ Hid (wx.cell? ⟨g, 0, none⟩ = some (.slice (some ⟨tg, 0, none⟩) 3 tc) ∧ wx.cell? ⟨g, 1, none⟩ = some (.slice none 0 0)) ∧ Hid (SliceOf encT 4 wx (.slice (some ⟨tg, 0, none⟩) 3 tc) [fyT b 0, fyT b 1, fyT b 2]) ∧ Hid (Below w.heap.size w wx) ∧ Hid (wx.cell? ⟨w.heap.size + 1, 2, none⟩ = some (u8 v2)))
  case first =>
    go_region_held3 (fun w' => w'.cell? ⟨w.heap.size, 0, none⟩ = some (u8 (b 0)) ∧ w'.cell? ⟨w.heap.size, 1, none⟩ = some (u8 (b 1)) ∧ w'.cell? ⟨w.heap.size, 2, none⟩ = some (u8 (b 2)) ∧ w'.cell? ⟨w.heap.size, 3, none⟩ = some (u8 (b 3)) ∧ w'.cell? ⟨w.heap.size, 4, none⟩ = some (u8 (b 4)) ∧ w'.cell? ⟨w.heap.size, 5, none⟩ = some (u8 (b 5)) ∧ w'.cell? ⟨w.heap.size, 6, none⟩ = some (u8 (b 6)) ∧ w'.cell? ⟨w.heap.size, 7, none⟩ = some (u8 (b 7)) ∧ w'.cell? ⟨w.heap.size, 8, none⟩ = some (u8 (b 8)) ∧ w'.cell? ⟨w.heap.size, 9, none⟩ = some (u8 (b 9)) ∧ w'.cell? ⟨w.heap.size, 10, none⟩ = some (u8 (b 10)) ∧ w'.cell? ⟨w.heap.size, 11, none⟩ = some (u8 (b 11)) ∧ w'.cell? ⟨w.heap.size + 1, 0, none⟩ = some (u8 v0) ∧ w'.cell? ⟨w.heap.size + 1, 1, none⟩ = some (u8 v1) ∧ w'.cell? ⟨w.heap.size + 1, 2, none⟩ = some (u8 v2) ∧ Below w.heap.size w w')
      (first | (first | (go_split_ands; refine ⟨?_, ?_, ?_, ?_, ?_, ?_, ?_, ?_, ?_, ?_, ?_, ?_, ?_, ?_, ?_, ?_⟩ <;> first | assumption | exact kcell hbK (by assumption) | exact kfrozen hbK (by assumption) (by assumption) | exact bstep (by assumption) hbK | exact SliceOf.below (by assumption) hbK | exact kcell (bpush (Below.refl _ _) _) (by assumption) | exact kfrozen (bpush (Below.refl _ _) _) (by assumption) (by assumption) | exact bpush (by assumption) _ | exact SliceOf.below (by assumption) (bpush (Below.refl _ _) _)) | (refine ⟨?_, ?_, ?_, ?_, ?_, ?_, ?_, ?_, ?_, ?_, ?_, ?_, ?_, ?_, ?_, ?_⟩ <;> first | exact Below.drew (by assumption) | exact SliceOf.below (by assumption) ((Below.refl _ _).drew) | assumption)) | (go_split_ands; refine ⟨?_, ?_, ?_, ?_, ?_, ?_, ?_, ?_, ?_, ?_, ?_, ?_, ?_, ?_, ?_, ?_⟩ <;> first | assumption | exact kcell (bpush (Below.refl _ _) _) (by assumption) | exact bpush (by assumption) _ | exact cswapH (by assumption) (by omega) | exact bswapH (by assumption) (by omega)) | (go_split_ands; refine ⟨?_, ?_, ?_, ?_, ?_, ?_, ?_, ?_, ?_, ?_, ?_, ?_, ?_, ?_, ?_, ?_⟩ <;> first | exact cset2H (by omega) (by assumption) | exact bput (p := ⟨Wn.heap.size, 1, none⟩) (bput (p := ⟨Wn.heap.size, 0, none⟩) (by assumption) (by simp only; omega) _) (by simp only; omega) _))
      (first | (go_split_ands; (with_reducible refine (HFM.out _).mono ?_); rintro e w1 ⟨tg, tc, rfl, HSM, htg, hbK⟩; have hqK := hbK.size; (try simp at hqK); (try have t0 : w1.cell? ⟨Wn.heap.size, 0, none⟩ = some (.slice none 0 0) := kcell hbK (ncell0H _ _ _ _)); (try have t1 : w1.cell? ⟨Wn.heap.size, 1, none⟩ = some (.slice none 0 0) := kcell hbK (ncell1H _ _ _ _)); (try have t2 : w1.frozen? ⟨Wn.heap.size, 0, none⟩ = false := kfrozen hbK (ncell0H _ _ _ _) (nfrozH _ _ _ _ 0)); (try have t3 : w1.frozen? ⟨Wn.heap.size, 1, none⟩ = false := kfrozen hbK (ncell1H _ _ _ _) (nfrozH _ _ _ _ 1))))
    all_goals
      rename_i hHeld
      go_wp2_with fail
      go_meet
      refine ⟨_, tg, tc, rfl, rfl, rfl, ⟨?_, ?_⟩, ?_, hHeld.2.2.2.2.2.2.2.2.2.2.2.2.2.2.2, hHeld.2.2.2.2.2.2.2.2.2.2.2.2.2.2.1⟩
      · first | exact ncell0H _ _ _ _ | go_simp
      · first | exact ncell1H _ _ _ _ | go_simp
      · first
          | exact HSM.out.below (bpush (Below.refl _ _) _)
          | exact SliceOf.at_block HSM.out (fun o u hu => ((cset_far (by simp at htg; omega)).trans (cset_far (by simp at htg; omega))).trans hu)
  case rest =>
    obtain ⟨g, tg, tc, rfl, rfl, rfl, HG, HSM, HB, HY2⟩ := hcut
    obtain ⟨wd, hwd⟩ : ∃ W : World, W = wc := ⟨_, rfl⟩
    subst hwd
    obtain ⟨p0, p1⟩ := HG.out
    clear x0 x1 x2 x3 x4 x5 x6 x7 x8 x9 x10 x11 y0 y1 y2 hBw
    go_wp2_with fail
    refine (HFC.out _ _ _ HSM.out).mono ?_
    rintro e wA ⟨tv, mv, rfl, hst, hsm, hbA⟩
    have hst := Lib.hid hst; have hsm := Lib.hid hsm; have HA := Lib.hid hbA; clear hbA
    go_wp2_with fail
    refine (HAT.out _ _ _ hst.out hsm.out).mono ?_
    rintro e wB ⟨rg, rc, rfl, ⟨r4, r5⟩, hbB⟩
    have HB1 := Lib.hid (bstep HA.out hbB)
    have p0' := kcell HB1.out p0; have p1' := kcell HB1.out p1
    have HSM2 := Lib.hid (HSM.out.below HB1.out)
    have HR45 := Lib.hid (And.intro r4 r5)
    clear hst hsm hbB r4 r5 p0 p1 HA
    have k1 : IntKind.i64.wrap (16 * (1 + sy)) = 16 * (1 + sy) := IntWalk.i64_in _ ⟨by omega, by omega⟩
    have k2 : IntKind.i64.wrap (16 * (1 + sy) - 1) = 16 * (1 + sy) - 1 := IntWalk.i64_in _ ⟨by omega, by omega⟩
    go_wp2_with fail
    refine (HFC.out _ _ _ HSM2.out).mono ?_
    rintro e wC ⟨tv2, mv2, rfl, hst, hsm, hbC⟩
    have hst := Lib.hid hst; have hsm := Lib.hid hsm; have HC := Lib.hid hbC; clear hbC
    go_wp2_with fail
    refine (HBE.out _ _ _ hst.out hsm.out).mono ?_
    rintro e wD ⟨rfl, hbD⟩
    have HBD := Lib.hid (bstep HC.out hbD)
    have HB2 := Lib.hid (bstep HB1.out HBD.out)
    have r4 := kcell HBD.out HR45.out.1
    have r5 := kcell HBD.out HR45.out.2
    have y2 : ∀ q, (wD.drewN q).cell? ⟨w.heap.size + 1, 2, none⟩ = some (u8 v2) := fun q => (show wD.cell? ⟨w.heap.size + 1, 2, none⟩ = some (u8 v2) from kcell HB2.out HY2.out)
    have n1 : ¬ (lo < 1) := by omega
    have n2 : ¬ (1000 < hi) := by omega
    have n3 : ¬ (hi < lo) := by omega
    have j1 : IntKind.i64.wrap v2 = v2 := IntWalk.i64_in _ ⟨by omega, by omega⟩
    have j2 : IntKind.i64.wrap (hi + v2) = hi + v2 := IntWalk.i64_in _ ⟨by omega, by omega⟩
    have j3 : IntKind.i64.wrap (v2 + hi) = v2 + hi := IntWalk.i64_in _ ⟨by omega, by omega⟩
    have j4 : IntKind.i64.wrap (v2 + hi - lo) = v2 + hi - lo := IntWalk.i64_in _ ⟨by omega, by omega⟩
    clear hst hsm hbD p0' p1' k1 k2
    go_wp2_with fail
    go_quiet (fail)
    go_wp2_with fail
    have r4x : (wD.drewN nq).cell? ⟨rg, 4, none⟩ = some (iv lo) := r4
    have r5x : (wD.drewN nq).cell? ⟨rg, 5, none⟩ = some (iv hi) := r5
    have HBX0 : Hid (Below wd.heap.size wd (wD.drewN nq)) := bdrewN HB2.out nq
    clear r4 r5 y2
    generalize wD.drewN nq = WX at *
    have hbx : Below WX.heap.size WX WX := Below.refl _ _
    have hlr := lt_of_cell r4x
    have z0 : (WX.alloc (.cells #[.int .i64 0, .int .i64 0, .int .i64 0, .int .i64 0, .int .i64 0] 43)).drew.cell? ⟨WX.heap.size, 0, none⟩ = some (iv 0) := n5c0 WX (iv 0) (iv 0) (iv 0) (iv 0) (iv 0) 43
    have z1 : (WX.alloc (.cells #[.int .i64 0, .int .i64 0, .int .i64 0, .int .i64 0, .int .i64 0] 43)).drew.cell? ⟨WX.heap.size, 1, none⟩ = some (iv 0) := n5c1 WX (iv 0) (iv 0) (iv 0) (iv 0) (iv 0) 43
    have z2 : (WX.alloc (.cells #[.int .i64 0, .int .i64 0, .int .i64 0, .int .i64 0, .int .i64 0] 43)).drew.cell? ⟨WX.heap.size, 2, none⟩ = some (iv 0) := n5c2 WX (iv 0) (iv 0) (iv 0) (iv 0) (iv 0) 43
    have z3 : (WX.alloc (.cells #[.int .i64 0, .int .i64 0, .int .i64 0, .int .i64 0, .int .i64 0] 43)).drew.cell? ⟨WX.heap.size, 3, none⟩ = some (iv 0) := n5c3 WX (iv 0) (iv 0) (iv 0) (iv 0) (iv 0) 43
    have z4 : (WX.alloc (.cells #[.int .i64 0, .int .i64 0, .int .i64 0, .int .i64 0, .int .i64 0] 43)).drew.cell? ⟨WX.heap.size, 4, none⟩ = some (iv 0) := n5c4 WX (iv 0) (iv 0) (iv 0) (iv 0) (iv 0) 43
    have y0 : (WX.alloc (.cells #[.int .i64 0, .int .i64 0, .int .i64 0, .int .i64 0, .int .i64 0] 43)).drew.frozen? ⟨WX.heap.size, 0, none⟩ = false := nfrozN WX #[.int .i64 0, .int .i64 0, .int .i64 0, .int .i64 0, .int .i64 0] 43 0
    have y1 : (WX.alloc (.cells #[.int .i64 0, .int .i64 0, .int .i64 0, .int .i64 0, .int .i64 0] 43)).drew.frozen? ⟨WX.heap.size, 1, none⟩ = false := nfrozN WX #[.int .i64 0, .int .i64 0, .int .i64 0, .int .i64 0, .int .i64 0] 43 1
    have y2 : (WX.alloc (.cells #[.int .i64 0, .int .i64 0, .int .i64 0, .int .i64 0, .int .i64 0] 43)).drew.frozen? ⟨WX.heap.size, 2, none⟩ = false := nfrozN WX #[.int .i64 0, .int .i64 0, .int .i64 0, .int .i64 0, .int .i64 0] 43 2
    have y3 : (WX.alloc (.cells #[.int .i64 0, .int .i64 0, .int .i64 0, .int .i64 0, .int .i64 0] 43)).drew.frozen? ⟨WX.heap.size, 3, none⟩ = false := nfrozN WX #[.int .i64 0, .int .i64 0, .int .i64 0, .int .i64 0, .int .i64 0] 43 3
    have y4 : (WX.alloc (.cells #[.int .i64 0, .int .i64 0, .int .i64 0, .int .i64 0, .int .i64 0] 43)).drew.frozen? ⟨WX.heap.size, 4, none⟩ = false := nfrozN WX #[.int .i64 0, .int .i64 0, .int .i64 0, .int .i64 0, .int .i64 0] 43 4
    have HRZ : Hid ((WX.alloc (.cells #[.int .i64 0, .int .i64 0, .int .i64 0, .int .i64 0, .int .i64 0] 43)).drew.heap[WX.heap.size]? = some (.cells #[iv 0, iv 0, iv 0, iv 0, iv 0] 43 (0, 0))) := heap_new WX _ _
    have HLZ : Hid (WX.heap.size < (WX.alloc (.cells #[.int .i64 0, .int .i64 0, .int .i64 0, .int .i64 0, .int .i64 0] 43)).drew.heap.size) := by show WX.heap.size < (WX.alloc _).heap.size; rw [World.size_alloc]; omega
    have HZZ := Lib.hid (And.intro z0 (And.intro z1 (And.intro z2 (And.intro z3 z4))))
    have HYY := Lib.hid (And.intro y0 (And.intro y1 (And.intro y2 (And.intro y3 y4))))
    clear z0 z1 z2 z3 z4 y0 y1 y2 y3 y4
    go_cut [14] (fun s14 wx => ∃ g14, s14 = .pointer (some ⟨g14, 0, none⟩) ∧ Hid (wx.heap[g14]? = some (.cells #[iv (1 + sy), iv (hi + v2), iv 0, iv v2, iv (v2 + hi - lo)] 43 (0, 0))) ∧ Hid (Below WX.heap.size WX wx))
    case first =>
      go_region_held3 (fun w' => w'.cell? ⟨rg, 4, none⟩ = some (iv lo) ∧ w'.cell? ⟨rg, 5, none⟩ = some (iv hi) ∧ Below WX.heap.size WX w')
        (first | (go_split_ands; refine ⟨?_, ?_, ?_⟩ <;> first | (with_reducible assumption) | (with_reducible refine cset5H ?_ ?_; (focus (first | omega | (simp; omega))); (focus (with_reducible assumption))) | (with_reducible refine bput5H ?_ ?_; (focus (with_reducible assumption)); (focus (first | omega | (simp; omega)))) | (with_reducible exact kcell hbK (by assumption)) | (with_reducible exact bstep (by assumption) hbK) | (with_reducible refine kcell (bpush (Below.refl _ _) _) ?_; (focus (with_reducible assumption))) | (with_reducible refine bpush ?_ _; (focus (with_reducible assumption))) | exact cswapH (by assumption) (by omega) | exact bswapH (by assumption) (by omega) | exact Below.drew (bpush hbx _) | exact kcell (Below.drew (bpush (Below.refl WX.heap.size WX) _)) (by assumption) | exact kcell (bpush (Below.refl _ _) _) (by assumption) | exact bpush (by assumption) _) | (refine ⟨?_, ?_, ?_⟩ <;> first | (with_reducible exact Below.drew (by assumption)) | assumption))
        (first | (go_split_ands; (with_reducible refine (firSpan_any _ _ _).mono ?_); rintro e wS ⟨rfl, hbK⟩; have hqK := hbK.size; (try simp at hqK); (try ((with_reducible have hbA : Below (WX.alloc (.cells #[.int .i64 0, .int .i64 0, .int .i64 0, .int .i64 0, .int .i64 0] 43)).drew.heap.size (WX.alloc (.cells #[.int .i64 0, .int .i64 0, .int .i64 0, .int .i64 0, .int .i64 0] 43)).drew wS := hbK); have HRW := Lib.hid ((hbA.block WX.heap.size HLZ.out).trans HRZ.out); have t0 : wS.cell? ⟨WX.heap.size, 0, none⟩ = some (iv 0) := kcell hbA HZZ.out.1; have t1 : wS.cell? ⟨WX.heap.size, 1, none⟩ = some (iv 0) := kcell hbA HZZ.out.2.1; have t2 : wS.cell? ⟨WX.heap.size, 2, none⟩ = some (iv 0) := kcell hbA HZZ.out.2.2.1; have t3 : wS.cell? ⟨WX.heap.size, 3, none⟩ = some (iv 0) := kcell hbA HZZ.out.2.2.2.1; have t4 : wS.cell? ⟨WX.heap.size, 4, none⟩ = some (iv 0) := kcell hbA HZZ.out.2.2.2.2; have s0 : wS.frozen? ⟨WX.heap.size, 0, none⟩ = false := kfrozen hbA HZZ.out.1 HYY.out.1; have s1 : wS.frozen? ⟨WX.heap.size, 1, none⟩ = false := kfrozen hbA HZZ.out.2.1 HYY.out.2.1; have s2 : wS.frozen? ⟨WX.heap.size, 2, none⟩ = false := kfrozen hbA HZZ.out.2.2.1 HYY.out.2.2.1; have s3 : wS.frozen? ⟨WX.heap.size, 3, none⟩ = false := kfrozen hbA HZZ.out.2.2.2.1 HYY.out.2.2.2.1; have s4 : wS.frozen? ⟨WX.heap.size, 4, none⟩ = false := kfrozen hbA HZZ.out.2.2.2.2 HYY.out.2.2.2.2))))
      all_goals
        rename_i hHeld
        go_wp2_with fail
        go_meet
        refine ⟨_, rfl, ?_, hHeld.2.2⟩
        refine Lib.hid ?_
        first
          | (with_reducible exact heap_new _ _ _)
          | (with_reducible exact row5H HRW.out)
    case rest =>
      obtain ⟨g14, rfl, HB5, HBX⟩ := hcut
      obtain ⟨wy, hwy⟩ : ∃ W : World, W = wc := ⟨_, rfl⟩
      subst hwy
      have b0 : wy.cell? ⟨g14, 0, none⟩ = some (iv (1 + sy)) := by rw [cell_of_row _ _ _ _ _ _ HB5.out]; rfl
      have b1 : wy.cell? ⟨g14, 1, none⟩ = some (iv (hi + v2)) := by rw [cell_of_row _ _ _ _ _ _ HB5.out]; rfl
      have b2 : wy.cell? ⟨g14, 2, none⟩ = some (iv (0)) := by rw [cell_of_row _ _ _ _ _ _ HB5.out]; rfl
      have b3 : wy.cell? ⟨g14, 3, none⟩ = some (iv (v2)) := by rw [cell_of_row _ _ _ _ _ _ HB5.out]; rfl
      have b4 : wy.cell? ⟨g14, 4, none⟩ = some (iv (v2 + hi - lo)) := by rw [cell_of_row _ _ _ _ _ _ HB5.out]; rfl
      clear r4x r5x hbx hlr
      go_wp2_with fail
      refine (HSH.out _ _ (sl_br (heap_new _ _ _))).mono ?_
      rintro e wE ⟨a2, n2', c2, a3, n3', c3, rfl, hn2, hn3, hbE⟩
      have HBE2 := Lib.hid (bstep (bstep HB.out HBX0.out) (bstep HBX.out (bstep (bpush (Below.refl _ _) _) hbE)))
      clear hbE b0 b1 b2 b3 b4
      have HSP := Lib.hid hsp
      clear hsp
      by_cases s1 : sn ≤ hr
      · have s2 := HSP.out s1
        rw [if_pos s1] at hn2
        rw [if_pos s2] at hn3
        subst hn2 hn3
        have z1 : (sn : Int) ≤ (hr : Int) := by omega
        have z2 : (pn : Int) ≤ (hr : Int) := by omega
        go_wp2_with fail
        refine (firKnown06_any _).mono ?_
        rintro e w9 ⟨rfl, hb9⟩
        have HB9 := Lib.hid (bstep HBE2.out hb9); clear hb9
        go_wp2_with fail
        go_ret
        exact ⟨rfl, HB9.out⟩
      · rw [if_neg s1] at hn2
        have z1 : ¬ ((sn : Int) ≤ (hr : Int)) := by omega
        by_cases s2 : pn ≤ hr
        · rw [if_pos s2] at hn3
          subst hn2 hn3
          have z2 : (pn : Int) ≤ (hr : Int) := by omega
          go_wp2_with fail
          refine (firKnown06_any _).mono ?_
          rintro e w9 ⟨rfl, hb9⟩
          have HB9 := Lib.hid (bstep HBE2.out hb9); clear hb9
          go_wp2_with fail
          go_ret
          exact ⟨rfl, HB9.out⟩
        · rw [if_neg s2] at hn3
          subst hn2 hn3
          have z2 : ¬ ((pn : Int) ≤ (hr : Int)) := by omega
          go_wp2_with fail
          refine (firKnown06_any _).mono ?_
          rintro e w9 ⟨rfl, hb9⟩
          have HB9 := Lib.hid (bstep HBE2.out hb9); clear hb9
          go_wp2_with fail
          go_ret
          exact ⟨rfl, HB9.out⟩
end Go.Proofs.Ytfpbfhjfhfmanab
