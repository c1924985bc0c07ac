/- TopWaterShares' walk. -/
import Derived.Test.YtfpbfhjfhfmanacPd
import Derived.Deep.RegionLaw
import Derived.Deep.CutBlock
import Derived.Deep.DeepCutAuto
namespace Go.Proofs.Ytfpbfhjfhfmanac
open Go Go.RowKit Go.Shelf
attribute [local go_sem ↓] Go.wp_at_zero Go.wp_at_succ

def wsLen (V : List Int) : Nat := if V.length = 0 then 1 else min V.length 6
theorem infoSpW : (Try.prog.info? 24).map (fun i => (i.zero, i.size, i.bytes)) = some (some (.agg #[.int .i64 0, .int .i64 0]), 2, 16) := by kernel_rfl
abbrev TwoW (F : List Sp) (P : List Int) (w : World) (lv pv : Value) (wr : World) : Prop := TwoL encS 2 24 encI 1 3 F P w lv pv wr
set_option maxRecDepth 20000 in
set_option maxHeartbeats 12800000 in
theorem wshares_any (fa ha : Option Addr) (fc hc : Nat) (tk : Int) (V H : List Int) (w : World) (hV : ∀ x ∈ V, 0 ≤ x ∧ x ≤ 255) (hH : ∀ x ∈ H, 0 ≤ x ∧ x ≤ 255) (ht : 0 ≤ tk ∧ tk ≤ 255) (hlV : V.length ≤ 9223372036854775807) (_hlH : H.length ≤ 9223372036854775807) (hf : SliceU encB 1 w (.slice fa V.length fc) V) (hh : SliceU encB 1 w (.slice ha H.length hc) H) :
    Calls Try.prog 3 #[.slice fa V.length fc, .slice ha H.length hc, u8 tk] w fun e w' => e = .returned (.bool true) ∧ Below w.heap.size w w' := by
  have HVV := Lib.hid hV; have HHH := Lib.hid hH
  obtain ⟨T, hT⟩ : ∃ T, T = tk % 7 := ⟨_, rfl⟩
  have hT6 : 0 ≤ T ∧ T ≤ 6 := by omega
  have et : tk.tmod 7 = T := by rw [Int.tmod_eq_emod_of_nonneg ht.1, hT]
  have ew : IntKind.i64.wrap tk = tk := IntWalk.i64_in _ ⟨by omega, by omega⟩
  have ew2 : IntKind.i64.wrap T = T := IntWalk.i64_in _ ⟨by omega, by omega⟩
  have HFV := Lib.hid hf; have HFH := Lib.hid hh
  clear hT hf hh hV hH
  go_enter Try.func3, Try.ntmps3
  go_wp2_with fail
  refine (firSpan_any _ _ _).mono ?_
  rintro e w1 ⟨rfl, hb1⟩
  obtain ⟨Wm, hWm⟩ : ∃ W : World, w1.alloc (.cells #[iv 8, iv T, iv 0, iv 0, iv 500, iv 250, iv 250] 27) = W := ⟨_, rfl⟩
  have HBm : Hid (Below w.heap.size w Wm) := by rw [← hWm]; exact bpush hb1 _
  have HRm : Hid (Wm.heap[w1.heap.size]? = some (.cells #[iv 8, iv T, iv 0, iv 0, iv 500, iv 250, iv 250] 27 (0, 0))) := by rw [← hWm]; exact heap_new _ _ _
  have HZm : Hid (Wm.heap.size = w1.heap.size + 1) := by rw [← hWm]; simp [Hid]
  clear hb1
  go_upto_block 0 with (fail)
  obtain ⟨i0, hi, hz0, hz1, hz2⟩ := info_parts infoSpW
  obtain ⟨i1, hj, hy0, hy1, hy2⟩ := info_parts info3
  have HIS := Lib.hid hi; have HZ0 := Lib.hid hz0; have HZ1 := Lib.hid hz1; have HZ2 := Lib.hid hz2
  have HJ := Lib.hid hj; have HY0 := Lib.hid hy0; have HY1 := Lib.hid hy1; have HY2 := Lib.hid hy2
  clear hi hz0 hz1 hz2 hj hy0 hy1 hy2 hWm
  have HT0 : Hid (TwoW [] [] Wm (.slice (some ⟨Wm.heap.size, 0, none⟩) 0 0) (.slice (some ⟨Wm.heap.size + 1, 0, none⟩) 0 0) ((Wm.alloc (.cells #[] 24)).alloc (.cells #[] 3))) :=
    ⟨bpush (bpush (Below.refl _ _) _) _, own_blk _ _ _ _ (heapC rfl) (Nat.le_refl _), own_blk _ _ _ _ (heapA (by simp)) (by omega), by simp [Value.ownBlock]⟩
  generalize ((Wm.alloc (.cells #[] 24)).alloc (.cells #[] 3)) = WL at *
  have hN : 1 ≤ wsLen V ∧ wsLen V ≤ 6 := by unfold wsLen; split <;> omega
  go_cut [10, 8, 9, 11, 12] (fun _ l p _ _ wx => Hid (TwoW (wsF (fun i => V.getD i 0 % 41) (wsLen V)) (wsP (fun i => H.getD i 0 % 6) (wsLen V)) Wm l p wx))
  case first =>
    go_wp2_with fail
    go_loopw [10, 8, 9, 11, 12] (fun i l p _ _ wr => ∃ k : Nat, k ≤ wsLen V ∧ i = iv k ∧ Hid (TwoW (wsF (fun i => V.getD i 0 % 41) k) (wsP (fun i => H.getD i 0 % 6) k) Wm l p wr)) (fun i _ _ _ _ _ => 6 - (intOf i).toNat)
    case atStart => exact ⟨0, Nat.zero_le _, rfl, HT0.out⟩
    case round =>
      obtain ⟨k, hk, rfl, HI⟩ := hrel
      by_cases hlt : k < wsLen V
      · have k6 : (k : Int) < 6 := by omega
        by_cases h0 : k = 0
        · have n0 : ((k : Int) == 0) = true := by rw [beq_iff_eq]; omega
          clear h0
          have q0 := byteD_bd HVV.out k
          have q1 := byteD_bd HHH.out k
          go_upto_if 43 with (fail)
          go_cut [11] (fun n wx => n = iv (V.getD k 0 % 41) ∧ wx = wr)
          case first =>
            by_cases hkV : k < V.length
            · obtain ⟨x, hx⟩ := getElem?_of_lt hkV
              obtain ⟨b, o, rfl, c0⟩ := byte_cell (SliceU.below HFV.out (HBm.out.trans (HI.out.b.mono HBm.out.size))) hx
              have hxe : V.getD k 0 = x := by rw [List.getD_eq_getElem?_getD, hx]; rfl
              rw [hxe] at q0
              have e1 : IntKind.i64.wrap x = x := IntWalk.i64_in _ ⟨by omega, by omega⟩
              have e2 : x.tmod 41 = x % 41 := Int.tmod_eq_emod_of_nonneg q0.1
              have e3 : IntKind.i64.wrap (x % 41) = x % 41 := IntWalk.i64_in _ ⟨by omega, by omega⟩
              have i0 : (0 : Int) ≤ (k : Int) := by omega
              have i1 : (k : Int) < (V.length : Int) := by omega
              go_wp2_with fail
              go_meet
              exact ⟨by rw [hxe], rfl⟩
            · have i1 : ¬ ((k : Int) < (V.length : Int)) := by omega
              first
                | (exfalso; omega)
                | (go_wp2_with fail
                   go_meet
                   exact ⟨by rw [List.getD_eq_getElem?_getD, List.getElem?_eq_none (by omega)]; rfl, rfl⟩)
          case rest =>
            obtain ⟨rfl, rfl⟩ := hcut
            obtain ⟨vk, hvk⟩ : ∃ vk, V.getD k 0 % 41 = vk := ⟨_, rfl⟩
            rw [hvk]
            go_upto_if 53 with (fail)
            go_cut [12] (fun n wx => n = iv (H.getD k 0 % 6) ∧ wx = wc)
            case first =>
              by_cases hkH : k < H.length
              · obtain ⟨x, hx⟩ := getElem?_of_lt hkH
                obtain ⟨b, o, rfl, c0⟩ := byte_cell (SliceU.below HFH.out (HBm.out.trans (HI.out.b.mono HBm.out.size))) hx
                have hxe : H.getD k 0 = x := by rw [List.getD_eq_getElem?_getD, hx]; rfl
                rw [hxe] at q1
                have e1 : IntKind.i64.wrap x = x := IntWalk.i64_in _ ⟨by omega, by omega⟩
                have e2 : x.tmod 6 = x % 6 := Int.tmod_eq_emod_of_nonneg q1.1
                have e3 : IntKind.i64.wrap (x % 6) = x % 6 := IntWalk.i64_in _ ⟨by omega, by omega⟩
                have i0 : (0 : Int) ≤ (k : Int) := by omega
                have i1 : (k : Int) < (H.length : Int) := by omega
                go_wp2_with fail
                go_meet
                exact ⟨by rw [hxe], rfl⟩
              · have i1 : ¬ ((k : Int) < (H.length : Int)) := by omega
                go_wp2_with fail
                go_meet
                exact ⟨by rw [List.getD_eq_getElem?_getD, List.getElem?_eq_none (by omega)]; rfl, rfl⟩
            case rest =>
              obtain ⟨rfl, rfl⟩ := hcut
              obtain ⟨hk2, hhk⟩ : ∃ hk2, H.getD k 0 % 6 = hk2 := ⟨_, rfl⟩
              rw [hhk]
              have hbh : 0 ≤ hk2 ∧ hk2 ≤ 5 := by omega
              have e1 : IntKind.i64.wrap (1 + hk2) = 1 + hk2 := IntWalk.i64_in _ ⟨by omega, by omega⟩
              have HSF : Hid (wsF (fun i => V.getD i 0 % 41) (k + 1) = wsF (fun i => V.getD i 0 % 41) k ++ [(vk, vk)]) := by unfold Hid; rw [wsF_succ, hvk]
              have HSP : Hid (wsP (fun i => H.getD i 0 % 6) (k + 1) = wsP (fun i => H.getD i 0 % 6) k ++ [1 + hk2]) := by unfold Hid; rw [wsP_succ, hhk]
              have HB2 : Hid ((wsF (fun i => V.getD i 0 % 41) k).length + 1 ≤ maxLen ∧ ((wsF (fun i => V.getD i 0 % 41) k).length + 1) * 16 ≤ 140737488355328) := by rw [wsF_len]; simp only [Hid]; unfold maxLen; omega
              have HB3 : Hid ((wsP (fun i => H.getD i 0 % 6) k).length + 1 ≤ maxLen ∧ ((wsP (fun i => H.getD i 0 % 6) k).length + 1) * 8 ≤ 140737488355328) := by rw [wsP_len]; simp only [Hid]; unfold maxLen; omega
              clear hvk hhk hbh q0 q1 n0
              go_wp2_with fail
              refine (firSpan_any _ _ _).mono ?_
              rintro e w2 ⟨rfl, hb2⟩
              have HI2 := Lib.hid (HI.out.below (bstep hb2 (bpush (Below.refl _ _) (.cells #[iv vk, iv vk] 24))))
              have HZW := Lib.hid HI2.out.b.size
              clear hb2
              go_wp2_with (first | (at_builtin; refine L_append2 ((vk, vk) : Sp) rfl _ _ 28 rfl Try.underlying28 HIS.out HZ0.out HZ1.out HZ2.out rfl Nat.two_pos encS_len (encS_one _) rfl rfl HI2.out.o1 (encS_cell ?_ ?_) HB2.out HZW.out ?_; go_simp; go_simp; intro g3 c3 w3 hown3 hbe3 hg3 hl3; have HI3 := Lib.hid ((HI2.out.more hown3 hbe3 hg3 hl3).below (bpush (Below.refl _ _) (.cells #[iv (1 + hk2)] 3))); clear hown3 hbe3 hg3 hl3) | (at_builtin; refine L_append2 (1 + hk2) rfl _ _ 29 rfl Try.underlying29 HJ.out HY0.out HY1.out HY2.out rfl Nat.one_pos encI_len (encI_one _) rfl rfl HI3.out.o2 (encI_cell ?_) HB3.out HI3.out.b.size ?_; go_simp; intro g4 c4 w4 hown4 hbe4 hg4 hl4; have HI4 := Lib.hid ((HI3.out.swap.more hown4 hbe4 hg4 hl4).swap); clear hown4 hbe4 hg4 hl4))
              go_roundw
              case rel => exact ⟨k + 1, by omega, by go_num, by rw [HSF.out, HSP.out]; rw [wsF_len, wsP_len] at HI4; rw [wsF_len, wsP_len]; exact HI4.out⟩
              case measure => simp [intOf]; omega
        · have n0 : ((k : Int) == 0) = false := by rw [beq_eq_false_iff_ne]; omega
          have n1 : ¬ ((k : Int) = 0) := by omega
          have n2 : (k : Int) < (V.length : Int) := by unfold wsLen at hlt; split at hlt <;> omega
          have q0 := byteD_bd HVV.out k
          have q1 := byteD_bd HHH.out k
          go_upto_if 43 with (fail)
          go_cut [11] (fun n wx => n = iv (V.getD k 0 % 41) ∧ wx = wr)
          case first =>
            by_cases hkV : k < V.length
            · obtain ⟨x, hx⟩ := getElem?_of_lt hkV
              obtain ⟨b, o, rfl, c0⟩ := byte_cell (SliceU.below HFV.out (HBm.out.trans (HI.out.b.mono HBm.out.size))) hx
              have hxe : V.getD k 0 = x := by rw [List.getD_eq_getElem?_getD, hx]; rfl
              rw [hxe] at q0
              have e1 : IntKind.i64.wrap x = x := IntWalk.i64_in _ ⟨by omega, by omega⟩
              have e2 : x.tmod 41 = x % 41 := Int.tmod_eq_emod_of_nonneg q0.1
              have e3 : IntKind.i64.wrap (x % 41) = x % 41 := IntWalk.i64_in _ ⟨by omega, by omega⟩
              have i0 : (0 : Int) ≤ (k : Int) := by omega
              have i1 : (k : Int) < (V.length : Int) := by omega
              go_wp2_with fail
              go_meet
              exact ⟨by rw [hxe], rfl⟩
            · have i1 : ¬ ((k : Int) < (V.length : Int)) := by omega
              first
                | (exfalso; omega)
                | (go_wp2_with fail
                   go_meet
                   exact ⟨by rw [List.getD_eq_getElem?_getD, List.getElem?_eq_none (by omega)]; rfl, rfl⟩)
          case rest =>
            obtain ⟨rfl, rfl⟩ := hcut
            obtain ⟨vk, hvk⟩ : ∃ vk, V.getD k 0 % 41 = vk := ⟨_, rfl⟩
            rw [hvk]
            go_upto_if 53 with (fail)
            go_cut [12] (fun n wx => n = iv (H.getD k 0 % 6) ∧ wx = wc)
            case first =>
              by_cases hkH : k < H.length
              · obtain ⟨x, hx⟩ := getElem?_of_lt hkH
                obtain ⟨b, o, rfl, c0⟩ := byte_cell (SliceU.below HFH.out (HBm.out.trans (HI.out.b.mono HBm.out.size))) hx
                have hxe : H.getD k 0 = x := by rw [List.getD_eq_getElem?_getD, hx]; rfl
                rw [hxe] at q1
                have e1 : IntKind.i64.wrap x = x := IntWalk.i64_in _ ⟨by omega, by omega⟩
                have e2 : x.tmod 6 = x % 6 := Int.tmod_eq_emod_of_nonneg q1.1
                have e3 : IntKind.i64.wrap (x % 6) = x % 6 := IntWalk.i64_in _ ⟨by omega, by omega⟩
                have i0 : (0 : Int) ≤ (k : Int) := by omega
                have i1 : (k : Int) < (H.length : Int) := by omega
                go_wp2_with fail
                go_meet
                exact ⟨by rw [hxe], rfl⟩
              · have i1 : ¬ ((k : Int) < (H.length : Int)) := by omega
                go_wp2_with fail
                go_meet
                exact ⟨by rw [List.getD_eq_getElem?_getD, List.getElem?_eq_none (by omega)]; rfl, rfl⟩
            case rest =>
              obtain ⟨rfl, rfl⟩ := hcut
              obtain ⟨hk2, hhk⟩ : ∃ hk2, H.getD k 0 % 6 = hk2 := ⟨_, rfl⟩
              rw [hhk]
              have hbh : 0 ≤ hk2 ∧ hk2 ≤ 5 := by omega
              have e1 : IntKind.i64.wrap (1 + hk2) = 1 + hk2 := IntWalk.i64_in _ ⟨by omega, by omega⟩
              have HSF : Hid (wsF (fun i => V.getD i 0 % 41) (k + 1) = wsF (fun i => V.getD i 0 % 41) k ++ [(vk, vk)]) := by unfold Hid; rw [wsF_succ, hvk]
              have HSP : Hid (wsP (fun i => H.getD i 0 % 6) (k + 1) = wsP (fun i => H.getD i 0 % 6) k ++ [1 + hk2]) := by unfold Hid; rw [wsP_succ, hhk]
              have HB2 : Hid ((wsF (fun i => V.getD i 0 % 41) k).length + 1 ≤ maxLen ∧ ((wsF (fun i => V.getD i 0 % 41) k).length + 1) * 16 ≤ 140737488355328) := by rw [wsF_len]; simp only [Hid]; unfold maxLen; omega
              have HB3 : Hid ((wsP (fun i => H.getD i 0 % 6) k).length + 1 ≤ maxLen ∧ ((wsP (fun i => H.getD i 0 % 6) k).length + 1) * 8 ≤ 140737488355328) := by rw [wsP_len]; simp only [Hid]; unfold maxLen; omega
              clear hvk hhk hbh q0 q1 n0
              go_wp2_with fail
              refine (firSpan_any _ _ _).mono ?_
              rintro e w2 ⟨rfl, hb2⟩
              have HI2 := Lib.hid (HI.out.below (bstep hb2 (bpush (Below.refl _ _) (.cells #[iv vk, iv vk] 24))))
              have HZW := Lib.hid HI2.out.b.size
              clear hb2
              go_wp2_with (first | (at_builtin; refine L_append2 ((vk, vk) : Sp) rfl _ _ 28 rfl Try.underlying28 HIS.out HZ0.out HZ1.out HZ2.out rfl Nat.two_pos encS_len (encS_one _) rfl rfl HI2.out.o1 (encS_cell ?_ ?_) HB2.out HZW.out ?_; go_simp; go_simp; intro g3 c3 w3 hown3 hbe3 hg3 hl3; have HI3 := Lib.hid ((HI2.out.more hown3 hbe3 hg3 hl3).below (bpush (Below.refl _ _) (.cells #[iv (1 + hk2)] 3))); clear hown3 hbe3 hg3 hl3) | (at_builtin; refine L_append2 (1 + hk2) rfl _ _ 29 rfl Try.underlying29 HJ.out HY0.out HY1.out HY2.out rfl Nat.one_pos encI_len (encI_one _) rfl rfl HI3.out.o2 (encI_cell ?_) HB3.out HI3.out.b.size ?_; go_simp; intro g4 c4 w4 hown4 hbe4 hg4 hl4; have HI4 := Lib.hid ((HI3.out.swap.more hown4 hbe4 hg4 hl4).swap); clear hown4 hbe4 hg4 hl4))
              go_roundw
              case rel => exact ⟨k + 1, by omega, by go_num, by rw [HSF.out, HSP.out]; rw [wsF_len, wsP_len] at HI4; rw [wsF_len, wsP_len]; exact HI4.out⟩
              case measure => simp [intOf]; omega
      · obtain rfl : k = wsLen V := by omega
        by_cases h6 : wsLen V = 6
        · have k6 : ¬ ((wsLen V : Int) < 6) := by omega
          go_wp2_with fail
          go_meet
          exact HI
        · have k6 : (wsLen V : Int) < 6 := by omega
          have n0 : ((wsLen V : Int) == 0) = false := by rw [beq_eq_false_iff_ne]; omega
          have n2 : ¬ ((wsLen V : Int) < (V.length : Int)) := by unfold wsLen at h6 hN ⊢; split <;> simp_all <;> omega
          go_wp2_with fail
          go_meet
          exact HI
  case rest =>
    have HCU := hcut; clear hcut
    obtain ⟨wc0, hwc0⟩ : ∃ W : World, W = wc := ⟨_, rfl⟩
    subst hwc0
    obtain ⟨f, hfd⟩ : ∃ f : Nat → Int, (fun i => V.getD i 0 % 41) = f := ⟨_, rfl⟩
    obtain ⟨h, hhd⟩ : ∃ h : Nat → Int, (fun i => H.getD i 0 % 6) = h := ⟨_, rfl⟩
    have hf : ∀ i, 0 ≤ f i ∧ f i ≤ 40 := fun i => by rw [← hfd]; have := byteD_bd HVV.out i; dsimp only; omega
    have hh : ∀ i, 0 ≤ h i ∧ h i ≤ 5 := fun i => by rw [← hhd]; have := byteD_bd HHH.out i; dsimp only; omega
    rw [hfd, hhd] at HCU
    clear HVV HHH HFV HFH hlV ht et ew ew2 HT0 hfd hhd
    generalize wsLen V = N at *
    obtain ⟨k1, k2, k3, k4⟩ := ws_levels hf hh hT6 hN
    have HLV : Hid (∀ (w : World) (fv pv : Value), SliceOf encS 2 w fv (wsF f N) → Ints w pv (wsP h N) → Calls Try.prog 5 #[.agg #[iv 8, iv T, iv 0, iv 0, iv 500, iv 250, iv 250], fv, pv] w (SpansRes ((List.range N).map fun i => (wsN f h T (i + 1), wsN f h T (i + 1))) 0 w)) := fun w fv pv h1 h2 => by
      have := Levels_good ⟨8, T, 0, 0, 500, 250, 250⟩ (wsF f N) (wsP h N) fv pv w k1 k2 h1 h2
      rw [k3, k4] at this; exact this
    have hPb := wsP_bd hh N
    have hs1 := sum_one (P := wsP h N) (fun p hp => by have := hPb p hp; omega)
    have hs2 := sum_bdk (K := 6) (by omega) (wsP h N) (fun p hp => by have := hPb p hp; omega)
    rw [wsP_len] at hs1 hs2
    have hsT0 : 0 ≤ (wsP h N).sum * T := Int.mul_nonneg (by omega) hT6.1
    have hsT1 : (wsP h N).sum * T ≤ 36 * 6 := Int.mul_le_mul (by omega) hT6.2 hT6.1 (by omega)
    have HSUM := Lib.hid (fun (W : World) (v : Value) (hs : Ints W v (wsP h N)) => firSum_any (wsP h N) v W (fun p hp => by have := hPb p hp; omega) (by rw [wsP_len]; omega) hs)
    have HPE : Hid (payL (wsP h N) ((wsP h N).sum * T) = (List.range N).map fun i => (1 + h i) * T) := by
      unfold Hid; rw [pay_even (by omega), ws_sum]
    have HSH : Hid (∀ (W : World) (ig ic : Nat), Ints W (.slice (some ⟨ig, 0, none⟩) N ic) (wsP h N) → Calls Try.prog 8 #[.slice (some ⟨ig, 0, none⟩) N ic, iv ((wsP h N).sum * T)] W (ShareRes ((List.range N).map fun i => (1 + h i) * T) N W)) := fun W ig ic hs => by
      have := Share_good (wsP h N) ((wsP h N).sum * T) (some ⟨ig, 0, none⟩) ic W (fun p hp => by have := hPb p hp; omega) (by rw [wsP_len]; omega) (by omega) (by rw [wsP_len]; exact hs)
      rw [wsP_len, HPE.out] at this; exact this
    have hew : IntKind.i64.wrap ((wsP h N).sum * T) = (wsP h N).sum * T := IntWalk.i64_in _ ⟨by omega, by omega⟩
    obtain ⟨lg, lc, rfl⟩ := owns_addr HCU.out.o1 (by rw [wsF_len]; omega)
    obtain ⟨pg, pc, rfl⟩ := owns_addr HCU.out.o2 (by rw [wsP_len]; omega)
    have HSL := Lib.hid (Owns.slice HCU.out.o1 encS_len (by rw [wsF_len]; omega))
    have HSP := Lib.hid (Owns.slice HCU.out.o2 encI_len (by rw [wsP_len]; omega))
    rw [wsF_len] at HSL ⊢
    rw [wsP_len] at HSP ⊢
    have HFO : Hid (∀ W : World, SliceOf encS 2 W (.slice (some ⟨lg, 0, none⟩) N lc) (wsF f N) → Calls Try.prog 6 #[.slice (some ⟨lg, 0, none⟩) N lc] W fun e w' => ∃ v, e = .returned v ∧ Owns encS 2 24 W.heap.size w' v (wsF f N) ∧ Below W.heap.size W w') := fun W hs => by
      have := firOwn_any (wsF f N) ⟨lg, 0, none⟩ lc W (by rw [wsF_len]; omega) (by rw [wsF_len]; exact hs)
      rw [wsF_len] at this; exact this
    have HFI : Hid (∀ W : World, Ints W (.slice (some ⟨pg, 0, none⟩) N pc) (wsP h N) → Calls Try.prog 7 #[.slice (some ⟨pg, 0, none⟩) N pc] W fun e w' => ∃ ig ic, e = .returned (.slice (some ⟨ig, 0, none⟩) N ic) ∧ Ints w' (.slice (some ⟨ig, 0, none⟩) N ic) (wsP h N) ∧ Below W.heap.size W w') := fun W hs => by
      have := firInts_any (wsP h N) ⟨pg, 0, none⟩ pc W (by rw [wsP_len]; omega) (by rw [wsP_len]; exact hs)
      rw [wsP_len] at this
      refine this.mono ?_
      rintro e w' ⟨v, rfl, ho, hb⟩
      obtain ⟨ig, ic, rfl⟩ := owns_addr ho (by rw [wsP_len]; omega)
      have hs := Owns.slice ho encI_len (by rw [wsP_len]; omega)
      rw [wsP_len] at hs ⊢
      exact ⟨ig, ic, rfl, hs, hb⟩
    have HBC : Hid (Below w.heap.size w wc0) := HBm.out.trans (HCU.out.b.mono HBm.out.size)
    have hrm := (HCU.out.b.block w1.heap.size (by have := HZm.out; omega)).trans HRm.out
    have d0 : wc0.cell? ⟨w1.heap.size, 0, none⟩ = some (iv 8) := by rw [cell_of_row _ _ _ _ _ _ hrm]; rfl
    have d1 : wc0.cell? ⟨w1.heap.size, 1, none⟩ = some (iv T) := by rw [cell_of_row _ _ _ _ _ _ hrm]; rfl
    have d2 : wc0.cell? ⟨w1.heap.size, 2, none⟩ = some (iv 0) := by rw [cell_of_row _ _ _ _ _ _ hrm]; rfl
    have d3 : wc0.cell? ⟨w1.heap.size, 3, none⟩ = some (iv 0) := by rw [cell_of_row _ _ _ _ _ _ hrm]; rfl
    have d4 : wc0.cell? ⟨w1.heap.size, 4, none⟩ = some (iv 500) := by rw [cell_of_row _ _ _ _ _ _ hrm]; rfl
    have d5 : wc0.cell? ⟨w1.heap.size, 5, none⟩ = some (iv 250) := by rw [cell_of_row _ _ _ _ _ _ hrm]; rfl
    have d6 : wc0.cell? ⟨w1.heap.size, 6, none⟩ = some (iv 250) := by rw [cell_of_row _ _ _ _ _ _ hrm]; rfl
    have HRC := Lib.hid hrm
    have hsl := HSL.out; have hsp := HSP.out
    have hbl : Below wc0.heap.size wc0 wc0 := Below.refl _ _
    have HLN := Lib.hid (wsF_len f N)
    clear k1 k2 k3 k4 hs1 hs2 hsT0 hsT1 hrm HCU HBm HRm
    go_wp2_with fail
    go_cut [13, 14] (fun s13 s14 wx => ∃ vg vc, s13 = .slice (some ⟨vg, 0, none⟩) N vc ∧ s14 = iv 0 ∧ Hid (SliceOf encS 2 wx (.slice (some ⟨vg, 0, none⟩) N vc) ((List.range N).map fun i => (wsN f h T (i + 1), wsN f h T (i + 1)))) ∧ Hid (Below wc0.heap.size wc0 wx))
    case first =>
      go_region_held3 (fun w' => w'.cell? ⟨w1.heap.size, 0, none⟩ = some (iv 8) ∧ w'.cell? ⟨w1.heap.size, 1, none⟩ = some (iv T) ∧ w'.cell? ⟨w1.heap.size, 2, none⟩ = some (iv 0) ∧ w'.cell? ⟨w1.heap.size, 3, none⟩ = some (iv 0) ∧ w'.cell? ⟨w1.heap.size, 4, none⟩ = some (iv 500) ∧ w'.cell? ⟨w1.heap.size, 5, none⟩ = some (iv 250) ∧ w'.cell? ⟨w1.heap.size, 6, none⟩ = some (iv 250) ∧ SliceOf encS 2 w' (.slice (some ⟨lg, 0, none⟩) N lc) (wsF f N) ∧ Ints w' (.slice (some ⟨pg, 0, none⟩) N pc) (wsP h N) ∧ Below wc0.heap.size wc0 w')
        (first | (go_split_ands; refine ⟨?_, ?_, ?_, ?_, ?_, ?_, ?_, ?_, ?_, ?_⟩ <;> first | assumption | exact kcell hbK (by assumption) | exact kfrozen hbK (by assumption) (by assumption) | exact bstep (by assumption) hbK | exact SliceOf.below (by assumption) hbK) | (refine ⟨?_, ?_, ?_, ?_, ?_, ?_, ?_, ?_, ?_, ?_⟩ <;> first | exact Below.drew (by assumption) | exact SliceOf.below (by assumption) ((Below.refl _ _).drew) | assumption))
        (first | (go_split_ands; (with_reducible refine (HFO.out _ (by assumption)).mono ?_); rintro e wO ⟨vo, rfl, hoO, hbK⟩; have hSO := Owns.slice hoO encS_len (by rw [HLN.out]; omega); (try have hSI := SliceOf.below hSI hbK)) | (go_split_ands; (with_reducible refine (HFI.out _ (by assumption)).mono ?_); rintro e wI ⟨ig, ic, rfl, hSI, hbK⟩; (try have hSO := SliceOf.below hSO hbK)) | ((with_reducible refine (HLV.out _ _ _ hSO hSI).mono ?_); rintro e wV ⟨vl, rfl, hoV, hbK⟩))
      all_goals
        rename_i hHeld
        have HVS := Lib.hid (Owns.slice hoV encS_len (by simp; omega))
        obtain ⟨vg, vc, rfl⟩ := owns_addr hoV (by simp; omega)
        simp only [List.length_map, List.length_range] at HVS ⊢
        have HHB := Lib.hid hHeld.2.2.2.2.2.2.2.2.2
        clear hHeld
        go_wp2_with fail
        go_meet
        exact ⟨_, _, rfl, rfl, HVS.out, HHB.out⟩
    case rest =>
      obtain ⟨vg, vc, rfl, rfl, HVS, HB1⟩ := hcut
      obtain ⟨wd, hwd⟩ : ∃ W : World, W = wc := ⟨_, rfl⟩
      subst hwd
      have hrm := (HB1.out.block w1.heap.size (lt_of_cell d0)).trans HRC.out
      have d1' : wd.cell? ⟨w1.heap.size, 1, none⟩ = some (iv T) := by rw [cell_of_row _ _ _ _ _ _ hrm]; rfl
      have HRD := Lib.hid hrm
      have hsp' := HSP.out.below HB1.out
      have HSPD := Lib.hid hsp'
      have HSLD := Lib.hid (HSL.out.below HB1.out)
      have hbl' : Below wd.heap.size wd wd := Below.refl _ _
      clear d0 d1 d2 d3 d4 d5 d6 hrm hsl hsp hbl
      go_wp2_with fail
      go_cut [15, 16] (fun s15 s16 wx => ∃ sg, s15 = .slice (some ⟨sg, 0, none⟩) N N ∧ s16 = iv 0 ∧ Hid (Ints wx (.slice (some ⟨sg, 0, none⟩) N N) ((List.range N).map fun i => (1 + h i) * T)) ∧ Hid (Below wd.heap.size wd wx))
      case first =>
        go_region_held3 (fun w' => w'.cell? ⟨w1.heap.size, 1, none⟩ = some (iv T) ∧ Ints w' (.slice (some ⟨pg, 0, none⟩) N pc) (wsP h N) ∧ Below wd.heap.size wd w')
          (first | (go_split_ands; refine ⟨?_, ?_, ?_⟩ <;> first | assumption | exact kcell hbK (by assumption) | exact kfrozen hbK (by assumption) (by assumption) | exact bstep (by assumption) hbK | exact SliceOf.below (by assumption) hbK) | (refine ⟨?_, ?_, ?_⟩ <;> first | exact Below.drew (by assumption) | exact SliceOf.below (by assumption) ((Below.refl _ _).drew) | assumption))
          (first | (go_split_ands; (with_reducible refine (HFI.out _ (by assumption)).mono ?_); rintro e wI ⟨ig, ic, rfl, hSI, hbK⟩) | (go_split_ands; (with_reducible refine (HSUM.out _ _ (by assumption)).mono ?_); rintro e wS ⟨rfl, hbK⟩; (try have hSI := SliceOf.below hSI hbK)) | ((with_reducible refine (HSH.out _ _ _ hSI).mono ?_); rintro e wV ⟨sg, hsg, rfl, hoV, hbK⟩))
        all_goals
          rename_i hHeld
          have HVS := Lib.hid hoV
          have HHB := Lib.hid hHeld.2.2
          clear hHeld
          go_wp2_with fail
          go_meet
          exact ⟨_, rfl, rfl, HVS.out, HHB.out⟩
      case rest =>
        obtain ⟨sg, rfl, rfl, HSS, HB2⟩ := hcut
        obtain ⟨we, hwe⟩ : ∃ W : World, W = wc := ⟨_, rfl⟩
        subst hwe
        have HRE := Lib.hid ((HB2.out.block w1.heap.size (lt_of_cell d1')).trans HRD.out)
        have HSPE := Lib.hid (HSPD.out.below HB2.out)
        have HSLE := Lib.hid (HSLD.out.below HB2.out)
        have HVE := Lib.hid (HVS.out.below HB2.out)
        have HBE := Lib.hid (bstep (bstep HBC.out HB1.out) HB2.out)
        have hzE : Hid (w1.heap.size < we.heap.size) := lt_of_cell (b := w1.heap.size) (o := 0) (v := iv 8) (by rw [cell_of_row _ _ _ _ _ _ HRE.out]; rfl)
        have nN : ((N : Int) != (N : Int)) = false := by simp
        clear d1' hsp' hbl' HSL HSP HRC HRD HSPD HSLD HVS HFO HFI HLV HSUM HSH HPE hew HBC HB1 HB2 HLN hPb
        go_wp2_with fail
        go_loopw [17, 18] (fun n i wr => ∃ k : Nat, k ≤ N ∧ n = iv (wsN f h T k) ∧ i = iv k ∧ Hid (Below we.heap.size we wr)) (fun _ i _ => N - (intOf i).toNat)
        case atStart => exact ⟨0, Nat.zero_le _, rfl, rfl, Below.refl _ _⟩
        case round =>
          obtain ⟨k, hk, rfl, rfl, HW⟩ := hrel
          by_cases hlt : k < N
          · obtain ⟨c0, -⟩ := sl_cellsS (HSLE.out.below HW.out) (wsF_get f hlt)
            obtain ⟨v0, v1⟩ := sl_cellsS (p := (wsN f h T (k + 1), wsN f h T (k + 1))) (k := k) (HVE.out.below HW.out) (by simp [hlt])
            have p0 := sl_cellI (HSPE.out.below HW.out) (wsP_get h hlt)
            have s0 := sl_cellI (x := (1 + h k) * T) (k := k) (HSS.out.below HW.out) (by simp [hlt])
            have hrm := (HW.out.block w1.heap.size hzE.out).trans HRE.out
            have d1 : wr.cell? ⟨w1.heap.size, 1, none⟩ = some (iv T) := by rw [cell_of_row _ _ _ _ _ _ hrm]; rfl
            have HNX : Hid (wsN f h T (k + 1) = wsN f h T k + (f k - (1 + h k) * T)) := rfl
            have b1 := wsN_bd hf hh hT6 k
            have b2 := hf k; have b3 := hh k
            have b4 : 0 ≤ (1 + h k) * T := Int.mul_nonneg (by omega) hT6.1
            have b5 : (1 + h k) * T ≤ 6 * 6 := Int.mul_le_mul (by omega) hT6.2 hT6.1 (by omega)
            have e0 : IntKind.i64.wrap ((1 + h k) * T) = (1 + h k) * T := IntWalk.i64_in _ ⟨by omega, by omega⟩
            have e1 : IntKind.i64.wrap (f k - (1 + h k) * T) = f k - (1 + h k) * T := IntWalk.i64_in _ ⟨by omega, by omega⟩
            have e2 : IntKind.i64.wrap (wsN f h T k + (f k - (1 + h k) * T)) = wsN f h T k + (f k - (1 + h k) * T) := IntWalk.i64_in _ ⟨by omega, by omega⟩
            have i0 : (0 : Int) ≤ (k : Int) := by omega
            have i1 : (k : Int) < (N : Int) := by omega
            have n1 : (((1 + h k) * T) != ((1 + h k) * T)) = false := by simp
            rw [HNX.out] at v0 v1
            dsimp only at c0 v0 v1
            clear hrm b1 b2 b3 b4 b5
            go_wp2_with fail
            go_quiet (fail)
            go_wp2_with fail
            have g0 : (wr.drewN nq).cell? ⟨vg, k * 2, none⟩ = some (iv (wsN f h T k + (f k - (1 + h k) * T))) := v0
            have g1 : (wr.drewN nq).cell? ⟨vg, k * 2 + 1, none⟩ = some (iv (wsN f h T k + (f k - (1 + h k) * T))) := v1
            have g2 : (wr.drewN nq).cell? ⟨pg, k, none⟩ = some (iv (1 + h k)) := p0
            have g3 : (wr.drewN nq).cell? ⟨sg, k, none⟩ = some (iv ((1 + h k) * T)) := s0
            have g4 : (wr.drewN nq).cell? ⟨w1.heap.size, 1, none⟩ = some (iv T) := d1
            have g5 : Below we.heap.size we (wr.drewN nq) := bdrewN HW.out nq
            clear c0 v0 v1 p0 s0 d1
            generalize wr.drewN nq = Wq at *
            generalize (wsN f h T k + (f k - (1 + h k) * T)) = nx at *
            generalize hpp : (1 + h k) * T = pp at *
            go_region_held3 (fun w' => w'.cell? ⟨vg, k * 2, none⟩ = some (iv nx) ∧ w'.cell? ⟨vg, k * 2 + 1, none⟩ = some (iv nx) ∧ w'.cell? ⟨pg, k, none⟩ = some (iv (1 + h k)) ∧ w'.cell? ⟨sg, k, none⟩ = some (iv pp) ∧ w'.cell? ⟨w1.heap.size, 1, none⟩ = some (iv T) ∧ Below we.heap.size we w')
              (first | (go_split_ands; refine ⟨?_, ?_, ?_, ?_, ?_, ?_⟩ <;> first | assumption | exact kcell hbK (by assumption) | exact kfrozen hbK (by assumption) (by assumption) | exact bstep (by assumption) hbK | exact SliceOf.below (by assumption) hbK) | (refine ⟨?_, ?_, ?_, ?_, ?_, ?_⟩ <;> first | exact Below.drew (by assumption) | exact SliceOf.below (by assumption) ((Below.refl _ _).drew) | assumption))
              (((with_reducible refine (firSpan_any _ _ _).mono ?_); rintro e wI ⟨rfl, hbK⟩))
            all_goals
              rename_i hHeld
              have HHB := Lib.hid hHeld.2.2.2.2.2
              clear hHeld
              go_wp2_with fail
              go_roundw
              case rel => exact ⟨k + 1, by omega, by rw [HNX.out], by go_num, HHB.out⟩
              case measure => simp [intOf]; omega
          · obtain rfl : k = N := by omega
            have n1 : ¬ ((k : Int) < (k : Int)) := by omega
            go_wp2_with fail
            refine (firKnown06_any _).mono ?_
            rintro e w9 ⟨rfl, hb9⟩
            have HB9 := Lib.hid (bstep (bstep HBE.out HW.out) hb9); clear hb9
            go_wp2_with fail
            go_ret
            exact ⟨rfl, HB9.out⟩
end Go.Proofs.Ytfpbfhjfhfmanac
