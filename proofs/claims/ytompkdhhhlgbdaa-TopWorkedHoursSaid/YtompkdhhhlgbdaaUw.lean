/- TopWorkedHours' walk. -/
import Derived.Test.YtompkdhhhlgbdaaSo
import Derived.Test.YtompkdhhhlgbdaaUh
import Derived.Deep.DeepCutAuto
namespace Go.Proofs.Ytompkdhhhlgbdaa
open Go Go.RowKit Go.Shelf
attribute [local go_sem ↓] Go.wp_at_zero Go.wp_at_succ

theorem wcell0 (W : World) (a b : Value) (t : TypeId) : (W.alloc (.cells #[a, b] t)).cell? ⟨W.heap.size, 0, none⟩ = some a := by rw [cell_of_row _ _ _ _ _ _ (heap_new W #[a, b] t)]; rfl
theorem wcell1 (W : World) (a b : Value) (t : TypeId) : (W.alloc (.cells #[a, b] t)).cell? ⟨W.heap.size, 1, none⟩ = some b := by rw [cell_of_row _ _ _ _ _ _ (heap_new W #[a, b] t)]; rfl
theorem wfroz0 (W : World) (a b : Value) (t : TypeId) : (W.alloc (.cells #[a, b] t)).frozen? ⟨W.heap.size, 0, none⟩ = false := frozen_of_row _ _ _ _ _ (heap_new W #[a, b] t)
theorem wfroz1 (W : World) (a b : Value) (t : TypeId) : (W.alloc (.cells #[a, b] t)).frozen? ⟨W.heap.size, 1, none⟩ = false := frozen_of_row _ _ _ _ _ (heap_new W #[a, b] t)
theorem wset2 {W : World} {g b o : Nat} {u v x : Value} (hne : b ≠ g) (h : W.cell? ⟨b, o, none⟩ = some x) : ((W.setCell ⟨g, 0, none⟩ u).setCell ⟨g, 1, none⟩ v).cell? ⟨b, o, none⟩ = some x :=
  (World.cell?_of_block (Below.heap_setCell _ _ _ _ hne)).trans ((World.cell?_of_block (Below.heap_setCell _ _ _ _ hne)).trans h)
theorem balloc_swap {B : Nat} {w W : World} {o o' : Obj} (h : Below B w (W.alloc o)) (hB : B ≤ W.heap.size) : Below B w (W.alloc o') :=
  ⟨h.os, h.tape, h.output, by have := h.size; simp at this ⊢; omega, fun k hk => (Below.heap_alloc W o' k (by omega)).trans ((Below.heap_alloc W o k (by omega)).symm.trans (h.block k hk))⟩
theorem kswap {W : World} {o o' : Obj} {b i : Nat} {v : Value} (h : (W.alloc o).cell? ⟨b, i, none⟩ = some v) (hb : b < W.heap.size) : (W.alloc o').cell? ⟨b, i, none⟩ = some v := by
  rw [World.cell?_alloc_lt _ _ _ hb] at h ⊢; exact h
def enc1 (n : Int) : List Value := [u8 n]
theorem sliceU_cell {w : World} {ha : Option Addr} {n c k : Nat} {H : List Int} {x : Int} (h : SliceU enc1 1 w (.slice ha n c) H) (hk : H[k]? = some x) : ∃ b o, ha = some ⟨b, o, none⟩ ∧ w.cell? ⟨b, o + k, none⟩ = some (u8 x) := by
  obtain ⟨a', c', hv, -, hc⟩ := h
  obtain ⟨gb, go, ha, hj⟩ := hc k x hk
  simp only [Value.slice.injEq] at hv
  have h0 := hj 0 _ rfl
  simp only [Nat.add_zero, Nat.mul_one] at h0
  exact ⟨gb, go, hv.1.trans ha, h0⟩

theorem one_valid2 {t bl bh h nl nh : Int} {F : List Sp} (hc : sChk ⟨1, t, bl, bh, h, nl, nh⟩ F = 0) : vMill ⟨1, t, bl, bh, h, nl, nh⟩ = true := (sChk_zero hc).1

set_option maxRecDepth 20000 in
set_option maxHeartbeats 12800000 in
theorem worked_any (b : Nat → Int) (m0 m1 m2 m3 : Int) (fv hv : Value) (V : List (Int × Int)) (H : List Int) (w : World) (hb : ∀ i, 0 ≤ b i ∧ b i ≤ 255) (h0 : 0 ≤ m0 ∧ m0 ≤ 255) (h1 : 0 ≤ m1 ∧ m1 ≤ 255) (h2 : 0 ≤ m2 ∧ m2 ≤ 255) (h3 : 0 ≤ m3 ∧ m3 ≤ 255) (hH : ∀ x ∈ H, 0 ≤ x ∧ x ≤ 255) (hV : ∀ p ∈ V, (0 ≤ p.1 ∧ p.1 ≤ 255) ∧ (0 ≤ p.2 ∧ p.2 ≤ 255)) (hf : SliceU enc2 2 w fv V) (hh : SliceU enc1 1 w hv H) :
    Calls Try.prog 5 #[.agg (fyCells b), .agg #[u8 m0, u8 m1, u8 m2, u8 m3, fv], hv] w fun e w' => e = .returned (.bool true) ∧ Below w.heap.size w w' := by
  have HBB := Lib.hid hb
  have hCC := fb_valid h0 h1 h2 h3 hV
  have hFF := fun W (h : SliceU enc2 2 W fv V) => fbMade_any m0 m1 m2 m3 fv V W h0 h1 h2 h3 hV h
  have hFl : (fbL V (fbN V)).length ≤ 12 := by rw [fbL_len]; exact (fbN_bd V).2
  have hb20 : (fbMl m0 m1 m2 m3).bl = 20 ∧ (fbMl m0 m1 m2 m3).bh = 30 := ⟨rfl, rfl⟩
  generalize fbMl m0 m1 m2 m3 = m at *
  generalize fbL V (fbN V) = F at *
  have HFB := Lib.hid hFF; clear hFF
  have hC1 := one_chk hCC
  have hl0 : 0 < F.length := (sChk_zero hCC).2.2.1
  clear hCC
  obtain ⟨kk, t, bl, bh, h, nl, nh⟩ := m
  dsimp only at hC1 hb20
  obtain ⟨rfl, rfl⟩ := hb20
  have hVT : [fyT b 0, fyT b 1, fyT b 2].all vTrack = true := by simp [fyT_valid hb]
  have HHH := Lib.hid hH; clear hH
  obtain ⟨ha, hc, rfl, hHl, -⟩ := id hh
  have hmv := one_valid2 hC1
  have hMK : vPlan 1 (wPlan H F.length) F.length F.length = true := wPlan_ok H F.length
  have HGO : Hid (∀ (w : World) (fv pv : Value), SliceOf encS 2 w fv F → Ints w pv (wPlan H F.length) → Calls Try.prog 17 #[.agg #[iv 1, iv t, iv 20, iv 30, iv h, iv nl, iv nh], fv, pv] w fun e w' => e = .returned (.tuple #[iv (goesHour ⟨1, t, 20, 30, h, nl, nh⟩ F (wPlan H F.length)), .bool (goesSure ⟨1, t, 20, 30, h, nl, nh⟩ F (wPlan H F.length)), iv (goesErr ⟨1, t, 20, 30, h, nl, nh⟩ F (wPlan H F.length))]) ∧ Below w.heap.size w w') := fun w fv pv h1 h2 => Goes_good ⟨1, t, 20, 30, h, nl, nh⟩ F (wPlan H F.length) fv pv w hC1 hMK h1 h2
  have HLV : Hid (∀ (w : World) (fv pv : Value), SliceOf encS 2 w fv F → Ints w pv (wPlan H F.length) → Calls Try.prog 19 #[.agg #[iv 1, iv t, iv 20, iv 30, iv h, iv nl, iv nh], fv, pv] w (SpansRes (levL ⟨1, t, 20, 30, h, nl, nh⟩ F (wPlan H F.length)) (levErr ⟨1, t, 20, 30, h, nl, nh⟩ F (wPlan H F.length)) w)) := fun w fv pv h1 h2 => Levels_good ⟨1, t, 20, 30, h, nl, nh⟩ F (wPlan H F.length) fv pv w hC1 hMK h1 h2
  have HBW2 : Hid (∀ (w : World) (pv : Value), Ints w pv (wPlan H F.length) → Calls Try.prog 20 #[.agg #[iv 1, iv t, iv 20, iv 30, iv h, iv nl, iv nh], pv] w fun e w' => e = .returned (.tuple #[.agg #[iv ((wPlan H F.length).sum * 20), iv ((wPlan H F.length).sum * 30)], iv 0]) ∧ Below w.heap.size w w') := fun w pv h2 => Blows_good ⟨1, t, 20, 30, h, nl, nh⟩ (wPlan H F.length) pv w hmv (by rw [vPlan_iff] at hMK ⊢; exact ⟨by omega, hMK.2⟩) h2
  have HLL : Hid ((levL ⟨1, t, 20, 30, h, nl, nh⟩ F (wPlan H F.length)).length = if rightB ⟨1, t, 20, 30, h, nl, nh⟩ F (wPlan H F.length) = true then F.length else 0) := by
    simp only [Hid, levL]
    cases hr : rightB ⟨1, t, 20, 30, h, nl, nh⟩ F (wPlan H F.length)
    · rfl
    · simp only [if_true, zipTo_len]
      simpa [rightB, wPlan_len] using hr
  have HGE : Hid (goesErr ⟨1, t, 20, 30, h, nl, nh⟩ F (wPlan H F.length) = if rightB ⟨1, t, 20, 30, h, nl, nh⟩ F (wPlan H F.length) = true then 7 else 0) := rfl
  have HLE : Hid (levErr ⟨1, t, 20, 30, h, nl, nh⟩ F (wPlan H F.length) = if rightB ⟨1, t, 20, 30, h, nl, nh⟩ F (wPlan H F.length) = true then 0 else 9) := rfl
  have hws := wPlan_sum H F.length
  have HVT := Lib.hid hVT
  clear hVT hC1 hmv hMK
  obtain ⟨w0, hw0⟩ : ∃ W : World, ((w.alloc (.cells (fyCells b) 25)).alloc (.cells #[u8 m0, u8 m1, u8 m2, u8 m3, fv] 28)) = W := ⟨_, rfl⟩
  have HB0 : Hid (Below w.heap.size w w0) := by rw [← hw0]; exact (by repeat (first | exact Below.refl _ _ | refine Below.drew ?_ | refine bpush ?_ _ | refine bput ?_ (by simp) _ | (refine bstep ?_ (by assumption))))
  have hz0 : w0.heap.size = w.heap.size + 2 := by rw [← hw0]; simp
  have HR1 : Hid (w0.heap[w.heap.size + 1]? = some (.cells #[u8 m0, u8 m1, u8 m2, u8 m3, fv] 28 (0, 0))) := by rw [← hw0]; exact heapA (by simp)
  have HF0 := Lib.hid (SliceU.below hf HB0.out)
  have HH0 := Lib.hid (SliceU.below hh HB0.out)
  have HZ0 := Lib.hid hz0
  simp only [fyCells] at hw0 ⊢
  have HW0 := Lib.hid hw0
  clear hw0 hf hh hz0
  go_enter Try.func5, Try.ntmps5
  go_wp2_with fail
  rw [HW0.out]
  refine (fyMade_any b _ HBB.out).mono ?_
  rintro e w1 ⟨tv, rfl, ho1, hb1⟩
  obtain ⟨tg, tc, rfl⟩ := owns_addr ho1 (by simp)
  have hz0 := HZ0.out
  have HS1 := Lib.hid (Owns.slice ho1 encT_len (by simp))
  have hz1 := hb1.size
  have x1 := (hb1.block (w.heap.size + 1) (by omega)).trans HR1.out
  have HF1 := Lib.hid (SliceU.below HF0.out hb1)
  have HH1 := Lib.hid (SliceU.below HH0.out hb1)
  have HB1 := Lib.hid (bstep HB0.out hb1)
  have c0 : w1.cell? ⟨w.heap.size + 1, 0, none⟩ = some (u8 m0) := by rw [cell_of_row _ _ _ _ _ _ x1]; rfl
  have c1 : w1.cell? ⟨w.heap.size + 1, 1, none⟩ = some (u8 m1) := by rw [cell_of_row _ _ _ _ _ _ x1]; rfl
  have c2 : w1.cell? ⟨w.heap.size + 1, 2, none⟩ = some (u8 m2) := by rw [cell_of_row _ _ _ _ _ _ x1]; rfl
  have c3 : w1.cell? ⟨w.heap.size + 1, 3, none⟩ = some (u8 m3) := by rw [cell_of_row _ _ _ _ _ _ x1]; rfl
  have c4 : w1.cell? ⟨w.heap.size + 1, 4, none⟩ = some fv := by rw [cell_of_row _ _ _ _ _ _ x1]; rfl
  have q1 : w.heap.size + 1 < w1.heap.size := by omega
  clear ho1 hb1 x1 hz1 hz0 hb h0 h1 h2 h3 hV
  go_wp2_with fail
  refine (HFB.out _ (SliceU.below HF1.out (bpush (Below.refl _ _) _))).mono ?_
  rintro e w2 ⟨lv, rfl, ho2, hb2⟩
  obtain ⟨lg, lc, rfl, hcap⟩ := owns_addr2 ho2 hl0
  simp only [encMl]
  have HC7 : Hid ((w1.alloc (.cells #[.slice (some ⟨tg, 0, none⟩) 3 tc, .slice none 0 0] 33)).heap[w1.heap.size]? = some (.cells #[.slice (some ⟨tg, 0, none⟩) 3 tc, .slice none 0 0] 33 (0, 0))) := heap_new _ _ _
  have hbA : Below w1.heap.size w1 w2 := bstep (bpush (Below.refl _ _) _) hb2
  have hzA : w1.heap.size < w2.heap.size := Nat.lt_of_lt_of_le (by simp) hb2.size
  have HC72 := Lib.hid ((hb2.block w1.heap.size (by simp)).trans HC7.out)
  have HS2 := Lib.hid (SliceOf.below HS1.out hbA)
  have HB2 := Lib.hid (bstep HB1.out hbA)
  have HSL := Lib.hid (Owns.slice ho2 encS_len (by omega))
  have HH2 := Lib.hid (SliceU.below HH1.out hbA)
  clear ho2 hb2 hbA c0 c1 c2 c3 c4
  go_wp2_with fail
  obtain ⟨Wn, hWn⟩ : ∃ Wn : World, (w2.alloc (.cells #[.int .i64 1, .int .i64 t, .int .i64 20, .int .i64 30, .int .i64 h, .int .i64 nl, .int .i64 nh] 38)).alloc (.cells #[] 3) = Wn := ⟨_, rfl⟩
  rw [hWn]
  have hbN : Below w2.heap.size w2 Wn := by rw [← hWn]; exact (by repeat (first | exact Below.refl _ _ | refine Below.drew ?_ | refine bpush ?_ _ | refine bput ?_ (by simp) _ | (refine bstep ?_ (by assumption))))
  have hrN : Wn.heap[w2.heap.size]? = some (.cells #[iv 1, iv t, iv 20, iv 30, iv h, iv nl, iv nh] 38 (0, 0)) := by rw [← hWn]; exact heapC rfl
  have hrP : Wn.heap[w2.heap.size + 1]? = some (.cells #[] 3 (0, 0)) := by rw [← hWn]; exact heapA (by simp)
  have hzN : w2.heap.size + 1 < Wn.heap.size := by rw [← hWn]; simp
  have HSN := Lib.hid (SliceOf.below HS2.out hbN)
  have HLN := Lib.hid (SliceOf.below HSL.out hbN)
  have HBN := Lib.hid (bstep HB2.out hbN)
  have HCN := Lib.hid ((hbN.block w1.heap.size hzA).trans HC72.out)
  have HRN := Lib.hid hrN
  have HPN := Lib.hid (own_blk encI 1 3 (w2.heap.size + 1) hrP (Nat.le_refl _))
  have HBNN := Lib.hid hbN
  clear hrN hbN hWn hrP
  obtain ⟨i0, hi, hz0, hz1, hz2⟩ := info_parts info3
  have HI := Lib.hid hi; have HZ0' := Lib.hid hz0; have HZ1 := Lib.hid hz1; have HZ2 := Lib.hid hz2
  clear hi hz0 hz1 hz2
  go_loopw [10, 11, 12] (fun pv i _ wr => ∃ k : Nat, k ≤ F.length ∧ i = iv k ∧ Hid (Owns encI 1 3 (w2.heap.size + 1) wr pv (wPlan H k)) ∧ Hid (Below (w2.heap.size + 1) Wn wr)) (fun _ i _ _ => F.length - (intOf i).toNat)
  case atStart => exact ⟨0, Nat.zero_le _, rfl, HPN.out, Below.refl _ _⟩
  case round =>
    obtain ⟨k, hk, rfl, HO, HW⟩ := hrel
    by_cases hlt : k < F.length
    · have hsz : w2.heap.size + 1 ≤ wr.heap.size := Nat.le_trans (by omega) HW.out.size
      have hb2' : Hid ((wPlan H k).length + 1 ≤ maxLen ∧ ((wPlan H k).length + 1) * 8 ≤ 140737488355328) := by rw [wPlan_len]; simp [Hid]; unfold maxLen; omega
      by_cases hkh : k < H.length
      · obtain ⟨x, hx⟩ := getElem?_of_lt hkh
        obtain ⟨hx0, hx1⟩ := HHH.out x (List.mem_of_getElem? hx)
        obtain ⟨hb, ho, rfl, c0⟩ := sliceU_cell HH2.out hx
        have hbl : hb < w2.heap.size := lt_of_cell c0
        have c1 := (HW.out.cell (p := ⟨hb, ho + k, none⟩) (by show hb < w2.heap.size + 1; omega)).trans (kcell HBNN.out c0)
        have HSU := Lib.hid (wPlan_succ H k)
        have hgd : (if k < H.length then H.getD k 0 % 2 else 0) = x % 2 := by rw [if_pos hkh]; simp [List.getD, hx]
        rw [hgd] at HSU
        have p0 : x.tmod 2 = x % 2 := Int.tmod_eq_emod_of_nonneg hx0
        have hr : 0 ≤ x % 2 ∧ x % 2 ≤ 1 := by omega
        obtain ⟨hr0, hr1⟩ := hr
        have g0 : IntKind.i64.wrap x = x := IntWalk.i64_in _ ⟨by omega, by omega⟩
        generalize x % 2 = r at *
        have g1 : IntKind.i64.wrap r = r := IntWalk.i64_in _ ⟨by omega, by omega⟩
        have k0 : (0 : Int) ≤ (k : Int) := by omega
        have k1 : (k : Int) < (H.length : Int) := by omega
        have hb3 : Hid (w2.heap.size + 1 ≤ (wr.alloc (.cells #[iv r] 3)).heap.size) := by simp [Hid]; omega
        clear hx c0 hgd
        go_wp2_with (at_builtin; refine L_append1 r rfl _ _ 57 rfl Try.underlying57 HI.out HZ0'.out HZ1.out HZ2.out rfl Nat.one_pos encI_len (encI_one _) rfl rfl (Owns.kept HO.out (bpush (Below.refl _ _) _)) (encI_cell ?_) hb2'.out hb3.out ?_; go_simp; intro v' w3 hown3 hbe3 hg3)
        rw [← HSU.out] at hown3
        have HO3 := Lib.hid hown3
        have HB3 := Lib.hid ((HW.out.trans ((bpush (Below.refl _ _) (.cells #[iv r] 3)).mono hsz)).trans hbe3)
        clear hown3 hbe3 hg3
        go_wp2_with fail
        go_roundw
        case rel => exact ⟨k + 1, by omega, by go_num, HO3.out, HB3.out⟩
        case measure => simp [intOf]; omega
      · have HSU := Lib.hid (wPlan_succ H k)
        rw [if_neg hkh] at HSU
        have k1 : ¬ ((k : Int) < (H.length : Int)) := by omega
        have hb3 : Hid (w2.heap.size + 1 ≤ (wr.alloc (.cells #[iv 0] 3)).heap.size) := by simp [Hid]; omega
        go_wp2_with (at_builtin; refine L_append1 (0 : Int) rfl _ _ 57 rfl Try.underlying57 HI.out HZ0'.out HZ1.out HZ2.out rfl Nat.one_pos encI_len (encI_one _) rfl rfl (Owns.kept HO.out (bpush (Below.refl _ _) _)) (encI_cell ?_) hb2'.out hb3.out ?_; go_simp; intro v' w3 hown3 hbe3 hg3)
        rw [← HSU.out] at hown3
        have HO3 := Lib.hid hown3
        have HB3 := Lib.hid ((HW.out.trans ((bpush (Below.refl _ _) (.cells #[iv 0] 3)).mono hsz)).trans hbe3)
        clear hown3 hbe3 hg3
        go_wp2_with fail
        go_roundw
        case rel => exact ⟨k + 1, by omega, by go_num, HO3.out, HB3.out⟩
        case measure => simp [intOf]; omega
    · obtain rfl : k = F.length := by omega
      obtain ⟨pg, pc, rfl, hpg, -⟩ := Owns.bl HO.out (by rw [wPlan_len]; exact hl0)
      obtain ⟨WL, hWL⟩ : ∃ WL, WL = wr := ⟨_, rfl⟩
      subst hWL
      have hPl := wPlan_len H F.length
      have hP1 := wPlan_mem H F.length
      have hzb : w2.heap.size + 1 ≤ WL.heap.size := Nat.le_trans (by omega) HW.out.size
      have hzw : w.heap.size ≤ w2.heap.size := HB2.out.size
      have HPS := Owns.slice HO.out encI_len (by rw [wPlan_len]; omega)
      have HRL := (HW.out.block w2.heap.size (by omega)).trans HRN.out
      have HCL := Lib.hid ((HW.out.block w1.heap.size (by omega)).trans HCN.out)
      have HBL := Lib.hid (HBN.out.trans (HW.out.mono (by omega)))
      have HLL2 := SliceOf.heapEq HSL.out (fun k hk => (HW.out.block k (by omega)).trans (HBNN.out.block k hk))
      have HSL2 := Lib.hid (SliceOf.heapEq HS2.out (fun k hk => (HW.out.block k (by omega)).trans (HBNN.out.block k hk)))
      generalize wPlan H F.length = P at *
      rw [hPl] at HPS ⊢
      have HFI : Hid (∀ W, Ints W (.slice (some ⟨pg, 0, none⟩) F.length pc) P → Calls Try.prog 18 #[.slice (some ⟨pg, 0, none⟩) F.length pc] W fun e w' => ∃ v, e = .returned v ∧ Owns encI 1 3 W.heap.size w' v P ∧ Below W.heap.size W w') := fun W h => by
        have := firInts_any P ⟨pg, 0, none⟩ pc W (by omega) (by rw [hPl]; exact h)
        rw [hPl] at this; exact this
      have d0 : WL.cell? ⟨w2.heap.size, 0, none⟩ = some (iv 1) := by rw [cell_of_row _ _ _ _ _ _ HRL]; rfl
      have d1 : WL.cell? ⟨w2.heap.size, 1, none⟩ = some (iv t) := by rw [cell_of_row _ _ _ _ _ _ HRL]; rfl
      have d2 : WL.cell? ⟨w2.heap.size, 2, none⟩ = some (iv 20) := by rw [cell_of_row _ _ _ _ _ _ HRL]; rfl
      have d3 : WL.cell? ⟨w2.heap.size, 3, none⟩ = some (iv 30) := by rw [cell_of_row _ _ _ _ _ _ HRL]; rfl
      have d4 : WL.cell? ⟨w2.heap.size, 4, none⟩ = some (iv h) := by rw [cell_of_row _ _ _ _ _ _ HRL]; rfl
      have d5 : WL.cell? ⟨w2.heap.size, 5, none⟩ = some (iv nl) := by rw [cell_of_row _ _ _ _ _ _ HRL]; rfl
      have d6 : WL.cell? ⟨w2.heap.size, 6, none⟩ = some (iv nh) := by rw [cell_of_row _ _ _ _ _ _ HRL]; rfl
      have HRL2 := Lib.hid HRL
      have hbl : Below WL.heap.size WL WL := Below.refl _ _
      have hlm : F.length ≤ 1000000 := by omega
      have hlm2 : F.length ≤ 140737488355328 := by omega
      have hlm3 : P.length ≤ 140737488355328 := by omega
      clear HRL HPN HO HW HBNN HRN HCN HSN HLN HS2 HSL HHH HH2
      generalize goesHour ⟨1, t, 20, 30, h, nl, nh⟩ F P = gh at *
      generalize goesSure ⟨1, t, 20, 30, h, nl, nh⟩ F P = gs at *
      generalize goesErr ⟨1, t, 20, 30, h, nl, nh⟩ F P = ge at *
      generalize levL ⟨1, t, 20, 30, h, nl, nh⟩ F P = LL at *
      generalize levErr ⟨1, t, 20, 30, h, nl, nh⟩ F P = le at *
      generalize rightB ⟨1, t, 20, 30, h, nl, nh⟩ F P = rb at *
      have HLF := Lib.hid HLL2; have HPF := Lib.hid HPS
      go_wp2_with fail
      go_cut [13, 14, 15] (fun s13 s14 s15 wx => s13 = iv gh ∧ s14 = .bool gs ∧ s15 = iv ge ∧ Hid (Below WL.heap.size WL wx))
      case first =>
        go_region_held3 (fun w' => w'.cell? ⟨w2.heap.size, 0, none⟩ = some (iv 1) ∧ w'.cell? ⟨w2.heap.size, 1, none⟩ = some (iv t) ∧ w'.cell? ⟨w2.heap.size, 2, none⟩ = some (iv 20) ∧ w'.cell? ⟨w2.heap.size, 3, none⟩ = some (iv 30) ∧ w'.cell? ⟨w2.heap.size, 4, none⟩ = some (iv h) ∧ w'.cell? ⟨w2.heap.size, 5, none⟩ = some (iv nl) ∧ w'.cell? ⟨w2.heap.size, 6, none⟩ = some (iv nh) ∧ SliceOf encS 2 w' (.slice (some ⟨lg, 0, none⟩) F.length lc) F ∧ Ints w' (.slice (some ⟨pg, 0, none⟩) F.length pc) P ∧ Below WL.heap.size WL w')
          (first | (go_split_ands; refine ⟨?_, ?_, ?_, ?_, ?_, ?_, ?_, ?_, ?_, ?_⟩ <;> first | assumption | exact kcell hbK (by assumption) | exact kfrozen hbK (by assumption) (by assumption) | exact bstep (by assumption) hbK | exact SliceOf.below (by assumption) hbK) | (refine ⟨?_, ?_, ?_, ?_, ?_, ?_, ?_, ?_, ?_, ?_⟩ <;> first | exact Below.drew (by assumption) | exact SliceOf.below (by assumption) ((Below.refl _ _).drew) | assumption))
          (first | (go_split_ands; (with_reducible refine (firOwn_any F _ _ _ hlm (by assumption)).mono ?_); rintro e wO ⟨vo, rfl, hoO, hbK⟩; have hSO := Owns.slice hoO encS_len hlm2; (try have hSI := SliceOf.below hSI hbK)) | (go_split_ands; (with_reducible refine (HFI.out _ (by assumption)).mono ?_); rintro e wI ⟨vi, rfl, hoI, hbK⟩; have hSI := Owns.slice hoI encI_len hlm3; (try have hSO := SliceOf.below hSO hbK)) | ((with_reducible refine (HGO.out _ _ _ hSO hSI).mono ?_); rintro e wG ⟨rfl, hbK⟩))
        all_goals
          rename_i hHeld
          go_wp2_with fail
          go_meet
          exact ⟨rfl, rfl, rfl, hHeld.2.2.2.2.2.2.2.2.2⟩
      case rest =>
        obtain ⟨rfl, rfl, rfl, HBG⟩ := hcut
        clear d0 d1 d2 d3 d4 d5 d6 hbl HLL2 HPS
        obtain ⟨WC, hWC⟩ : ∃ WC, WC = wc := ⟨_, rfl⟩
        subst hWC
        have hrw := (HBG.out.block w2.heap.size (by omega)).trans HRL2.out
        have d0 : WC.cell? ⟨w2.heap.size, 0, none⟩ = some (iv 1) := by rw [cell_of_row _ _ _ _ _ _ hrw]; rfl
        have d1 : WC.cell? ⟨w2.heap.size, 1, none⟩ = some (iv t) := by rw [cell_of_row _ _ _ _ _ _ hrw]; rfl
        have d2 : WC.cell? ⟨w2.heap.size, 2, none⟩ = some (iv 20) := by rw [cell_of_row _ _ _ _ _ _ hrw]; rfl
        have d3 : WC.cell? ⟨w2.heap.size, 3, none⟩ = some (iv 30) := by rw [cell_of_row _ _ _ _ _ _ hrw]; rfl
        have d4 : WC.cell? ⟨w2.heap.size, 4, none⟩ = some (iv h) := by rw [cell_of_row _ _ _ _ _ _ hrw]; rfl
        have d5 : WC.cell? ⟨w2.heap.size, 5, none⟩ = some (iv nl) := by rw [cell_of_row _ _ _ _ _ _ hrw]; rfl
        have d6 : WC.cell? ⟨w2.heap.size, 6, none⟩ = some (iv nh) := by rw [cell_of_row _ _ _ _ _ _ hrw]; rfl
        have hSLc := SliceOf.below HLF.out HBG.out
        have hSPc := SliceOf.below HPF.out HBG.out
        have hbl : Below WC.heap.size WC WC := Below.refl _ _
        clear hrw
        go_wp2_with fail
        go_cut [16, 17] (fun s16 s17 wx => ∃ la lcap, s16 = .slice la LL.length lcap ∧ s17 = iv le ∧ Hid (Below WL.heap.size WL wx))
        case first =>
          go_region_held3 (fun w' => w'.cell? ⟨w2.heap.size, 0, none⟩ = some (iv 1) ∧ w'.cell? ⟨w2.heap.size, 1, none⟩ = some (iv t) ∧ w'.cell? ⟨w2.heap.size, 2, none⟩ = some (iv 20) ∧ w'.cell? ⟨w2.heap.size, 3, none⟩ = some (iv 30) ∧ w'.cell? ⟨w2.heap.size, 4, none⟩ = some (iv h) ∧ w'.cell? ⟨w2.heap.size, 5, none⟩ = some (iv nl) ∧ w'.cell? ⟨w2.heap.size, 6, none⟩ = some (iv nh) ∧ SliceOf encS 2 w' (.slice (some ⟨lg, 0, none⟩) F.length lc) F ∧ Ints w' (.slice (some ⟨pg, 0, none⟩) F.length pc) P ∧ Below WC.heap.size WC w')
            (first | (go_split_ands; refine ⟨?_, ?_, ?_, ?_, ?_, ?_, ?_, ?_, ?_, ?_⟩ <;> first | assumption | exact kcell hbK (by assumption) | exact kfrozen hbK (by assumption) (by assumption) | exact bstep (by assumption) hbK | exact SliceOf.below (by assumption) hbK) | (refine ⟨?_, ?_, ?_, ?_, ?_, ?_, ?_, ?_, ?_, ?_⟩ <;> first | exact Below.drew (by assumption) | exact SliceOf.below (by assumption) ((Below.refl _ _).drew) | assumption))
            (first | (go_split_ands; (with_reducible refine (firOwn_any F _ _ _ hlm (by assumption)).mono ?_); rintro e wO ⟨vo, rfl, hoO, hbK⟩; have hSO := Owns.slice hoO encS_len hlm2; (try have hSI := SliceOf.below hSI hbK)) | (go_split_ands; (with_reducible refine (HFI.out _ (by assumption)).mono ?_); rintro e wI ⟨vi, rfl, hoI, hbK⟩; have hSI := Owns.slice hoI encI_len hlm3; (try have hSO := SliceOf.below hSO hbK)) | ((with_reducible refine (HLV.out _ _ _ hSO hSI).mono ?_); rintro e wV ⟨vl, rfl, hoV, hbK⟩; obtain ⟨la, lcap, rfl⟩ := hoV.len))
          all_goals
            rename_i hHeld
            go_wp2_with fail
            go_meet
            exact ⟨_, _, rfl, rfl, bstep HBG.out hHeld.2.2.2.2.2.2.2.2.2⟩
        case rest =>
          obtain ⟨la, lcap, rfl, rfl, HBV⟩ := hcut
          clear d0 d1 d2 d3 d4 d5 d6 hbl hSLc hSPc
          cases rb
          · have e1 : ge = 0 := by simpa using HGE.out
            have e2 : le = 9 := by simpa using HLE.out
            subst e1 e2
            go_wp2_with fail
            refine (firKnown_any _).mono ?_
            rintro e w9 ⟨rfl, hb9⟩
            have HB9 := Lib.hid (HBL.out.trans ((bstep HBV.out hb9).mono (by omega))); clear hb9
            go_wp2_with fail
            go_ret
            exact ⟨rfl, HB9.out⟩
          · have e1 : ge = 7 := by simpa using HGE.out
            have e2 : le = 0 := by simpa using HLE.out
            have e3 : LL.length = F.length := by simpa using HLL.out
            subst e1 e2
            rw [e3]
            clear e3 HLL HLE HGE
            obtain ⟨WD, hWD⟩ : ∃ WD, WD = wc := ⟨_, rfl⟩
            subst hWD
            obtain ⟨hs0, hs1⟩ := hws
            obtain ⟨ns, hns⟩ := Int.eq_ofNat_of_zero_le hs0
            have HFS : Hid (∀ (w : World) (v : Value), Ints w v P → Calls Try.prog 16 #[v] w fun e w' => e = .returned (iv (ns : Int)) ∧ Below w.heap.size w w') := fun w v hs => by
              have := firSum_any P v w (fun x hx => by have := hP1 x hx; omega) (by omega) hs
              rw [hns] at this; exact this
            rw [hns, Int.mul_comm _ 20, Int.mul_comm _ 30] at HBW2
            rw [hns] at hs1
            clear hs0 HGO HLV
            go_wp2_with fail
            refine (HFS.out _ _ (HPF.out.below HBV.out)).mono ?_
            rintro e wS ⟨rfl, hbS⟩
            have HBS := Lib.hid (bstep HBV.out hbS); clear hbS
            have hrw := (HBS.out.block w2.heap.size (by omega)).trans HRL2.out
            have d0 : wS.cell? ⟨w2.heap.size, 0, none⟩ = some (iv 1) := by rw [cell_of_row _ _ _ _ _ _ hrw]; rfl
            have d1 : wS.cell? ⟨w2.heap.size, 1, none⟩ = some (iv t) := by rw [cell_of_row _ _ _ _ _ _ hrw]; rfl
            have d2 : wS.cell? ⟨w2.heap.size, 2, none⟩ = some (iv 20) := by rw [cell_of_row _ _ _ _ _ _ hrw]; rfl
            have d3 : wS.cell? ⟨w2.heap.size, 3, none⟩ = some (iv 30) := by rw [cell_of_row _ _ _ _ _ _ hrw]; rfl
            have d4 : wS.cell? ⟨w2.heap.size, 4, none⟩ = some (iv h) := by rw [cell_of_row _ _ _ _ _ _ hrw]; rfl
            have d5 : wS.cell? ⟨w2.heap.size, 5, none⟩ = some (iv nl) := by rw [cell_of_row _ _ _ _ _ _ hrw]; rfl
            have d6 : wS.cell? ⟨w2.heap.size, 6, none⟩ = some (iv nh) := by rw [cell_of_row _ _ _ _ _ _ hrw]; rfl
            have hSLs := SliceOf.below HLF.out HBS.out
            have hSPs := SliceOf.below HPF.out HBS.out
            have hbl : Below wS.heap.size wS wS := Below.refl _ _
            clear hrw
            have hw2s : w2.heap.size < wS.heap.size := lt_of_cell d0
            go_wp2_with fail
            go_cut [19, 20] (fun s19 s20 wx => ∃ g, s19 = .pointer (some ⟨g, 0, none⟩) ∧ s20 = iv 0 ∧ Hid (WL.heap.size ≤ g ∧ wx.cell? ⟨g, 0, none⟩ = some (iv (20 * ns)) ∧ wx.cell? ⟨g, 1, none⟩ = some (iv (30 * ns))) ∧ Hid (Below WL.heap.size WL wx))
            case first =>
              go_region_held3 (fun w' => w'.cell? ⟨w2.heap.size, 0, none⟩ = some (iv 1) ∧ w'.cell? ⟨w2.heap.size, 1, none⟩ = some (iv t) ∧ w'.cell? ⟨w2.heap.size, 2, none⟩ = some (iv 20) ∧ w'.cell? ⟨w2.heap.size, 3, none⟩ = some (iv 30) ∧ w'.cell? ⟨w2.heap.size, 4, none⟩ = some (iv h) ∧ w'.cell? ⟨w2.heap.size, 5, none⟩ = some (iv nl) ∧ w'.cell? ⟨w2.heap.size, 6, none⟩ = some (iv nh) ∧ Below wS.heap.size wS w')
                (first | (go_split_ands; refine ⟨?_, ?_, ?_, ?_, ?_, ?_, ?_, ?_⟩ <;> first | assumption | exact kcell hbK (by assumption) | exact bstep (by assumption) hbK) | (go_split_ands; refine ⟨?_, ?_, ?_, ?_, ?_, ?_, ?_, ?_⟩ <;> first | exact kcell (bpush (Below.refl _ _) _) (by assumption) | exact bpush (by assumption) _ | exact kswap (by assumption) (by omega) | exact balloc_swap (by assumption) (by omega)) | (go_split_ands; refine ⟨?_, ?_, ?_, ?_, ?_, ?_, ?_, ?_⟩ <;> first | exact wset2 (by omega) (by assumption) | exact bput (p := ⟨wS.heap.size, 1, none⟩) (bput (p := ⟨wS.heap.size, 0, none⟩) (by assumption) (Nat.le_refl _) _) (Nat.le_refl _) _ | exact bput (p := ⟨wI.heap.size, 1, none⟩) (bput (p := ⟨wI.heap.size, 0, none⟩) (by assumption) hqI _) hqI _) | (refine ⟨?_, ?_, ?_, ?_, ?_, ?_, ?_, ?_⟩ <;> first | exact Below.drew (by assumption) | assumption))
                (first | (go_split_ands; (with_reducible refine (HFI.out _ (SliceOf.below hSPs (by assumption))).mono ?_); rintro e wI ⟨vi, rfl, hoI, hbK⟩; have hSI := Owns.slice hoI encI_len hlm3; have hqI := hbK.size; (try simp at hqI); (try have z0 : wI.cell? ⟨wS.heap.size, 0, none⟩ = some (iv 0) := kcell hbK (wcell0 _ _ _ _)); (try have z1 : wI.cell? ⟨wS.heap.size, 1, none⟩ = some (iv 0) := kcell hbK (wcell1 _ _ _ _)); (try have z2 : wI.frozen? ⟨wS.heap.size, 0, none⟩ = false := kfrozen hbK (wcell0 _ _ _ _) (wfroz0 _ _ _ _)); (try have z3 : wI.frozen? ⟨wS.heap.size, 1, none⟩ = false := kfrozen hbK (wcell1 _ _ _ _) (wfroz1 _ _ _ _))) | ((with_reducible refine (HBW2.out _ _ (by first | assumption | exact SliceOf.below hSI (bpush (Below.refl _ _) _))).mono ?_); rintro e wB ⟨rfl, hbK⟩; have hqB := hbK.size; (try simp at hqB); (try have z0 : wB.cell? ⟨wI.heap.size, 0, none⟩ = some (iv 0) := kcell hbK (wcell0 _ _ _ _)); (try have z1 : wB.cell? ⟨wI.heap.size, 1, none⟩ = some (iv 0) := kcell hbK (wcell1 _ _ _ _)); (try have z2 : wB.frozen? ⟨wI.heap.size, 0, none⟩ = false := kfrozen hbK (wcell0 _ _ _ _) (wfroz0 _ _ _ _)); (try have z3 : wB.frozen? ⟨wI.heap.size, 1, none⟩ = false := kfrozen hbK (wcell1 _ _ _ _) (wfroz1 _ _ _ _)); (try have z2 : wB.frozen? ⟨wS.heap.size, 0, none⟩ = false := kfrozen hbK z0 z2); (try have z3 : wB.frozen? ⟨wS.heap.size, 1, none⟩ = false := kfrozen hbK z1 z3); (try have z0 : wB.cell? ⟨wS.heap.size, 0, none⟩ = some (iv 0) := kcell hbK z0); (try have z1 : wB.cell? ⟨wS.heap.size, 1, none⟩ = some (iv 0) := kcell hbK z1)))
              all_goals
                rename_i hHeld
                have hBf := hHeld.2.2.2.2.2.2.2
                have hqS := HBS.out.size
                go_wp2_with fail
                go_meet
                refine ⟨_, rfl, rfl, ⟨by omega, ?_, ?_⟩, bstep HBS.out hBf⟩
                · first | exact wcell0 _ _ _ _ | go_simp
                · first | exact wcell1 _ _ _ _ | go_simp
            case rest =>
              obtain ⟨bg, rfl, rfl, HG3, HBE⟩ := hcut
              clear d0 d1 d2 d3 d4 d5 d6 hbl hSLs hSPs HBW2 HFI HFS HLF HPF
              obtain ⟨WE, hWE⟩ : ∃ WE, WE = wc := ⟨_, rfl⟩
              subst hWE
              have hrc := (HBE.out.block w1.heap.size (by omega)).trans HCL.out
              have e0 : WE.cell? ⟨w1.heap.size, 0, none⟩ = some (.slice (some ⟨tg, 0, none⟩) 3 tc) := by rw [cell_of_row _ _ _ _ _ _ hrc]; rfl
              have e1 : WE.cell? ⟨w1.heap.size, 1, none⟩ = some (.slice none 0 0) := by rw [cell_of_row _ _ _ _ _ _ hrc]; rfl
              have HRC := Lib.hid hrc
              have HST := Lib.hid (SliceOf.below HSL2.out HBE.out)
              clear hrc
              go_wp2_with fail
              refine (firCloth_any [fyT b 0, fyT b 1, fyT b 2] (by simp) _ _ _ (by simp) HST.out).mono ?_
              rintro e wF ⟨tvF, mvF, rfl, hst, hsm, hbF⟩
              have HF := Lib.hid hbF; clear hbF
              have hst := Lib.hid hst; have hsm := Lib.hid hsm
              go_wp2_with fail
              refine (at3_any _ _ _ ns HVT.out (by omega) _ _ _ hst.out hsm.out).mono ?_
              rintro e wG ⟨rv, rfl, hoR, hbG⟩
              obtain ⟨rg, rc, rfl⟩ := owns_addr hoR (by simp)
              have hbT : Below WE.heap.size WE wG := bstep HF.out hbG
              have HNW := Lib.hid (Owns.slice hoR encS_len (by simp))
              have HSG := Lib.hid (SliceOf.below HST.out hbT)
              have hrc := (hbT.block w1.heap.size (Array.getElem?_eq_some_iff.1 HRC.out).1).trans HRC.out
              have f0 : wG.cell? ⟨w1.heap.size, 0, none⟩ = some (.slice (some ⟨tg, 0, none⟩) 3 tc) := by rw [cell_of_row _ _ _ _ _ _ hrc]; rfl
              have f1 : wG.cell? ⟨w1.heap.size, 1, none⟩ = some (.slice none 0 0) := by rw [cell_of_row _ _ _ _ _ _ hrc]; rfl
              have HBG2 := Lib.hid hbT
              clear hst hsm hoR hbG hbT hrc e0 e1
              go_wp2_with fail
              refine (firCloth_any [fyT b 0, fyT b 1, fyT b 2] (by simp) _ _ _ (by simp) HSG.out).mono ?_
              rintro e wH ⟨tvH, mvH, rfl, hst, hsm, hbH⟩
              have HNH := Lib.hid (SliceOf.below HNW.out hbH)
              have HBH := Lib.hid (bstep HBG2.out hbH); clear hbH f0 f1
              have hst := Lib.hid hst; have hsm := Lib.hid hsm
              go_wp2_with fail
              refine (firOwn_any [qAt (fyT b 0) ns, qAt (fyT b 1) ns, qAt (fyT b 2) ns] ⟨rg, 0, none⟩ rc _ (by simp) HNH.out).mono ?_
              rintro e wI ⟨vo, rfl, hoO, hbI⟩
              have HSO := Lib.hid (Owns.slice hoO encS_len (by simp))
              have HT2 := Lib.hid (SliceOf.below hst.out hbI); have HM2 := Lib.hid (SliceOf.below hsm.out hbI)
              have HBI := Lib.hid (bstep HBH.out hbI)
              clear hoO hbI hst hsm
              go_wp2_with fail
              have hvt := HVT.out
              have hHG := Hours_good (fyT b 0) (fyT b 1) (fyT b 2) [] [qAt (fyT b 0) ns, qAt (fyT b 1) ns, qAt (fyT b 2) ns] _ _ _ _ (opn_nil hvt) rfl (by simp [qAt_size (fyT_valid HBB.out _)]) HT2.out HM2.out HSO.out
              refine hHG.mono ?_
              rintro e wJ ⟨vl, rfl, hoL, hbJ⟩
              obtain ⟨k0, hk0⟩ := hrs_mem (n := ns) (f := canQ (fyT b 0) (fyT b 1) (fyT b 2) [] [qAt (fyT b 0) ns, qAt (fyT b 1) ns, qAt (fyT b 2) ns]) (by omega) (fun k hk => canQ_own hvt ns hk)
              have hHE : hoursErr (canQ (fyT b 0) (fyT b 1) (fyT b 2) [] [qAt (fyT b 0) ns, qAt (fyT b 1) ns, qAt (fyT b 2) ns]) = 0 := by
                rw [hoursErr, if_neg (fun e => by rw [e] at hk0; simp at hk0)]
              have hL49 := hrsTo_len (canQ (fyT b 0) (fyT b 1) (fyT b 2) [] [qAt (fyT b 0) ns, qAt (fyT b 1) ns, qAt (fyT b 2) ns]) 49
              rw [hHE]
              clear hHE hHG hvt
              generalize hrsTo (canQ (fyT b 0) (fyT b 1) (fyT b 2) [] [qAt (fyT b 0) ns, qAt (fyT b 1) ns, qAt (fyT b 2) ns]) 49 = L at *
              have hkl : k0 < L.length := (List.getElem?_eq_some_iff.1 hk0).1
              obtain ⟨jg, jc, rfl⟩ := owns_addr hoL (by omega)
              have HLJ := Lib.hid (Owns.slice hoL encI_len (by omega))
              have HBJ := Lib.hid (bstep HBI.out hbJ)
              have HK0 := Lib.hid hk0
              have hbgl : bg < WE.heap.size := lt_of_cell HG3.out.2.1
              have y0 := (HBJ.out.cell (p := ⟨bg, 0, none⟩) hbgl).trans HG3.out.2.1
              have y1 := (HBJ.out.cell (p := ⟨bg, 1, none⟩) hbgl).trans HG3.out.2.2
              have hbj : Below wJ.heap.size wJ wJ := Below.refl _ _
              have m20 : IntKind.i64.wrap (20 * (ns : Int)) = 20 * (ns : Int) := IntWalk.i64_in _ ⟨by omega, by omega⟩
              have m30 : IntKind.i64.wrap (30 * (ns : Int)) = 30 * (ns : Int) := IntWalk.i64_in _ ⟨by omega, by omega⟩
              clear hoL hbJ hk0
              go_wp2_with fail
              go_region_held3 (fun w' => w'.cell? ⟨bg, 0, none⟩ = some (iv (20 * ns)) ∧ w'.cell? ⟨bg, 1, none⟩ = some (iv (30 * ns)) ∧ Below wJ.heap.size wJ w')
                (first | (go_split_ands; refine ⟨?_, ?_, ?_⟩ <;> first | assumption | exact kcell hbK (by assumption) | exact kfrozen hbK (by assumption) (by assumption) | exact bstep (by assumption) hbK | exact SliceOf.below (by assumption) hbK) | (refine ⟨?_, ?_, ?_⟩ <;> first | exact Below.drew (by assumption) | exact SliceOf.below (by assumption) ((Below.refl _ _).drew) | assumption))
                (first | ((with_reducible refine (firSpan_any _ _ _).mono ?_); rintro e w9 ⟨rfl, hbK⟩))
              rename_i hHeld
              have HB9 := Lib.hid (bstep HBJ.out hHeld.2.2)
              have HL9 := Lib.hid (SliceOf.below HLJ.out hHeld.2.2)
              clear hHeld hbK y0 y1 hbj m20 m30
              go_wp2_with fail
              go_loopw [25] (fun i wr => ∃ k : Nat, k ≤ k0 ∧ i = iv k ∧ Hid (Below w9.heap.size w9 wr)) (fun i _ => L.length - (intOf i).toNat)
              case atStart => exact ⟨0, Nat.zero_le _, rfl, Below.refl _ _⟩
              case round =>
                obtain ⟨k, hk, rfl, HWK⟩ := hrel
                obtain ⟨x, hx⟩ := getElem?_of_lt (xs := L) (k := k) (by omega)
                have c0 := sl_cellI (SliceOf.below HL9.out HWK.out) hx
                have j0 : (0 : Int) ≤ (k : Int) := by omega
                have j1 : (k : Int) < (L.length : Int) := by omega
                by_cases hxn : x = (ns : Int)
                · have e1 : (x == (ns : Int)) = true := by rw [beq_iff_eq]; exact hxn
                  clear hxn
                  go_wp2_with fail
                  refine (firKnown_any _).mono ?_
                  rintro e wK ⟨rfl, hbK2⟩
                  have HBZ := Lib.hid (HBL.out.trans ((bstep HBE.out (bstep HB9.out (bstep HWK.out hbK2))).mono (by omega))); clear hbK2
                  go_wp2_with fail
                  go_ret
                  exact ⟨rfl, HBZ.out⟩
                · have e1 : (x == (ns : Int)) = false := by rw [beq_eq_false_iff_ne]; exact hxn
                  have hlt0 : k < k0 := by
                    by_cases e : k = k0
                    · subst e
                      have := HK0.out
                      rw [hx] at this
                      exact absurd (Option.some.inj this) hxn
                    · omega
                  clear hxn
                  go_wp2_with fail
                  go_roundw
                  case rel => exact ⟨k + 1, by omega, by go_num, HWK.out⟩
                  case measure => simp [intOf]; omega
end Go.Proofs.Ytompkdhhhlgbdaa
