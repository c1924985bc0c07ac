/- TopBeatenLonger's walk. -/
import Derived.Test.YtompkdhhhlgbdaaSn
namespace Go.Proofs.Ytompkdhhhlgbdaa
open Go Go.RowKit Go.Shelf
attribute [local go_sem ↓] Go.wp_at_zero Go.wp_at_succ

theorem owns_addr {α : Type} {enc : α → List Value} {sz e base : Nat} {w : World} {v : Value} {xs : List α} (h : Owns enc sz e base w v xs) (hne : 0 < xs.length) : ∃ g c, v = .slice (some ⟨g, 0, none⟩) xs.length c := by
  obtain ⟨h1, h2⟩ := h
  rcases h2 with ⟨rfl, h0⟩ | ⟨g, cap, cur, rfl, -⟩
  · omega
  · exact ⟨g, _, rfl⟩

theorem sl_cellsS {w : World} {g n c k : Nat} {L : List Sp} {p : Sp} (h : SliceOf encS 2 w (.slice (some ⟨g, 0, none⟩) n c) L) (hk : L[k]? = some p) : w.cell? ⟨g, k * 2, none⟩ = some (iv p.1) ∧ w.cell? ⟨g, k * 2 + 1, none⟩ = some (iv p.2) := by
  obtain ⟨a', c', hv, -, hc⟩ := h
  obtain ⟨gb, go, ha, hj⟩ := hc k p hk
  simp only [Value.slice.injEq] at hv
  have e := hv.1.trans ha
  simp only [Option.some.injEq, Addr.mk.injEq] at e
  obtain ⟨rfl, rfl, -⟩ := e
  have h0 := hj 0 _ rfl
  have h1 := hj 1 _ rfl
  simp only [Nat.zero_add, Nat.add_zero] at h0 h1
  exact ⟨h0, h1⟩
theorem sl_cellsT {w : World} {g n c k : Nat} {L : List Tk} {p : Tk} (h : SliceOf encT 4 w (.slice (some ⟨g, 0, none⟩) n c) L) (hk : L[k]? = some p) : w.cell? ⟨g, k * 4, none⟩ = some (iv p.fl) ∧ w.cell? ⟨g, k * 4 + 1, none⟩ = some (iv p.fh) := by
  obtain ⟨a', c', hv, -, hc⟩ := h
  obtain ⟨gb, go, ha, hj⟩ := hc k p hk
  simp only [Value.slice.injEq] at hv
  have e := hv.1.trans ha
  simp only [Option.some.injEq, Addr.mk.injEq] at e
  obtain ⟨rfl, rfl, -⟩ := e
  have h0 := hj 0 _ rfl
  have h1 := hj 1 _ rfl
  simp only [Nat.zero_add, Nat.add_zero] at h0 h1
  exact ⟨h0, h1⟩
theorem at3_any (a b c : Tk) (n : Nat) (hv : [a, b, c].all vTrack = true) (hn : n ≤ 48) (tv mv : Value) (w : World) (ht : SliceOf encT 4 w tv [a, b, c]) (hm : SliceOf encM 4 w mv []) :
    Calls Try.prog 10 #[.agg #[tv, mv], iv n] w fun e w' => ∃ v, e = .returned (.tuple #[v, iv 0]) ∧ Owns encS 2 36 w.heap.size w' v ([a, b, c].map fun t => qAt t n) ∧ Below w.heap.size w w' := by
  obtain ⟨h1, h2⟩ := at_nil hv hn
  refine (At_any _ _ _ _ (n : Int) w ht hm).mono ?_
  rintro e w1 ⟨v, he, ho, hb⟩
  rw [h1] at he; rw [h2] at ho
  exact ⟨v, he, ho, hb⟩

set_option maxRecDepth 20000 in
set_option maxHeartbeats 12800000 in
theorem beaten_any (b : Nat → Int) (m0 m1 m2 m3 v0 v1 : Int) (fv : Value) (V : List (Int × Int)) (w : World) (hb : ∀ i, 0 ≤ b i ∧ b i ≤ 255) (h0 : 0 ≤ m0 ∧ m0 ≤ 255) (h1 : 0 ≤ m1 ∧ m1 ≤ 255) (h2 : 0 ≤ m2 ∧ m2 ≤ 255) (h3 : 0 ≤ m3 ∧ m3 ≤ 255) (hv0 : 0 ≤ v0 ∧ v0 ≤ 255) (hv1 : 0 ≤ v1 ∧ v1 ≤ 255) (hV : ∀ p ∈ V, (0 ≤ p.1 ∧ p.1 ≤ 255) ∧ (0 ≤ p.2 ∧ p.2 ≤ 255)) (hf : SliceU enc2 2 w fv V) :
    Calls Try.prog 3 #[.agg (fyCells b), .agg #[u8 m0, u8 m1, u8 m2, u8 m3, fv], .agg #[u8 v0, u8 v1]] w fun e w' => e = .returned (.bool true) ∧ Below w.heap.size w w' := by
  have HBB := Lib.hid hb
  have hCC := fb_valid h0 h1 h2 h3 hV
  have hFF := fun W (h : SliceU enc2 2 W fv V) => fbMade_any m0 m1 m2 m3 fv V W h0 h1 h2 h3 hV h
  have hFl : (fbL V (fbN V)).length ≤ 12 := by rw [fbL_len]; exact (fbN_bd V).2
  generalize fbMl m0 m1 m2 m3 = m at *
  generalize fbL V (fbN V) = F at *
  have HFB := Lib.hid hFF; clear hFF
  obtain ⟨hm, hl24, hl0, hFv⟩ := sChk_zero hCC
  obtain ⟨k1, k2⟩ := (vMill_iff.1 hm).1
  obtain ⟨hv0, hv0'⟩ := hv0; obtain ⟨hv1, hv1'⟩ := hv1
  have HL : ∃ r0 r1 su po : Int, Hid (r0 = v0 % m.k) ∧ Hid (r1 = v1 % (F.length : Int)) ∧ (0 ≤ su ∧ su ≤ po ∧ po ≤ F.length) ∧ Hid (∀ (w : World) (fv : Value), SliceOf encS 2 w fv F → Calls Try.prog 8 #[.agg (encMl m).toArray, fv, iv (1 + r0), iv r1] w fun e w' => e = .returned (.tuple #[iv su, iv po, iv 0]) ∧ Below w.heap.size w w') := by
    have a1 : 0 ≤ v0 % m.k := Int.emod_nonneg _ (by omega)
    have a2 : v0 % m.k < m.k := Int.emod_lt_of_pos _ (by omega)
    have a3 : 0 ≤ v1 % (F.length : Int) := Int.emod_nonneg _ (by omega)
    have a4 : v1 % (F.length : Int) < F.length := Int.emod_lt_of_pos _ (by omega)
    obtain ⟨e1, e2, e3, e4⟩ := last_bd (k := 1 + v0 % m.k) (fr := v1 % (F.length : Int)) hCC (inB_iff.2 ⟨by omega, by omega⟩) (inB_iff.2 ⟨by omega, by omega⟩)
    refine ⟨_, _, _, _, rfl, rfl, ⟨e2, e3, e4⟩, fun w fv h => ?_⟩
    have := Lasts_any m F fv (1 + v0 % m.k) (v1 % (F.length : Int)) w h
    rw [e1] at this
    exact this
  obtain ⟨r0, r1, su, po, HR0, HRV, ⟨s1, s2, s3⟩, HLA⟩ := HL
  obtain ⟨kk, t, bl, bh, h, nl, nh⟩ := m
  dsimp only at k1 k2 HR0
  simp only [encMl] at HLA
  obtain ⟨sn, rfl⟩ := Int.eq_ofNat_of_zero_le s1
  obtain ⟨pn, rfl⟩ := Int.eq_ofNat_of_zero_le (Int.le_trans s1 s2)
  have HC := Lib.hid hCC; clear hCC
  obtain ⟨w0, hw0⟩ : ∃ W : World, ((w.alloc (.cells (fyCells b) 25)).alloc (.cells #[u8 m0, u8 m1, u8 m2, u8 m3, fv] 28)).alloc (.cells #[u8 v0, u8 v1] 29) = W := ⟨_, rfl⟩
  have HB0 : Hid (Below w.heap.size w w0) := by rw [← hw0]; exact (by repeat (first | exact Below.refl _ _ | refine Below.drew ?_ | refine bpush ?_ _ | refine bput ?_ (by simp) _ | (refine bstep ?_ (by assumption))))
  have hz0 : w0.heap.size = w.heap.size + 3 := by rw [← hw0]; simp
  have HR1 : Hid (w0.heap[w.heap.size + 1]? = some (.cells #[u8 m0, u8 m1, u8 m2, u8 m3, fv] 28 (0, 0))) := by rw [← hw0]; exact heapC (by simp)
  have HR2 : Hid (w0.heap[w.heap.size + 1 + 1]? = some (.cells #[u8 v0, u8 v1] 29 (0, 0))) := by rw [← hw0]; exact heapA (by simp)
  have HF0 := Lib.hid (SliceU.below hf HB0.out)
  have HZ0 := Lib.hid hz0
  simp only [fyCells] at hw0 ⊢
  have HW0 := Lib.hid hw0
  clear hw0 hm hFv hf hz0
  go_enter Try.func3, Try.ntmps3
  go_wp2_with fail
  rw [HW0.out]
  refine (fyMade_any b _ HBB.out).mono ?_
  rintro e w1 ⟨tv, rfl, ho1, hb1⟩
  obtain ⟨tg, tc, rfl⟩ := owns_addr ho1 (by simp)
  have hz0 := HZ0.out
  have HS1 := Lib.hid (Owns.slice ho1 encT_len (by simp))
  have hz1 := hb1.size
  have x1 := (hb1.block (w.heap.size + 1) (by omega)).trans HR1.out
  have HR21 := Lib.hid ((hb1.block (w.heap.size + 1 + 1) (by omega)).trans HR2.out)
  have HF1 := Lib.hid (SliceU.below HF0.out hb1)
  have HB1 := Lib.hid (bstep HB0.out hb1)
  have c0 : w1.cell? ⟨w.heap.size + 1, 0, none⟩ = some (u8 m0) := by rw [cell_of_row _ _ _ _ _ _ x1]; rfl
  have c1 : w1.cell? ⟨w.heap.size + 1, 1, none⟩ = some (u8 m1) := by rw [cell_of_row _ _ _ _ _ _ x1]; rfl
  have c2 : w1.cell? ⟨w.heap.size + 1, 2, none⟩ = some (u8 m2) := by rw [cell_of_row _ _ _ _ _ _ x1]; rfl
  have c3 : w1.cell? ⟨w.heap.size + 1, 3, none⟩ = some (u8 m3) := by rw [cell_of_row _ _ _ _ _ _ x1]; rfl
  have c4 : w1.cell? ⟨w.heap.size + 1, 4, none⟩ = some fv := by rw [cell_of_row _ _ _ _ _ _ x1]; rfl
  have q1 : w.heap.size + 1 < w1.heap.size := by omega
  have q2 : w.heap.size + 1 + 1 < w1.heap.size := by omega
  clear ho1 hb1 x1 hz1 hz0 hb h0 h1 h2 h3 hV
  go_wp2_with fail
  refine (HFB.out _ (SliceU.below HF1.out (bpush (Below.refl _ _) _))).mono ?_
  rintro e w2 ⟨lv, rfl, ho2, hb2⟩
  obtain ⟨lg, lc, rfl⟩ := owns_addr ho2 hl0
  simp only [encMl]
  have HC7 : Hid ((w1.alloc (.cells #[.slice (some ⟨tg, 0, none⟩) 3 tc, .slice none 0 0] 33)).heap[w1.heap.size]? = some (.cells #[.slice (some ⟨tg, 0, none⟩) 3 tc, .slice none 0 0] 33 (0, 0))) := heap_new _ _ _
  have hbA : Below w1.heap.size w1 w2 := bstep (bpush (Below.refl _ _) _) hb2
  have hzA : w1.heap.size < w2.heap.size := Nat.lt_of_lt_of_le (by simp) hb2.size
  have HC72 := Lib.hid ((hb2.block w1.heap.size (by simp)).trans HC7.out)
  have HR22 := Lib.hid ((hbA.block (w.heap.size + 1 + 1) q2).trans HR21.out)
  have HS2 := Lib.hid (SliceOf.below HS1.out hbA)
  have HB2 := Lib.hid (bstep HB1.out hbA)
  have HSL := Lib.hid (Owns.slice ho2 encS_len (by omega))
  have hq3 : w.heap.size + 1 + 1 < w2.heap.size := by omega
  clear ho2 hb2 hbA c0 c1 c2 c3 c4
  obtain ⟨Wn, hWn⟩ : ∃ Wn : World, w2.alloc (.cells #[iv kk, iv t, iv bl, iv bh, iv h, iv nl, iv nh] 38) = Wn := ⟨_, rfl⟩
  have hbN : Below w2.heap.size w2 Wn := by rw [← hWn]; exact (by repeat (first | exact Below.refl _ _ | refine Below.drew ?_ | refine bpush ?_ _ | refine bput ?_ (by simp) _ | (refine bstep ?_ (by assumption))))
  have hrN : Wn.heap[w2.heap.size]? = some (.cells #[iv kk, iv t, iv bl, iv bh, iv h, iv nl, iv nh] 38 (0, 0)) := by rw [← hWn]; exact heap_new _ _ _
  have hzN : w2.heap.size < Wn.heap.size := by rw [← hWn]; simp
  have d0 : Wn.cell? ⟨w2.heap.size, 0, none⟩ = some (iv kk) := by rw [cell_of_row _ _ _ _ _ _ hrN]; rfl
  have d1 : Wn.cell? ⟨w2.heap.size, 1, none⟩ = some (iv t) := by rw [cell_of_row _ _ _ _ _ _ hrN]; rfl
  have d2 : Wn.cell? ⟨w2.heap.size, 2, none⟩ = some (iv bl) := by rw [cell_of_row _ _ _ _ _ _ hrN]; rfl
  have d3 : Wn.cell? ⟨w2.heap.size, 3, none⟩ = some (iv bh) := by rw [cell_of_row _ _ _ _ _ _ hrN]; rfl
  have d4 : Wn.cell? ⟨w2.heap.size, 4, none⟩ = some (iv h) := by rw [cell_of_row _ _ _ _ _ _ hrN]; rfl
  have d5 : Wn.cell? ⟨w2.heap.size, 5, none⟩ = some (iv nl) := by rw [cell_of_row _ _ _ _ _ _ hrN]; rfl
  have d6 : Wn.cell? ⟨w2.heap.size, 6, none⟩ = some (iv nh) := by rw [cell_of_row _ _ _ _ _ _ hrN]; rfl
  have x2 := (hbN.block (w.heap.size + 1 + 1) hq3).trans HR22.out
  have y0 : Wn.cell? ⟨w.heap.size + 1 + 1, 0, none⟩ = some (u8 v0) := by rw [cell_of_row _ _ _ _ _ _ x2]; rfl
  have y1 : Wn.cell? ⟨w.heap.size + 1 + 1, 1, none⟩ = some (u8 v1) := by rw [cell_of_row _ _ _ _ _ _ x2]; rfl
  have hSN := SliceOf.below HSL.out hbN
  have hBN := Below.refl Wn.heap.size Wn
  have HC7N := Lib.hid ((hbN.block w1.heap.size hzA).trans HC72.out)
  have HSN := Lib.hid (SliceOf.below HS2.out hbN)
  have HBN := Lib.hid (bstep HB2.out hbN)
  clear hbN hrN x2
  go_wp2_with fail
  clear hWn
  have p0 : v0.tmod kk = r0 := by rw [HR0.out]; exact Int.tmod_eq_emod_of_nonneg hv0
  have p1 : v1.tmod (F.length : Int) = r1 := by rw [HRV.out]; exact Int.tmod_eq_emod_of_nonneg hv1
  have p2 : 0 ≤ r0 ∧ r0 < kk := by rw [HR0.out]; exact ⟨Int.emod_nonneg _ (by omega), Int.emod_lt_of_pos _ (by omega)⟩
  have p3 : 0 ≤ r1 ∧ r1 < F.length := by rw [HRV.out]; exact ⟨Int.emod_nonneg _ (by omega), Int.emod_lt_of_pos _ (by omega)⟩
  obtain ⟨p2, p2'⟩ := p2; obtain ⟨p3, p3'⟩ := p3
  have g0 : IntKind.i64.wrap v0 = v0 := IntWalk.i64_in _ ⟨by omega, by omega⟩
  have g1 : IntKind.i64.wrap v1 = v1 := IntWalk.i64_in _ ⟨by omega, by omega⟩
  have g2 : IntKind.i64.wrap r0 = r0 := IntWalk.i64_in _ ⟨by omega, by omega⟩
  have g3 : IntKind.i64.wrap r1 = r1 := IntWalk.i64_in _ ⟨by omega, by omega⟩
  have g4 : IntKind.i64.wrap (1 + r0) = 1 + r0 := IntWalk.i64_in _ ⟨by omega, by omega⟩
  have n0 : ¬ kk = 0 := by omega
  have n1 : ¬ (F.length : Int) = 0 := by omega
  have n2 : ¬ F.length = 0 := by omega
  have n3 : ¬ F = [] := by intro e; rw [e] at hl0; simp at hl0
  have n4 : ((F.length : Int) == 0) = false := by simpa using n3
  have hlm : F.length ≤ 1000000 := by omega
  have hlm2 : F.length ≤ 140737488355328 := by omega
  go_region_held3 (fun w' => w'.cell? ⟨w2.heap.size, 0, none⟩ = some (iv kk) ∧ w'.cell? ⟨w2.heap.size, 1, none⟩ = some (iv t) ∧ w'.cell? ⟨w2.heap.size, 2, none⟩ = some (iv bl) ∧ w'.cell? ⟨w2.heap.size, 3, none⟩ = some (iv bh) ∧ w'.cell? ⟨w2.heap.size, 4, none⟩ = some (iv h) ∧ w'.cell? ⟨w2.heap.size, 5, none⟩ = some (iv nl) ∧ w'.cell? ⟨w2.heap.size, 6, none⟩ = some (iv nh) ∧ w'.cell? ⟨w.heap.size + 1 + 1, 0, none⟩ = some (u8 v0) ∧ w'.cell? ⟨w.heap.size + 1 + 1, 1, none⟩ = some (u8 v1) ∧ SliceOf encS 2 w' (.slice (some ⟨lg, 0, none⟩) F.length lc) F ∧ Below Wn.heap.size Wn w')
    (first | (go_split_ands; refine ⟨?_, ?_, ?_, ?_, ?_, ?_, ?_, ?_, ?_, ?_, ?_⟩ <;> first | assumption | exact kcell hbK (by assumption) | exact kfrozen hbK (by assumption) (by assumption) | exact bstep (by assumption) hbK | exact SliceOf.below (by assumption) hbK) | (refine ⟨?_, ?_, ?_, ?_, ?_, ?_, ?_, ?_, ?_, ?_, ?_⟩ <;> first | exact Below.drew (by assumption) | exact SliceOf.below (by assumption) ((Below.refl _ _).drew) | assumption))
    (first | (go_split_ands; (with_reducible refine (firOwn_any F _ _ _ hlm (by assumption)).mono ?_); rintro e wO ⟨vo, rfl, hoO, hbK⟩; have hSO := Owns.slice hoO encS_len hlm2) | ((with_reducible refine (HLA.out _ _ (by assumption)).mono ?_); rintro e wL ⟨rfl, hbK⟩))
  rename_i hHeld
  obtain ⟨-, -, -, -, -, -, -, -, -, -, hBE⟩ := hHeld
  have hwz : w1.heap.size < Wn.heap.size := by omega
  have HCL := Lib.hid ((hBE.block w1.heap.size hwz).trans HC7N.out)
  have HSA := Lib.hid (SliceOf.below HSN.out hBE)
  have HBA := Lib.hid (bstep HBN.out hBE)
  have hzL : w1.heap.size < wL.heap.size := Nat.lt_of_lt_of_le hwz hBE.size
  clear hbK hBE hoO hSO hSN y0 y1 d0 d1 d2 d3 d4 d5 d6 hBN
  have hVT : Hid ([fyT b 0, fyT b 1, fyT b 2].all vTrack = true) := by simp [Hid, fyT_valid HBB.out]
  have s1' : ¬ ((sn : Int) < 0) := by omega
  have s2' : ¬ ((pn : Int) < (sn : Int)) := by omega
  have s3' : ¬ ((F.length : Int) < (pn : Int)) := by omega
  have e0 : wL.cell? ⟨w1.heap.size, 0, none⟩ = some (.slice (some ⟨tg, 0, none⟩) 3 tc) := by rw [cell_of_row _ _ _ _ _ _ HCL.out]; rfl
  have e1 : wL.cell? ⟨w1.heap.size, 1, none⟩ = some (.slice none 0 0) := by rw [cell_of_row _ _ _ _ _ _ HCL.out]; rfl
  go_wp2_with fail
  refine (firCloth_any [fyT b 0, fyT b 1, fyT b 2] (by simp) _ _ _ (by simp) HSA.out).mono ?_
  rintro e wFB ⟨tvB, mvB, rfl, hst, hsm, hbF⟩
  have HFB := Lib.hid hbF; clear hbF
  have hst := Lib.hid hst; have hsm := Lib.hid hsm
  go_wp2_with fail
  refine (at3_any _ _ _ 0 hVT.out (by omega) _ _ _ hst.out hsm.out).mono ?_
  rintro e wGB ⟨rvB, rfl, hoR, hbG⟩
  obtain ⟨rgB, rcB, rfl⟩ := owns_addr hoR (by simp)
  have hbT := bstep HFB.out hbG
  have HRB := Lib.hid (Owns.slice hoR encS_len (by simp))
  have HTB := Lib.hid hbT
  have HSB := Lib.hid (SliceOf.below HSA.out hbT)
  have HBB := Lib.hid (bstep HBA.out hbT)
  have HCB := Lib.hid ((hbT.block w1.heap.size hzL).trans HCL.out)
  have hzB := Nat.lt_of_lt_of_le hzL hbT.size
  have e0B : wGB.cell? ⟨w1.heap.size, 0, none⟩ = some (.slice (some ⟨tg, 0, none⟩) 3 tc) := by rw [cell_of_row _ _ _ _ _ _ HCB.out]; rfl
  have e1B : wGB.cell? ⟨w1.heap.size, 1, none⟩ = some (.slice none 0 0) := by rw [cell_of_row _ _ _ _ _ _ HCB.out]; rfl
  clear hst hsm hoR hbG hbT
  go_wp2_with fail
  refine (firCloth_any [fyT b 0, fyT b 1, fyT b 2] (by simp) _ _ _ (by simp) HSB.out).mono ?_
  rintro e wFC ⟨tvC, mvC, rfl, hst, hsm, hbF⟩
  have HFC := Lib.hid hbF; clear hbF
  have hst := Lib.hid hst; have hsm := Lib.hid hsm
  go_wp2_with fail
  refine (at3_any _ _ _ sn hVT.out (by omega) _ _ _ hst.out hsm.out).mono ?_
  rintro e wGC ⟨rvC, rfl, hoR, hbG⟩
  obtain ⟨rgC, rcC, rfl⟩ := owns_addr hoR (by simp)
  have hbT := bstep HFC.out hbG
  have HRC := Lib.hid (Owns.slice hoR encS_len (by simp))
  have HTC := Lib.hid hbT
  have HSC := Lib.hid (SliceOf.below HSB.out hbT)
  have HBC := Lib.hid (bstep HBB.out hbT)
  have HCC := Lib.hid ((hbT.block w1.heap.size hzB).trans HCB.out)
  have hzC := Nat.lt_of_lt_of_le hzB hbT.size
  have e0C : wGC.cell? ⟨w1.heap.size, 0, none⟩ = some (.slice (some ⟨tg, 0, none⟩) 3 tc) := by rw [cell_of_row _ _ _ _ _ _ HCC.out]; rfl
  have e1C : wGC.cell? ⟨w1.heap.size, 1, none⟩ = some (.slice none 0 0) := by rw [cell_of_row _ _ _ _ _ _ HCC.out]; rfl
  clear hst hsm hoR hbG hbT
  go_wp2_with fail
  refine (firCloth_any [fyT b 0, fyT b 1, fyT b 2] (by simp) _ _ _ (by simp) HSC.out).mono ?_
  rintro e wFD ⟨tvD, mvD, rfl, hst, hsm, hbF⟩
  have HFD := Lib.hid hbF; clear hbF
  have hst := Lib.hid hst; have hsm := Lib.hid hsm
  go_wp2_with fail
  refine (at3_any _ _ _ pn hVT.out (by omega) _ _ _ hst.out hsm.out).mono ?_
  rintro e wGD ⟨rvD, rfl, hoR, hbG⟩
  obtain ⟨rgD, rcD, rfl⟩ := owns_addr hoR (by simp)
  have hbT := bstep HFD.out hbG
  have HRD := Lib.hid (Owns.slice hoR encS_len (by simp))
  have HTD := Lib.hid hbT
  have HSD := Lib.hid (SliceOf.below HSC.out hbT)
  have HBD := Lib.hid (bstep HBC.out hbT)
  have HCD := Lib.hid ((hbT.block w1.heap.size hzC).trans HCC.out)
  have hzD := Nat.lt_of_lt_of_le hzC hbT.size
  have e0D : wGD.cell? ⟨w1.heap.size, 0, none⟩ = some (.slice (some ⟨tg, 0, none⟩) 3 tc) := by rw [cell_of_row _ _ _ _ _ _ HCD.out]; rfl
  have e1D : wGD.cell? ⟨w1.heap.size, 1, none⟩ = some (.slice none 0 0) := by rw [cell_of_row _ _ _ _ _ _ HCD.out]; rfl
  clear hst hsm hoR hbG hbT
  go_wp2_with fail
  go_loopw [19] (fun i wr => ∃ k : Nat, k ≤ 3 ∧ i = iv k ∧ Hid (Below wGD.heap.size wGD wr)) (fun i _ => 3 - (intOf i).toNat)
  case atStart => exact ⟨0, by omega, rfl, Below.refl _ _⟩
  case round =>
    obtain ⟨k, hk, rfl, HW⟩ := hrel
    clear e0 e1 e0B e1B e0C e1C e0D e1D
    by_cases hlt : k < 3
    · obtain ⟨tk, htk⟩ : ∃ tk, [fyT b 0, fyT b 1, fyT b 2][k]? = some tk := ⟨[fyT b 0, fyT b 1, fyT b 2][k]'(by simpa using hlt), List.getElem?_eq_getElem _⟩
      have hvt : vTrack tk = true := List.all_eq_true.1 hVT.out tk (List.mem_of_getElem? htk)
      have hz := qAt_zero hvt
      have hm1 := qAt_mono hvt (Nat.zero_le sn)
      have hm2 := qAt_mono hvt (show sn ≤ pn by omega)
      have hmp : ∀ n : Nat, ([fyT b 0, fyT b 1, fyT b 2].map fun t => qAt t n)[k]? = some (qAt tk n) := fun n => by rw [List.getElem?_map, htk]; rfl
      obtain ⟨a0, a1⟩ := sl_cellsS (SliceOf.below HRB.out (bstep (bstep HTC.out HTD.out) HW.out)) (hmp 0)
      obtain ⟨a2, a3⟩ := sl_cellsS (SliceOf.below HRC.out (bstep HTD.out HW.out)) (hmp sn)
      obtain ⟨a4, a5⟩ := sl_cellsS (SliceOf.below HRD.out HW.out) (hmp pn)
      obtain ⟨a6, a7⟩ := sl_cellsT (SliceOf.below HSD.out HW.out) htk
      rw [hz] at a0 a1 hm1
      dsimp only at a0 a1 hm1
      obtain ⟨hm1, hm1'⟩ := hm1; obtain ⟨hm2, hm2'⟩ := hm2
      generalize (qAt tk sn).1 = o0 at *
      generalize (qAt tk sn).2 = o1 at *
      generalize (qAt tk pn).1 = u0 at *
      generalize (qAt tk pn).2 = u1 at *
      have HCR := Lib.hid ((HW.out.block w1.heap.size hzD).trans HCD.out)
      have a8 : wr.cell? ⟨w1.heap.size, 0, none⟩ = some (.slice (some ⟨tg, 0, none⟩) 3 tc) := by rw [cell_of_row _ _ _ _ _ _ HCR.out]; rfl
      have hki : (k : Int) < 3 := by omega
      have hk0 : (0 : Int) ≤ (k : Int) := by omega
      have f1 : ¬ (tk.fl < o0) := by omega
      have f2 : ¬ (tk.fh < o1) := by omega
      have f3 : ¬ (o0 < u0) := by omega
      have f4 : ¬ (o1 < u1) := by omega
      clear hm1 hm1' hm2 hm2' hmp hz hvt htk
      go_wp2_with fail
      go_quiet (fail)
      go_wp2_with fail
      exact ⟨⟨k + 1, by omega, by go_num, bdrewN HW.out _⟩, by simp [intOf]; omega⟩
    · obtain rfl : k = 3 := by omega
      go_wp2_with fail
      refine (firKnown_any _).mono ?_
      rintro e w9 ⟨rfl, hb9⟩
      have HB9 := Lib.hid (bstep (bstep HBD.out HW.out) hb9); clear hb9
      go_wp2_with fail
      go_ret
      exact ⟨rfl, HB9.out⟩
end Go.Proofs.Ytompkdhhhlgbdaa
