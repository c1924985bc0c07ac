/- TopWindowDry: the second half of the walk. -/
import Derived.Test.YtiellodbdidgoaaGn
import Derived.Deep.QuietTactic
namespace Go.Proofs.Ytiellodbdidgoaa
open Go Go.RowKit Go.Shelf
attribute [local go_sem] Oper.semAt_some
attribute [local go_sem ↓] Go.wp_at_zero Go.wp_at_succ

set_option maxHeartbeats 400000 in
theorem elmSpan_exact (lo hi : Int) (w : World) :
    Calls Try.prog 6 #[iv lo, iv hi] w fun e w' => e = .returned (.agg #[iv lo, iv hi]) ∧ w' = w.alloc (.cells #[iv lo, iv hi] 30) := by
  go_enter Try.func6, Try.ntmps6
  go_wp2_with fail
  exact bodyPost_ret (v := .agg #[iv lo, iv hi]) (by simp [results, Try.results6, go_sem]) rfl ⟨rfl, rfl⟩
theorem ksetG {X : World} {b o g i : Nat} {v u : Value} (hne : b ≠ g) (h : X.cell? ⟨b, o, none⟩ = some v) : (X.setCell ⟨g, i, none⟩ u).cell? ⟨b, o, none⟩ = some v :=
  (World.cell?_of_block (Below.heap_setCell _ _ _ _ hne)).trans h
theorem bputG {w W : World} {g i : Nat} (h : Below w.heap.size w W) (hg : w.heap.size ≤ g) (u : Value) : Below w.heap.size w (W.setCell ⟨g, i, none⟩ u) := bput (p := ⟨g, i, none⟩) h hg u
theorem tn_cells {w : World} {g cap : Nat} {a b c d : Int} (h0 : w.cell? ⟨g, 0, none⟩ = some (iv a)) (h1 : w.cell? ⟨g, 1, none⟩ = some (iv b)) (h2 : w.cell? ⟨g, 2, none⟩ = some (iv c)) (h3 : w.cell? ⟨g, 3, none⟩ = some (iv d)) : SliceOf encN 4 w (.slice (some ⟨g, 0, none⟩) 1 cap) [((a, b), (c, d))] := by
  refine ⟨_, cap, rfl, by simp, fun i p hp => ⟨g, 0, rfl, fun j u hu => ?_⟩⟩
  rcases i with _ | i
  · simp only [List.getElem?_cons_zero, Option.some.injEq] at hp
    subst hp
    rcases j with _ | _ | _ | _ | j
    · simp only [encN, List.getElem?_cons_zero, Option.some.injEq] at hu; subst hu; exact h0
    · simp only [encN, List.getElem?_cons_succ, List.getElem?_cons_zero, Option.some.injEq] at hu; subst hu; exact h1
    · simp only [encN, List.getElem?_cons_succ, List.getElem?_cons_zero, Option.some.injEq] at hu; subst hu; exact h2
    · simp only [encN, List.getElem?_cons_succ, List.getElem?_cons_zero, Option.some.injEq] at hu; subst hu; exact h3
    · simp [encN] at hu
  · simp at hp
/-- The field of the law lies at p. -/
def FdCut (wS : World) (lo : Int) (p a b : Value) (wx : World) : Prop := ∃ g g1 g2, p = .pointer (some ⟨g, 0, none⟩) ∧ a = .slice (some ⟨g1, 0, none⟩) 1 1 ∧ b = .slice (some ⟨g2, 0, none⟩) 1 1 ∧ Below wS.heap.size wS wx ∧
  wx.cell? ⟨g, 0, none⟩ = some (.slice (some ⟨g1, 0, none⟩) 1 1) ∧ wx.cell? ⟨g, 1, none⟩ = some (.slice (some ⟨g2, 0, none⟩) 1 1) ∧ wx.cell? ⟨g, 2, none⟩ = some (iv 0) ∧ wx.cell? ⟨g, 3, none⟩ = some (iv 0) ∧
  wx.cell? ⟨g1, 0, none⟩ = some (iv 50) ∧ wx.cell? ⟨g1, 1, none⟩ = some (iv 50) ∧ wx.cell? ⟨g1, 2, none⟩ = some (iv lo) ∧ wx.cell? ⟨g1, 3, none⟩ = some (iv (lo + 2)) ∧ wx.cell? ⟨g2, 0, none⟩ = some (iv 60)
set_option maxRecDepth 20000 in
set_option maxHeartbeats 12800000 in
/-- What follows once the field lies in memory. -/
theorem windry_rest {x0 x1 x2 x3 x4 p a b u21 u22 u23 u24 u25 u26 u27 u28 u29 u30 u31 u32 u33 u34 u35 u36 u37 u38 u39 u40 u41 u42 u43 u44 u45 u46 u47 u48 u49 u50 u51 u54 u55 u56 u57 u58 u59 u60 u61 u62 u63 u64 u65 u66 u67 u68 u69 u70 u71 u72 u73 u74 u75 u76 u77 u78 u79 u80 u81 u82 u83 u84 u85 u86 u87 u88 u89 u90 u91 u92 u93 u94 u95 u96 u97 u98 u99 u100 u101 u102 u103 u104 u105 u106 u107 u108 u109 u110 u111 u112 u113 u114 u115 u116 u117 u118 u119 u120 u121 u122 u123 u124 u125 u126 u127 u128 u129 u130 u131 u132 u133 u134 u135 u136 u137 u138 u139 u140 u141 u142 u143 u144 u145 u146 u147 u148 u149 u150 u151 u152 u153 u154 u155 u156 u157 u158 u159 u160 u161 u162 u163 u164 u165 u166 u167 u168 u169 u170 u171 u172 u173 u174 u175 u176 u177 u178 u179 u180 u181 u182 u183 u184 u185 u186 u187 u188 u189 u190 u191 u192 u193 : Value} {w w1 wS wc : World} {lg lc sg sc hn : Nat} {K t bl bh H nl nh kk lo v0 v1 v2 v3 : Int} {F S : List Sp} (hv3 : 0 ≤ v3 ∧ v3 ≤ 255) (hFl : 1 ≤ F.length ∧ F.length ≤ 12) (hSl : 1 ≤ S.length ∧ S.length ≤ 16) (hsv : S.all vWth = true) (hck : sChk ⟨K, t, bl, bh, H, nl, nh⟩ F = 0) (hkk : 1 ≤ kk ∧ kk ≤ K) (hhn : 1 ≤ hn ∧ hn ≤ 6) (hlo : 0 ≤ lo ∧ lo ≤ 42)
    (hbs : Below w.heap.size w wS) (hsf : SliceOf encS 2 wS (.slice (some ⟨lg, 0, none⟩) F.length lc) F) (hss : SliceOf encS 2 wS (.slice (some ⟨sg, 0, none⟩) S.length sc) S) (hr2 : wS.heap[w.heap.size + 1 + 1]? = some (.cells #[u8 v0, u8 v1, u8 v2, u8 v3] 28 (0, 0))) (hrm : wS.heap[w1.heap.size]? = some (.cells #[iv K, iv t, iv bl, iv bh, iv H, iv nl, iv nh] 32 (0, 0))) (hcut : FdCut wS lo p a b wc) :
    Code.wp Try.prog (match Try.f3.body with | some (.seq _ (.seq _ (.seq _ (.seq _ c)))) => c | _ => .skip) (bodyPost Try.prog Try.f3 fun e w' => e = .returned (.bool true) ∧ Below w.heap.size w w') { tmps := #[x0, x1, x2, x3, x4, .pointer (some ⟨w.heap.size + 1 + 1, 0, none⟩), .bool false, .pointer (some ⟨w1.heap.size, 0, none⟩), .slice (some ⟨lg, 0, none⟩) F.length lc, .slice (some ⟨sg, 0, none⟩) S.length sc, .int .i64 kk, .int .i64 (hn : Int), p, undef, undef, undef, undef, undef, undef, undef, undef, u21, u22, u23, u24, u25, u26, u27, u28, u29, u30, u31, u32, u33, u34, u35, u36, u37, u38, u39, u40, u41, u42, u43, u44, u45, u46, u47, u48, u49, u50, u51, a, b, u54, u55, u56, u57, u58, u59, u60, u61, u62, u63, u64, u65, u66, u67, u68, u69, u70, u71, u72, u73, u74, u75, u76, u77, u78, u79, u80, u81, u82, u83, u84, u85, u86, u87, u88, u89, u90, u91, u92, u93, u94, u95, u96, u97, u98, u99, u100, u101, u102, u103, u104, u105, u106, u107, u108, u109, u110, u111, u112, u113, u114, u115, u116, u117, u118, u119, u120, u121, u122, u123, u124, u125, u126, u127, u128, u129, u130, u131, u132, u133, u134, u135, u136, u137, u138, u139, u140, u141, u142, u143, u144, u145, u146, u147, u148, u149, u150, u151, u152, u153, u154, u155, u156, u157, u158, u159, u160, u161, u162, u163, u164, u165, u166, u167, u168, u169, u170, u171, u172, u173, u174, u175, u176, u177, u178, u179, u180, u181, u182, u183, u184, u185, u186, u187, u188, u189, u190, u191, u192, u193], defers := [] } wc := by
  have HV3 := Lib.hid hv3; have HFL := Lib.hid hFl; have HSL := Lib.hid hSl; have HSV := Lib.hid hsv; have HCK := Lib.hid hck; have HKK := Lib.hid hkk; have HHN := Lib.hid hhn; have HLO := Lib.hid hlo
  have HBS := Lib.hid hbs; have HSFS := Lib.hid hsf; have HSS := Lib.hid hss; have HR2S := Lib.hid hr2; have HRMS := Lib.hid hrm
  clear hv3 hsv hck hkk hhn hlo hbs hsf hss hr2 hrm
  conv => arg 2; delta Go.Proofs.Try.f3; dsimp only
  obtain ⟨g, g1, g2, rfl, rfl, rfl, hBC, k0, k1, k2, k3, q0, q1, q2, q3, r0⟩ := hcut
  have HBC := Lib.hid (bstep HBS.out hBC)
  have HSFC := Lib.hid (HSFS.out.below hBC)
  have HSSC := Lib.hid (HSS.out.below hBC)
  have HR2C := Lib.hid (bblkG hBC HR2S.out)
  have HRMC := Lib.hid (bblkG hBC HRMS.out)
  have HTC := Lib.hid (tn_cells (cap := 1) q0 q1 q2 q3)
  have HTR := Lib.hid (show Ints wc (.slice (some ⟨g2, 0, none⟩) 1 1) [60] from ints1 r0)
  have HKF := Lib.hid (And.intro k0 (And.intro k1 (And.intro k2 k3)))
  obtain ⟨rn, hrn⟩ : ∃ rn : Nat, v3 % ((S.length : Int) + 1) = (rn : Int) := ⟨(v3 % ((S.length : Int) + 1)).toNat, by have := Int.emod_nonneg v3 (b := (S.length : Int) + 1) (by omega); omega⟩
  have hrl : rn ≤ S.length := by have := Int.emod_lt_of_pos v3 (b := (S.length : Int) + 1) (by omega); omega
  have hv3 := HV3.out
  have d0 : wc.cell? ⟨w.heap.size + 1 + 1, 3, none⟩ = some (Ytiellodbdidgoaa.u8 v3) := by rw [cell_of_row _ _ _ _ _ _ HR2C.out]; rfl
  have f0 : IntKind.i64.wrap v3 = v3 := IntWalk.i64_in _ ⟨by omega, by omega⟩
  have f1 : IntKind.i64.wrap ((S.length : Int) + 1) = (S.length : Int) + 1 := IntWalk.i64_in _ ⟨by omega, by omega⟩
  have f2 : v3.tmod ((S.length : Int) + 1) = (rn : Int) := by rw [Int.tmod_eq_emod_of_nonneg hv3.1, hrn]
  have f3 : IntKind.i64.wrap (rn : Int) = (rn : Int) := IntWalk.i64_in _ ⟨by omega, by omega⟩
  have f4 : ¬ ((S.length : Int) + 1 = 0) := by omega
  have f5 : (((S.length : Int) + 1) == 0) = false := by simpa using f4
  clear hrn hv3 hBC k0 k1 k2 k3 q0 q1 q2 q3 r0 HBS HSFS HSS HR2S HRMS
  go_wp2_with fail
  clear d0 f0 f1 f2 f3 f4 f5
  obtain ⟨a, er, hwv, her⟩ := win_pair (m := ⟨K, t, bl, bh, H, nl, nh⟩) (F := F) (k := kk) (hours := (hn : Int))
  have hal : a < F.length := by
    rcases her with ⟨-, h⟩ | ⟨-, h⟩
    · exact win_lt h
    · omega
  have HER : Hid (er = 0 ∨ (er = 7 ∧ a = 0)) := her.imp And.left id
  have hfm : F.length ≤ 1000000 := by omega
  have hfm2 : F.length ≤ 140737488355328 := by omega
  have HWI := Lib.hid (fun (W : World) (v : Value) (h : SliceOf encS 2 W v F) => by
    have := Window_good ⟨K, t, bl, bh, H, nl, nh⟩ F v kk (hn : Int) W h HCK.out (inB_iff.2 HKK.out) (inB_iff.2 (by have := HHN.out; omega))
    rw [hwv] at this; exact this)
  have HFO := Lib.hid (fun (W : World) (h : SliceOf encS 2 W (.slice (some ⟨lg, 0, none⟩) F.length lc) F) => elmSpans_any F ⟨lg, 0, none⟩ lc W hfm h)
  simp only [encMl] at HWI
  have d0 : wc.cell? ⟨w1.heap.size, 0, none⟩ = some (iv K) := by rw [cell_of_row _ _ _ _ _ _ HRMC.out]; rfl
  have d1 : wc.cell? ⟨w1.heap.size, 1, none⟩ = some (iv t) := by rw [cell_of_row _ _ _ _ _ _ HRMC.out]; rfl
  have d2 : wc.cell? ⟨w1.heap.size, 2, none⟩ = some (iv bl) := by rw [cell_of_row _ _ _ _ _ _ HRMC.out]; rfl
  have d3 : wc.cell? ⟨w1.heap.size, 3, none⟩ = some (iv bh) := by rw [cell_of_row _ _ _ _ _ _ HRMC.out]; rfl
  have d4 : wc.cell? ⟨w1.heap.size, 4, none⟩ = some (iv H) := by rw [cell_of_row _ _ _ _ _ _ HRMC.out]; rfl
  have d5 : wc.cell? ⟨w1.heap.size, 5, none⟩ = some (iv nl) := by rw [cell_of_row _ _ _ _ _ _ HRMC.out]; rfl
  have d6 : wc.cell? ⟨w1.heap.size, 6, none⟩ = some (iv nh) := by rw [cell_of_row _ _ _ _ _ _ HRMC.out]; rfl
  have hsf := HSFC.out
  have hbz : Below wc.heap.size wc wc := Below.refl _ _
  clear hwv her hfm HRMC HSFC
  go_region_held3 (fun w' => w'.cell? ⟨w1.heap.size, 0, none⟩ = some (iv K) ∧ w'.cell? ⟨w1.heap.size, 1, none⟩ = some (iv t) ∧ w'.cell? ⟨w1.heap.size, 2, none⟩ = some (iv bl) ∧ w'.cell? ⟨w1.heap.size, 3, none⟩ = some (iv bh) ∧ w'.cell? ⟨w1.heap.size, 4, none⟩ = some (iv H) ∧ w'.cell? ⟨w1.heap.size, 5, none⟩ = some (iv nl) ∧ w'.cell? ⟨w1.heap.size, 6, none⟩ = some (iv nh) ∧ SliceOf encS 2 w' (.slice (some ⟨lg, 0, none⟩) F.length lc) F ∧ Below wc.heap.size wc w')
    (first | (go_split_ands; refine ⟨?_, ?_, ?_, ?_, ?_, ?_, ?_, ?_, ?_⟩ <;> first | assumption | exact kcell hbK (by assumption) | exact kfrozen hbK (by assumption) (by assumption) | exact bstep (by assumption) hbK | exact SliceOf.below (by assumption) hbK) | (refine ⟨?_, ?_, ?_, ?_, ?_, ?_, ?_, ?_, ?_⟩ <;> first | exact Below.drew (by assumption) | exact SliceOf.below (by assumption) ((Below.refl _ _).drew) | assumption))
    (first | (go_split_ands; (with_reducible refine (HFO.out _ (by assumption)).mono ?_); rintro e wO ⟨vo, rfl, hoO, hbK⟩; have hSO := Owns.slice hoO encS_len hfm2) | ((with_reducible refine (HWI.out _ _ (by assumption)).mono ?_); rintro e wM ⟨rfl, hbK⟩))
  rename_i hHeld
  have hb5 : Below wc.heap.size wc wM := hHeld.2.2.2.2.2.2.2.2
  have HB5 := Lib.hid (bstep HBC.out hb5)
  have HS5 := Lib.hid (HSSC.out.below hb5)
  have HT5 := Lib.hid (HTC.out.below hb5)
  have HI5 := Lib.hid (HTR.out.below hb5)
  obtain ⟨k0, k1, k2, k3⟩ := HKF.out
  have k0 := kcell hb5 k0; have k1 := kcell hb5 k1; have k2 := kcell hb5 k2; have k3 := kcell hb5 k3
  have HK5 := Lib.hid (And.intro k0 (And.intro k1 (And.intro k2 k3)))
  obtain ⟨l, el, hlv, hel⟩ := late_pair (c := wdC lo) (S := S) (rn := rn)
  have HEL := Lib.hid hel
  have HOK := Lib.hid (wd_ok HLO.out HSL.out HSV.out)
  have HLT := Lib.hid (fun ca ra wa cc rc wc (W : World) h1 h2 h3 => wd_late HOK.out hrl hlv ca ra wa cc rc wc W h1 h2 h3)
  have hsm : S.length ≤ 1000000 := by have := HSL.out; omega
  have HWO := Lib.hid (fun (W : World) (h : SliceOf encS 2 W (.slice (some ⟨sg, 0, none⟩) S.length sc) S) => elmSpans_any S ⟨sg, 0, none⟩ sc W hsm h)
  clear hHeld hb5 hbK hSO hoO d0 d1 d2 d3 d4 d5 d6 hsf hbz HWI HFO HKF HBC HSSC HTC HTR hfm2 hlv hel hsm
  go_wp2_with fail
  refine (wd_own lo g1 g2 _ HT5.out HI5.out).mono ?_
  rintro e w6 ⟨y1, z1, y2, z2, rfl, s1, s2, hb6⟩
  have HB6 := Lib.hid (bstep HB5.out hb6)
  have HT6 := Lib.hid (HT5.out.below hb6); have HI6 := Lib.hid (HI5.out.below hb6); have HS6 := Lib.hid (HS5.out.below hb6)
  have HK6 := Lib.hid (And.intro (kcell hb6 k0) (And.intro (kcell hb6 k1) (And.intro (kcell hb6 k2) (kcell hb6 k3))))
  have HY1 := Lib.hid s1; have HY2 := Lib.hid s2
  clear s1 s2 hb6 k0 k1 k2 k3
  go_wp2_with fail
  refine (HWO.out _ HS6.out).mono ?_
  rintro e w7 ⟨vw, rfl, ho7, hb7⟩
  obtain ⟨tg, tc, rfl⟩ := owns_addrG ho7 (by have := HSL.out; omega)
  have HY3 := Lib.hid (Owns.slice ho7 encS_len (by have := HSL.out; omega))
  have HB7 := Lib.hid (bstep HB6.out hb7)
  have HT7 := Lib.hid (HT6.out.below hb7); have HI7 := Lib.hid (HI6.out.below hb7); have HS7 := Lib.hid (HS6.out.below hb7)
  have HK7 := Lib.hid (And.intro (kcell hb7 HK6.out.1) (And.intro (kcell hb7 HK6.out.2.1) (And.intro (kcell hb7 HK6.out.2.2.1) (kcell hb7 HK6.out.2.2.2))))
  have HY1 := Lib.hid (HY1.out.below hb7); have HY2 := Lib.hid (HY2.out.below hb7)
  clear ho7 hb7
  go_wp2_with fail
  refine (HLT.out _ _ _ _ _ _ _ HY1.out HY2.out HY3.out).mono ?_
  rintro e w8 ⟨rfl, hb8⟩
  have HB8 := Lib.hid (bstep HB7.out hb8)
  have HT8 := Lib.hid (HT7.out.below hb8); have HI8 := Lib.hid (HI7.out.below hb8); have HS8 := Lib.hid (HS7.out.below hb8)
  have HK8 := Lib.hid (And.intro (kcell hb8 HK7.out.1) (And.intro (kcell hb8 HK7.out.2.1) (And.intro (kcell hb8 HK7.out.2.2.1) (kcell hb8 HK7.out.2.2.2))))
  clear hb8 HY1 HY2 HY3 HLT HT5 HI5 HS5 HK5 HB5 HB6 HT6 HI6 HS6 HK6 HB7 HT7 HI7 HS7 HK7
  have hll : l ≤ rn := by
    rcases HEL.out with ⟨-, h⟩ | ⟨-, h, -⟩
    · exact late_le h
    · omega
  go_upto_region 7 with (fail)
  go_cut [120] (fun b wx => b = .bool false ∧ wx = w8)
  case first =>
    have b1 : ¬ ((a : Int) < 0) := by omega
    have b2 : ¬ ((F.length : Int) ≤ (a : Int)) := by omega
    have b3 : ¬ ((l : Int) < 0) := by omega
    have b4 : ¬ ((rn : Int) < (l : Int)) := by omega
    have b5 : ¬ F.length = 0 := by omega
    have b6 : ¬ F = [] := fun h => b5 (by rw [h]; rfl)
    rcases HER.out with rfl | ⟨rfl, rfl⟩
    · rcases HEL.out with ⟨rfl, -⟩ | ⟨rfl, rfl, -⟩
      · go_wp2_with fail
        go_meet
        exact ⟨rfl, rfl⟩
      · go_wp2_with fail
        go_meet
        exact ⟨rfl, rfl⟩
    · rcases HEL.out with ⟨rfl, -⟩ | ⟨rfl, rfl, -⟩
      · go_wp2_with fail
        go_meet
        exact ⟨rfl, rfl⟩
      · go_wp2_with fail
        go_meet
        exact ⟨rfl, rfl⟩
  case rest =>
    obtain ⟨rfl, hcut⟩ := hcut
    subst hcut
    obtain ⟨fr0, hfr0⟩ : ∃ q : Nat, a + hn = q := ⟨_, rfl⟩
    have hfr1 : fr0 ≤ 18 := by have := HHN.out; have := HFL.out; omega
    have e0 : IntKind.i64.wrap ((a : Int) + (hn : Int)) = (fr0 : Int) := by rw [IntWalk.i64_in _ ⟨by omega, by omega⟩]; omega
    clear hfr0
    go_wp2_with fail
    clear e0
    go_loopw [18] (fun i wr => ∃ fr : Nat, i = iv fr ∧ fr ≤ 18 ∧ Hid (Below wc.heap.size wc wr)) (fun i _ => 18 - (intOf i).toNat)
    case atStart => exact ⟨fr0, rfl, hfr1, Below.refl _ _⟩
    case round =>
      obtain ⟨fr, rfl, hfr, HBr⟩ := hrel
      by_cases hgo : er = 0 ∧ fr ≤ S.length
      · obtain ⟨rfl, hfs⟩ := hgo
        have HDR := Lib.hid (fun ca ra wa cc rc wc (W : World) h1 h2 h3 => wd_dry HOK.out hfs ca ra wa cc rc wc W h1 h2 h3)
        have HEA := Lib.hid (ear_lat HSV.out (wdC_ok HLO.out) hfs)
        have HLI := Lib.hid (fun h => late_iff (c := wdC lo) (S := S) (rain := rn) (fr := fr) HSV.out hrl h)
        have HTr := Lib.hid (HT8.out.below HBr.out); have HIr := Lib.hid (HI8.out.below HBr.out); have HSr := Lib.hid (HS8.out.below HBr.out)
        have k0 := kcell HBr.out HK8.out.1; have k1 := kcell HBr.out HK8.out.2.1; have k2 := kcell HBr.out HK8.out.2.2.1; have k3 := kcell HBr.out HK8.out.2.2.2
        go_wp2_with fail
        refine (wd_own lo g1 g2 _ HTr.out HIr.out).mono ?_
        rintro e wA ⟨y1, z1, y2, z2, rfl, s1, s2, hbA⟩
        have HY1 := Lib.hid s1; have HY2 := Lib.hid s2
        have HSA := Lib.hid (HSr.out.below hbA)
        have HBA := Lib.hid (bstep HBr.out hbA)
        clear k0 k1 k2 k3 s1 s2 hbA HTr HIr HSr
        go_wp2_with fail
        refine (HWO.out _ HSA.out).mono ?_
        rintro e wB ⟨vw, rfl, hoB, hbB⟩
        obtain ⟨ug, uc, rfl⟩ := owns_addrG hoB (by have := HSL.out; omega)
        have HY3 := Lib.hid (Owns.slice hoB encS_len (by have := HSL.out; omega))
        have HY1 := Lib.hid (HY1.out.below hbB); have HY2 := Lib.hid (HY2.out.below hbB)
        have HBB := Lib.hid (bstep HBA.out hbB)
        clear hoB hbB HSA HBA
        go_wp2_with fail
        refine (HDR.out _ _ _ _ _ _ _ HY1.out HY2.out HY3.out).mono ?_
        rintro e wD ⟨dg, rfl, hsd, hbD⟩
        have HBD := Lib.hid (bstep HBB.out hbD)
        obtain ⟨dg', do', hde, hdj⟩ := sl_rowG (k := 0) hsd rfl
        simp only [Option.some.injEq, Addr.mk.injEq, and_true] at hde
        obtain ⟨rfl, rfl⟩ := hde
        obtain ⟨ea, hea⟩ : ∃ n : Nat, earL (wdC lo) S fr = n := ⟨_, rfl⟩
        obtain ⟨lt, hlt⟩ : ∃ n : Nat, latL (wdC lo) S fr = n := ⟨_, rfl⟩
        have x0 : wD.cell? ⟨dg, 0, none⟩ = some (iv (ea : Int)) := by have := hdj 0 _ rfl; rw [← hea]; exact this
        have x1 : wD.cell? ⟨dg, 1, none⟩ = some (iv (lt : Int)) := by have := hdj 1 _ rfl; rw [← hlt]; exact this
        have hea1 := HEA.out; rw [hea, hlt] at hea1
        have hli := HLI.out; rw [hlt] at hli
        have b1 : ¬ ((ea : Int) < (fr : Int)) := by omega
        have b2 : ¬ ((lt : Int) < (ea : Int)) := by omega
        have b3 : ¬ ea < fr := by omega
        have b4 : ¬ lt < ea := by omega
        have HLI2 := Lib.hid hli
        clear hea hlt hea1 hli hsd hbD hdj HDR HEA HLI HY1 HY2 HY3 HBB
        by_cases hA : fr ≤ rn
        · by_cases hB : lt ≤ rn
          · obtain ⟨q, hq, hqf⟩ := (HLI2.out hA).1 hB
            have hel : el = 0 ∧ fr ≤ l := by
              rcases HEL.out with ⟨h1, h2⟩ | ⟨h1, -, h2⟩
              · rw [h2] at hq; obtain rfl := Option.some.inj hq; exact ⟨h1, hqf⟩
              · rw [h2] at hq; cases hq
            obtain ⟨rfl, hfl2⟩ := hel
            have a1 : (fr : Int) ≤ (rn : Int) := by omega
            have a2 : (lt : Int) ≤ (rn : Int) := by omega
            have a3 : (fr : Int) ≤ (l : Int) := by omega
            clear hq
            go_wp2_with fail
            go_quiet (fail)
            have HBZ : Hid (Below wc.heap.size wc (wD.drewN nq)) := bdrewN HBD.out _
            clear x0 x1
            go_wp2_with fail
            go_roundw
            case rel => exact ⟨fr + 1, by go_num, by have := HSL.out; omega, HBZ.out⟩
            case measure => simp [intOf]; omega
          · rcases HEL.out with ⟨rfl, h2⟩ | ⟨rfl, -, h2⟩
            · have hfl2 : ¬ fr ≤ l := fun h => hB ((HLI2.out hA).2 ⟨l, h2, h⟩)
              have a1 : (fr : Int) ≤ (rn : Int) := by omega
              have a2 : ¬ (lt : Int) ≤ (rn : Int) := by omega
              have a3 : ¬ (fr : Int) ≤ (l : Int) := by omega
              clear h2
              go_wp2_with fail
              go_quiet (fail)
              have HBZ : Hid (Below wc.heap.size wc (wD.drewN nq)) := bdrewN HBD.out _
              clear x0 x1
              go_wp2_with fail
              go_roundw
              case rel => exact ⟨fr + 1, by go_num, by have := HSL.out; omega, HBZ.out⟩
              case measure => simp [intOf]; omega
            · have a1 : (fr : Int) ≤ (rn : Int) := by omega
              have a2 : ¬ (lt : Int) ≤ (rn : Int) := by omega
              clear h2
              go_wp2_with fail
              go_quiet (fail)
              have HBZ : Hid (Below wc.heap.size wc (wD.drewN nq)) := bdrewN HBD.out _
              clear x0 x1
              go_wp2_with fail
              go_roundw
              case rel => exact ⟨fr + 1, by go_num, by have := HSL.out; omega, HBZ.out⟩
              case measure => simp [intOf]; omega
        · have a1 : ¬ (fr : Int) ≤ (rn : Int) := by omega
          go_wp2_with fail
          go_quiet (fail)
          have HBZ : Hid (Below wc.heap.size wc (wD.drewN nq)) := bdrewN HBD.out _
          clear x0 x1
          go_wp2_with fail
          go_roundw
          case rel => exact ⟨fr + 1, by go_num, by have := HSL.out; omega, HBZ.out⟩
          case measure => simp [intOf]; omega
      · have hno : er = 0 → ¬ fr ≤ S.length := fun h h2 => hgo ⟨h, h2⟩
        rcases HER.out with rfl | ⟨rfl, -⟩
        · have hno2 : ¬ (fr : Int) ≤ (S.length : Int) := by have := hno rfl; omega
          have hno3 : ¬ fr ≤ S.length := hno rfl
          clear hno hgo
          go_wp2_with fail
          refine (elmWater_any _).mono ?_
          rintro e wX ⟨rfl, hbX⟩
          go_wp2_with fail
          refine (elmField_any _).mono ?_
          rintro e wY ⟨rfl, hbY⟩
          have HBZ := Lib.hid (bstep HB8.out (bstep HBr.out (bstep hbX hbY)))
          go_wp2_with fail
          go_ret
          exact ⟨rfl, HBZ.out⟩
        · clear hno hgo
          go_wp2_with fail
          refine (elmWater_any _).mono ?_
          rintro e wX ⟨rfl, hbX⟩
          go_wp2_with fail
          refine (elmField_any _).mono ?_
          rintro e wY ⟨rfl, hbY⟩
          have HBZ := Lib.hid (bstep HB8.out (bstep HBr.out (bstep hbX hbY)))
          go_wp2_with fail
          go_ret
          exact ⟨rfl, HBZ.out⟩
end Go.Proofs.Ytiellodbdidgoaa
