/- TopWaitAlibi: the walk behind the minutes. -/
import Derived.Test.YtdalilllakdamaaEc
import Derived.Test.YtdalilllakdamaaEb
import Derived.Test.YtdalilllakdamaaEe
import Derived.BigQuiet
import Derived.Deep.OwnRows
import Derived.StillTailTactics
import Derived.Deep.RegionHeld3
import Derived.Deep.CutBlock
import Derived.Deep.DeepCutAuto
namespace Go.Proofs.Ytdalilllakdamaa
open Go Go.RowKit Go.Shelf
attribute [local go_sem] Oper.semAt_some
attribute [local go_sem ↓] Go.wp_at_zero Go.wp_at_succ

theorem kset2 {W : World} {g b i o : Nat} {x v : Value} (hne : b ≠ g) (h : W.cell? ⟨b, o, none⟩ = some v) : (W.setCell ⟨g, i, none⟩ x).cell? ⟨b, o, none⟩ = some v :=
  (World.cell?_of_block (Below.heap_setCell _ _ _ _ hne)).trans h
theorem infoSgW : (Try.prog.info? 41).map (fun i => (i.zero, i.size, i.bytes)) = some (some (.agg #[.int .i64 0, .int .i64 0, .int .i64 0]), 3, 24) := by kernel_rfl
theorem infoBoW : (Try.prog.info? 4).map (fun i => (i.zero, i.size, i.bytes)) = some (some (.bool false), 1, 1) := by kernel_rfl
theorem encSg_oneW (s : Sg) : ∀ u ∈ encSg s, u.oneCell' = true := by simp [encSg, Value.oneCell']
theorem encSg_cellW {w : World} {g : Nat} {a b c : Int} {t : TypeId} (h : w.heap[g]? = some (.cells #[iv a, iv b, iv c] t (0, 0))) : ∀ j u, (encSg ⟨a, b, c⟩)[j]? = some u → w.cell? ⟨g, j, none⟩ = some u := by
  intro j u hu
  rw [cell_of_row _ _ _ _ _ _ h]
  rcases j with _ | _ | _ | j <;> simp [encSg] at hu ⊢ <;> exact hu
/-- After so many sights: the list of them, and the minutes at which nobody can have been there. -/
structure AlInv (S : List Sg) (F : Nat → Nat → Bool) (N : Nat) (bb : Nat → Nat) (q : Nat) (W : World) (sv : Value) (wr : World) : Prop where
  R : BarInv F N bb q W wr
  O : Owns encSg 3 41 W.heap.size wr sv S
  D : ∀ g, sv.ownBlock = some g → g ≠ q ∧ ∀ p, p < 4 → g ≠ bb p
theorem AlInv.below {S : List Sg} {F : Nat → Nat → Bool} {N q : Nat} {bb : Nat → Nat} {W wr w' : World} {sv : Value} (h : AlInv S F N bb q W sv wr) (hb : Below wr.heap.size wr w') : AlInv S F N bb q W sv w' :=
  ⟨h.R.below hb, h.O.kept hb, h.D⟩
theorem AlInv.congr {S : List Sg} {F G : Nat → Nat → Bool} {N q : Nat} {bb : Nat → Nat} {W wr : World} {sv : Value} (h : AlInv S F N bb q W sv wr) (e : ∀ p i, p < 4 → i < N → F p i = G p i) : AlInv S G N bb q W sv wr :=
  ⟨h.R.congr e, h.O, h.D⟩
theorem AlInv.set {S : List Sg} {F : Nat → Nat → Bool} {N q : Nat} {bb : Nat → Nat} {W wr : World} {sv : Value} (h : AlInv S F N bb q W sv wr) {p j : Nat} (hp : p < 4) (b : Bool) :
    AlInv S (fun r i => if r = p ∧ i = j then b else F r i) N bb q W sv (wr.setCell ⟨bb p, j, none⟩ (.bool b)) := by
  refine ⟨h.R.set hp b, World.ownsRow.kept h.O (grown_setW _ _ _ _) ?_, h.D⟩
  cases e : sv.ownBlock with
  | none => exact .inl rfl
  | some g => exact .inr (fun e2 => (h.D g e).2 p hp (Option.some.inj e2.symm).symm)
theorem AlInv.more {S : List Sg} {s : Sg} {F : Nat → Nat → Bool} {N q g' n cap : Nat} {bb : Nat → Nat} {W wr w3 : World} {sv : Value} (h : AlInv S F N bb q W sv wr) (hO : Owns encSg 3 41 W.heap.size w3 (.slice (some ⟨g', 0, none⟩) n cap) (S ++ [s]))
    (hb : Below W.heap.size wr w3) (hg : wr.grownBy w3 sv.ownBlock) (hl : sv.ownBlock = some g' ∨ g' = wr.heap.size) : AlInv (S ++ [s]) F N bb q W (.slice (some ⟨g', 0, none⟩) n cap) w3 := by
  have keep : ∀ k, k < wr.heap.size → (∀ g, sv.ownBlock = some g → g ≠ k) → w3.heap[k]? = wr.heap[k]? := fun k hk hn => hg.block k hk (fun e => hn k e.symm rfl)
  refine ⟨⟨h.R.B.trans hb, h.R.lo, fun p hp => ?_, h.R.nq, h.R.ne, ?_⟩, hO, fun g e => ?_⟩
  · rw [keep _ (Array.getElem?_eq_some_iff.1 (h.R.h p hp)).1 (fun g e => (h.D g e).2 p hp)]; exact h.R.h p hp
  · rw [keep _ (Array.getElem?_eq_some_iff.1 h.R.hq).1 (fun g e => (h.D g e).1)]; exact h.R.hq
  · simp only [Value.ownBlock, Option.some.injEq] at e
    subst e
    rcases hl with hl | hl
    · exact h.D _ hl
    · have h1 := (Array.getElem?_eq_some_iff.1 h.R.hq).1
      refine ⟨by omega, fun p hp => ?_⟩
      have h2 := (Array.getElem?_eq_some_iff.1 (h.R.h p hp)).1
      omega

set_option maxRecDepth 20000 in
set_option maxHeartbeats 12800000 in
theorem walibi_rest {x0 x1 x2 x3 x6 x7 x9 u24 u25 u26 u27 u28 u29 u30 u31 u32 u33 u34 u35 u36 u37 u38 u39 u40 u41 u42 u43 u44 u45 u46 u47 u48 u49 u50 u51 u52 u53 u54 u55 u56 u57 u58 u59 u60 u61 u62 u63 u64 u65 u66 u67 u68 u69 u70 u71 u72 u73 u74 u75 u76 u77 u78 u79 u80 u81 u82 u83 u84 u85 u86 u87 u88 u89 u90 u91 u92 u93 u94 u95 u96 u97 u98 u99 u100 u101 u102 u103 u104 u105 u106 u107 u108 u109 u110 u111 u112 u113 u114 u115 u116 u117 u118 u119 u120 u121 u122 u123 u124 u125 u126 u127 u128 u129 u130 u131 u132 u133 u134 u135 u136 u137 u138 u139 u140 u141 u142 u143 u144 u145 u146 u147 u148 u149 u150 u151 u152 u153 u154 u155 u156 u157 u158 u159 u160 u161 u162 u163 u164 u165 u166 u167 u168 u169 u170 u171 u172 u173 u174 u175 u176 u177 u178 u179 u180 u181 u182 u183 u184 u185 u186 u187 u188 u189 u190 u191 u192 u193 u194 u195 u196 u197 u198 u199 u200 u201 u202 u203 u204 u205 u206 u207 u208 u209 u210 u211 u212 u213 u214 u215 u216 u217 u218 u219 u220 u221 u222 u223 u224 u225 u226 u227 u228 u229 u230 u231 u232 u233 u234 u235 u236 u237 u238 u239 u240 u241 u242 u243 : Value} {w W0 wc : World} {ta : Option Addr} {tn qa gq K N : Nat} {gl gh aw : Int} {rv : Value} {C : List Ct} {o : List Nat}
    (hN : (N : Int) = gh - gl + 1) (hN1 : 1 ≤ N ∧ N ≤ 31) (hgl : 0 ≤ gl ∧ gl ≤ 1100) (hgh : gh ≤ 1100) (haw : 0 ≤ aw ∧ aw ≤ 99) (hC6 : C.length ≤ 6)
    (hwe : ∀ i, i < C.length → 0 ≤ (ctAt C i).we ∧ (ctAt C i).we ≤ 3) (hst : ∀ i, i < C.length → (stF C K o).getD (i * 2 + 1) 0 = (stF C K o).getD (i * 2) 0 ∧ 0 ≤ (stF C K o).getD (i * 2) 0 ∧ (stF C K o).getD (i * 2) 0 ≤ 22)
    (hd : WdInv C W0 rv (.slice ta C.length tn) wc) (hrow : wc.heap[qa]? = some (.cells (rowI (stF C K o)) 29 (0, 0))) (hgq : wc.heap[gq]? = some (.cells #[iv gl, iv gh] 29 (0, 0))) (hb : Below w.heap.size w wc) :
    Code.wp Try.prog (match Try.f3.body with | some (.seq _ (.seq _ (.seq _ (.seq _ (.seq _ (.seq _ c)))))) => c | _ => .skip) (bodyPost Try.prog Try.f3 fun e w' => e = .returned (.bool true) ∧ Below w.heap.size w w')
      { tmps := #[x0, x1, x2, x3, .bool false, .pointer (some ⟨W0.heap.size, 0, none⟩), x6, x7, .slice (some ⟨qa, 0, none⟩) C.length C.length, x9, iv aw, .pointer (some ⟨gq, 0, none⟩), undef, undef, undef, undef, undef, undef, undef, undef, undef, undef, undef, undef, u24, u25, u26, u27, u28, u29, u30, u31, u32, u33, u34, u35, u36, u37, u38, u39, u40, u41, u42, u43, u44, u45, u46, u47, u48, u49, u50, u51, u52, u53, u54, u55, u56, u57, u58, u59, u60, u61, u62, u63, u64, u65, u66, u67, u68, u69, u70, u71, u72, u73, u74, u75, u76, u77, u78, u79, u80, u81, u82, u83, u84, u85, u86, u87, u88, u89, u90, u91, u92, u93, u94, u95, u96, u97, u98, u99, u100, u101, u102, u103, u104, u105, u106, u107, u108, u109, u110, u111, u112, u113, u114, u115, u116, u117, u118, u119, u120, u121, u122, u123, u124, u125, u126, u127, u128, u129, u130, u131, u132, u133, u134, u135, u136, u137, u138, u139, u140, u141, u142, u143, u144, u145, u146, u147, u148, u149, u150, u151, u152, u153, u154, u155, u156, u157, u158, u159, u160, u161, u162, u163, u164, u165, u166, u167, u168, u169, u170, u171, u172, u173, u174, u175, u176, u177, u178, u179, u180, u181, u182, u183, u184, u185, u186, u187, u188, u189, u190, u191, u192, u193, u194, u195, u196, u197, u198, u199, u200, u201, u202, u203, u204, u205, u206, u207, u208, u209, u210, u211, u212, u213, u214, u215, u216, u217, u218, u219, u220, u221, u222, u223, u224, u225, u226, u227, u228, u229, u230, u231, u232, u233, u234, u235, u236, u237, u238, u239, u240, u241, u242, u243], defers := [] } wc := by
  have HN := Lib.hid hN; have HN1 := Lib.hid hN1; have HGL := Lib.hid hgl; have HGH := Lib.hid hgh; have HAW := Lib.hid haw; have HWEE := Lib.hid hwe; have HST := Lib.hid hst
  have HD := Lib.hid hd; have HRW := Lib.hid hrow; have HGQ := Lib.hid hgq; have HB := Lib.hid hb
  have HCC := Lib.hid (Owns.slice hd.O encC_len (by omega))
  clear hwe hst hd hrow hgq hb haw
  conv => arg 2; delta Go.Proofs.Try.f3; dsimp only
  have hmk : ∀ W : World, (Instr.makeSlice 38 (.int .i64 (gh - gl + 1)) (.int .i64 (gh - gl + 1))).run Try.prog W = .ok (.slice (some ⟨W.heap.size, 0, none⟩) N N) (W.alloc (.cells (bRow (fun _ => false) N) 4)) := fun W => by
    rw [← bRow_made, ← hN]
    exact run_make_row' 38 4 (.bool false) 1 Try.underlying38 infoBoW rfl .i64 .i64 N (by omega) (by omega) W
  have hgd1 : gl ≤ gh := by omega
  have hgd2 : gh - gl ≤ 30 := by omega
  clear hN
  obtain ⟨W1, hW1⟩ : ∃ W : World, wc.alloc (.cells #[] 41) = W := ⟨_, rfl⟩
  have hz1 : wc.heap.size + 1 = W1.heap.size := by rw [← hW1]; simp
  have hb1 : Below wc.heap.size wc W1 := by rw [← hW1]; exact bpush (Below.refl _ _) _
  have HOS := Lib.hid (show Owns encSg 3 41 wc.heap.size W1 (.slice (some ⟨wc.heap.size, 0, none⟩) 0 0) [] by rw [← hW1]; exact owns_empty encSg 3 41 wc.heap.size wc (Nat.le_refl _))
  have HB1 := Lib.hid hb1; have HZ1 := Lib.hid hz1; have HW1 := Lib.hid hW1
  clear hW1 hb1 hz1
  go_upto_region 12 with (fail)
  rw [HW1.out, HZ1.out]
  clear HW1
  go_wp2_with fail
  go_loopw [14] (fun i wr => ∃ (k : Nat) (bb : Nat → Nat), k ≤ 4 ∧ i = iv k ∧ Hid (BarK N bb k wc W1 wr)) (fun i _ => 4 - (intOf i).toNat)
  case atStart => exact ⟨0, fun _ => 0, by omega, rfl, BarK.start HB1.out.size⟩
  case round =>
    obtain ⟨k, bb, hk, rfl, HBK⟩ := hrel
    by_cases hlt : k < 4
    · have hgr := bblkG (HB1.out.trans (HBK.out.B.mono HBK.out.z)) HGQ.out
      have c0 : wr.cell? ⟨gq, 0, none⟩ = some (iv gl) := by rw [cell_of_row _ _ _ _ _ _ hgr]; rfl
      have c1 : wr.cell? ⟨gq, 1, none⟩ = some (iv gh) := by rw [cell_of_row _ _ _ _ _ _ hgr]; rfl
      have d0 := HBK.out.cell hlt
      have d1 : wr.frozen? ⟨W1.heap.size, k, none⟩ = false := HBK.out.frozen
      have n0 : W1.heap.size < wr.heap.size := HBK.out.S
      have hk0 : (0 : Int) ≤ (k : Int) := by omega
      have hk1 : (k : Int) < 4 := by omega
      clear hgr
      go_wp2_with fail
      go_roundw
      case rel => exact ⟨k + 1, _, by omega, by go_num, HBK.out.more hlt⟩
      case measure => simp [intOf]; omega
    · have hk4 : k = 4 := by omega
      have HBK : Hid (BarK N bb 4 wc W1 wr) := by rw [← hk4]; exact HBK
      have hk5 : ¬ (k : Int) < 4 := by omega
      clear hk hlt hk4
      have HA0 : Hid (AlInv [] (fun _ _ => false) N bb W1.heap.size wc (.slice (some ⟨wc.heap.size, 0, none⟩) 0 0) wr) := by
        refine ⟨HBK.out.done HB1.out, Owns.kept HOS.out HBK.out.B, fun g e => ?_⟩
        simp only [Value.ownBlock, Option.some.injEq] at e
        subst e
        have hz := HZ1.out
        exact ⟨by omega, fun p hp => by have := HBK.out.lo p hp; omega⟩
      clear HBK hmk HOS
      obtain ⟨i0, hi, hy0, hy1, hy2⟩ := info_parts infoSgW
      have HI := Lib.hid hi; have HZI0 := Lib.hid hy0; have HZI1 := Lib.hid hy1; have HZI2 := Lib.hid hy2
      clear hi hy0 hy1 hy2
      obtain ⟨q, hq⟩ : ∃ q, W1.heap.size = q := ⟨_, rfl⟩
      rw [hq] at HA0 ⊢
      clear hq
      rename World => wR
      go_wp2_with fail
      go_loopw [12, 15] (fun sv i wr => ∃ h : Nat, h ≤ C.length ∧ i = iv h ∧ Hid (AlInv (waS C (stF C K o) aw h) (fun p j => waB (waS C (stF C K o) aw h) (p : Int) (gl + (j : Int))) N bb q wc sv wr)) (fun _ i _ => C.length - (intOf i).toNat)
      case atStart => exact ⟨0, Nat.zero_le _, rfl, HA0.out⟩
      case round =>
        obtain ⟨h, hh, rfl, HA⟩ := hrel
        by_cases hlt : h < C.length
        · obtain ⟨c, hc⟩ := getElem?_of_lt hlt
          have hce : ctAt C h = c := by simp [ctAt, List.getD_eq_getElem?_getD, hc]
          have hwe := HWEE.out h hlt
          obtain ⟨hs1, hs2, hs3⟩ := HST.out h hlt
          have e0 := (WdInv.below HD.out HA.out.R.B).c0
          obtain ⟨cb, co, rfl, hj⟩ := sl_rowG (HCC.out.below HA.out.R.B) hc
          have e1 : wr.cell? ⟨cb, co + h * 4, none⟩ = some (iv c.we) := hj 0 _ rfl
          have hrw := bblkG HA.out.R.B HRW.out
          have e2 := cell_rowI (i := h * 2) hrw (by rw [stF_len]; omega)
          have e3 := cell_rowI (i := h * 2 + 1) hrw (by rw [stF_len]; omega)
          rw [hs1] at e3
          obtain ⟨pn, hpn⟩ : ∃ pn : Nat, c.we = (pn : Int) := ⟨c.we.toNat, by rw [hce] at hwe; omega⟩
          have hp4 : pn < 4 := by rw [hce] at hwe; omega
          have HWS := Lib.hid (waS_succ C (stF C K o) aw h)
          rw [hce] at HWS
          rw [hpn] at e1 HWS
          have hsl : (waS C (stF C K o) aw h).length = h := waS_len _ _ _ _
          generalize (stF C K o).getD (h * 2) 0 = st at *
          generalize waS C (stF C K o) aw h = Sg0 at *
          obtain ⟨Sg1, hSg1⟩ : ∃ S, waS C (stF C K o) aw (h + 1) = S := ⟨_, rfl⟩
          rw [hSg1] at HWS
          have HS1 := Lib.hid hSg1
          clear hSg1
          obtain ⟨mi, hmi⟩ : ∃ mi : Int, 60 * st = mi := ⟨_, rfl⟩
          rw [hmi] at HWS
          have hmi2 : 0 ≤ mi ∧ mi ≤ 1320 := by omega
          have g0 : IntKind.i64.wrap (60 * st) = mi := by rw [IntWalk.i64_in _ ⟨by omega, by omega⟩, hmi]
          have hh0 : (0 : Int) ≤ (h : Int) := by omega
          have hh1 : (h : Int) < (C.length : Int) := by omega
          have b1 : (st != st) = false := by simp
          have b2 : ¬ st < 0 := by omega
          have b3 : ¬ (1440 : Int) < mi := by omega
          have hb2 : Hid (Sg0.length + 1 ≤ maxLen ∧ (Sg0.length + 1) * 24 ≤ 140737488355328) := by rw [hsl]; simp only [Hid]; unfold maxLen; omega
          have HSL0 := Lib.hid hsl
          clear hc hce hwe hs1 hs2 hs3 hj hrw hpn hmi hsl
          go_wp2_with fail
          go_quiet (fail)
          obtain ⟨wp, hwp⟩ : ∃ W : World, wr.drewN nq = W := ⟨_, rfl⟩
          rw [hwp]
          have hbp : Below wr.heap.size wr wp := by rw [← hwp]; exact bdrewN (Below.refl _ _) _
          have e2 := kcellG hbp e2
          have e3 := kcellG hbp e3
          clear hwp
          go_wp2_with fail
          go_quiet (fail)
          obtain ⟨wq, hwq⟩ : ∃ W : World, wp.drewN nq = W := ⟨_, rfl⟩
          rw [hwq]
          have hbq : Below wr.heap.size wr wq := by rw [← hwq]; exact bdrewN hbp _
          have HAQ := Lib.hid (AlInv.below HA.out hbq)
          clear hwq hbq hbp e0 e1 e2 e3 g0 HA
          go_upto_region 23 with (at_builtin; refine L_append2W (⟨pn, mi, aw⟩ : Sg) rfl _ _ 37 rfl Try.underlying37 HI.out HZI0.out HZI1.out HZI2.out rfl (Nat.succ_pos 2) encSg_len (encSg_oneW _) rfl rfl (AlInv.below HAQ.out (bpush (Below.refl _ _) _)).O (encSg_cellW (heap_new _ _ _)) hb2.out (Nat.le_trans HAQ.out.R.B.size (bpush (Below.refl _ _) _).size) ?_; intro g' cap w3 hown hbe hG hlie)
          have HA3 := AlInv.more (AlInv.below HAQ.out (bpush (Below.refl _ _) _)) hown hbe hG hlie
          rw [← HWS.out] at HA3
          obtain ⟨sv2, hsv2⟩ : ∃ v : Value, .slice (some ⟨g', 0, none⟩) (Sg0.length + 1) cap = v := ⟨_, rfl⟩
          rw [hsv2] at HA3 ⊢
          have HA3 := Lib.hid HA3
          have hg3 := bblkG HA3.out.R.B HGQ.out
          have f0 : w3.cell? ⟨gq, 0, none⟩ = some (iv gl) := by rw [cell_of_row _ _ _ _ _ _ hg3]; rfl
          clear hown hbe hG hlie hsv2 HAQ hg3 b1 b2 b3
          rename World => wS
          go_wp2_with fail
          clear f0
          go_loopw [18] (fun m W => ∃ j : Nat, j ≤ N ∧ m = iv (gl + (j : Int)) ∧ Hid (AlInv Sg1 (fun p i => if p = pn ∧ i < j then waB Sg1 (p : Int) (gl + (i : Int)) else waB Sg0 (p : Int) (gl + (i : Int))) N bb q wc sv2 W)) (fun m _ => (gh + 1 - intOf m).toNat)
          case atStart => exact ⟨0, Nat.zero_le _, by simp, HA3.out.congr fun p i _ _ => by rw [if_neg (by omega)]⟩
          case round =>
            obtain ⟨j, hj, rfl, HA4⟩ := hrel
            have hgr := bblkG HA4.out.R.B HGQ.out
            have c0 : wr.cell? ⟨gq, 0, none⟩ = some (iv gl) := by rw [cell_of_row _ _ _ _ _ _ hgr]; rfl
            have c1 : wr.cell? ⟨gq, 1, none⟩ = some (iv gh) := by rw [cell_of_row _ _ _ _ _ _ hgr]; rfl
            have hNN := HN.out
            clear hgr
            by_cases hjN : j < N
            · have s0 := HA4.out.R.slice hp4
              have y0 := HA4.out.R.cell hp4 hjN
              rw [if_neg (by omega)] at y0
              have y1 : wr.frozen? ⟨bb pn, j, none⟩ = false := HA4.out.R.frozen hp4
              have hix : IntKind.i64.wrap (gl + (j : Int) - gl) = (j : Int) := by rw [IntWalk.i64_in _ ⟨by omega, by omega⟩]; omega
              have i0 : (0 : Int) ≤ (j : Int) := by omega
              have i1 : (j : Int) < (N : Int) := by omega
              have i2 : (0 : Int) ≤ (pn : Int) := by omega
              have i3 : (pn : Int) < 4 := by omega
              have i4 : gl + (j : Int) ≤ gh := by omega
              have i5 : gl + (j : Int) ≤ 1100 := by omega
              have HNX : Hid (waB Sg1 (pn : Int) (gl + (j : Int)) = (waB Sg0 (pn : Int) (gl + (j : Int)) || decide (max (gl + (j : Int) - mi) (mi - (gl + (j : Int))) < aw))) := by
                unfold Hid; rw [HWS.out, waB_snoc]; simp [wtB]
              have hlb : bb pn < wr.heap.size := (Array.getElem?_eq_some_iff.1 (HA4.out.R.h pn hp4)).1
              have hq2 : q ≠ bb pn := fun e => HA4.out.R.nq pn hp4 e.symm
              have hq1 : gq ≠ bb pn := fun e => by
                have h1 := HA4.out.R.lo pn hp4
                have h2 := (Array.getElem?_eq_some_iff.1 HGQ.out).1
                omega
              have HSET := Lib.hid (fun b : Bool => (AlInv.below HA4.out (Below.refl _ _).drew).set (j := j) hp4 b)
              cases hB : waB Sg0 (pn : Int) (gl + (j : Int))
              · rw [hB] at y0 HNX
                have HNX2 : Hid (AlInv Sg1 (fun p i => if p = pn ∧ i < j + 1 then waB Sg1 (p : Int) (gl + (i : Int)) else waB Sg0 (p : Int) (gl + (i : Int))) N bb q wc sv2 (wr.drew.setCell ⟨bb pn, j, none⟩ (.bool (decide (max (gl + (j : Int) - mi) (mi - (gl + (j : Int))) < aw))))) := by
                  refine (HSET.out _).congr fun p i _ _ => ?_
                  have hnx := HNX.out
                  rw [Bool.false_or] at hnx
                  by_cases hp : p = pn ∧ i = j
                  · rw [if_pos hp, if_pos ⟨hp.1, by omega⟩, hp.1, hp.2, hnx]
                  · rw [if_neg hp]
                    by_cases hp2 : p = pn ∧ i < j
                    · rw [if_pos hp2, if_pos ⟨hp2.1, by omega⟩]
                    · rw [if_neg hp2, if_neg (fun e => hp2 ⟨e.1, by rcases Nat.lt_or_ge i j with h | h; exact h; exact absurd ⟨e.1, by omega⟩ hp⟩)]
                clear hB HSET hNN
                go_wp2_with fail
                have hS0 : wr.drew.cell? ⟨gq, 0, none⟩ = some (iv gl) ∧ wr.drew.cell? ⟨q, pn, none⟩ = some (.slice (some ⟨bb pn, 0, none⟩) N N) := ⟨c0, s0⟩
                have z0 : wr.drew.cell? ⟨bb pn, j, none⟩ = some (.bool false) := y0
                have z1 : wr.drew.frozen? ⟨bb pn, j, none⟩ = false := y1
                clear c0 c1 s0
                refine wp_region_held_drew (S := fun w' => w'.cell? ⟨gq, 0, none⟩ = some (iv gl) ∧ w'.cell? ⟨q, pn, none⟩ = some (.slice (some ⟨bb pn, 0, none⟩) N N)) (by kernel_rfl) hS0 (fun hHeld => ?_)
                clear hS0
                refine wpAnyH_take (i := 0) (v := ?_) rfl (by kernel_rfl) (by kernel_rfl) (by kernel_rfl) (fun _ _ _ h => h) (Or.inl ⟨by kernel_rfl, ?_⟩) (by assumption) ?_
                rotate_left
                · (intro W hS; obtain ⟨hS1, hS2⟩ := hS; go_simp; try (with_reducible rfl))
                refine (show wpAnyH Try.prog Region.Mode.any _ _ _ _ _ (Act.mk (Array.setIfInBounds (List.toArray _) _ _) _) _ from ?_)
                simp only [List.setIfInBounds_toArray, List.set_cons_zero, List.set_cons_succ]
                refine wpAnyH_take (i := 1) (v := ?_) rfl (by kernel_rfl) (by kernel_rfl) (by kernel_rfl) (fun _ _ _ h => h) (Or.inl ⟨by kernel_rfl, ?_⟩) (by assumption) ?_
                rotate_left
                · (intro W hS; obtain ⟨hS1, hS2⟩ := hS; go_simp; try (with_reducible rfl))
                refine (show wpAnyH Try.prog Region.Mode.any _ _ _ _ _ (Act.mk (Array.setIfInBounds (List.toArray _) _ _) _) _ from ?_)
                simp only [List.setIfInBounds_toArray, List.set_cons_zero, List.set_cons_succ]
                refine wpAnyH_take (i := 2) (v := ?_) rfl (by kernel_rfl) (by kernel_rfl) (by kernel_rfl) (fun _ _ _ h => h) (Or.inl ⟨by kernel_rfl, ?_⟩) (by assumption) ?_
                rotate_left
                · (intro W hS; obtain ⟨hS1, hS2⟩ := hS; go_simp; try (with_reducible rfl))
                refine (show wpAnyH Try.prog Region.Mode.any _ _ _ _ _ (Act.mk (Array.setIfInBounds (List.toArray _) _ _) _) _ from ?_)
                simp only [List.setIfInBounds_toArray, List.set_cons_zero, List.set_cons_succ]
                refine wpAnyH_take (i := 3) (v := ?_) rfl (by kernel_rfl) (by kernel_rfl) (by kernel_rfl) (fun _ _ _ h => h) (Or.inl ⟨by kernel_rfl, ?_⟩) (by assumption) ?_
                rotate_left
                · (intro W hS; obtain ⟨hS1, hS2⟩ := hS; go_simp; try (with_reducible rfl))
                refine (show wpAnyH Try.prog Region.Mode.any _ _ _ _ _ (Act.mk (Array.setIfInBounds (List.toArray _) _ _) _) _ from ?_)
                simp only [List.setIfInBounds_toArray, List.set_cons_zero, List.set_cons_succ]
                refine wpAnyH_take (i := 4) (v := ?_) rfl (by kernel_rfl) (by kernel_rfl) (by kernel_rfl) (fun _ _ _ h => h) (Or.inl ⟨by kernel_rfl, ?_⟩) (by assumption) ?_
                rotate_left
                · (intro W hS; obtain ⟨hS1, hS2⟩ := hS; go_simp; try (with_reducible rfl))
                refine (show wpAnyH Try.prog Region.Mode.any _ _ _ _ _ (Act.mk (Array.setIfInBounds (List.toArray _) _ _) _) _ from ?_)
                simp only [List.setIfInBounds_toArray, List.set_cons_zero, List.set_cons_succ]
                refine wpAnyH_take (i := 5) (v := ?_) rfl (by kernel_rfl) (by kernel_rfl) (by kernel_rfl) (fun _ _ _ h => h) (Or.inl ⟨by kernel_rfl, ?_⟩) (by assumption) ?_
                rotate_left
                · (intro W hS; obtain ⟨hS1, hS2⟩ := hS; go_simp; try (with_reducible rfl))
                refine (show wpAnyH Try.prog Region.Mode.any _ _ _ _ _ (Act.mk (Array.setIfInBounds (List.toArray _) _ _) _) _ from ?_)
                simp only [List.setIfInBounds_toArray, List.set_cons_zero, List.set_cons_succ]
                refine wpAnyH_take (i := 6) (v := ?_) rfl (by kernel_rfl) (by kernel_rfl) (by kernel_rfl) (fun _ _ _ h => h) (Or.inl ⟨by kernel_rfl, ?_⟩) (by assumption) ?_
                rotate_left
                · (intro W hS; obtain ⟨hS1, hS2⟩ := hS; go_simp; try (with_reducible rfl))
                refine (show wpAnyH Try.prog Region.Mode.any _ _ _ _ _ (Act.mk (Array.setIfInBounds (List.toArray _) _ _) _) _ from ?_)
                simp only [List.setIfInBounds_toArray, List.set_cons_zero, List.set_cons_succ]
                refine wpAnyH_take (i := 7) (v := ?_) rfl (by kernel_rfl) (by kernel_rfl) (by kernel_rfl) (fun _ _ _ h => h) (Or.inl ⟨by kernel_rfl, ?_⟩) (by assumption) ?_
                rotate_left
                · (intro W hS; obtain ⟨hS1, hS2⟩ := hS; go_simp; try (with_reducible rfl))
                refine (show wpAnyH Try.prog Region.Mode.any _ _ _ _ _ (Act.mk (Array.setIfInBounds (List.toArray _) _ _) _) _ from ?_)
                simp only [List.setIfInBounds_toArray, List.set_cons_zero, List.set_cons_succ]
                refine wpAnyH_take (i := 8) (v := ?_) rfl (by kernel_rfl) (by kernel_rfl) (by kernel_rfl) (fun _ _ _ h => h) (Or.inl ⟨by kernel_rfl, ?_⟩) (by assumption) ?_
                rotate_left
                · (intro W hS; obtain ⟨hS1, hS2⟩ := hS; go_simp; try (with_reducible rfl))
                refine (show wpAnyH Try.prog Region.Mode.any _ _ _ _ _ (Act.mk (Array.setIfInBounds (List.toArray _) _ _) _) _ from ?_)
                simp only [List.setIfInBounds_toArray, List.set_cons_zero, List.set_cons_succ]
                refine wpAnyH_take (i := 9) (v := ?_) rfl (by kernel_rfl) (by kernel_rfl) (by kernel_rfl) (fun _ _ _ h => h) (Or.inl ⟨by kernel_rfl, ?_⟩) (by assumption) ?_
                rotate_left
                · (intro W hS; obtain ⟨hS1, hS2⟩ := hS; go_simp; try (with_reducible rfl))
                refine (show wpAnyH Try.prog Region.Mode.any _ _ _ _ _ (Act.mk (Array.setIfInBounds (List.toArray _) _ _) _) _ from ?_)
                simp only [List.setIfInBounds_toArray, List.set_cons_zero, List.set_cons_succ]
                refine wpAnyH_take (i := 10) (v := ?_) rfl (by kernel_rfl) (by kernel_rfl) (by kernel_rfl) (fun _ _ _ h => h) (Or.inl ⟨by kernel_rfl, ?_⟩) (by assumption) ?_
                rotate_left
                · (intro W hS; obtain ⟨hS1, hS2⟩ := hS; go_simp; try (with_reducible rfl))
                refine (show wpAnyH Try.prog Region.Mode.any _ _ _ _ _ (Act.mk (Array.setIfInBounds (List.toArray _) _ _) _) _ from ?_)
                simp only [List.setIfInBounds_toArray, List.set_cons_zero, List.set_cons_succ]
                refine wpAnyH_take (i := 11) (v := ?_) rfl (by kernel_rfl) (by kernel_rfl) (by kernel_rfl) (fun _ _ _ h => h) (Or.inl ⟨by kernel_rfl, ?_⟩) (by assumption) ?_
                rotate_left
                · (intro W hS; obtain ⟨hS1, hS2⟩ := hS; go_simp; try (with_reducible rfl))
                refine (show wpAnyH Try.prog Region.Mode.any _ _ _ _ _ (Act.mk (Array.setIfInBounds (List.toArray _) _ _) _) _ from ?_)
                simp only [List.setIfInBounds_toArray, List.set_cons_zero, List.set_cons_succ]
                refine wpAnyH_take (i := 12) (v := ?_) rfl (by kernel_rfl) (by kernel_rfl) (by kernel_rfl) (fun _ _ _ h => h) (Or.inl ⟨by kernel_rfl, ?_⟩) (by assumption) ?_
                rotate_left
                · (intro W hS; obtain ⟨hS1, hS2⟩ := hS; go_simp; try (with_reducible rfl))
                refine (show wpAnyH Try.prog Region.Mode.any _ _ _ _ _ (Act.mk (Array.setIfInBounds (List.toArray _) _ _) _) _ from ?_)
                simp only [List.setIfInBounds_toArray, List.set_cons_zero, List.set_cons_succ]
                refine wpAnyH_take (i := 13) (v := ?_) rfl (by kernel_rfl) (by kernel_rfl) (by kernel_rfl) (fun _ _ _ h => h) (Or.inl ⟨by kernel_rfl, ?_⟩) (by assumption) ?_
                rotate_left
                · (intro W hS; obtain ⟨hS1, hS2⟩ := hS; go_simp; try (with_reducible rfl))
                refine (show wpAnyH Try.prog Region.Mode.any _ _ _ _ _ (Act.mk (Array.setIfInBounds (List.toArray _) _ _) _) _ from ?_)
                simp only [List.setIfInBounds_toArray, List.set_cons_zero, List.set_cons_succ]
                refine wpAnyH_take (i := 14) (v := ?_) rfl (by kernel_rfl) (by kernel_rfl) (by kernel_rfl) (fun _ _ _ h => h) (Or.inl ⟨by kernel_rfl, ?_⟩) (by assumption) ?_
                rotate_left
                · (intro W hS; obtain ⟨hS1, hS2⟩ := hS; go_simp; try (with_reducible rfl))
                refine (show wpAnyH Try.prog Region.Mode.any _ _ _ _ _ (Act.mk (Array.setIfInBounds (List.toArray _) _ _) _) _ from ?_)
                simp only [List.setIfInBounds_toArray, List.set_cons_zero, List.set_cons_succ]
                refine wpAnyH_ready (rs := [15]) (by kernel_rfl) (by simp) (AllReadyH.cons rfl (fun K hK => ?_) AllReadyH.nil)
                go_simp
                refine hK.out _ _ hHeld (fun hHeld => ?_)
                clear hK K
                refine wpAnyH_take (i := 16) (v := ?_) rfl (by kernel_rfl) (by kernel_rfl) (by kernel_rfl) (fun _ _ _ h => h) (Or.inl ⟨by kernel_rfl, ?_⟩) (by assumption) ?_
                rotate_left
                · (intro W hS; obtain ⟨hS1, hS2⟩ := hS; go_simp; try (with_reducible rfl))
                refine (show wpAnyH Try.prog Region.Mode.any _ _ _ _ _ (Act.mk (Array.setIfInBounds (List.toArray _) _ _) _) _ from ?_)
                simp only [List.setIfInBounds_toArray, List.set_cons_zero, List.set_cons_succ]
                refine wpAnyH_take (i := 17) (v := ?_) rfl (by kernel_rfl) (by kernel_rfl) (by kernel_rfl) (fun _ _ _ h => h) (Or.inl ⟨by kernel_rfl, ?_⟩) (by assumption) ?_
                rotate_left
                · (intro W hS; obtain ⟨hS1, hS2⟩ := hS; go_simp; try (with_reducible rfl))
                refine (show wpAnyH Try.prog Region.Mode.any _ _ _ _ _ (Act.mk (Array.setIfInBounds (List.toArray _) _ _) _) _ from ?_)
                simp only [List.setIfInBounds_toArray, List.set_cons_zero, List.set_cons_succ]
                refine wpAnyH_take (i := 18) (v := ?_) rfl (by kernel_rfl) (by kernel_rfl) (by kernel_rfl) (fun _ _ _ h => h) (Or.inl ⟨by kernel_rfl, ?_⟩) (by assumption) ?_
                rotate_left
                · (intro W hS; obtain ⟨hS1, hS2⟩ := hS; go_simp; try (with_reducible rfl))
                refine (show wpAnyH Try.prog Region.Mode.any _ _ _ _ _ (Act.mk (Array.setIfInBounds (List.toArray _) _ _) _) _ from ?_)
                simp only [List.setIfInBounds_toArray, List.set_cons_zero, List.set_cons_succ]
                refine wpAnyH_take (i := 19) (v := ?_) rfl (by kernel_rfl) (by kernel_rfl) (by kernel_rfl) (fun _ _ _ h => h) (Or.inl ⟨by kernel_rfl, ?_⟩) (by assumption) ?_
                rotate_left
                · (intro W hS; obtain ⟨hS1, hS2⟩ := hS; go_simp; try (with_reducible rfl))
                refine (show wpAnyH Try.prog Region.Mode.any _ _ _ _ _ (Act.mk (Array.setIfInBounds (List.toArray _) _ _) _) _ from ?_)
                simp only [List.setIfInBounds_toArray, List.set_cons_zero, List.set_cons_succ]
                refine wpAnyH_take (i := 20) (v := ?_) rfl (by kernel_rfl) (by kernel_rfl) (by kernel_rfl) (fun _ _ _ h => h) (Or.inl ⟨by kernel_rfl, ?_⟩) (by assumption) ?_
                rotate_left
                · (intro W hS; obtain ⟨hS1, hS2⟩ := hS; go_simp; try (with_reducible rfl))
                refine (show wpAnyH Try.prog Region.Mode.any _ _ _ _ _ (Act.mk (Array.setIfInBounds (List.toArray _) _ _) _) _ from ?_)
                simp only [List.setIfInBounds_toArray, List.set_cons_zero, List.set_cons_succ]
                refine wpAnyH_take (i := 21) (v := ?_) rfl (by kernel_rfl) (by kernel_rfl) (by kernel_rfl) (fun _ _ _ h => h) (Or.inl ⟨by kernel_rfl, ?_⟩) (by assumption) ?_
                rotate_left
                · (intro W hS; obtain ⟨hS1, hS2⟩ := hS; go_simp; try (with_reducible rfl))
                refine (show wpAnyH Try.prog Region.Mode.any _ _ _ _ _ (Act.mk (Array.setIfInBounds (List.toArray _) _ _) _) _ from ?_)
                simp only [List.setIfInBounds_toArray, List.set_cons_zero, List.set_cons_succ]
                refine wpAnyH_take (i := 22) (v := ?_) rfl (by kernel_rfl) (by kernel_rfl) (by kernel_rfl) (fun _ _ _ h => h) (Or.inl ⟨by kernel_rfl, ?_⟩) (by assumption) ?_
                rotate_left
                · (intro W hS; obtain ⟨hS1, hS2⟩ := hS; go_simp; try (with_reducible rfl))
                refine (show wpAnyH Try.prog Region.Mode.any _ _ _ _ _ (Act.mk (Array.setIfInBounds (List.toArray _) _ _) _) _ from ?_)
                simp only [List.setIfInBounds_toArray, List.set_cons_zero, List.set_cons_succ]
                refine wpAnyH_take (i := 23) (v := ?_) rfl (by kernel_rfl) (by kernel_rfl) (by kernel_rfl) (fun _ _ _ h => h) (Or.inl ⟨by kernel_rfl, ?_⟩) (by assumption) ?_
                rotate_left
                · (intro W hS; obtain ⟨hS1, hS2⟩ := hS; go_simp; try (with_reducible rfl))
                refine (show wpAnyH Try.prog Region.Mode.any _ _ _ _ _ (Act.mk (Array.setIfInBounds (List.toArray _) _ _) _) _ from ?_)
                simp only [List.setIfInBounds_toArray, List.set_cons_zero, List.set_cons_succ]
                refine wpAnyH_take (i := 24) (v := ?_) rfl (by kernel_rfl) (by kernel_rfl) (by kernel_rfl) (fun _ _ _ h => h) (Or.inl ⟨by kernel_rfl, ?_⟩) (by assumption) ?_
                rotate_left
                · (intro W hS; obtain ⟨hS1, hS2⟩ := hS; go_simp; try (with_reducible rfl))
                refine (show wpAnyH Try.prog Region.Mode.any _ _ _ _ _ (Act.mk (Array.setIfInBounds (List.toArray _) _ _) _) _ from ?_)
                simp only [List.setIfInBounds_toArray, List.set_cons_zero, List.set_cons_succ]
                refine wpAnyH_take (i := 25) (v := ?_) rfl (by kernel_rfl) (by kernel_rfl) (by kernel_rfl) (fun _ _ _ h => h) (Or.inl ⟨by kernel_rfl, ?_⟩) (by assumption) ?_
                rotate_left
                · (intro W hS; obtain ⟨hS1, hS2⟩ := hS; go_simp; try (with_reducible rfl))
                refine (show wpAnyH Try.prog Region.Mode.any _ _ _ _ _ (Act.mk (Array.setIfInBounds (List.toArray _) _ _) _) _ from ?_)
                simp only [List.setIfInBounds_toArray, List.set_cons_zero, List.set_cons_succ]
                refine wpAnyH_take (i := 26) (v := ?_) rfl (by kernel_rfl) (by kernel_rfl) (by kernel_rfl) (fun _ _ _ h => h) (Or.inl ⟨by kernel_rfl, ?_⟩) (by assumption) ?_
                rotate_left
                · (intro W hS; obtain ⟨hS1, hS2⟩ := hS; go_simp; try (with_reducible rfl))
                refine (show wpAnyH Try.prog Region.Mode.any _ _ _ _ _ (Act.mk (Array.setIfInBounds (List.toArray _) _ _) _) _ from ?_)
                simp only [List.setIfInBounds_toArray, List.set_cons_zero, List.set_cons_succ]
                refine wpAnyH_take (i := 27) (v := ?_) rfl (by kernel_rfl) (by kernel_rfl) (by kernel_rfl) (fun _ _ _ h => h) (Or.inl ⟨by kernel_rfl, ?_⟩) (by assumption) ?_
                rotate_left
                · (intro W hS; obtain ⟨hS1, hS2⟩ := hS; go_simp; try (with_reducible rfl))
                refine (show wpAnyH Try.prog Region.Mode.any _ _ _ _ _ (Act.mk (Array.setIfInBounds (List.toArray _) _ _) _) _ from ?_)
                simp only [List.setIfInBounds_toArray, List.set_cons_zero, List.set_cons_succ]
                refine wpAnyH_ready (rs := [28]) (by kernel_rfl) (by simp) (AllReadyH.cons rfl (fun K hK => ?_) AllReadyH.nil)
                go_simp
                refine hK.out _ _ ⟨kset2 hq1 hHeld.1, kset2 hq2 hHeld.2⟩ (fun hHeld => ?_)
                clear hK K
                refine wpAnyH_done (by kernel_rfl) ?_ _
                go_wp2_with fail
                go_roundw
                case rel => exact ⟨j + 1, by omega, by go_num, HNX2.out⟩
                case measure => simp [intOf]; omega
              · rw [hB] at y0 HNX
                have HNX2 : Hid (AlInv Sg1 (fun p i => if p = pn ∧ i < j + 1 then waB Sg1 (p : Int) (gl + (i : Int)) else waB Sg0 (p : Int) (gl + (i : Int))) N bb q wc sv2 (wr.drew.setCell ⟨bb pn, j, none⟩ (.bool true))) := by
                  refine (HSET.out _).congr fun p i _ _ => ?_
                  have hnx := HNX.out
                  rw [Bool.true_or] at hnx
                  by_cases hp : p = pn ∧ i = j
                  · rw [if_pos hp, if_pos ⟨hp.1, by omega⟩, hp.1, hp.2, hnx]
                  · rw [if_neg hp]
                    by_cases hp2 : p = pn ∧ i < j
                    · rw [if_pos hp2, if_pos ⟨hp2.1, by omega⟩]
                    · rw [if_neg hp2, if_neg (fun e => hp2 ⟨e.1, by rcases Nat.lt_or_ge i j with h | h; exact h; exact absurd ⟨e.1, by omega⟩ hp⟩)]
                clear hB HSET hNN
                go_wp2_with fail
                have hS0 : wr.drew.cell? ⟨gq, 0, none⟩ = some (iv gl) ∧ wr.drew.cell? ⟨q, pn, none⟩ = some (.slice (some ⟨bb pn, 0, none⟩) N N) := ⟨c0, s0⟩
                have z0 : wr.drew.cell? ⟨bb pn, j, none⟩ = some (.bool true) := y0
                have z1 : wr.drew.frozen? ⟨bb pn, j, none⟩ = false := y1
                clear c0 c1 s0
                refine wp_region_held_drew (S := fun w' => w'.cell? ⟨gq, 0, none⟩ = some (iv gl) ∧ w'.cell? ⟨q, pn, none⟩ = some (.slice (some ⟨bb pn, 0, none⟩) N N)) (by kernel_rfl) hS0 (fun hHeld => ?_)
                clear hS0
                refine wpAnyH_take (i := 0) (v := ?_) rfl (by kernel_rfl) (by kernel_rfl) (by kernel_rfl) (fun _ _ _ h => h) (Or.inl ⟨by kernel_rfl, ?_⟩) (by assumption) ?_
                rotate_left
                · (intro W hS; obtain ⟨hS1, hS2⟩ := hS; go_simp; try (with_reducible rfl))
                refine (show wpAnyH Try.prog Region.Mode.any _ _ _ _ _ (Act.mk (Array.setIfInBounds (List.toArray _) _ _) _) _ from ?_)
                simp only [List.setIfInBounds_toArray, List.set_cons_zero, List.set_cons_succ]
                refine wpAnyH_take (i := 1) (v := ?_) rfl (by kernel_rfl) (by kernel_rfl) (by kernel_rfl) (fun _ _ _ h => h) (Or.inl ⟨by kernel_rfl, ?_⟩) (by assumption) ?_
                rotate_left
                · (intro W hS; obtain ⟨hS1, hS2⟩ := hS; go_simp; try (with_reducible rfl))
                refine (show wpAnyH Try.prog Region.Mode.any _ _ _ _ _ (Act.mk (Array.setIfInBounds (List.toArray _) _ _) _) _ from ?_)
                simp only [List.setIfInBounds_toArray, List.set_cons_zero, List.set_cons_succ]
                refine wpAnyH_take (i := 2) (v := ?_) rfl (by kernel_rfl) (by kernel_rfl) (by kernel_rfl) (fun _ _ _ h => h) (Or.inl ⟨by kernel_rfl, ?_⟩) (by assumption) ?_
                rotate_left
                · (intro W hS; obtain ⟨hS1, hS2⟩ := hS; go_simp; try (with_reducible rfl))
                refine (show wpAnyH Try.prog Region.Mode.any _ _ _ _ _ (Act.mk (Array.setIfInBounds (List.toArray _) _ _) _) _ from ?_)
                simp only [List.setIfInBounds_toArray, List.set_cons_zero, List.set_cons_succ]
                refine wpAnyH_take (i := 3) (v := ?_) rfl (by kernel_rfl) (by kernel_rfl) (by kernel_rfl) (fun _ _ _ h => h) (Or.inl ⟨by kernel_rfl, ?_⟩) (by assumption) ?_
                rotate_left
                · (intro W hS; obtain ⟨hS1, hS2⟩ := hS; go_simp; try (with_reducible rfl))
                refine (show wpAnyH Try.prog Region.Mode.any _ _ _ _ _ (Act.mk (Array.setIfInBounds (List.toArray _) _ _) _) _ from ?_)
                simp only [List.setIfInBounds_toArray, List.set_cons_zero, List.set_cons_succ]
                refine wpAnyH_take (i := 4) (v := ?_) rfl (by kernel_rfl) (by kernel_rfl) (by kernel_rfl) (fun _ _ _ h => h) (Or.inl ⟨by kernel_rfl, ?_⟩) (by assumption) ?_
                rotate_left
                · (intro W hS; obtain ⟨hS1, hS2⟩ := hS; go_simp; try (with_reducible rfl))
                refine (show wpAnyH Try.prog Region.Mode.any _ _ _ _ _ (Act.mk (Array.setIfInBounds (List.toArray _) _ _) _) _ from ?_)
                simp only [List.setIfInBounds_toArray, List.set_cons_zero, List.set_cons_succ]
                refine wpAnyH_take (i := 5) (v := ?_) rfl (by kernel_rfl) (by kernel_rfl) (by kernel_rfl) (fun _ _ _ h => h) (Or.inl ⟨by kernel_rfl, ?_⟩) (by assumption) ?_
                rotate_left
                · (intro W hS; obtain ⟨hS1, hS2⟩ := hS; go_simp; try (with_reducible rfl))
                refine (show wpAnyH Try.prog Region.Mode.any _ _ _ _ _ (Act.mk (Array.setIfInBounds (List.toArray _) _ _) _) _ from ?_)
                simp only [List.setIfInBounds_toArray, List.set_cons_zero, List.set_cons_succ]
                refine wpAnyH_take (i := 6) (v := ?_) rfl (by kernel_rfl) (by kernel_rfl) (by kernel_rfl) (fun _ _ _ h => h) (Or.inl ⟨by kernel_rfl, ?_⟩) (by assumption) ?_
                rotate_left
                · (intro W hS; obtain ⟨hS1, hS2⟩ := hS; go_simp; try (with_reducible rfl))
                refine (show wpAnyH Try.prog Region.Mode.any _ _ _ _ _ (Act.mk (Array.setIfInBounds (List.toArray _) _ _) _) _ from ?_)
                simp only [List.setIfInBounds_toArray, List.set_cons_zero, List.set_cons_succ]
                refine wpAnyH_take (i := 7) (v := ?_) rfl (by kernel_rfl) (by kernel_rfl) (by kernel_rfl) (fun _ _ _ h => h) (Or.inl ⟨by kernel_rfl, ?_⟩) (by assumption) ?_
                rotate_left
                · (intro W hS; obtain ⟨hS1, hS2⟩ := hS; go_simp; try (with_reducible rfl))
                refine (show wpAnyH Try.prog Region.Mode.any _ _ _ _ _ (Act.mk (Array.setIfInBounds (List.toArray _) _ _) _) _ from ?_)
                simp only [List.setIfInBounds_toArray, List.set_cons_zero, List.set_cons_succ]
                refine wpAnyH_take (i := 8) (v := ?_) rfl (by kernel_rfl) (by kernel_rfl) (by kernel_rfl) (fun _ _ _ h => h) (Or.inl ⟨by kernel_rfl, ?_⟩) (by assumption) ?_
                rotate_left
                · (intro W hS; obtain ⟨hS1, hS2⟩ := hS; go_simp; try (with_reducible rfl))
                refine (show wpAnyH Try.prog Region.Mode.any _ _ _ _ _ (Act.mk (Array.setIfInBounds (List.toArray _) _ _) _) _ from ?_)
                simp only [List.setIfInBounds_toArray, List.set_cons_zero, List.set_cons_succ]
                refine wpAnyH_take (i := 9) (v := ?_) rfl (by kernel_rfl) (by kernel_rfl) (by kernel_rfl) (fun _ _ _ h => h) (Or.inl ⟨by kernel_rfl, ?_⟩) (by assumption) ?_
                rotate_left
                · (intro W hS; obtain ⟨hS1, hS2⟩ := hS; go_simp; try (with_reducible rfl))
                refine (show wpAnyH Try.prog Region.Mode.any _ _ _ _ _ (Act.mk (Array.setIfInBounds (List.toArray _) _ _) _) _ from ?_)
                simp only [List.setIfInBounds_toArray, List.set_cons_zero, List.set_cons_succ]
                refine wpAnyH_take (i := 10) (v := ?_) rfl (by kernel_rfl) (by kernel_rfl) (by kernel_rfl) (fun _ _ _ h => h) (Or.inl ⟨by kernel_rfl, ?_⟩) (by assumption) ?_
                rotate_left
                · (intro W hS; obtain ⟨hS1, hS2⟩ := hS; go_simp; try (with_reducible rfl))
                refine (show wpAnyH Try.prog Region.Mode.any _ _ _ _ _ (Act.mk (Array.setIfInBounds (List.toArray _) _ _) _) _ from ?_)
                simp only [List.setIfInBounds_toArray, List.set_cons_zero, List.set_cons_succ]
                refine wpAnyH_take (i := 11) (v := ?_) rfl (by kernel_rfl) (by kernel_rfl) (by kernel_rfl) (fun _ _ _ h => h) (Or.inl ⟨by kernel_rfl, ?_⟩) (by assumption) ?_
                rotate_left
                · (intro W hS; obtain ⟨hS1, hS2⟩ := hS; go_simp; try (with_reducible rfl))
                refine (show wpAnyH Try.prog Region.Mode.any _ _ _ _ _ (Act.mk (Array.setIfInBounds (List.toArray _) _ _) _) _ from ?_)
                simp only [List.setIfInBounds_toArray, List.set_cons_zero, List.set_cons_succ]
                refine wpAnyH_take (i := 12) (v := ?_) rfl (by kernel_rfl) (by kernel_rfl) (by kernel_rfl) (fun _ _ _ h => h) (Or.inl ⟨by kernel_rfl, ?_⟩) (by assumption) ?_
                rotate_left
                · (intro W hS; obtain ⟨hS1, hS2⟩ := hS; go_simp; try (with_reducible rfl))
                refine (show wpAnyH Try.prog Region.Mode.any _ _ _ _ _ (Act.mk (Array.setIfInBounds (List.toArray _) _ _) _) _ from ?_)
                simp only [List.setIfInBounds_toArray, List.set_cons_zero, List.set_cons_succ]
                refine wpAnyH_take (i := 13) (v := ?_) rfl (by kernel_rfl) (by kernel_rfl) (by kernel_rfl) (fun _ _ _ h => h) (Or.inl ⟨by kernel_rfl, ?_⟩) (by assumption) ?_
                rotate_left
                · (intro W hS; obtain ⟨hS1, hS2⟩ := hS; go_simp; try (with_reducible rfl))
                refine (show wpAnyH Try.prog Region.Mode.any _ _ _ _ _ (Act.mk (Array.setIfInBounds (List.toArray _) _ _) _) _ from ?_)
                simp only [List.setIfInBounds_toArray, List.set_cons_zero, List.set_cons_succ]
                refine wpAnyH_take (i := 14) (v := ?_) rfl (by kernel_rfl) (by kernel_rfl) (by kernel_rfl) (fun _ _ _ h => h) (Or.inl ⟨by kernel_rfl, ?_⟩) (by assumption) ?_
                rotate_left
                · (intro W hS; obtain ⟨hS1, hS2⟩ := hS; go_simp; try (with_reducible rfl))
                refine (show wpAnyH Try.prog Region.Mode.any _ _ _ _ _ (Act.mk (Array.setIfInBounds (List.toArray _) _ _) _) _ from ?_)
                simp only [List.setIfInBounds_toArray, List.set_cons_zero, List.set_cons_succ]
                refine wpAnyH_ready (rs := [15]) (by kernel_rfl) (by simp) (AllReadyH.cons rfl (fun K hK => ?_) AllReadyH.nil)
                go_simp
                refine hK.out _ _ hHeld (fun hHeld => ?_)
                clear hK K
                refine wpAnyH_take (i := 16) (v := ?_) rfl (by kernel_rfl) (by kernel_rfl) (by kernel_rfl) (fun _ _ _ h => h) (Or.inl ⟨by kernel_rfl, ?_⟩) (by assumption) ?_
                rotate_left
                · (intro W hS; obtain ⟨hS1, hS2⟩ := hS; go_simp; try (with_reducible rfl))
                refine (show wpAnyH Try.prog Region.Mode.any _ _ _ _ _ (Act.mk (Array.setIfInBounds (List.toArray _) _ _) _) _ from ?_)
                simp only [List.setIfInBounds_toArray, List.set_cons_zero, List.set_cons_succ]
                refine wpAnyH_take (i := 17) (v := undef) rfl (by kernel_rfl) (by kernel_rfl) (by kernel_rfl) (fun _ _ _ h => h) (Or.inr ⟨by kernel_rfl, rfl⟩) (by assumption) ?_
                refine (show wpAnyH Try.prog Region.Mode.any _ _ _ _ _ (Act.mk (Array.setIfInBounds (List.toArray _) _ _) _) _ from ?_)
                simp only [List.setIfInBounds_toArray, List.set_cons_zero, List.set_cons_succ]
                refine wpAnyH_take (i := 18) (v := undef) rfl (by kernel_rfl) (by kernel_rfl) (by kernel_rfl) (fun _ _ _ h => h) (Or.inr ⟨by kernel_rfl, rfl⟩) (by assumption) ?_
                refine (show wpAnyH Try.prog Region.Mode.any _ _ _ _ _ (Act.mk (Array.setIfInBounds (List.toArray _) _ _) _) _ from ?_)
                simp only [List.setIfInBounds_toArray, List.set_cons_zero, List.set_cons_succ]
                refine wpAnyH_take (i := 19) (v := undef) rfl (by kernel_rfl) (by kernel_rfl) (by kernel_rfl) (fun _ _ _ h => h) (Or.inr ⟨by kernel_rfl, rfl⟩) (by assumption) ?_
                refine (show wpAnyH Try.prog Region.Mode.any _ _ _ _ _ (Act.mk (Array.setIfInBounds (List.toArray _) _ _) _) _ from ?_)
                simp only [List.setIfInBounds_toArray, List.set_cons_zero, List.set_cons_succ]
                refine wpAnyH_take (i := 20) (v := undef) rfl (by kernel_rfl) (by kernel_rfl) (by kernel_rfl) (fun _ _ _ h => h) (Or.inr ⟨by kernel_rfl, rfl⟩) (by assumption) ?_
                refine (show wpAnyH Try.prog Region.Mode.any _ _ _ _ _ (Act.mk (Array.setIfInBounds (List.toArray _) _ _) _) _ from ?_)
                simp only [List.setIfInBounds_toArray, List.set_cons_zero, List.set_cons_succ]
                refine wpAnyH_take (i := 21) (v := undef) rfl (by kernel_rfl) (by kernel_rfl) (by kernel_rfl) (fun _ _ _ h => h) (Or.inr ⟨by kernel_rfl, rfl⟩) (by assumption) ?_
                refine (show wpAnyH Try.prog Region.Mode.any _ _ _ _ _ (Act.mk (Array.setIfInBounds (List.toArray _) _ _) _) _ from ?_)
                simp only [List.setIfInBounds_toArray, List.set_cons_zero, List.set_cons_succ]
                refine wpAnyH_take (i := 22) (v := undef) rfl (by kernel_rfl) (by kernel_rfl) (by kernel_rfl) (fun _ _ _ h => h) (Or.inr ⟨by kernel_rfl, rfl⟩) (by assumption) ?_
                refine (show wpAnyH Try.prog Region.Mode.any _ _ _ _ _ (Act.mk (Array.setIfInBounds (List.toArray _) _ _) _) _ from ?_)
                simp only [List.setIfInBounds_toArray, List.set_cons_zero, List.set_cons_succ]
                refine wpAnyH_take (i := 23) (v := undef) rfl (by kernel_rfl) (by kernel_rfl) (by kernel_rfl) (fun _ _ _ h => h) (Or.inr ⟨by kernel_rfl, rfl⟩) (by assumption) ?_
                refine (show wpAnyH Try.prog Region.Mode.any _ _ _ _ _ (Act.mk (Array.setIfInBounds (List.toArray _) _ _) _) _ from ?_)
                simp only [List.setIfInBounds_toArray, List.set_cons_zero, List.set_cons_succ]
                refine wpAnyH_take (i := 24) (v := undef) rfl (by kernel_rfl) (by kernel_rfl) (by kernel_rfl) (fun _ _ _ h => h) (Or.inr ⟨by kernel_rfl, rfl⟩) (by assumption) ?_
                refine (show wpAnyH Try.prog Region.Mode.any _ _ _ _ _ (Act.mk (Array.setIfInBounds (List.toArray _) _ _) _) _ from ?_)
                simp only [List.setIfInBounds_toArray, List.set_cons_zero, List.set_cons_succ]
                refine wpAnyH_take (i := 25) (v := undef) rfl (by kernel_rfl) (by kernel_rfl) (by kernel_rfl) (fun _ _ _ h => h) (Or.inr ⟨by kernel_rfl, rfl⟩) (by assumption) ?_
                refine (show wpAnyH Try.prog Region.Mode.any _ _ _ _ _ (Act.mk (Array.setIfInBounds (List.toArray _) _ _) _) _ from ?_)
                simp only [List.setIfInBounds_toArray, List.set_cons_zero, List.set_cons_succ]
                refine wpAnyH_take (i := 26) (v := ?_) rfl (by kernel_rfl) (by kernel_rfl) (by kernel_rfl) (fun _ _ _ h => h) (Or.inl ⟨by kernel_rfl, ?_⟩) (by assumption) ?_
                rotate_left
                · (intro W hS; obtain ⟨hS1, hS2⟩ := hS; go_simp; try (with_reducible rfl))
                refine (show wpAnyH Try.prog Region.Mode.any _ _ _ _ _ (Act.mk (Array.setIfInBounds (List.toArray _) _ _) _) _ from ?_)
                simp only [List.setIfInBounds_toArray, List.set_cons_zero, List.set_cons_succ]
                refine wpAnyH_take (i := 27) (v := ?_) rfl (by kernel_rfl) (by kernel_rfl) (by kernel_rfl) (fun _ _ _ h => h) (Or.inl ⟨by kernel_rfl, ?_⟩) (by assumption) ?_
                rotate_left
                · (intro W hS; obtain ⟨hS1, hS2⟩ := hS; go_simp; try (with_reducible rfl))
                refine (show wpAnyH Try.prog Region.Mode.any _ _ _ _ _ (Act.mk (Array.setIfInBounds (List.toArray _) _ _) _) _ from ?_)
                simp only [List.setIfInBounds_toArray, List.set_cons_zero, List.set_cons_succ]
                refine wpAnyH_ready (rs := [28]) (by kernel_rfl) (by simp) (AllReadyH.cons rfl (fun K hK => ?_) AllReadyH.nil)
                go_simp
                refine hK.out _ _ ⟨kset2 hq1 hHeld.1, kset2 hq2 hHeld.2⟩ (fun hHeld => ?_)
                clear hK K
                refine wpAnyH_done (by kernel_rfl) ?_ _
                go_wp2_with fail
                go_roundw
                case rel => exact ⟨j + 1, by omega, by go_num, HNX2.out⟩
                case measure => simp [intOf]; omega
            · have hjE : j = N := by omega
              have i4 : ¬ gl + (j : Int) ≤ gh := by omega
              have HNEXT : Hid (AlInv (waS C (stF C K o) aw (h + 1)) (fun p j => waB (waS C (stF C K o) aw (h + 1)) (p : Int) (gl + (j : Int))) N bb q wc sv2 wr) := by
                rw [HS1.out]
                refine HA4.out.congr fun p i _ hi => ?_
                by_cases hp : p = pn
                · rw [if_pos ⟨hp, by omega⟩]
                · rw [if_neg (fun e => hp e.1), HWS.out, waB_snoc]
                  have hpi : ¬ (pn : Int) = (p : Int) := by omega
                  simp [wtB, hpi]
              clear hjE hjN hNN
              go_wp2_with fail
              go_roundw
              case rel => exact ⟨h + 1, by omega, by go_num, HNEXT⟩
              case measure => simp [intOf]; omega
        · obtain rfl : h = C.length := by omega
          have hgr := bblkG HA.out.R.B HGQ.out
          have c0 : wr.cell? ⟨gq, 0, none⟩ = some (iv gl) := by rw [cell_of_row _ _ _ _ _ _ hgr]; rfl
          have c1 : wr.cell? ⟨gq, 1, none⟩ = some (iv gh) := by rw [cell_of_row _ _ _ _ _ _ hgr]; rfl
          have HWK : Hid (WtOk 4 gl gh (waS C (stF C K o) aw C.length)) := by
            refine ⟨by omega, okSpan_iff.2 (by omega), by rw [waS_len]; omega, ?_⟩
            rw [List.all_eq_true]
            intro x hx
            simp only [waS, List.mem_map, List.mem_range] at hx
            obtain ⟨i, hi, rfl⟩ := hx
            have h1 := HWEE.out i hi
            have h2 := HST.out i hi
            have h3 := HAW.out
            rw [vSg_iff]
            dsimp only
            omega
          have hSl : (waS C (stF C K o) aw C.length).length ≤ 6 := by rw [waS_len]; omega
          generalize waS C (stF C K o) aw C.length = S at *
          obtain ⟨sa, sn, rfl⟩ := HA.out.O.len
          have HTH := Lib.hid (Thieves_good 4 gl gh S sa sn wr (Owns.slice HA.out.O encSg_len (by omega)) HWK.out)
          clear hgr
          go_wp2_with fail
          refine HTH.out.mono ?_
          rintro e wT ⟨lv, rfl, hls, hbT⟩
          have HLS := Lib.hid hls
          have HAT := Lib.hid (AlInv.below HA.out hbT)
          clear c0 c1 hls hbT HTH
          go_wp2_with fail
          go_loopw [21] (fun i W => ∃ p : Nat, p ≤ 4 ∧ i = iv p ∧ Hid (Below wT.heap.size wT W)) (fun i _ => 4 - (intOf i).toNat)
          case atStart => exact ⟨0, by omega, rfl, Below.refl _ _⟩
          case round =>
            obtain ⟨p, hp, rfl, HBp⟩ := hrel
            rename World => wP
            by_cases hp4 : p < 4
            · have i2 : (0 : Int) ≤ (p : Int) := by omega
              have i3 : (p : Int) < 4 := by omega
              go_wp2_with fail
              go_loopw [22, 23] (fun cn i W => ∃ j : Nat, j ≤ N ∧ i = iv j ∧ cn = .bool (waCan S (p : Int) gl j) ∧ Hid (Below wP.heap.size wP W)) (fun _ i _ => N - (intOf i).toNat)
              case atStart => exact ⟨0, Nat.zero_le _, rfl, rfl, Below.refl _ _⟩
              case round =>
                obtain ⟨j, hj, rfl, rfl, HBj⟩ := hrel
                have HAj := Lib.hid (AlInv.below HAT.out (bstep HBp.out HBj.out))
                have s0 := HAj.out.R.slice hp4
                by_cases hjN : j < N
                · have y0 := HAj.out.R.cell hp4 hjN
                  have HSU := Lib.hid (waCan_succ S (p : Int) gl j)
                  have i0 : (0 : Int) ≤ (j : Int) := by omega
                  have i1 : (j : Int) < (N : Int) := by omega
                  generalize waCan S (p : Int) gl j = cj at *
                  generalize waB S (p : Int) (gl + (j : Int)) = bj at *
                  cases cj
                  · go_wp2_with fail
                    go_roundw
                    case rel => exact ⟨j + 1, by omega, by go_num, by rw [HSU.out, Bool.false_or], HBj.out⟩
                    case measure => simp [intOf]; omega
                  · go_wp2_with fail
                    go_roundw
                    case rel => exact ⟨j + 1, by omega, by go_num, by rw [HSU.out, Bool.true_or], HBj.out⟩
                    case measure => simp [intOf]; omega
                · have hjE : j = N := by omega
                  have HCE : Hid (waCan S (p : Int) gl j = decide ((p : Int) ∈ natI (thTo S gl gh 4))) := by rw [hjE]; exact wa_thieves HN.out HN1.out.1 hp4
                  have i1 : ¬ (j : Int) < (N : Int) := by omega
                  have HHS := Lib.hid (elmHas_any (natI (thTo S gl gh 4)) (p : Int) lv wr (HLS.out.below (bstep HBp.out HBj.out)))
                  rw [HCE.out]
                  clear hjE hjN
                  generalize decide ((p : Int) ∈ natI (thTo S gl gh 4)) = dd at *
                  have hdd : (dd != dd) = false := by cases dd <;> rfl
                  go_wp2_with fail
                  refine HHS.out.mono ?_
                  rintro e wH ⟨rfl, hbH⟩
                  have HBH := Lib.hid (bstep HBp.out (bstep HBj.out hbH))
                  clear hbH s0
                  go_wp2_with fail
                  go_roundw
                  case rel => exact ⟨p + 1, by omega, by go_num, HBH.out⟩
                  case measure => simp [intOf]; omega
            · have i3 : ¬ (p : Int) < 4 := by omega
              go_wp2_with fail
              refine (elmTurns_any _).mono ?_
              rintro e wX ⟨rfl, hbX⟩
              go_wp2_with fail
              refine (elmThief_any _).mono ?_
              rintro e wY ⟨rfl, hbY⟩
              have HBZ := Lib.hid (bstep HB.out (bstep HAT.out.R.B (bstep HBp.out (bstep hbX hbY))))
              go_wp2_with fail
              go_ret
              exact ⟨rfl, HBZ.out⟩
end Go.Proofs.Ytdalilllakdamaa
