/- TopNarrowerWaits: the walk. -/
import Derived.Test.YthkmklfmobenaaaRe
import Derived.Test.YthkmklfmobenaaaMc
import Derived.Deep.RegionLaw
import Derived.Deep.CutBlock
import Derived.Deep.DeepCutAuto
namespace Go.Proofs.Ythkmklfmobenaaa
open Go Go.RowKit Go.Shelf
attribute [local go_sem] Oper.semAt_some
attribute [local go_sem ↓] Go.wp_at_zero Go.wp_at_succ

def encY (b : Nat → Int) : List Value := (fyCells b).toList
/-- The cells of a cloth made of bytes, in a list that came in. -/
theorem yarn_cells {w : World} {a : Option Addr} {n cap k : Nat} {Y : List (Nat → Int)} {b : Nat → Int} (h : SliceU encY 12 w (.slice a n cap) Y) (hk : Y[k]? = some b) :
    ∃ yb yo, a = some ⟨yb, yo, none⟩ ∧ ∀ j, j < 12 → w.cell? ⟨yb, yo + k * 12 + j, none⟩ = (fyCells b)[j]? := by
  obtain ⟨a', c', hv, _, hc⟩ := h
  simp only [Value.slice.injEq] at hv
  obtain ⟨rfl, rfl, rfl⟩ := hv
  obtain ⟨yb, yo, rfl, hj⟩ := hc k b hk
  refine ⟨yb, yo, rfl, fun j hj' => ?_⟩
  have hs : (fyCells b).size = 12 := rfl
  have := hj j ((fyCells b)[j]'(by omega)) (by simp [encY])
  rw [this, Array.getElem?_eq_getElem (by omega)]

/-- What is kept of the first k cloths. -/
def NwI (k : Nat) (L : List (Nat × Nat × Nat)) : Prop := L.length ≤ k ∧ ∀ p ∈ L, p.1 < k ∧ p.2.1 ≤ p.2.2 ∧ p.2.2 ≤ 20
theorem NwI.ok {k : Nat} {L : List (Nat × Nat × Nat)} (h : NwI k L) (hk : k ≤ 4) : NwOk L := ⟨Nat.le_trans h.1 hk, fun p hp => ⟨Nat.lt_of_lt_of_le (h.2 p hp).1 hk, (h.2 p hp).2⟩⟩
theorem NwI.skip {k : Nat} {L : List (Nat × Nat × Nat)} (h : NwI k L) : NwI (k + 1) L := ⟨Nat.le_succ_of_le h.1, fun p hp => ⟨Nat.lt_succ_of_lt (h.2 p hp).1, (h.2 p hp).2⟩⟩
theorem NwI.more {k a b : Nat} {L : List (Nat × Nat × Nat)} (h : NwI k L) (hab : a ≤ b) (hb : b ≤ 20) : NwI (k + 1) (L ++ [(k, a, b)]) := by
  refine ⟨by simp; exact h.1, fun p hp => ?_⟩
  rcases List.mem_append.1 hp with hp | hp
  · exact ⟨Nat.lt_succ_of_lt (h.2 p hp).1, (h.2 p hp).2⟩
  · simp only [List.mem_singleton] at hp
    subst hp
    exact ⟨Nat.lt_succ_self _, hab, hb⟩

set_option maxRecDepth 20000 in
set_option maxHeartbeats 12800000 in
theorem nwaits_any (v0 v1 v2 : Int) (la : Option Addr) (lc : Nat) (Y : List (Nat → Int)) (w : World) (hv0 : 0 ≤ v0 ∧ v0 ≤ 255) (hv1 : 0 ≤ v1 ∧ v1 ≤ 255) (hv2 : 0 ≤ v2 ∧ v2 ≤ 255)
    (hY : ∀ b ∈ Y, ∀ i, 0 ≤ b i ∧ b i ≤ 255) (_hl63 : Y.length ≤ 9223372036854775807) (hf : SliceU encY 12 w (.slice la Y.length lc) Y) :
    Calls Try.prog 3 #[.slice la Y.length lc, .agg #[u8 v0, u8 v1, u8 v2]] w fun e w' => e = .returned (.bool true) ∧ Below w.heap.size w w' := by
  have HY := Lib.hid hY
  obtain ⟨Wv, hWv⟩ : ∃ W : World, w.alloc (.cells #[u8 v0, u8 v1, u8 v2] 23) = W := ⟨_, rfl⟩
  have hbv : Below w.heap.size w Wv := by rw [← hWv]; exact bpush (Below.refl _ _) _
  have HV0 : Hid (Wv.heap[w.heap.size]? = some (.cells #[u8 v0, u8 v1, u8 v2] 23 (0, 0))) := by rw [← hWv]; exact heap_new _ _ _
  have HZV : Hid (Wv.heap.size = w.heap.size + 1) := by rw [← hWv]; simp [Hid]
  have HFv := Lib.hid (SliceU.below hf hbv)
  have HBv := Lib.hid hbv
  have HWv := Lib.hid hWv
  clear hY hf hbv hWv
  go_enter Try.func3, Try.ntmps3
  go_wp2_with fail
  rw [HWv.out]
  obtain ⟨Wl, hWl⟩ : ∃ W : World, (Wv.alloc (.cells #[.int .i64 0, .int .i64 1] 3)).alloc (.cells #[.int .i64 0, .int .i64 1] 3) = W := ⟨_, rfl⟩
  have hzl : w.heap.size + 1 + 1 + 1 = Wl.heap.size := by rw [← hWl]; simp [HZV.out]
  have hbl : Below Wv.heap.size Wv Wl := by rw [← hWl]; exact bpush (bpush (Below.refl _ _) _) _
  have HR1 : Hid (Wl.heap[w.heap.size + 1 + 1]? = some (.cells #[iv 0, iv 1] 3 (0, 0))) := by
    rw [← hWl]
    have := heap_new (Wv.alloc (.cells #[.int .i64 0, .int .i64 1] 3)) #[.int .i64 0, .int .i64 1] 3
    rwa [World.size_alloc, HZV.out] at this
  have HR0 : Hid (Wl.heap[w.heap.size + 1]? = some (.cells #[iv 0, iv 1] 3 (0, 0))) := by
    rw [← hWl, Below.heap_alloc _ _ _ (by simp [HZV.out])]
    have := heap_new Wv #[.int .i64 0, .int .i64 1] 3
    rwa [HZV.out] at this
  rw [hWl, hzl]
  have HBl := Lib.hid (bstep HBv.out hbl)
  have HFl := Lib.hid (SliceU.below HFv.out hbl)
  have HVl := Lib.hid (bblkQ hbl HV0.out)
  have HZL := Lib.hid hzl
  clear hWl hzl hbl HBv HFv HV0 HWv
  obtain ⟨rv0, hrv0⟩ : ∃ rv : Value, .slice (some ⟨w.heap.size + 1, 0, none⟩) 2 2 = rv := ⟨_, rfl⟩
  obtain ⟨rv1, hrv1⟩ : ∃ rv : Value, .slice (some ⟨w.heap.size + 1 + 1, 0, none⟩) 2 2 = rv := ⟨_, rfl⟩
  rw [hrv0, hrv1]
  have HRV0 := Lib.hid hrv0; have HRV1 := Lib.hid hrv1
  clear hrv0 hrv1
  obtain ⟨i0, hi, hz0, hz1, hz2⟩ := info_parts infoC
  have HI := Lib.hid hi; have HZ0 := Lib.hid hz0; have HZ1 := Lib.hid hz1; have HZ2 := Lib.hid hz2
  clear hi hz0 hz1 hz2
  obtain ⟨d0, hd0⟩ : ∃ d : Nat, (d : Int) = v0 % 12 := ⟨(v0 % 12).toNat, by omega⟩
  obtain ⟨d1, hd1⟩ : ∃ d : Nat, (d : Int) = v1 % 12 := ⟨(v1 % 12).toNat, by omega⟩
  obtain ⟨d2, hd2⟩ : ∃ d : Nat, (d : Int) = v2 % 3 := ⟨(v2 % 3).toNat, by omega⟩
  have et0 : v0.tmod 12 = (d0 : Int) := by rw [Int.tmod_eq_emod_of_nonneg hv0.1, hd0]
  have et1 : v1.tmod 12 = (d1 : Int) := by rw [Int.tmod_eq_emod_of_nonneg hv1.1, hd1]
  have et2 : v2.tmod 3 = (d2 : Int) := by rw [Int.tmod_eq_emod_of_nonneg hv2.1, hd2]
  have hb0 : d0 ≤ 11 := by omega
  have hb1 : d1 ≤ 11 := by omega
  have hb2 : d2 ≤ 2 := by omega
  clear hd0 hd1 hd2
  go_loopw [6] (fun i wr => ∃ (k : Nat) (L : List (Nat × Nat × Nat)), k ≤ Y.length ∧ k ≤ 4 ∧ i = iv k ∧ Hid (NwI k L) ∧ Hid (TwNext (nwC nwA L) (nwC nwB L) Wl rv0 rv1 wr)) (fun i _ => 4 - (intOf i).toNat)
  case atStart => exact ⟨0, [], Nat.zero_le _, Nat.zero_le _, rfl, ⟨Nat.le_refl _, by simp⟩, .slice none 0 0, .slice none 0 0, bpush (Below.refl _ _) _, by simp, heap_new _ _ _, fun _ => rfl, fun _ => rfl, Owns.nil _ _ _ _ _, Owns.nil _ _ _ _ _, by simp [Value.ownBlock]⟩
  case round =>
    obtain ⟨k, L, hkY, hk4, rfl, HNW, HTW⟩ := hrel
    by_cases hlt : k < Y.length ∧ k < 4
    · obtain ⟨hl1, hl2⟩ := hlt
      obtain ⟨b, hb⟩ := getElem?_of_lt hl1
      have HBB : Hid (∀ i, 0 ≤ b i ∧ b i ≤ 255) := HY.out b (List.mem_of_getElem? hb)
      obtain ⟨tv0, tv1, hinv⟩ := HTW.out
      have HTI := Lib.hid hinv
      obtain ⟨yb, yo, rfl, hyc⟩ := yarn_cells (SliceU.below HFl.out hinv.B) hb
      have y0 : wr.cell? ⟨yb, yo + k * 12, none⟩ = some (Ythkmklfmobenaaa.u8 (b 0)) := hyc 0 (by omega)
      have y1 : wr.cell? ⟨yb, yo + k * 12 + 1, none⟩ = some (Ythkmklfmobenaaa.u8 (b 1)) := hyc 1 (by omega)
      have y2 : wr.cell? ⟨yb, yo + k * 12 + 2, none⟩ = some (Ythkmklfmobenaaa.u8 (b 2)) := hyc 2 (by omega)
      have y3 : wr.cell? ⟨yb, yo + k * 12 + 3, none⟩ = some (Ythkmklfmobenaaa.u8 (b 3)) := hyc 3 (by omega)
      have y4 : wr.cell? ⟨yb, yo + k * 12 + 4, none⟩ = some (Ythkmklfmobenaaa.u8 (b 4)) := hyc 4 (by omega)
      have y5 : wr.cell? ⟨yb, yo + k * 12 + 5, none⟩ = some (Ythkmklfmobenaaa.u8 (b 5)) := hyc 5 (by omega)
      have y6 : wr.cell? ⟨yb, yo + k * 12 + 6, none⟩ = some (Ythkmklfmobenaaa.u8 (b 6)) := hyc 6 (by omega)
      have y7 : wr.cell? ⟨yb, yo + k * 12 + 7, none⟩ = some (Ythkmklfmobenaaa.u8 (b 7)) := hyc 7 (by omega)
      have y8 : wr.cell? ⟨yb, yo + k * 12 + 8, none⟩ = some (Ythkmklfmobenaaa.u8 (b 8)) := hyc 8 (by omega)
      have y9 : wr.cell? ⟨yb, yo + k * 12 + 9, none⟩ = some (Ythkmklfmobenaaa.u8 (b 9)) := hyc 9 (by omega)
      have y10 : wr.cell? ⟨yb, yo + k * 12 + 10, none⟩ = some (Ythkmklfmobenaaa.u8 (b 10)) := hyc 10 (by omega)
      have y11 : wr.cell? ⟨yb, yo + k * 12 + 11, none⟩ = some (Ythkmklfmobenaaa.u8 (b 11)) := hyc 11 (by omega)
      clear hyc hinv
      go_wp2_with fail
      refine (fyMade_any b _ HBB.out).mono ?_
      rintro e w1 ⟨tv, rfl, ho1, hb1⟩
      obtain ⟨tg, tc, rfl⟩ := owns_addr ho1 (by simp)
      clear y0 y1 y2 y3 y4 y5 y6 y7 y8 y9 y10 y11
      go_wp2_with fail
      obtain ⟨Wn, hWn⟩ : ∃ W : World, w1.alloc (.cells #[.slice (some ⟨tg, 0, none⟩) 3 tc, .slice none 0 0] 32) = W := ⟨_, rfl⟩
      rw [hWn]
      have hBn : Below w1.heap.size w1 Wn := by rw [← hWn]; exact bpush (Below.refl _ _) _
      have HQn : Hid (Wn.heap[w1.heap.size]? = some (.cells #[.slice (some ⟨tg, 0, none⟩) 3 tc, .slice none 0 0] 32 (0, 0))) := by rw [← hWn]; exact heap_new _ _ _
      have HSn := Lib.hid (SliceOf.below (Owns.slice ho1 encT_len (by simp)) hBn)
      have HBn := Lib.hid (bstep hb1 hBn)
      have HTn := Lib.hid (TwInv.below HTI.out HBn.out)
      have hvn := (HTn.out.B.block _ (Array.getElem?_eq_some_iff.1 HVl.out).1).trans HVl.out
      have vc0 : Wn.cell? ⟨w.heap.size, 0, none⟩ = some (Ythkmklfmobenaaa.u8 v0) := by rw [cell_of_row _ _ _ _ _ _ hvn]; rfl
      have q0 : Wn.cell? ⟨w1.heap.size, 0, none⟩ = some (.slice (some ⟨tg, 0, none⟩) 3 tc) := by rw [cell_of_row _ _ _ _ _ _ HQn.out]; rfl
      have q1 : Wn.cell? ⟨w1.heap.size, 1, none⟩ = some (.slice none 0 0) := by rw [cell_of_row _ _ _ _ _ _ HQn.out]; rfl
      obtain ⟨-, x5⟩ := sl_cellsT (k := 1) (p := fyT b 1) HSn.out rfl
      have HVT : Hid ([fyT b 0, fyT b 1, fyT b 2].all vTrack = true) := by unfold Hid; simp [fyT_valid HBB.out]
      have hfh : 100 ≤ (fyT b 1).fh ∧ (fyT b 1).fh ≤ 400 := by
        have x4 := HBB.out 4; have x5 := HBB.out 5
        show 100 ≤ 100 + b 4 + 2 * (b 5 % 20) ∧ 100 + b 4 + 2 * (b 5 % 20) ≤ 400
        omega
      generalize (fyT b 1).fh = fh at *
      obtain ⟨s1, p1, s2, p2, e1, e2, e3, f1, f2, f3, hs12, hs49⟩ := below_two (l1 := fh - d0) (l2 := fh - d0 - d1) HVT.out (by omega) (by omega) (by omega)
      have HBE1 : Hid (∀ (w : World) (tv mv : Value), SliceOf encT 4 w tv [fyT b 0, fyT b 1, fyT b 2] → SliceOf encM 4 w mv [] → Calls Try.prog 5 #[.agg #[tv, mv], iv 1, iv (fh - d0)] w fun e w' => e = .returned (.tuple #[iv s1, iv p1, iv 0]) ∧ Below w.heap.size w w') := fun w tv mv ht hm => by
        have := Below_any [fyT b 0, fyT b 1, fyT b 2] [] tv mv 1 (fh - d0) w ht hm
        rw [e1, e2, e3] at this; exact this
      have HBE2 : Hid (∀ (w : World) (tv mv : Value), SliceOf encT 4 w tv [fyT b 0, fyT b 1, fyT b 2] → SliceOf encM 4 w mv [] → Calls Try.prog 5 #[.agg #[tv, mv], iv 1, iv (fh - d0 - d1)] w fun e w' => e = .returned (.tuple #[iv s2, iv p2, iv 0]) ∧ Below w.heap.size w w') := fun w tv mv ht hm => by
        have := Below_any [fyT b 0, fyT b 1, fyT b 2] [] tv mv 1 (fh - d0 - d1) w ht hm
        rw [f1, f2, f3] at this; exact this
      have hwf : IntKind.i64.wrap (fh - (d0 : Int)) = fh - (d0 : Int) := IntWalk.i64_in _ ⟨by omega, by omega⟩
      have hwg : IntKind.i64.wrap (fh - (d0 : Int) - (d1 : Int)) = fh - (d0 : Int) - (d1 : Int) := IntWalk.i64_in _ ⟨by omega, by omega⟩
      have hwv1 : IntKind.i64.wrap v1 = v1 := IntWalk.i64_in _ ⟨by omega, by omega⟩
      have hv0l := hv0.1; have hv0h := hv0.2; have hv1l := hv1.1; have hv1h := hv1.2
      clear e1 e2 e3 f1 f2 f3 ho1 hb1 hBn hvn hWn
      go_region
      obtain ⟨Wd, hWd⟩ : ∃ W : World, Wn.drew = W := ⟨_, rfl⟩
      rw [hWd]
      have hbd : Below Wn.heap.size Wn Wd := by rw [← hWd]; exact (Below.refl _ _).drew
      have HBd := Lib.hid (bstep HBn.out hbd)
      have HQd := Lib.hid (bblkQ hbd HQn.out)
      have HSd := Lib.hid (SliceOf.below HSn.out hbd)
      clear vc0 q0 q1 x5 hWd hbd HQn HSn HBn HTn
      have q0 : Wd.cell? ⟨w1.heap.size, 0, none⟩ = some (.slice (some ⟨tg, 0, none⟩) 3 tc) := by rw [cell_of_row _ _ _ _ _ _ HQd.out]; rfl
      have q1 : Wd.cell? ⟨w1.heap.size, 1, none⟩ = some (.slice none 0 0) := by rw [cell_of_row _ _ _ _ _ _ HQd.out]; rfl
      have HFC : Hid (∀ W : World, SliceOf encT 4 W (.slice (some ⟨tg, 0, none⟩) 3 tc) [fyT b 0, fyT b 1, fyT b 2] → Calls Try.prog 6 #[.agg #[.slice (some ⟨tg, 0, none⟩) 3 tc, .slice none 0 0]] W fun e w' => ∃ tv mv, e = .returned (.agg #[tv, mv]) ∧ SliceOf encT 4 w' tv [fyT b 0, fyT b 1, fyT b 2] ∧ SliceOf encM 4 w' mv [] ∧ Below W.heap.size W w') :=
        fun W hs => firCloth_any [fyT b 0, fyT b 1, fyT b 2] (by simp) ⟨tg, 0, none⟩ tc W (by simp) hs
      go_wp2_with fail
      refine (HFC.out _ HSd.out).mono ?_
      rintro e wF ⟨tvF, mvF, rfl, hst, hsm, hbF⟩
      have HST := Lib.hid hst; have HSM := Lib.hid hsm
      clear hst hsm
      go_wp2_with fail
      refine (HBE1.out _ _ _ HST.out HSM.out).mono ?_
      rintro e wG ⟨rfl, hbG⟩
      have hbT : Below Wd.heap.size Wd wG := bstep hbF hbG
      have HBG := Lib.hid (bstep HBd.out hbT)
      have HTG := Lib.hid (TwInv.below HTI.out HBG.out)
      have hqG := bblkQ hbT HQd.out
      have hsG : SliceOf encT 4 wG (.slice (some ⟨tg, 0, none⟩) 3 tc) [fyT b 0, fyT b 1, fyT b 2] := SliceOf.below HSd.out hbT
      have hvG := (HTG.out.B.block _ (Array.getElem?_eq_some_iff.1 HVl.out).1).trans HVl.out
      clear q0 q1 hbT hbF hbG HST HSM
      have vc1 : wG.cell? ⟨w.heap.size, 1, none⟩ = some (Ythkmklfmobenaaa.u8 v1) := by rw [cell_of_row _ _ _ _ _ _ hvG]; rfl
      have q0 : wG.cell? ⟨w1.heap.size, 0, none⟩ = some (.slice (some ⟨tg, 0, none⟩) 3 tc) := by rw [cell_of_row _ _ _ _ _ _ hqG]; rfl
      have q1 : wG.cell? ⟨w1.heap.size, 1, none⟩ = some (.slice none 0 0) := by rw [cell_of_row _ _ _ _ _ _ hqG]; rfl
      have hbr : Below wG.heap.size wG wG := Below.refl _ _
      clear hqG hvG
      go_wp2_with fail
      go_cut [12, 13, 14] (fun s12 _ s14 wx => s12 = iv s2 ∧ s14 = iv 0 ∧ Hid (Below wG.heap.size wG wx))
      case first =>
        go_region_held3 (fun w' => w'.cell? ⟨w1.heap.size, 0, none⟩ = some (.slice (some ⟨tg, 0, none⟩) 3 tc) ∧ w'.cell? ⟨w1.heap.size, 1, none⟩ = some (.slice none 0 0) ∧ w'.cell? ⟨w.heap.size, 1, none⟩ = some (Ythkmklfmobenaaa.u8 v1) ∧ SliceOf encT 4 w' (.slice (some ⟨tg, 0, none⟩) 3 tc) [fyT b 0, fyT b 1, fyT b 2] ∧ Below wG.heap.size wG w')
          (first | (go_split_ands; refine ⟨?_, ?_, ?_, ?_, ?_⟩ <;> first | assumption | exact kcellQ hbK (by assumption) | exact bstep (by assumption) hbK | exact SliceOf.below (by assumption) hbK) | (refine ⟨?_, ?_, ?_, ?_, ?_⟩ <;> first | exact Below.drew (by assumption) | exact SliceOf.below (by assumption) ((Below.refl _ _).drew) | assumption))
          (first | (go_split_ands; (with_reducible refine (HFC.out _ (by assumption)).mono ?_); rintro e wF ⟨tvF, mvF, rfl, hstF, hsmF, hbK⟩; have HSTF := Lib.hid hstF; have HSMF := Lib.hid hsmF) | ((with_reducible refine (HBE2.out _ _ _ HSTF.out HSMF.out).mono ?_); rintro e wH ⟨rfl, hbK⟩))
        all_goals
          rename_i hHeld
          go_wp2_with fail
          go_meet
          exact ⟨rfl, rfl, hHeld.2.2.2.2⟩
      case rest =>
        obtain ⟨rfl, rfl, HBX⟩ := hcut
        have HTC := Lib.hid (TwInv.below HTG.out HBX.out)
        have hi1 : ¬ ((s1 : Int) < 0) := by omega
        have hi2 : ¬ ((s2 : Int) < (s1 : Int)) := by omega
        clear q0 q1 vc1 hbr hsG
        by_cases h20 : s2 ≤ 20
        · have hi3 : (s2 : Int) ≤ 20 := by omega
          obtain ⟨x1, hx1⟩ : ∃ x : Nat, max 1 s1 = x := ⟨_, rfl⟩
          obtain ⟨x2, hx2⟩ : ∃ x : Nat, max 1 s2 = x := ⟨_, rfl⟩
          have hmx1 : max (1 : Int) (s1 : Int) = (x1 : Int) := by omega
          have hmx2 : max (1 : Int) (s2 : Int) = (x2 : Int) := by omega
          obtain ⟨r2, hr2⟩ : ∃ x : Nat, k % 2 = x := ⟨_, rfl⟩
          obtain ⟨h2, hh2⟩ : ∃ x : Nat, k / 2 = x := ⟨_, rfl⟩
          have htm : (k : Int).tmod 2 = (r2 : Int) := by rw [Int.tmod_eq_emod_of_nonneg (by omega)]; omega
          have htd : (k : Int).tdiv 2 = (h2 : Int) := by rw [Int.tdiv_eq_ediv_of_nonneg (by omega)]; omega
          have htw : IntKind.i64.wrap (h2 : Int) = (h2 : Int) := IntWalk.i64_in _ ⟨by omega, by omega⟩
          have HX := Lib.hid (And.intro (And.intro hx1 hx2) (And.intro hr2 hh2))
          have HBB0 : Hid ((nwC nwA L).length + 1 ≤ maxLen ∧ ((nwC nwA L).length + 1) * 32 ≤ 140737488355328) := by have := HNW.out.1; rw [nwC_len]; unfold maxLen; exact ⟨by omega, by omega⟩
          have HBB1 : Hid ((nwC nwB L).length + 1 ≤ maxLen ∧ ((nwC nwB L).length + 1) * 32 ≤ 140737488355328) := by have := HNW.out.1; rw [nwC_len]; unfold maxLen; exact ⟨by omega, by omega⟩
          have d0 : wc.cell? ⟨Wl.heap.size, 0, none⟩ = some tv0 := by rw [cell_of_row _ _ _ _ _ _ HTC.out.h]; rfl
          have d1 : wc.frozen? ⟨Wl.heap.size, 0, none⟩ = false := by unfold World.frozen?; rw [HTC.out.h]; rfl
          have z0 : wc.drew.cell? ⟨Wl.heap.size, 0, none⟩ = some tv0 := d0
          have z1 : wc.drew.frozen? ⟨Wl.heap.size, 0, none⟩ = false := d1
          have z6 : Wl.heap.size + 1 ≤ wc.drew.heap.size := HTC.out.S
          have z9 : Wl.heap.size < wc.heap.size := HTC.out.S
          have HTZ : Hid (TwInv (nwC nwA L) (nwC nwB L) Wl rv0 rv1 tv0 tv1 wc.drew) := TwInv.below HTC.out (Below.refl _ _).drew
          clear hx1 hx2 hr2 hh2
          go_wp2_with fail
          go_cut [] (fun wx => TwNext (nwC nwA L ++ [⟨(r2 : Int), (h2 : Int), (x1 : Int), (x1 : Int)⟩]) (nwC nwB L) Wl rv0 rv1 wx)
          case first =>
            go_region_law (first | (go_simp; go_at_call 7; refine (firSpan_any _ _ _).mono ?_; rintro e w1' ⟨rfl, hbS⟩; have nm0 : w1'.cell? ⟨Wl.heap.size, 0, none⟩ = some tv0 := kcellQ hbS (by assumption); have nm1 : w1'.frozen? ⟨Wl.heap.size, 0, none⟩ = false := kfrozenQ hbS (v := tv0) (by assumption) (by assumption); have nm6 : Wl.heap.size + 1 ≤ w1'.heap.size := Nat.le_trans (by assumption) hbS.size; have nm8 : Wl.heap.size < w1'.heap.size := nm6; have nm5 : Hid (TwInv (nwC nwA L) (nwC nwB L) Wl rv0 rv1 tv0 tv1 w1') := TwInv.below (Hid.out (by assumption)) hbS) | (refine S_append2 ⟨(r2 : Int), (h2 : Int), (x1 : Int), (x1 : Int)⟩ (by rfl) _ _ 25 (by rfl) Try.underlying25 HI.out HZ0.out HZ1.out HZ2.out rfl Nat.four_pos' encC_len (encC_one _) (by rfl) (by rfl) (TwInv.O0 (C0 := (nwC nwA L)) (C1 := (nwC nwB L)) (Wl := Wl) (rv0 := rv0) (rv1 := rv1) (tv0 := tv0) (tv1 := tv1) (TwInv.below (Hid.out (by assumption)) (bpush (Below.refl _ _) _))) (encC_cell (heap_new _ _ _)) HBB0.out (Nat.le_trans (by assumption) (bpush (Below.refl _ _) _).size) ?_; intro g' cap w3 hown hbe hg hlie; have n0 : w3.cell? ⟨Wl.heap.size, 0, none⟩ = some tv0 := (hbe.cell (p := ⟨Wl.heap.size, 0, none⟩) (Nat.lt_succ_self _)).trans (kcellQ (bpush (Below.refl _ _) _) (by assumption)); have n1 : w3.frozen? ⟨Wl.heap.size, 0, none⟩ = false := (hbe.frozen (p := ⟨Wl.heap.size, 0, none⟩) (Nat.lt_succ_self _)).trans (kfrozenQ (bpush (Below.refl _ _) _) (v := tv0) (by assumption) (by assumption)); have HDN := Lib.hid (tw_done0 (C0 := (nwC nwA L)) (C1 := (nwC nwB L)) (Wl := Wl) (rv0 := rv0) (rv1 := rv1) (tv0 := tv0) (tv1 := tv1) (TwInv.below (Hid.out (by assumption)) (bpush (Below.refl _ _) _)) hown hbe hg hlie)))
            all_goals
              go_wp2_with fail
              go_meet
              exact HDN.out
          case rest =>
            obtain ⟨tw0, tw1, hinv2⟩ := hcut
            have HTC2 := Lib.hid hinv2
            clear d0 d1 z0 z1 z6 z9 HTZ hinv2
            have d0 : wc.cell? ⟨Wl.heap.size, 2, none⟩ = some tw1 := by rw [cell_of_row _ _ _ _ _ _ HTC2.out.h]; rfl
            have d1 : wc.frozen? ⟨Wl.heap.size, 2, none⟩ = false := by unfold World.frozen?; rw [HTC2.out.h]; rfl
            have z0 : wc.drew.cell? ⟨Wl.heap.size, 2, none⟩ = some tw1 := d0
            have z1 : wc.drew.frozen? ⟨Wl.heap.size, 2, none⟩ = false := d1
            have z6 : Wl.heap.size + 1 ≤ wc.drew.heap.size := HTC2.out.S
            have z9 : Wl.heap.size < wc.heap.size := HTC2.out.S
            have HTZ : Hid (TwInv (nwC nwA L ++ [⟨(r2 : Int), (h2 : Int), (x1 : Int), (x1 : Int)⟩]) (nwC nwB L) Wl rv0 rv1 tw0 tw1 wc.drew) := TwInv.below HTC2.out (Below.refl _ _).drew
            go_wp2_with fail
            go_region_law (first | (go_simp; go_at_call 7; refine (firSpan_any _ _ _).mono ?_; rintro e w1' ⟨rfl, hbS⟩; have nm0 : w1'.cell? ⟨Wl.heap.size, 2, none⟩ = some tw1 := kcellQ hbS (by assumption); have nm1 : w1'.frozen? ⟨Wl.heap.size, 2, none⟩ = false := kfrozenQ hbS (v := tw1) (by assumption) (by assumption); have nm6 : Wl.heap.size + 1 ≤ w1'.heap.size := Nat.le_trans (by assumption) hbS.size; have nm8 : Wl.heap.size < w1'.heap.size := nm6; have nm5 : Hid (TwInv (nwC nwA L ++ [⟨(r2 : Int), (h2 : Int), (x1 : Int), (x1 : Int)⟩]) (nwC nwB L) Wl rv0 rv1 tw0 tw1 w1') := TwInv.below (Hid.out (by assumption)) hbS) | (refine S_append2 ⟨(r2 : Int), (h2 : Int), (x2 : Int), (x2 : Int)⟩ (by rfl) _ _ 25 (by rfl) Try.underlying25 HI.out HZ0.out HZ1.out HZ2.out rfl Nat.four_pos' encC_len (encC_one _) (by rfl) (by rfl) (TwInv.O1 (C0 := (nwC nwA L ++ [⟨(r2 : Int), (h2 : Int), (x1 : Int), (x1 : Int)⟩])) (C1 := (nwC nwB L)) (Wl := Wl) (rv0 := rv0) (rv1 := rv1) (tv0 := tw0) (tv1 := tw1) (TwInv.below (Hid.out (by assumption)) (bpush (Below.refl _ _) _))) (encC_cell (heap_new _ _ _)) HBB1.out (Nat.le_trans (by assumption) (bpush (Below.refl _ _) _).size) ?_; intro g' cap w3 hown hbe hg hlie; have n0 : w3.cell? ⟨Wl.heap.size, 2, none⟩ = some tw1 := (hbe.cell (p := ⟨Wl.heap.size, 2, none⟩) (Nat.lt_succ_self _)).trans (kcellQ (bpush (Below.refl _ _) _) (by assumption)); have n1 : w3.frozen? ⟨Wl.heap.size, 2, none⟩ = false := (hbe.frozen (p := ⟨Wl.heap.size, 2, none⟩) (Nat.lt_succ_self _)).trans (kfrozenQ (bpush (Below.refl _ _) _) (v := tw1) (by assumption) (by assumption)); have HDN := Lib.hid (tw_done1 (C0 := (nwC nwA L ++ [⟨(r2 : Int), (h2 : Int), (x1 : Int), (x1 : Int)⟩])) (C1 := (nwC nwB L)) (Wl := Wl) (rv0 := rv0) (rv1 := rv1) (tv0 := tw0) (tv1 := tw1) (TwInv.below (Hid.out (by assumption)) (bpush (Below.refl _ _) _)) hown hbe hg hlie)))
            all_goals
              have HNX : Hid (∀ W, TwNext (nwC nwA L ++ [⟨(r2 : Int), (h2 : Int), (x1 : Int), (x1 : Int)⟩]) (nwC nwB L ++ [⟨(r2 : Int), (h2 : Int), (x2 : Int), (x2 : Int)⟩]) Wl rv0 rv1 W → TwNext (nwC nwA (L ++ [(k, s1, s2)])) (nwC nwB (L ++ [(k, s1, s2)])) Wl rv0 rv1 W) := by
                intro W h
                rw [nwC_snoc, nwC_snoc]
                simp only [nwA, nwB, HX.out.1.1, HX.out.1.2, HX.out.2.1, HX.out.2.2]
                exact h
              go_wp2_with fail
              go_roundw
              case rel => exact ⟨k + 1, L ++ [(k, s1, s2)], by omega, by omega, by go_num, HNW.out.more hs12 h20, HNX.out _ HDN.out⟩
              case measure => simp [intOf]; omega
        · have hi3 : ¬ ((s2 : Int) ≤ 20) := by omega
          go_wp2_with fail
          go_roundw
          case rel => exact ⟨k + 1, L, by omega, by omega, by go_num, HNW.out.skip, _, _, HTC.out⟩
          case measure => simp [intOf]; omega
    · have hk : ¬ k < Y.length ∨ ¬ k < 4 := by omega
      obtain ⟨tv0, tv1, hinv⟩ := HTW.out
      have hNW := HNW.out.ok hk4
      obtain ⟨ta, tn, rfl⟩ := hinv.O0.len
      obtain ⟨tb, tm, rfl⟩ := hinv.O1.len
      rw [nwC_len] at hinv
      rw [nwC_len] at hinv
      have HTI := Lib.hid hinv
      have HN := Lib.hid hNW
      have hrv0 := HRV0.out; have hrv1 := HRV1.out
      subst hrv0 hrv1
      have hlL : L.length ≤ 4 := hNW.1
      obtain ⟨K, hK⟩ : ∃ K : Nat, 1 + d2 = K := ⟨_, rfl⟩
      have HK : Hid (1 ≤ K ∧ K ≤ 5) := by unfold Hid; omega
      have hwv2 : IntKind.i64.wrap v2 = v2 := IntWalk.i64_in _ ⟨by omega, by omega⟩
      have hwK : IntKind.i64.wrap (1 + (d2 : Int)) = (K : Int) := by rw [IntWalk.i64_in _ ⟨by omega, by omega⟩]; omega
      have hv2l := hv2.1; have hv2h := hv2.2
      have HD0 := Lib.hid (fun (W : World) (hb : Below wr.heap.size wr W) => nwDay_any nwA L (Wl.heap.size + 1) (w.heap.size + 1) hlL (.slice ta L.length tn) W (fun h => HTI.out.N0 (by rw [h]; rfl)) (Owns.kept HTI.out.O0 hb) (slice_row (enc := encI) (xs := [0, 1]) (fun _ => rfl) (bblkQ hb ((HTI.out.B.block _ (Array.getElem?_eq_some_iff.1 HR0.out).1).trans HR0.out)) rfl (by decide)))
      have HD1 := Lib.hid (fun (W : World) (hb : Below wr.heap.size wr W) => nwDay_any nwB L (Wl.heap.size + 1) (w.heap.size + 1 + 1) hlL (.slice tb L.length tm) W (fun h => HTI.out.N1 (by rw [h]; rfl)) (Owns.kept HTI.out.O1 hb) (slice_row (enc := encI) (xs := [0, 1]) (fun _ => rfl) (bblkQ hb ((HTI.out.B.block _ (Array.getElem?_eq_some_iff.1 HR1.out).1).trans HR1.out)) rfl (by decide)))
      have hvr := (HTI.out.B.block _ (Array.getElem?_eq_some_iff.1 HVl.out).1).trans HVl.out
      have vc2 : wr.cell? ⟨w.heap.size, 2, none⟩ = some (Ythkmklfmobenaaa.u8 v2) := by rw [cell_of_row _ _ _ _ _ _ hvr]; rfl
      have HBR := Lib.hid (bstep HBl.out HTI.out.B)
      have HH := Lib.hid HTI.out.h
      have c0 : wr.cell? ⟨Wl.heap.size, 0, none⟩ = some (.slice ta L.length tn) := by rw [cell_of_row _ _ _ _ _ _ HH.out]; rfl
      have c1 : wr.cell? ⟨Wl.heap.size, 1, none⟩ = some (.slice (some ⟨w.heap.size + 1, 0, none⟩) 2 2) := by rw [cell_of_row _ _ _ _ _ _ HH.out]; rfl
      clear hinv hNW hvr HRV0 HRV1 hK HNW HTW
      have hb0' : Below wr.heap.size wr wr := Below.refl _ _
      go_wp2_with fail
      all_goals
        refine (HD0.out _ (Below.refl _ _)).mono ?_
        rintro e wA ⟨ca0, cc0, g0, rc0, rfl, hcA, hrA, hbA⟩
        clear c0 c1 vc2 hb0'
        go_wp2_with fail
        refine (nwStarts_any nwA L (nw_chkA HN.out) K g0 cc0 rc0 ca0 HK.out wA hcA hrA).mono ?_
        rintro e wB ⟨o, qa, hord, hqa, rfl, hrowA, hbB⟩
        have hb2' : Below wr.heap.size wr wB := bstep hbA hbB
        have HRA := Lib.hid hrowA
        have HQA := Lib.hid (show wr.heap.size ≤ qa from Nat.le_trans hbA.size hqa)
        have HOA := Lib.hid hord
        have HB2 := Lib.hid hb2'
        have hh := bblkQ hb2' HH.out
        have c2 : wB.cell? ⟨Wl.heap.size, 2, none⟩ = some (.slice tb L.length tm) := by rw [cell_of_row _ _ _ _ _ _ hh]; rfl
        have c3 : wB.cell? ⟨Wl.heap.size, 3, none⟩ = some (.slice (some ⟨w.heap.size + 1 + 1, 0, none⟩) 2 2) := by rw [cell_of_row _ _ _ _ _ _ hh]; rfl
        clear hcA hrA hbA hbB hord hqa hrowA hb2' hh
        go_wp2_with fail
        refine (HD1.out _ HB2.out).mono ?_
        rintro e wC ⟨ca1, cc1, g1, rc1, rfl, hcC, hrC, hbC⟩
        clear c2 c3
        go_wp2_with fail
        refine (nwStarts_any nwB L (nw_chkB HN.out) K g1 cc1 rc1 ca1 HK.out wC hcC hrC).mono ?_
        rintro e wD ⟨o', qb, hord', hqb, rfl, hrowB, hbD⟩
        have hoo := nw_ord HN.out HOA.out hord'
        subst hoo
        have hbCD := bstep hbC hbD
        have hb4' : Below wr.heap.size wr wD := bstep HB2.out hbCD
        have HRA4 := Lib.hid (bblkQ hbCD HRA.out)
        have HRB := Lib.hid hrowB
        have HOB := Lib.hid hord'
        have HB4 := Lib.hid hb4'
        have hh := bblkQ hb4' HH.out
        have c0 : wD.cell? ⟨Wl.heap.size, 0, none⟩ = some (.slice ta L.length tn) := by rw [cell_of_row _ _ _ _ _ _ hh]; rfl
        have c1 : wD.cell? ⟨Wl.heap.size, 1, none⟩ = some (.slice (some ⟨w.heap.size + 1, 0, none⟩) 2 2) := by rw [cell_of_row _ _ _ _ _ _ hh]; rfl
        clear hcC hrC hbC hbD hord' hqb hrowB hbCD hb4' hh HRA
        go_wp2_with fail
        refine (HD0.out _ HB4.out).mono ?_
        rintro e wE ⟨ca2, cc2, g2, rc2, rfl, hcE, hrE, hbE⟩
        clear c0 c1
        go_wp2_with fail
        refine (nwFew_any nwA L (nw_chkA HN.out) g2 cc2 rc2 5 ca2 (by omega) wE hcE hrE o HOA.out).mono ?_
        rintro e wF ⟨rfl, hbF⟩
        have hbEF := bstep hbE hbF
        have hb6' : Below wr.heap.size wr wF := bstep HB4.out hbEF
        have HB6 := Lib.hid hb6'
        have HRA6 := Lib.hid (bblkQ hbEF HRA4.out)
        have HRB6 := Lib.hid (bblkQ hbEF HRB.out)
        have hh := bblkQ hb6' HH.out
        have c2 : wF.cell? ⟨Wl.heap.size, 2, none⟩ = some (.slice tb L.length tm) := by rw [cell_of_row _ _ _ _ _ _ hh]; rfl
        have c3 : wF.cell? ⟨Wl.heap.size, 3, none⟩ = some (.slice (some ⟨w.heap.size + 1 + 1, 0, none⟩) 2 2) := by rw [cell_of_row _ _ _ _ _ _ hh]; rfl
        have HFE := Lib.hid (nw_few 5 HN.out HOB.out)
        clear hcE hrE hbE hbF hbEF hb6' hh HRA4 HRB HB4 HB2
        generalize fewS (coOf (nwC nwA L)) (hiOf (nwC nwA L)) o 5 = fa at *
        go_wp2_with fail
        refine (HD1.out _ HB6.out).mono ?_
        rintro e wG ⟨ca3, cc3, g3, rc3, rfl, hcG, hrG, hbG⟩
        clear c2 c3
        go_wp2_with fail
        refine (nwFew_any nwB L (nw_chkB HN.out) g3 cc3 rc3 5 ca3 (by omega) wG hcG hrG o HOB.out).mono ?_
        rintro e wH ⟨rfl, hbH⟩
        have hbGH := bstep hbG hbH
        have hb8' : Below wr.heap.size wr wH := bstep HB6.out hbGH
        have HB8 := Lib.hid (bstep HBR.out hb8')
        have HRA8 := Lib.hid (bblkQ hbGH HRA6.out)
        have HRB8 := Lib.hid (bblkQ hbGH HRB6.out)
        have hh := bblkQ hb8' HH.out
        have c0 : wH.cell? ⟨Wl.heap.size, 0, none⟩ = some (.slice ta L.length tn) := by rw [cell_of_row _ _ _ _ _ _ hh]; rfl
        have HSL := Lib.hid (And.intro (stF_len (nwC nwA L) K o) (stF_len (nwC nwB L) K o))
        have HLO := Lib.hid (nw_lo (k := K) HN.out HK.out.1 HOB.out)
        have HHI := Lib.hid (nw_hi (k := K) HN.out HK.out.1 HOB.out)
        clear hcG hrG hbG hbH hbGH hb8' hh HRA6 HRB6 HB6
        generalize fewS (coOf (nwC nwB L)) (hiOf (nwC nwB L)) o 5 = fb at *
        generalize stF (nwC nwA L) K o = FA at *
        generalize stF (nwC nwB L) K o = FB at *
        have hff : ¬ ((fb : Int) < (fa : Int)) := by have := HFE.out; omega
        have hne : ((L.length : Int) != (L.length : Int)) = false := by simp
        have hffN : ¬ fb < fa := by omega
        go_wp2_with fail
        go_loopw [24] (fun i W => ∃ h : Nat, h ≤ L.length ∧ i = iv h ∧ Hid (Below wH.heap.size wH W)) (fun i _ => L.length - (intOf i).toNat)
        case atStart => exact ⟨0, Nat.zero_le _, rfl, Below.refl _ _⟩
        case round =>
          obtain ⟨h, hhL, rfl, HBQ⟩ := hrel
          by_cases hlt2 : h < L.length
          · have hra := bblkQ HBQ.out HRA8.out
            have hrb := bblkQ HBQ.out HRB8.out
            have e0 := cell_rowI (i := h * 2) hra (by rw [HSL.out.1, nwC_len]; omega)
            have e1 := cell_rowI (i := h * 2 + 1) hra (by rw [HSL.out.1, nwC_len]; omega)
            have f0 := cell_rowI (i := h * 2) hrb (by rw [HSL.out.2, nwC_len]; omega)
            have f1 := cell_rowI (i := h * 2 + 1) hrb (by rw [HSL.out.2, nwC_len]; omega)
            have hlo := HLO.out h; have hhi := HHI.out h
            generalize FA.getD (h * 2) 0 = xa at *
            generalize FA.getD (h * 2 + 1) 0 = ya at *
            generalize FB.getD (h * 2) 0 = xb at *
            generalize FB.getD (h * 2 + 1) 0 = yb at *
            have hlo' : ¬ (xb < xa) := by omega
            have hhi' : ¬ (yb < ya) := by omega
            clear hra hrb hlo hhi c0
            clear hwv2 hwK hne et0 et1 et2 hlt hk hhL hv2l hv2h
            go_wp2_with fail
            go_quiet (fail)
            have HBZ : Hid (Below wH.heap.size wH (wr.drewN nq)) := bdrewN HBQ.out _
            clear e0 e1 f0 f1
            go_wp2_with fail
            go_roundw
            case rel => exact ⟨h + 1, by omega, by go_num, HBZ.out⟩
            case measure => simp [intOf]; omega
          · obtain rfl : h = L.length := by omega
            clear c0
            go_wp2_with fail
            refine (known04_any _).mono ?_
            rintro e wZ ⟨rfl, hbZ⟩
            have HBZ := Lib.hid (bstep HB8.out (bstep HBQ.out hbZ))
            go_wp2_with fail
            go_ret
            exact ⟨rfl, HBZ.out⟩
end Go.Proofs.Ythkmklfmobenaaa
