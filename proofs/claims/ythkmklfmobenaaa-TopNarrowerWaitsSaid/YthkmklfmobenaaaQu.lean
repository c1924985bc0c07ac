/- Turns: how many stocks are needed. -/
import Derived.Test.YthkmklfmobenaaaQt
namespace Go.Proofs.Ythkmklfmobenaaa
open Go Go.RowKit Go.Shelf
attribute [local go_sem] Oper.semAt_some

set_option maxRecDepth 20000 in
set_option maxHeartbeats 6400000 in
theorem Fewest_good (C : List Ct) (R : List Int) (ca : Option Addr) (ra rb cc rc limit : Nat) (o0 : List Nat) (w : World) (hC : SliceOf encC 4 w (.slice ca C.length cc) C) (hR : Ints w (.slice (some ⟨ra, rb, none⟩) R.length rc) R) (hchk : tChk C R = 0) (hlm : limit ≤ 500) (ho : OrdC C R (List.range C.length) o0) (hrk : RkOk R) :
    Calls Try.prog 10 #[.agg #[.slice ca C.length cc, .slice (some ⟨ra, rb, none⟩) R.length rc], iv limit] w fun e w' => e = .returned (.tuple #[iv (fewS (coOf C) (hiOf C) o0 limit), iv 0]) ∧ Below w.heap.size w w' := by
  have hz := tChk_zero hchk
  have hrl := vRanks_len hz.1
  have hn10 := hz.2.1
  have HCK := Lib.hid (fun (W : World) (hb : Below w.heap.size w W) => tCheck_any C R ca (some ⟨ra, rb, none⟩) cc rc W (hC.below hb) (hR.below hb) (by omega))
  have HAL : Hid (∀ (W : World) (k : Nat), Below w.heap.size w W → Calls Try.prog 26 #[.agg #[.slice ca C.length cc, .slice (some ⟨ra, rb, none⟩) R.length rc], iv k] W fun e w' => ∃ g oc, e = .returned (qv (.slice ca C.length cc) (.slice (some ⟨ra, rb, none⟩) R.length rc) k (.slice (some ⟨g, 0, none⟩) o0.length oc)) ∧ QuIn w' ca (some ⟨g, 0, none⟩) cc oc C o0 ∧ Below W.heap.size W w') := by
    intro W k hb
    refine (all_any C R ca ra rb cc rc k W (hC.below hb) (hR.below hb) (by omega) (day_we hchk)).mono ?_
    rintro e w' ⟨o, g, oc, rfl, hord, ho1, hb1⟩
    have heq : o = o0 := OrdC.one hord ho hrk (day_we hchk) (fun x hx => List.mem_range.1 hx) List.nodup_range
    subst heq
    refine ⟨g, oc, rfl, quIn_of hC (bstep hb hb1) ho1 (by have := ho.1.length_eq; simp at this; omega), hb1⟩
  have HPT : Hid (∀ (W : World) (k g oc : Nat), 1 ≤ k → k ≤ 1000 → QuIn W ca (some ⟨g, 0, none⟩) cc oc C o0 → Calls Try.prog 27 #[qv (.slice ca C.length cc) (.slice (some ⟨ra, rb, none⟩) R.length rc) k (.slice (some ⟨g, 0, none⟩) o0.length oc), iv limit] W fun e w' => e = .returned (.bool (patL (coOf C) limit (visL (coOf C) (hiOf C) (List.replicate k 0) o0))) ∧ Below W.heap.size W w') := by
    intro W k g oc h1 h2 hq
    rw [patL_wait]
    exact patient_any ca (some ⟨g, 0, none⟩) cc oc k _ C o0 limit W hq (day_qu hchk ho ⟨h1, h2⟩)
  have HZ := Lib.hid hchk
  have hol : o0.length = C.length := by have := ho.1.length_eq; simpa using this
  have HFW : Hid (fewS (coOf C) (hiOf C) o0 limit = leastB (fun k => patL (coOf C) limit (visL (coOf C) (hiOf C) (List.replicate k 0) o0)) (C.length - 1) 1) := by unfold Hid fewS; rw [hol]
  generalize fewS (coOf C) (hiOf C) o0 limit = fw at *
  have HPD : Hid (∀ k, (fun k => patL (coOf C) limit (visL (coOf C) (hiOf C) (List.replicate k 0) o0)) k = patL (coOf C) limit (visL (coOf C) (hiOf C) (List.replicate k 0) o0)) := fun _ => rfl
  generalize (fun k => patL (coOf C) limit (visL (coOf C) (hiOf C) (List.replicate k 0) o0)) = pp at *
  have HLM : Hid (inB 0 500 (limit : Int) = true) := by unfold Hid; rw [inB_iff]; omega
  clear hC hR hchk ho hz hrl hrk hol
  go_enter Try.func10, Try.ntmps10
  go_wp2_with fail
  refine (HCK.out _ (by repeat (first | exact Below.refl _ _ | refine Below.drew ?_ | refine bpush ?_ _ | refine bput ?_ (by simp) _ | (refine bstep ?_ (by assumption))))).mono ?_
  rintro e w1 ⟨he, hb1⟩; rw [HZ.out] at he; subst he
  have d0 : w1.cell? ⟨w.heap.size, 0, none⟩ = some (.slice ca C.length cc) := kcellQ hb1 (by go_simp)
  have d1 : w1.cell? ⟨w.heap.size, 1, none⟩ = some (.slice (some ⟨ra, rb, none⟩) R.length rc) := kcellQ hb1 (by go_simp)
  have HB1 := Lib.hid (show Below w.heap.size w w1 from bstep (by repeat (first | exact Below.refl _ _ | refine Below.drew ?_ | refine bpush ?_ _ | refine bput ?_ (by simp) _ | (refine bstep ?_ (by assumption)))) hb1)
  clear hb1
  go_wp2_with fail
  refine (validLimit_any (limit : Int) _).mono ?_
  rintro e w2 ⟨he, hb2⟩; rw [HLM.out] at he; subst he
  have HD0 := Lib.hid (kcellQ hb2 d0); have HD1 := Lib.hid (kcellQ hb2 d1)
  have HB2 := Lib.hid (bstep HB1.out hb2)
  clear hb2 d0 d1
  go_wp2_with fail
  go_loopw [7] (fun s wr => ∃ k : Nat, 1 ≤ k ∧ (k = 1 ∨ k ≤ C.length) ∧ s = iv k ∧ Hid (fw = leastB pp (C.length - k) k) ∧ Below w.heap.size w wr ∧ wr.cell? ⟨w.heap.size, 0, none⟩ = some (.slice ca C.length cc) ∧ wr.cell? ⟨w.heap.size, 1, none⟩ = some (.slice (some ⟨ra, rb, none⟩) R.length rc)) (fun s _ => C.length - (intOf s).toNat)
  case atStart => exact ⟨1, Nat.le_refl _, .inl rfl, rfl, HFW.out, HB2.out, HD0.out, HD1.out⟩
  case round =>
    obtain ⟨k, hk1, hk2, rfl, HL, hb, d0, d1⟩ := hrel
    have HB := Lib.hid hb
    clear hb
    by_cases hlt : k < C.length
    · have HL1 : Hid (fw = if pp k = true then k else leastB pp (C.length - (k + 1)) (k + 1)) := by
        have := HL.out
        rw [show C.length - k = (C.length - (k + 1)) + 1 by omega, leastB] at this
        exact this
      have HA := Lib.hid (HAL.out wr k HB.out)
      have HP1 := Lib.hid (fun (W : World) (g oc : Nat) (hq : QuIn W ca (some ⟨g, 0, none⟩) cc oc C o0) => HPT.out W k g oc hk1 (by omega) hq)
      cases hp : pp k
      · have HV := Lib.hid ((HPD.out k).symm.trans hp)
        rw [hp] at HL1
        clear hp
        go_wp2_with fail
        refine HA.out.mono ?_
        rintro e w3 ⟨g, oc, rfl, hq3, hb3⟩
        have e0 := kcellQ hb3 d0
        have e1 := kcellQ hb3 d1
        have HQ3 := Lib.hid hq3; have HB3 := Lib.hid (bstep HB.out hb3)
        clear hb3 hq3 d0 d1
        go_wp2_with fail
        refine (HP1.out _ g oc HQ3.out).mono ?_
        rintro e w4 ⟨he, hb4⟩
        rw [HV.out] at he; subst he
        have HE0 := Lib.hid (kcellQ hb4 e0); have HE1 := Lib.hid (kcellQ hb4 e1); have HB4 := Lib.hid (bstep HB3.out hb4)
        clear hb4 e0 e1
        go_wp2_with fail
        go_roundw
        case rel => exact ⟨k + 1, by omega, .inr (by omega), by go_num, by simpa [Hid] using HL1.out, HB4.out, HE0.out, HE1.out⟩
        case measure => simp [intOf]; omega
      · have HV := Lib.hid ((HPD.out k).symm.trans hp)
        rw [hp] at HL1
        clear hp
        go_wp2_with fail
        refine HA.out.mono ?_
        rintro e w3 ⟨g, oc, rfl, hq3, hb3⟩
        have HQ3 := Lib.hid hq3; have HB3 := Lib.hid (bstep HB.out hb3)
        clear hb3 hq3 d0 d1
        go_wp2_with fail
        refine (HP1.out _ g oc HQ3.out).mono ?_
        rintro e w4 ⟨he, hb4⟩
        rw [HV.out] at he; subst he
        have HB4 := Lib.hid (bstep HB3.out hb4)
        clear hb4
        go_wp2_with fail
        go_ret2
        exact ⟨by have := HL1.out; simp at this; rw [this]; rfl, HB4.out⟩
    · have HV : Hid (fw = k) := by
        have := HL.out
        rw [show C.length - k = 0 by omega] at this
        exact this
      go_wp2_with fail
      go_ret2
      exact ⟨by rw [HV.out]; rfl, HB.out⟩
end Go.Proofs.Ythkmklfmobenaaa
