/- Plans of package stream: validPlan, openPlan, right, openRight, Goes. -/
import Derived.Test.YtgoncgbbgodliaaSj
namespace Go.Proofs.Ytgoncgbbgodliaa
open Go Go.RowKit Go.Shelf
attribute [local go_sem ↓] Go.wp_at_zero Go.wp_at_succ

theorem natEqT {a b : Nat} (h : a = b) : ((a : Int) == (b : Int)) = true := by rw [beq_iff_eq]; omega
theorem natEqF {a b : Nat} (h : ¬ a = b) : ((a : Int) == (b : Int)) = false := by rw [beq_eq_false_iff_ne]; omega
def vPlan (k : Int) (plan : List Int) (lo hi : Int) : Bool := inB lo hi (plan.length : Int) && plan.all (inB 0 k)

set_option maxRecDepth 20000 in
set_option maxHeartbeats 1600000 in
theorem validPlan_any (m : Ml) (plan : List Int) (pv : Value) (lo hi : Int) (w : World) (hp : Ints w pv plan) :
    Calls Try.prog 42 #[.agg (encMl m).toArray, pv, iv lo, iv hi] w fun e w' => e = .returned (.bool (vPlan m.k plan lo hi)) ∧ Below w.heap.size w w' := by
  have HP := Lib.hid hp
  obtain ⟨pa, pc, rfl, hpl, -⟩ := hp
  obtain ⟨kk, t, bl, bh, h, nl, nh⟩ := m
  cases h1 : inB lo hi (plan.length : Int)
  · have HR : Hid (vPlan kk plan lo hi = false) := by simp [Hid, vPlan, h1]
    have H1 := Lib.hid h1; clear h1
    simp only [encMl]
    go_enter Try.func42, Try.ntmps42
    go_wp2_with fail
    refine (within1 lo hi (plan.length : Int) (by go_simp)).mono ?_
    rintro e w1 ⟨he, rfl⟩; rw [H1.out] at he; subst he
    go_wp2_with fail
    go_ret
    exact ⟨by rw [HR.out]; rfl, (by repeat (first | exact Below.refl _ _ | refine Below.drew ?_ | refine bpush ?_ _ | refine bput ?_ (by simp) _ | (refine bstep ?_ (by assumption))))⟩
  · have HR : Hid (vPlan kk plan lo hi = plan.all (inB 0 kk)) := by simp [Hid, vPlan, h1]
    have H1 := Lib.hid h1; clear h1
    simp only [encMl]
    go_enter Try.func42, Try.ntmps42
    go_wp2_with fail
    refine (within1 lo hi (plan.length : Int) (by go_simp)).mono ?_
    rintro e w1 ⟨he, rfl⟩; rw [H1.out] at he; subst he
    go_wp2_with fail
    refine (within_any 0 kk plan _ _ (HP.out.below (by repeat (first | exact Below.refl _ _ | refine Below.drew ?_ | refine bpush ?_ _ | refine bput ?_ (by simp) _ | (refine bstep ?_ (by assumption)))))).mono ?_
    rintro e w1 ⟨rfl, rfl⟩
    go_wp2_with fail
    go_ret
    exact ⟨by rw [HR.out]; rfl, (by repeat (first | exact Below.refl _ _ | refine Below.drew ?_ | refine bpush ?_ _ | refine bput ?_ (by simp) _ | (refine bstep ?_ (by assumption))))⟩

set_option maxRecDepth 20000 in
set_option maxHeartbeats 3200000 in
theorem openPlan_good (m : Ml) (F : List Sp) (plan : List Int) (fv pv : Value) (w : World) (hc : sChk m F = 0) (hpl : vPlan m.k plan F.length F.length = true) (hf : SliceOf encS 2 w fv F) (hp : Ints w pv plan) :
    Calls Try.prog 28 #[.agg (encMl m).toArray, fv, pv] w fun e w' => e = .returned (.tuple #[.agg (vcells m fv), iv 0]) ∧ Below w.heap.size w w' := by
  have HF := Lib.hid hf; have HP := Lib.hid hp
  obtain ⟨fa, fc, rfl, hfl, -⟩ := hf
  obtain ⟨pa, pc, rfl, hpl2, -⟩ := hp
  have hO := sOpen_any m F (.slice fa F.length fc)
  rw [openV_good _ hc, hc] at hO
  have HO := Lib.hid hO; clear hO
  have hV := fun w (h : Ints w (.slice pa plan.length pc) plan) => validPlan_any m plan (.slice pa plan.length pc) F.length F.length w h
  rw [hpl] at hV
  have HV := Lib.hid hV; clear hV
  have HSI := Lib.hid (sinfoVl m (.slice fa F.length fc))
  have HON := Lib.hid (vcells_one m fa F.length fc)
  clear hc hpl
  obtain ⟨kk, t, bl, bh, h, nl, nh⟩ := m
  simp only [encMl, vcells] at *
  go_enter Try.func28, Try.ntmps28
  go_wp2_with fail
  refine (HO.out _ (HF.out.below (by repeat (first | exact Below.refl _ _ | refine Below.drew ?_ | refine bpush ?_ _ | refine bput ?_ (by simp) _ | (refine bstep ?_ (by assumption)))))).mono ?_
  rintro e w1 ⟨rfl, hb⟩
  have hr1 := Lib.hid ((hb.block (w.heap.size + 1) (by simp)).trans (by have := heap_new (w.alloc (.cells #[iv kk, iv t, iv bl, iv bh, iv h, iv nl, iv nh] 40)) zv 77; simp only [World.size_alloc] at this; exact this))
  have HB := Lib.hid (show Below w.heap.size w w1 from bstep (by repeat (first | exact Below.refl _ _ | refine Below.drew ?_ | refine bpush ?_ _ | refine bput ?_ (by simp) _ | (refine bstep ?_ (by assumption)))) hb)
  have hlt1 : w.heap.size + 1 < w1.heap.size := (Array.getElem?_eq_some_iff.1 hr1.out).1
  have hlt0 : w.heap.size < w1.heap.size := by omega
  have c0 : w1.cell? ⟨w.heap.size, 0, none⟩ = some (iv kk) := (hb.cell (p := ⟨w.heap.size, 0, none⟩) (by simp <;> omega)).trans (by go_simp)
  have c1 : w1.cell? ⟨w.heap.size, 1, none⟩ = some (iv t) := (hb.cell (p := ⟨w.heap.size, 1, none⟩) (by simp <;> omega)).trans (by go_simp)
  have c2 : w1.cell? ⟨w.heap.size, 2, none⟩ = some (iv bl) := (hb.cell (p := ⟨w.heap.size, 2, none⟩) (by simp <;> omega)).trans (by go_simp)
  have c3 : w1.cell? ⟨w.heap.size, 3, none⟩ = some (iv bh) := (hb.cell (p := ⟨w.heap.size, 3, none⟩) (by simp <;> omega)).trans (by go_simp)
  have c4 : w1.cell? ⟨w.heap.size, 4, none⟩ = some (iv h) := (hb.cell (p := ⟨w.heap.size, 4, none⟩) (by simp <;> omega)).trans (by go_simp)
  have c5 : w1.cell? ⟨w.heap.size, 5, none⟩ = some (iv nl) := (hb.cell (p := ⟨w.heap.size, 5, none⟩) (by simp <;> omega)).trans (by go_simp)
  have c6 : w1.cell? ⟨w.heap.size, 6, none⟩ = some (iv nh) := (hb.cell (p := ⟨w.heap.size, 6, none⟩) (by simp <;> omega)).trans (by go_simp)
  clear hb
  go_wp2_with fail
  refine (HV.out _ (HP.out.below (bpush HB.out _))).mono ?_
  rintro e w2 ⟨rfl, hb2⟩
  have hr2 := Lib.hid ((hb2.block w1.heap.size (by simp)).trans (heap_new w1 #[iv kk, iv t, iv bl, iv bh, iv h, iv nl, iv nh, .slice fa F.length fc] 77))
  have hr3 := Lib.hid ((hb2.block (w.heap.size + 1) (by simp; omega)).trans ((Below.heap_alloc _ _ _ hlt1).trans hr1.out))
  have HB2 := Lib.hid (bstep (bpush HB.out _) hb2)
  clear hb2 c0 c1 c2 c3 c4 c5 c6
  go_wp2_with (first | (with_reducible change wpList _ _ _ (Oper.mk _ (Op.load 77 _) _ _ _ _ :: _) _ _; refine L_val rfl (run_load_row 77 _ rfl _ rfl 77 #[iv kk, iv t, iv bl, iv bh, iv h, iv nl, iv nh, .slice fa F.length fc] _ hr2.out Try.underlying77 rfl HSI.out) ?_) | (with_reducible change wpList _ _ _ (Oper.mk _ (Op.store 77 _ _) _ _ _ _ :: _) _ _; refine L_skip rfl (run_store_row 77 _ _ rfl _ rfl #[iv kk, iv t, iv bl, iv bh, iv h, iv nl, iv nh, .slice fa F.length fc] rfl 77 zv hr3.out HSI.out rfl HON.out) ?_))
  exact bodyPost_ret (results_row_tmp (fn := Try.f28) Try.results28 _ rfl (heap_setRow_same hr3.out) Try.underlying77 rfl HSI.out) rfl ⟨rfl, bsetRow HB2.out (by omega) _⟩
/-- Whether a plan has water enough in all truths. -/
def rightB (m : Ml) (F : List Sp) (plan : List Int) : Bool := decide ((lvOf Prod.fst m F plan).length = plan.length)
theorem vPlan_iff {k : Int} {plan : List Int} {lo hi : Int} : vPlan k plan lo hi = true ↔ (lo ≤ (plan.length : Int) ∧ (plan.length : Int) ≤ hi) ∧ plan.all (inB 0 k) = true := by simp only [vPlan, Bool.and_eq_true, inB_iff]
theorem plan8 {k : Int} {plan : List Int} (hk : k ≤ 8) (h : plan.all (inB 0 k) = true) : plan.all (inB 0 8) = true := by
  rw [List.all_eq_true] at *; intro x hx; have := inB_iff.1 (h x hx); exact inB_iff.2 (by omega)

def openR (m : Ml) (F : List Sp) (plan : List Int) (fv : Value) : Value := if rightB m F plan = true then .tuple #[.agg (vcells m fv), iv 0] else .tuple #[.agg zv, iv 9]
theorem builtZv : Try.prog.built 77 [] = some zv := by kernel_rfl

def goesErr (m : Ml) (F : List Sp) (plan : List Int) : Int := if rightB m F plan = true then 7 else 0
def goesHour (m : Ml) (F : List Sp) (plan : List Int) : Int := if rightB m F plan = true then 0 else ((lvOf Prod.fst m F plan).length : Int)
def goesSure (m : Ml) (F : List Sp) (plan : List Int) : Bool := if rightB m F plan = true then false else decide ((lvOf Prod.snd m F plan).length = (lvOf Prod.fst m F plan).length)

set_option maxRecDepth 20000 in
set_option maxHeartbeats 3200000 in
theorem Goes_good (m : Ml) (F : List Sp) (plan : List Int) (fv pv : Value) (w : World) (hc : sChk m F = 0) (hpl : vPlan m.k plan F.length F.length = true) (hf : SliceOf encS 2 w fv F) (hp : Ints w pv plan) :
    Calls Try.prog 14 #[.agg (encMl m).toArray, fv, pv] w fun e w' => e = .returned (.tuple #[iv (goesHour m F plan), .bool (goesSure m F plan), iv (goesErr m F plan)]) ∧ Below w.heap.size w w' := by
  have HF := Lib.hid hf; have HP := Lib.hid hp
  obtain ⟨fa, fc, rfl, hfl, -⟩ := hf
  obtain ⟨pa, pc, rfl, hpl2, -⟩ := hp
  have HO := Lib.hid (fun w h1 h2 => openPlan_good m F plan (.slice fa F.length fc) (.slice pa plan.length pc) w hc hpl h1 h2)
  obtain ⟨hm, hl24, hl0, hFv⟩ := sChk_zero hc
  obtain ⟨hq, hP⟩ := vPlan_iff.1 hpl
  have hP8 := plan8 (vMill_iff.1 hm).1.2 hP
  have HLO := Lib.hid (fun (w : World) (h1 : SliceOf encS 2 w (.slice fa F.length fc) F) (h2 : Ints w (.slice pa plan.length pc) plan) => lowest_ctd hm hFv hP8 (by omega) (by omega) w h1 h2)
  have HHI := Lib.hid (fun (w : World) (h1 : SliceOf encS 2 w (.slice fa F.length fc) F) (h2 : Ints w (.slice pa plan.length pc) plan) => highest_ctd hm hFv hP8 (by omega) (by omega) w h1 h2)
  have n1 : (lvOf Prod.fst m F plan).length ≤ 24 := by have := lvOf_len Prod.fst m F plan; omega
  have n2 : (lvOf Prod.snd m F plan).length ≤ 24 := by have := lvOf_len Prod.snd m F plan; omega
  have HR : Hid (rightB m F plan = decide ((lvOf Prod.fst m F plan).length = plan.length)) := rfl
  have H1 : Hid (goesErr m F plan = if rightB m F plan = true then 7 else 0) := rfl
  have H2 : Hid (goesHour m F plan = if rightB m F plan = true then 0 else ((lvOf Prod.fst m F plan).length : Int)) := rfl
  have H3 : Hid (goesSure m F plan = if rightB m F plan = true then false else decide ((lvOf Prod.snd m F plan).length = (lvOf Prod.fst m F plan).length)) := rfl
  have hpl24 : plan.length ≤ 24 := by omega
  generalize (lvOf Prod.fst m F plan).length = N1 at *
  generalize (lvOf Prod.snd m F plan).length = N2 at *
  generalize goesErr m F plan = r1 at *
  generalize goesHour m F plan = r2 at *
  generalize goesSure m F plan = r3 at *
  generalize rightB m F plan = rb at *
  clear hc hpl hm hFv hP hP8 hq
  obtain ⟨kk, t, bl, bh, h, nl, nh⟩ := m
  simp only [encMl, vcells] at *
  go_enter Try.func14, Try.ntmps14
  go_wp2_with fail
  refine (HO.out _ (HF.out.below (by repeat (first | exact Below.refl _ _ | refine Below.drew ?_ | refine bpush ?_ _ | refine bput ?_ (by simp) _ | (refine bstep ?_ (by assumption))))) (HP.out.below (by repeat (first | exact Below.refl _ _ | refine Below.drew ?_ | refine bpush ?_ _ | refine bput ?_ (by simp) _ | (refine bstep ?_ (by assumption)))))).mono ?_
  rintro e w1 ⟨rfl, hb⟩
  have HB := Lib.hid (show Below w.heap.size w w1 from bstep (by repeat (first | exact Below.refl _ _ | refine Below.drew ?_ | refine bpush ?_ _ | refine bput ?_ (by simp) _ | (refine bstep ?_ (by assumption)))) hb)
  clear hb
  go_wp2_with fail
  refine (HLO.out _ (HF.out.below (bpush HB.out _)) (HP.out.below (bpush HB.out _))).mono ?_
  rintro e w2 ⟨be, bv, bp, rfl, hcT, hb2⟩
  unfold Counts at hcT
  have HCT := Lib.hid hcT; clear hcT
  have hr2 := Lib.hid ((hb2.block w1.heap.size (by simp)).trans (heap_new w1 #[iv kk, iv t, iv bl, iv bh, iv h, iv nl, iv nh, .slice fa F.length fc] 77))
  have HB2 := Lib.hid (bstep (bpush HB.out _) hb2)
  clear hb2
  go_wp2_with fail
  refine (HCT.out).mono ?_
  rintro e w3 ⟨rfl, hb3⟩
  have hr3 := (hb3.block w1.heap.size (Array.getElem?_eq_some_iff.1 hr2.out).1).trans hr2.out
  have HB3 := Lib.hid (bstep HB2.out hb3); clear hb3
  by_cases hN : N1 = plan.length
  · have e1 : ((N1 : Int) == (plan.length : Int)) = true := natEqT hN
    have HE : Hid (rb = true) := by rw [HR.out]; simpa [Hid] using hN
    clear hN hr3
    go_wp2_with fail
    go_ret3
    exact ⟨by rw [H1.out, H2.out, H3.out, HE.out]; rfl, HB3.out⟩
  · have e1 : ((N1 : Int) == (plan.length : Int)) = false := natEqF hN
    have HE : Hid (rb = false) := by rw [HR.out]; simpa [Hid] using hN
    obtain ⟨c0, c1, c2, c3, c4, c5, c6, c7⟩ := row8 hr3
    clear hN hr3
    go_wp2_with fail
    refine (HHI.out _ (HF.out.below HB3.out) (HP.out.below HB3.out)).mono ?_
    rintro e w4 ⟨be2, bv2, bp2, rfl, hcT2, hb4⟩
    unfold Counts at hcT2
    have HCT2 := Lib.hid hcT2; clear hcT2
    have HB4 := Lib.hid (bstep HB3.out hb4); clear hb4
    clear c0 c1 c2 c3 c4 c5 c6 c7
    go_wp2_with fail
    refine (HCT2.out).mono ?_
    rintro e w5 ⟨rfl, hb5⟩
    have HB5 := Lib.hid (bstep HB4.out hb5); clear hb5
    by_cases hN2 : N2 = N1
    · have e2 : ((N2 : Int) == (N1 : Int)) = true := natEqT hN2
      have HE2 : Hid (r3 = true) := by rw [H3.out, HE.out]; simpa [Hid] using hN2
      clear hN2
      go_wp2_with fail
      go_ret3
      exact ⟨by rw [H1.out, H2.out, HE2.out, HE.out]; rfl, HB5.out⟩
    · have e2 : ((N2 : Int) == (N1 : Int)) = false := natEqF hN2
      have HE2 : Hid (r3 = false) := by rw [H3.out, HE.out]; simpa [Hid] using hN2
      clear hN2
      go_wp2_with fail
      go_ret3
      exact ⟨by rw [H1.out, H2.out, HE2.out, HE.out]; rfl, HB5.out⟩
end Go.Proofs.Ytgoncgbbgodliaa
