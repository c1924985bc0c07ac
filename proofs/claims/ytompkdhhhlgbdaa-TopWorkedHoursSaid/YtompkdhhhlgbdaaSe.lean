/- Lasts of package stream. -/
import Derived.Test.YtompkdhhhlgbdaaSd
import Derived.Deep.RegionHeld3
import Derived.Deep.DrawnRows
namespace Go.Proofs.Ytompkdhhhlgbdaa
open Go Go.RowKit Go.Shelf
attribute [local go_sem ↓] Go.wp_at_zero Go.wp_at_succ

/-- Levels of a plan, if one end of each span is true. -/
def lvOf (sel : Sp → Int) (m : Ml) (F : List Sp) (plan : List Int) : List Int := lvs m.t m.h (sel (m.nl, m.nh)) (hrs sel F plan)
theorem lvs_len (T H : Int) : ∀ (r : List (Int × Int)) (l : Int), (lvs T H l r).length ≤ r.length
  | [], _ => by simp [lvs]
  | (f, k) :: r, l => by
    rw [lvs]
    split
    · rw [List.length_cons, List.length_cons]; have := lvs_len T H r (leftL T H l f k); omega
    · simp
theorem lvOf_len (sel : Sp → Int) (m : Ml) (F : List Sp) (plan : List Int) : (lvOf sel m F plan).length ≤ plan.length := by
  refine Nat.le_trans (lvs_len _ _ _ _) ?_
  simp [hrs]; omega

/-- Counting what an iterator yields comes to n. -/
def Counts (w : World) (be bv bp : Nat) (n : Int) : Prop :=
  Calls Try.prog 26 #[.func (.func 69) #[] #[.pointer (some ⟨be, 0, none⟩), .pointer (some ⟨bv, 0, none⟩), .pointer (some ⟨bp, 0, none⟩)]] w fun e w' => e = .returned (iv n) ∧ Below w.heap.size w w'
def CtdRes (n : Int) (w : World) (e : Ending) (w' : World) : Prop :=
  ∃ be bv bp, e = .returned (.func (.func 69) #[] #[.pointer (some ⟨be, 0, none⟩), .pointer (some ⟨bv, 0, none⟩), .pointer (some ⟨bp, 0, none⟩)]) ∧ Counts w' be bv bp n ∧ Below w.heap.size w w'

theorem counts_of {ef : FuncId} {sel : Sp → Int} {m : Ml} {fv pv : Value} {F : List Sp} {plan : List Int} {w w' : World} {be bv bp : Nat}
    (eg : ∀ args w, (callFunc ef args).run Try.prog w = .ok (.enter ef args) w)
    (hef : ∀ p w, Calls Try.prog ef #[.agg (encS p).toArray] w fun e w' => e = .returned (iv (sel p)) ∧ Below w.heap.size w w') (hsel : ∀ p hi, 0 ≤ p.1 → p.1 ≤ hi → 0 ≤ p.2 → p.2 ≤ hi → 0 ≤ sel p ∧ sel p ≤ hi)
    (hm : vMill m = true) (hF : F.all vFlow = true) (hP : plan.all (inB 0 8) = true) (hl : plan.length ≤ F.length) (hl2 : F.length ≤ 1000000)
    (hb : LvBox w' be bv bp ef m fv pv) (hf : SliceOf encS 2 w fv F) (hp : Ints w pv plan) (hbel : Below w.heap.size w w') : Counts w' be bv bp (lvOf sel m F plan).length := by
  have hlt : ∀ {b : Nat} {o : Obj}, w'.heap[b]? = some o → b < w'.heap.size := fun h => (Array.getElem?_eq_some_iff.1 h).1
  refine count_any _ _ (fun k => k < w'.heap.size) _ _ (enters_of Try.func69 (by kernel_rfl) rfl) ?_ (fun k hk => hk) (by have := lvOf_len sel m F plan; omega)
  exact levels_seq _ be bv bp (hlt hb.e) (hlt hb.v) (hlt hb.p) m fv pv F plan ef sel eg hef hsel hm hF hP hl w' (fun k hk => hk) hb
    (fun W hs => (hf.below hbel).heapEq (fun k hk => hs.block k hk)) (fun W hs => (hp.below hbel).heapEq (fun k hk => hs.block k hk))

theorem lowest_ctd {m : Ml} {pa fa : Option Addr} {pn pc fn fc : Nat} {F : List Sp} {plan : List Int} (hm : vMill m = true) (hF : F.all vFlow = true) (hP : plan.all (inB 0 8) = true) (hl : plan.length ≤ F.length) (hl2 : F.length ≤ 1000000)
    (w : World) (hf : SliceOf encS 2 w (.slice fa fn fc) F) (hp : Ints w (.slice pa pn pc) plan) :
    Calls Try.prog 27 #[.agg (vcells m (.slice fa fn fc)), .slice pa pn pc] w (CtdRes (lvOf Prod.fst m F plan).length w) := by
  refine (lowest_any m (.slice fa fn fc) pa pn pc w).mono ?_
  rintro e w' ⟨be, bv, bp, rfl, _, _, _, hb, hbel⟩
  exact ⟨be, bv, bp, rfl, counts_of (enters_of Try.func54 (by kernel_rfl) rfl) low1_any (fun p hi h1 h2 h3 h4 => ⟨h1, h2⟩) hm hF hP hl hl2 hb hf hp hbel, hbel⟩
theorem highest_ctd {m : Ml} {pa fa : Option Addr} {pn pc fn fc : Nat} {F : List Sp} {plan : List Int} (hm : vMill m = true) (hF : F.all vFlow = true) (hP : plan.all (inB 0 8) = true) (hl : plan.length ≤ F.length) (hl2 : F.length ≤ 1000000)
    (w : World) (hf : SliceOf encS 2 w (.slice fa fn fc) F) (hp : Ints w (.slice pa pn pc) plan) :
    Calls Try.prog 28 #[.agg (vcells m (.slice fa fn fc)), .slice pa pn pc] w (CtdRes (lvOf Prod.snd m F plan).length w) := by
  refine (highest_any m (.slice fa fn fc) pa pn pc w).mono ?_
  rintro e w' ⟨be, bv, bp, rfl, _, _, _, hb, hbel⟩
  exact ⟨be, bv, bp, rfl, counts_of (enters_of Try.func55 (by kernel_rfl) rfl) high1_any (fun p hi h1 h2 h3 h4 => ⟨h3, h4⟩) hm hF hP hl hl2 hb hf hp hbel, hbel⟩

def lastErr (m : Ml) (F : List Sp) (k fr : Int) : Int := if sChk m F ≠ 0 then sChk m F else if inB 1 m.k k = true ∧ inB 0 ((F.length : Int) - 1) fr = true then 0 else 3
def lastOf (sel : Sp → Int) (m : Ml) (F : List Sp) (k fr : Int) : Int := if lastErr m F k fr = 0 then ((lvOf sel m F (stdy F.length k fr)).length : Int) - fr else 0
theorem openV_bad {m : Ml} {F : List Sp} (fv : Value) (h : sChk m F ≠ 0) : openV m F fv = zv := by simp [openV, h]
theorem openV_good {m : Ml} {F : List Sp} (fv : Value) (h : sChk m F = 0) : openV m F fv = vcells m fv := by simp [openV, h]
theorem encMl_cells (m : Ml) : (encMl m).toArray = #[iv m.k, iv m.t, iv m.bl, iv m.bh, iv m.h, iv m.nl, iv m.nh] := rfl

set_option maxRecDepth 20000 in
set_option maxHeartbeats 6400000 in
theorem Lasts_any (m : Ml) (F : List Sp) (fv : Value) (k fr : Int) (w : World) (hf : SliceOf encS 2 w fv F) :
    Calls Try.prog 8 #[.agg (encMl m).toArray, fv, iv k, iv fr] w fun e w' => e = .returned (.tuple #[iv (lastOf Prod.fst m F k fr), iv (lastOf Prod.snd m F k fr), iv (lastErr m F k fr)]) ∧ Below w.heap.size w w' := by
  have HF := Lib.hid hf
  obtain ⟨fa, fc, rfl, hfl, -⟩ := hf
  have hO := sOpen_any m F (.slice fa F.length fc)
  have HO := Lib.hid hO; clear hO
  by_cases hc : sChk m F = 0
  · obtain ⟨hm, hl24, hl0, hFv⟩ := sChk_zero hc
    have HM := Lib.hid hm; have HFV := Lib.hid hFv
    have hV : openV m F (.slice fa F.length fc) = vcells m (.slice fa F.length fc) := openV_good _ hc
    rw [hV, hc] at HO
    cases hk : inB 1 m.k k
    · have HE : Hid (lastErr m F k fr = 3) := by simp [Hid, lastErr, hc, hk]
      have HL1 : Hid (lastOf Prod.fst m F k fr = 0) := by simp [Hid, lastOf, HE.out]
      have HL2 : Hid (lastOf Prod.snd m F k fr = 0) := by simp [Hid, lastOf, HE.out]
      have HK := Lib.hid hk
      clear hm hFv hV hc hk
      obtain ⟨kk, t, bl, bh, h, nl, nh⟩ := m
      simp only [encMl, vcells] at *
      go_enter Try.func8, Try.ntmps8
      go_wp2_with fail
      refine (HO.out _ (HF.out.below (by repeat (first | exact Below.refl _ _ | refine Below.drew ?_ | refine bpush ?_ _ | refine bput ?_ (by simp) _ | (refine bstep ?_ (by assumption)))))).mono ?_
      rintro e w1 ⟨rfl, hb⟩
      obtain ⟨hbc, hbf⟩ := bcell hb
      have hbz := hb.size
      simp [Nat.add_one_le_iff] at hbz
      have hlt0 : w.heap.size < w1.heap.size := by omega
      go_wp2_with fail
      refine (within1 1 kk k (by go_simp)).mono ?_
      rintro e w2 ⟨he, rfl⟩; rw [HK.out] at he; subst he
      go_wp2_with fail
      go_ret3
      exact ⟨by rw [HL1.out, HL2.out, HE.out]; rfl, (by repeat (first | exact Below.refl _ _ | refine Below.drew ?_ | refine bpush ?_ _ | refine bput ?_ (by simp) _ | (refine bstep ?_ (by assumption))))⟩
    · cases hq : inB 0 ((F.length : Int) - 1) fr
      · have HE : Hid (lastErr m F k fr = 3) := by simp [Hid, lastErr, hc, hq]
        have HL1 : Hid (lastOf Prod.fst m F k fr = 0) := by simp [Hid, lastOf, HE.out]
        have HL2 : Hid (lastOf Prod.snd m F k fr = 0) := by simp [Hid, lastOf, HE.out]
        have HK := Lib.hid hk; have HQ := Lib.hid hq
        clear hm hFv hV hc hk hq
        obtain ⟨kk, t, bl, bh, h, nl, nh⟩ := m
        simp only [encMl, vcells] at *
        go_enter Try.func8, Try.ntmps8
        go_wp2_with fail
        refine (HO.out _ (HF.out.below (by repeat (first | exact Below.refl _ _ | refine Below.drew ?_ | refine bpush ?_ _ | refine bput ?_ (by simp) _ | (refine bstep ?_ (by assumption)))))).mono ?_
        rintro e w1 ⟨rfl, hb⟩
        obtain ⟨hbc, hbf⟩ := bcell hb
        have hbz := hb.size
        simp [Nat.add_one_le_iff] at hbz
        have hlt0 : w.heap.size < w1.heap.size := by omega
        go_wp2_with fail
        refine (within1 1 kk k (by go_simp)).mono ?_
        rintro e w2 ⟨he, rfl⟩; rw [HK.out] at he; subst he
        go_wp2_with fail
        refine (within1 0 ((F.length : Int) - 1) fr (by go_simp)).mono ?_
        rintro e w2 ⟨he, rfl⟩; rw [HQ.out] at he; subst he
        go_wp2_with fail
        go_ret3
        exact ⟨by rw [HL1.out, HL2.out, HE.out]; rfl, (by repeat (first | exact Below.refl _ _ | refine Below.drew ?_ | refine bpush ?_ _ | refine bput ?_ (by simp) _ | (refine bstep ?_ (by assumption))))⟩
      · have HE : Hid (lastErr m F k fr = 0) := by simp [Hid, lastErr, hc, hk, hq]
        have HL1 : Hid (lastOf Prod.fst m F k fr = ((lvOf Prod.fst m F (stdy F.length k fr)).length : Int) - fr) := by simp [Hid, lastOf, HE.out]
        have HL2 : Hid (lastOf Prod.snd m F k fr = ((lvOf Prod.snd m F (stdy F.length k fr)).length : Int) - fr) := by simp [Hid, lastOf, HE.out]
        obtain ⟨q1, q2⟩ := inB_iff.1 hq
        obtain ⟨k1, k2⟩ := inB_iff.1 hk
        have hk8 : m.k ≤ 8 := (vMill_iff.1 hm).1.2
        have hP : (stdy F.length k fr).all (inB 0 8) = true := by
          rw [List.all_eq_true]; intro x hx
          simp only [stdy, stdTo, List.mem_map] at hx
          obtain ⟨i, -, rfl⟩ := hx
          rw [inB_iff]; split <;> omega
        have hpl : (stdy F.length k fr).length = F.length := stdTo_len _ _ _ _
        have hLO := fun (w : World) (pa : Option Addr) (pn pc : Nat) (h1 : SliceOf encS 2 w (.slice fa F.length fc) F) (h2 : Ints w (.slice pa pn pc) (stdy F.length k fr)) => lowest_ctd hm hFv hP (by omega) (by omega) w h1 h2
        have hHI := fun (w : World) (pa : Option Addr) (pn pc : Nat) (h1 : SliceOf encS 2 w (.slice fa F.length fc) F) (h2 : Ints w (.slice pa pn pc) (stdy F.length k fr)) => highest_ctd hm hFv hP (by omega) (by omega) w h1 h2
        have hSt := fun (w : World) => steady_ints m fa F.length fc k fr w (by omega)
        have n1 : (lvOf Prod.fst m F (stdy F.length k fr)).length ≤ 24 := by have := lvOf_len Prod.fst m F (stdy F.length k fr); omega
        have n2 : (lvOf Prod.snd m F (stdy F.length k fr)).length ≤ 24 := by have := lvOf_len Prod.snd m F (stdy F.length k fr); omega
        generalize (lvOf Prod.fst m F (stdy F.length k fr)).length = N1 at *
        generalize (lvOf Prod.snd m F (stdy F.length k fr)).length = N2 at *
        have HLO := Lib.hid hLO; have HHI := Lib.hid hHI; have HST := Lib.hid hSt
        have HK := Lib.hid hk; have HQ := Lib.hid hq; have HPL := Lib.hid hpl
        clear hm hFv hV hc hk hq hLO hHI hSt hP hpl hk8
        obtain ⟨kk, t, bl, bh, h, nl, nh⟩ := m
        simp only [encMl, vcells] at *
        go_enter Try.func8, Try.ntmps8
        go_wp2_with fail
        refine (HO.out _ (HF.out.below (by repeat (first | exact Below.refl _ _ | refine Below.drew ?_ | refine bpush ?_ _ | refine bput ?_ (by simp) _ | (refine bstep ?_ (by assumption)))))).mono ?_
        rintro e w1 ⟨rfl, hb⟩
        obtain ⟨hbc, hbf⟩ := bcell hb
        have hbz := hb.size
        simp [Nat.add_one_le_iff] at hbz
        have hlt0 : w.heap.size < w1.heap.size := by omega
        go_wp2_with fail
        refine (within1 1 kk k (by go_simp)).mono ?_
        rintro e w2 ⟨he, rfl⟩; rw [HK.out] at he; subst he
        go_wp2_with fail
        refine (within1 0 ((F.length : Int) - 1) fr (by go_simp)).mono ?_
        rintro e w2 ⟨he, rfl⟩; rw [HQ.out] at he; subst he
        go_wp2_with fail
        refine (HST.out _).mono ?_
        rintro e w3 ⟨pa, rfl, hpi, hb3⟩
        have c0 : w3.cell? ⟨w1.heap.size, 0, none⟩ = some (iv kk) := kcell hb3 (by go_simp)
        have c1 : w3.cell? ⟨w1.heap.size, 1, none⟩ = some (iv t) := kcell hb3 (by go_simp)
        have c2 : w3.cell? ⟨w1.heap.size, 2, none⟩ = some (iv bl) := kcell hb3 (by go_simp)
        have c3 : w3.cell? ⟨w1.heap.size, 3, none⟩ = some (iv bh) := kcell hb3 (by go_simp)
        have c4 : w3.cell? ⟨w1.heap.size, 4, none⟩ = some (iv h) := kcell hb3 (by go_simp)
        have c5 : w3.cell? ⟨w1.heap.size, 5, none⟩ = some (iv nl) := kcell hb3 (by go_simp)
        have c6 : w3.cell? ⟨w1.heap.size, 6, none⟩ = some (iv nh) := kcell hb3 (by go_simp)
        have c7 : w3.cell? ⟨w1.heap.size, 7, none⟩ = some (.slice fa F.length fc) := kcell hb3 (by go_simp)
        have hB3 : Below w.heap.size w w3 := bstep (by repeat (first | exact Below.refl _ _ | refine Below.drew ?_ | refine bpush ?_ _ | refine bput ?_ (by simp) _ | (refine bstep ?_ (by assumption)))) hb3
        have hF3 : SliceOf encS 2 w3 (.slice fa F.length fc) F := HF.out.below hB3
        clear hb hb3 hbc hbf
        have e1 : IntKind.i64.wrap ((N1 : Int) - fr) = (N1 : Int) - fr := IntWalk.i64_in _ ⟨by omega, by omega⟩
        have e2 : IntKind.i64.wrap ((N2 : Int) - fr) = (N2 : Int) - fr := IntWalk.i64_in _ ⟨by omega, by omega⟩
        go_wp2_with fail
        go_region_held3 (fun w' => w'.cell? ⟨w1.heap.size, 0, none⟩ = some (iv kk) ∧ w'.cell? ⟨w1.heap.size, 1, none⟩ = some (iv t) ∧ w'.cell? ⟨w1.heap.size, 2, none⟩ = some (iv bl) ∧ w'.cell? ⟨w1.heap.size, 3, none⟩ = some (iv bh) ∧ w'.cell? ⟨w1.heap.size, 4, none⟩ = some (iv h) ∧ w'.cell? ⟨w1.heap.size, 5, none⟩ = some (iv nl) ∧ w'.cell? ⟨w1.heap.size, 6, none⟩ = some (iv nh) ∧ w'.cell? ⟨w1.heap.size, 7, none⟩ = some (.slice fa F.length fc) ∧ SliceOf encS 2 w' (.slice fa F.length fc) F ∧ Ints w' (.slice pa F.length F.length) (stdy F.length k fr) ∧ Below w.heap.size w w')
          (first | (go_split_ands; refine ⟨?_, ?_, ?_, ?_, ?_, ?_, ?_, ?_, ?_, ?_, ?_⟩ <;> first | exact kcell hbC (by assumption) | exact SliceOf.below (by assumption) hbC | exact bstep (by assumption) hbC | exact kcell hbI (by assumption) | exact SliceOf.below (by assumption) hbI | exact bstep (by assumption) hbI | exact kcell hbL (by assumption) | exact SliceOf.below (by assumption) hbL | exact bstep (by assumption) hbL) | (refine ⟨?_, ?_, ?_, ?_, ?_, ?_, ?_, ?_, ?_, ?_, ?_⟩ <;> first | go_keep | exact SliceOf.below (by assumption) ((Below.refl _ _).drew) | exact Below.drew (by assumption)))
          (first | ((with_reducible refine (HcH.out).mono ?_); rintro e wc ⟨rfl, hbC⟩) | ((with_reducible refine (HcL.out).mono ?_); rintro e wc ⟨rfl, hbC⟩) | (go_split_ands; (with_reducible refine (HLO.out _ _ _ _ (by assumption) (by assumption)).mono ?_); rintro e wl ⟨le, lv, lp, rfl, hcL, hbL⟩; unfold Counts at hcL; have HcL := Lib.hid hcL; clear hcL) | (go_split_ands; (with_reducible refine (HHI.out _ _ _ _ (by assumption) (by assumption)).mono ?_); rintro e wh ⟨he, hv, hp, rfl, hcH, hbI⟩; unfold Counts at hcH; have HcH := Lib.hid hcH; clear hcH))
        rename_i hHeld
        obtain ⟨-, -, -, -, -, -, -, -, -, -, hBB⟩ := hHeld
        clear hbC hbI hbL e1 e2 c0 c1 c2 c3 c4 c5 c6 c7
        go_wp2_with fail
        go_ret3
        exact ⟨by rw [HL1.out, HL2.out, HE.out]; rfl, hBB⟩
  · have HE : Hid (lastErr m F k fr = sChk m F) := by simp [Hid, lastErr, hc]
    have HL1 : Hid (lastOf Prod.fst m F k fr = 0) := by simp [Hid, lastOf, HE.out, hc]
    have HL2 : Hid (lastOf Prod.snd m F k fr = 0) := by simp [Hid, lastOf, HE.out, hc]
    have e1 : (sChk m F != 0) = true := by simpa using hc
    have hV : openV m F (.slice fa F.length fc) = zv := openV_bad _ hc
    rw [hV] at HO
    clear hc hV
    generalize sChk m F = ck at *
    obtain ⟨kk, t, bl, bh, h, nl, nh⟩ := m
    simp only [encMl, zv] at *
    go_enter Try.func8, Try.ntmps8
    go_wp2_with fail
    refine (HO.out _ (HF.out.below (by repeat (first | exact Below.refl _ _ | refine Below.drew ?_ | refine bpush ?_ _ | refine bput ?_ (by simp) _ | (refine bstep ?_ (by assumption)))))).mono ?_
    rintro e w1 ⟨rfl, hb⟩
    go_wp2_with fail
    go_ret3
    exact ⟨by rw [HL1.out, HL2.out, HE.out]; rfl, (by repeat (first | exact Below.refl _ _ | refine Below.drew ?_ | refine bpush ?_ _ | refine bput ?_ (by simp) _ | (refine bstep ?_ (by assumption))))⟩
end Go.Proofs.Ytompkdhhhlgbdaa
