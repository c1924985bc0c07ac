import Derived.Test.YtkialkfplhhenaaMb
import Derived.Test.YtkialkfplhhenaaMd
import Derived.Carry
import Derived.Deep.DeepCutAuto
/- The checks of package tenter. -/
namespace Go.Proofs.Ytkialkfplhhenaa
open Go Go.RowKit

/-- A cloth to be hung: how long it is, and how much water it has. -/
abbrev Tn := Sp × Sp
def encN (c : Tn) : List Value := [iv c.1.1, iv c.1.2, iv c.2.1, iv c.2.2]
def vTn (c : Tn) : Bool := okSpan c.1.1 c.1.2 1 2000 && okSpan c.2.1 c.2.2 0 500

set_option maxHeartbeats 800000 in
theorem validTn_any (c : Tn) (w : World) :
    Calls Try.prog 59 #[.agg (encN c).toArray] w fun e w' => e = .returned (.bool (vTn c)) ∧ Below w.heap.size w w' := by
  obtain ⟨⟨a, b⟩, c, d⟩ := c
  simp only [encN]
  cases h1 : okSpan a b 1 2000
  · have H1 := Lib.hid h1
    have HV : Hid (vTn ((a, b), (c, d)) = false) := by simp [Hid, vTn, h1]
    clear h1
    go_enter Try.func59, Try.ntmps59
    go_wp2_with fail
    refine (okSpan_any a b 1 2000 _).mono ?_
    rintro e w' ⟨he, hb⟩; rw [H1.out] at he; subst he
    go_wp2_with fail
    go_ret
    exact ⟨by rw [HV.out]; rfl, (by repeat (first | exact Below.refl _ _ | refine Below.drew ?_ | refine bpush ?_ _ | refine bput ?_ (by simp) _ | (refine bstep ?_ (by assumption))))⟩
  · have H1 := Lib.hid h1
    have HV : Hid (vTn ((a, b), (c, d)) = okSpan c d 0 500) := by simp [Hid, vTn, h1]
    clear h1
    go_enter Try.func59, Try.ntmps59
    go_wp2_with fail
    refine (okSpan_any a b 1 2000 _).mono ?_
    rintro e w1 ⟨he, hb⟩; rw [H1.out] at he; subst he
    obtain ⟨hbc, hbf⟩ := bcell hb
    have hbz := hb.size
    simp [Nat.add_one_le_iff] at hbz
    go_wp2_with fail
    refine (okSpan_any c d 0 500 _).mono ?_
    rintro e w2 ⟨rfl, hb2⟩
    go_wp2_with fail
    go_ret
    exact ⟨by rw [HV.out]; rfl, (by repeat (first | exact Below.refl _ _ | refine Below.drew ?_ | refine bpush ?_ _ | refine bput ?_ (by simp) _ | (refine bstep ?_ (by assumption))))⟩

set_option maxHeartbeats 1600000 in
theorem allN_any (xs : List Tn) (v : Value) (w : World) (hs : SliceOf encN 4 w v xs) :
    Calls Try.prog 58 #[.func (.func 59) #[] #[], v] w fun e w' => e = .returned (.bool (xs.all vTn)) ∧ Below w.heap.size w w' := by
  obtain ⟨a, cap, rfl, hm, hc⟩ := hs
  go_enter Try.func58, Try.ntmps58
  go_wp2
  go_loopw [9, 6] (fun i _ wr => ∃ k : Nat, k ≤ xs.length ∧ i = iv k ∧ (xs.take k).all vTn = true ∧ Below w.heap.size w wr) (fun i _ _ => xs.length - (intOf i).toNat)
  case atStart => exact ⟨0, Nat.zero_le _, rfl, by simp, Below.refl _ _⟩
  case round =>
    obtain ⟨k, hk, rfl, hall, hbw⟩ := hrel
    have HA := Lib.hid hall; clear hall
    by_cases hlt : k < xs.length
    · obtain ⟨x, hx⟩ := getElem?_of_lt hlt
      obtain ⟨b, off, rfl, hj⟩ := hc k x hx
      have hcell : ∀ j u, (encN x)[j]? = some u → wr.cell? ⟨b, off + k * 4 + j, none⟩ = some u := fun j u hu => (hbw.cell (p := ⟨b, _, none⟩) (lt_of_cell (hj j u hu))).trans (hj j u hu)
      have HX := Lib.hid hx; clear hx hj hc
      have c0 := hcell 0 _ rfl
      have c1 := hcell 1 _ rfl
      have c2 := hcell 2 _ rfl
      have c3 := hcell 3 _ rfl
      simp only [Nat.add_zero] at c0
      clear hcell
      cases hp : vTn x
      · have HP := Lib.hid hp; clear hp
        go_wp2_with fail
        refine (validTn_any x _).mono ?_
        rintro e w1 ⟨he, hb⟩
        rw [HP.out] at he; subst he
        go_wp2_with fail
        go_ret
        exact ⟨by rw [all_false_of _ HX.out HP.out]; rfl, bstep (bpush hbw _) hb⟩
      · have HP := Lib.hid hp; clear hp
        go_wp2_with fail
        refine (validTn_any x _).mono ?_
        rintro e w1 ⟨he, hb⟩
        rw [HP.out] at he; subst he
        go_wp2_with fail
        go_roundw
        case rel => exact ⟨k + 1, by omega, by go_num, all_take_succ _ HX.out HA.out HP.out, bstep (bpush hbw _) hb⟩
        case measure => simp [intOf]; omega
    · obtain rfl : k = xs.length := by omega
      have HT : Hid (xs.all vTn = true) := by have := HA.out; rwa [List.take_of_length_le (Nat.le_refl _)] at this
      clear hc
      go_wp2
      go_ret
      exact ⟨by rw [HT.out]; rfl, hbw⟩

def vWth (p : Sp) : Bool := okSpan p.1 p.2 0 100
set_option maxHeartbeats 800000 in
theorem validWth_any (p : Sp) (w : World) :
    Calls Try.prog 36 #[.agg (encS p).toArray] w fun e w' => e = .returned (.bool (vWth p)) ∧ Below w.heap.size w w' := by
  obtain ⟨l, h⟩ := p
  simp only [encS]
  go_enter Try.func36, Try.ntmps36
  go_wp2_with fail
  refine (okSpan_any l h 0 100 _).mono ?_
  rintro e w' ⟨rfl, hb⟩
  go_wp2_with fail
  go_ret
  exact ⟨rfl, (by repeat (first | exact Below.refl _ _ | refine Below.drew ?_ | refine bpush ?_ _ | refine bput ?_ (by simp) _ | (refine bstep ?_ (by assumption))))⟩

set_option maxHeartbeats 1600000 in
theorem allW_any (xs : List Sp) (v : Value) (w : World) (hs : SliceOf encS 2 w v xs) :
    Calls Try.prog 35 #[.func (.func 36) #[] #[], v] w fun e w' => e = .returned (.bool (xs.all vWth)) ∧ Below w.heap.size w w' := by
  obtain ⟨a, cap, rfl, hm, hc⟩ := hs
  go_enter Try.func35, Try.ntmps35
  go_wp2
  go_loopw [9, 6] (fun i _ wr => ∃ k : Nat, k ≤ xs.length ∧ i = iv k ∧ (xs.take k).all vWth = true ∧ Below w.heap.size w wr) (fun i _ _ => xs.length - (intOf i).toNat)
  case atStart => exact ⟨0, Nat.zero_le _, rfl, by simp, Below.refl _ _⟩
  case round =>
    obtain ⟨k, hk, rfl, hall, hbw⟩ := hrel
    have HA := Lib.hid hall; clear hall
    by_cases hlt : k < xs.length
    · obtain ⟨x, hx⟩ := getElem?_of_lt hlt
      obtain ⟨b, off, rfl, hj⟩ := hc k x hx
      have hcell : ∀ j u, (encS x)[j]? = some u → wr.cell? ⟨b, off + k * 2 + j, none⟩ = some u := fun j u hu => (hbw.cell (p := ⟨b, _, none⟩) (lt_of_cell (hj j u hu))).trans (hj j u hu)
      have HX := Lib.hid hx; clear hx hj hc
      have c0 := hcell 0 _ rfl
      have c1 := hcell 1 _ rfl
      simp only [Nat.add_zero] at c0
      clear hcell
      cases hp : vWth x
      · have HP := Lib.hid hp; clear hp
        go_wp2_with fail
        refine (validWth_any x _).mono ?_
        rintro e w1 ⟨he, hb⟩
        rw [HP.out] at he; subst he
        go_wp2_with fail
        go_ret
        exact ⟨by rw [all_false_of _ HX.out HP.out]; rfl, bstep (bpush hbw _) hb⟩
      · have HP := Lib.hid hp; clear hp
        go_wp2_with fail
        refine (validWth_any x _).mono ?_
        rintro e w1 ⟨he, hb⟩
        rw [HP.out] at he; subst he
        go_wp2_with fail
        go_roundw
        case rel => exact ⟨k + 1, by omega, by go_num, all_take_succ _ HX.out HA.out HP.out, bstep (bpush hbw _) hb⟩
        case measure => simp [intOf]; omega
    · obtain rfl : k = xs.length := by omega
      have HT : Hid (xs.all vWth = true) := by have := HA.out; rwa [List.take_of_length_le (Nat.le_refl _)] at this
      clear hc
      go_wp2
      go_ret
      exact ⟨by rw [HT.out]; rfl, hbw⟩

/-- A field: its cloths, its tenters, its gap and what the statute permits. -/
structure Fd where
  (C : List Tn) (R : List Int) (gap str : Int)
def fcells (cv rv : Value) (gap str : Int) : Array Value := #[cv, rv, iv gap, iv str]
def vFd (f : Fd) : Bool := f.C.all vTn && (f.R.all (inB 1 2000) && (inB 0 50 f.gap && inB 0 200 f.str))

set_option maxRecDepth 20000 in
set_option maxHeartbeats 1600000 in
theorem validField_any (C : List Tn) (R : List Int) (gap str : Int) (ca ra : Option Addr) (cc rc : Nat) (w : World) (hc : SliceOf encN 4 w (.slice ca C.length cc) C) (hr : Ints w (.slice ra R.length rc) R) :
    Calls Try.prog 48 #[.agg #[.slice ca C.length cc, .slice ra R.length rc, iv gap, iv str]] w fun e w' => e = .returned (.bool (vFd ⟨C, R, gap, str⟩)) ∧ Below w.heap.size w w' := by
  have hc := Lib.hid hc; have hr := Lib.hid hr
  cases h1 : C.all vTn
  · have HV : Hid (vFd ⟨C, R, gap, str⟩ = false) := by simp [Hid, vFd, h1]
    have H1 := Lib.hid h1; clear h1
    go_enter Try.func48, Try.ntmps48
    go_wp2_with fail
    refine (allN_any C _ _ (SliceOf.below hc.out (by repeat (first | exact Below.refl _ _ | refine Below.drew ?_ | refine bpush ?_ _ | refine bput ?_ (by simp) _ | (refine bstep ?_ (by assumption)))))).mono ?_
    rintro e w1 ⟨he, hb1⟩; rw [H1.out] at he; subst he
    obtain ⟨hb1c, hb1f⟩ := bcell hb1
    have hb1z := hb1.size
    simp [Nat.add_one_le_iff] at hb1z
    
    go_wp2_with fail
    go_ret
    exact ⟨by rw [HV.out]; rfl, (by repeat (first | exact Below.refl _ _ | refine Below.drew ?_ | refine bpush ?_ _ | refine bput ?_ (by simp) _ | (refine bstep ?_ (by assumption))))⟩
  cases h2 : R.all (inB 1 2000)
  · have HV : Hid (vFd ⟨C, R, gap, str⟩ = false) := by simp only [Hid, vFd, h1, h2]; rfl
    have H1 := Lib.hid h1; have H2 := Lib.hid h2; clear h1 h2
    go_enter Try.func48, Try.ntmps48
    go_wp2_with fail
    refine (allN_any C _ _ (SliceOf.below hc.out (by repeat (first | exact Below.refl _ _ | refine Below.drew ?_ | refine bpush ?_ _ | refine bput ?_ (by simp) _ | (refine bstep ?_ (by assumption)))))).mono ?_
    rintro e w1 ⟨he, hb1⟩; rw [H1.out] at he; subst he
    obtain ⟨hb1c, hb1f⟩ := bcell hb1
    have hb1z := hb1.size
    simp [Nat.add_one_le_iff] at hb1z
    go_wp2_with fail
    refine (within_any 1 2000 R _ _ (SliceOf.below hr.out (by repeat (first | exact Below.refl _ _ | refine Below.drew ?_ | refine bpush ?_ _ | refine bput ?_ (by simp) _ | (refine bstep ?_ (by assumption)))))).mono ?_
    rintro e w2 ⟨he, rfl⟩; rw [H2.out] at he; subst he
    go_wp2_with fail
    go_ret
    exact ⟨by rw [HV.out]; rfl, (by repeat (first | exact Below.refl _ _ | refine Below.drew ?_ | refine bpush ?_ _ | refine bput ?_ (by simp) _ | (refine bstep ?_ (by assumption))))⟩
  cases h3 : inB 0 50 gap
  · have HV : Hid (vFd ⟨C, R, gap, str⟩ = false) := by simp only [Hid, vFd, h1, h2, h3]; rfl
    have H1 := Lib.hid h1; have H2 := Lib.hid h2; have H3 := Lib.hid h3; clear h1 h2 h3
    go_enter Try.func48, Try.ntmps48
    go_wp2_with fail
    refine (allN_any C _ _ (SliceOf.below hc.out (by repeat (first | exact Below.refl _ _ | refine Below.drew ?_ | refine bpush ?_ _ | refine bput ?_ (by simp) _ | (refine bstep ?_ (by assumption)))))).mono ?_
    rintro e w1 ⟨he, hb1⟩; rw [H1.out] at he; subst he
    obtain ⟨hb1c, hb1f⟩ := bcell hb1
    have hb1z := hb1.size
    simp [Nat.add_one_le_iff] at hb1z
    go_wp2_with fail
    refine (within_any 1 2000 R _ _ (SliceOf.below hr.out (by repeat (first | exact Below.refl _ _ | refine Below.drew ?_ | refine bpush ?_ _ | refine bput ?_ (by simp) _ | (refine bstep ?_ (by assumption)))))).mono ?_
    rintro e w2 ⟨he, rfl⟩; rw [H2.out] at he; subst he
    go_wp2_with fail
    refine (within1 0 50 gap (by go_simp)).mono ?_
    rintro e w3 ⟨he, rfl⟩; rw [H3.out] at he; subst he
    go_wp2_with fail
    go_ret
    exact ⟨by rw [HV.out]; rfl, (by repeat (first | exact Below.refl _ _ | refine Below.drew ?_ | refine bpush ?_ _ | refine bput ?_ (by simp) _ | (refine bstep ?_ (by assumption))))⟩
  · have HV : Hid (vFd ⟨C, R, gap, str⟩ = inB 0 200 str) := by simp only [Hid, vFd, h1, h2, h3]; rfl
    have H1 := Lib.hid h1; have H2 := Lib.hid h2; have H3 := Lib.hid h3; clear h1 h2 h3
    go_enter Try.func48, Try.ntmps48
    go_wp2_with fail
    refine (allN_any C _ _ (SliceOf.below hc.out (by repeat (first | exact Below.refl _ _ | refine Below.drew ?_ | refine bpush ?_ _ | refine bput ?_ (by simp) _ | (refine bstep ?_ (by assumption)))))).mono ?_
    rintro e w1 ⟨he, hb1⟩; rw [H1.out] at he; subst he
    obtain ⟨hb1c, hb1f⟩ := bcell hb1
    have hb1z := hb1.size
    simp [Nat.add_one_le_iff] at hb1z
    go_wp2_with fail
    refine (within_any 1 2000 R _ _ (SliceOf.below hr.out (by repeat (first | exact Below.refl _ _ | refine Below.drew ?_ | refine bpush ?_ _ | refine bput ?_ (by simp) _ | (refine bstep ?_ (by assumption)))))).mono ?_
    rintro e w2 ⟨he, rfl⟩; rw [H2.out] at he; subst he
    go_wp2_with fail
    refine (within1 0 50 gap (by go_simp)).mono ?_
    rintro e w3 ⟨he, rfl⟩; rw [H3.out] at he; subst he
    go_wp2_with fail
    refine (within1 0 200 str (by go_simp)).mono ?_
    rintro e w4 ⟨rfl, rfl⟩
    go_wp2_with fail
    go_ret
    exact ⟨by rw [HV.out]; rfl, (by repeat (first | exact Below.refl _ _ | refine Below.drew ?_ | refine bpush ?_ _ | refine bput ?_ (by simp) _ | (refine bstep ?_ (by assumption))))⟩

def fdChk (f : Fd) : Int := if 7 < f.C.length then 5 else if inB 1 3 f.R.length = true then (if vFd f = true then 0 else 2) else 4
theorem fdChk_zero {f : Fd} (h : fdChk f = 0) : f.C.length ≤ 7 ∧ inB 1 3 f.R.length = true ∧ vFd f = true := by
  unfold fdChk at h
  split at h
  · omega
  · split at h
    · split at h
      · exact ⟨by omega, by assumption, by assumption⟩
      · omega
    · omega
set_option maxRecDepth 20000 in
set_option maxHeartbeats 1600000 in
theorem fdCheck_any (C : List Tn) (R : List Int) (gap str : Int) (ca ra : Option Addr) (cc rc : Nat) (w : World) (hc : SliceOf encN 4 w (.slice ca C.length cc) C) (hr : Ints w (.slice ra R.length rc) R) :
    Calls Try.prog 33 #[.agg #[.slice ca C.length cc, .slice ra R.length rc, iv gap, iv str]] w fun e w' => e = .returned (iv (fdChk ⟨C, R, gap, str⟩)) ∧ Below w.heap.size w w' := by
  have hc := Lib.hid hc; have hr := Lib.hid hr
  by_cases h1 : 7 < C.length
  · have HV : Hid (fdChk ⟨C, R, gap, str⟩ = 5) := by simp [Hid, fdChk, h1]
    go_enter Try.func33, Try.ntmps33
    go_wp2_with fail
    go_ret
    exact ⟨by rw [HV.out]; rfl, (by repeat (first | exact Below.refl _ _ | refine Below.drew ?_ | refine bpush ?_ _ | refine bput ?_ (by simp) _ | (refine bstep ?_ (by assumption))))⟩
  cases h2 : inB 1 3 (R.length : Int)
  · have HV : Hid (fdChk ⟨C, R, gap, str⟩ = 4) := by simp [Hid, fdChk, h1, h2]
    have H2 := Lib.hid h2; clear h2
    go_enter Try.func33, Try.ntmps33
    go_wp2_with fail
    refine (within1 1 3 (R.length : Int) (by go_simp)).mono ?_
    rintro e w3 ⟨he, rfl⟩; rw [H2.out] at he; subst he
    go_wp2_with fail
    go_ret
    exact ⟨by rw [HV.out]; rfl, (by repeat (first | exact Below.refl _ _ | refine Below.drew ?_ | refine bpush ?_ _ | refine bput ?_ (by simp) _ | (refine bstep ?_ (by assumption))))⟩
  cases h3 : vFd ⟨C, R, gap, str⟩
  · have HV : Hid (fdChk ⟨C, R, gap, str⟩ = 2) := by simp [Hid, fdChk, h1, h2, h3]
    have H2 := Lib.hid h2; have H3 := Lib.hid h3; clear h2 h3
    go_enter Try.func33, Try.ntmps33
    go_wp2_with fail
    refine (within1 1 3 (R.length : Int) (by go_simp)).mono ?_
    rintro e w3 ⟨he, rfl⟩; rw [H2.out] at he; subst he
    go_wp2_with fail
    refine (validField_any C R gap str ca ra cc rc _ (SliceOf.below hc.out (by repeat (first | exact Below.refl _ _ | refine Below.drew ?_ | refine bpush ?_ _ | refine bput ?_ (by simp) _ | (refine bstep ?_ (by assumption))))) (SliceOf.below hr.out (by repeat (first | exact Below.refl _ _ | refine Below.drew ?_ | refine bpush ?_ _ | refine bput ?_ (by simp) _ | (refine bstep ?_ (by assumption)))))).mono ?_
    rintro e w4 ⟨he, hb4⟩; rw [H3.out] at he; subst he
    go_wp2_with fail
    go_ret
    exact ⟨by rw [HV.out]; rfl, (by repeat (first | exact Below.refl _ _ | refine Below.drew ?_ | refine bpush ?_ _ | refine bput ?_ (by simp) _ | (refine bstep ?_ (by assumption))))⟩
  · have HV : Hid (fdChk ⟨C, R, gap, str⟩ = 0) := by simp [Hid, fdChk, h1, h2, h3]
    have H2 := Lib.hid h2; have H3 := Lib.hid h3; clear h2 h3
    go_enter Try.func33, Try.ntmps33
    go_wp2_with fail
    refine (within1 1 3 (R.length : Int) (by go_simp)).mono ?_
    rintro e w3 ⟨he, rfl⟩; rw [H2.out] at he; subst he
    go_wp2_with fail
    refine (validField_any C R gap str ca ra cc rc _ (SliceOf.below hc.out (by repeat (first | exact Below.refl _ _ | refine Below.drew ?_ | refine bpush ?_ _ | refine bput ?_ (by simp) _ | (refine bstep ?_ (by assumption))))) (SliceOf.below hr.out (by repeat (first | exact Below.refl _ _ | refine Below.drew ?_ | refine bpush ?_ _ | refine bput ?_ (by simp) _ | (refine bstep ?_ (by assumption)))))).mono ?_
    rintro e w4 ⟨he, hb4⟩; rw [H3.out] at he; subst he
    go_wp2_with fail
    go_ret
    exact ⟨by rw [HV.out]; rfl, (by repeat (first | exact Below.refl _ _ | refine Below.drew ?_ | refine bpush ?_ _ | refine bput ?_ (by simp) _ | (refine bstep ?_ (by assumption))))⟩
end Go.Proofs.Ytkialkfplhhenaa

/- When a cloth is dry. -/
namespace Go.Proofs.Ytkialkfplhhenaa
open Go Go.RowKit Go.Shelf
attribute [local go_sem ↓] Go.wp_at_zero Go.wp_at_succ

/-- At which hour something with so much water is dry, that hangs from an hour on, after which the hours dry so much. -/
def dryL : List Int → Int → Nat → Nat
  | [], wt, h => if 0 < wt then h + 1 else h
  | x :: xs, wt, h => if 0 < wt then dryL xs (wt - x) (h + 1) else h
theorem dryL_done {wt : Int} (h : ¬ 0 < wt) (l : List Int) (n : Nat) : dryL l wt n = n := by cases l <;> simp [dryL, h]
theorem dryL_step {S : List Sp} {side : Sp → Int} {wt : Int} {k : Nat} {p : Sp} (h0 : 0 < wt) (hp : S[k]? = some p) : dryL ((S.map side).drop k) wt k = dryL ((S.map side).drop (k + 1)) (wt - side p) (k + 1) := by
  have hk := (List.getElem?_eq_some_iff.1 hp).1
  have : (S.map side).drop k = side p :: (S.map side).drop (k + 1) := by
    rw [List.drop_eq_getElem_cons (by simpa using hk)]
    congr 1
    have := (List.getElem?_eq_some_iff.1 hp).2
    simp [this]
  rw [this, dryL, if_pos h0]
theorem dryL_end {S : List Sp} {side : Sp → Int} {wt : Int} (h0 : 0 < wt) : dryL ((S.map side).drop S.length) wt S.length = S.length + 1 := by
  rw [List.drop_of_length_le (by simp), dryL, if_pos h0]
theorem dryL_le {S : List Sp} {side : Sp → Int} : ∀ (d k : Nat) (wt : Int), k + d = S.length → dryL ((S.map side).drop k) wt k ≤ S.length + 1 ∧ k ≤ dryL ((S.map side).drop k) wt k := by
  intro d
  induction d with
  | zero =>
    intro k wt hk
    obtain rfl : k = S.length := by omega
    by_cases h : 0 < wt
    · rw [dryL_end h]; omega
    · rw [dryL_done h]; omega
  | succ d ih =>
    intro k wt hk
    by_cases h : 0 < wt
    · obtain ⟨p, hp⟩ := getElem?_of_lt (show k < S.length by omega)
      rw [dryL_step h hp]
      have := ih (k + 1) (wt - side p) (by omega)
      omega
    · rw [dryL_done h]; omega

set_option maxHeartbeats 400000 in
theorem earlier_any (p : Sp) (w : World) : Calls Try.prog 38 #[.agg #[iv p.1, iv p.2]] w fun e w' => e = .returned (iv p.2) ∧ Below w.heap.size w w' := by
  obtain ⟨l, h⟩ := p
  go_enter Try.func38, Try.ntmps38
  go_wp2_with fail
  go_ret
  exact ⟨rfl, (by repeat (first | exact Below.refl _ _ | refine Below.drew ?_ | refine bpush ?_ _ | refine bput ?_ (by simp) _ | (refine bstep ?_ (by assumption))))⟩
set_option maxHeartbeats 400000 in
theorem later_any (p : Sp) (w : World) : Calls Try.prog 39 #[.agg #[iv p.1, iv p.2]] w fun e w' => e = .returned (iv p.1) ∧ Below w.heap.size w w' := by
  obtain ⟨l, h⟩ := p
  go_enter Try.func39, Try.ntmps39
  go_wp2_with fail
  go_ret
  exact ⟨rfl, (by repeat (first | exact Below.refl _ _ | refine Below.drew ?_ | refine bpush ?_ _ | refine bput ?_ (by simp) _ | (refine bstep ?_ (by assumption))))⟩

theorem bblkG {W W1 : World} {k : Nat} {o : Obj} (hb : Below W.heap.size W W1) (h : W.heap[k]? = some o) : W1.heap[k]? = some o := (hb.block k (Array.getElem?_eq_some_iff.1 h).1).trans h
theorem sl_rowG {α : Type} {enc : α → List Value} {sz : Nat} {w : World} {a : Option Addr} {n c k : Nat} {L : List α} {p : α} (h : SliceOf enc sz w (.slice a n c) L) (hk : L[k]? = some p) :
    ∃ b off, a = some ⟨b, off, none⟩ ∧ ∀ j u, (enc p)[j]? = some u → w.cell? ⟨b, off + k * sz + j, none⟩ = some u := by
  obtain ⟨a', c', hv, _, hc⟩ := h
  simp only [Value.slice.injEq] at hv
  obtain ⟨rfl, rfl, rfl⟩ := hv
  exact hc k p hk

set_option maxRecDepth 20000 in
set_option maxHeartbeats 3200000 in
theorem dryE_any (ca ra wa : Option Addr) (cn cc rn rc wc : Nat) (gap str wt0 : Int) (fr : Nat) (S : List Sp) (w : World) (hs : SliceOf encS 2 w (.slice wa S.length wc) S) (hv : S.all vWth = true) (hl : S.length ≤ 24) (hfr : fr ≤ S.length) (hw0 : 0 ≤ wt0 ∧ wt0 ≤ 500) :
    Calls Try.prog 37 #[.agg #[.slice ca cn cc, .slice ra rn rc, iv gap, iv str, .slice wa S.length wc], iv wt0, iv fr, .func (.func 38) #[] #[]] w fun e w' => e = .returned (iv (dryL ((S.map Prod.snd).drop fr) wt0 fr)) ∧ Below w.heap.size w w' := by
  obtain ⟨Wb, hWb⟩ : ∃ W : World, w.alloc (.cells #[.slice ca cn cc, .slice ra rn rc, iv gap, iv str, .slice wa S.length wc] 70) = W := ⟨_, rfl⟩
  have hBb : Below w.heap.size w Wb := by rw [← hWb]; exact bpush (Below.refl _ _) _
  have hRb : Wb.heap[w.heap.size]? = some (.cells #[.slice ca cn cc, .slice ra rn rc, iv gap, iv str, .slice wa S.length wc] 70 (0, 0)) := by rw [← hWb]; exact heap_new _ _ _
  have HB := Lib.hid hBb; have HR := Lib.hid hRb; have HW := Lib.hid hWb
  have HS := Lib.hid (hs.below hBb)
  have HV := Lib.hid hv
  clear hBb hRb hWb hs hv
  go_enter Try.func37, Try.ntmps37
  go_wp2_with fail
  rw [HW.out]
  go_loopw [1, 9] (fun wv i wr => ∃ (h : Nat) (wt : Int), h ≤ S.length ∧ i = iv h ∧ wv = iv wt ∧ -100 ≤ wt ∧ wt ≤ 500 ∧ Hid (dryL ((S.map Prod.snd).drop h) wt h = dryL ((S.map Prod.snd).drop fr) wt0 fr) ∧ Hid (Below Wb.heap.size Wb wr)) (fun _ i _ => S.length - (intOf i).toNat)
  case atStart => exact ⟨fr, wt0, hfr, rfl, rfl, by omega, by omega, rfl, Below.refl _ _⟩
  case round =>
    obtain ⟨h, wt, hh, rfl, rfl, hl0, hl1, HE, HBw⟩ := hrel
    have hrr := bblkG HBw.out HR.out
    have c4 : wr.cell? ⟨w.heap.size, 4, none⟩ = some (.slice wa S.length wc) := by rw [cell_of_row _ _ _ _ _ _ hrr]; rfl
    clear hrr
    by_cases hpos : 0 < wt
    · by_cases hlt : h < S.length
      · obtain ⟨p, hp⟩ := getElem?_of_lt hlt
        have hpv := List.all_eq_true.1 HV.out p (List.mem_of_getElem? hp)
        obtain ⟨p1, p2, p3, p4, p5⟩ := okSpan_iff.1 hpv
        have HP := Lib.hid (dryL_step (side := Prod.snd) hpos hp)
        obtain ⟨b, off, rfl, hj⟩ := sl_rowG (HS.out.below HBw.out) hp
        have x0 : wr.cell? ⟨b, off + h * 2, none⟩ = some (iv p.1) := hj 0 _ rfl
        have x1 : wr.cell? ⟨b, off + h * 2 + 1, none⟩ = some (iv p.2) := hj 1 _ rfl
        have hwr : IntKind.i64.wrap (wt - Prod.snd p) = wt - Prod.snd p := IntWalk.i64_in _ ⟨by omega, by omega⟩
        clear hj hp hpv
        go_wp2_with fail
        refine (earlier_any p _).mono ?_
        rintro e w1 ⟨rfl, hb1⟩
        have HB1 := Lib.hid (bstep HBw.out hb1)
        clear hb1
        go_wp2_with fail
        go_roundw
        case rel => exact ⟨h + 1, wt - Prod.snd p, by omega, by go_num, rfl, by omega, by omega, HP.out.symm.trans HE.out, HB1.out⟩
        case measure => simp [intOf]; omega
      · obtain rfl : h = S.length := by omega
        have HF := Lib.hid ((dryL_end (side := Prod.snd) (S := S) hpos).symm.trans HE.out)
        go_wp2_with fail
        go_ret
        exact ⟨by rw [← HF.out]; go_num, bstep HB.out HBw.out⟩
    · have HF := Lib.hid ((dryL_done hpos _ _).symm.trans HE.out)
      go_wp2_with fail
      go_ret
      exact ⟨by rw [← HF.out]; rfl, bstep HB.out HBw.out⟩

set_option maxRecDepth 20000 in
set_option maxHeartbeats 3200000 in
theorem dryL_any (ca ra wa : Option Addr) (cn cc rn rc wc : Nat) (gap str wt0 : Int) (fr : Nat) (S : List Sp) (w : World) (hs : SliceOf encS 2 w (.slice wa S.length wc) S) (hv : S.all vWth = true) (hl : S.length ≤ 24) (hfr : fr ≤ S.length) (hw0 : 0 ≤ wt0 ∧ wt0 ≤ 500) :
    Calls Try.prog 37 #[.agg #[.slice ca cn cc, .slice ra rn rc, iv gap, iv str, .slice wa S.length wc], iv wt0, iv fr, .func (.func 39) #[] #[]] w fun e w' => e = .returned (iv (dryL ((S.map Prod.fst).drop fr) wt0 fr)) ∧ Below w.heap.size w w' := by
  obtain ⟨Wb, hWb⟩ : ∃ W : World, w.alloc (.cells #[.slice ca cn cc, .slice ra rn rc, iv gap, iv str, .slice wa S.length wc] 70) = W := ⟨_, rfl⟩
  have hBb : Below w.heap.size w Wb := by rw [← hWb]; exact bpush (Below.refl _ _) _
  have hRb : Wb.heap[w.heap.size]? = some (.cells #[.slice ca cn cc, .slice ra rn rc, iv gap, iv str, .slice wa S.length wc] 70 (0, 0)) := by rw [← hWb]; exact heap_new _ _ _
  have HB := Lib.hid hBb; have HR := Lib.hid hRb; have HW := Lib.hid hWb
  have HS := Lib.hid (hs.below hBb)
  have HV := Lib.hid hv
  clear hBb hRb hWb hs hv
  go_enter Try.func37, Try.ntmps37
  go_wp2_with fail
  rw [HW.out]
  go_loopw [1, 9] (fun wv i wr => ∃ (h : Nat) (wt : Int), h ≤ S.length ∧ i = iv h ∧ wv = iv wt ∧ -100 ≤ wt ∧ wt ≤ 500 ∧ Hid (dryL ((S.map Prod.fst).drop h) wt h = dryL ((S.map Prod.fst).drop fr) wt0 fr) ∧ Hid (Below Wb.heap.size Wb wr)) (fun _ i _ => S.length - (intOf i).toNat)
  case atStart => exact ⟨fr, wt0, hfr, rfl, rfl, by omega, by omega, rfl, Below.refl _ _⟩
  case round =>
    obtain ⟨h, wt, hh, rfl, rfl, hl0, hl1, HE, HBw⟩ := hrel
    have hrr := bblkG HBw.out HR.out
    have c4 : wr.cell? ⟨w.heap.size, 4, none⟩ = some (.slice wa S.length wc) := by rw [cell_of_row _ _ _ _ _ _ hrr]; rfl
    clear hrr
    by_cases hpos : 0 < wt
    · by_cases hlt : h < S.length
      · obtain ⟨p, hp⟩ := getElem?_of_lt hlt
        have hpv := List.all_eq_true.1 HV.out p (List.mem_of_getElem? hp)
        obtain ⟨p1, p2, p3, p4, p5⟩ := okSpan_iff.1 hpv
        have HP := Lib.hid (dryL_step (side := Prod.fst) hpos hp)
        obtain ⟨b, off, rfl, hj⟩ := sl_rowG (HS.out.below HBw.out) hp
        have x0 : wr.cell? ⟨b, off + h * 2, none⟩ = some (iv p.1) := hj 0 _ rfl
        have x1 : wr.cell? ⟨b, off + h * 2 + 1, none⟩ = some (iv p.2) := hj 1 _ rfl
        have hwr : IntKind.i64.wrap (wt - Prod.fst p) = wt - Prod.fst p := IntWalk.i64_in _ ⟨by omega, by omega⟩
        clear hj hp hpv
        go_wp2_with fail
        refine (later_any p _).mono ?_
        rintro e w1 ⟨rfl, hb1⟩
        have HB1 := Lib.hid (bstep HBw.out hb1)
        clear hb1
        go_wp2_with fail
        go_roundw
        case rel => exact ⟨h + 1, wt - Prod.fst p, by omega, by go_num, rfl, by omega, by omega, HP.out.symm.trans HE.out, HB1.out⟩
        case measure => simp [intOf]; omega
      · obtain rfl : h = S.length := by omega
        have HF := Lib.hid ((dryL_end (side := Prod.fst) (S := S) hpos).symm.trans HE.out)
        go_wp2_with fail
        go_ret
        exact ⟨by rw [← HF.out]; go_num, bstep HB.out HBw.out⟩
    · have HF := Lib.hid ((dryL_done hpos _ _).symm.trans HE.out)
      go_wp2_with fail
      go_ret
      exact ⟨by rw [← HF.out]; rfl, bstep HB.out HBw.out⟩
end Go.Proofs.Ytkialkfplhhenaa

/- The first and the last hour at which a cloth can be dry; how late it can be hung. -/
namespace Go.Proofs.Ytkialkfplhhenaa
open Go Go.RowKit Go.Shelf
attribute [local go_sem ↓] Go.wp_at_zero Go.wp_at_succ

/-- The first hour at which a cloth can be dry, and the last one. -/
def earL (c : Tn) (S : List Sp) (fr : Nat) : Nat := dryL ((S.map Prod.snd).drop fr) c.2.1 fr
def latL (c : Tn) (S : List Sp) (fr : Nat) : Nat := dryL ((S.map Prod.fst).drop fr) c.2.2 fr
theorem vTn_water {c : Tn} (h : vTn c = true) : (0 ≤ c.2.1 ∧ c.2.1 ≤ 500) ∧ (0 ≤ c.2.2 ∧ c.2.2 ≤ 500) ∧ c.2.1 ≤ c.2.2 := by
  simp only [vTn, Bool.and_eq_true] at h
  obtain ⟨p1, p2, p3, p4, p5⟩ := okSpan_iff.1 h.2
  omega

set_option maxRecDepth 20000 in
set_option maxHeartbeats 3200000 in
theorem earliest_any (C : List Tn) (ca ra wa : Option Addr) (cc rn rc wc k : Nat) (gap str : Int) (fr : Nat) (S : List Sp) (c : Tn) (w : World) (hC : SliceOf encN 4 w (.slice ca C.length cc) C) (hk : C[k]? = some c) (hs : SliceOf encS 2 w (.slice wa S.length wc) S) (hv : S.all vWth = true) (hl : S.length ≤ 24) (hfr : fr ≤ S.length) (hc : vTn c = true) :
    Calls Try.prog 23 #[.agg #[.slice ca C.length cc, .slice ra rn rc, iv gap, iv str, .slice wa S.length wc], iv k, iv fr] w fun e w' => e = .returned (iv (earL c S fr)) ∧ Below w.heap.size w w' := by
  obtain ⟨Wb, hWb⟩ : ∃ W : World, w.alloc (.cells #[.slice ca C.length cc, .slice ra rn rc, iv gap, iv str, .slice wa S.length wc] 70) = W := ⟨_, rfl⟩
  have hBb : Below w.heap.size w Wb := by rw [← hWb]; exact bpush (Below.refl _ _) _
  have hRb : Wb.heap[w.heap.size]? = some (.cells #[.slice ca C.length cc, .slice ra rn rc, iv gap, iv str, .slice wa S.length wc] 70 (0, 0)) := by rw [← hWb]; exact heap_new _ _ _
  have HB := Lib.hid hBb; have HW := Lib.hid hWb
  have hsb := hs.below hBb
  obtain ⟨b, off, rfl, hj⟩ := sl_rowG (hC.below hBb) hk
  have hkl := (List.getElem?_eq_some_iff.1 hk).1
  obtain ⟨hw1, hw2, -⟩ := vTn_water hc
  obtain ⟨⟨l1, l2⟩, m1, m2⟩ := c
  have hw1 : 0 ≤ m1 ∧ m1 ≤ 500 := hw1
  have hw2 : 0 ≤ m2 ∧ m2 ≤ 500 := hw2
  have HD := Lib.hid (fun (W : World) (h : SliceOf encS 2 W (.slice wa S.length wc) S) => dryE_any (some ⟨b, off, none⟩) ra wa C.length cc rn rc wc gap str m1 fr S W h hv hl hfr (by omega))
  have x0 : Wb.cell? ⟨b, off + k * 4 + 2, none⟩ = some (iv m1) := hj 2 _ rfl
  have c0 : Wb.cell? ⟨w.heap.size, 0, none⟩ = some (.slice (some ⟨b, off, none⟩) C.length cc) := by rw [cell_of_row _ _ _ _ _ _ hRb]; rfl
  have c1 : Wb.cell? ⟨w.heap.size, 1, none⟩ = some (.slice ra rn rc) := by rw [cell_of_row _ _ _ _ _ _ hRb]; rfl
  have c2 : Wb.cell? ⟨w.heap.size, 2, none⟩ = some (iv gap) := by rw [cell_of_row _ _ _ _ _ _ hRb]; rfl
  have c3 : Wb.cell? ⟨w.heap.size, 3, none⟩ = some (iv str) := by rw [cell_of_row _ _ _ _ _ _ hRb]; rfl
  have c4 : Wb.cell? ⟨w.heap.size, 4, none⟩ = some (.slice wa S.length wc) := by rw [cell_of_row _ _ _ _ _ _ hRb]; rfl
  have hbz : Below Wb.heap.size Wb Wb := Below.refl _ _
  clear hBb hRb hWb hs hv hj hk hC hw1 hw2 hc
  go_enter Try.func23, Try.ntmps23
  go_wp2_with fail
  rw [HW.out]
  go_region_held3 (fun w' => w'.cell? ⟨w.heap.size, 0, none⟩ = some (.slice (some ⟨b, off, none⟩) C.length cc) ∧ w'.cell? ⟨w.heap.size, 1, none⟩ = some (.slice ra rn rc) ∧ w'.cell? ⟨w.heap.size, 2, none⟩ = some (iv gap) ∧ w'.cell? ⟨w.heap.size, 3, none⟩ = some (iv str) ∧ w'.cell? ⟨w.heap.size, 4, none⟩ = some (.slice wa S.length wc) ∧ w'.cell? ⟨b, off + k * 4 + 2, none⟩ = some (iv m1) ∧ SliceOf encS 2 w' (.slice wa S.length wc) S ∧ Below Wb.heap.size Wb w')
    (first | (go_split_ands; refine ⟨?_, ?_, ?_, ?_, ?_, ?_, ?_, ?_⟩ <;> first | assumption | exact kcell hbK (by assumption) | exact kfrozen hbK (by assumption) (by assumption) | exact bstep (by assumption) hbK | exact SliceOf.below (by assumption) hbK) | (refine ⟨?_, ?_, ?_, ?_, ?_, ?_, ?_, ?_⟩ <;> first | exact Below.drew (by assumption) | exact SliceOf.below (by assumption) ((Below.refl _ _).drew) | assumption))
    (first | (go_split_ands; (with_reducible refine (HD.out _ (by assumption)).mono ?_); rintro e wO ⟨rfl, hbK⟩))
  rename_i hHeld
  have HBH := Lib.hid hHeld.2.2.2.2.2.2.2
  clear hHeld
  go_wp2_with fail
  go_ret
  exact ⟨rfl, bstep HB.out HBH.out⟩

set_option maxRecDepth 20000 in
set_option maxHeartbeats 3200000 in
theorem latest_any (C : List Tn) (ca ra wa : Option Addr) (cc rn rc wc k : Nat) (gap str : Int) (fr : Nat) (S : List Sp) (c : Tn) (w : World) (hC : SliceOf encN 4 w (.slice ca C.length cc) C) (hk : C[k]? = some c) (hs : SliceOf encS 2 w (.slice wa S.length wc) S) (hv : S.all vWth = true) (hl : S.length ≤ 24) (hfr : fr ≤ S.length) (hc : vTn c = true) :
    Calls Try.prog 24 #[.agg #[.slice ca C.length cc, .slice ra rn rc, iv gap, iv str, .slice wa S.length wc], iv k, iv fr] w fun e w' => e = .returned (iv (latL c S fr)) ∧ Below w.heap.size w w' := by
  obtain ⟨Wb, hWb⟩ : ∃ W : World, w.alloc (.cells #[.slice ca C.length cc, .slice ra rn rc, iv gap, iv str, .slice wa S.length wc] 70) = W := ⟨_, rfl⟩
  have hBb : Below w.heap.size w Wb := by rw [← hWb]; exact bpush (Below.refl _ _) _
  have hRb : Wb.heap[w.heap.size]? = some (.cells #[.slice ca C.length cc, .slice ra rn rc, iv gap, iv str, .slice wa S.length wc] 70 (0, 0)) := by rw [← hWb]; exact heap_new _ _ _
  have HB := Lib.hid hBb; have HW := Lib.hid hWb
  have hsb := hs.below hBb
  obtain ⟨b, off, rfl, hj⟩ := sl_rowG (hC.below hBb) hk
  have hkl := (List.getElem?_eq_some_iff.1 hk).1
  obtain ⟨hw1, hw2, -⟩ := vTn_water hc
  obtain ⟨⟨l1, l2⟩, m1, m2⟩ := c
  have hw1 : 0 ≤ m1 ∧ m1 ≤ 500 := hw1
  have hw2 : 0 ≤ m2 ∧ m2 ≤ 500 := hw2
  have HD := Lib.hid (fun (W : World) (h : SliceOf encS 2 W (.slice wa S.length wc) S) => dryL_any (some ⟨b, off, none⟩) ra wa C.length cc rn rc wc gap str m2 fr S W h hv hl hfr (by omega))
  have x0 : Wb.cell? ⟨b, off + k * 4 + 3, none⟩ = some (iv m2) := hj 3 _ rfl
  have c0 : Wb.cell? ⟨w.heap.size, 0, none⟩ = some (.slice (some ⟨b, off, none⟩) C.length cc) := by rw [cell_of_row _ _ _ _ _ _ hRb]; rfl
  have c1 : Wb.cell? ⟨w.heap.size, 1, none⟩ = some (.slice ra rn rc) := by rw [cell_of_row _ _ _ _ _ _ hRb]; rfl
  have c2 : Wb.cell? ⟨w.heap.size, 2, none⟩ = some (iv gap) := by rw [cell_of_row _ _ _ _ _ _ hRb]; rfl
  have c3 : Wb.cell? ⟨w.heap.size, 3, none⟩ = some (iv str) := by rw [cell_of_row _ _ _ _ _ _ hRb]; rfl
  have c4 : Wb.cell? ⟨w.heap.size, 4, none⟩ = some (.slice wa S.length wc) := by rw [cell_of_row _ _ _ _ _ _ hRb]; rfl
  have hbz : Below Wb.heap.size Wb Wb := Below.refl _ _
  clear hBb hRb hWb hs hv hj hk hC hw1 hw2 hc
  go_enter Try.func24, Try.ntmps24
  go_wp2_with fail
  rw [HW.out]
  go_region_held3 (fun w' => w'.cell? ⟨w.heap.size, 0, none⟩ = some (.slice (some ⟨b, off, none⟩) C.length cc) ∧ w'.cell? ⟨w.heap.size, 1, none⟩ = some (.slice ra rn rc) ∧ w'.cell? ⟨w.heap.size, 2, none⟩ = some (iv gap) ∧ w'.cell? ⟨w.heap.size, 3, none⟩ = some (iv str) ∧ w'.cell? ⟨w.heap.size, 4, none⟩ = some (.slice wa S.length wc) ∧ w'.cell? ⟨b, off + k * 4 + 3, none⟩ = some (iv m2) ∧ SliceOf encS 2 w' (.slice wa S.length wc) S ∧ Below Wb.heap.size Wb w')
    (first | (go_split_ands; refine ⟨?_, ?_, ?_, ?_, ?_, ?_, ?_, ?_⟩ <;> first | assumption | exact kcell hbK (by assumption) | exact kfrozen hbK (by assumption) (by assumption) | exact bstep (by assumption) hbK | exact SliceOf.below (by assumption) hbK) | (refine ⟨?_, ?_, ?_, ?_, ?_, ?_, ?_, ?_⟩ <;> first | exact Below.drew (by assumption) | exact SliceOf.below (by assumption) ((Below.refl _ _).drew) | assumption))
    (first | (go_split_ands; (with_reducible refine (HD.out _ (by assumption)).mono ?_); rintro e wO ⟨rfl, hbK⟩))
  rename_i hHeld
  have HBH := Lib.hid hHeld.2.2.2.2.2.2.2
  clear hHeld
  go_wp2_with fail
  go_ret
  exact ⟨rfl, bstep HB.out HBH.out⟩

/-- The latest hour, up to so many hours, at which something can be hung. -/
def lateTo (lt : Nat → Nat) (rain : Nat) : Nat → Option Nat
  | 0 => none
  | k + 1 => if lt k ≤ rain then some k else lateTo lt rain k
def lateO (c : Tn) (S : List Sp) (rain : Nat) : Option Nat := lateTo (latL c S) rain (rain + 1)
theorem lateTo_some {lt : Nat → Nat} {rain : Nat} : ∀ {n k : Nat}, lateTo lt rain n = some k → k < n ∧ lt k ≤ rain ∧ ∀ j, k < j → j < n → rain < lt j
  | 0, _, h => by simp [lateTo] at h
  | n + 1, k, h => by
    unfold lateTo at h
    split at h
    · obtain rfl := Option.some.inj h
      exact ⟨Nat.lt_succ_self _, by assumption, fun j h1 h2 => by omega⟩
    · obtain ⟨h1, h2, h3⟩ := lateTo_some h
      refine ⟨by omega, h2, fun j h4 h5 => ?_⟩
      by_cases e : j = n
      · subst e; omega
      · exact h3 j h4 (by omega)
theorem lateTo_none {lt : Nat → Nat} {rain : Nat} : ∀ {n : Nat}, lateTo lt rain n = none → ∀ j, j < n → rain < lt j
  | 0, _, j, hj => by omega
  | n + 1, h, j, hj => by
    unfold lateTo at h
    split at h
    · cases h
    · by_cases e : j = n
      · subst e; omega
      · exact lateTo_none h j (by omega)
def foundV : Option Nat → Value
  | some h => .tuple #[iv h, .bool true]
  | none => .tuple #[iv 0, .bool false]

set_option maxRecDepth 20000 in
set_option maxHeartbeats 3200000 in
theorem late_any (C : List Tn) (ca ra wa : Option Addr) (cc rn rc wc k : Nat) (gap str : Int) (rain : Nat) (S : List Sp) (c : Tn) (w : World) (hC : SliceOf encN 4 w (.slice ca C.length cc) C) (hk : C[k]? = some c) (hs : SliceOf encS 2 w (.slice wa S.length wc) S) (hv : S.all vWth = true) (hl : S.length ≤ 24) (hr : rain ≤ S.length) (hc : vTn c = true) :
    Calls Try.prog 22 #[.agg #[.slice ca C.length cc, .slice ra rn rc, iv gap, iv str, .slice wa S.length wc], iv k, iv rain] w fun e w' => e = .returned (foundV (lateO c S rain)) ∧ Below w.heap.size w w' := by
  obtain ⟨Wb, hWb⟩ : ∃ W : World, w.alloc (.cells #[.slice ca C.length cc, .slice ra rn rc, iv gap, iv str, .slice wa S.length wc] 70) = W := ⟨_, rfl⟩
  have hBb : Below w.heap.size w Wb := by rw [← hWb]; exact bpush (Below.refl _ _) _
  have hRb : Wb.heap[w.heap.size]? = some (.cells #[.slice ca C.length cc, .slice ra rn rc, iv gap, iv str, .slice wa S.length wc] 70 (0, 0)) := by rw [← hWb]; exact heap_new _ _ _
  have HB := Lib.hid hBb; have HR := Lib.hid hRb; have HW := Lib.hid hWb
  have HL := Lib.hid (fun (fr : Nat) (W : World) (hb : Below Wb.heap.size Wb W) (hf : fr ≤ S.length) => latest_any C ca ra wa cc rn rc wc k gap str fr S c W ((hC.below hBb).below hb) hk ((hs.below hBb).below hb) hv hl hf hc)
  clear hBb hRb hWb hC hk hs hv hc
  go_enter Try.func22, Try.ntmps22
  go_wp2_with fail
  rw [HW.out]
  go_loopw [6] (fun i wr => ∃ n : Nat, n ≤ rain + 1 ∧ i = iv ((n : Int) - 1) ∧ Hid (lateTo (latL c S) rain n = lateO c S rain) ∧ Hid (Below Wb.heap.size Wb wr)) (fun i _ => (intOf i + 1).toNat)
  case atStart => exact ⟨rain + 1, Nat.le_refl _, by go_num, rfl, Below.refl _ _⟩
  case round =>
    obtain ⟨n, hn, rfl, HE, HBw⟩ := hrel
    have hrr := bblkG HBw.out HR.out
    have c0 : wr.cell? ⟨w.heap.size, 0, none⟩ = some (.slice ca C.length cc) := by rw [cell_of_row _ _ _ _ _ _ hrr]; rfl
    have c1 : wr.cell? ⟨w.heap.size, 1, none⟩ = some (.slice ra rn rc) := by rw [cell_of_row _ _ _ _ _ _ hrr]; rfl
    have c2 : wr.cell? ⟨w.heap.size, 2, none⟩ = some (iv gap) := by rw [cell_of_row _ _ _ _ _ _ hrr]; rfl
    have c3 : wr.cell? ⟨w.heap.size, 3, none⟩ = some (iv str) := by rw [cell_of_row _ _ _ _ _ _ hrr]; rfl
    have c4 : wr.cell? ⟨w.heap.size, 4, none⟩ = some (.slice wa S.length wc) := by rw [cell_of_row _ _ _ _ _ _ hrr]; rfl
    clear hrr
    rcases n with _ | n
    · have HF : Hid (lateO c S rain = none) := HE.out.symm
      go_wp2_with fail
      go_ret2
      exact ⟨by rw [HF.out]; rfl, bstep HB.out HBw.out⟩
    · obtain ⟨m, hm⟩ : ∃ m : Nat, latL c S n = m := ⟨_, rfl⟩
      have hi : ((n + 1 : Nat) : Int) - 1 = (n : Int) := by omega
      have hi0 : (0 : Int) ≤ (n : Int) := by omega
      have HM : Hid (lateO c S rain = if m ≤ rain then some n else lateTo (latL c S) rain n) := by rw [← HE.out]; simp only [Hid, lateTo, hm]
      have HLn := Lib.hid (fun (W : World) (hb : Below Wb.heap.size Wb W) => by have := HL.out n W hb (by omega); rw [hm] at this; exact this)
      rw [hi]
      clear hm hi
      by_cases hle : m ≤ rain
      · have hle' : (m : Int) ≤ (rain : Int) := by omega
        have HF : Hid (lateO c S rain = some n) := by rw [HM.out, if_pos hle]; rfl
        go_wp2_with fail
        refine (HLn.out _ HBw.out).mono ?_
        rintro e w1 ⟨rfl, hb1⟩
        have HB1 := Lib.hid (bstep HBw.out hb1)
        clear hb1
        go_wp2_with fail
        go_ret2
        exact ⟨by rw [HF.out]; rfl, bstep HB.out HB1.out⟩
      · have hle' : ¬ (m : Int) ≤ (rain : Int) := by omega
        have HF : Hid (lateTo (latL c S) rain n = lateO c S rain) := by rw [HM.out, if_neg hle]; rfl
        go_wp2_with fail
        refine (HLn.out _ HBw.out).mono ?_
        rintro e w1 ⟨rfl, hb1⟩
        have HB1 := Lib.hid (bstep HBw.out hb1)
        clear hb1
        go_wp2_with fail
        go_roundw
        case rel => exact ⟨n, by omega, by first | rfl | go_num, HF.out, HB1.out⟩
        case measure => simp [intOf]
end Go.Proofs.Ytkialkfplhhenaa

/- How late a cloth can be hung: the calls from outside, at valid fields. -/
namespace Go.Proofs.Ytkialkfplhhenaa
open Go Go.RowKit Go.Shelf
attribute [local go_sem ↓] Go.wp_at_zero Go.wp_at_succ

set_option maxHeartbeats 400000 in
theorem validNum_any (k n : Nat) (w : World) (hn : n ≤ 1000) :
    Calls Try.prog 21 #[iv k, iv n] w fun e w' => e = .returned (.bool (inB 0 ((n : Int) - 1) k)) ∧ Below w.heap.size w w' := by
  have hw : IntKind.i64.wrap ((n : Int) - 1) = (n : Int) - 1 := IntWalk.i64_in _ ⟨by omega, by omega⟩
  go_enter Try.func21, Try.ntmps21
  go_wp2_with fail
  refine (within1 0 ((n : Int) - 1) k (by go_simp)).mono ?_
  rintro e w3 ⟨rfl, rfl⟩
  go_wp2_with fail
  go_ret
  exact ⟨rfl, (by repeat (first | exact Below.refl _ _ | refine Below.drew ?_ | refine bpush ?_ _ | refine bput ?_ (by simp) _ | (refine bstep ?_ (by assumption))))⟩
theorem sinfoDr (cs : Array Value) (h : cs.size = 5) : (Try.prog.info? 70).map (·.size) = some cs.size := by rw [h]; kernel_rfl
def zdr : Array Value := #[.slice none 0 0, .slice none 0 0, iv 0, iv 0, .slice none 0 0]

/-- What there is when a call of a field in some weather begins. -/
structure FdIn (C : List Tn) (R : List Int) (gap str : Int) (S : List Sp) (ca ra wa : Option Addr) (cc rc wc : Nat) (w : World) : Prop where
  cl : SliceOf encN 4 w (.slice ca C.length cc) C
  fr : Ints w (.slice ra R.length rc) R
  we : SliceOf encS 2 w (.slice wa S.length wc) S
theorem FdIn.below {C : List Tn} {R : List Int} {gap str : Int} {S : List Sp} {ca ra wa : Option Addr} {cc rc wc : Nat} {w w' : World} (h : FdIn C R gap str S ca ra wa cc rc wc w) (hb : Below w.heap.size w w') : FdIn C R gap str S ca ra wa cc rc wc w' :=
  ⟨h.cl.below hb, h.fr.below hb, h.we.below hb⟩
/-- A valid field in valid weather. -/
structure FdOk (C : List Tn) (R : List Int) (gap str : Int) (S : List Sp) : Prop where
  ck : fdChk ⟨C, R, gap, str⟩ = 0
  sl : 1 ≤ S.length ∧ S.length ≤ 24
  sv : S.all vWth = true
theorem FdOk.len {C : List Tn} {R : List Int} {gap str : Int} {S : List Sp} (h : FdOk C R gap str S) : C.length ≤ 7 := (fdChk_zero h.ck).1
theorem FdOk.tn {C : List Tn} {R : List Int} {gap str : Int} {S : List Sp} (h : FdOk C R gap str S) {k : Nat} {c : Tn} (hk : C[k]? = some c) : vTn c = true := by
  have := (fdChk_zero h.ck).2.2
  simp only [vFd, Bool.and_eq_true, List.all_eq_true] at this
  exact this.1 c (List.mem_of_getElem? hk)

set_option maxRecDepth 20000 in
set_option maxHeartbeats 3200000 in
theorem fdOpen_good (C : List Tn) (R : List Int) (gap str : Int) (S : List Sp) (ca ra wa : Option Addr) (cc rc wc hour : Nat) (w : World) (hI : FdIn C R gap str S ca ra wa cc rc wc w) (hok : FdOk C R gap str S) (hh : hour ≤ S.length) :
    Calls Try.prog 20 #[.agg #[.slice ca C.length cc, .slice ra R.length rc, iv gap, iv str], .slice wa S.length wc, iv hour] w fun e w' => e = .returned (.tuple #[.agg #[.slice ca C.length cc, .slice ra R.length rc, iv gap, iv str, .slice wa S.length wc], iv 0]) ∧ Below w.heap.size w w' := by
  have HI := Lib.hid hI
  have HC := Lib.hid (fun (W : World) (h : FdIn C R gap str S ca ra wa cc rc wc W) => by have := fdCheck_any C R gap str ca ra cc rc W h.cl h.fr; rw [hok.ck] at this; exact this)
  have HA := Lib.hid (fun (W : World) (h : FdIn C R gap str S ca ra wa cc rc wc W) => by have := allW_any S _ W h.we; rw [hok.sv] at this; exact this)
  have H1 : Hid (inB 1 24 (S.length : Int) = true) := by have := hok.sl; exact inB_iff.2 ⟨by omega, by omega⟩
  have H2 : Hid (inB 0 (S.length : Int) (hour : Int) = true) := inB_iff.2 ⟨by omega, by omega⟩
  have HSI := Lib.hid (sinfoDr #[.slice ca C.length cc, .slice ra R.length rc, iv gap, iv str, .slice wa S.length wc] rfl)
  have HON : Hid (#[.slice ca C.length cc, .slice ra R.length rc, iv gap, iv str, .slice wa S.length wc].all (fun v : Value => v.oneCell') = true) := by simp [Hid, Value.oneCell']
  clear hI hok hh
  go_enter Try.func20, Try.ntmps20
  go_wp2_with fail
  refine (HC.out _ (HI.out.below (by repeat (first | exact Below.refl _ _ | refine Below.drew ?_ | refine bpush ?_ _ | refine bput ?_ (by simp) _ | (refine bstep ?_ (by assumption)))))).mono ?_
  rintro e w1 ⟨rfl, hb⟩
  have hr1 := Lib.hid ((hb.block (w.heap.size + 1) (by simp)).trans (by have := heap_new (w.alloc (.cells #[.slice ca C.length cc, .slice ra R.length rc, iv gap, iv str] 43)) zdr 70; simp only [World.size_alloc] at this; exact this))
  have HB := Lib.hid (show Below w.heap.size w w1 from bstep (by repeat (first | exact Below.refl _ _ | refine Below.drew ?_ | refine bpush ?_ _ | refine bput ?_ (by simp) _ | (refine bstep ?_ (by assumption)))) hb)
  obtain ⟨hbc, hbf⟩ := bcell hb
  have hbz := hb.size
  simp [Nat.add_one_le_iff] at hbz
  clear hb
  have hlt0 : w.heap.size < w1.heap.size := by omega
  go_wp2_with fail
  refine (within1 1 24 (S.length : Int) (by go_simp)).mono ?_
  rintro e w3 ⟨he, rfl⟩; rw [H1.out] at he; subst he
  go_wp2_with fail
  refine (HA.out _ (HI.out.below (bstep HB.out (by repeat (first | exact Below.refl _ _ | refine Below.drew ?_ | refine bpush ?_ _ | refine bput ?_ (by simp) _ | (refine bstep ?_ (by assumption))))))).mono ?_
  rintro e w2 ⟨rfl, hb2⟩
  have hr2 := Lib.hid ((hb2.block (w.heap.size + 1) (by simp; omega)).trans ((Below.heap_alloc _ _ _ (by omega)).trans hr1.out))
  have c20 : w2.cell? ⟨w.heap.size, 0, none⟩ = some (.slice ca C.length cc) := (hb2.cell (p := ⟨w.heap.size, 0, none⟩) (by simp; omega)).trans (by go_simp)
  have c21 : w2.cell? ⟨w.heap.size, 1, none⟩ = some (.slice ra R.length rc) := (hb2.cell (p := ⟨w.heap.size, 1, none⟩) (by simp; omega)).trans (by go_simp)
  have c22 : w2.cell? ⟨w.heap.size, 2, none⟩ = some (iv gap) := (hb2.cell (p := ⟨w.heap.size, 2, none⟩) (by simp; omega)).trans (by go_simp)
  have c23 : w2.cell? ⟨w.heap.size, 3, none⟩ = some (iv str) := (hb2.cell (p := ⟨w.heap.size, 3, none⟩) (by simp; omega)).trans (by go_simp)
  have HB2 := Lib.hid (bstep (bstep HB.out (by repeat (first | exact Below.refl _ _ | refine Below.drew ?_ | refine bpush ?_ _ | refine bput ?_ (by simp) _ | (refine bstep ?_ (by assumption))))) hb2)
  have hz2 := hb2.size
  simp at hz2
  clear hb2
  have hlt2 : w.heap.size < w2.heap.size := by omega
  go_wp2_with fail
  refine (within1 0 (S.length : Int) hour (by go_simp)).mono ?_
  rintro e w3 ⟨he, rfl⟩; rw [H2.out] at he; subst he
  go_wp2_with (with_reducible change wpList _ _ _ (Oper.mk _ (Op.store 70 _ _) _ _ _ _ :: _) _ _; refine L_skip rfl (run_store_row 70 _ _ rfl _ rfl #[.slice ca C.length cc, .slice ra R.length rc, iv gap, iv str, .slice wa S.length wc] rfl 70 zdr ((Below.heap_alloc _ _ _ (by omega)).trans hr2.out) HSI.out rfl HON.out) ?_)
  exact bodyPost_ret (results_row_tmp (fn := Try.f20) Try.results20 _ rfl (heap_setRow_same ((Below.heap_alloc _ _ _ (by omega)).trans hr2.out)) Try.underlying70 rfl HSI.out) rfl ⟨rfl, bsetRow (bstep HB2.out (by repeat (first | exact Below.refl _ _ | refine Below.drew ?_ | refine bpush ?_ _ | refine bput ?_ (by simp) _ | (refine bstep ?_ (by assumption))))) (by omega) _⟩

def lateV : Option Nat → Value
  | some h => .tuple #[iv h, iv 0]
  | none => .tuple #[iv 0, iv 9]
set_option maxRecDepth 20000 in
set_option maxHeartbeats 3200000 in
theorem Late_good (C : List Tn) (R : List Int) (gap str : Int) (S : List Sp) (ca ra wa : Option Addr) (cc rc wc k rain : Nat) (c : Tn) (w : World) (hI : FdIn C R gap str S ca ra wa cc rc wc w) (hok : FdOk C R gap str S) (hh : rain ≤ S.length) (hk : C[k]? = some c) :
    Calls Try.prog 9 #[.agg #[.slice ca C.length cc, .slice ra R.length rc, iv gap, iv str], .slice wa S.length wc, iv k, iv rain] w fun e w' => e = .returned (lateV (lateO c S rain)) ∧ Below w.heap.size w w' := by
  have HI := Lib.hid hI
  have HO := Lib.hid (fun (W : World) (h : FdIn C R gap str S ca ra wa cc rc wc W) => fdOpen_good C R gap str S ca ra wa cc rc wc rain W h hok hh)
  have HL := Lib.hid (fun (W : World) (h : FdIn C R gap str S ca ra wa cc rc wc W) => late_any C ca ra wa cc R.length rc wc k gap str rain S c W h.cl hk h.we hok.sv hok.sl.2 hh (hok.tn hk))
  have H1 : Hid (inB 0 ((C.length : Int) - 1) (k : Int) = true) := by have := (List.getElem?_eq_some_iff.1 hk).1; exact inB_iff.2 ⟨by omega, by omega⟩
  have hlen := hok.len
  have HN := Lib.hid (fun (W : World) => by have := validNum_any k C.length W (by omega); rw [H1.out] at this; exact this)
  clear hI hok hh hk hlen
  go_enter Try.func9, Try.ntmps9
  go_wp2_with fail
  refine (HO.out _ (HI.out.below (by repeat (first | exact Below.refl _ _ | refine Below.drew ?_ | refine bpush ?_ _ | refine bput ?_ (by simp) _ | (refine bstep ?_ (by assumption)))))).mono ?_
  rintro e w1 ⟨rfl, hb⟩
  have HB := Lib.hid (show Below w.heap.size w w1 from bstep (by repeat (first | exact Below.refl _ _ | refine Below.drew ?_ | refine bpush ?_ _ | refine bput ?_ (by simp) _ | (refine bstep ?_ (by assumption)))) hb)
  obtain ⟨hbc, hbf⟩ := bcell hb
  have hbz := hb.size
  simp [Nat.add_one_le_iff] at hbz
  clear hb
  have hlt0 : w.heap.size < w1.heap.size := by omega
  go_wp2_with fail
  refine (HN.out _).mono ?_
  rintro e w2 ⟨rfl, hb2⟩
  have HB2 := Lib.hid (bstep (bstep HB.out (by repeat (first | exact Below.refl _ _ | refine Below.drew ?_ | refine bpush ?_ _ | refine bput ?_ (by simp) _ | (refine bstep ?_ (by assumption))))) hb2)
  obtain ⟨hb2c, hb2f⟩ := bcell hb2
  have hb2z := hb2.size
  simp [Nat.add_one_le_iff] at hb2z
  clear hb2
  go_wp2_with fail
  refine (HL.out _ (HI.out.below HB2.out)).mono ?_
  rintro e w3 ⟨rfl, hb3⟩
  have HB3 := Lib.hid (bstep HB2.out hb3)
  clear hb3
  cases hL : lateO c S rain
  · have HV := Lib.hid hL; clear hL
    unfold foundV
    go_wp2_with fail
    go_ret2
    exact ⟨by rw [HV.out]; rfl, HB3.out⟩
  · have HV := Lib.hid hL; clear hL
    unfold foundV
    go_wp2_with fail
    go_ret2
    exact ⟨by rw [HV.out]; rfl, HB3.out⟩
end Go.Proofs.Ytkialkfplhhenaa

/- When each cloth is dry: the call from outside, at valid fields. -/
namespace Go.Proofs.Ytkialkfplhhenaa
open Go Go.RowKit Go.Shelf
attribute [local go_sem ↓] Go.wp_at_zero Go.wp_at_succ

theorem infoSpG : (Try.prog.info? 36).map (fun i => (i.zero, i.size, i.bytes)) = some (some (.agg #[.int .i64 0, .int .i64 0]), 2, 16) := by kernel_rfl
theorem made_rowG (n : Nat) : (madeCells (Value.cells (.agg #[.int .i64 0, .int .i64 0])) (n * 2)).toList = (List.replicate (n * 2) (0 : Int)).map iv := by
  refine List.ext_getElem? fun i => ?_
  by_cases h : i < n * 2
  · have h2 : i % 2 = 0 ∨ i % 2 = 1 := by omega
    simp only [madeCells, Value.cells, Array.toList_map, Array.toList_range, List.getElem?_map, List.getElem?_range h, Option.map_some, List.map_replicate, List.getElem?_replicate, if_pos h]
    rcases h2 with h2 | h2 <;> simp [h2]
  · rw [List.getElem?_eq_none (by simp [madeCells]; omega), List.getElem?_eq_none (by simp; omega)]
theorem heap_ownsG {w : World} {base g n : Nat} {e : TypeId} {xs : List Value} (h : w.ownsRow base e 2 (.slice (some ⟨g, 0, none⟩) n n) n xs) : w.heap[g]? = some (.cells xs.toArray e (0, 0)) := by
  rcases h.2 with ⟨h0, _⟩ | ⟨g', cap, cur, h0, hg, hh, h1, h2, h3, h4⟩
  · cases h0
  · cases h0
    rw [hh]
    congr 2
    apply Array.ext'
    rw [← h4, List.take_of_length_le]
    simp; omega
theorem span_newG {w : World} {base g n : Nat} {e : TypeId} (h : w.ownsRow base e 2 (.slice (some ⟨g, 0, none⟩) n n) n (madeCells (Value.cells (.agg #[.int .i64 0, .int .i64 0])) (n * 2)).toList) : w.heap[g]? = some (.cells (rowI (List.replicate (n * 2) 0)) e (0, 0)) := by
  have := heap_ownsG h
  rw [made_rowG] at this
  exact this

/-- A list of spans, flat, of which the first k are filled. -/
def flS (L : List Sp) (n k : Nat) : List Int := (L.take k).flatMap (fun p => [p.1, p.2]) ++ List.replicate ((n - k) * 2) 0
theorem flat2_len (L : List Sp) : (L.flatMap (fun p => [p.1, p.2])).length = L.length * 2 := by
  induction L with
  | nil => rfl
  | cons p L ih => simp [List.flatMap_cons, ih]; omega
theorem flS_len {L : List Sp} {n k : Nat} (hL : L.length = n) (hk : k ≤ n) : (flS L n k).length = n * 2 := by
  simp only [flS, List.length_append, flat2_len, List.length_take, List.length_replicate]; omega
theorem flS_zero (L : List Sp) (n : Nat) : flS L n 0 = List.replicate (n * 2) 0 := by simp [flS]
theorem flS_succ {L : List Sp} {n k : Nat} {p : Sp} (hL : L.length = n) (hk : L[k]? = some p) : ((flS L n k).set (k * 2) p.1).set (k * 2 + 1) p.2 = flS L n (k + 1) := by
  have hlt := (List.getElem?_eq_some_iff.1 hk).1
  have hlen : ((L.take k).flatMap (fun p => [p.1, p.2])).length = k * 2 := by rw [flat2_len, List.length_take]; omega
  have ht : L.take (k + 1) = L.take k ++ [p] := by rw [List.take_add_one, hk]; rfl
  unfold flS
  rw [ht, List.flatMap_append, show (n - k) * 2 = (n - (k + 1)) * 2 + 1 + 1 by omega, List.replicate_succ, List.replicate_succ]
  rw [List.set_append_right _ _ (by omega), hlen, List.set_append_right _ _ (by omega), hlen]
  simp
theorem flS_get {L : List Sp} {n i : Nat} {p : Sp} (hL : L.length = n) (hi : L[i]? = some p) : (flS L n n).getD (i * 2) 0 = p.1 ∧ (flS L n n).getD (i * 2 + 1) 0 = p.2 := by
  have hlt := (List.getElem?_eq_some_iff.1 hi).1
  have hd : L.drop i = p :: L.drop (i + 1) := by rw [List.drop_eq_getElem_cons hlt]; congr 1; exact (List.getElem?_eq_some_iff.1 hi).2
  have e : L = L.take i ++ p :: L.drop (i + 1) := by rw [← hd, List.take_append_drop]
  have hlen : ((L.take i).flatMap (fun p => [p.1, p.2])).length = i * 2 := by rw [flat2_len, List.length_take]; omega
  have hf : flS L n n = (L.take i).flatMap (fun p => [p.1, p.2]) ++ (p.1 :: p.2 :: (L.drop (i + 1)).flatMap (fun p => [p.1, p.2])) := by
    unfold flS
    rw [Nat.sub_self, Nat.zero_mul, List.replicate_zero, List.append_nil, List.take_of_length_le (by omega)]
    rw [show L.flatMap (fun p => [p.1, p.2]) = (L.take i ++ p :: L.drop (i + 1)).flatMap (fun p => [p.1, p.2]) from congrArg (fun l => List.flatMap (fun p : Sp => [p.1, p.2]) l) e]
    rw [List.flatMap_append, List.flatMap_cons]; rfl
  rw [hf]
  constructor
  · rw [List.getD_eq_getElem?_getD, List.getElem?_append_right (by omega), hlen, Nat.sub_self]; rfl
  · rw [List.getD_eq_getElem?_getD, List.getElem?_append_right (by omega), hlen, show i * 2 + 1 - i * 2 = 1 by omega]; rfl
theorem slice_flS {w : World} {g n : Nat} {L : List Sp} {t : TypeId} (hL : L.length = n) (hn : n ≤ 1000000) (h : w.heap[g]? = some (.cells (rowI (flS L n n)) t (0, 0))) : SliceOf encS 2 w (.slice (some ⟨g, 0, none⟩) n n) L := by
  subst hL
  refine ⟨some ⟨g, 0, none⟩, L.length, rfl, by omega, fun i p hi => ⟨g, 0, rfl, fun j u hu => ?_⟩⟩
  have hlt := (List.getElem?_eq_some_iff.1 hi).1
  obtain ⟨g0, g1⟩ := flS_get rfl hi
  have hl := flS_len (L := L) rfl (Nat.le_refl _)
  rcases j with _ | _ | j
  · have := cell_rowI (i := i * 2) h (by omega)
    simp only [encS, List.getElem?_cons_zero, Option.some.injEq] at hu
    rw [Nat.zero_add, Nat.add_zero, this, g0, hu]
  · have := cell_rowI (i := i * 2 + 1) h (by omega)
    simp only [encS, List.getElem?_cons_succ, List.getElem?_cons_zero, Option.some.injEq] at hu
    rw [Nat.zero_add, this, g1, hu]
  · simp [encS] at hu
/-- A row of which two cells may have been written. -/
def RowBut (W : World) (g : Nat) (cs : Array Value) (t : TypeId) (i j : Nat) : Prop := ∃ u v, W.heap[g]? = some (.cells ((cs.setIfInBounds i u).setIfInBounds j v) t (0, 0))
theorem RowBut.of {W : World} {g : Nat} {f : List Int} {t : TypeId} {i j : Nat} (h : W.heap[g]? = some (.cells (rowI f) t (0, 0))) (hi : i < f.length) (hj : j < f.length) : RowBut W g (rowI f) t i j := by
  refine ⟨iv (f.getD i 0), iv (f.getD j 0), h.trans ?_⟩
  have e : ∀ k, k < f.length → ∀ l : List Int, l = f → l.set k (f.getD k 0) = f := by
    rintro k hk l rfl
    refine List.ext_getElem? fun m => ?_
    rw [List.getElem?_set]
    split
    · subst m; simp [hk, List.getD_eq_getElem?_getD]
    · rfl
  rw [rowI_set, rowI_set, e i hi f rfl, e j hj f rfl]
theorem RowBut.below {W W' : World} {g : Nat} {cs : Array Value} {t : TypeId} {i j : Nat} (h : RowBut W g cs t i j) (hb : Below W.heap.size W W') : RowBut W' g cs t i j := by
  obtain ⟨u, v, h⟩ := h
  exact ⟨u, v, bblkG hb h⟩
theorem RowBut.set {W : World} {g : Nat} {cs : Array Value} {t : TypeId} {i j : Nat} (h : RowBut W g cs t i j) (u v : Value) : ((W.setCell ⟨g, i, none⟩ u).setCell ⟨g, j, none⟩ v).heap[g]? = some (.cells ((cs.setIfInBounds i u).setIfInBounds j v) t (0, 0)) := by
  obtain ⟨u', v', h⟩ := h
  have h1 := heap_setCell_same W g i _ t u h
  have h2 := heap_setCell_same _ g j _ t v h1
  rw [h2]
  congr 2
  apply Array.ext'
  simp only [Array.toList_setIfInBounds]
  refine List.ext_getElem? fun m => ?_
  simp only [List.getElem?_set, List.length_set]
  by_cases e1 : j = m
  · subst e1; simp
  · by_cases e2 : i = m
    · subst e2; simp [e1]
    · simp [e1, e2]
theorem RowBut.cell {W : World} {g : Nat} {cs : Array Value} {t : TypeId} {i j : Nat} (h : RowBut W g cs t i j) (hi : i < cs.size) (hj : j < cs.size) : (∃ u, W.cell? ⟨g, i, none⟩ = some u) ∧ (∃ v, W.cell? ⟨g, j, none⟩ = some v) ∧ W.frozen? ⟨g, i, none⟩ = false ∧ W.frozen? ⟨g, j, none⟩ = false := by
  obtain ⟨u, v, h⟩ := h
  refine ⟨⟨_, (cell_of_row _ _ _ _ _ _ h).trans (Array.getElem?_eq_getElem (by simp; omega))⟩, ⟨_, (cell_of_row _ _ _ _ _ _ h).trans (Array.getElem?_eq_getElem (by simp; omega))⟩, ?_, ?_⟩ <;> (unfold World.frozen?; rw [h]; rfl)
def cvG (W : World) (b o : Nat) : Value := (W.cell? ⟨b, o, none⟩).getD undef
theorem cvG_of {W : World} {b o : Nat} {v : Value} (h : W.cell? ⟨b, o, none⟩ = some v) : W.cell? ⟨b, o, none⟩ = some (cvG W b o) := by rw [cvG, h]; rfl
theorem isSome_setCellG (W : World) (p q : Addr) (v : Value) : ((W.setCell p v).cell? q).isSome = (W.cell? q).isSome := by
  unfold World.cell? World.setCell
  simp only [Array.getElem?_modify]
  by_cases h : p.block = q.block
  · rw [if_pos h]
    cases hb : W.heap[q.block]? with
    | none => rfl
    | some o =>
      cases o <;> try rfl
      rename_i c e fr
      show Option.isSome (if q.spot.isSome = true then none else (if p.spot.isSome = true then c else c.setIfInBounds p.off v)[q.off]?) = Option.isSome (if q.spot.isSome = true then none else c[q.off]?)
      split
      · rfl
      · split
        · rfl
        · rw [Array.getElem?_setIfInBounds]
          by_cases e : p.off = q.off
          · rw [if_pos e]
            by_cases hs : p.off < c.size
            · rw [if_pos hs, Array.getElem?_eq_getElem (by omega)]; rfl
            · rw [if_neg hs, Array.getElem?_eq_none (by omega)]
          · rw [if_neg e]
  · rw [if_neg h]
/-- What was written in two cells. -/
theorem RowBut.fix {Z : World} {g : Nat} {cs : Array Value} {t : TypeId} {i j : Nat} {u v : Value} (hij : i ≠ j) (hi : i < cs.size) (hj : j < cs.size) (h : RowBut ((Z.setCell ⟨g, i, none⟩ u).setCell ⟨g, j, none⟩ v) g cs t i j) :
    ((Z.setCell ⟨g, i, none⟩ u).setCell ⟨g, j, none⟩ v).heap[g]? = some (.cells ((cs.setIfInBounds i u).setIfInBounds j v) t (0, 0)) := by
  obtain ⟨a, b, hh⟩ := h
  have f0 : ((cs.setIfInBounds i a).setIfInBounds j b)[i]? = some a := by rw [Array.getElem?_setIfInBounds_ne (Ne.symm hij)]; simp [hi]
  have f1 : ((cs.setIfInBounds i a).setIfInBounds j b)[j]? = some b := by simp [hj]
  have hs : (Z.cell? ⟨g, i, none⟩).isSome = true := by
    rw [← isSome_setCellG Z ⟨g, i, none⟩ _ u, ← isSome_setCellG _ ⟨g, j, none⟩ _ v, cell_of_row _ _ _ _ _ _ hh, f0]; rfl
  have hs' : (Z.cell? ⟨g, j, none⟩).isSome = true := by
    rw [← isSome_setCellG Z ⟨g, i, none⟩ _ u, ← isSome_setCellG _ ⟨g, j, none⟩ _ v, cell_of_row _ _ _ _ _ _ hh, f1]; rfl
  have e0 : ((Z.setCell ⟨g, i, none⟩ u).setCell ⟨g, j, none⟩ v).cell? ⟨g, i, none⟩ = some u :=
    (World.cell?_setCell_other (a := ⟨g, j, none⟩) (b := ⟨g, i, none⟩) _ _ (by simp <;> omega)).trans (World.cell?_setCell_same' _ _ _ hs)
  have e1 : ((Z.setCell ⟨g, i, none⟩ u).setCell ⟨g, j, none⟩ v).cell? ⟨g, j, none⟩ = some v := by
    refine World.cell?_setCell_same' _ _ _ ?_
    rw [World.cell?_setCell_other (a := ⟨g, i, none⟩) (b := ⟨g, j, none⟩) _ _ (by simp <;> omega)]; exact hs'
  rw [cell_of_row _ _ _ _ _ _ hh] at e0 e1
  obtain rfl := Option.some.inj (f0.symm.trans e0)
  obtain rfl := Option.some.inj (f1.symm.trans e1)
  exact hh
end Go.Proofs.Ytkialkfplhhenaa

/- Dry of package tenter. -/
namespace Go.Proofs.Ytkialkfplhhenaa
open Go Go.RowKit Go.Shelf
attribute [local go_sem ↓] Go.wp_at_zero Go.wp_at_succ

/-- When a cloth is dry. -/
def dryS (S : List Sp) (fr : Nat) (c : Tn) : Sp := ((earL c S fr : Nat), (latL c S fr : Nat))
def DryRes (C : List Tn) (S : List Sp) (fr : Nat) (w : World) (e : Ending) (w' : World) : Prop :=
  ∃ g, e = .returned (.tuple #[.slice (some ⟨g, 0, none⟩) C.length C.length, iv 0]) ∧ SliceOf encS 2 w' (.slice (some ⟨g, 0, none⟩) C.length C.length) (C.map (dryS S fr)) ∧ Below w.heap.size w w'

theorem keepDry {C : List Tn} {R : List Int} {gap str : Int} {S : List Sp} {ca ra wa : Option Addr} {cc rc wc : Nat} {W0 X : World} {b : Nat} {row : Array Value} {i j : Nat} {u v : Value} (hI : FdIn C R gap str S ca ra wa cc rc wc W0) (hb : b < W0.heap.size) (hi : i < row.size) (hj : j < row.size)
    (h : X.cell? ⟨b, 0, none⟩ = some (.slice ca C.length cc) ∧ X.cell? ⟨b, 1, none⟩ = some (.slice ra R.length rc) ∧ X.cell? ⟨b, 2, none⟩ = some (iv gap) ∧ X.cell? ⟨b, 3, none⟩ = some (iv str) ∧ X.cell? ⟨b, 4, none⟩ = some (.slice wa S.length wc) ∧ FdIn C R gap str S ca ra wa cc rc wc X ∧ RowBut X W0.heap.size row 36 i j ∧ X.cell? ⟨W0.heap.size, i, none⟩ = some (cvG X W0.heap.size i) ∧ X.cell? ⟨W0.heap.size, j, none⟩ = some (cvG X W0.heap.size j) ∧ X.frozen? ⟨W0.heap.size, i, none⟩ = false ∧ X.frozen? ⟨W0.heap.size, j, none⟩ = false ∧ Below W0.heap.size W0 X) : ((X.setCell ⟨W0.heap.size, i, none⟩ u).setCell ⟨W0.heap.size, j, none⟩ v).cell? ⟨b, 0, none⟩ = some (.slice ca C.length cc) ∧ ((X.setCell ⟨W0.heap.size, i, none⟩ u).setCell ⟨W0.heap.size, j, none⟩ v).cell? ⟨b, 1, none⟩ = some (.slice ra R.length rc) ∧ ((X.setCell ⟨W0.heap.size, i, none⟩ u).setCell ⟨W0.heap.size, j, none⟩ v).cell? ⟨b, 2, none⟩ = some (iv gap) ∧ ((X.setCell ⟨W0.heap.size, i, none⟩ u).setCell ⟨W0.heap.size, j, none⟩ v).cell? ⟨b, 3, none⟩ = some (iv str) ∧ ((X.setCell ⟨W0.heap.size, i, none⟩ u).setCell ⟨W0.heap.size, j, none⟩ v).cell? ⟨b, 4, none⟩ = some (.slice wa S.length wc) ∧ FdIn C R gap str S ca ra wa cc rc wc ((X.setCell ⟨W0.heap.size, i, none⟩ u).setCell ⟨W0.heap.size, j, none⟩ v) ∧ RowBut ((X.setCell ⟨W0.heap.size, i, none⟩ u).setCell ⟨W0.heap.size, j, none⟩ v) W0.heap.size row 36 i j ∧ ((X.setCell ⟨W0.heap.size, i, none⟩ u).setCell ⟨W0.heap.size, j, none⟩ v).cell? ⟨W0.heap.size, i, none⟩ = some (cvG ((X.setCell ⟨W0.heap.size, i, none⟩ u).setCell ⟨W0.heap.size, j, none⟩ v) W0.heap.size i) ∧ ((X.setCell ⟨W0.heap.size, i, none⟩ u).setCell ⟨W0.heap.size, j, none⟩ v).cell? ⟨W0.heap.size, j, none⟩ = some (cvG ((X.setCell ⟨W0.heap.size, i, none⟩ u).setCell ⟨W0.heap.size, j, none⟩ v) W0.heap.size j) ∧ ((X.setCell ⟨W0.heap.size, i, none⟩ u).setCell ⟨W0.heap.size, j, none⟩ v).frozen? ⟨W0.heap.size, i, none⟩ = false ∧ ((X.setCell ⟨W0.heap.size, i, none⟩ u).setCell ⟨W0.heap.size, j, none⟩ v).frozen? ⟨W0.heap.size, j, none⟩ = false ∧ Below W0.heap.size W0 ((X.setCell ⟨W0.heap.size, i, none⟩ u).setCell ⟨W0.heap.size, j, none⟩ v) := by
  obtain ⟨h0, h1, h2, h3, h4, h5, h6, h7, h8, h9, h10, h11⟩ := h
  have hb2 : Below W0.heap.size W0 ((X.setCell ⟨W0.heap.size, i, none⟩ u).setCell ⟨W0.heap.size, j, none⟩ v) := bput (bput h11 (p := ⟨W0.heap.size, i, none⟩) (Nat.le_refl _) u) (p := ⟨W0.heap.size, j, none⟩) (Nat.le_refl _) v
  have hsame : ∀ o, ((X.setCell ⟨W0.heap.size, i, none⟩ u).setCell ⟨W0.heap.size, j, none⟩ v).cell? ⟨b, o, none⟩ = X.cell? ⟨b, o, none⟩ := fun o =>
    World.cell?_of_block ((Below.heap_setCell _ _ _ _ (Nat.ne_of_lt hb)).trans (Below.heap_setCell _ _ _ _ (Nat.ne_of_lt hb)))
  have hrb : RowBut ((X.setCell ⟨W0.heap.size, i, none⟩ u).setCell ⟨W0.heap.size, j, none⟩ v) W0.heap.size row 36 i j := ⟨u, v, h6.set u v⟩
  obtain ⟨⟨_, k1⟩, ⟨_, k2⟩, k3, k4⟩ := hrb.cell hi hj
  exact ⟨(hsame _).trans h0, (hsame _).trans h1, (hsame _).trans h2, (hsame _).trans h3, (hsame _).trans h4, hI.below hb2, hrb, cvG_of k1, cvG_of k2, k3, k4, hb2⟩
theorem dsx_start {C : List Tn} {R : List Int} {gap str : Int} {S : List Sp} {ca ra wa : Option Addr} {cc rc wc : Nat} {W0 X : World} {b : Nat} {f : List Int} {i j : Nat} (hI : FdIn C R gap str S ca ra wa cc rc wc W0) (hD : X.heap[b]? = some (.cells #[.slice ca C.length cc, .slice ra R.length rc, iv gap, iv str, .slice wa S.length wc] 70 (0, 0)))
    (hr : X.heap[W0.heap.size]? = some (.cells (rowI f) 36 (0, 0))) (hi : i < f.length) (hj : j < f.length) (hb : Below W0.heap.size W0 X) {row : Array Value} (hrow : row = rowI f) : X.cell? ⟨b, 0, none⟩ = some (.slice ca C.length cc) ∧ X.cell? ⟨b, 1, none⟩ = some (.slice ra R.length rc) ∧ X.cell? ⟨b, 2, none⟩ = some (iv gap) ∧ X.cell? ⟨b, 3, none⟩ = some (iv str) ∧ X.cell? ⟨b, 4, none⟩ = some (.slice wa S.length wc) ∧ FdIn C R gap str S ca ra wa cc rc wc X ∧ RowBut X W0.heap.size row 36 i j ∧ X.cell? ⟨W0.heap.size, i, none⟩ = some (cvG X W0.heap.size i) ∧ X.cell? ⟨W0.heap.size, j, none⟩ = some (cvG X W0.heap.size j) ∧ X.frozen? ⟨W0.heap.size, i, none⟩ = false ∧ X.frozen? ⟨W0.heap.size, j, none⟩ = false ∧ Below W0.heap.size W0 X := by
  subst hrow
  have hrb := RowBut.of hr hi hj
  obtain ⟨⟨_, k1⟩, ⟨_, k2⟩, k3, k4⟩ := hrb.cell (by rw [rowI_size]; exact hi) (by rw [rowI_size]; exact hj)
  refine ⟨?_, ?_, ?_, ?_, ?_, hI.below hb, hrb, cvG_of k1, cvG_of k2, k3, k4, hb⟩ <;> (rw [cell_of_row _ _ _ _ _ _ hD]; rfl)

theorem kcellG {W W1 : World} {b o : Nat} {v : Value} (hb : Below W.heap.size W W1) (h : W.cell? ⟨b, o, none⟩ = some v) : W1.cell? ⟨b, o, none⟩ = some v := (hb.cell (p := ⟨b, o, none⟩) (lt_of_cell h)).trans h
theorem kfrozenG {W W1 : World} {b o : Nat} {v : Value} (hb : Below W.heap.size W W1) (h : W.cell? ⟨b, o, none⟩ = some v) (hf : W.frozen? ⟨b, o, none⟩ = false) : W1.frozen? ⟨b, o, none⟩ = false := (hb.frozen (p := ⟨b, o, none⟩) (lt_of_cell h)).trans hf
set_option maxRecDepth 20000 in
set_option maxHeartbeats 6400000 in
theorem Dry_good (C : List Tn) (R : List Int) (gap str : Int) (S : List Sp) (ca ra wa : Option Addr) (cc rc wc fr : Nat) (w : World) (hI : FdIn C R gap str S ca ra wa cc rc wc w) (hok : FdOk C R gap str S) (hh : fr ≤ S.length) :
    Calls Try.prog 12 #[.agg #[.slice ca C.length cc, .slice ra R.length rc, iv gap, iv str], .slice wa S.length wc, iv fr] w (DryRes C S fr w) := by
  obtain ⟨i0, hi, hz0, hz1, hz2⟩ := info_parts infoSpG
  have hln : C.length ≤ 7 := hok.len
  have HIF := Lib.hid hi; have HZ0 := Lib.hid hz0; have HZ1 := Lib.hid hz1
  have HBY := Lib.hid (show i0.bytes * C.length ≤ 281474976710656 by rw [hz2]; omega)
  have HML := Lib.hid (show C.length ≤ maxLen by unfold maxLen; omega)
  have HI := Lib.hid hI
  have HO := Lib.hid (fun (W : World) (h : FdIn C R gap str S ca ra wa cc rc wc W) => fdOpen_good C R gap str S ca ra wa cc rc wc fr W h hok hh)
  have HE := Lib.hid (fun (k : Nat) (c : Tn) (hk : C[k]? = some c) (W : World) (h : FdIn C R gap str S ca ra wa cc rc wc W) => earliest_any C ca ra wa cc R.length rc wc k gap str fr S c W h.cl hk h.we hok.sv hok.sl.2 hh (hok.tn hk))
  have HL := Lib.hid (fun (k : Nat) (c : Tn) (hk : C[k]? = some c) (W : World) (h : FdIn C R gap str S ca ra wa cc rc wc W) => latest_any C ca ra wa cc R.length rc wc k gap str fr S c W h.cl hk h.we hok.sv hok.sl.2 hh (hok.tn hk))
  clear hi hz0 hz1 hz2 hI hok hh
  go_enter Try.func12, Try.ntmps12
  go_wp2_with fail
  refine (HO.out _ (HI.out.below (by repeat (first | exact Below.refl _ _ | refine Below.drew ?_ | refine bpush ?_ _ | refine bput ?_ (by simp) _ | (refine bstep ?_ (by assumption)))))).mono ?_
  rintro e w1 ⟨rfl, hb⟩
  have hbw : Below w.heap.size w w1 := bstep (by repeat (first | exact Below.refl _ _ | refine Below.drew ?_ | refine bpush ?_ _ | refine bput ?_ (by simp) _ | (refine bstep ?_ (by assumption)))) hb
  have hr1 := (hb.block w.heap.size (by simp)).trans (heap_new w #[.slice ca C.length cc, .slice ra R.length rc, iv gap, iv str] 43)
  have hz1 : w.heap.size < w1.heap.size := by have := hb.size; simp at this; omega
  obtain ⟨Wn, hWn⟩ : ∃ W : World, w1.alloc (.cells #[.slice ca C.length cc, .slice ra R.length rc, iv gap, iv str, .slice wa S.length wc] 70) = W := ⟨_, rfl⟩
  have hBn : Below w1.heap.size w1 Wn := by rw [← hWn]; exact bpush (Below.refl _ _) _
  have hdn : Wn.heap[w1.heap.size]? = some (.cells #[.slice ca C.length cc, .slice ra R.length rc, iv gap, iv str, .slice wa S.length wc] 70 (0, 0)) := by rw [← hWn]; exact heap_new _ _ _
  have hzn : Wn.heap.size = w1.heap.size + 1 := by rw [← hWn]; simp
  have hfn := (hBn.block w.heap.size hz1).trans hr1
  have HB := Lib.hid (bstep hbw hBn); have HD := Lib.hid hdn; have HFN := Lib.hid hfn; have HZ := Lib.hid hzn
  have c00 : Wn.cell? ⟨w.heap.size, 0, none⟩ = some (.slice ca C.length cc) := by rw [cell_of_row _ _ _ _ _ _ hfn]; rfl
  clear hb hbw hr1 hBn hdn hfn hzn
  go_wp2_with (
    with_reducible change wpList _ _ _ (Oper.mk _ (Op.makeSlice 27 _ _) _ _ _ _ :: _) _ _
    refine wpList_make_full _ rfl _ _ 27 rfl Wn.heap.size 36 i0 (.agg #[.int .i64 0, .int .i64 0]) 2 Try.underlying27 HIF.out HZ0.out HZ1.out .i64 .i64 C.length C.length C.length rfl rfl rfl rfl HBY.out HML.out (Nat.le_refl _) ?_
    intro w2 hown hgrow
    have hl2 := span_newG hown
    have hB2 : Below Wn.heap.size Wn w2 := ⟨hgrow.os, hgrow.tape, hgrow.output, hgrow.size, fun q hq => hgrow.block q hq (by simp)⟩
    have hd2 := (hB2.block _ (by have := HZ.out; omega)).trans HD.out
    have hf2 := (hB2.block _ (by have := HZ.out; omega)).trans HFN.out
    have HL2 := Lib.hid hl2; have HBW := Lib.hid hB2; have HD2 := Lib.hid hd2; have HF2 := Lib.hid hf2
    have c0 : w2.cell? ⟨w.heap.size, 0, none⟩ = some (.slice ca C.length cc) := by rw [cell_of_row _ _ _ _ _ _ hf2]; rfl
    clear hown hgrow hl2 hB2 hd2 hf2 hWn)
  obtain ⟨D, hD⟩ : ∃ D : List Sp, C.map (dryS S fr) = D := ⟨_, rfl⟩
  have hDl : D.length = C.length := by rw [← hD]; simp
  have HDG := Lib.hid (show ∀ (k : Nat) (c : Tn), C[k]? = some c → D[k]? = some (dryS S fr c) from fun k c hk => by rw [← hD, List.getElem?_map, hk]; rfl)
  have HDL := Lib.hid hDl
  have HIn := Lib.hid (HI.out.below HB.out)
  have hzb : w1.heap.size < Wn.heap.size := by have := HZ.out; omega
  have HBn2 := HB.out
  have HDD := Lib.hid hD
  clear hD hDl c00 HBn2
  go_loopw [29, 11] (fun i _ wr => ∃ k : Nat, k ≤ C.length ∧ i = iv k ∧ Hid (wr.heap[Wn.heap.size]? = some (.cells (rowI (flS D C.length k)) 36 (0, 0))) ∧ Hid (Below Wn.heap.size Wn wr)) (fun i _ _ => C.length - (intOf i).toNat)
  case atStart => exact ⟨0, Nat.zero_le _, rfl, by rw [flS_zero]; exact HL2.out, HBW.out⟩
  case round =>
    obtain ⟨k, hk, rfl, HRW, HBR⟩ := hrel
    clear c0
    by_cases hlt : k < C.length
    · obtain ⟨c, hc⟩ := getElem?_of_lt hlt
      have HEk := Lib.hid (HE.out k c hc); have HLk := Lib.hid (HL.out k c hc)
      have HDk := Lib.hid (HDG.out k c hc)
      obtain ⟨i, hi⟩ : ∃ i, k * 2 = i := ⟨_, rfl⟩
      obtain ⟨j, hj⟩ : ∃ j, k * 2 + 1 = j := ⟨_, rfl⟩
      obtain ⟨row, hrow⟩ : ∃ row, row = rowI (flS D C.length k) := ⟨_, rfl⟩
      have hfl := flS_len HDL.out hk
      have hrs : row.size = C.length * 2 := by rw [hrow, rowI_size, hfl]
      obtain ⟨x0, x1, x2, x3, x4, x5, x6, x7, x8, x9, x10, x11⟩ := dsx_start (b := w1.heap.size) (i := i) (j := j) HIn.out ((HBR.out.block _ hzb).trans HD.out) HRW.out (by omega) (by omega) HBR.out hrow
      obtain ⟨el, hel⟩ : ∃ n : Nat, earL c S fr = n := ⟨_, rfl⟩
      obtain ⟨la, hla⟩ : ∃ n : Nat, latL c S fr = n := ⟨_, rfl⟩
      rw [hel] at HEk
      rw [hla] at HLk
      have HDk2 : Hid (D[k]? = some ((el : Int), (la : Int))) := by rw [HDk.out]; unfold dryS; rw [hel, hla]; rfl
      have hij : i ≠ j := by omega
      have hir : i < row.size := by omega
      have hjr : j < row.size := by omega
      have HROW := Lib.hid hrow
      have HII := Lib.hid (And.intro hi hj)
      clear hc hrow hfl hel hla HE HL HDk
      subst hi hj
      go_wp2_with fail
      go_region_held3 (fun w' => w'.cell? ⟨w1.heap.size, 0, none⟩ = some (.slice ca C.length cc) ∧ w'.cell? ⟨w1.heap.size, 1, none⟩ = some (.slice ra R.length rc) ∧ w'.cell? ⟨w1.heap.size, 2, none⟩ = some (iv gap) ∧ w'.cell? ⟨w1.heap.size, 3, none⟩ = some (iv str) ∧ w'.cell? ⟨w1.heap.size, 4, none⟩ = some (.slice wa S.length wc) ∧ FdIn C R gap str S ca ra wa cc rc wc w' ∧ RowBut w' Wn.heap.size row 36 (k * 2) (k * 2 + 1) ∧ w'.cell? ⟨Wn.heap.size, k * 2, none⟩ = some (cvG w' Wn.heap.size (k * 2)) ∧ w'.cell? ⟨Wn.heap.size, k * 2 + 1, none⟩ = some (cvG w' Wn.heap.size (k * 2 + 1)) ∧ w'.frozen? ⟨Wn.heap.size, k * 2, none⟩ = false ∧ w'.frozen? ⟨Wn.heap.size, k * 2 + 1, none⟩ = false ∧ Below Wn.heap.size Wn w')
        (first | exact keepDry HIn.out hzb hir hjr (by assumption) | (go_split_ands; refine ⟨?_, ?_, ?_, ?_, ?_, ?_, ?_, ?_, ?_, ?_, ?_, ?_⟩ <;> first | exact cvG_of (kcellG hbK (by assumption)) | exact kcellG hbK (by assumption) | exact kfrozenG hbK (by assumption) (by assumption) | exact FdIn.below (by assumption) hbK | exact RowBut.below (by assumption) hbK | exact bstep (by assumption) hbK) | (refine ⟨?_, ?_, ?_, ?_, ?_, ?_, ?_, ?_, ?_, ?_, ?_, ?_⟩ <;> first | assumption | exact FdIn.below (by assumption) ((Below.refl _ _).drew) | exact RowBut.below (by assumption) ((Below.refl _ _).drew) | exact Below.drew (by assumption)))
        (first | (go_split_ands; (with_reducible refine (HEk.out _ (by assumption)).mono ?_); rintro e wO ⟨rfl, hbK⟩) | (go_split_ands; (with_reducible refine (HLk.out _ (by assumption)).mono ?_); rintro e wO ⟨rfl, hbK⟩))
      all_goals
        rename_i hHeld
        have HX := Lib.hid (RowBut.fix hij hir hjr hHeld.2.2.2.2.2.2.1)
        have HBX := Lib.hid hHeld.2.2.2.2.2.2.2.2.2.2.2
        have HST := Lib.hid (flS_succ HDL.out HDk2.out)
        clear hHeld x0 x1 x2 x3 x4 x5 x6 x7 x8 x9 x10 x11
        go_wp2_with fail
        go_roundw
        case rel => exact ⟨k + 1, by omega, by go_num, HX.out.trans (by rw [HROW.out, rowI_set, rowI_set, HST.out]), HBX.out⟩
        case measure => simp [intOf]; omega
    · obtain rfl : k = C.length := by omega
      go_wp2_with fail
      go_ret2
      exact ⟨_, rfl, by rw [HDD.out]; exact slice_flS HDL.out (by omega) HRW.out, bstep HB.out HBR.out⟩
end Go.Proofs.Ytkialkfplhhenaa

/- A yard: at which lengths cloths can be hung. -/
namespace Go.Proofs.Ytkialkfplhhenaa
open Go Go.RowKit Go.Shelf
attribute [local go_sem ↓] Go.wp_at_zero Go.wp_at_succ

/-- At which length a cloth may hang at most. -/
def permI (str own : Int) : Int := own * (1000 + str) / 1000
def lenS (str : Int) (c : Tn) : Sp := if permI str c.1.1 < c.1.2 then (1, 0) else (c.1.2, permI str c.1.1)

set_option maxRecDepth 20000 in
set_option maxHeartbeats 1600000 in
theorem permitted_any (ca ra ha : Option Addr) (cn cc rn rc hn hc : Nat) (gap str own : Int) (w : World) (h0 : 0 ≤ own ∧ own ≤ 2000) (h1 : 0 ≤ str ∧ str ≤ 200) :
    Calls Try.prog 50 #[.agg #[.slice ca cn cc, .slice ra rn rc, iv gap, iv str, .slice ha hn hc], iv own] w fun e w' => e = .returned (iv (permI str own)) ∧ Below w.heap.size w w' := by
  have hm0 : 0 ≤ own * (1000 + str) := Int.mul_nonneg h0.1 (by omega)
  have hm1 : own * (1000 + str) ≤ 2000 * 1200 := Int.mul_le_mul h0.2 (by omega) (by omega) (by omega)
  have e1 : IntKind.i64.wrap (1000 + str) = 1000 + str := IntWalk.i64_in _ ⟨by omega, by omega⟩
  have e2 : IntKind.i64.wrap (own * (1000 + str)) = own * (1000 + str) := IntWalk.i64_in _ ⟨by omega, by omega⟩
  have e3 : (own * (1000 + str)).tdiv 1000 = permI str own := Int.tdiv_eq_ediv_of_nonneg hm0
  have e4 : IntKind.i64.wrap (permI str own) = permI str own := IntWalk.i64_in _ ⟨by unfold permI; omega, by unfold permI; omega⟩
  generalize permI str own = pp at *
  clear hm0 hm1 h0 h1
  go_enter Try.func50, Try.ntmps50
  go_wp2_with fail
  go_ret
  exact ⟨rfl, (by repeat (first | exact Below.refl _ _ | refine Below.drew ?_ | refine bpush ?_ _ | refine bput ?_ (by simp) _ | (refine bstep ?_ (by assumption))))⟩

theorem lenKeep {X Y W3 : World} {q0 q1 q2 q3 q4 q5 q6 : Addr} {v0 v1 v2 v3 v4 v5 v6 : Value} (hb : Below X.heap.size X Y) (h : X.cell? q0 = some v0 ∧ X.cell? q1 = some v1 ∧ X.cell? q2 = some v2 ∧ X.cell? q3 = some v3 ∧ X.cell? q4 = some v4 ∧ X.cell? q5 = some v5 ∧ X.cell? q6 = some v6 ∧ Below W3.heap.size W3 X) :
    Hid (Y.cell? q0 = some v0 ∧ Y.cell? q1 = some v1 ∧ Y.cell? q2 = some v2 ∧ Y.cell? q3 = some v3 ∧ Y.cell? q4 = some v4 ∧ Y.cell? q5 = some v5 ∧ Y.cell? q6 = some v6) := by
  obtain ⟨h0, h1, h2, h3, h4, h5, h6, -⟩ := h
  have key : ∀ {q : Addr} {v : Value}, X.cell? q = some v → Y.cell? q = some v := fun {q v} h => (hb.cell (p := q) (World.block_lt_of_cell? X _ h)).trans h
  exact ⟨key h0, key h1, key h2, key h3, key h4, key h5, key h6⟩
theorem cset2G {W : World} {g b o : Nat} {v0 v1 : Value} (hg : b ≠ g) : ((W.setCell ⟨g, 0, none⟩ v0).setCell ⟨g, 1, none⟩ v1).cell? ⟨b, o, none⟩ = W.cell? ⟨b, o, none⟩ :=
  World.cell?_of_block ((Below.heap_setCell _ _ _ _ hg).trans (Below.heap_setCell _ _ _ _ hg))
theorem bset2G {w W : World} {g : Nat} {v0 v1 : Value} (h : Below w.heap.size w W) (hg : w.heap.size ≤ g) : Below w.heap.size w ((W.setCell ⟨g, 0, none⟩ v0).setCell ⟨g, 1, none⟩ v1) :=
  bput (p := ⟨g, 1, none⟩) (bput (p := ⟨g, 0, none⟩) h hg v0) hg v1
/-- A span lies at p. -/
def LenCut (W3 : World) (l2 pp : Int) (p : Value) (wx : World) : Prop := ∃ g, p = .pointer (some ⟨g, 0, none⟩) ∧ Below W3.heap.size W3 wx ∧ wx.cell? ⟨g, 0, none⟩ = some (iv l2) ∧ wx.cell? ⟨g, 1, none⟩ = some (iv pp)
theorem lenA {W3 w3 : World} {l2 pp : Int} {t : TypeId} (h : Below W3.heap.size W3 w3) : LenCut W3 l2 pp (.pointer (some ⟨w3.heap.size, 0, none⟩)) (w3.alloc (.cells #[iv l2, iv pp] t)) := by
  have hr := heap_new w3 #[iv l2, iv pp] t
  refine ⟨_, rfl, bpush h _, ?_, ?_⟩ <;> (rw [cell_of_row _ _ _ _ _ _ hr]; rfl)
theorem lenB {W3 w3 : World} {l2 pp : Int} {g : Nat} (h : Below W3.heap.size W3 w3) (hg : W3.heap.size ≤ g) (k0 : w3.cell? ⟨g, 0, none⟩ = some (iv 0)) (k1 : w3.cell? ⟨g, 1, none⟩ = some (iv 0)) :
    LenCut W3 l2 pp (.pointer (some ⟨g, 0, none⟩)) ((w3.setCell ⟨g, 0, none⟩ (iv l2)).setCell ⟨g, 1, none⟩ (iv pp)) := by
  refine ⟨g, rfl, bset2G h hg, ?_, ?_⟩
  all_goals go_simp
theorem kdrewG {X : World} {a : Addr} {v : Value} (h : X.cell? a = some v) : X.drew.cell? a = some v := h
theorem kpushG {X : World} {a : Addr} {v : Value} {o : Obj} (h : X.cell? a = some v) : (X.alloc o).cell? a = some v := (World.cell?_alloc_lt _ _ _ (World.block_lt_of_cell? X _ h)).trans h
set_option maxRecDepth 20000 in
set_option maxHeartbeats 3200000 in
theorem lengths_any (C : List Tn) (ca ra ha : Option Addr) (cc rn rc hn hc k : Nat) (gap str : Int) (c : Tn) (w : World) (hC : SliceOf encN 4 w (.slice ca C.length cc) C) (hk : C[k]? = some c) (hv : vTn c = true) (h1 : 0 ≤ str ∧ str ≤ 200) :
    Calls Try.prog 41 #[.agg #[.slice ca C.length cc, .slice ra rn rc, iv gap, iv str, .slice ha hn hc], iv k] w fun e w' => e = .returned (.agg #[iv (lenS str c).1, iv (lenS str c).2]) ∧ Below w.heap.size w w' := by
  obtain ⟨Wb, hWb⟩ : ∃ W : World, (w.alloc (.cells #[.slice ca C.length cc, .slice ra rn rc, iv gap, iv str, .slice ha hn hc] 95)).alloc (.cells #[.int .i64 0, .int .i64 0] 36) = W := ⟨_, rfl⟩
  have hBb : Below w.heap.size w Wb := by rw [← hWb]; exact bpush (bpush (Below.refl _ _) _) _
  have hRb : Wb.heap[w.heap.size]? = some (.cells #[.slice ca C.length cc, .slice ra rn rc, iv gap, iv str, .slice ha hn hc] 95 (0, 0)) := by rw [← hWb, Below.heap_alloc _ _ _ (by simp)]; exact heap_new _ _ _
  have hRc : Wb.heap[w.heap.size + 1]? = some (.cells #[.int .i64 0, .int .i64 0] 36 (0, 0)) := by
    rw [← hWb]
    have := heap_new (w.alloc (.cells #[.slice ca C.length cc, .slice ra rn rc, iv gap, iv str, .slice ha hn hc] 95)) #[.int .i64 0, .int .i64 0] 36
    rwa [World.size_alloc] at this
  have hzb : Wb.heap.size = w.heap.size + 2 := by rw [← hWb]; simp
  have HB := Lib.hid hBb; have HR := Lib.hid hRb; have HRc := Lib.hid hRc
  obtain ⟨b, off, rfl, hj⟩ := sl_rowG (hC.below hBb) hk
  have hkl := (List.getElem?_eq_some_iff.1 hk).1
  simp only [vTn, Bool.and_eq_true] at hv
  obtain ⟨p1, p2, p3, p4, p5⟩ := okSpan_iff.1 hv.1
  obtain ⟨⟨l1, l2⟩, m1, m2⟩ := c
  have p1 : 1 ≤ l1 := p1; have p2 : l1 ≤ 2000 := p2
  have HP := Lib.hid (fun (W : World) => permitted_any (some ⟨b, off, none⟩) ra ha C.length cc rn rc hn hc gap str l1 W ⟨by omega, p2⟩ h1)
  have HL : Hid (lenS str ((l1, l2), (m1, m2)) = if permI str l1 < l2 then (1, 0) else (l2, permI str l1)) := rfl
  generalize permI str l1 = pp at *
  have x0 : Wb.cell? ⟨b, off + k * 4, none⟩ = some (iv l1) := hj 0 _ rfl
  have x1 : Wb.cell? ⟨b, off + k * 4 + 1, none⟩ = some (iv l2) := hj 1 _ rfl
  have c0 : Wb.cell? ⟨w.heap.size, 0, none⟩ = some (.slice (some ⟨b, off, none⟩) C.length cc) := by rw [cell_of_row _ _ _ _ _ _ hRb]; rfl
  clear hBb hRb hRc hj hk hC hv p1 p2 p3 p4 p5 h1
  go_enter Try.func41, Try.ntmps41
  go_wp2_with fail
  obtain ⟨W3, hW3⟩ : ∃ W : World, Wb.alloc (.cells #[.int .i64 l1, .int .i64 l2] 36) = W := ⟨_, rfl⟩
  have hB3 : Below Wb.heap.size Wb W3 := by rw [← hW3]; exact bpush (Below.refl _ _) _
  have hR3 : W3.heap[w.heap.size + 2]? = some (.cells #[.int .i64 l1, .int .i64 l2] 36 (0, 0)) := by
    rw [← hW3]
    have := heap_new Wb #[.int .i64 l1, .int .i64 l2] 36
    rwa [hzb] at this
  have hRb3 := bblkG hB3 HR.out
  have hRc3 := bblkG hB3 HRc.out
  rw [hW3]
  have o0 : W3.cell? ⟨w.heap.size + 2, 0, none⟩ = some (iv l1) := by rw [cell_of_row _ _ _ _ _ _ hR3]; rfl
  have o1 : W3.cell? ⟨w.heap.size + 2, 1, none⟩ = some (iv l2) := by rw [cell_of_row _ _ _ _ _ _ hR3]; rfl
  have d0 : W3.cell? ⟨w.heap.size, 0, none⟩ = some (.slice (some ⟨b, off, none⟩) C.length cc) := by rw [cell_of_row _ _ _ _ _ _ hRb3]; rfl
  have d1 : W3.cell? ⟨w.heap.size, 1, none⟩ = some (.slice ra rn rc) := by rw [cell_of_row _ _ _ _ _ _ hRb3]; rfl
  have d2 : W3.cell? ⟨w.heap.size, 2, none⟩ = some (iv gap) := by rw [cell_of_row _ _ _ _ _ _ hRb3]; rfl
  have d3 : W3.cell? ⟨w.heap.size, 3, none⟩ = some (iv str) := by rw [cell_of_row _ _ _ _ _ _ hRb3]; rfl
  have d4 : W3.cell? ⟨w.heap.size, 4, none⟩ = some (.slice ha hn hc) := by rw [cell_of_row _ _ _ _ _ _ hRb3]; rfl
  have hbz : Below W3.heap.size W3 W3 := Below.refl _ _
  have HB3 := Lib.hid (bstep HB.out hB3)
  have HRC3 := Lib.hid hRc3
  have hzc : w.heap.size + 1 < W3.heap.size := (Array.getElem?_eq_some_iff.1 hRc3).1
  have hze : w.heap.size + 2 < W3.heap.size := (Array.getElem?_eq_some_iff.1 hR3).1
  clear hWb hW3 hB3 hR3 hRb3 hRc3 c0 x0 x1 hzb HB HR HRc
  go_cut [6] (fun p wx => LenCut W3 l2 pp p wx)
  case first =>
    go_region_held3 (fun w' => w'.cell? ⟨w.heap.size, 0, none⟩ = some (.slice (some ⟨b, off, none⟩) C.length cc) ∧ w'.cell? ⟨w.heap.size, 1, none⟩ = some (.slice ra rn rc) ∧ w'.cell? ⟨w.heap.size, 2, none⟩ = some (iv gap) ∧ w'.cell? ⟨w.heap.size, 3, none⟩ = some (iv str) ∧ w'.cell? ⟨w.heap.size, 4, none⟩ = some (.slice ha hn hc) ∧ w'.cell? ⟨w.heap.size + 2, 0, none⟩ = some (iv l1) ∧ w'.cell? ⟨w.heap.size + 2, 1, none⟩ = some (iv l2) ∧ Below W3.heap.size W3 w')
      (first | (with_reducible exact ⟨kpushG hS0.out.1, kpushG hS0.out.2.1, kpushG hS0.out.2.2.1, kpushG hS0.out.2.2.2.1, kpushG hS0.out.2.2.2.2.1, kpushG hS0.out.2.2.2.2.2.1, kpushG hS0.out.2.2.2.2.2.2, bpush hSt _⟩) | ((with_reducible refine ⟨(cset2G ?_).trans hS0.out.1, (cset2G ?_).trans hS0.out.2.1, (cset2G ?_).trans hS0.out.2.2.1, (cset2G ?_).trans hS0.out.2.2.2.1, (cset2G ?_).trans hS0.out.2.2.2.2.1, (cset2G ?_).trans hS0.out.2.2.2.2.2.1, (cset2G ?_).trans hS0.out.2.2.2.2.2.2, bset2G hSt ?_⟩) <;> omega) | (with_reducible exact ⟨hS0.out.1, hS0.out.2.1, hS0.out.2.2.1, hS0.out.2.2.2.1, hS0.out.2.2.2.2.1, hS0.out.2.2.2.2.2.1, hS0.out.2.2.2.2.2.2, hSt⟩) | (refine ⟨?_, ?_, ?_, ?_, ?_, ?_, ?_, ?_⟩ <;> first | exact Below.drew (by assumption) | assumption) | (go_split_ands; refine ⟨?_, ?_, ?_, ?_, ?_, ?_, ?_, ?_⟩ <;> first | assumption | exact kcell (bpush (Below.refl _ _) _) (by assumption) | exact bpush (by assumption) _))
      (first | ((with_reducible refine (HP.out _).mono ?_); rintro e wO ⟨rfl, hbK⟩; have hSt : Below W3.heap.size W3 wO := bstep (And.right (And.right (And.right (And.right (And.right (And.right (And.right (by assumption)))))))) hbK; have hS0 := lenKeep hbK (by assumption); obtain ⟨hKc, hKf⟩ := bcell hbK; have hKz := hbK.size; (try simp [Nat.add_one_le_iff] at hKz); have hSz := hSt.size))
    all_goals
      go_wp2_with fail
      go_meet
      first
        | (with_reducible exact lenA hSt)
        | (refine lenB hSt (by omega) ?_ ?_ <;> (go_simp; done))
  case rest =>
    obtain ⟨g, rfl, hBC, k0, k1⟩ := hcut
    have hrc := (hBC.block (w.heap.size + 1) hzc).trans HRC3.out
    have y0 : wc.cell? ⟨w.heap.size + 1, 0, none⟩ = some (.int .i64 0) := by rw [cell_of_row _ _ _ _ _ _ hrc]; rfl
    have y1 : wc.cell? ⟨w.heap.size + 1, 1, none⟩ = some (.int .i64 0) := by rw [cell_of_row _ _ _ _ _ _ hrc]; rfl
    have z0 : wc.frozen? ⟨w.heap.size + 1, 0, none⟩ = false := by unfold World.frozen?; rw [hrc]; rfl
    have z1 : wc.frozen? ⟨w.heap.size + 1, 1, none⟩ = false := by unfold World.frozen?; rw [hrc]; rfl
    have HBC := Lib.hid (bstep HB3.out hBC)
    have HRC := Lib.hid hrc
    clear hBC hrc o0 o1 d0 d1 d2 d3 d4 hbz
    by_cases hlt : pp < l2
    · have HV : Hid (lenS str ((l1, l2), (m1, m2)) = (1, 0)) := by rw [HL.out, if_pos hlt]; rfl
      go_wp2_with fail
      have e0 : ((wc.setCell ⟨w.heap.size + 1, 0, none⟩ (iv 1)).setCell ⟨w.heap.size + 1, 1, none⟩ (iv 0)).cell? ⟨w.heap.size + 1, 0, none⟩ = some (iv 1) := by go_simp
      have e1 : ((wc.setCell ⟨w.heap.size + 1, 0, none⟩ (iv 1)).setCell ⟨w.heap.size + 1, 1, none⟩ (iv 0)).cell? ⟨w.heap.size + 1, 1, none⟩ = some (iv 0) := by go_simp
      exact bodyPost_ret (v := .agg #[iv 1, iv 0]) (by simp [results, Try.results41, go_sem, e0, e1]) rfl ⟨by rw [HV.out], bput (p := ⟨w.heap.size + 1, 1, none⟩) (bput (p := ⟨w.heap.size + 1, 0, none⟩) HBC.out (Nat.le_succ _) _) (Nat.le_succ _) _⟩
    · have HV : Hid (lenS str ((l1, l2), (m1, m2)) = (l2, pp)) := by rw [HL.out, if_neg hlt]; rfl
      go_wp2_with fail
      have e0 : ((wc.setCell ⟨w.heap.size + 1, 0, none⟩ (iv l2)).setCell ⟨w.heap.size + 1, 1, none⟩ (iv pp)).cell? ⟨w.heap.size + 1, 0, none⟩ = some (iv l2) := by go_simp
      have e1 : ((wc.setCell ⟨w.heap.size + 1, 0, none⟩ (iv l2)).setCell ⟨w.heap.size + 1, 1, none⟩ (iv pp)).cell? ⟨w.heap.size + 1, 1, none⟩ = some (iv pp) := by go_simp
      exact bodyPost_ret (v := .agg #[iv l2, iv pp]) (by simp [results, Try.results41, go_sem, e0, e1]) rfl ⟨by rw [HV.out], bput (p := ⟨w.heap.size + 1, 1, none⟩) (bput (p := ⟨w.heap.size + 1, 0, none⟩) HBC.out (Nat.le_succ _) _) (Nat.le_succ _) _⟩
end Go.Proofs.Ytkialkfplhhenaa

/- A yard is made. -/
namespace Go.Proofs.Ytkialkfplhhenaa
open Go Go.RowKit Go.Shelf
attribute [local go_sem ↓] Go.wp_at_zero Go.wp_at_succ

def encV1 (v : Option Nat) : List Value := [.map v]
theorem encV1_len (v : Option Nat) : (encV1 v).length = 1 := rfl
theorem encV1_cell {W : World} {g : Nat} {v : Option Nat} (h : W.cell? ⟨g, 0, none⟩ = some (.map v)) : ∀ j u, (encV1 v)[j]? = some u → W.cell? ⟨g, j, none⟩ = some u := by
  intro j u hu
  rcases j with _ | j
  · simp only [encV1, List.getElem?_cons_zero, Option.some.injEq] at hu
    rw [← hu]; exact h
  · simp [encV1] at hu
theorem owns_addrG {α : Type} {enc : α → List Value} {sz e base : Nat} {w : World} {v : Value} {xs : List α} (h : Owns enc sz e base w v xs) (hne : 0 < xs.length) : ∃ g c, v = .slice (some ⟨g, 0, none⟩) xs.length c := by
  obtain ⟨h1, h2⟩ := h
  rcases h2 with ⟨rfl, h0⟩ | ⟨g, cap, cur, rfl, -⟩
  · omega
  · exact ⟨g, _, rfl⟩

theorem results_row1 {P : Program} {fn : Func} {w : World} {p : Tmp} {ty t : TypeId} {g : Nat} {cs : Array Value} {d : TypeDesc} (h : fn.results = #[.cell p ty]) (tmps : Array Value) (hp : tmps.getD p undef = .pointer (some ⟨g, 0, none⟩))
    (hg : w.heap[g]? = some (.cells cs t (0, 0))) (hu : P.underlying ty = some d) (hd : (match d with | .struct _ | .array _ _ => true | _ => false) = true) (hi : (P.info? ty).map (·.size) = some cs.size) :
    (results fn tmps).run P w = .ok (.agg cs) w := by
  have e : tmps[p]?.getD undef = .pointer (some ⟨g, 0, none⟩) := by simpa using hp
  simp [results, h, e, asAddr, run_loadVar_row w g t ty cs (0, 0) d hg hu hd hi]
theorem sinfoYd (cs : Array Value) (h : cs.size = 5) : (Try.prog.info? 95).map (·.size) = some cs.size := by rw [h]; kernel_rfl
theorem infoMp : (Try.prog.info? 106).map (fun i => (i.zero, i.size, i.bytes)) = some (some (.map none), 1, 8) := by kernel_rfl
theorem grown_setG (W : World) (g o : Nat) (u : Value) : W.grownBy (W.setCell ⟨g, o, none⟩ u) (some g) :=
  ⟨rfl, rfl, rfl, by simp [World.setCell], fun k hk hne => Below.heap_setCell _ _ _ _ (fun e => hne (by rw [e]))⟩
theorem owns_setG {α : Type} {enc : α → List Value} {sz e base : Nat} {W : World} {v : Value} {F : List α} {g : Nat} (h : Owns enc sz e base W v F) (hg : g < base) (o : Nat) (u : Value) : Owns enc sz e base (W.setCell ⟨g, o, none⟩ u) v F := by
  refine World.ownsRow.kept h (grown_setG _ _ _ _) ?_
  cases hv : v.ownBlock with
  | none => exact .inl rfl
  | some q =>
    have := (World.ownsRow.lt h q hv).1
    refine .inr (fun e => ?_)
    simp only [Option.some.injEq] at e; omega
/-- A yard that is being made. -/
structure YdInv (ca ra : Option Addr) (cn cc rn rc : Nat) (gap str : Int) (w : World) (k : Nat) (tv : Value) (wr : World) : Prop where
  B : Below w.heap.size w wr
  S : w.heap.size + 3 ≤ wr.heap.size
  h0 : wr.heap[w.heap.size]? = some (.cells #[.slice ca cn cc, .slice ra rn rc, iv gap, iv str] 43 (0, 0))
  h1 : wr.heap[w.heap.size + 1]? = some (.cells #[.slice none 0 0, .slice none 0 0, iv 0, iv 0, .slice none 0 0] 95 (0, 0))
  h2 : wr.heap[w.heap.size + 1 + 1]? = some (.cells #[.slice ca cn cc, .slice ra rn rc, iv gap, iv str, tv] 95 (0, 0))
  O : ∃ xs : List (Option Nat), xs.length = k ∧ Owns encV1 1 106 (w.heap.size + 3) wr tv xs
theorem YdInv.slice {ca ra : Option Addr} {cn cc rn rc : Nat} {gap str : Int} {w : World} {k : Nat} {tv : Value} {wr : World} (h : YdInv ca ra cn cc rn rc gap str w k tv wr) : ∃ a n c, tv = .slice a n c := by
  obtain ⟨xs, -, hO⟩ := h.O
  rcases hO.2 with ⟨h0, _⟩ | ⟨g', cap, cur, h0, _⟩ <;> exact ⟨_, _, _, h0⟩
theorem yd_done {ca ra : Option Addr} {cn cc rn rc : Nat} {gap str : Int} {w : World} {k : Nat} {tv v' : Value} {wr wa w2 : World} {y : Option Nat} {xs : List (Option Nat)} (h : YdInv ca ra cn cc rn rc gap str w k tv wr) (hx : xs.length = k) (ha : Below wr.heap.size wr wa)
    (ho : Owns encV1 1 106 (w.heap.size + 3) w2 v' (xs ++ [y])) (hb : Below (w.heap.size + 3) wa w2) :
    YdInv ca ra cn cc rn rc gap str w (k + 1) v' (w2.setCell ⟨w.heap.size + 1 + 1, 4, none⟩ v') := by
  have hs := h.S
  have hza := ha.size
  have hz2 := hb.size
  have hB : Below w.heap.size w w2 := h.B.trans ((ha.mono (by omega)).trans (hb.mono (by omega)))
  have r0 := (hb.block w.heap.size (by omega)).trans ((ha.block w.heap.size (by omega)).trans h.h0)
  have r1 := (hb.block (w.heap.size + 1) (by omega)).trans ((ha.block (w.heap.size + 1) (by omega)).trans h.h1)
  have r2 := (hb.block (w.heap.size + 1 + 1) (by omega)).trans ((ha.block (w.heap.size + 1 + 1) (by omega)).trans h.h2)
  refine ⟨hB.setCell (p := ⟨w.heap.size + 1 + 1, 4, none⟩) (by show w.heap.size ≤ w.heap.size + 1 + 1; omega) _, by simp [World.setCell]; omega, ?_, ?_, ?_, xs ++ [y], by simp [hx], owns_setG ho (by omega) _ _⟩
  · rw [Below.heap_setCell _ _ _ _ (by show w.heap.size ≠ w.heap.size + 1 + 1; omega)]; exact r0
  · rw [Below.heap_setCell _ _ _ _ (by show w.heap.size + 1 ≠ w.heap.size + 1 + 1; omega)]; exact r1
  · exact heap_setCell_same _ _ 4 _ _ v' r2

set_option maxRecDepth 20000 in
set_option maxHeartbeats 3200000 in
theorem newYard_any (ca ra : Option Addr) (cn cc rn rc : Nat) (gap str : Int) (w : World) (hr : rn ≤ 3) :
    Calls Try.prog 40 #[.agg #[.slice ca cn cc, .slice ra rn rc, iv gap, iv str]] w fun e w' => ∃ ha hn hc, e = .returned (.agg #[.slice ca cn cc, .slice ra rn rc, iv gap, iv str, .slice ha hn hc]) ∧ Below w.heap.size w w' := by
  obtain ⟨i0, hi, hz0, hz1, hz2⟩ := info_parts infoMp
  have HI := Lib.hid hi; have HZ0 := Lib.hid hz0; have HZ1 := Lib.hid hz1; have HZ2 := Lib.hid hz2
  clear hi hz0 hz1 hz2
  have hmm := @run_makeMap Try.prog
  obtain ⟨Wn, hWn⟩ : ∃ W : World, ((w.alloc (.cells #[.slice ca cn cc, .slice ra rn rc, iv gap, iv str] 43)).alloc (.cells #[.slice none 0 0, .slice none 0 0, .int .i64 0, .int .i64 0, .slice none 0 0] 95)).alloc (.cells #[.slice ca cn cc, .slice ra rn rc, .int .i64 gap, .int .i64 str, .slice none 0 0] 95) = W := ⟨_, rfl⟩
  have hinv : YdInv ca ra cn cc rn rc gap str w 0 (.slice none 0 0) Wn := by
    rw [← hWn]
    refine ⟨bpush (bpush (bpush (Below.refl _ _) _) _) _, by simp, ?_, ?_, ?_, [], rfl, Owns.nil _ _ _ _ _⟩
    · rw [Below.heap_alloc _ _ _ (by simp; omega), Below.heap_alloc _ _ _ (by simp)]; exact heap_new _ _ _
    · rw [Below.heap_alloc _ _ _ (by simp)]
      have := heap_new (w.alloc (.cells #[.slice ca cn cc, .slice ra rn rc, iv gap, iv str] 43)) #[.slice none 0 0, .slice none 0 0, iv 0, iv 0, .slice none 0 0] 95
      rwa [World.size_alloc] at this
    · have := heap_new ((w.alloc (.cells #[.slice ca cn cc, .slice ra rn rc, iv gap, iv str] 43)).alloc (.cells #[.slice none 0 0, .slice none 0 0, iv 0, iv 0, .slice none 0 0] 95)) #[.slice ca cn cc, .slice ra rn rc, iv gap, iv str, .slice none 0 0] 95
      rwa [World.size_alloc, World.size_alloc] at this
  have HIV := Lib.hid hinv; have HWN := Lib.hid hWn
  clear hinv hWn
  go_enter Try.func40, Try.ntmps40
  go_wp2_with fail
  rw [HWN.out]
  go_loopw [9] (fun i wr => ∃ k : Nat, k ≤ rn ∧ i = iv k ∧ Hid (∃ tv, YdInv ca ra cn cc rn rc gap str w k tv wr)) (fun i _ => rn - (intOf i).toNat)
  case atStart => exact ⟨0, Nat.zero_le _, rfl, _, HIV.out⟩
  case round =>
    obtain ⟨k, hk, rfl, HT⟩ := hrel
    obtain ⟨tv, hv⟩ := HT.out
    obtain ⟨ta, tn, tc, rfl⟩ := hv.slice
    have HV := Lib.hid hv
    clear hv HT
    by_cases hlt : k < rn
    · obtain ⟨xs, hx, ho⟩ := HV.out.O
      have HO := Lib.hid ho; have HX := Lib.hid hx
      have h2 := HV.out.h2
      have c1 : wr.cell? ⟨w.heap.size + 1 + 1, 4, none⟩ = some (.slice ta tn tc) := by rw [cell_of_row _ _ _ _ _ _ h2]; rfl
      have hb2 : xs.length + 1 ≤ maxLen ∧ (xs.length + 1) * 8 ≤ 140737488355328 := by unfold maxLen; omega
      have hb3 : w.heap.size + 3 ≤ ((wr.alloc (.map #[] 0)).alloc (.cells #[.map (some wr.heap.size)] 106)).heap.size := by have := HV.out.S; simp; omega
      have HBA : Hid (Below wr.heap.size wr ((wr.alloc (.map #[] 0)).alloc (.cells #[.map (some wr.heap.size)] 106))) := bpush (bpush (Below.refl _ _) _) _
      have HS := Lib.hid HV.out.S
      clear ho hx h2
      go_wp2_with (at_builtin; refine L_append1 (enc := encV1) (some wr.heap.size) rfl _ _ 93 rfl Try.underlying93 HI.out HZ0.out HZ1.out HZ2.out rfl Nat.one_pos encV1_len (by simp [encV1, Value.oneCell']) rfl rfl (Owns.kept HO.out HBA.out) (encV1_cell ?_) hb2 hb3 ?_; go_simp; intro v' w2 hown2 hbe2 hg2; (obtain ⟨g', c', rfl⟩ := owns_addrG hown2 (by simp)); have hrow := (hbe2.block (w.heap.size + 1 + 1) (by omega)).trans ((HBA.out.block _ (by have := HS.out; omega)).trans HV.out.h2); have k0 : w2.cell? ⟨w.heap.size + 1 + 1, 4, none⟩ = some (.slice ta tn tc) := (cell_of_row _ _ _ _ _ _ hrow).trans rfl; have k1 : w2.frozen? ⟨w.heap.size + 1 + 1, 4, none⟩ = false := (by unfold World.frozen?; rw [hrow]; rfl); have HD := Lib.hid (yd_done HV.out HX.out HBA.out hown2 hbe2); clear hown2 hbe2 hg2 hrow)
      go_roundw
      case rel => exact ⟨k + 1, by omega, by go_num, _, by have h := HD.out; simp only [List.length_append, List.length_singleton] at h; exact h⟩
      case measure => simp [intOf]; omega
    · obtain rfl : k = rn := by omega
      have h2 := HV.out.h2
      have h1 := Lib.hid HV.out.h1
      have HBV := Lib.hid HV.out.B
      have HSI := Lib.hid (sinfoYd #[.slice ca cn cc, .slice ra k rc, iv gap, iv str, .slice ta tn tc] rfl)
      have HON : Hid (#[.slice ca cn cc, .slice ra k rc, iv gap, iv str, .slice ta tn tc].all (fun v : Value => v.oneCell') = true) := by simp [Hid, Value.oneCell']
      have c0 : wr.cell? ⟨w.heap.size + 1 + 1, 0, none⟩ = some (.slice ca cn cc) := by rw [cell_of_row _ _ _ _ _ _ h2]; rfl
      have c1 : wr.cell? ⟨w.heap.size + 1 + 1, 1, none⟩ = some (.slice ra k rc) := by rw [cell_of_row _ _ _ _ _ _ h2]; rfl
      have c2 : wr.cell? ⟨w.heap.size + 1 + 1, 2, none⟩ = some (iv gap) := by rw [cell_of_row _ _ _ _ _ _ h2]; rfl
      have c3 : wr.cell? ⟨w.heap.size + 1 + 1, 3, none⟩ = some (iv str) := by rw [cell_of_row _ _ _ _ _ _ h2]; rfl
      have c4 : wr.cell? ⟨w.heap.size + 1 + 1, 4, none⟩ = some (.slice ta tn tc) := by rw [cell_of_row _ _ _ _ _ _ h2]; rfl
      clear h2
      go_wp2_with (with_reducible change wpList _ _ _ (Oper.mk _ (Op.store 95 _ _) _ _ _ _ :: _) _ _; refine L_skip rfl (run_store_row 95 _ _ rfl _ rfl #[.slice ca cn cc, .slice ra k rc, iv gap, iv str, .slice ta tn tc] rfl 95 zdr h1.out HSI.out rfl HON.out) ?_)
      exact bodyPost_ret (results_row1 (fn := Try.f40) Try.results40 _ rfl (heap_setRow_same h1.out) Try.underlying95 rfl HSI.out) rfl ⟨_, _, _, rfl, bsetRow HBV.out (by omega) _⟩
end Go.Proofs.Ytkialkfplhhenaa

/- Hangs of package tenter. -/
namespace Go.Proofs.Ytkialkfplhhenaa
open Go Go.RowKit Go.Shelf
attribute [local go_sem ↓] Go.wp_at_zero Go.wp_at_succ

def HangsRes (C : List Tn) (str : Int) (w : World) (e : Ending) (w' : World) : Prop :=
  ∃ g, e = .returned (.tuple #[.slice (some ⟨g, 0, none⟩) C.length C.length, iv 0]) ∧ SliceOf encS 2 w' (.slice (some ⟨g, 0, none⟩) C.length C.length) (C.map (lenS str)) ∧ Below w.heap.size w w'
set_option maxRecDepth 20000 in
set_option maxHeartbeats 6400000 in
theorem Hangs_good (C : List Tn) (R : List Int) (gap str : Int) (ca ra : Option Addr) (cc rc : Nat) (w : World) (hC : SliceOf encN 4 w (.slice ca C.length cc) C) (hR : Ints w (.slice ra R.length rc) R) (hchk : fdChk ⟨C, R, gap, str⟩ = 0) :
    Calls Try.prog 27 #[.agg #[.slice ca C.length cc, .slice ra R.length rc, iv gap, iv str]] w (HangsRes C str w) := by
  obtain ⟨i0, hi, hz0, hz1, hz2⟩ := info_parts infoSpG
  obtain ⟨hln, hr3, hvf⟩ := fdChk_zero hchk
  have hr3 := (inB_iff.1 hr3).2
  simp only [vFd, Bool.and_eq_true, List.all_eq_true] at hvf
  have hst := inB_iff.1 hvf.2.2.2
  have hln : C.length ≤ 7 := hln
  have hr3 : R.length ≤ 3 := by have : (R.length : Int) ≤ 3 := hr3; omega
  have hst : 0 ≤ str ∧ str ≤ 200 := hst
  have HVC := Lib.hid (show ∀ (k : Nat) (c : Tn), C[k]? = some c → vTn c = true from fun k c hk => hvf.1 c (List.mem_of_getElem? hk))
  have HIF := Lib.hid hi; have HZ0 := Lib.hid hz0; have HZ1 := Lib.hid hz1
  have HBY := Lib.hid (show i0.bytes * C.length ≤ 281474976710656 by rw [hz2]; omega)
  have HML := Lib.hid (show C.length ≤ maxLen by unfold maxLen; omega)
  have HC := Lib.hid hC; have HR := Lib.hid hR
  have HCK := Lib.hid (fun (W : World) (hb : Below w.heap.size w W) => by have := fdCheck_any C R gap str ca ra cc rc W (hC.below hb) (hR.below hb); rw [hchk] at this; exact this)
  have HNY := Lib.hid (fun (W : World) => newYard_any ca ra C.length cc R.length rc gap str W hr3)
  have HST := Lib.hid hst
  clear hi hz0 hz1 hz2 hC hR hchk hr3 hvf hst
  go_enter Try.func27, Try.ntmps27
  go_wp2_with fail
  refine (HCK.out _ (by repeat (first | exact Below.refl _ _ | refine Below.drew ?_ | refine bpush ?_ _ | refine bput ?_ (by simp) _ | (refine bstep ?_ (by assumption))))).mono ?_
  rintro e w1 ⟨rfl, hb⟩
  have HB1 := Lib.hid (show Below w.heap.size w w1 from bstep (by repeat (first | exact Below.refl _ _ | refine Below.drew ?_ | refine bpush ?_ _ | refine bput ?_ (by simp) _ | (refine bstep ?_ (by assumption)))) hb)
  have hr1 := (hb.block w.heap.size (by simp)).trans (heap_new w #[.slice ca C.length cc, .slice ra R.length rc, iv gap, iv str] 43)
  have HR1 := Lib.hid hr1
  have c0 : w1.cell? ⟨w.heap.size, 0, none⟩ = some (.slice ca C.length cc) := by rw [cell_of_row _ _ _ _ _ _ hr1]; rfl
  have c1 : w1.cell? ⟨w.heap.size, 1, none⟩ = some (.slice ra R.length rc) := by rw [cell_of_row _ _ _ _ _ _ hr1]; rfl
  have c2 : w1.cell? ⟨w.heap.size, 2, none⟩ = some (iv gap) := by rw [cell_of_row _ _ _ _ _ _ hr1]; rfl
  have c3 : w1.cell? ⟨w.heap.size, 3, none⟩ = some (iv str) := by rw [cell_of_row _ _ _ _ _ _ hr1]; rfl
  clear hb hr1
  go_wp2_with fail
  refine (HNY.out _).mono ?_
  rintro e w2 ⟨ha, hn, hcp, rfl, hb2⟩
  have HB2 := Lib.hid (bstep HB1.out hb2)
  have hr2 := bblkG hb2 HR1.out
  have hz2 : w.heap.size < w2.heap.size := (Array.getElem?_eq_some_iff.1 hr2).1
  obtain ⟨Wn, hWn⟩ : ∃ W : World, w2.alloc (.cells #[.slice ca C.length cc, .slice ra R.length rc, iv gap, iv str, .slice ha hn hcp] 95) = W := ⟨_, rfl⟩
  have hBn : Below w2.heap.size w2 Wn := by rw [← hWn]; exact bpush (Below.refl _ _) _
  have hdn : Wn.heap[w2.heap.size]? = some (.cells #[.slice ca C.length cc, .slice ra R.length rc, iv gap, iv str, .slice ha hn hcp] 95 (0, 0)) := by rw [← hWn]; exact heap_new _ _ _
  have hzn : Wn.heap.size = w2.heap.size + 1 := by rw [← hWn]; simp
  have hfn := bblkG hBn hr2
  have HB := Lib.hid (bstep HB2.out hBn); have HD := Lib.hid hdn; have HFN := Lib.hid hfn; have HZ := Lib.hid hzn
  have c00 : Wn.cell? ⟨w.heap.size, 0, none⟩ = some (.slice ca C.length cc) := by rw [cell_of_row _ _ _ _ _ _ hfn]; rfl
  clear hb2 hr2 hBn hdn hfn hzn c0 c1 c2 c3
  go_wp2_with (
    with_reducible change wpList _ _ _ (Oper.mk _ (Op.makeSlice 27 _ _) _ _ _ _ :: _) _ _
    refine wpList_make_full _ rfl _ _ 27 rfl Wn.heap.size 36 i0 (.agg #[.int .i64 0, .int .i64 0]) 2 Try.underlying27 HIF.out HZ0.out HZ1.out .i64 .i64 C.length C.length C.length rfl rfl rfl rfl HBY.out HML.out (Nat.le_refl _) ?_
    intro w3 hown hgrow
    have hl2 := span_newG hown
    have hB2 : Below Wn.heap.size Wn w3 := ⟨hgrow.os, hgrow.tape, hgrow.output, hgrow.size, fun q hq => hgrow.block q hq (by simp)⟩
    have hf2 := (hB2.block _ (by have := HZ.out; omega)).trans HFN.out
    have HL2 := Lib.hid hl2; have HBW := Lib.hid hB2
    have c0 : w3.cell? ⟨w.heap.size, 0, none⟩ = some (.slice ca C.length cc) := by rw [cell_of_row _ _ _ _ _ _ hf2]; rfl
    clear hown hgrow hl2 hB2 hf2 hWn)
  obtain ⟨D, hD⟩ : ∃ D : List Sp, C.map (lenS str) = D := ⟨_, rfl⟩
  have hDl : D.length = C.length := by rw [← hD]; simp
  have HDG := Lib.hid (show ∀ (k : Nat) (c : Tn), C[k]? = some c → D[k]? = some (lenS str c) from fun k c hk => by rw [← hD, List.getElem?_map, hk]; rfl)
  have HDL := Lib.hid hDl
  have HDD := Lib.hid hD
  have hzb : w2.heap.size < Wn.heap.size := by have := HZ.out; omega
  clear hD hDl c00
  go_loopw [22, 7] (fun i _ wr => ∃ k : Nat, k ≤ C.length ∧ i = iv k ∧ Hid (wr.heap[Wn.heap.size]? = some (.cells (rowI (flS D C.length k)) 36 (0, 0))) ∧ Hid (Below Wn.heap.size Wn wr)) (fun i _ _ => C.length - (intOf i).toNat)
  case atStart => exact ⟨0, Nat.zero_le _, rfl, by rw [flS_zero]; exact HL2.out, HBW.out⟩
  case round =>
    obtain ⟨k, hk, rfl, HRW, HBR⟩ := hrel
    clear c0
    by_cases hlt : k < C.length
    · obtain ⟨c, hc⟩ := getElem?_of_lt hlt
      have HDk := Lib.hid (HDG.out k c hc)
      have HLN := Lib.hid (fun (W : World) (hb : Below w.heap.size w W) => lengths_any C ca ra ha cc R.length rc hn hcp k gap str c W (HC.out.below hb) hc (HVC.out k c hc) HST.out)
      have hrd := (HBR.out.block _ hzb).trans HD.out
      have d0 : wr.cell? ⟨w2.heap.size, 0, none⟩ = some (.slice ca C.length cc) := by rw [cell_of_row _ _ _ _ _ _ hrd]; rfl
      have d1 : wr.cell? ⟨w2.heap.size, 1, none⟩ = some (.slice ra R.length rc) := by rw [cell_of_row _ _ _ _ _ _ hrd]; rfl
      have d2 : wr.cell? ⟨w2.heap.size, 2, none⟩ = some (iv gap) := by rw [cell_of_row _ _ _ _ _ _ hrd]; rfl
      have d3 : wr.cell? ⟨w2.heap.size, 3, none⟩ = some (iv str) := by rw [cell_of_row _ _ _ _ _ _ hrd]; rfl
      have d4 : wr.cell? ⟨w2.heap.size, 4, none⟩ = some (.slice ha hn hcp) := by rw [cell_of_row _ _ _ _ _ _ hrd]; rfl
      have hfl := flS_len HDL.out hk
      clear hrd
      go_wp2_with fail
      refine (HLN.out _ (bstep HB.out HBR.out)).mono ?_
      rintro e w4 ⟨rfl, hb4⟩
      have HR4 := Lib.hid (bblkG hb4 HRW.out)
      have HB4 := Lib.hid (bstep HBR.out hb4)
      have y0 := cell_rowI (i := k * 2) HR4.out (by omega)
      have y1 := cell_rowI (i := k * 2 + 1) HR4.out (by omega)
      have z0 : w4.frozen? ⟨Wn.heap.size, k * 2, none⟩ = false := by unfold World.frozen?; rw [HR4.out]; rfl
      have z1 : w4.frozen? ⟨Wn.heap.size, k * 2 + 1, none⟩ = false := by unfold World.frozen?; rw [HR4.out]; rfl
      generalize (flS D C.length k).getD (k * 2) 0 = p0 at *
      generalize (flS D C.length k).getD (k * 2 + 1) 0 = p1 at *
      obtain ⟨q, hq⟩ : ∃ q : Sp, lenS str c = q := ⟨_, rfl⟩
      rw [hq] at HDk
      rw [hq]
      have HST2 := Lib.hid (flS_succ HDL.out HDk.out)
      clear hb4 d0 d1 d2 d3 d4 hc hq hfl
      go_wp2_with fail
      go_roundw
      case rel =>
        refine ⟨k + 1, by omega, by go_num, ?_, bput (p := ⟨Wn.heap.size, k * 2 + 1, none⟩) (bput (p := ⟨Wn.heap.size, k * 2, none⟩) HB4.out (Nat.le_refl _) _) (Nat.le_refl _) _⟩
        have h1 := heap_setCell_same w4 Wn.heap.size (k * 2) _ _ (iv q.1) HR4.out
        have h2 := heap_setCell_same _ Wn.heap.size (k * 2 + 1) _ _ (iv q.2) h1
        rw [rowI_set, rowI_set, HST2.out] at h2
        exact h2
      case measure => simp [intOf]; omega
    · obtain rfl : k = C.length := by omega
      go_wp2_with fail
      go_ret2
      exact ⟨_, rfl, by rw [HDD.out]; exact slice_flS HDL.out (by omega) HRW.out, bstep HB.out HBR.out⟩
end Go.Proofs.Ytkialkfplhhenaa
