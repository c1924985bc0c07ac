/- The checks of package tenter. -/
import Derived.Test.YtiellodbdidgoaaSa
namespace Go.Proofs.Ytiellodbdidgoaa
open Go Go.RowKit

/-- A cloth to be hung: how long it is, and how much water it has. -/
abbrev Tn := Sp × Sp
def encN (c : Tn) : List Value := [iv c.1.1, iv c.1.2, iv c.2.1, iv c.2.2]
def vTn (c : Tn) : Bool := okSpan c.1.1 c.1.2 1 2000 && okSpan c.2.1 c.2.2 0 500

set_option maxHeartbeats 800000 in
theorem validTn_any (c : Tn) (w : World) :
    Calls Try.prog 45 #[.agg (encN c).toArray] w fun e w' => e = .returned (.bool (vTn c)) ∧ Below w.heap.size w w' := by
  obtain ⟨⟨a, b⟩, c, d⟩ := c
  simp only [encN]
  cases h1 : okSpan a b 1 2000
  · have H1 := Lib.hid h1
    have HV : Hid (vTn ((a, b), (c, d)) = false) := by simp [Hid, vTn, h1]
    clear h1
    go_enter Try.func45, Try.ntmps45
    go_wp2_with fail
    refine (okSpan_any a b 1 2000 _).mono ?_
    rintro e w' ⟨he, hb⟩; rw [H1.out] at he; subst he
    go_wp2_with fail
    go_ret
    exact ⟨by rw [HV.out]; rfl, (by repeat (first | exact Below.refl _ _ | refine Below.drew ?_ | refine bpush ?_ _ | refine bput ?_ (by simp) _ | (refine bstep ?_ (by assumption))))⟩
  · have H1 := Lib.hid h1
    have HV : Hid (vTn ((a, b), (c, d)) = okSpan c d 0 500) := by simp [Hid, vTn, h1]
    clear h1
    go_enter Try.func45, Try.ntmps45
    go_wp2_with fail
    refine (okSpan_any a b 1 2000 _).mono ?_
    rintro e w1 ⟨he, hb⟩; rw [H1.out] at he; subst he
    obtain ⟨hbc, hbf⟩ := bcell hb
    have hbz := hb.size
    simp [Nat.add_one_le_iff] at hbz
    go_wp2_with fail
    refine (okSpan_any c d 0 500 _).mono ?_
    rintro e w2 ⟨rfl, hb2⟩
    go_wp2_with fail
    go_ret
    exact ⟨by rw [HV.out]; rfl, (by repeat (first | exact Below.refl _ _ | refine Below.drew ?_ | refine bpush ?_ _ | refine bput ?_ (by simp) _ | (refine bstep ?_ (by assumption))))⟩

set_option maxHeartbeats 1600000 in
theorem allN_any (xs : List Tn) (v : Value) (w : World) (hs : SliceOf encN 4 w v xs) :
    Calls Try.prog 44 #[.func (.func 45) #[] #[], v] w fun e w' => e = .returned (.bool (xs.all vTn)) ∧ Below w.heap.size w w' := by
  obtain ⟨a, cap, rfl, hm, hc⟩ := hs
  go_enter Try.func44, Try.ntmps44
  go_wp2
  go_loopw [9, 6] (fun i _ wr => ∃ k : Nat, k ≤ xs.length ∧ i = iv k ∧ (xs.take k).all vTn = true ∧ Below w.heap.size w wr) (fun i _ _ => xs.length - (intOf i).toNat)
  case atStart => exact ⟨0, Nat.zero_le _, rfl, by simp, Below.refl _ _⟩
  case round =>
    obtain ⟨k, hk, rfl, hall, hbw⟩ := hrel
    have HA := Lib.hid hall; clear hall
    by_cases hlt : k < xs.length
    · obtain ⟨x, hx⟩ := getElem?_of_lt hlt
      obtain ⟨b, off, rfl, hj⟩ := hc k x hx
      have hcell : ∀ j u, (encN x)[j]? = some u → wr.cell? ⟨b, off + k * 4 + j, none⟩ = some u := fun j u hu => (hbw.cell (p := ⟨b, _, none⟩) (lt_of_cell (hj j u hu))).trans (hj j u hu)
      have HX := Lib.hid hx; clear hx hj hc
      have c0 := hcell 0 _ rfl
      have c1 := hcell 1 _ rfl
      have c2 := hcell 2 _ rfl
      have c3 := hcell 3 _ rfl
      simp only [Nat.add_zero] at c0
      clear hcell
      cases hp : vTn x
      · have HP := Lib.hid hp; clear hp
        go_wp2_with fail
        refine (validTn_any x _).mono ?_
        rintro e w1 ⟨he, hb⟩
        rw [HP.out] at he; subst he
        go_wp2_with fail
        go_ret
        exact ⟨by rw [all_false_of _ HX.out HP.out]; rfl, bstep (bpush hbw _) hb⟩
      · have HP := Lib.hid hp; clear hp
        go_wp2_with fail
        refine (validTn_any x _).mono ?_
        rintro e w1 ⟨he, hb⟩
        rw [HP.out] at he; subst he
        go_wp2_with fail
        go_roundw
        case rel => exact ⟨k + 1, by omega, by go_num, all_take_succ _ HX.out HA.out HP.out, bstep (bpush hbw _) hb⟩
        case measure => simp [intOf]; omega
    · obtain rfl : k = xs.length := by omega
      have HT : Hid (xs.all vTn = true) := by have := HA.out; rwa [List.take_of_length_le (Nat.le_refl _)] at this
      clear hc
      go_wp2
      go_ret
      exact ⟨by rw [HT.out]; rfl, hbw⟩

def vWth (p : Sp) : Bool := okSpan p.1 p.2 0 100
set_option maxHeartbeats 800000 in
theorem validWth_any (p : Sp) (w : World) :
    Calls Try.prog 30 #[.agg (encS p).toArray] w fun e w' => e = .returned (.bool (vWth p)) ∧ Below w.heap.size w w' := by
  obtain ⟨l, h⟩ := p
  simp only [encS]
  go_enter Try.func30, Try.ntmps30
  go_wp2_with fail
  refine (okSpan_any l h 0 100 _).mono ?_
  rintro e w' ⟨rfl, hb⟩
  go_wp2_with fail
  go_ret
  exact ⟨rfl, (by repeat (first | exact Below.refl _ _ | refine Below.drew ?_ | refine bpush ?_ _ | refine bput ?_ (by simp) _ | (refine bstep ?_ (by assumption))))⟩

set_option maxHeartbeats 1600000 in
theorem allW_any (xs : List Sp) (v : Value) (w : World) (hs : SliceOf encS 2 w v xs) :
    Calls Try.prog 29 #[.func (.func 30) #[] #[], v] w fun e w' => e = .returned (.bool (xs.all vWth)) ∧ Below w.heap.size w w' := by
  obtain ⟨a, cap, rfl, hm, hc⟩ := hs
  go_enter Try.func29, Try.ntmps29
  go_wp2
  go_loopw [9, 6] (fun i _ wr => ∃ k : Nat, k ≤ xs.length ∧ i = iv k ∧ (xs.take k).all vWth = true ∧ Below w.heap.size w wr) (fun i _ _ => xs.length - (intOf i).toNat)
  case atStart => exact ⟨0, Nat.zero_le _, rfl, by simp, Below.refl _ _⟩
  case round =>
    obtain ⟨k, hk, rfl, hall, hbw⟩ := hrel
    have HA := Lib.hid hall; clear hall
    by_cases hlt : k < xs.length
    · obtain ⟨x, hx⟩ := getElem?_of_lt hlt
      obtain ⟨b, off, rfl, hj⟩ := hc k x hx
      have hcell : ∀ j u, (encS x)[j]? = some u → wr.cell? ⟨b, off + k * 2 + j, none⟩ = some u := fun j u hu => (hbw.cell (p := ⟨b, _, none⟩) (lt_of_cell (hj j u hu))).trans (hj j u hu)
      have HX := Lib.hid hx; clear hx hj hc
      have c0 := hcell 0 _ rfl
      have c1 := hcell 1 _ rfl
      simp only [Nat.add_zero] at c0
      clear hcell
      cases hp : vWth x
      · have HP := Lib.hid hp; clear hp
        go_wp2_with fail
        refine (validWth_any x _).mono ?_
        rintro e w1 ⟨he, hb⟩
        rw [HP.out] at he; subst he
        go_wp2_with fail
        go_ret
        exact ⟨by rw [all_false_of _ HX.out HP.out]; rfl, bstep (bpush hbw _) hb⟩
      · have HP := Lib.hid hp; clear hp
        go_wp2_with fail
        refine (validWth_any x _).mono ?_
        rintro e w1 ⟨he, hb⟩
        rw [HP.out] at he; subst he
        go_wp2_with fail
        go_roundw
        case rel => exact ⟨k + 1, by omega, by go_num, all_take_succ _ HX.out HA.out HP.out, bstep (bpush hbw _) hb⟩
        case measure => simp [intOf]; omega
    · obtain rfl : k = xs.length := by omega
      have HT : Hid (xs.all vWth = true) := by have := HA.out; rwa [List.take_of_length_le (Nat.le_refl _)] at this
      clear hc
      go_wp2
      go_ret
      exact ⟨by rw [HT.out]; rfl, hbw⟩

/-- A field: its cloths, its tenters, its gap and what the statute permits. -/
structure Fd where
  (C : List Tn) (R : List Int) (gap str : Int)
def fcells (cv rv : Value) (gap str : Int) : Array Value := #[cv, rv, iv gap, iv str]
def vFd (f : Fd) : Bool := f.C.all vTn && (f.R.all (inB 1 2000) && (inB 0 50 f.gap && inB 0 200 f.str))

set_option maxRecDepth 20000 in
set_option maxHeartbeats 1600000 in
theorem validField_any (C : List Tn) (R : List Int) (gap str : Int) (ca ra : Option Addr) (cc rc : Nat) (w : World) (hc : SliceOf encN 4 w (.slice ca C.length cc) C) (hr : Ints w (.slice ra R.length rc) R) :
    Calls Try.prog 40 #[.agg #[.slice ca C.length cc, .slice ra R.length rc, iv gap, iv str]] w fun e w' => e = .returned (.bool (vFd ⟨C, R, gap, str⟩)) ∧ Below w.heap.size w w' := by
  have hc := Lib.hid hc; have hr := Lib.hid hr
  cases h1 : C.all vTn
  · have HV : Hid (vFd ⟨C, R, gap, str⟩ = false) := by simp [Hid, vFd, h1]
    have H1 := Lib.hid h1; clear h1
    go_enter Try.func40, Try.ntmps40
    go_wp2_with fail
    refine (allN_any C _ _ (SliceOf.below hc.out (by repeat (first | exact Below.refl _ _ | refine Below.drew ?_ | refine bpush ?_ _ | refine bput ?_ (by simp) _ | (refine bstep ?_ (by assumption)))))).mono ?_
    rintro e w1 ⟨he, hb1⟩; rw [H1.out] at he; subst he
    obtain ⟨hb1c, hb1f⟩ := bcell hb1
    have hb1z := hb1.size
    simp [Nat.add_one_le_iff] at hb1z
    
    go_wp2_with fail
    go_ret
    exact ⟨by rw [HV.out]; rfl, (by repeat (first | exact Below.refl _ _ | refine Below.drew ?_ | refine bpush ?_ _ | refine bput ?_ (by simp) _ | (refine bstep ?_ (by assumption))))⟩
  cases h2 : R.all (inB 1 2000)
  · have HV : Hid (vFd ⟨C, R, gap, str⟩ = false) := by simp only [Hid, vFd, h1, h2]; rfl
    have H1 := Lib.hid h1; have H2 := Lib.hid h2; clear h1 h2
    go_enter Try.func40, Try.ntmps40
    go_wp2_with fail
    refine (allN_any C _ _ (SliceOf.below hc.out (by repeat (first | exact Below.refl _ _ | refine Below.drew ?_ | refine bpush ?_ _ | refine bput ?_ (by simp) _ | (refine bstep ?_ (by assumption)))))).mono ?_
    rintro e w1 ⟨he, hb1⟩; rw [H1.out] at he; subst he
    obtain ⟨hb1c, hb1f⟩ := bcell hb1
    have hb1z := hb1.size
    simp [Nat.add_one_le_iff] at hb1z
    go_wp2_with fail
    refine (within_any 1 2000 R _ _ (SliceOf.below hr.out (by repeat (first | exact Below.refl _ _ | refine Below.drew ?_ | refine bpush ?_ _ | refine bput ?_ (by simp) _ | (refine bstep ?_ (by assumption)))))).mono ?_
    rintro e w2 ⟨he, rfl⟩; rw [H2.out] at he; subst he
    go_wp2_with fail
    go_ret
    exact ⟨by rw [HV.out]; rfl, (by repeat (first | exact Below.refl _ _ | refine Below.drew ?_ | refine bpush ?_ _ | refine bput ?_ (by simp) _ | (refine bstep ?_ (by assumption))))⟩
  cases h3 : inB 0 50 gap
  · have HV : Hid (vFd ⟨C, R, gap, str⟩ = false) := by simp only [Hid, vFd, h1, h2, h3]; rfl
    have H1 := Lib.hid h1; have H2 := Lib.hid h2; have H3 := Lib.hid h3; clear h1 h2 h3
    go_enter Try.func40, Try.ntmps40
    go_wp2_with fail
    refine (allN_any C _ _ (SliceOf.below hc.out (by repeat (first | exact Below.refl _ _ | refine Below.drew ?_ | refine bpush ?_ _ | refine bput ?_ (by simp) _ | (refine bstep ?_ (by assumption)))))).mono ?_
    rintro e w1 ⟨he, hb1⟩; rw [H1.out] at he; subst he
    obtain ⟨hb1c, hb1f⟩ := bcell hb1
    have hb1z := hb1.size
    simp [Nat.add_one_le_iff] at hb1z
    go_wp2_with fail
    refine (within_any 1 2000 R _ _ (SliceOf.below hr.out (by repeat (first | exact Below.refl _ _ | refine Below.drew ?_ | refine bpush ?_ _ | refine bput ?_ (by simp) _ | (refine bstep ?_ (by assumption)))))).mono ?_
    rintro e w2 ⟨he, rfl⟩; rw [H2.out] at he; subst he
    go_wp2_with fail
    refine (within1 0 50 gap (by go_simp)).mono ?_
    rintro e w3 ⟨he, rfl⟩; rw [H3.out] at he; subst he
    go_wp2_with fail
    go_ret
    exact ⟨by rw [HV.out]; rfl, (by repeat (first | exact Below.refl _ _ | refine Below.drew ?_ | refine bpush ?_ _ | refine bput ?_ (by simp) _ | (refine bstep ?_ (by assumption))))⟩
  · have HV : Hid (vFd ⟨C, R, gap, str⟩ = inB 0 200 str) := by simp only [Hid, vFd, h1, h2, h3]; rfl
    have H1 := Lib.hid h1; have H2 := Lib.hid h2; have H3 := Lib.hid h3; clear h1 h2 h3
    go_enter Try.func40, Try.ntmps40
    go_wp2_with fail
    refine (allN_any C _ _ (SliceOf.below hc.out (by repeat (first | exact Below.refl _ _ | refine Below.drew ?_ | refine bpush ?_ _ | refine bput ?_ (by simp) _ | (refine bstep ?_ (by assumption)))))).mono ?_
    rintro e w1 ⟨he, hb1⟩; rw [H1.out] at he; subst he
    obtain ⟨hb1c, hb1f⟩ := bcell hb1
    have hb1z := hb1.size
    simp [Nat.add_one_le_iff] at hb1z
    go_wp2_with fail
    refine (within_any 1 2000 R _ _ (SliceOf.below hr.out (by repeat (first | exact Below.refl _ _ | refine Below.drew ?_ | refine bpush ?_ _ | refine bput ?_ (by simp) _ | (refine bstep ?_ (by assumption)))))).mono ?_
    rintro e w2 ⟨he, rfl⟩; rw [H2.out] at he; subst he
    go_wp2_with fail
    refine (within1 0 50 gap (by go_simp)).mono ?_
    rintro e w3 ⟨he, rfl⟩; rw [H3.out] at he; subst he
    go_wp2_with fail
    refine (within1 0 200 str (by go_simp)).mono ?_
    rintro e w4 ⟨rfl, rfl⟩
    go_wp2_with fail
    go_ret
    exact ⟨by rw [HV.out]; rfl, (by repeat (first | exact Below.refl _ _ | refine Below.drew ?_ | refine bpush ?_ _ | refine bput ?_ (by simp) _ | (refine bstep ?_ (by assumption))))⟩

def fdChk (f : Fd) : Int := if 7 < f.C.length then 5 else if inB 1 3 f.R.length = true then (if vFd f = true then 0 else 2) else 4
theorem fdChk_zero {f : Fd} (h : fdChk f = 0) : f.C.length ≤ 7 ∧ inB 1 3 f.R.length = true ∧ vFd f = true := by
  unfold fdChk at h
  split at h
  · omega
  · split at h
    · split at h
      · exact ⟨by omega, by assumption, by assumption⟩
      · omega
    · omega
set_option maxRecDepth 20000 in
set_option maxHeartbeats 1600000 in
theorem fdCheck_any (C : List Tn) (R : List Int) (gap str : Int) (ca ra : Option Addr) (cc rc : Nat) (w : World) (hc : SliceOf encN 4 w (.slice ca C.length cc) C) (hr : Ints w (.slice ra R.length rc) R) :
    Calls Try.prog 28 #[.agg #[.slice ca C.length cc, .slice ra R.length rc, iv gap, iv str]] w fun e w' => e = .returned (iv (fdChk ⟨C, R, gap, str⟩)) ∧ Below w.heap.size w w' := by
  have hc := Lib.hid hc; have hr := Lib.hid hr
  by_cases h1 : 7 < C.length
  · have HV : Hid (fdChk ⟨C, R, gap, str⟩ = 5) := by simp [Hid, fdChk, h1]
    go_enter Try.func28, Try.ntmps28
    go_wp2_with fail
    go_ret
    exact ⟨by rw [HV.out]; rfl, (by repeat (first | exact Below.refl _ _ | refine Below.drew ?_ | refine bpush ?_ _ | refine bput ?_ (by simp) _ | (refine bstep ?_ (by assumption))))⟩
  cases h2 : inB 1 3 (R.length : Int)
  · have HV : Hid (fdChk ⟨C, R, gap, str⟩ = 4) := by simp [Hid, fdChk, h1, h2]
    have H2 := Lib.hid h2; clear h2
    go_enter Try.func28, Try.ntmps28
    go_wp2_with fail
    refine (within1 1 3 (R.length : Int) (by go_simp)).mono ?_
    rintro e w3 ⟨he, rfl⟩; rw [H2.out] at he; subst he
    go_wp2_with fail
    go_ret
    exact ⟨by rw [HV.out]; rfl, (by repeat (first | exact Below.refl _ _ | refine Below.drew ?_ | refine bpush ?_ _ | refine bput ?_ (by simp) _ | (refine bstep ?_ (by assumption))))⟩
  cases h3 : vFd ⟨C, R, gap, str⟩
  · have HV : Hid (fdChk ⟨C, R, gap, str⟩ = 2) := by simp [Hid, fdChk, h1, h2, h3]
    have H2 := Lib.hid h2; have H3 := Lib.hid h3; clear h2 h3
    go_enter Try.func28, Try.ntmps28
    go_wp2_with fail
    refine (within1 1 3 (R.length : Int) (by go_simp)).mono ?_
    rintro e w3 ⟨he, rfl⟩; rw [H2.out] at he; subst he
    go_wp2_with fail
    refine (validField_any C R gap str ca ra cc rc _ (SliceOf.below hc.out (by repeat (first | exact Below.refl _ _ | refine Below.drew ?_ | refine bpush ?_ _ | refine bput ?_ (by simp) _ | (refine bstep ?_ (by assumption))))) (SliceOf.below hr.out (by repeat (first | exact Below.refl _ _ | refine Below.drew ?_ | refine bpush ?_ _ | refine bput ?_ (by simp) _ | (refine bstep ?_ (by assumption)))))).mono ?_
    rintro e w4 ⟨he, hb4⟩; rw [H3.out] at he; subst he
    go_wp2_with fail
    go_ret
    exact ⟨by rw [HV.out]; rfl, (by repeat (first | exact Below.refl _ _ | refine Below.drew ?_ | refine bpush ?_ _ | refine bput ?_ (by simp) _ | (refine bstep ?_ (by assumption))))⟩
  · have HV : Hid (fdChk ⟨C, R, gap, str⟩ = 0) := by simp [Hid, fdChk, h1, h2, h3]
    have H2 := Lib.hid h2; have H3 := Lib.hid h3; clear h2 h3
    go_enter Try.func28, Try.ntmps28
    go_wp2_with fail
    refine (within1 1 3 (R.length : Int) (by go_simp)).mono ?_
    rintro e w3 ⟨he, rfl⟩; rw [H2.out] at he; subst he
    go_wp2_with fail
    refine (validField_any C R gap str ca ra cc rc _ (SliceOf.below hc.out (by repeat (first | exact Below.refl _ _ | refine Below.drew ?_ | refine bpush ?_ _ | refine bput ?_ (by simp) _ | (refine bstep ?_ (by assumption))))) (SliceOf.below hr.out (by repeat (first | exact Below.refl _ _ | refine Below.drew ?_ | refine bpush ?_ _ | refine bput ?_ (by simp) _ | (refine bstep ?_ (by assumption)))))).mono ?_
    rintro e w4 ⟨he, hb4⟩; rw [H3.out] at he; subst he
    go_wp2_with fail
    go_ret
    exact ⟨by rw [HV.out]; rfl, (by repeat (first | exact Below.refl _ _ | refine Below.drew ?_ | refine bpush ?_ _ | refine bput ?_ (by simp) _ | (refine bstep ?_ (by assumption))))⟩
end Go.Proofs.Ytiellodbdidgoaa
