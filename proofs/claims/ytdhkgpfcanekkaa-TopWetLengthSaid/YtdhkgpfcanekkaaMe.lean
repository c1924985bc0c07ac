import Derived.Test.YtdhkgpfcanekkaaMb
import Derived.Test.YtdhkgpfcanekkaaMa
import Derived.Test.YtdhkgpfcanekkaaOwn
import Derived.RegionTactic
import Derived.IntWalk
import Derived.Deep.RegionHeld3
import Derived.Deep.DrawnRows
import Derived.Carry
import Derived.Deep.DeepCutAuto
import Derived.Test.YtdhkgpfcanekkaaSj
/- The checks of package tenter. -/
namespace Go.Proofs.Ytdhkgpfcanekkaa
open Go Go.RowKit

/-- A cloth to be hung: how long it is, and how much water it has. -/
abbrev Tn := Sp × Sp
def encN (c : Tn) : List Value := [iv c.1.1, iv c.1.2, iv c.2.1, iv c.2.2]
def vTn (c : Tn) : Bool := okSpan c.1.1 c.1.2 1 2000 && okSpan c.2.1 c.2.2 0 500

set_option maxHeartbeats 800000 in
theorem validTn_any (c : Tn) (w : World) :
    Calls Try.prog 43 #[.agg (encN c).toArray] w fun e w' => e = .returned (.bool (vTn c)) ∧ Below w.heap.size w w' := by
  obtain ⟨⟨a, b⟩, c, d⟩ := c
  simp only [encN]
  cases h1 : okSpan a b 1 2000
  · have H1 := Lib.hid h1
    have HV : Hid (vTn ((a, b), (c, d)) = false) := by simp [Hid, vTn, h1]
    clear h1
    go_enter Try.func43, Try.ntmps43
    go_wp2_with fail
    refine (okSpan_any a b 1 2000 _).mono ?_
    rintro e w' ⟨he, hb⟩; rw [H1.out] at he; subst he
    go_wp2_with fail
    go_ret
    exact ⟨by rw [HV.out]; rfl, (by repeat (first | exact Below.refl _ _ | refine Below.drew ?_ | refine bpush ?_ _ | refine bput ?_ (by simp) _ | (refine bstep ?_ (by assumption))))⟩
  · have H1 := Lib.hid h1
    have HV : Hid (vTn ((a, b), (c, d)) = okSpan c d 0 500) := by simp [Hid, vTn, h1]
    clear h1
    go_enter Try.func43, Try.ntmps43
    go_wp2_with fail
    refine (okSpan_any a b 1 2000 _).mono ?_
    rintro e w1 ⟨he, hb⟩; rw [H1.out] at he; subst he
    obtain ⟨hbc, hbf⟩ := bcell hb
    have hbz := hb.size
    simp [Nat.add_one_le_iff] at hbz
    go_wp2_with fail
    refine (okSpan_any c d 0 500 _).mono ?_
    rintro e w2 ⟨rfl, hb2⟩
    go_wp2_with fail
    go_ret
    exact ⟨by rw [HV.out]; rfl, (by repeat (first | exact Below.refl _ _ | refine Below.drew ?_ | refine bpush ?_ _ | refine bput ?_ (by simp) _ | (refine bstep ?_ (by assumption))))⟩

set_option maxHeartbeats 1600000 in
theorem allN_any (xs : List Tn) (v : Value) (w : World) (hs : SliceOf encN 4 w v xs) :
    Calls Try.prog 42 #[.func (.func 43) #[] #[], v] w fun e w' => e = .returned (.bool (xs.all vTn)) ∧ Below w.heap.size w w' := by
  obtain ⟨a, cap, rfl, hm, hc⟩ := hs
  go_enter Try.func42, Try.ntmps42
  go_wp2
  go_loopw [9, 6] (fun i _ wr => ∃ k : Nat, k ≤ xs.length ∧ i = iv k ∧ (xs.take k).all vTn = true ∧ Below w.heap.size w wr) (fun i _ _ => xs.length - (intOf i).toNat)
  case atStart => exact ⟨0, Nat.zero_le _, rfl, by simp, Below.refl _ _⟩
  case round =>
    obtain ⟨k, hk, rfl, hall, hbw⟩ := hrel
    have HA := Lib.hid hall; clear hall
    by_cases hlt : k < xs.length
    · obtain ⟨x, hx⟩ := getElem?_of_lt hlt
      obtain ⟨b, off, rfl, hj⟩ := hc k x hx
      have hcell : ∀ j u, (encN x)[j]? = some u → wr.cell? ⟨b, off + k * 4 + j, none⟩ = some u := fun j u hu => (hbw.cell (p := ⟨b, _, none⟩) (lt_of_cell (hj j u hu))).trans (hj j u hu)
      have HX := Lib.hid hx; clear hx hj hc
      have c0 := hcell 0 _ rfl
      have c1 := hcell 1 _ rfl
      have c2 := hcell 2 _ rfl
      have c3 := hcell 3 _ rfl
      simp only [Nat.add_zero] at c0
      clear hcell
      cases hp : vTn x
      · have HP := Lib.hid hp; clear hp
        go_wp2_with fail
        refine (validTn_any x _).mono ?_
        rintro e w1 ⟨he, hb⟩
        rw [HP.out] at he; subst he
        go_wp2_with fail
        go_ret
        exact ⟨by rw [all_false_of _ HX.out HP.out]; rfl, bstep (bpush hbw _) hb⟩
      · have HP := Lib.hid hp; clear hp
        go_wp2_with fail
        refine (validTn_any x _).mono ?_
        rintro e w1 ⟨he, hb⟩
        rw [HP.out] at he; subst he
        go_wp2_with fail
        go_roundw
        case rel => exact ⟨k + 1, by omega, by go_num, all_take_succ _ HX.out HA.out HP.out, bstep (bpush hbw _) hb⟩
        case measure => simp [intOf]; omega
    · obtain rfl : k = xs.length := by omega
      have HT : Hid (xs.all vTn = true) := by have := HA.out; rwa [List.take_of_length_le (Nat.le_refl _)] at this
      clear hc
      go_wp2
      go_ret
      exact ⟨by rw [HT.out]; rfl, hbw⟩

def vWth (p : Sp) : Bool := okSpan p.1 p.2 0 100
/-- A field: its cloths, its tenters, its gap and what the statute permits. -/
structure Fd where
  (C : List Tn) (R : List Int) (gap str : Int)
def fcells (cv rv : Value) (gap str : Int) : Array Value := #[cv, rv, iv gap, iv str]
def vFd (f : Fd) : Bool := f.C.all vTn && (f.R.all (inB 1 2000) && (inB 0 50 f.gap && inB 0 200 f.str))

set_option maxRecDepth 20000 in
set_option maxHeartbeats 1600000 in
theorem validField_any (C : List Tn) (R : List Int) (gap str : Int) (ca ra : Option Addr) (cc rc : Nat) (w : World) (hc : SliceOf encN 4 w (.slice ca C.length cc) C) (hr : Ints w (.slice ra R.length rc) R) :
    Calls Try.prog 31 #[.agg #[.slice ca C.length cc, .slice ra R.length rc, iv gap, iv str]] w fun e w' => e = .returned (.bool (vFd ⟨C, R, gap, str⟩)) ∧ Below w.heap.size w w' := by
  have hc := Lib.hid hc; have hr := Lib.hid hr
  cases h1 : C.all vTn
  · have HV : Hid (vFd ⟨C, R, gap, str⟩ = false) := by simp [Hid, vFd, h1]
    have H1 := Lib.hid h1; clear h1
    go_enter Try.func31, Try.ntmps31
    go_wp2_with fail
    refine (allN_any C _ _ (SliceOf.below hc.out (by repeat (first | exact Below.refl _ _ | refine Below.drew ?_ | refine bpush ?_ _ | refine bput ?_ (by simp) _ | (refine bstep ?_ (by assumption)))))).mono ?_
    rintro e w1 ⟨he, hb1⟩; rw [H1.out] at he; subst he
    obtain ⟨hb1c, hb1f⟩ := bcell hb1
    have hb1z := hb1.size
    simp [Nat.add_one_le_iff] at hb1z
    
    go_wp2_with fail
    go_ret
    exact ⟨by rw [HV.out]; rfl, (by repeat (first | exact Below.refl _ _ | refine Below.drew ?_ | refine bpush ?_ _ | refine bput ?_ (by simp) _ | (refine bstep ?_ (by assumption))))⟩
  cases h2 : R.all (inB 1 2000)
  · have HV : Hid (vFd ⟨C, R, gap, str⟩ = false) := by simp only [Hid, vFd, h1, h2]; rfl
    have H1 := Lib.hid h1; have H2 := Lib.hid h2; clear h1 h2
    go_enter Try.func31, Try.ntmps31
    go_wp2_with fail
    refine (allN_any C _ _ (SliceOf.below hc.out (by repeat (first | exact Below.refl _ _ | refine Below.drew ?_ | refine bpush ?_ _ | refine bput ?_ (by simp) _ | (refine bstep ?_ (by assumption)))))).mono ?_
    rintro e w1 ⟨he, hb1⟩; rw [H1.out] at he; subst he
    obtain ⟨hb1c, hb1f⟩ := bcell hb1
    have hb1z := hb1.size
    simp [Nat.add_one_le_iff] at hb1z
    go_wp2_with fail
    refine (within_any 1 2000 R _ _ (SliceOf.below hr.out (by repeat (first | exact Below.refl _ _ | refine Below.drew ?_ | refine bpush ?_ _ | refine bput ?_ (by simp) _ | (refine bstep ?_ (by assumption)))))).mono ?_
    rintro e w2 ⟨he, rfl⟩; rw [H2.out] at he; subst he
    go_wp2_with fail
    go_ret
    exact ⟨by rw [HV.out]; rfl, (by repeat (first | exact Below.refl _ _ | refine Below.drew ?_ | refine bpush ?_ _ | refine bput ?_ (by simp) _ | (refine bstep ?_ (by assumption))))⟩
  cases h3 : inB 0 50 gap
  · have HV : Hid (vFd ⟨C, R, gap, str⟩ = false) := by simp only [Hid, vFd, h1, h2, h3]; rfl
    have H1 := Lib.hid h1; have H2 := Lib.hid h2; have H3 := Lib.hid h3; clear h1 h2 h3
    go_enter Try.func31, Try.ntmps31
    go_wp2_with fail
    refine (allN_any C _ _ (SliceOf.below hc.out (by repeat (first | exact Below.refl _ _ | refine Below.drew ?_ | refine bpush ?_ _ | refine bput ?_ (by simp) _ | (refine bstep ?_ (by assumption)))))).mono ?_
    rintro e w1 ⟨he, hb1⟩; rw [H1.out] at he; subst he
    obtain ⟨hb1c, hb1f⟩ := bcell hb1
    have hb1z := hb1.size
    simp [Nat.add_one_le_iff] at hb1z
    go_wp2_with fail
    refine (within_any 1 2000 R _ _ (SliceOf.below hr.out (by repeat (first | exact Below.refl _ _ | refine Below.drew ?_ | refine bpush ?_ _ | refine bput ?_ (by simp) _ | (refine bstep ?_ (by assumption)))))).mono ?_
    rintro e w2 ⟨he, rfl⟩; rw [H2.out] at he; subst he
    go_wp2_with fail
    refine (within1 0 50 gap (by go_simp)).mono ?_
    rintro e w3 ⟨he, rfl⟩; rw [H3.out] at he; subst he
    go_wp2_with fail
    go_ret
    exact ⟨by rw [HV.out]; rfl, (by repeat (first | exact Below.refl _ _ | refine Below.drew ?_ | refine bpush ?_ _ | refine bput ?_ (by simp) _ | (refine bstep ?_ (by assumption))))⟩
  · have HV : Hid (vFd ⟨C, R, gap, str⟩ = inB 0 200 str) := by simp only [Hid, vFd, h1, h2, h3]; rfl
    have H1 := Lib.hid h1; have H2 := Lib.hid h2; have H3 := Lib.hid h3; clear h1 h2 h3
    go_enter Try.func31, Try.ntmps31
    go_wp2_with fail
    refine (allN_any C _ _ (SliceOf.below hc.out (by repeat (first | exact Below.refl _ _ | refine Below.drew ?_ | refine bpush ?_ _ | refine bput ?_ (by simp) _ | (refine bstep ?_ (by assumption)))))).mono ?_
    rintro e w1 ⟨he, hb1⟩; rw [H1.out] at he; subst he
    obtain ⟨hb1c, hb1f⟩ := bcell hb1
    have hb1z := hb1.size
    simp [Nat.add_one_le_iff] at hb1z
    go_wp2_with fail
    refine (within_any 1 2000 R _ _ (SliceOf.below hr.out (by repeat (first | exact Below.refl _ _ | refine Below.drew ?_ | refine bpush ?_ _ | refine bput ?_ (by simp) _ | (refine bstep ?_ (by assumption)))))).mono ?_
    rintro e w2 ⟨he, rfl⟩; rw [H2.out] at he; subst he
    go_wp2_with fail
    refine (within1 0 50 gap (by go_simp)).mono ?_
    rintro e w3 ⟨he, rfl⟩; rw [H3.out] at he; subst he
    go_wp2_with fail
    refine (within1 0 200 str (by go_simp)).mono ?_
    rintro e w4 ⟨rfl, rfl⟩
    go_wp2_with fail
    go_ret
    exact ⟨by rw [HV.out]; rfl, (by repeat (first | exact Below.refl _ _ | refine Below.drew ?_ | refine bpush ?_ _ | refine bput ?_ (by simp) _ | (refine bstep ?_ (by assumption))))⟩

def fdChk (f : Fd) : Int := if 7 < f.C.length then 5 else if inB 1 3 f.R.length = true then (if vFd f = true then 0 else 2) else 4
theorem fdChk_zero {f : Fd} (h : fdChk f = 0) : f.C.length ≤ 7 ∧ inB 1 3 f.R.length = true ∧ vFd f = true := by
  unfold fdChk at h
  split at h
  · omega
  · split at h
    · split at h
      · exact ⟨by omega, by assumption, by assumption⟩
      · omega
    · omega
set_option maxRecDepth 20000 in
set_option maxHeartbeats 1600000 in
theorem fdCheck_any (C : List Tn) (R : List Int) (gap str : Int) (ca ra : Option Addr) (cc rc : Nat) (w : World) (hc : SliceOf encN 4 w (.slice ca C.length cc) C) (hr : Ints w (.slice ra R.length rc) R) :
    Calls Try.prog 19 #[.agg #[.slice ca C.length cc, .slice ra R.length rc, iv gap, iv str]] w fun e w' => e = .returned (iv (fdChk ⟨C, R, gap, str⟩)) ∧ Below w.heap.size w w' := by
  have hc := Lib.hid hc; have hr := Lib.hid hr
  by_cases h1 : 7 < C.length
  · have HV : Hid (fdChk ⟨C, R, gap, str⟩ = 5) := by simp [Hid, fdChk, h1]
    go_enter Try.func19, Try.ntmps19
    go_wp2_with fail
    go_ret
    exact ⟨by rw [HV.out]; rfl, (by repeat (first | exact Below.refl _ _ | refine Below.drew ?_ | refine bpush ?_ _ | refine bput ?_ (by simp) _ | (refine bstep ?_ (by assumption))))⟩
  cases h2 : inB 1 3 (R.length : Int)
  · have HV : Hid (fdChk ⟨C, R, gap, str⟩ = 4) := by simp [Hid, fdChk, h1, h2]
    have H2 := Lib.hid h2; clear h2
    go_enter Try.func19, Try.ntmps19
    go_wp2_with fail
    refine (within1 1 3 (R.length : Int) (by go_simp)).mono ?_
    rintro e w3 ⟨he, rfl⟩; rw [H2.out] at he; subst he
    go_wp2_with fail
    go_ret
    exact ⟨by rw [HV.out]; rfl, (by repeat (first | exact Below.refl _ _ | refine Below.drew ?_ | refine bpush ?_ _ | refine bput ?_ (by simp) _ | (refine bstep ?_ (by assumption))))⟩
  cases h3 : vFd ⟨C, R, gap, str⟩
  · have HV : Hid (fdChk ⟨C, R, gap, str⟩ = 2) := by simp [Hid, fdChk, h1, h2, h3]
    have H2 := Lib.hid h2; have H3 := Lib.hid h3; clear h2 h3
    go_enter Try.func19, Try.ntmps19
    go_wp2_with fail
    refine (within1 1 3 (R.length : Int) (by go_simp)).mono ?_
    rintro e w3 ⟨he, rfl⟩; rw [H2.out] at he; subst he
    go_wp2_with fail
    refine (validField_any C R gap str ca ra cc rc _ (SliceOf.below hc.out (by repeat (first | exact Below.refl _ _ | refine Below.drew ?_ | refine bpush ?_ _ | refine bput ?_ (by simp) _ | (refine bstep ?_ (by assumption))))) (SliceOf.below hr.out (by repeat (first | exact Below.refl _ _ | refine Below.drew ?_ | refine bpush ?_ _ | refine bput ?_ (by simp) _ | (refine bstep ?_ (by assumption)))))).mono ?_
    rintro e w4 ⟨he, hb4⟩; rw [H3.out] at he; subst he
    go_wp2_with fail
    go_ret
    exact ⟨by rw [HV.out]; rfl, (by repeat (first | exact Below.refl _ _ | refine Below.drew ?_ | refine bpush ?_ _ | refine bput ?_ (by simp) _ | (refine bstep ?_ (by assumption))))⟩
  · have HV : Hid (fdChk ⟨C, R, gap, str⟩ = 0) := by simp [Hid, fdChk, h1, h2, h3]
    have H2 := Lib.hid h2; have H3 := Lib.hid h3; clear h2 h3
    go_enter Try.func19, Try.ntmps19
    go_wp2_with fail
    refine (within1 1 3 (R.length : Int) (by go_simp)).mono ?_
    rintro e w3 ⟨he, rfl⟩; rw [H2.out] at he; subst he
    go_wp2_with fail
    refine (validField_any C R gap str ca ra cc rc _ (SliceOf.below hc.out (by repeat (first | exact Below.refl _ _ | refine Below.drew ?_ | refine bpush ?_ _ | refine bput ?_ (by simp) _ | (refine bstep ?_ (by assumption))))) (SliceOf.below hr.out (by repeat (first | exact Below.refl _ _ | refine Below.drew ?_ | refine bpush ?_ _ | refine bput ?_ (by simp) _ | (refine bstep ?_ (by assumption)))))).mono ?_
    rintro e w4 ⟨he, hb4⟩; rw [H3.out] at he; subst he
    go_wp2_with fail
    go_ret
    exact ⟨by rw [HV.out]; rfl, (by repeat (first | exact Below.refl _ _ | refine Below.drew ?_ | refine bpush ?_ _ | refine bput ?_ (by simp) _ | (refine bstep ?_ (by assumption))))⟩
end Go.Proofs.Ytdhkgpfcanekkaa

/- When a cloth is dry. -/
namespace Go.Proofs.Ytdhkgpfcanekkaa
open Go Go.RowKit Go.Shelf
attribute [local go_sem ↓] Go.wp_at_zero Go.wp_at_succ

/-- At which hour something with so much water is dry, that hangs from an hour on, after which the hours dry so much. -/
def dryL : List Int → Int → Nat → Nat
  | [], wt, h => if 0 < wt then h + 1 else h
  | x :: xs, wt, h => if 0 < wt then dryL xs (wt - x) (h + 1) else h
theorem dryL_done {wt : Int} (h : ¬ 0 < wt) (l : List Int) (n : Nat) : dryL l wt n = n := by cases l <;> simp [dryL, h]
theorem dryL_step {S : List Sp} {side : Sp → Int} {wt : Int} {k : Nat} {p : Sp} (h0 : 0 < wt) (hp : S[k]? = some p) : dryL ((S.map side).drop k) wt k = dryL ((S.map side).drop (k + 1)) (wt - side p) (k + 1) := by
  have hk := (List.getElem?_eq_some_iff.1 hp).1
  have : (S.map side).drop k = side p :: (S.map side).drop (k + 1) := by
    rw [List.drop_eq_getElem_cons (by simpa using hk)]
    congr 1
    have := (List.getElem?_eq_some_iff.1 hp).2
    simp [this]
  rw [this, dryL, if_pos h0]
theorem dryL_end {S : List Sp} {side : Sp → Int} {wt : Int} (h0 : 0 < wt) : dryL ((S.map side).drop S.length) wt S.length = S.length + 1 := by
  rw [List.drop_of_length_le (by simp), dryL, if_pos h0]
theorem dryL_le {S : List Sp} {side : Sp → Int} : ∀ (d k : Nat) (wt : Int), k + d = S.length → dryL ((S.map side).drop k) wt k ≤ S.length + 1 ∧ k ≤ dryL ((S.map side).drop k) wt k := by
  intro d
  induction d with
  | zero =>
    intro k wt hk
    obtain rfl : k = S.length := by omega
    by_cases h : 0 < wt
    · rw [dryL_end h]; omega
    · rw [dryL_done h]; omega
  | succ d ih =>
    intro k wt hk
    by_cases h : 0 < wt
    · obtain ⟨p, hp⟩ := getElem?_of_lt (show k < S.length by omega)
      rw [dryL_step h hp]
      have := ih (k + 1) (wt - side p) (by omega)
      omega
    · rw [dryL_done h]; omega

theorem bblkG {W W1 : World} {k : Nat} {o : Obj} (hb : Below W.heap.size W W1) (h : W.heap[k]? = some o) : W1.heap[k]? = some o := (hb.block k (Array.getElem?_eq_some_iff.1 h).1).trans h
theorem sl_rowG {α : Type} {enc : α → List Value} {sz : Nat} {w : World} {a : Option Addr} {n c k : Nat} {L : List α} {p : α} (h : SliceOf enc sz w (.slice a n c) L) (hk : L[k]? = some p) :
    ∃ b off, a = some ⟨b, off, none⟩ ∧ ∀ j u, (enc p)[j]? = some u → w.cell? ⟨b, off + k * sz + j, none⟩ = some u := by
  obtain ⟨a', c', hv, _, hc⟩ := h
  simp only [Value.slice.injEq] at hv
  obtain ⟨rfl, rfl, rfl⟩ := hv
  exact hc k p hk

end Go.Proofs.Ytdhkgpfcanekkaa

/- The first and the last hour at which a cloth can be dry; how late it can be hung. -/
namespace Go.Proofs.Ytdhkgpfcanekkaa
open Go Go.RowKit Go.Shelf
attribute [local go_sem ↓] Go.wp_at_zero Go.wp_at_succ

/-- The first hour at which a cloth can be dry, and the last one. -/
def earL (c : Tn) (S : List Sp) (fr : Nat) : Nat := dryL ((S.map Prod.snd).drop fr) c.2.1 fr
def latL (c : Tn) (S : List Sp) (fr : Nat) : Nat := dryL ((S.map Prod.fst).drop fr) c.2.2 fr
theorem vTn_water {c : Tn} (h : vTn c = true) : (0 ≤ c.2.1 ∧ c.2.1 ≤ 500) ∧ (0 ≤ c.2.2 ∧ c.2.2 ≤ 500) ∧ c.2.1 ≤ c.2.2 := by
  simp only [vTn, Bool.and_eq_true] at h
  obtain ⟨p1, p2, p3, p4, p5⟩ := okSpan_iff.1 h.2
  omega

/-- The latest hour, up to so many hours, at which something can be hung. -/
def lateTo (lt : Nat → Nat) (rain : Nat) : Nat → Option Nat
  | 0 => none
  | k + 1 => if lt k ≤ rain then some k else lateTo lt rain k
def lateO (c : Tn) (S : List Sp) (rain : Nat) : Option Nat := lateTo (latL c S) rain (rain + 1)
theorem lateTo_some {lt : Nat → Nat} {rain : Nat} : ∀ {n k : Nat}, lateTo lt rain n = some k → k < n ∧ lt k ≤ rain ∧ ∀ j, k < j → j < n → rain < lt j
  | 0, _, h => by simp [lateTo] at h
  | n + 1, k, h => by
    unfold lateTo at h
    split at h
    · obtain rfl := Option.some.inj h
      exact ⟨Nat.lt_succ_self _, by assumption, fun j h1 h2 => by omega⟩
    · obtain ⟨h1, h2, h3⟩ := lateTo_some h
      refine ⟨by omega, h2, fun j h4 h5 => ?_⟩
      by_cases e : j = n
      · subst e; omega
      · exact h3 j h4 (by omega)
theorem lateTo_none {lt : Nat → Nat} {rain : Nat} : ∀ {n : Nat}, lateTo lt rain n = none → ∀ j, j < n → rain < lt j
  | 0, _, j, hj => by omega
  | n + 1, h, j, hj => by
    unfold lateTo at h
    split at h
    · cases h
    · by_cases e : j = n
      · subst e; omega
      · exact lateTo_none h j (by omega)
def foundV : Option Nat → Value
  | some h => .tuple #[iv h, .bool true]
  | none => .tuple #[iv 0, .bool false]

end Go.Proofs.Ytdhkgpfcanekkaa

/- How late a cloth can be hung: the calls from outside, at valid fields. -/
namespace Go.Proofs.Ytdhkgpfcanekkaa
open Go Go.RowKit Go.Shelf
attribute [local go_sem ↓] Go.wp_at_zero Go.wp_at_succ

set_option maxHeartbeats 400000 in
theorem validNum_any (k n : Nat) (w : World) (hn : n ≤ 1000) :
    Calls Try.prog 23 #[iv k, iv n] w fun e w' => e = .returned (.bool (inB 0 ((n : Int) - 1) k)) ∧ Below w.heap.size w w' := by
  have hw : IntKind.i64.wrap ((n : Int) - 1) = (n : Int) - 1 := IntWalk.i64_in _ ⟨by omega, by omega⟩
  go_enter Try.func23, Try.ntmps23
  go_wp2_with fail
  refine (within1 0 ((n : Int) - 1) k (by go_simp)).mono ?_
  rintro e w3 ⟨rfl, rfl⟩
  go_wp2_with fail
  go_ret
  exact ⟨rfl, (by repeat (first | exact Below.refl _ _ | refine Below.drew ?_ | refine bpush ?_ _ | refine bput ?_ (by simp) _ | (refine bstep ?_ (by assumption))))⟩
def zdr : Array Value := #[.slice none 0 0, .slice none 0 0, iv 0, iv 0, .slice none 0 0]

/-- What there is when a call of a field in some weather begins. -/
structure FdIn (C : List Tn) (R : List Int) (gap str : Int) (S : List Sp) (ca ra wa : Option Addr) (cc rc wc : Nat) (w : World) : Prop where
  cl : SliceOf encN 4 w (.slice ca C.length cc) C
  fr : Ints w (.slice ra R.length rc) R
  we : SliceOf encS 2 w (.slice wa S.length wc) S
theorem FdIn.below {C : List Tn} {R : List Int} {gap str : Int} {S : List Sp} {ca ra wa : Option Addr} {cc rc wc : Nat} {w w' : World} (h : FdIn C R gap str S ca ra wa cc rc wc w) (hb : Below w.heap.size w w') : FdIn C R gap str S ca ra wa cc rc wc w' :=
  ⟨h.cl.below hb, h.fr.below hb, h.we.below hb⟩
/-- A valid field in valid weather. -/
structure FdOk (C : List Tn) (R : List Int) (gap str : Int) (S : List Sp) : Prop where
  ck : fdChk ⟨C, R, gap, str⟩ = 0
  sl : 1 ≤ S.length ∧ S.length ≤ 24
  sv : S.all vWth = true
theorem FdOk.len {C : List Tn} {R : List Int} {gap str : Int} {S : List Sp} (h : FdOk C R gap str S) : C.length ≤ 7 := (fdChk_zero h.ck).1
theorem FdOk.tn {C : List Tn} {R : List Int} {gap str : Int} {S : List Sp} (h : FdOk C R gap str S) {k : Nat} {c : Tn} (hk : C[k]? = some c) : vTn c = true := by
  have := (fdChk_zero h.ck).2.2
  simp only [vFd, Bool.and_eq_true, List.all_eq_true] at this
  exact this.1 c (List.mem_of_getElem? hk)

def lateV : Option Nat → Value
  | some h => .tuple #[iv h, iv 0]
  | none => .tuple #[iv 0, iv 9]
end Go.Proofs.Ytdhkgpfcanekkaa

/- Turns: stocks that are free, visits, the custom's order: plain. -/
namespace Go.Proofs.Ytdhkgpfcanekkaa
/-- The first place of the least one of the first k. -/
def bestTo (f : List Int) : Nat → Nat
  | 0 => 0
  | k + 1 => if f.getD k 0 < f.getD (bestTo f k) 0 then k else bestTo f k
def best (f : List Int) : Nat := bestTo f f.length
theorem bestTo_le (f : List Int) : ∀ k, bestTo f k ≤ k - 1
  | 0 => by simp [bestTo]
  | k + 1 => by
    have := bestTo_le f k
    unfold bestTo
    split <;> omega
theorem bestTo_min (f : List Int) : ∀ k j, j < k → f.getD (bestTo f k) 0 ≤ f.getD j 0
  | 0, j, h => by omega
  | k + 1, j, h => by
    have ih := bestTo_min f k
    unfold bestTo
    split
    · by_cases hj : j = k
      · subst hj; omega
      · have := ih j (by omega); omega
    · by_cases hj : j = k
      · subst hj; omega
      · exact ih j (by omega)
theorem best_lt {f : List Int} (h : 0 < f.length) : best f < f.length := by
  have := bestTo_le f f.length
  unfold best; omega
/-- When a cloth that comes at c is taken, and when each stock is free behind it. -/
def takeAt (f : List Int) (c : Int) : Int := max c (f.getD (best f) 0)
def stepF (f : List Int) (c s : Int) : List Int := f.set (best f) (takeAt f c + s)
theorem stepF_len (f : List Int) (c s : Int) : (stepF f c s).length = f.length := by simp [stepF]
/-- The visits of the cloths of an order: which one, when it is taken, when it is done. -/
def visL (co st : Nat → Int) : List Int → List Nat → List (Nat × Int × Int)
  | _, [] => []
  | f, x :: o => (x, takeAt f (co x), takeAt f (co x) + st x) :: visL co st (stepF f (co x) (st x)) o
theorem visL_len (co st : Nat → Int) : ∀ (o : List Nat) (f : List Int), (visL co st f o).length = o.length
  | [], _ => rfl
  | x :: o, f => by simp [visL, visL_len co st o]
def endL (l : List (Nat × Int × Int)) : Int := l.foldl (fun m v => max m v.2.2) 0
def patL (co : Nat → Int) (limit : Int) (l : List (Nat × Int × Int)) : Bool := l.all fun v => decide (v.2.1 - co v.1 ≤ limit)
def putTo (l : List (Nat × Int × Int)) (z : List Int) : List Int := l.foldl (fun z v => z.set v.1 v.2.1) z
/-- The least number from k on that does, or the one at which the fuel ends. -/
def leastB (p : Nat → Bool) : Nat → Nat → Nat
  | 0, k => k
  | f + 1, k => if p k then k else leastB p f (k + 1)
def fewS (co st : Nat → Int) (o : List Nat) (limit : Int) : Nat := leastB (fun k => patL co limit (visL co st (List.replicate k 0) o)) (o.length - 1) 1

def cnt (f : List Int) (x : Int) : Nat := f.countP (fun y => decide (y ≤ x))
/-- The stocks f are free no later than the stocks g. -/
def Dom (f g : List Int) : Prop := ∀ x, cnt g x ≤ cnt f x
theorem cnt_pos {f : List Int} {x : Int} (h : 0 < f.length) : 0 < cnt f x ↔ f.getD (best f) 0 ≤ x := by
  unfold cnt
  rw [List.countP_pos_iff]
  constructor
  · rintro ⟨y, hy, hx⟩
    obtain ⟨j, hj, rfl⟩ := List.getElem_of_mem hy
    have := bestTo_min f f.length j hj
    unfold best
    simp only [List.getD_eq_getElem?_getD, List.getElem?_eq_getElem hj, Option.getD_some, decide_eq_true_eq] at this hx ⊢
    omega
  · intro hx
    have hb := best_lt h
    refine ⟨f[best f], List.getElem_mem _, ?_⟩
    simpa [List.getD_eq_getElem?_getD, List.getElem?_eq_getElem hb] using hx
theorem cnt_set {f : List Int} {i : Nat} (h : i < f.length) (v x : Int) : cnt (f.set i v) x = cnt f x - (if f.getD i 0 ≤ x then 1 else 0) + (if v ≤ x then 1 else 0) := by
  unfold cnt
  rw [List.countP_set h]
  simp [List.getD_eq_getElem?_getD, List.getElem?_eq_getElem h]
theorem Dom.min {f g : List Int} (h : Dom f g) (hf : 0 < f.length) (hg : 0 < g.length) : f.getD (best f) 0 ≤ g.getD (best g) 0 := by
  have h1 := (cnt_pos (x := g.getD (best g) 0) hg).2 (Int.le_refl _)
  exact (cnt_pos hf).1 (Nat.lt_of_lt_of_le h1 (h _))
theorem Dom.step {f g : List Int} (h : Dom f g) (hf : 0 < f.length) (hg : 0 < g.length) {c s s' : Int} (hs : s ≤ s') : takeAt f c ≤ takeAt g c ∧ Dom (stepF f c s) (stepF g c s') := by
  have hm := h.min hf hg
  have ht : takeAt f c ≤ takeAt g c := by unfold takeAt; omega
  refine ⟨ht, fun x => ?_⟩
  unfold stepF
  rw [cnt_set (best_lt hf), cnt_set (best_lt hg)]
  have h1 := h x
  have p1 := cnt_pos (f := f) (x := x) hf
  have p2 := cnt_pos (f := g) (x := x) hg
  by_cases a : f.getD (best f) 0 ≤ x
  · have a1 := p1.2 a
    by_cases b : g.getD (best g) 0 ≤ x
    · have b1 := p2.2 b
      simp only [a, b, if_true]
      split <;> split <;> omega
    · simp only [a, b, if_true, if_false]
      have b1 : cnt g x = 0 := by
        cases hc : cnt g x with
        | zero => rfl
        | succ n => exact absurd (p2.1 (by omega)) b
      split <;> split <;> omega
  · have b : ¬ g.getD (best g) 0 ≤ x := by omega
    simp only [a, b, if_false]
    split <;> split <;> omega
theorem Dom.refl (f : List Int) : Dom f f := fun _ => Nat.le_refl _
/-- The same cloths, none of them later. -/
inductive Sooner : List (Nat × Int × Int) → List (Nat × Int × Int) → Prop
  | nil : Sooner [] []
  | cons {a b : Nat × Int × Int} {l m : List (Nat × Int × Int)} : (a.1 = b.1 ∧ a.2.1 ≤ b.2.1 ∧ a.2.2 ≤ b.2.2) → Sooner l m → Sooner (a :: l) (b :: m)
/-- Shorter stays: nobody is taken later. -/
theorem vis_mono (co st st' : Nat → Int) : ∀ (o : List Nat) (f g : List Int), (∀ x ∈ o, st x ≤ st' x) → Dom f g → 0 < f.length → 0 < g.length →
    Sooner (visL co st f o) (visL co st' g o)
  | [], _, _, _, _, _, _ => Sooner.nil
  | x :: o, f, g, hs, h, hf, hg => by
    obtain ⟨h1, h2⟩ := h.step hf hg (c := co x) (hs x (by simp))
    have := hs x (by simp)
    refine Sooner.cons ⟨rfl, h1, ?_⟩ (vis_mono co st st' o _ _ (fun y hy => hs y (by simp [hy])) h2 (by rw [stepF_len]; exact hf) (by rw [stepF_len]; exact hg))
    simp only; omega
theorem pat_mono {co : Nat → Int} {limit : Int} : ∀ {a b : List (Nat × Int × Int)}, Sooner a b → patL co limit b = true → patL co limit a = true
  | _, _, .nil, h => h
  | _, _, .cons (a := x) (b := y) h t, hb => by
    simp only [patL, List.all_cons, Bool.and_eq_true, decide_eq_true_eq] at hb ⊢
    refine ⟨?_, pat_mono t hb.2⟩
    have := h.1
    rw [this]; omega
theorem leastB_ge (p : Nat → Bool) : ∀ f k, k ≤ leastB p f k
  | 0, k => Nat.le_refl _
  | f + 1, k => by
    unfold leastB
    split
    · exact Nat.le_refl _
    · have := leastB_ge p f (k + 1); omega
theorem leastB_mono {p q : Nat → Bool} (h : ∀ k, 0 < k → q k = true → p k = true) : ∀ f k, 0 < k → leastB p f k ≤ leastB q f k
  | 0, k, _ => Nat.le_refl _
  | f + 1, k, hk => by
    unfold leastB
    by_cases hq : q k = true
    · rw [if_pos hq, if_pos (h k hk hq)]; exact Nat.le_refl _
    · rw [if_neg hq]
      split
      · have := leastB_ge q f (k + 1); omega
      · exact leastB_mono h f (k + 1) (by omega)
theorem few_mono (co st st' : Nat → Int) (o : List Nat) (limit : Int) (hs : ∀ x ∈ o, st x ≤ st' x) : fewS co st o limit ≤ fewS co st' o limit :=
  leastB_mono (fun k hk h => pat_mono (vis_mono co st st' o _ _ hs (Dom.refl _) (by rw [List.length_replicate]; exact hk) (by rw [List.length_replicate]; exact hk)) h) _ _ (by omega)
theorem put_mono : ∀ {a b : List (Nat × Int × Int)}, Sooner a b → ∀ (z z' : List Int), z.length = z'.length → (∀ i, z.getD i 0 ≤ z'.getD i 0) → ∀ i, (putTo a z).getD i 0 ≤ (putTo b z').getD i 0
  | _, _, .nil, _, _, _, h => h
  | _, _, .cons (a := x) (b := y) h t, z, z', hl, hz => by
    simp only [putTo, List.foldl_cons]
    refine put_mono t _ _ (by simp [hl]) (fun i => ?_)
    rw [h.1]
    have := hz i
    simp only [List.getD_eq_getElem?_getD, List.getElem?_set] at this ⊢
    by_cases e : y.1 = i
    · subst e
      simp only [if_true]
      by_cases e2 : y.1 < z.length
      · rw [if_pos e2, if_pos (by omega)]; exact h.2.1
      · rw [if_neg e2, if_neg (by omega)]; exact Int.le_refl _
    · simp only [if_neg e]; exact this
/-- A list that an order that is strict sorts, is one alone. -/
theorem sorted_one {lt : Nat → Nat → Prop} (has : ∀ a b, lt a b → lt b a → False) {o o' : List Nat} (hp : o.Perm o') (h : o.Pairwise lt) (h' : o'.Pairwise lt) : o = o' :=
  List.Perm.eq_of_pairwise (fun a b _ _ h1 h2 => (has a b h1 h2).elim) h h' hp
/-- Cloths that are all alike. -/
theorem vis_alike (co st : Nat → Int) (c s : Int) : ∀ (o : List Nat) (f : List Int), (∀ x ∈ o, co x = c ∧ st x = s) → (visL co st f o).map (fun v => v.2) = (visL (fun _ => c) (fun _ => s) f (List.replicate o.length 0)).map (fun v => v.2)
  | [], _, _ => rfl
  | x :: o, f, h => by
    obtain ⟨h1, h2⟩ := h x (by simp)
    simp only [visL, List.length_cons, List.replicate_succ, List.map_cons, h1, h2]
    rw [vis_alike co st c s o _ (fun y hy => h y (by simp [hy]))]
theorem endL_map (l : List (Nat × Int × Int)) : endL l = (l.map fun v => v.2).foldl (fun m v => max m v.2) 0 := by
  unfold endL; rw [List.foldl_map]
theorem vis_fst (co st : Nat → Int) : ∀ (o : List Nat) (f : List Int), (visL co st f o).map (fun v => v.1) = o
  | [], _ => rfl
  | x :: o, f => by simp only [visL, List.map_cons]; rw [vis_fst co st o]
theorem patL_alike {co : Nat → Int} {c limit : Int} : ∀ (l : List (Nat × Int × Int)), (∀ x ∈ l.map (fun v => v.1), co x = c) → patL co limit l = (l.map fun v => v.2).all fun v => decide (v.1 - c ≤ limit)
  | [], _ => rfl
  | v :: l, h => by
    have h1 := h v.1 (by simp)
    have := patL_alike (limit := limit) l (fun x hx => h x (by simp [hx]))
    simp only [patL, List.all_cons, List.map_cons] at this ⊢
    rw [this, h1]
def alikeE (n k : Nat) : Int := ((visL (fun _ => 0) (fun _ => 1) (List.replicate k 0) (List.replicate n 0)).map fun v => v.2).foldl (fun m v => max m v.2) 0
def alikeP (n k : Nat) (limit : Int) : Bool := ((visL (fun _ => 0) (fun _ => 1) (List.replicate k 0) (List.replicate n 0)).map fun v => v.2).all fun v => decide (v.1 - 0 ≤ limit)
def alikeF (n limit : Nat) : Nat := leastB (fun k => alikeP n k limit) (n - 1) 1
theorem alike_end : ∀ n < 11, ∀ k < 9, 1 ≤ k → alikeE n k = (((n + k - 1) / k : Nat) : Int) := by decide +kernel
theorem alike_few : ∀ n < 11, ∀ limit < 10, alikeF n limit = max 1 ((n + limit) / (limit + 1)) := by decide +kernel
theorem end_alike {co st : Nat → Int} {o : List Nat} {k : Nat} (h : ∀ x ∈ o, co x = 0 ∧ st x = 1) : endL (visL co st (List.replicate k 0) o) = alikeE o.length k := by
  rw [endL_map, vis_alike co st 0 1 o _ h]; rfl
theorem few_alike {co st : Nat → Int} {o : List Nat} {limit : Nat} (h : ∀ x ∈ o, co x = 0 ∧ st x = 1) : fewS co st o limit = alikeF o.length limit := by
  unfold fewS alikeF
  congr 1
  funext k
  rw [patL_alike (c := 0) _ (fun x hx => by rw [vis_fst] at hx; exact (h x hx).1), vis_alike co st 0 1 o _ h]; rfl
structure Ct where
  (we co lo hi : Int)
def ctAt (C : List Ct) (a : Nat) : Ct := C.getD a ⟨0, 0, 0, 0⟩
/-- A cloth of the same weaver, that comes at the same hour. -/
def sameC (C : List Ct) (a b : Nat) : Bool := decide ((ctAt C b).we = (ctAt C a).we) && decide ((ctAt C b).co = (ctAt C a).co)
def befC (C : List Ct) (a b : Nat) : Bool := decide (b < a) && sameC C a b
/-- How many of its weaver's cloths stand before one. -/
def rnd (C : List Ct) (xs : List Nat) (a : Nat) : Nat := xs.countP (befC C a)
def rkC (C : List Ct) (R : List Int) (a : Nat) : Int := R.getD (ctAt C a).we.toNat 0
/-- The custom's order. -/
def ltK (C : List Ct) (R : List Int) (xs : List Nat) (a b : Nat) : Prop :=
  (ctAt C a).co < (ctAt C b).co ∨ (ctAt C a).co = (ctAt C b).co ∧ (rnd C xs a < rnd C xs b ∨ rnd C xs a = rnd C xs b ∧ rkC C R a < rkC C R b)
theorem ltK_asym (C : List Ct) (R : List Int) (xs : List Nat) (a b : Nat) (h : ltK C R xs a b) (h' : ltK C R xs b a) : False := by
  unfold ltK at *; omega
/-- Ranks that are all different. -/
def RkOk (R : List Int) : Prop := ∀ i j, i < R.length → j < R.length → R.getD i 0 = R.getD j 0 → i = j
def WeOk (C : List Ct) (R : List Int) : Prop := ∀ a, a < C.length → 0 ≤ (ctAt C a).we ∧ (ctAt C a).we < R.length
theorem rnd_lt {C : List Ct} {xs : List Nat} {a b : Nat} (ha : a ∈ xs) (hab : a < b) (hs : sameC C b a = true) : rnd C xs a < rnd C xs b := by
  have hmono : ∀ l : List Nat, l.countP (befC C a) ≤ l.countP (befC C b) := fun l => by
    refine List.countP_mono_left (fun x _ h => ?_)
    simp only [befC, sameC, Bool.and_eq_true, decide_eq_true_eq] at h hs ⊢
    refine ⟨by omega, ?_, ?_⟩
    · rw [h.2.1, hs.1]
    · rw [h.2.2, hs.2]
  unfold rnd
  obtain ⟨s, t, rfl⟩ := List.append_of_mem ha
  rw [List.countP_append, List.countP_append, List.countP_cons, List.countP_cons]
  have h1 := hmono s
  have h2 := hmono t
  have h3 : befC C a a = false := by simp [befC]
  have h4 : befC C b a = true := by simp [befC, hab, hs]
  rw [h3, h4]; simp; omega
theorem ltK_total {C : List Ct} {R : List Int} {xs : List Nat} (hR : RkOk R) (hW : WeOk C R) (hx : ∀ x ∈ xs, x < C.length) {a b : Nat} (ha : a ∈ xs) (hb : b ∈ xs) (hne : a ≠ b) : ltK C R xs a b ∨ ltK C R xs b a := by
  by_cases h1 : (ctAt C a).co = (ctAt C b).co
  · by_cases h2 : rnd C xs a = rnd C xs b
    · by_cases h3 : rkC C R a = rkC C R b
      · have wa := hW a (hx a ha)
        have wb := hW b (hx b hb)
        have hw := hR _ _ (by omega) (by omega) h3
        have hwe : (ctAt C a).we = (ctAt C b).we := by omega
        rcases Nat.lt_or_gt_of_ne hne with h | h
        · have := rnd_lt (C := C) ha h (by simp [sameC, h1, hwe]); omega
        · have := rnd_lt (C := C) hb h (by simp [sameC, h1, hwe]); omega
      · unfold ltK; omega
    · unfold ltK; omega
  · unfold ltK; omega
/-- The order in which cloths are taken. -/
def OrdC (C : List Ct) (R : List Int) (xs o : List Nat) : Prop := o.Perm xs ∧ o.Pairwise fun a b => ¬ ltK C R xs b a
theorem OrdC.strict {C : List Ct} {R : List Int} {xs o : List Nat} (h : OrdC C R xs o) (hR : RkOk R) (hW : WeOk C R) (hx : ∀ x ∈ xs, x < C.length) (hn : xs.Nodup) : o.Pairwise (ltK C R xs) := by
  have hno : o.Nodup := (h.1.nodup_iff).2 hn
  have := List.Pairwise.and h.2 hno
  refine List.Pairwise.imp_of_mem ?_ this
  rintro a b ha hb ⟨h1, h2⟩
  rcases ltK_total hR hW hx (h.1.mem_iff.1 ha) (h.1.mem_iff.1 hb) h2 with h | h
  · exact h
  · exact (h1 h).elim
theorem OrdC.one {C : List Ct} {R : List Int} {xs o o' : List Nat} (h : OrdC C R xs o) (h' : OrdC C R xs o') (hR : RkOk R) (hW : WeOk C R) (hx : ∀ x ∈ xs, x < C.length) (hn : xs.Nodup) : o = o' :=
  sorted_one (ltK_asym C R xs) (h.1.trans h'.1.symm) (h.strict hR hW hx hn) (h'.strict hR hW hx hn)
theorem ltK_congr {C C' : List Ct} {R : List Int} {xs : List Nat} (h : ∀ a, (ctAt C a).we = (ctAt C' a).we ∧ (ctAt C a).co = (ctAt C' a).co) (a b : Nat) : ltK C R xs a b ↔ ltK C' R xs a b := by
  have e1 : ∀ a, rnd C xs a = rnd C' xs a := fun a => by
    unfold rnd; congr 1; funext b; simp only [befC, sameC, (h a).1, (h a).2, (h b).1, (h b).2]
  unfold ltK rkC
  rw [(h a).2, (h b).2, (h a).1, (h b).1, e1, e1]
end Go.Proofs.Ytdhkgpfcanekkaa

/- Turns: numbers, first, briefly, long. -/
namespace Go.Proofs.Ytdhkgpfcanekkaa
open Go Go.RowKit Go.Shelf
attribute [local go_sem] Oper.semAt_some
attribute [local go_sem ↓] Go.wp_at_zero Go.wp_at_succ

/-- A row of integers. -/
def rowI (f : List Int) : Array Value := (f.map iv).toArray
theorem rowI_get (f : List Int) (i : Nat) (h : i < f.length) : (rowI f)[i]? = some (iv (f.getD i 0)) := by
  simp [rowI, List.getD_eq_getElem?_getD, List.getElem?_eq_getElem h]
theorem rowI_size (f : List Int) : (rowI f).size = f.length := by simp [rowI]
theorem rowI_set (f : List Int) (i : Nat) (v : Int) : (rowI f).setIfInBounds i (iv v) = rowI (f.set i v) := by
  simp [rowI, List.map_set]
theorem cell_rowI {w : World} {b i : Nat} {f : List Int} {t : TypeId} (h : w.heap[b]? = some (.cells (rowI f) t (0, 0))) (hi : i < f.length) : w.cell? ⟨b, i, none⟩ = some (iv (f.getD i 0)) := by
  rw [cell_of_row _ _ _ _ _ _ h]; exact rowI_get f i hi
theorem flatQ (l : List Int) : l.flatMap encI = l.map iv := by
  induction l with
  | nil => rfl
  | cons a l ih => rw [List.flatMap_cons, ih]; rfl
theorem heap_ownsI {w : World} {base g n : Nat} {e : TypeId} {xs : List Value} (h : w.ownsRow base e 1 (.slice (some ⟨g, 0, none⟩) n n) n xs) : w.heap[g]? = some (.cells xs.toArray e (0, 0)) := by
  rcases h.2 with ⟨h0, _⟩ | ⟨g', cap, cur, h0, hg, hh, h1, h2, h3, h4⟩
  · cases h0
  · cases h0
    rw [hh]
    congr 2
    apply Array.ext'
    rw [← h4, List.take_of_length_le]
    simp; omega
theorem ownsI_heap {w : World} {base g : Nat} {e : TypeId} {f : List Int} (h : w.heap[g]? = some (.cells (rowI f) e (0, 0))) (hb : base ≤ g) (hn : f.length ≤ 1000000) : Owns encI 1 e base w (.slice (some ⟨g, 0, none⟩) f.length f.length) f := by
  refine ⟨by rw [flatQ]; simp, .inr ⟨g, f.length, _, rfl, hb, h, Nat.le_refl _, by unfold maxLen; omega, by rw [rowI_size]; simp, ?_⟩⟩
  rw [flatQ, rowI]
  simp [List.take_of_length_le]

theorem made_row {n : Nat} : (madeCells (Value.cells (.int .i64 0)) (n * 1)).toList = (List.replicate n (0 : Int)).map iv := by
  have := toList_madeCells_one (.int .i64 0) n
  rw [Nat.mul_one]
  refine Eq.trans ?_ (this.trans ?_)
  · rfl
  · simp
/-- The numbers from 0 on. -/
def natsTo (n : Nat) : List Int := (List.range n).map fun x : Nat => (x : Int)
theorem natsTo_len (n : Nat) : (natsTo n).length = n := by simp [natsTo]
def numTo (n j : Nat) : List Int := natsTo j ++ List.replicate (n - j) 0
theorem numTo_len {n j : Nat} (h : j ≤ n) : (numTo n j).length = n := by simp [numTo, natsTo_len]; omega
theorem numTo_succ {n j : Nat} (h : j < n) : (numTo n j).set j (j : Int) = numTo n (j + 1) := by
  unfold numTo natsTo
  rw [List.range_succ, List.map_append, List.map_singleton, List.append_assoc, show n - j = (n - (j + 1)) + 1 by omega, List.replicate_succ]
  rw [List.set_append_right _ _ (by simp)]
  simp

def encC (c : Ct) : List Value := [iv c.we, iv c.co, iv c.lo, iv c.hi]
/-- A queue: cloths, ranks, stocks, the order. -/
abbrev qv (cv rv : Value) (k : Int) (ov : Value) : Value := .agg #[cv, rv, iv k, ov]

end Go.Proofs.Ytdhkgpfcanekkaa

/- When each cloth is dry: the call from outside, at valid fields. -/
namespace Go.Proofs.Ytdhkgpfcanekkaa
open Go Go.RowKit Go.Shelf
attribute [local go_sem ↓] Go.wp_at_zero Go.wp_at_succ

theorem infoSpG : (Try.prog.info? 36).map (fun i => (i.zero, i.size, i.bytes)) = some (some (.agg #[.int .i64 0, .int .i64 0]), 2, 16) := by kernel_rfl
theorem made_rowG (n : Nat) : (madeCells (Value.cells (.agg #[.int .i64 0, .int .i64 0])) (n * 2)).toList = (List.replicate (n * 2) (0 : Int)).map iv := by
  refine List.ext_getElem? fun i => ?_
  by_cases h : i < n * 2
  · have h2 : i % 2 = 0 ∨ i % 2 = 1 := by omega
    simp only [madeCells, Value.cells, Array.toList_map, Array.toList_range, List.getElem?_map, List.getElem?_range h, Option.map_some, List.map_replicate, List.getElem?_replicate, if_pos h]
    rcases h2 with h2 | h2 <;> simp [h2]
  · rw [List.getElem?_eq_none (by simp [madeCells]; omega), List.getElem?_eq_none (by simp; omega)]
theorem heap_ownsG {w : World} {base g n : Nat} {e : TypeId} {xs : List Value} (h : w.ownsRow base e 2 (.slice (some ⟨g, 0, none⟩) n n) n xs) : w.heap[g]? = some (.cells xs.toArray e (0, 0)) := by
  rcases h.2 with ⟨h0, _⟩ | ⟨g', cap, cur, h0, hg, hh, h1, h2, h3, h4⟩
  · cases h0
  · cases h0
    rw [hh]
    congr 2
    apply Array.ext'
    rw [← h4, List.take_of_length_le]
    simp; omega
theorem span_newG {w : World} {base g n : Nat} {e : TypeId} (h : w.ownsRow base e 2 (.slice (some ⟨g, 0, none⟩) n n) n (madeCells (Value.cells (.agg #[.int .i64 0, .int .i64 0])) (n * 2)).toList) : w.heap[g]? = some (.cells (rowI (List.replicate (n * 2) 0)) e (0, 0)) := by
  have := heap_ownsG h
  rw [made_rowG] at this
  exact this

/-- A list of spans, flat, of which the first k are filled. -/
def flS (L : List Sp) (n k : Nat) : List Int := (L.take k).flatMap (fun p => [p.1, p.2]) ++ List.replicate ((n - k) * 2) 0
theorem flat2_len (L : List Sp) : (L.flatMap (fun p => [p.1, p.2])).length = L.length * 2 := by
  induction L with
  | nil => rfl
  | cons p L ih => simp [List.flatMap_cons, ih]; omega
theorem flS_len {L : List Sp} {n k : Nat} (hL : L.length = n) (hk : k ≤ n) : (flS L n k).length = n * 2 := by
  simp only [flS, List.length_append, flat2_len, List.length_take, List.length_replicate]; omega
theorem flS_zero (L : List Sp) (n : Nat) : flS L n 0 = List.replicate (n * 2) 0 := by simp [flS]
theorem flS_succ {L : List Sp} {n k : Nat} {p : Sp} (hL : L.length = n) (hk : L[k]? = some p) : ((flS L n k).set (k * 2) p.1).set (k * 2 + 1) p.2 = flS L n (k + 1) := by
  have hlt := (List.getElem?_eq_some_iff.1 hk).1
  have hlen : ((L.take k).flatMap (fun p => [p.1, p.2])).length = k * 2 := by rw [flat2_len, List.length_take]; omega
  have ht : L.take (k + 1) = L.take k ++ [p] := by rw [List.take_add_one, hk]; rfl
  unfold flS
  rw [ht, List.flatMap_append, show (n - k) * 2 = (n - (k + 1)) * 2 + 1 + 1 by omega, List.replicate_succ, List.replicate_succ]
  rw [List.set_append_right _ _ (by omega), hlen, List.set_append_right _ _ (by omega), hlen]
  simp
theorem flS_get {L : List Sp} {n i : Nat} {p : Sp} (hL : L.length = n) (hi : L[i]? = some p) : (flS L n n).getD (i * 2) 0 = p.1 ∧ (flS L n n).getD (i * 2 + 1) 0 = p.2 := by
  have hlt := (List.getElem?_eq_some_iff.1 hi).1
  have hd : L.drop i = p :: L.drop (i + 1) := by rw [List.drop_eq_getElem_cons hlt]; congr 1; exact (List.getElem?_eq_some_iff.1 hi).2
  have e : L = L.take i ++ p :: L.drop (i + 1) := by rw [← hd, List.take_append_drop]
  have hlen : ((L.take i).flatMap (fun p => [p.1, p.2])).length = i * 2 := by rw [flat2_len, List.length_take]; omega
  have hf : flS L n n = (L.take i).flatMap (fun p => [p.1, p.2]) ++ (p.1 :: p.2 :: (L.drop (i + 1)).flatMap (fun p => [p.1, p.2])) := by
    unfold flS
    rw [Nat.sub_self, Nat.zero_mul, List.replicate_zero, List.append_nil, List.take_of_length_le (by omega)]
    rw [show L.flatMap (fun p => [p.1, p.2]) = (L.take i ++ p :: L.drop (i + 1)).flatMap (fun p => [p.1, p.2]) from congrArg (fun l => List.flatMap (fun p : Sp => [p.1, p.2]) l) e]
    rw [List.flatMap_append, List.flatMap_cons]; rfl
  rw [hf]
  constructor
  · rw [List.getD_eq_getElem?_getD, List.getElem?_append_right (by omega), hlen, Nat.sub_self]; rfl
  · rw [List.getD_eq_getElem?_getD, List.getElem?_append_right (by omega), hlen, show i * 2 + 1 - i * 2 = 1 by omega]; rfl
theorem slice_flS {w : World} {g n : Nat} {L : List Sp} {t : TypeId} (hL : L.length = n) (hn : n ≤ 1000000) (h : w.heap[g]? = some (.cells (rowI (flS L n n)) t (0, 0))) : SliceOf encS 2 w (.slice (some ⟨g, 0, none⟩) n n) L := by
  subst hL
  refine ⟨some ⟨g, 0, none⟩, L.length, rfl, by omega, fun i p hi => ⟨g, 0, rfl, fun j u hu => ?_⟩⟩
  have hlt := (List.getElem?_eq_some_iff.1 hi).1
  obtain ⟨g0, g1⟩ := flS_get rfl hi
  have hl := flS_len (L := L) rfl (Nat.le_refl _)
  rcases j with _ | _ | j
  · have := cell_rowI (i := i * 2) h (by omega)
    simp only [encS, List.getElem?_cons_zero, Option.some.injEq] at hu
    rw [Nat.zero_add, Nat.add_zero, this, g0, hu]
  · have := cell_rowI (i := i * 2 + 1) h (by omega)
    simp only [encS, List.getElem?_cons_succ, List.getElem?_cons_zero, Option.some.injEq] at hu
    rw [Nat.zero_add, this, g1, hu]
  · simp [encS] at hu
/-- A row of which two cells may have been written. -/
def RowBut (W : World) (g : Nat) (cs : Array Value) (t : TypeId) (i j : Nat) : Prop := ∃ u v, W.heap[g]? = some (.cells ((cs.setIfInBounds i u).setIfInBounds j v) t (0, 0))
theorem RowBut.of {W : World} {g : Nat} {f : List Int} {t : TypeId} {i j : Nat} (h : W.heap[g]? = some (.cells (rowI f) t (0, 0))) (hi : i < f.length) (hj : j < f.length) : RowBut W g (rowI f) t i j := by
  refine ⟨iv (f.getD i 0), iv (f.getD j 0), h.trans ?_⟩
  have e : ∀ k, k < f.length → ∀ l : List Int, l = f → l.set k (f.getD k 0) = f := by
    rintro k hk l rfl
    refine List.ext_getElem? fun m => ?_
    rw [List.getElem?_set]
    split
    · subst m; simp [hk, List.getD_eq_getElem?_getD]
    · rfl
  rw [rowI_set, rowI_set, e i hi f rfl, e j hj f rfl]
theorem RowBut.below {W W' : World} {g : Nat} {cs : Array Value} {t : TypeId} {i j : Nat} (h : RowBut W g cs t i j) (hb : Below W.heap.size W W') : RowBut W' g cs t i j := by
  obtain ⟨u, v, h⟩ := h
  exact ⟨u, v, bblkG hb h⟩
theorem RowBut.set {W : World} {g : Nat} {cs : Array Value} {t : TypeId} {i j : Nat} (h : RowBut W g cs t i j) (u v : Value) : ((W.setCell ⟨g, i, none⟩ u).setCell ⟨g, j, none⟩ v).heap[g]? = some (.cells ((cs.setIfInBounds i u).setIfInBounds j v) t (0, 0)) := by
  obtain ⟨u', v', h⟩ := h
  have h1 := heap_setCell_same W g i _ t u h
  have h2 := heap_setCell_same _ g j _ t v h1
  rw [h2]
  congr 2
  apply Array.ext'
  simp only [Array.toList_setIfInBounds]
  refine List.ext_getElem? fun m => ?_
  simp only [List.getElem?_set, List.length_set]
  by_cases e1 : j = m
  · subst e1; simp
  · by_cases e2 : i = m
    · subst e2; simp [e1]
    · simp [e1, e2]
theorem RowBut.cell {W : World} {g : Nat} {cs : Array Value} {t : TypeId} {i j : Nat} (h : RowBut W g cs t i j) (hi : i < cs.size) (hj : j < cs.size) : (∃ u, W.cell? ⟨g, i, none⟩ = some u) ∧ (∃ v, W.cell? ⟨g, j, none⟩ = some v) ∧ W.frozen? ⟨g, i, none⟩ = false ∧ W.frozen? ⟨g, j, none⟩ = false := by
  obtain ⟨u, v, h⟩ := h
  refine ⟨⟨_, (cell_of_row _ _ _ _ _ _ h).trans (Array.getElem?_eq_getElem (by simp; omega))⟩, ⟨_, (cell_of_row _ _ _ _ _ _ h).trans (Array.getElem?_eq_getElem (by simp; omega))⟩, ?_, ?_⟩ <;> (unfold World.frozen?; rw [h]; rfl)
def cvG (W : World) (b o : Nat) : Value := (W.cell? ⟨b, o, none⟩).getD undef
theorem cvG_of {W : World} {b o : Nat} {v : Value} (h : W.cell? ⟨b, o, none⟩ = some v) : W.cell? ⟨b, o, none⟩ = some (cvG W b o) := by rw [cvG, h]; rfl
theorem isSome_setCellG (W : World) (p q : Addr) (v : Value) : ((W.setCell p v).cell? q).isSome = (W.cell? q).isSome := by
  unfold World.cell? World.setCell
  simp only [Array.getElem?_modify]
  by_cases h : p.block = q.block
  · rw [if_pos h]
    cases hb : W.heap[q.block]? with
    | none => rfl
    | some o =>
      cases o <;> try rfl
      rename_i c e fr
      show Option.isSome (if q.spot.isSome = true then none else (if p.spot.isSome = true then c else c.setIfInBounds p.off v)[q.off]?) = Option.isSome (if q.spot.isSome = true then none else c[q.off]?)
      split
      · rfl
      · split
        · rfl
        · rw [Array.getElem?_setIfInBounds]
          by_cases e : p.off = q.off
          · rw [if_pos e]
            by_cases hs : p.off < c.size
            · rw [if_pos hs, Array.getElem?_eq_getElem (by omega)]; rfl
            · rw [if_neg hs, Array.getElem?_eq_none (by omega)]
          · rw [if_neg e]
  · rw [if_neg h]
/-- What was written in two cells. -/
theorem RowBut.fix {Z : World} {g : Nat} {cs : Array Value} {t : TypeId} {i j : Nat} {u v : Value} (hij : i ≠ j) (hi : i < cs.size) (hj : j < cs.size) (h : RowBut ((Z.setCell ⟨g, i, none⟩ u).setCell ⟨g, j, none⟩ v) g cs t i j) :
    ((Z.setCell ⟨g, i, none⟩ u).setCell ⟨g, j, none⟩ v).heap[g]? = some (.cells ((cs.setIfInBounds i u).setIfInBounds j v) t (0, 0)) := by
  obtain ⟨a, b, hh⟩ := h
  have f0 : ((cs.setIfInBounds i a).setIfInBounds j b)[i]? = some a := by rw [Array.getElem?_setIfInBounds_ne (Ne.symm hij)]; simp [hi]
  have f1 : ((cs.setIfInBounds i a).setIfInBounds j b)[j]? = some b := by simp [hj]
  have hs : (Z.cell? ⟨g, i, none⟩).isSome = true := by
    rw [← isSome_setCellG Z ⟨g, i, none⟩ _ u, ← isSome_setCellG _ ⟨g, j, none⟩ _ v, cell_of_row _ _ _ _ _ _ hh, f0]; rfl
  have hs' : (Z.cell? ⟨g, j, none⟩).isSome = true := by
    rw [← isSome_setCellG Z ⟨g, i, none⟩ _ u, ← isSome_setCellG _ ⟨g, j, none⟩ _ v, cell_of_row _ _ _ _ _ _ hh, f1]; rfl
  have e0 : ((Z.setCell ⟨g, i, none⟩ u).setCell ⟨g, j, none⟩ v).cell? ⟨g, i, none⟩ = some u :=
    (World.cell?_setCell_other (a := ⟨g, j, none⟩) (b := ⟨g, i, none⟩) _ _ (by simp <;> omega)).trans (World.cell?_setCell_same' _ _ _ hs)
  have e1 : ((Z.setCell ⟨g, i, none⟩ u).setCell ⟨g, j, none⟩ v).cell? ⟨g, j, none⟩ = some v := by
    refine World.cell?_setCell_same' _ _ _ ?_
    rw [World.cell?_setCell_other (a := ⟨g, i, none⟩) (b := ⟨g, j, none⟩) _ _ (by simp <;> omega)]; exact hs'
  rw [cell_of_row _ _ _ _ _ _ hh] at e0 e1
  obtain rfl := Option.some.inj (f0.symm.trans e0)
  obtain rfl := Option.some.inj (f1.symm.trans e1)
  exact hh
end Go.Proofs.Ytdhkgpfcanekkaa

/- Dry of package tenter. -/
namespace Go.Proofs.Ytdhkgpfcanekkaa
open Go Go.RowKit Go.Shelf
attribute [local go_sem ↓] Go.wp_at_zero Go.wp_at_succ

/-- When a cloth is dry. -/
def dryS (S : List Sp) (fr : Nat) (c : Tn) : Sp := ((earL c S fr : Nat), (latL c S fr : Nat))
def DryRes (C : List Tn) (S : List Sp) (fr : Nat) (w : World) (e : Ending) (w' : World) : Prop :=
  ∃ g, e = .returned (.tuple #[.slice (some ⟨g, 0, none⟩) C.length C.length, iv 0]) ∧ SliceOf encS 2 w' (.slice (some ⟨g, 0, none⟩) C.length C.length) (C.map (dryS S fr)) ∧ Below w.heap.size w w'

theorem keepDry {C : List Tn} {R : List Int} {gap str : Int} {S : List Sp} {ca ra wa : Option Addr} {cc rc wc : Nat} {W0 X : World} {b : Nat} {row : Array Value} {i j : Nat} {u v : Value} (hI : FdIn C R gap str S ca ra wa cc rc wc W0) (hb : b < W0.heap.size) (hi : i < row.size) (hj : j < row.size)
    (h : X.cell? ⟨b, 0, none⟩ = some (.slice ca C.length cc) ∧ X.cell? ⟨b, 1, none⟩ = some (.slice ra R.length rc) ∧ X.cell? ⟨b, 2, none⟩ = some (iv gap) ∧ X.cell? ⟨b, 3, none⟩ = some (iv str) ∧ X.cell? ⟨b, 4, none⟩ = some (.slice wa S.length wc) ∧ FdIn C R gap str S ca ra wa cc rc wc X ∧ RowBut X W0.heap.size row 36 i j ∧ X.cell? ⟨W0.heap.size, i, none⟩ = some (cvG X W0.heap.size i) ∧ X.cell? ⟨W0.heap.size, j, none⟩ = some (cvG X W0.heap.size j) ∧ X.frozen? ⟨W0.heap.size, i, none⟩ = false ∧ X.frozen? ⟨W0.heap.size, j, none⟩ = false ∧ Below W0.heap.size W0 X) : ((X.setCell ⟨W0.heap.size, i, none⟩ u).setCell ⟨W0.heap.size, j, none⟩ v).cell? ⟨b, 0, none⟩ = some (.slice ca C.length cc) ∧ ((X.setCell ⟨W0.heap.size, i, none⟩ u).setCell ⟨W0.heap.size, j, none⟩ v).cell? ⟨b, 1, none⟩ = some (.slice ra R.length rc) ∧ ((X.setCell ⟨W0.heap.size, i, none⟩ u).setCell ⟨W0.heap.size, j, none⟩ v).cell? ⟨b, 2, none⟩ = some (iv gap) ∧ ((X.setCell ⟨W0.heap.size, i, none⟩ u).setCell ⟨W0.heap.size, j, none⟩ v).cell? ⟨b, 3, none⟩ = some (iv str) ∧ ((X.setCell ⟨W0.heap.size, i, none⟩ u).setCell ⟨W0.heap.size, j, none⟩ v).cell? ⟨b, 4, none⟩ = some (.slice wa S.length wc) ∧ FdIn C R gap str S ca ra wa cc rc wc ((X.setCell ⟨W0.heap.size, i, none⟩ u).setCell ⟨W0.heap.size, j, none⟩ v) ∧ RowBut ((X.setCell ⟨W0.heap.size, i, none⟩ u).setCell ⟨W0.heap.size, j, none⟩ v) W0.heap.size row 36 i j ∧ ((X.setCell ⟨W0.heap.size, i, none⟩ u).setCell ⟨W0.heap.size, j, none⟩ v).cell? ⟨W0.heap.size, i, none⟩ = some (cvG ((X.setCell ⟨W0.heap.size, i, none⟩ u).setCell ⟨W0.heap.size, j, none⟩ v) W0.heap.size i) ∧ ((X.setCell ⟨W0.heap.size, i, none⟩ u).setCell ⟨W0.heap.size, j, none⟩ v).cell? ⟨W0.heap.size, j, none⟩ = some (cvG ((X.setCell ⟨W0.heap.size, i, none⟩ u).setCell ⟨W0.heap.size, j, none⟩ v) W0.heap.size j) ∧ ((X.setCell ⟨W0.heap.size, i, none⟩ u).setCell ⟨W0.heap.size, j, none⟩ v).frozen? ⟨W0.heap.size, i, none⟩ = false ∧ ((X.setCell ⟨W0.heap.size, i, none⟩ u).setCell ⟨W0.heap.size, j, none⟩ v).frozen? ⟨W0.heap.size, j, none⟩ = false ∧ Below W0.heap.size W0 ((X.setCell ⟨W0.heap.size, i, none⟩ u).setCell ⟨W0.heap.size, j, none⟩ v) := by
  obtain ⟨h0, h1, h2, h3, h4, h5, h6, h7, h8, h9, h10, h11⟩ := h
  have hb2 : Below W0.heap.size W0 ((X.setCell ⟨W0.heap.size, i, none⟩ u).setCell ⟨W0.heap.size, j, none⟩ v) := bput (bput h11 (p := ⟨W0.heap.size, i, none⟩) (Nat.le_refl _) u) (p := ⟨W0.heap.size, j, none⟩) (Nat.le_refl _) v
  have hsame : ∀ o, ((X.setCell ⟨W0.heap.size, i, none⟩ u).setCell ⟨W0.heap.size, j, none⟩ v).cell? ⟨b, o, none⟩ = X.cell? ⟨b, o, none⟩ := fun o =>
    World.cell?_of_block ((Below.heap_setCell _ _ _ _ (Nat.ne_of_lt hb)).trans (Below.heap_setCell _ _ _ _ (Nat.ne_of_lt hb)))
  have hrb : RowBut ((X.setCell ⟨W0.heap.size, i, none⟩ u).setCell ⟨W0.heap.size, j, none⟩ v) W0.heap.size row 36 i j := ⟨u, v, h6.set u v⟩
  obtain ⟨⟨_, k1⟩, ⟨_, k2⟩, k3, k4⟩ := hrb.cell hi hj
  exact ⟨(hsame _).trans h0, (hsame _).trans h1, (hsame _).trans h2, (hsame _).trans h3, (hsame _).trans h4, hI.below hb2, hrb, cvG_of k1, cvG_of k2, k3, k4, hb2⟩
theorem kcellG {W W1 : World} {b o : Nat} {v : Value} (hb : Below W.heap.size W W1) (h : W.cell? ⟨b, o, none⟩ = some v) : W1.cell? ⟨b, o, none⟩ = some v := (hb.cell (p := ⟨b, o, none⟩) (lt_of_cell h)).trans h
theorem kfrozenG {W W1 : World} {b o : Nat} {v : Value} (hb : Below W.heap.size W W1) (h : W.cell? ⟨b, o, none⟩ = some v) (hf : W.frozen? ⟨b, o, none⟩ = false) : W1.frozen? ⟨b, o, none⟩ = false := (hb.frozen (p := ⟨b, o, none⟩) (lt_of_cell h)).trans hf
end Go.Proofs.Ytdhkgpfcanekkaa

/- A yard: at which lengths cloths can be hung. -/
namespace Go.Proofs.Ytdhkgpfcanekkaa
open Go Go.RowKit Go.Shelf
attribute [local go_sem ↓] Go.wp_at_zero Go.wp_at_succ

/-- At which length a cloth may hang at most. -/
def permI (str own : Int) : Int := own * (1000 + str) / 1000
def lenS (str : Int) (c : Tn) : Sp := if permI str c.1.1 < c.1.2 then (1, 0) else (c.1.2, permI str c.1.1)

set_option maxRecDepth 20000 in
set_option maxHeartbeats 1600000 in
theorem permitted_any (ca ra ha : Option Addr) (cn cc rn rc hn hc : Nat) (gap str own : Int) (w : World) (h0 : 0 ≤ own ∧ own ≤ 2000) (h1 : 0 ≤ str ∧ str ≤ 200) :
    Calls Try.prog 24 #[.agg #[.slice ca cn cc, .slice ra rn rc, iv gap, iv str, .slice ha hn hc], iv own] w fun e w' => e = .returned (iv (permI str own)) ∧ Below w.heap.size w w' := by
  have hm0 : 0 ≤ own * (1000 + str) := Int.mul_nonneg h0.1 (by omega)
  have hm1 : own * (1000 + str) ≤ 2000 * 1200 := Int.mul_le_mul h0.2 (by omega) (by omega) (by omega)
  have e1 : IntKind.i64.wrap (1000 + str) = 1000 + str := IntWalk.i64_in _ ⟨by omega, by omega⟩
  have e2 : IntKind.i64.wrap (own * (1000 + str)) = own * (1000 + str) := IntWalk.i64_in _ ⟨by omega, by omega⟩
  have e3 : (own * (1000 + str)).tdiv 1000 = permI str own := Int.tdiv_eq_ediv_of_nonneg hm0
  have e4 : IntKind.i64.wrap (permI str own) = permI str own := IntWalk.i64_in _ ⟨by unfold permI; omega, by unfold permI; omega⟩
  generalize permI str own = pp at *
  clear hm0 hm1 h0 h1
  go_enter Try.func24, Try.ntmps24
  go_wp2_with fail
  go_ret
  exact ⟨rfl, (by repeat (first | exact Below.refl _ _ | refine Below.drew ?_ | refine bpush ?_ _ | refine bput ?_ (by simp) _ | (refine bstep ?_ (by assumption))))⟩

theorem lenKeep {X Y W3 : World} {q0 q1 q2 q3 q4 q5 q6 : Addr} {v0 v1 v2 v3 v4 v5 v6 : Value} (hb : Below X.heap.size X Y) (h : X.cell? q0 = some v0 ∧ X.cell? q1 = some v1 ∧ X.cell? q2 = some v2 ∧ X.cell? q3 = some v3 ∧ X.cell? q4 = some v4 ∧ X.cell? q5 = some v5 ∧ X.cell? q6 = some v6 ∧ Below W3.heap.size W3 X) :
    Hid (Y.cell? q0 = some v0 ∧ Y.cell? q1 = some v1 ∧ Y.cell? q2 = some v2 ∧ Y.cell? q3 = some v3 ∧ Y.cell? q4 = some v4 ∧ Y.cell? q5 = some v5 ∧ Y.cell? q6 = some v6) := by
  obtain ⟨h0, h1, h2, h3, h4, h5, h6, -⟩ := h
  have key : ∀ {q : Addr} {v : Value}, X.cell? q = some v → Y.cell? q = some v := fun {q v} h => (hb.cell (p := q) (World.block_lt_of_cell? X _ h)).trans h
  exact ⟨key h0, key h1, key h2, key h3, key h4, key h5, key h6⟩
theorem cset2G {W : World} {g b o : Nat} {v0 v1 : Value} (hg : b ≠ g) : ((W.setCell ⟨g, 0, none⟩ v0).setCell ⟨g, 1, none⟩ v1).cell? ⟨b, o, none⟩ = W.cell? ⟨b, o, none⟩ :=
  World.cell?_of_block ((Below.heap_setCell _ _ _ _ hg).trans (Below.heap_setCell _ _ _ _ hg))
theorem bset2G {w W : World} {g : Nat} {v0 v1 : Value} (h : Below w.heap.size w W) (hg : w.heap.size ≤ g) : Below w.heap.size w ((W.setCell ⟨g, 0, none⟩ v0).setCell ⟨g, 1, none⟩ v1) :=
  bput (p := ⟨g, 1, none⟩) (bput (p := ⟨g, 0, none⟩) h hg v0) hg v1
/-- A span lies at p. -/
def LenCut (W3 : World) (l2 pp : Int) (p : Value) (wx : World) : Prop := ∃ g, p = .pointer (some ⟨g, 0, none⟩) ∧ Below W3.heap.size W3 wx ∧ wx.cell? ⟨g, 0, none⟩ = some (iv l2) ∧ wx.cell? ⟨g, 1, none⟩ = some (iv pp)
theorem lenA {W3 w3 : World} {l2 pp : Int} {t : TypeId} (h : Below W3.heap.size W3 w3) : LenCut W3 l2 pp (.pointer (some ⟨w3.heap.size, 0, none⟩)) (w3.alloc (.cells #[iv l2, iv pp] t)) := by
  have hr := heap_new w3 #[iv l2, iv pp] t
  refine ⟨_, rfl, bpush h _, ?_, ?_⟩ <;> (rw [cell_of_row _ _ _ _ _ _ hr]; rfl)
theorem lenB {W3 w3 : World} {l2 pp : Int} {g : Nat} (h : Below W3.heap.size W3 w3) (hg : W3.heap.size ≤ g) (k0 : w3.cell? ⟨g, 0, none⟩ = some (iv 0)) (k1 : w3.cell? ⟨g, 1, none⟩ = some (iv 0)) :
    LenCut W3 l2 pp (.pointer (some ⟨g, 0, none⟩)) ((w3.setCell ⟨g, 0, none⟩ (iv l2)).setCell ⟨g, 1, none⟩ (iv pp)) := by
  refine ⟨g, rfl, bset2G h hg, ?_, ?_⟩
  all_goals go_simp
theorem kdrewG {X : World} {a : Addr} {v : Value} (h : X.cell? a = some v) : X.drew.cell? a = some v := h
theorem kpushG {X : World} {a : Addr} {v : Value} {o : Obj} (h : X.cell? a = some v) : (X.alloc o).cell? a = some v := (World.cell?_alloc_lt _ _ _ (World.block_lt_of_cell? X _ h)).trans h
set_option maxRecDepth 20000 in
set_option maxHeartbeats 3200000 in
theorem lengths_any (C : List Tn) (ca ra ha : Option Addr) (cc rn rc hn hc k : Nat) (gap str : Int) (c : Tn) (w : World) (hC : SliceOf encN 4 w (.slice ca C.length cc) C) (hk : C[k]? = some c) (hv : vTn c = true) (h1 : 0 ≤ str ∧ str ≤ 200) :
    Calls Try.prog 21 #[.agg #[.slice ca C.length cc, .slice ra rn rc, iv gap, iv str, .slice ha hn hc], iv k] w fun e w' => e = .returned (.agg #[iv (lenS str c).1, iv (lenS str c).2]) ∧ Below w.heap.size w w' := by
  obtain ⟨Wb, hWb⟩ : ∃ W : World, (w.alloc (.cells #[.slice ca C.length cc, .slice ra rn rc, iv gap, iv str, .slice ha hn hc] 73)).alloc (.cells #[.int .i64 0, .int .i64 0] 36) = W := ⟨_, rfl⟩
  have hBb : Below w.heap.size w Wb := by rw [← hWb]; exact bpush (bpush (Below.refl _ _) _) _
  have hRb : Wb.heap[w.heap.size]? = some (.cells #[.slice ca C.length cc, .slice ra rn rc, iv gap, iv str, .slice ha hn hc] 73 (0, 0)) := by rw [← hWb, Below.heap_alloc _ _ _ (by simp)]; exact heap_new _ _ _
  have hRc : Wb.heap[w.heap.size + 1]? = some (.cells #[.int .i64 0, .int .i64 0] 36 (0, 0)) := by
    rw [← hWb]
    have := heap_new (w.alloc (.cells #[.slice ca C.length cc, .slice ra rn rc, iv gap, iv str, .slice ha hn hc] 73)) #[.int .i64 0, .int .i64 0] 36
    rwa [World.size_alloc] at this
  have hzb : Wb.heap.size = w.heap.size + 2 := by rw [← hWb]; simp
  have HB := Lib.hid hBb; have HR := Lib.hid hRb; have HRc := Lib.hid hRc
  obtain ⟨b, off, rfl, hj⟩ := sl_rowG (hC.below hBb) hk
  have hkl := (List.getElem?_eq_some_iff.1 hk).1
  simp only [vTn, Bool.and_eq_true] at hv
  obtain ⟨p1, p2, p3, p4, p5⟩ := okSpan_iff.1 hv.1
  obtain ⟨⟨l1, l2⟩, m1, m2⟩ := c
  have p1 : 1 ≤ l1 := p1; have p2 : l1 ≤ 2000 := p2
  have HP := Lib.hid (fun (W : World) => permitted_any (some ⟨b, off, none⟩) ra ha C.length cc rn rc hn hc gap str l1 W ⟨by omega, p2⟩ h1)
  have HL : Hid (lenS str ((l1, l2), (m1, m2)) = if permI str l1 < l2 then (1, 0) else (l2, permI str l1)) := rfl
  generalize permI str l1 = pp at *
  have x0 : Wb.cell? ⟨b, off + k * 4, none⟩ = some (iv l1) := hj 0 _ rfl
  have x1 : Wb.cell? ⟨b, off + k * 4 + 1, none⟩ = some (iv l2) := hj 1 _ rfl
  have c0 : Wb.cell? ⟨w.heap.size, 0, none⟩ = some (.slice (some ⟨b, off, none⟩) C.length cc) := by rw [cell_of_row _ _ _ _ _ _ hRb]; rfl
  clear hBb hRb hRc hj hk hC hv p1 p2 p3 p4 p5 h1
  go_enter Try.func21, Try.ntmps21
  go_wp2_with fail
  obtain ⟨W3, hW3⟩ : ∃ W : World, Wb.alloc (.cells #[.int .i64 l1, .int .i64 l2] 36) = W := ⟨_, rfl⟩
  have hB3 : Below Wb.heap.size Wb W3 := by rw [← hW3]; exact bpush (Below.refl _ _) _
  have hR3 : W3.heap[w.heap.size + 2]? = some (.cells #[.int .i64 l1, .int .i64 l2] 36 (0, 0)) := by
    rw [← hW3]
    have := heap_new Wb #[.int .i64 l1, .int .i64 l2] 36
    rwa [hzb] at this
  have hRb3 := bblkG hB3 HR.out
  have hRc3 := bblkG hB3 HRc.out
  rw [hW3]
  have o0 : W3.cell? ⟨w.heap.size + 2, 0, none⟩ = some (iv l1) := by rw [cell_of_row _ _ _ _ _ _ hR3]; rfl
  have o1 : W3.cell? ⟨w.heap.size + 2, 1, none⟩ = some (iv l2) := by rw [cell_of_row _ _ _ _ _ _ hR3]; rfl
  have d0 : W3.cell? ⟨w.heap.size, 0, none⟩ = some (.slice (some ⟨b, off, none⟩) C.length cc) := by rw [cell_of_row _ _ _ _ _ _ hRb3]; rfl
  have d1 : W3.cell? ⟨w.heap.size, 1, none⟩ = some (.slice ra rn rc) := by rw [cell_of_row _ _ _ _ _ _ hRb3]; rfl
  have d2 : W3.cell? ⟨w.heap.size, 2, none⟩ = some (iv gap) := by rw [cell_of_row _ _ _ _ _ _ hRb3]; rfl
  have d3 : W3.cell? ⟨w.heap.size, 3, none⟩ = some (iv str) := by rw [cell_of_row _ _ _ _ _ _ hRb3]; rfl
  have d4 : W3.cell? ⟨w.heap.size, 4, none⟩ = some (.slice ha hn hc) := by rw [cell_of_row _ _ _ _ _ _ hRb3]; rfl
  have hbz : Below W3.heap.size W3 W3 := Below.refl _ _
  have HB3 := Lib.hid (bstep HB.out hB3)
  have HRC3 := Lib.hid hRc3
  have hzc : w.heap.size + 1 < W3.heap.size := (Array.getElem?_eq_some_iff.1 hRc3).1
  have hze : w.heap.size + 2 < W3.heap.size := (Array.getElem?_eq_some_iff.1 hR3).1
  clear hWb hW3 hB3 hR3 hRb3 hRc3 c0 x0 x1 hzb HB HR HRc
  go_cut [6] (fun p wx => LenCut W3 l2 pp p wx)
  case first =>
    go_region_held3 (fun w' => w'.cell? ⟨w.heap.size, 0, none⟩ = some (.slice (some ⟨b, off, none⟩) C.length cc) ∧ w'.cell? ⟨w.heap.size, 1, none⟩ = some (.slice ra rn rc) ∧ w'.cell? ⟨w.heap.size, 2, none⟩ = some (iv gap) ∧ w'.cell? ⟨w.heap.size, 3, none⟩ = some (iv str) ∧ w'.cell? ⟨w.heap.size, 4, none⟩ = some (.slice ha hn hc) ∧ w'.cell? ⟨w.heap.size + 2, 0, none⟩ = some (iv l1) ∧ w'.cell? ⟨w.heap.size + 2, 1, none⟩ = some (iv l2) ∧ Below W3.heap.size W3 w')
      (first | (with_reducible exact ⟨kpushG hS0.out.1, kpushG hS0.out.2.1, kpushG hS0.out.2.2.1, kpushG hS0.out.2.2.2.1, kpushG hS0.out.2.2.2.2.1, kpushG hS0.out.2.2.2.2.2.1, kpushG hS0.out.2.2.2.2.2.2, bpush hSt _⟩) | ((with_reducible refine ⟨(cset2G ?_).trans hS0.out.1, (cset2G ?_).trans hS0.out.2.1, (cset2G ?_).trans hS0.out.2.2.1, (cset2G ?_).trans hS0.out.2.2.2.1, (cset2G ?_).trans hS0.out.2.2.2.2.1, (cset2G ?_).trans hS0.out.2.2.2.2.2.1, (cset2G ?_).trans hS0.out.2.2.2.2.2.2, bset2G hSt ?_⟩) <;> omega) | (with_reducible exact ⟨hS0.out.1, hS0.out.2.1, hS0.out.2.2.1, hS0.out.2.2.2.1, hS0.out.2.2.2.2.1, hS0.out.2.2.2.2.2.1, hS0.out.2.2.2.2.2.2, hSt⟩) | (refine ⟨?_, ?_, ?_, ?_, ?_, ?_, ?_, ?_⟩ <;> first | exact Below.drew (by assumption) | assumption) | (go_split_ands; refine ⟨?_, ?_, ?_, ?_, ?_, ?_, ?_, ?_⟩ <;> first | assumption | exact kcell (bpush (Below.refl _ _) _) (by assumption) | exact bpush (by assumption) _))
      (first | ((with_reducible refine (HP.out _).mono ?_); rintro e wO ⟨rfl, hbK⟩; have hSt : Below W3.heap.size W3 wO := bstep (And.right (And.right (And.right (And.right (And.right (And.right (And.right (by assumption)))))))) hbK; have hS0 := lenKeep hbK (by assumption); obtain ⟨hKc, hKf⟩ := bcell hbK; have hKz := hbK.size; (try simp [Nat.add_one_le_iff] at hKz); have hSz := hSt.size))
    all_goals
      go_wp2_with fail
      go_meet
      first
        | (with_reducible exact lenA hSt)
        | (refine lenB hSt (by omega) ?_ ?_ <;> (go_simp; done))
  case rest =>
    obtain ⟨g, rfl, hBC, k0, k1⟩ := hcut
    have hrc := (hBC.block (w.heap.size + 1) hzc).trans HRC3.out
    have y0 : wc.cell? ⟨w.heap.size + 1, 0, none⟩ = some (.int .i64 0) := by rw [cell_of_row _ _ _ _ _ _ hrc]; rfl
    have y1 : wc.cell? ⟨w.heap.size + 1, 1, none⟩ = some (.int .i64 0) := by rw [cell_of_row _ _ _ _ _ _ hrc]; rfl
    have z0 : wc.frozen? ⟨w.heap.size + 1, 0, none⟩ = false := by unfold World.frozen?; rw [hrc]; rfl
    have z1 : wc.frozen? ⟨w.heap.size + 1, 1, none⟩ = false := by unfold World.frozen?; rw [hrc]; rfl
    have HBC := Lib.hid (bstep HB3.out hBC)
    have HRC := Lib.hid hrc
    clear hBC hrc o0 o1 d0 d1 d2 d3 d4 hbz
    by_cases hlt : pp < l2
    · have HV : Hid (lenS str ((l1, l2), (m1, m2)) = (1, 0)) := by rw [HL.out, if_pos hlt]; rfl
      go_wp2_with fail
      have e0 : ((wc.setCell ⟨w.heap.size + 1, 0, none⟩ (iv 1)).setCell ⟨w.heap.size + 1, 1, none⟩ (iv 0)).cell? ⟨w.heap.size + 1, 0, none⟩ = some (iv 1) := by go_simp
      have e1 : ((wc.setCell ⟨w.heap.size + 1, 0, none⟩ (iv 1)).setCell ⟨w.heap.size + 1, 1, none⟩ (iv 0)).cell? ⟨w.heap.size + 1, 1, none⟩ = some (iv 0) := by go_simp
      exact bodyPost_ret (v := .agg #[iv 1, iv 0]) (by simp [results, Try.results21, go_sem, e0, e1]) rfl ⟨by rw [HV.out], bput (p := ⟨w.heap.size + 1, 1, none⟩) (bput (p := ⟨w.heap.size + 1, 0, none⟩) HBC.out (Nat.le_succ _) _) (Nat.le_succ _) _⟩
    · have HV : Hid (lenS str ((l1, l2), (m1, m2)) = (l2, pp)) := by rw [HL.out, if_neg hlt]; rfl
      go_wp2_with fail
      have e0 : ((wc.setCell ⟨w.heap.size + 1, 0, none⟩ (iv l2)).setCell ⟨w.heap.size + 1, 1, none⟩ (iv pp)).cell? ⟨w.heap.size + 1, 0, none⟩ = some (iv l2) := by go_simp
      have e1 : ((wc.setCell ⟨w.heap.size + 1, 0, none⟩ (iv l2)).setCell ⟨w.heap.size + 1, 1, none⟩ (iv pp)).cell? ⟨w.heap.size + 1, 1, none⟩ = some (iv pp) := by go_simp
      exact bodyPost_ret (v := .agg #[iv l2, iv pp]) (by simp [results, Try.results21, go_sem, e0, e1]) rfl ⟨by rw [HV.out], bput (p := ⟨w.heap.size + 1, 1, none⟩) (bput (p := ⟨w.heap.size + 1, 0, none⟩) HBC.out (Nat.le_succ _) _) (Nat.le_succ _) _⟩
end Go.Proofs.Ytdhkgpfcanekkaa

/- A yard is made. -/
namespace Go.Proofs.Ytdhkgpfcanekkaa
open Go Go.RowKit Go.Shelf
attribute [local go_sem ↓] Go.wp_at_zero Go.wp_at_succ

def encV1 (v : Option Nat) : List Value := [.map v]
theorem encV1_len (v : Option Nat) : (encV1 v).length = 1 := rfl
theorem encV1_cell {W : World} {g : Nat} {v : Option Nat} (h : W.cell? ⟨g, 0, none⟩ = some (.map v)) : ∀ j u, (encV1 v)[j]? = some u → W.cell? ⟨g, j, none⟩ = some u := by
  intro j u hu
  rcases j with _ | j
  · simp only [encV1, List.getElem?_cons_zero, Option.some.injEq] at hu
    rw [← hu]; exact h
  · simp [encV1] at hu
theorem owns_addrG {α : Type} {enc : α → List Value} {sz e base : Nat} {w : World} {v : Value} {xs : List α} (h : Owns enc sz e base w v xs) (hne : 0 < xs.length) : ∃ g c, v = .slice (some ⟨g, 0, none⟩) xs.length c := by
  obtain ⟨h1, h2⟩ := h
  rcases h2 with ⟨rfl, h0⟩ | ⟨g, cap, cur, rfl, -⟩
  · omega
  · exact ⟨g, _, rfl⟩

theorem results_row1 {P : Program} {fn : Func} {w : World} {p : Tmp} {ty t : TypeId} {g : Nat} {cs : Array Value} {d : TypeDesc} (h : fn.results = #[.cell p ty]) (tmps : Array Value) (hp : tmps.getD p undef = .pointer (some ⟨g, 0, none⟩))
    (hg : w.heap[g]? = some (.cells cs t (0, 0))) (hu : P.underlying ty = some d) (hd : (match d with | .struct _ | .array _ _ => true | _ => false) = true) (hi : (P.info? ty).map (·.size) = some cs.size) :
    (results fn tmps).run P w = .ok (.agg cs) w := by
  have e : tmps[p]?.getD undef = .pointer (some ⟨g, 0, none⟩) := by simpa using hp
  simp [results, h, e, asAddr, run_loadVar_row w g t ty cs (0, 0) d hg hu hd hi]
theorem sinfoYd (cs : Array Value) (h : cs.size = 5) : (Try.prog.info? 73).map (·.size) = some cs.size := by rw [h]; kernel_rfl
theorem infoMp : (Try.prog.info? 93).map (fun i => (i.zero, i.size, i.bytes)) = some (some (.map none), 1, 8) := by kernel_rfl
theorem grown_setG (W : World) (g o : Nat) (u : Value) : W.grownBy (W.setCell ⟨g, o, none⟩ u) (some g) :=
  ⟨rfl, rfl, rfl, by simp [World.setCell], fun k hk hne => Below.heap_setCell _ _ _ _ (fun e => hne (by rw [e]))⟩
theorem owns_setG {α : Type} {enc : α → List Value} {sz e base : Nat} {W : World} {v : Value} {F : List α} {g : Nat} (h : Owns enc sz e base W v F) (hg : g < base) (o : Nat) (u : Value) : Owns enc sz e base (W.setCell ⟨g, o, none⟩ u) v F := by
  refine World.ownsRow.kept h (grown_setG _ _ _ _) ?_
  cases hv : v.ownBlock with
  | none => exact .inl rfl
  | some q =>
    have := (World.ownsRow.lt h q hv).1
    refine .inr (fun e => ?_)
    simp only [Option.some.injEq] at e; omega
/-- A yard that is being made. -/
structure YdInv (ca ra : Option Addr) (cn cc rn rc : Nat) (gap str : Int) (w : World) (k : Nat) (tv : Value) (wr : World) : Prop where
  B : Below w.heap.size w wr
  S : w.heap.size + 3 ≤ wr.heap.size
  h0 : wr.heap[w.heap.size]? = some (.cells #[.slice ca cn cc, .slice ra rn rc, iv gap, iv str] 40 (0, 0))
  h1 : wr.heap[w.heap.size + 1]? = some (.cells #[.slice none 0 0, .slice none 0 0, iv 0, iv 0, .slice none 0 0] 73 (0, 0))
  h2 : wr.heap[w.heap.size + 1 + 1]? = some (.cells #[.slice ca cn cc, .slice ra rn rc, iv gap, iv str, tv] 73 (0, 0))
  O : ∃ xs : List (Option Nat), xs.length = k ∧ Owns encV1 1 93 (w.heap.size + 3) wr tv xs
theorem YdInv.slice {ca ra : Option Addr} {cn cc rn rc : Nat} {gap str : Int} {w : World} {k : Nat} {tv : Value} {wr : World} (h : YdInv ca ra cn cc rn rc gap str w k tv wr) : ∃ a n c, tv = .slice a n c := by
  obtain ⟨xs, -, hO⟩ := h.O
  rcases hO.2 with ⟨h0, _⟩ | ⟨g', cap, cur, h0, _⟩ <;> exact ⟨_, _, _, h0⟩
theorem yd_done {ca ra : Option Addr} {cn cc rn rc : Nat} {gap str : Int} {w : World} {k : Nat} {tv v' : Value} {wr wa w2 : World} {y : Option Nat} {xs : List (Option Nat)} (h : YdInv ca ra cn cc rn rc gap str w k tv wr) (hx : xs.length = k) (ha : Below wr.heap.size wr wa)
    (ho : Owns encV1 1 93 (w.heap.size + 3) w2 v' (xs ++ [y])) (hb : Below (w.heap.size + 3) wa w2) :
    YdInv ca ra cn cc rn rc gap str w (k + 1) v' (w2.setCell ⟨w.heap.size + 1 + 1, 4, none⟩ v') := by
  have hs := h.S
  have hza := ha.size
  have hz2 := hb.size
  have hB : Below w.heap.size w w2 := h.B.trans ((ha.mono (by omega)).trans (hb.mono (by omega)))
  have r0 := (hb.block w.heap.size (by omega)).trans ((ha.block w.heap.size (by omega)).trans h.h0)
  have r1 := (hb.block (w.heap.size + 1) (by omega)).trans ((ha.block (w.heap.size + 1) (by omega)).trans h.h1)
  have r2 := (hb.block (w.heap.size + 1 + 1) (by omega)).trans ((ha.block (w.heap.size + 1 + 1) (by omega)).trans h.h2)
  refine ⟨hB.setCell (p := ⟨w.heap.size + 1 + 1, 4, none⟩) (by show w.heap.size ≤ w.heap.size + 1 + 1; omega) _, by simp [World.setCell]; omega, ?_, ?_, ?_, xs ++ [y], by simp [hx], owns_setG ho (by omega) _ _⟩
  · rw [Below.heap_setCell _ _ _ _ (by show w.heap.size ≠ w.heap.size + 1 + 1; omega)]; exact r0
  · rw [Below.heap_setCell _ _ _ _ (by show w.heap.size + 1 ≠ w.heap.size + 1 + 1; omega)]; exact r1
  · exact heap_setCell_same _ _ 4 _ _ v' r2

set_option maxRecDepth 20000 in
set_option maxHeartbeats 3200000 in
theorem newYard_any (ca ra : Option Addr) (cn cc rn rc : Nat) (gap str : Int) (w : World) (hr : rn ≤ 3) :
    Calls Try.prog 20 #[.agg #[.slice ca cn cc, .slice ra rn rc, iv gap, iv str]] w fun e w' => ∃ ha hn hc, e = .returned (.agg #[.slice ca cn cc, .slice ra rn rc, iv gap, iv str, .slice ha hn hc]) ∧ Below w.heap.size w w' := by
  obtain ⟨i0, hi, hz0, hz1, hz2⟩ := info_parts infoMp
  have HI := Lib.hid hi; have HZ0 := Lib.hid hz0; have HZ1 := Lib.hid hz1; have HZ2 := Lib.hid hz2
  clear hi hz0 hz1 hz2
  have hmm := @run_makeMap Try.prog
  obtain ⟨Wn, hWn⟩ : ∃ W : World, ((w.alloc (.cells #[.slice ca cn cc, .slice ra rn rc, iv gap, iv str] 40)).alloc (.cells #[.slice none 0 0, .slice none 0 0, .int .i64 0, .int .i64 0, .slice none 0 0] 73)).alloc (.cells #[.slice ca cn cc, .slice ra rn rc, .int .i64 gap, .int .i64 str, .slice none 0 0] 73) = W := ⟨_, rfl⟩
  have hinv : YdInv ca ra cn cc rn rc gap str w 0 (.slice none 0 0) Wn := by
    rw [← hWn]
    refine ⟨bpush (bpush (bpush (Below.refl _ _) _) _) _, by simp, ?_, ?_, ?_, [], rfl, Owns.nil _ _ _ _ _⟩
    · rw [Below.heap_alloc _ _ _ (by simp; omega), Below.heap_alloc _ _ _ (by simp)]; exact heap_new _ _ _
    · rw [Below.heap_alloc _ _ _ (by simp)]
      have := heap_new (w.alloc (.cells #[.slice ca cn cc, .slice ra rn rc, iv gap, iv str] 40)) #[.slice none 0 0, .slice none 0 0, iv 0, iv 0, .slice none 0 0] 73
      rwa [World.size_alloc] at this
    · have := heap_new ((w.alloc (.cells #[.slice ca cn cc, .slice ra rn rc, iv gap, iv str] 40)).alloc (.cells #[.slice none 0 0, .slice none 0 0, iv 0, iv 0, .slice none 0 0] 73)) #[.slice ca cn cc, .slice ra rn rc, iv gap, iv str, .slice none 0 0] 73
      rwa [World.size_alloc, World.size_alloc] at this
  have HIV := Lib.hid hinv; have HWN := Lib.hid hWn
  clear hinv hWn
  go_enter Try.func20, Try.ntmps20
  go_wp2_with fail
  rw [HWN.out]
  go_loopw [9] (fun i wr => ∃ k : Nat, k ≤ rn ∧ i = iv k ∧ Hid (∃ tv, YdInv ca ra cn cc rn rc gap str w k tv wr)) (fun i _ => rn - (intOf i).toNat)
  case atStart => exact ⟨0, Nat.zero_le _, rfl, _, HIV.out⟩
  case round =>
    obtain ⟨k, hk, rfl, HT⟩ := hrel
    obtain ⟨tv, hv⟩ := HT.out
    obtain ⟨ta, tn, tc, rfl⟩ := hv.slice
    have HV := Lib.hid hv
    clear hv HT
    by_cases hlt : k < rn
    · obtain ⟨xs, hx, ho⟩ := HV.out.O
      have HO := Lib.hid ho; have HX := Lib.hid hx
      have h2 := HV.out.h2
      have c1 : wr.cell? ⟨w.heap.size + 1 + 1, 4, none⟩ = some (.slice ta tn tc) := by rw [cell_of_row _ _ _ _ _ _ h2]; rfl
      have hb2 : xs.length + 1 ≤ maxLen ∧ (xs.length + 1) * 8 ≤ 140737488355328 := by unfold maxLen; omega
      have hb3 : w.heap.size + 3 ≤ ((wr.alloc (.map #[] 0)).alloc (.cells #[.map (some wr.heap.size)] 93)).heap.size := by have := HV.out.S; simp; omega
      have HBA : Hid (Below wr.heap.size wr ((wr.alloc (.map #[] 0)).alloc (.cells #[.map (some wr.heap.size)] 93))) := bpush (bpush (Below.refl _ _) _) _
      have HS := Lib.hid HV.out.S
      clear ho hx h2
      go_wp2_with (at_builtin; refine L_append1 (enc := encV1) (some wr.heap.size) rfl _ _ 71 rfl Try.underlying71 HI.out HZ0.out HZ1.out HZ2.out rfl Nat.one_pos encV1_len (by simp [encV1, Value.oneCell']) rfl rfl (Owns.kept HO.out HBA.out) (encV1_cell ?_) hb2 hb3 ?_; go_simp; intro v' w2 hown2 hbe2 hg2; (obtain ⟨g', c', rfl⟩ := owns_addrG hown2 (by simp)); have hrow := (hbe2.block (w.heap.size + 1 + 1) (by omega)).trans ((HBA.out.block _ (by have := HS.out; omega)).trans HV.out.h2); have k0 : w2.cell? ⟨w.heap.size + 1 + 1, 4, none⟩ = some (.slice ta tn tc) := (cell_of_row _ _ _ _ _ _ hrow).trans rfl; have k1 : w2.frozen? ⟨w.heap.size + 1 + 1, 4, none⟩ = false := (by unfold World.frozen?; rw [hrow]; rfl); have HD := Lib.hid (yd_done HV.out HX.out HBA.out hown2 hbe2); clear hown2 hbe2 hg2 hrow)
      go_roundw
      case rel => exact ⟨k + 1, by omega, by go_num, _, by have h := HD.out; simp only [List.length_append, List.length_singleton] at h; exact h⟩
      case measure => simp [intOf]; omega
    · obtain rfl : k = rn := by omega
      have h2 := HV.out.h2
      have h1 := Lib.hid HV.out.h1
      have HBV := Lib.hid HV.out.B
      have HSI := Lib.hid (sinfoYd #[.slice ca cn cc, .slice ra k rc, iv gap, iv str, .slice ta tn tc] rfl)
      have HON : Hid (#[.slice ca cn cc, .slice ra k rc, iv gap, iv str, .slice ta tn tc].all (fun v : Value => v.oneCell') = true) := by simp [Hid, Value.oneCell']
      have c0 : wr.cell? ⟨w.heap.size + 1 + 1, 0, none⟩ = some (.slice ca cn cc) := by rw [cell_of_row _ _ _ _ _ _ h2]; rfl
      have c1 : wr.cell? ⟨w.heap.size + 1 + 1, 1, none⟩ = some (.slice ra k rc) := by rw [cell_of_row _ _ _ _ _ _ h2]; rfl
      have c2 : wr.cell? ⟨w.heap.size + 1 + 1, 2, none⟩ = some (iv gap) := by rw [cell_of_row _ _ _ _ _ _ h2]; rfl
      have c3 : wr.cell? ⟨w.heap.size + 1 + 1, 3, none⟩ = some (iv str) := by rw [cell_of_row _ _ _ _ _ _ h2]; rfl
      have c4 : wr.cell? ⟨w.heap.size + 1 + 1, 4, none⟩ = some (.slice ta tn tc) := by rw [cell_of_row _ _ _ _ _ _ h2]; rfl
      clear h2
      go_wp2_with (with_reducible change wpList _ _ _ (Oper.mk _ (Op.store 73 _ _) _ _ _ _ :: _) _ _; refine L_skip rfl (run_store_row 73 _ _ rfl _ rfl #[.slice ca cn cc, .slice ra k rc, iv gap, iv str, .slice ta tn tc] rfl 73 zdr h1.out HSI.out rfl HON.out) ?_)
      exact bodyPost_ret (results_row1 (fn := Try.f20) Try.results20 _ rfl (heap_setRow_same h1.out) Try.underlying73 rfl HSI.out) rfl ⟨_, _, _, rfl, bsetRow HBV.out (by omega) _⟩
end Go.Proofs.Ytdhkgpfcanekkaa

/- Hangs of package tenter. -/
namespace Go.Proofs.Ytdhkgpfcanekkaa
open Go Go.RowKit Go.Shelf
attribute [local go_sem ↓] Go.wp_at_zero Go.wp_at_succ

def HangsRes (C : List Tn) (str : Int) (w : World) (e : Ending) (w' : World) : Prop :=
  ∃ g, e = .returned (.tuple #[.slice (some ⟨g, 0, none⟩) C.length C.length, iv 0]) ∧ SliceOf encS 2 w' (.slice (some ⟨g, 0, none⟩) C.length C.length) (C.map (lenS str)) ∧ Below w.heap.size w w'
set_option maxRecDepth 20000 in
set_option maxHeartbeats 6400000 in
theorem Hangs_good (C : List Tn) (R : List Int) (gap str : Int) (ca ra : Option Addr) (cc rc : Nat) (w : World) (hC : SliceOf encN 4 w (.slice ca C.length cc) C) (hR : Ints w (.slice ra R.length rc) R) (hchk : fdChk ⟨C, R, gap, str⟩ = 0) :
    Calls Try.prog 7 #[.agg #[.slice ca C.length cc, .slice ra R.length rc, iv gap, iv str]] w (HangsRes C str w) := by
  obtain ⟨i0, hi, hz0, hz1, hz2⟩ := info_parts infoSpG
  obtain ⟨hln, hr3, hvf⟩ := fdChk_zero hchk
  have hr3 := (inB_iff.1 hr3).2
  simp only [vFd, Bool.and_eq_true, List.all_eq_true] at hvf
  have hst := inB_iff.1 hvf.2.2.2
  have hln : C.length ≤ 7 := hln
  have hr3 : R.length ≤ 3 := by have : (R.length : Int) ≤ 3 := hr3; omega
  have hst : 0 ≤ str ∧ str ≤ 200 := hst
  have HVC := Lib.hid (show ∀ (k : Nat) (c : Tn), C[k]? = some c → vTn c = true from fun k c hk => hvf.1 c (List.mem_of_getElem? hk))
  have HIF := Lib.hid hi; have HZ0 := Lib.hid hz0; have HZ1 := Lib.hid hz1
  have HBY := Lib.hid (show i0.bytes * C.length ≤ 281474976710656 by rw [hz2]; omega)
  have HML := Lib.hid (show C.length ≤ maxLen by unfold maxLen; omega)
  have HC := Lib.hid hC; have HR := Lib.hid hR
  have HCK := Lib.hid (fun (W : World) (hb : Below w.heap.size w W) => by have := fdCheck_any C R gap str ca ra cc rc W (hC.below hb) (hR.below hb); rw [hchk] at this; exact this)
  have HNY := Lib.hid (fun (W : World) => newYard_any ca ra C.length cc R.length rc gap str W hr3)
  have HST := Lib.hid hst
  clear hi hz0 hz1 hz2 hC hR hchk hr3 hvf hst
  go_enter Try.func7, Try.ntmps7
  go_wp2_with fail
  refine (HCK.out _ (by repeat (first | exact Below.refl _ _ | refine Below.drew ?_ | refine bpush ?_ _ | refine bput ?_ (by simp) _ | (refine bstep ?_ (by assumption))))).mono ?_
  rintro e w1 ⟨rfl, hb⟩
  have HB1 := Lib.hid (show Below w.heap.size w w1 from bstep (by repeat (first | exact Below.refl _ _ | refine Below.drew ?_ | refine bpush ?_ _ | refine bput ?_ (by simp) _ | (refine bstep ?_ (by assumption)))) hb)
  have hr1 := (hb.block w.heap.size (by simp)).trans (heap_new w #[.slice ca C.length cc, .slice ra R.length rc, iv gap, iv str] 40)
  have HR1 := Lib.hid hr1
  have c0 : w1.cell? ⟨w.heap.size, 0, none⟩ = some (.slice ca C.length cc) := by rw [cell_of_row _ _ _ _ _ _ hr1]; rfl
  have c1 : w1.cell? ⟨w.heap.size, 1, none⟩ = some (.slice ra R.length rc) := by rw [cell_of_row _ _ _ _ _ _ hr1]; rfl
  have c2 : w1.cell? ⟨w.heap.size, 2, none⟩ = some (iv gap) := by rw [cell_of_row _ _ _ _ _ _ hr1]; rfl
  have c3 : w1.cell? ⟨w.heap.size, 3, none⟩ = some (iv str) := by rw [cell_of_row _ _ _ _ _ _ hr1]; rfl
  clear hb hr1
  go_wp2_with fail
  refine (HNY.out _).mono ?_
  rintro e w2 ⟨ha, hn, hcp, rfl, hb2⟩
  have HB2 := Lib.hid (bstep HB1.out hb2)
  have hr2 := bblkG hb2 HR1.out
  have hz2 : w.heap.size < w2.heap.size := (Array.getElem?_eq_some_iff.1 hr2).1
  obtain ⟨Wn, hWn⟩ : ∃ W : World, w2.alloc (.cells #[.slice ca C.length cc, .slice ra R.length rc, iv gap, iv str, .slice ha hn hcp] 73) = W := ⟨_, rfl⟩
  have hBn : Below w2.heap.size w2 Wn := by rw [← hWn]; exact bpush (Below.refl _ _) _
  have hdn : Wn.heap[w2.heap.size]? = some (.cells #[.slice ca C.length cc, .slice ra R.length rc, iv gap, iv str, .slice ha hn hcp] 73 (0, 0)) := by rw [← hWn]; exact heap_new _ _ _
  have hzn : Wn.heap.size = w2.heap.size + 1 := by rw [← hWn]; simp
  have hfn := bblkG hBn hr2
  have HB := Lib.hid (bstep HB2.out hBn); have HD := Lib.hid hdn; have HFN := Lib.hid hfn; have HZ := Lib.hid hzn
  have c00 : Wn.cell? ⟨w.heap.size, 0, none⟩ = some (.slice ca C.length cc) := by rw [cell_of_row _ _ _ _ _ _ hfn]; rfl
  clear hb2 hr2 hBn hdn hfn hzn c0 c1 c2 c3
  go_wp2_with (
    with_reducible change wpList _ _ _ (Oper.mk _ (Op.makeSlice 26 _ _) _ _ _ _ :: _) _ _
    refine wpList_make_full _ rfl _ _ 26 rfl Wn.heap.size 36 i0 (.agg #[.int .i64 0, .int .i64 0]) 2 Try.underlying26 HIF.out HZ0.out HZ1.out .i64 .i64 C.length C.length C.length rfl rfl rfl rfl HBY.out HML.out (Nat.le_refl _) ?_
    intro w3 hown hgrow
    have hl2 := span_newG hown
    have hB2 : Below Wn.heap.size Wn w3 := ⟨hgrow.os, hgrow.tape, hgrow.output, hgrow.size, fun q hq => hgrow.block q hq (by simp)⟩
    have hf2 := (hB2.block _ (by have := HZ.out; omega)).trans HFN.out
    have HL2 := Lib.hid hl2; have HBW := Lib.hid hB2
    have c0 : w3.cell? ⟨w.heap.size, 0, none⟩ = some (.slice ca C.length cc) := by rw [cell_of_row _ _ _ _ _ _ hf2]; rfl
    clear hown hgrow hl2 hB2 hf2 hWn)
  obtain ⟨D, hD⟩ : ∃ D : List Sp, C.map (lenS str) = D := ⟨_, rfl⟩
  have hDl : D.length = C.length := by rw [← hD]; simp
  have HDG := Lib.hid (show ∀ (k : Nat) (c : Tn), C[k]? = some c → D[k]? = some (lenS str c) from fun k c hk => by rw [← hD, List.getElem?_map, hk]; rfl)
  have HDL := Lib.hid hDl
  have HDD := Lib.hid hD
  have hzb : w2.heap.size < Wn.heap.size := by have := HZ.out; omega
  clear hD hDl c00
  go_loopw [22, 7] (fun i _ wr => ∃ k : Nat, k ≤ C.length ∧ i = iv k ∧ Hid (wr.heap[Wn.heap.size]? = some (.cells (rowI (flS D C.length k)) 36 (0, 0))) ∧ Hid (Below Wn.heap.size Wn wr)) (fun i _ _ => C.length - (intOf i).toNat)
  case atStart => exact ⟨0, Nat.zero_le _, rfl, by rw [flS_zero]; exact HL2.out, HBW.out⟩
  case round =>
    obtain ⟨k, hk, rfl, HRW, HBR⟩ := hrel
    clear c0
    by_cases hlt : k < C.length
    · obtain ⟨c, hc⟩ := getElem?_of_lt hlt
      have HDk := Lib.hid (HDG.out k c hc)
      have HLN := Lib.hid (fun (W : World) (hb : Below w.heap.size w W) => lengths_any C ca ra ha cc R.length rc hn hcp k gap str c W (HC.out.below hb) hc (HVC.out k c hc) HST.out)
      have hrd := (HBR.out.block _ hzb).trans HD.out
      have d0 : wr.cell? ⟨w2.heap.size, 0, none⟩ = some (.slice ca C.length cc) := by rw [cell_of_row _ _ _ _ _ _ hrd]; rfl
      have d1 : wr.cell? ⟨w2.heap.size, 1, none⟩ = some (.slice ra R.length rc) := by rw [cell_of_row _ _ _ _ _ _ hrd]; rfl
      have d2 : wr.cell? ⟨w2.heap.size, 2, none⟩ = some (iv gap) := by rw [cell_of_row _ _ _ _ _ _ hrd]; rfl
      have d3 : wr.cell? ⟨w2.heap.size, 3, none⟩ = some (iv str) := by rw [cell_of_row _ _ _ _ _ _ hrd]; rfl
      have d4 : wr.cell? ⟨w2.heap.size, 4, none⟩ = some (.slice ha hn hcp) := by rw [cell_of_row _ _ _ _ _ _ hrd]; rfl
      have hfl := flS_len HDL.out hk
      clear hrd
      go_wp2_with fail
      refine (HLN.out _ (bstep HB.out HBR.out)).mono ?_
      rintro e w4 ⟨rfl, hb4⟩
      have HR4 := Lib.hid (bblkG hb4 HRW.out)
      have HB4 := Lib.hid (bstep HBR.out hb4)
      have y0 := cell_rowI (i := k * 2) HR4.out (by omega)
      have y1 := cell_rowI (i := k * 2 + 1) HR4.out (by omega)
      have z0 : w4.frozen? ⟨Wn.heap.size, k * 2, none⟩ = false := by unfold World.frozen?; rw [HR4.out]; rfl
      have z1 : w4.frozen? ⟨Wn.heap.size, k * 2 + 1, none⟩ = false := by unfold World.frozen?; rw [HR4.out]; rfl
      generalize (flS D C.length k).getD (k * 2) 0 = p0 at *
      generalize (flS D C.length k).getD (k * 2 + 1) 0 = p1 at *
      obtain ⟨q, hq⟩ : ∃ q : Sp, lenS str c = q := ⟨_, rfl⟩
      rw [hq] at HDk
      rw [hq]
      have HST2 := Lib.hid (flS_succ HDL.out HDk.out)
      clear hb4 d0 d1 d2 d3 d4 hc hq hfl
      go_wp2_with fail
      go_roundw
      case rel =>
        refine ⟨k + 1, by omega, by go_num, ?_, bput (p := ⟨Wn.heap.size, k * 2 + 1, none⟩) (bput (p := ⟨Wn.heap.size, k * 2, none⟩) HB4.out (Nat.le_refl _) _) (Nat.le_refl _) _⟩
        have h1 := heap_setCell_same w4 Wn.heap.size (k * 2) _ _ (iv q.1) HR4.out
        have h2 := heap_setCell_same _ Wn.heap.size (k * 2 + 1) _ _ (iv q.2) h1
        rw [rowI_set, rowI_set, HST2.out] at h2
        exact h2
      case measure => simp [intOf]; omega
    · obtain rfl : k = C.length := by omega
      go_wp2_with fail
      go_ret2
      exact ⟨_, rfl, by rw [HDD.out]; exact slice_flS HDL.out (by omega) HRW.out, bstep HB.out HBR.out⟩
end Go.Proofs.Ytdhkgpfcanekkaa

/- Window of package stream at valid arguments. -/
namespace Go.Proofs.Ytdhkgpfcanekkaa
open Go Go.RowKit Go.Shelf
attribute [local go_sem ↓] Go.wp_at_zero Go.wp_at_succ

/-- Whether hammers surely go for so many hours from an hour on. -/
def winB (m : Ml) (F : List Sp) (k hours : Int) (fr : Nat) : Bool := decide (hours ≤ ((lvOf Prod.fst m F (stdy F.length k fr)).length : Int) - fr)
/-- The first such hour. -/
def winO (m : Ml) (F : List Sp) (k hours : Int) : Option Nat := (List.range F.length).find? (winB m F k hours)
def winV : Option Nat → Value
  | some fr => .tuple #[iv fr, iv 0]
  | none => .tuple #[iv 0, iv 7]
theorem winO_some {m : Ml} {F : List Sp} {k hours : Int} {j : Nat} (h : ∀ q, q < j → winB m F k hours q = false) (hj : j < F.length) (h1 : winB m F k hours j = true) : winO m F k hours = some j := by
  unfold winO; rw [List.find?_range_eq_some]; exact ⟨h1, List.mem_range.2 hj, fun q hq => by simp [h q hq]⟩
theorem winO_none {m : Ml} {F : List Sp} {k hours : Int} (h : ∀ q, q < F.length → winB m F k hours q = false) : winO m F k hours = none := by
  unfold winO; rw [List.find?_range_eq_none]; exact fun q hq => by simp [h q hq]

end Go.Proofs.Ytdhkgpfcanekkaa

/- The elm functions of Top laws: spans, copies of spans, and the known examples of chapters 2 and 5. -/
namespace Go.Proofs.Ytdhkgpfcanekkaa
open Go Go.RowKit Go.Shelf
attribute [local go_sem ↓] Go.wp_at_zero Go.wp_at_succ

set_option maxHeartbeats 400000 in
theorem elmSpan_any (lo hi : Int) (w : World) :
    Calls Try.prog 18 #[iv lo, iv hi] w fun e w' => e = .returned (.agg #[iv lo, iv hi]) ∧ Below w.heap.size w w' := by
  go_enter Try.func18, Try.ntmps18
  go_wp2_with fail
  exact bodyPost_ret (v := .agg #[iv lo, iv hi]) (by simp [results, Try.results18, go_sem]) rfl ⟨rfl, (by repeat (first | exact Below.refl _ _ | refine Below.drew ?_ | refine bpush ?_ _ | refine bput ?_ (by simp) _ | (refine bstep ?_ (by assumption))))⟩

theorem kWin : winO kMl kFl 2 2 = some 1 := by decide +kernel
def kTn : List Tn := [((200, 204), (0, 0))]
theorem kTnChk : fdChk ⟨kTn, [520], 0, 50⟩ = 0 := by decide +kernel
theorem kTnMap : kTn.map (lenS 50) = [(204, 210)] := by decide +kernel
theorem tn_new {w : World} {g cap : Nat} {a b c d : Int} {t : TypeId} (h : w.heap[g]? = some (.cells #[iv a, iv b, iv c, iv d] t (0, 0))) : SliceOf encN 4 w (.slice (some ⟨g, 0, none⟩) 1 cap) [((a, b), (c, d))] := by
  refine ⟨_, cap, rfl, by simp, fun i p hp => ⟨g, 0, rfl, fun j u hu => ?_⟩⟩
  rw [cell_of_row _ _ _ _ _ _ h]
  rcases i with _ | i
  · simp at hp; subst hp; rcases j with _ | _ | _ | _ | j <;> simp [encN] at hu ⊢ <;> exact hu
  · simp at hp
set_option maxRecDepth 20000 in
set_option maxHeartbeats 3200000 in
theorem elmField_any (w : World) :
    Calls Try.prog 12 #[] w fun e w' => e = .returned (.bool true) ∧ Below w.heap.size w w' := by
  have hM := fun (w : World) (ca ra : Option Addr) (cc rc : Nat) hc hr => Hangs_good kTn [520] 0 50 ca ra cc rc w hc hr kTnChk
  unfold HangsRes at hM
  rw [kTnMap] at hM
  have HM := Lib.hid hM; clear hM
  go_enter Try.func12, Try.ntmps12
  go_wp2_with fail
  refine (elmSpan_any 200 204 _).mono ?_
  rintro e w1 ⟨rfl, hb1⟩
  have HB1 := Lib.hid hb1; clear hb1
  go_wp2_with fail
  have hz1 : w1.heap.size < ((w1.alloc (.cells #[iv 200, iv 204, iv 0, iv 0] 43)).alloc (.cells #[iv 520] 3)).heap.size := by simp; omega
  have h2 := heap_new (w1.alloc (.cells #[iv 200, iv 204, iv 0, iv 0] 43)) #[iv 520] 3
  rw [World.size_alloc] at h2
  refine (HM.out _ _ _ _ _ (SliceOf.below (tn_new (heap_new w1 #[iv 200, iv 204, iv 0, iv 0] 43)) (bpush (Below.refl _ _) _)) (ints1 ((cell_of_row _ _ _ _ _ _ h2).trans rfl))).mono ?_
  rintro e w2 ⟨g, rfl, hs, hb2⟩
  have HB2 := Lib.hid (bstep HB1.out (bstep (bpush (bpush (Below.refl w1.heap.size w1) _) _) hb2))
  have hs : SliceOf encS 2 w2 (.slice (some ⟨g, 0, none⟩) 1 1) [(204, 210)] := hs
  obtain ⟨g', o', e', hj⟩ := sl_rowG (k := 0) hs rfl
  simp only [Option.some.injEq, Addr.mk.injEq, and_true] at e'
  obtain ⟨rfl, rfl⟩ := e'
  have x0 : w2.cell? ⟨g, 0, none⟩ = some (iv 204) := hj 0 _ rfl
  have x1 : w2.cell? ⟨g, 1, none⟩ = some (iv 210) := hj 1 _ rfl
  have hbz : Below w2.heap.size w2 w2 := Below.refl _ _
  have hk1 : kTn.length = 1 := rfl
  rw [hk1]
  clear hz1 h2 hb2 hs hj HM
  go_wp2_with fail
  go_region_held3 (fun w' => w'.cell? ⟨g, 0, none⟩ = some (iv 204) ∧ w'.cell? ⟨g, 1, none⟩ = some (iv 210) ∧ Below w2.heap.size w2 w')
    (first | (go_split_ands; refine ⟨?_, ?_, ?_⟩ <;> first | assumption | exact kcell hbK (by assumption) | exact kfrozen hbK (by assumption) (by assumption) | exact bstep (by assumption) hbK | exact SliceOf.below (by assumption) hbK | exact kcell (bpush (Below.refl _ _) _) (by assumption) | exact kfrozen (bpush (Below.refl _ _) _) (by assumption) (by assumption) | exact bpush (by assumption) _ | exact SliceOf.below (by assumption) (bpush (Below.refl _ _) _)) | (refine ⟨?_, ?_, ?_⟩ <;> first | exact Below.drew (by assumption) | exact SliceOf.below (by assumption) ((Below.refl _ _).drew) | assumption))
    (first | ((with_reducible refine (elmSpan_any _ _ _).mono ?_); rintro e w3 ⟨rfl, hbK⟩))
  all_goals
    rename_i hHeld
    have HBB := Lib.hid (bstep HB2.out hHeld.2.2)
    clear hHeld x0 x1 hbz
    go_wp2_with fail
    go_ret
    exact ⟨rfl, HBB.out⟩
end Go.Proofs.Ytdhkgpfcanekkaa
