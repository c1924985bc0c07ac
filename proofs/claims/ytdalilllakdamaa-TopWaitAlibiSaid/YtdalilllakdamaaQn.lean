/- Turns: the error of a day; the queue of a day, opened. -/
import Derived.Test.YtdalilllakdamaaQm
namespace Go.Proofs.Ytdalilllakdamaa
open Go Go.RowKit Go.Shelf
attribute [local go_sem] Oper.semAt_some

def vCloth (n : Nat) (c : Ct) : Bool := inB 0 ((n : Int) - 1) c.we && (inB 0 200 c.co && okSpan c.lo c.hi 1 20)
set_option maxRecDepth 20000 in
set_option maxHeartbeats 3200000 in
theorem validCloth_any (c : Ct) (n : Nat) (w : World) (hn : n ≤ 1000000) :
    Calls Try.prog 32 #[.agg (encC c).toArray, iv n] w fun e w' => e = .returned (.bool (vCloth n c)) ∧ Below w.heap.size w w' := by
  obtain ⟨we, co, lo, hi⟩ := c
  simp only [encC]
  cases h1 : inB 0 ((n : Int) - 1) we
  · have HV : Hid (vCloth n ⟨we, co, lo, hi⟩ = false) := by simp [Hid, vCloth, h1]
    have H1 := Lib.hid h1; clear h1
    go_enter Try.func32, Try.ntmps32
    go_wp2_with fail
    refine (within1 0 ((n : Int) - 1) we (by go_simp)).mono ?_
    rintro e w1 ⟨he, rfl⟩; rw [H1.out] at he; subst he
    go_wp2_with fail
    go_ret
    exact ⟨by rw [HV.out]; rfl, (by repeat (first | exact Below.refl _ _ | refine Below.drew ?_ | refine bpush ?_ _ | refine bput ?_ (by simp) _ | (refine bstep ?_ (by assumption))))⟩
  · cases h2 : inB 0 200 co
    · have HV : Hid (vCloth n ⟨we, co, lo, hi⟩ = false) := by simp [Hid, vCloth, h2]
      have H1 := Lib.hid h1; have H2 := Lib.hid h2; clear h1 h2
      go_enter Try.func32, Try.ntmps32
      go_wp2_with fail
      refine (within1 0 ((n : Int) - 1) we (by go_simp)).mono ?_
      rintro e w1 ⟨he, rfl⟩; rw [H1.out] at he; subst he
      go_wp2_with fail
      refine (within1 0 200 co (by go_simp)).mono ?_
      rintro e w2 ⟨he, rfl⟩; rw [H2.out] at he; subst he
      go_wp2_with fail
      go_ret
      exact ⟨by rw [HV.out]; rfl, (by repeat (first | exact Below.refl _ _ | refine Below.drew ?_ | refine bpush ?_ _ | refine bput ?_ (by simp) _ | (refine bstep ?_ (by assumption))))⟩
    · have HV : Hid (vCloth n ⟨we, co, lo, hi⟩ = okSpan lo hi 1 20) := by simp [Hid, vCloth, h1, h2]
      have H1 := Lib.hid h1; have H2 := Lib.hid h2; clear h1 h2
      go_enter Try.func32, Try.ntmps32
      go_wp2_with fail
      refine (within1 0 ((n : Int) - 1) we (by go_simp)).mono ?_
      rintro e w1 ⟨he, rfl⟩; rw [H1.out] at he; subst he
      go_wp2_with fail
      refine (within1 0 200 co (by go_simp)).mono ?_
      rintro e w2 ⟨he, rfl⟩; rw [H2.out] at he; subst he
      go_wp2_with fail
      refine (okSpan_any lo hi 1 20 _).mono ?_
      rintro e w3 ⟨rfl, hb3⟩
      go_wp2_with fail
      go_ret
      exact ⟨by rw [HV.out]; rfl, bstep (by repeat (first | exact Below.refl _ _ | refine Below.drew ?_ | refine bpush ?_ _ | refine bput ?_ (by simp) _ | (refine bstep ?_ (by assumption)))) hb3⟩

set_option maxRecDepth 20000 in
set_option maxHeartbeats 1600000 in
theorem check1_any (c : Ct) (n b : Nat) (W : World) (hn : n ≤ 1000000) (hb : W.cell? ⟨b, 0, none⟩ = some (iv n)) :
    Calls Try.prog 31 #[.agg (encC c).toArray, .pointer (some ⟨b, 0, none⟩)] W fun e w' => e = .returned (.bool (vCloth n c)) ∧ Below W.heap.size W w' := by
  have HV := Lib.hid (fun W : World => validCloth_any c n W hn)
  have hl := lt_of_cell hb
  obtain ⟨we, co, lo, hi⟩ := c
  simp only [encC] at *
  go_enter Try.func31, Try.ntmps31
  go_wp2_with fail
  refine (HV.out _).mono ?_
  rintro e w1 ⟨rfl, hb1⟩
  go_wp2_with fail
  go_ret
  exact ⟨rfl, bstep (by repeat (first | exact Below.refl _ _ | refine Below.drew ?_ | refine bpush ?_ _ | refine bput ?_ (by simp) _ | (refine bstep ?_ (by assumption)))) hb1⟩

set_option maxRecDepth 20000 in
set_option maxHeartbeats 3200000 in
theorem allC_any (gf : FuncId) (cb : Array Value) (p : Ct → Bool) (xs : List Ct) (la : Option Addr) (lc : Nat) (w : World) (eg : ∀ args w, (callFunc gf args).run Try.prog w = .ok (.enter gf args) w)
    (hf : ∀ x ∈ xs, ∀ W, Below w.heap.size w W → Calls Try.prog gf (#[.agg (encC x).toArray] ++ cb) W fun e w' => e = .returned (.bool (p x)) ∧ Below W.heap.size W w') (hs : SliceOf encC 4 w (.slice la xs.length lc) xs) :
    Calls Try.prog 30 #[.func (.func gf) #[] cb, .slice la xs.length lc] w fun e w' => e = .returned (.bool (xs.all p)) ∧ Below w.heap.size w w' := by
  have HF := Lib.hid hf; have HS := Lib.hid hs
  have hlen := hs.len
  clear hf hs
  go_enter Try.func30, Try.ntmps30
  go_wp2_with fail
  go_loopw [9] (fun i wr => ∃ k : Nat, k ≤ xs.length ∧ i = iv k ∧ Hid ((xs.take k).all p = true) ∧ Below w.heap.size w wr) (fun i _ => xs.length - (intOf i).toNat)
  case atStart => exact ⟨0, Nat.zero_le _, rfl, by simp [Hid], Below.refl _ _⟩
  case round =>
    obtain ⟨k, hk, rfl, HA, hbw⟩ := hrel
    have HB := Lib.hid hbw
    clear hbw
    by_cases hlt : k < xs.length
    · have hs1 := HS.out.below HB.out
      obtain ⟨b, off, rfl⟩ := slice_addr hs1 (by omega)
      obtain ⟨c0, c1, c2, c3⟩ := cloth_cells hs1 hlt
      have hx := ctAt_get hlt
      have HC := Lib.hid (fun (o : Obj) => HF.out (ctAt xs k) (List.mem_of_getElem? hx) (wr.alloc o) (bpush HB.out o))
      have HX := Lib.hid hx
      clear hs1 hx
      generalize ctAt xs k = x at *
      obtain ⟨we, co, lo, hi⟩ := x
      simp only [encC] at *
      cases hp : p ⟨we, co, lo, hi⟩
      · have HP := Lib.hid hp
        rw [hp] at HC; clear hp
        go_wp2_with fail
        refine (HC.out _).mono ?_
        rintro e w1 ⟨rfl, hb1⟩
        have HB1 := Lib.hid (bstep (bpush HB.out _) hb1)
        clear hb1
        go_wp2_with fail
        go_ret
        exact ⟨by rw [all_false_of _ HX.out HP.out]; rfl, HB1.out⟩
      · have HP := Lib.hid hp
        rw [hp] at HC; clear hp
        go_wp2_with fail
        refine (HC.out _).mono ?_
        rintro e w1 ⟨rfl, hb1⟩
        have HB1 := Lib.hid (bstep (bpush HB.out _) hb1)
        clear hb1
        go_wp2_with fail
        go_roundw
        case rel => exact ⟨k + 1, by omega, by go_num, all_take_succ _ HX.out HA.out HP.out, HB1.out⟩
        case measure => simp [intOf]; omega
    · obtain rfl : k = xs.length := by omega
      have HT : Hid (xs.all p = true) := by have := HA.out; rwa [List.take_length] at this
      go_wp2_with fail
      go_ret
      exact ⟨by rw [HT.out]; rfl, HB.out⟩

/-- The error of a day. -/
def tChk (C : List Ct) (R : List Int) : Int := if vRanks R = true then (if 10 < C.length then 5 else if C.all (vCloth R.length) = true then 0 else 2) else 4
set_option maxRecDepth 20000 in
set_option maxHeartbeats 6400000 in
theorem tCheck_any (C : List Ct) (R : List Int) (ca ra : Option Addr) (cc rc : Nat) (w : World) (hC : SliceOf encC 4 w (.slice ca C.length cc) C) (hR : Ints w (.slice ra R.length rc) R) (hl : R.length ≤ 1000000) :
    Calls Try.prog 18 #[.agg #[.slice ca C.length cc, .slice ra R.length rc]] w fun e w' => e = .returned (iv (tChk C R)) ∧ Below w.heap.size w w' := by
  have hcl := hC.len
  have HR := Lib.hid (fun (W : World) (hb : Below w.heap.size w W) => validRanks_any R ra rc W (hR.below hb) hl)
  have HC := Lib.hid hC
  clear hC hR
  cases h1 : vRanks R
  · have HV : Hid (tChk C R = 4) := by simp [Hid, tChk, h1]
    have H1 := Lib.hid h1; clear h1
    go_enter Try.func18, Try.ntmps18
    go_wp2_with fail
    refine (HR.out _ (by repeat (first | exact Below.refl _ _ | refine Below.drew ?_ | refine bpush ?_ _ | refine bput ?_ (by simp) _ | (refine bstep ?_ (by assumption))))).mono ?_
    rintro e w1 ⟨he, hb1⟩; rw [H1.out] at he; subst he
    have d0 : w1.cell? ⟨w.heap.size, 0, none⟩ = some (.slice ca C.length cc) := kcellQ hb1 (by go_simp)
    have d1 : w1.cell? ⟨w.heap.size + 1, 0, none⟩ = some (iv R.length) := kcellQ hb1 (by go_simp)
    have HB1 := Lib.hid (show Below w.heap.size w w1 from bstep (by repeat (first | exact Below.refl _ _ | refine Below.drew ?_ | refine bpush ?_ _ | refine bput ?_ (by simp) _ | (refine bstep ?_ (by assumption)))) hb1)
    clear hb1
    go_wp2_with fail
    go_ret
    exact ⟨by rw [HV.out]; rfl, HB1.out⟩
  · by_cases h2 : 10 < C.length
    · have HV : Hid (tChk C R = 5) := by simp [Hid, tChk, h1, h2]
      have H1 := Lib.hid h1; clear h1
      go_enter Try.func18, Try.ntmps18
      go_wp2_with fail
      refine (HR.out _ (by repeat (first | exact Below.refl _ _ | refine Below.drew ?_ | refine bpush ?_ _ | refine bput ?_ (by simp) _ | (refine bstep ?_ (by assumption))))).mono ?_
      rintro e w1 ⟨he, hb1⟩; rw [H1.out] at he; subst he
      have d0 : w1.cell? ⟨w.heap.size, 0, none⟩ = some (.slice ca C.length cc) := kcellQ hb1 (by go_simp)
      have d1 : w1.cell? ⟨w.heap.size + 1, 0, none⟩ = some (iv R.length) := kcellQ hb1 (by go_simp)
      have HB1 := Lib.hid (show Below w.heap.size w w1 from bstep (by repeat (first | exact Below.refl _ _ | refine Below.drew ?_ | refine bpush ?_ _ | refine bput ?_ (by simp) _ | (refine bstep ?_ (by assumption)))) hb1)
      clear hb1
      go_wp2_with fail
      go_ret
      exact ⟨by rw [HV.out]; rfl, HB1.out⟩
    · have HAC := Lib.hid (fun (w1 : World) (hb : Below w.heap.size w w1) (hd1 : w1.cell? ⟨w.heap.size + 1, 0, none⟩ = some (iv R.length)) =>
        allC_any 31 #[.pointer (some ⟨w.heap.size + 1, 0, none⟩)] (vCloth R.length) C ca cc w1 (enters_of Try.func31 (by kernel_rfl) rfl) (fun x _ W hW => check1_any x R.length (w.heap.size + 1) W hl (kcellQ hW hd1)) (HC.out.below hb))
      cases h3 : C.all (vCloth R.length)
      · have HV : Hid (tChk C R = 2) := by simp only [Hid, tChk, h1, if_true, if_neg h2, h3]; rfl
        have H1 := Lib.hid h1; have H3 := Lib.hid h3; clear h1 h3
        go_enter Try.func18, Try.ntmps18
        go_wp2_with fail
        refine (HR.out _ (by repeat (first | exact Below.refl _ _ | refine Below.drew ?_ | refine bpush ?_ _ | refine bput ?_ (by simp) _ | (refine bstep ?_ (by assumption))))).mono ?_
        rintro e w1 ⟨he, hb1⟩; rw [H1.out] at he; subst he
        have d0 : w1.cell? ⟨w.heap.size, 0, none⟩ = some (.slice ca C.length cc) := kcellQ hb1 (by go_simp)
        have d1 : w1.cell? ⟨w.heap.size + 1, 0, none⟩ = some (iv R.length) := kcellQ hb1 (by go_simp)
        have HB1 := Lib.hid (show Below w.heap.size w w1 from bstep (by repeat (first | exact Below.refl _ _ | refine Below.drew ?_ | refine bpush ?_ _ | refine bput ?_ (by simp) _ | (refine bstep ?_ (by assumption)))) hb1)
        clear hb1
        go_wp2_with fail
        refine (HAC.out _ HB1.out d1).mono ?_
        rintro e w2 ⟨he, hb2⟩; rw [H3.out] at he; subst he
        go_wp2_with fail
        go_ret
        exact ⟨by rw [HV.out]; rfl, bstep HB1.out hb2⟩
      · have HV : Hid (tChk C R = 0) := by simp only [Hid, tChk, h1, if_true, if_neg h2, h3]
        have H1 := Lib.hid h1; have H3 := Lib.hid h3; clear h1 h3
        go_enter Try.func18, Try.ntmps18
        go_wp2_with fail
        refine (HR.out _ (by repeat (first | exact Below.refl _ _ | refine Below.drew ?_ | refine bpush ?_ _ | refine bput ?_ (by simp) _ | (refine bstep ?_ (by assumption))))).mono ?_
        rintro e w1 ⟨he, hb1⟩; rw [H1.out] at he; subst he
        have d0 : w1.cell? ⟨w.heap.size, 0, none⟩ = some (.slice ca C.length cc) := kcellQ hb1 (by go_simp)
        have d1 : w1.cell? ⟨w.heap.size + 1, 0, none⟩ = some (iv R.length) := kcellQ hb1 (by go_simp)
        have HB1 := Lib.hid (show Below w.heap.size w w1 from bstep (by repeat (first | exact Below.refl _ _ | refine Below.drew ?_ | refine bpush ?_ _ | refine bput ?_ (by simp) _ | (refine bstep ?_ (by assumption)))) hb1)
        clear hb1
        go_wp2_with fail
        refine (HAC.out _ HB1.out d1).mono ?_
        rintro e w2 ⟨he, hb2⟩; rw [H3.out] at he; subst he
        go_wp2_with fail
        go_ret
        exact ⟨by rw [HV.out]; rfl, bstep HB1.out hb2⟩
end Go.Proofs.Ytdalilllakdamaa
