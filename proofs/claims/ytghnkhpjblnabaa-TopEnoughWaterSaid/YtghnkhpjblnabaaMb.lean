import Derived.Test.YtghnkhpjblnabaaOpo
import Derived.Deep.RegionHeld3
import Derived.Deep.DrawnRows
import Derived.RegionTactic
import Derived.ChangeAlike
/- The checks of package stream: mills, streams, plans. -/
namespace Go.Proofs.Ytghnkhpjblnabaa
open Go Go.RowKit

/-- A mill. -/
structure Ml where
  (k t bl bh h nl nh : Int)
def encMl (m : Ml) : List Value := [iv m.k, iv m.t, iv m.bl, iv m.bh, iv m.h, iv m.nl, iv m.nh]
def vMill (m : Ml) : Bool := inB 1 8 m.k && (inB 0 100 m.t && (okSpan m.bl m.bh 0 5000 && (inB 0 500 m.h && okSpan m.nl m.nh 0 m.h)))

set_option maxRecDepth 20000 in
set_option maxHeartbeats 3200000 in
theorem validMill_any (m : Ml) (w : World) :
    Calls Try.prog 58 #[.agg (encMl m).toArray] w fun e w' => e = .returned (.bool (vMill m)) ∧ Below w.heap.size w w' := by
  obtain ⟨k, t, bl, bh, h, nl, nh⟩ := m
  simp only [encMl]
  cases h1 : inB 1 8 k
  · go_enter Try.func58, Try.ntmps58
    go_wp2_with fail
    refine (within1 1 8 k (by go_simp)).mono ?_
    rintro e w_ ⟨rfl, rfl⟩
    go_wp2_with fail
    go_ret
    exact ⟨by simp [vMill, h1], (by repeat (first | exact Below.refl _ _ | refine Below.drew ?_ | refine bpush ?_ _ | refine bput ?_ (by simp) _ | (refine bstep ?_ (by assumption))))⟩
  cases h2 : inB 0 100 t
  · go_enter Try.func58, Try.ntmps58
    go_wp2_with fail
    refine (within1 1 8 k (by go_simp)).mono ?_
    rintro e w_ ⟨rfl, rfl⟩
    go_wp2_with fail
    refine (within1 0 100 t (by go_simp)).mono ?_
    rintro e w_ ⟨rfl, rfl⟩
    go_wp2_with fail
    go_ret
    exact ⟨by simp [vMill, h1, h2], (by repeat (first | exact Below.refl _ _ | refine Below.drew ?_ | refine bpush ?_ _ | refine bput ?_ (by simp) _ | (refine bstep ?_ (by assumption))))⟩
  cases h3 : okSpan bl bh 0 5000
  · go_enter Try.func58, Try.ntmps58
    go_wp2_with fail
    refine (within1 1 8 k (by go_simp)).mono ?_
    rintro e w_ ⟨rfl, rfl⟩
    go_wp2_with fail
    refine (within1 0 100 t (by go_simp)).mono ?_
    rintro e w_ ⟨rfl, rfl⟩
    go_wp2_with fail
    refine (okSpan_any bl bh 0 5000 _).mono ?_
    rintro e w1 ⟨rfl, hb1⟩
    obtain ⟨hb1c, hb1f⟩ := bcell hb1
    have hb1z := hb1.size
    simp [Nat.add_one_le_iff] at hb1z
    go_wp2_with fail
    go_ret
    exact ⟨by simp [vMill, h1, h2, h3], (by repeat (first | exact Below.refl _ _ | refine Below.drew ?_ | refine bpush ?_ _ | refine bput ?_ (by simp) _ | (refine bstep ?_ (by assumption))))⟩
  cases h4 : inB 0 500 h
  · go_enter Try.func58, Try.ntmps58
    go_wp2_with fail
    refine (within1 1 8 k (by go_simp)).mono ?_
    rintro e w_ ⟨rfl, rfl⟩
    go_wp2_with fail
    refine (within1 0 100 t (by go_simp)).mono ?_
    rintro e w_ ⟨rfl, rfl⟩
    go_wp2_with fail
    refine (okSpan_any bl bh 0 5000 _).mono ?_
    rintro e w1 ⟨rfl, hb1⟩
    obtain ⟨hb1c, hb1f⟩ := bcell hb1
    have hb1z := hb1.size
    simp [Nat.add_one_le_iff] at hb1z
    go_wp2_with fail
    refine (within1 0 500 h (by go_simp)).mono ?_
    rintro e w_ ⟨rfl, rfl⟩
    go_wp2_with fail
    go_ret
    exact ⟨by simp [vMill, h1, h2, h3, h4], (by repeat (first | exact Below.refl _ _ | refine Below.drew ?_ | refine bpush ?_ _ | refine bput ?_ (by simp) _ | (refine bstep ?_ (by assumption))))⟩
  · go_enter Try.func58, Try.ntmps58
    go_wp2_with fail
    refine (within1 1 8 k (by go_simp)).mono ?_
    rintro e w_ ⟨rfl, rfl⟩
    go_wp2_with fail
    refine (within1 0 100 t (by go_simp)).mono ?_
    rintro e w_ ⟨rfl, rfl⟩
    go_wp2_with fail
    refine (okSpan_any bl bh 0 5000 _).mono ?_
    rintro e w1 ⟨rfl, hb1⟩
    obtain ⟨hb1c, hb1f⟩ := bcell hb1
    have hb1z := hb1.size
    simp [Nat.add_one_le_iff] at hb1z
    have hlt0 : w.heap.size < w1.heap.size := by omega
    go_wp2_with fail
    refine (within1 0 500 h (by go_simp)).mono ?_
    rintro e w_ ⟨rfl, rfl⟩
    go_wp2_with fail
    refine (okSpan_any nl nh 0 h _).mono ?_
    rintro e w2 ⟨rfl, hb2⟩
    obtain ⟨hb2c, hb2f⟩ := bcell hb2
    have hb2z := hb2.size
    simp [Nat.add_one_le_iff] at hb2z
    go_wp2_with fail
    go_ret
    exact ⟨by simp [vMill, h1, h2, h3, h4], (by repeat (first | exact Below.refl _ _ | refine Below.drew ?_ | refine bpush ?_ _ | refine bput ?_ (by simp) _ | (refine bstep ?_ (by assumption))))⟩

def vFlow (p : Sp) : Bool := okSpan p.1 p.2 0 500
set_option maxHeartbeats 800000 in
theorem validFlow_any (p : Sp) (w : World) :
    Calls Try.prog 60 #[.agg (encS p).toArray] w fun e w' => e = .returned (.bool (vFlow p)) ∧ Below w.heap.size w w' := by
  obtain ⟨l, h⟩ := p
  simp only [encS]
  go_enter Try.func60, Try.ntmps60
  go_wp2_with fail
  refine (okSpan_any l h 0 500 _).mono ?_
  rintro e w' ⟨rfl, hb⟩
  go_wp2_with fail
  go_ret
  exact ⟨rfl, (by repeat (first | exact Below.refl _ _ | refine Below.drew ?_ | refine bpush ?_ _ | refine bput ?_ (by simp) _ | (refine bstep ?_ (by assumption))))⟩

set_option maxHeartbeats 1600000 in
theorem allF_any (xs : List Sp) (v : Value) (w : World) (hs : SliceOf encS 2 w v xs) :
    Calls Try.prog 59 #[.func (.func 60) #[] #[], v] w fun e w' => e = .returned (.bool (xs.all vFlow)) ∧ Below w.heap.size w w' := by
  obtain ⟨a, cap, rfl, hm, hc⟩ := hs
  go_enter Try.func59, Try.ntmps59
  go_wp2
  go_loopw [9, 6] (fun i _ wr => ∃ k : Nat, k ≤ xs.length ∧ i = iv k ∧ (xs.take k).all vFlow = true ∧ Below w.heap.size w wr) (fun i _ _ => xs.length - (intOf i).toNat)
  case atStart => exact ⟨0, Nat.zero_le _, rfl, by simp, Below.refl _ _⟩
  case round =>
    obtain ⟨k, hk, rfl, hall, hbw⟩ := hrel
    have HA := Lib.hid hall; clear hall
    by_cases hlt : k < xs.length
    · obtain ⟨x, hx⟩ := getElem?_of_lt hlt
      obtain ⟨b, off, rfl, hj⟩ := hc k x hx
      have hcell : ∀ j u, (encS x)[j]? = some u → wr.cell? ⟨b, off + k * 2 + j, none⟩ = some u := fun j u hu => (hbw.cell (p := ⟨b, _, none⟩) (lt_of_cell (hj j u hu))).trans (hj j u hu)
      have HX := Lib.hid hx; clear hx hj hc
      have c0 := hcell 0 _ rfl
      have c1 := hcell 1 _ rfl
      simp only [Nat.add_zero] at c0
      clear hcell
      cases hp : vFlow x
      · have HP := Lib.hid hp; clear hp
        go_wp2_with fail
        refine (validFlow_any x _).mono ?_
        rintro e w1 ⟨he, hb⟩
        rw [HP.out] at he; subst he
        go_wp2_with fail
        go_ret
        exact ⟨by rw [all_false_of _ HX.out HP.out]; rfl, bstep (bpush hbw _) hb⟩
      · have HP := Lib.hid hp; clear hp
        go_wp2_with fail
        refine (validFlow_any x _).mono ?_
        rintro e w1 ⟨he, hb⟩
        rw [HP.out] at he; subst he
        go_wp2_with fail
        go_roundw
        case rel => exact ⟨k + 1, by omega, by go_num, all_take_succ _ HX.out HA.out HP.out, bstep (bpush hbw _) hb⟩
        case measure => simp [intOf]; omega
    · obtain rfl : k = xs.length := by omega
      have HT : Hid (xs.all vFlow = true) := by have := HA.out; rwa [List.take_of_length_le (Nat.le_refl _)] at this
      clear hc
      go_wp2
      go_ret
      exact ⟨by rw [HT.out]; rfl, hbw⟩

def sChk (m : Ml) (F : List Sp) : Int :=
  if vMill m = true then (if 24 < F.length then 5 else if F.length = 0 then 7 else if F.all vFlow = true then 0 else 3) else 2
theorem sChk_zero {m : Ml} {F : List Sp} (h : sChk m F = 0) : vMill m = true ∧ F.length ≤ 24 ∧ 0 < F.length ∧ F.all vFlow = true := by
  unfold sChk at h
  split at h
  · split at h
    · omega
    · split at h
      · omega
      · split at h
        · exact ⟨by assumption, by omega, by omega, by assumption⟩
        · omega
  · omega

set_option maxRecDepth 20000 in
set_option maxHeartbeats 3200000 in
theorem sCheck_any (m : Ml) (F : List Sp) (fv : Value) (w : World) (hf : SliceOf encS 2 w fv F) :
    Calls Try.prog 40 #[.agg (encMl m).toArray, fv] w fun e w' => e = .returned (iv (sChk m F)) ∧ Below w.heap.size w w' := by
  have hf' := Lib.hid hf
  obtain ⟨fa, fc, rfl, hl, -⟩ := hf
  have hV := validMill_any m
  have HV := Lib.hid hV; clear hV
  cases hm : vMill m
  · have hr : Hid (sChk m F = 2) := by simp [Hid, sChk, hm]
    have HM := Lib.hid hm; clear hm
    simp only [encMl] at *
    go_enter Try.func40, Try.ntmps40
    go_wp2_with fail
    refine (HV.out _).mono ?_
    rintro e w1 ⟨he, hb⟩; rw [HM.out] at he; subst he
    go_wp2_with fail
    go_ret
    exact ⟨by rw [hr.out]; rfl, (by repeat (first | exact Below.refl _ _ | refine Below.drew ?_ | refine bpush ?_ _ | refine bput ?_ (by simp) _ | (refine bstep ?_ (by assumption))))⟩
  · have HM := Lib.hid hm
    by_cases h5 : 24 < F.length
    · have hr : Hid (sChk m F = 5) := by simp [Hid, sChk, hm, h5]
      clear hm
      simp only [encMl] at *
      go_enter Try.func40, Try.ntmps40
      go_wp2_with fail
      refine (HV.out _).mono ?_
      rintro e w1 ⟨he, hb⟩; rw [HM.out] at he; subst he
      go_wp2_with fail
      go_ret
      exact ⟨by rw [hr.out]; rfl, (by repeat (first | exact Below.refl _ _ | refine Below.drew ?_ | refine bpush ?_ _ | refine bput ?_ (by simp) _ | (refine bstep ?_ (by assumption))))⟩
    · by_cases h7 : F.length = 0
      · have hr : Hid (sChk m F = 7) := by simp [Hid, sChk, hm, h7]
        have e7 : ((F.length : Int) == 0) = true := by simp [h7]
        have H7 := Lib.hid h7
        clear hm h7
        simp only [encMl] at *
        go_enter Try.func40, Try.ntmps40
        go_wp2_with fail
        refine (HV.out _).mono ?_
        rintro e w1 ⟨he, hb⟩; rw [HM.out] at he; subst he
        go_wp2_with fail
        go_ret
        exact ⟨by rw [hr.out]; rfl, (by repeat (first | exact Below.refl _ _ | refine Below.drew ?_ | refine bpush ?_ _ | refine bput ?_ (by simp) _ | (refine bstep ?_ (by assumption))))⟩
      · have e7 : ((F.length : Int) == 0) = false := by simpa using h7
        cases hF : F.all vFlow
        · have hr : Hid (sChk m F = 3) := by simp [Hid, sChk, hm, h5, h7, hF]
          have HF := Lib.hid hF
          have H7 := Lib.hid h7
          clear hm h7 hF
          simp only [encMl] at *
          go_enter Try.func40, Try.ntmps40
          go_wp2_with fail
          refine (HV.out _).mono ?_
          rintro e w1 ⟨he, hb⟩; rw [HM.out] at he; subst he
          go_wp2_with fail
          refine (allF_any F _ _ (hf'.out.below (by repeat (first | exact Below.refl _ _ | refine Below.drew ?_ | refine bpush ?_ _ | refine bput ?_ (by simp) _ | (refine bstep ?_ (by assumption)))))).mono ?_
          rintro e w2 ⟨he, hb2⟩; rw [HF.out] at he; subst he
          go_wp2_with fail
          go_ret
          exact ⟨by rw [hr.out]; rfl, (by repeat (first | exact Below.refl _ _ | refine Below.drew ?_ | refine bpush ?_ _ | refine bput ?_ (by simp) _ | (refine bstep ?_ (by assumption))))⟩
        · have hr : Hid (sChk m F = 0) := by simp [Hid, sChk, hm, h5, h7, hF]
          have HF := Lib.hid hF
          have H7 := Lib.hid h7
          clear hm h7 hF
          simp only [encMl] at *
          go_enter Try.func40, Try.ntmps40
          go_wp2_with fail
          refine (HV.out _).mono ?_
          rintro e w1 ⟨he, hb⟩; rw [HM.out] at he; subst he
          go_wp2_with fail
          refine (allF_any F _ _ (hf'.out.below (by repeat (first | exact Below.refl _ _ | refine Below.drew ?_ | refine bpush ?_ _ | refine bput ?_ (by simp) _ | (refine bstep ?_ (by assumption)))))).mono ?_
          rintro e w2 ⟨he, hb2⟩; rw [HF.out] at he; subst he
          go_wp2_with fail
          go_ret
          exact ⟨by rw [hr.out]; rfl, (by repeat (first | exact Below.refl _ _ | refine Below.drew ?_ | refine bpush ?_ _ | refine bput ?_ (by simp) _ | (refine bstep ?_ (by assumption))))⟩

/-- The valley of a mill and a stream. -/
def vcells (m : Ml) (fv : Value) : Array Value := #[iv m.k, iv m.t, iv m.bl, iv m.bh, iv m.h, iv m.nl, iv m.nh, fv]
def zv : Array Value := #[iv 0, iv 0, iv 0, iv 0, iv 0, iv 0, iv 0, .slice none 0 0]
def openV (m : Ml) (F : List Sp) (fv : Value) : Array Value := if sChk m F = 0 then vcells m fv else zv

theorem zinfoVl : (Try.prog.info? 79).map (·.zero) = some (some (.agg zv)) := by kernel_rfl
theorem sinfoVl (m : Ml) (fv : Value) : (Try.prog.info? 79).map (·.size) = some (vcells m fv).size := by kernel_rfl
theorem sinfoZv : (Try.prog.info? 79).map (·.size) = some zv.size := by kernel_rfl
theorem vcells_one (m : Ml) (a : Option Addr) (n c : Nat) : (vcells m (.slice a n c)).all (·.oneCell') = true := by simp [vcells, Value.oneCell']
theorem zv_one : zv.all (·.oneCell') = true := by simp [zv, Value.oneCell']
theorem builtVl (m : Ml) (a : Option Addr) (n c : Nat) : Try.prog.built 79 [(0, .agg (encMl m).toArray), (1, .slice a n c)] = some (vcells m (.slice a n c)) := by kernel_rfl

set_option maxRecDepth 20000 in
set_option maxHeartbeats 3200000 in
theorem sOpen_any (m : Ml) (F : List Sp) (fv : Value) (w : World) (hf : SliceOf encS 2 w fv F) :
    Calls Try.prog 22 #[.agg (encMl m).toArray, fv] w fun e w' => e = .returned (.tuple #[.agg (openV m F fv), iv (sChk m F)]) ∧ Below w.heap.size w w' := by
  have hf' := Lib.hid hf
  obtain ⟨fa, fc, rfl, hl, -⟩ := hf
  have hV := fun w (h : SliceOf encS 2 w (.slice fa F.length fc) F) => sCheck_any m F _ w h
  have HV := Lib.hid hV; clear hV
  have HSI := Lib.hid (sinfoVl m (.slice fa F.length fc))
  have HON := Lib.hid (vcells_one m fa F.length fc)
  by_cases hc : sChk m F = 0
  · have HC := Lib.hid hc
    have HO : Hid (openV m F (.slice fa F.length fc) = vcells m (.slice fa F.length fc)) := by simp [Hid, openV, hc]
    clear hc
    obtain ⟨k, t, bl, bh, h, nl, nh⟩ := m
    simp only [encMl, vcells] at *
    go_enter Try.func22, Try.ntmps22
    go_wp2_with fail
    refine (HV.out _ (hf'.out.below (by repeat (first | exact Below.refl _ _ | refine Below.drew ?_ | refine bpush ?_ _ | refine bput ?_ (by simp) _ | (refine bstep ?_ (by assumption)))))).mono ?_
    rintro e w1 ⟨rfl, hb⟩
    rw [HC.out]
    have hr1 := Lib.hid ((hb.block (w.heap.size + 1) (by simp)).trans (by have := heap_new (w.alloc (.cells #[iv k, iv t, iv bl, iv bh, iv h, iv nl, iv nh] 30)) zv 79; simp only [World.size_alloc] at this; exact this))
    have HB := Lib.hid (show Below w.heap.size w w1 from bstep (by repeat (first | exact Below.refl _ _ | refine Below.drew ?_ | refine bpush ?_ _ | refine bput ?_ (by simp) _ | (refine bstep ?_ (by assumption)))) hb)
    obtain ⟨hbc, hbf⟩ := bcell hb
    have hbz := hb.size
    simp [Nat.add_one_le_iff] at hbz
    clear hb
    go_wp2_with (with_reducible change wpList _ _ _ (Oper.mk _ (Op.store 79 _ _) _ _ _ _ :: _) _ _; refine L_skip rfl (run_store_row 79 _ _ rfl _ rfl #[iv k, iv t, iv bl, iv bh, iv h, iv nl, iv nh, .slice fa F.length fc] rfl 79 zv hr1.out HSI.out rfl HON.out) ?_)
    exact bodyPost_ret (results_row_tmp (fn := Try.f22) Try.results22 _ rfl (heap_setRow_same hr1.out) Try.underlying79 rfl HSI.out) rfl ⟨by rw [HO.out, HC.out]; rfl, bsetRow HB.out (by omega) _⟩
  · have hc1 : (sChk m F != 0) = true := by simpa using hc
    have HO : Hid (openV m F (.slice fa F.length fc) = zv) := by simp [Hid, openV, hc]
    clear hc
    generalize sChk m F = ck at *
    obtain ⟨k, t, bl, bh, h, nl, nh⟩ := m
    simp only [encMl] at *
    go_enter Try.func22, Try.ntmps22
    go_wp2_with fail
    refine (HV.out _ (hf'.out.below (by repeat (first | exact Below.refl _ _ | refine Below.drew ?_ | refine bpush ?_ _ | refine bput ?_ (by simp) _ | (refine bstep ?_ (by assumption)))))).mono ?_
    rintro e w1 ⟨rfl, hb⟩
    have hr1 := Lib.hid ((hb.block (w.heap.size + 1) (by simp)).trans (by have := heap_new (w.alloc (.cells #[iv k, iv t, iv bl, iv bh, iv h, iv nl, iv nh] 30)) zv 79; simp only [World.size_alloc] at this; exact this))
    have HB := Lib.hid (show Below w.heap.size w w1 from bstep (by repeat (first | exact Below.refl _ _ | refine Below.drew ?_ | refine bpush ?_ _ | refine bput ?_ (by simp) _ | (refine bstep ?_ (by assumption)))) hb)
    obtain ⟨hbc, hbf⟩ := bcell hb
    have hbz := hb.size
    simp [Nat.add_one_le_iff] at hbz
    clear hb
    go_wp2_with (with_reducible change wpList _ _ _ (Oper.mk _ (Op.store 79 _ _) _ _ _ _ :: _) _ _; refine L_skip rfl (run_store_row 79 _ _ rfl _ rfl zv rfl 79 zv hr1.out sinfoZv rfl zv_one) ?_)
    exact bodyPost_ret (results_row_tmp (fn := Try.f22) Try.results22 _ rfl (heap_setRow_same hr1.out) Try.underlying79 rfl sinfoZv) rfl ⟨by rw [HO.out]; rfl, bsetRow HB.out (by omega) _⟩
end Go.Proofs.Ytghnkhpjblnabaa

/- How a pond fills, and what hammers leave. -/
namespace Go.Proofs.Ytghnkhpjblnabaa
open Go Go.RowKit
attribute [local go_sem ↓] Go.wp_at_zero Go.wp_at_succ

def fillL (H l f : Int) : Int := if H < l + f then H else l + f
def leftL (T H l f k : Int) : Int := fillL H l f - k * T

theorem kcell {W W1 : World} {b o : Nat} {v : Value} (hb : Below W.heap.size W W1) (h : W.cell? ⟨b, o, none⟩ = some v) : W1.cell? ⟨b, o, none⟩ = some v := (hb.cell (p := ⟨b, o, none⟩) (lt_of_cell h)).trans h

set_option maxRecDepth 20000 in
set_option maxHeartbeats 1600000 in
theorem fill_any (m : Ml) (fv : Value) (l f : Int) (w : World) (h1 : -1000000 ≤ l) (h2 : l ≤ 1000000) (h3 : -1000000 ≤ f) (h4 : f ≤ 1000000) :
    Calls Try.prog 42 #[.agg (vcells m fv), iv l, iv f] w fun e w' => e = .returned (iv (fillL m.h l f)) ∧ Below w.heap.size w w' := by
  obtain ⟨k, t, bl, bh, h, nl, nh⟩ := m
  simp only [vcells]
  by_cases hh : h < l + f
  · have HR : Hid (fillL h l f = h) := by simp [Hid, fillL, hh]
    go_enter Try.func42, Try.ntmps42
    go_wp2_with fail
    go_ret
    exact ⟨by rw [HR.out]; rfl, (by repeat (first | exact Below.refl _ _ | refine Below.drew ?_ | refine bpush ?_ _ | refine bput ?_ (by simp) _ | (refine bstep ?_ (by assumption))))⟩
  · have HR : Hid (fillL h l f = l + f) := by simp [Hid, fillL, hh]
    go_enter Try.func42, Try.ntmps42
    go_wp2_with fail
    go_ret
    exact ⟨by rw [HR.out]; rfl, (by repeat (first | exact Below.refl _ _ | refine Below.drew ?_ | refine bpush ?_ _ | refine bput ?_ (by simp) _ | (refine bstep ?_ (by assumption))))⟩

set_option maxRecDepth 20000 in
set_option maxHeartbeats 3200000 in
theorem work_any (m : Ml) (fv : Value) (l f k : Int) (w : World) (h1 : -1000000 ≤ l) (h2 : l ≤ 1000000) (h3 : -1000000 ≤ f) (h4 : f ≤ 1000000) (h5 : 0 ≤ k) (h6 : k ≤ 1000) (ht : 0 ≤ m.t) (ht' : m.t ≤ 1000) (hh : 0 ≤ m.h) (hh' : m.h ≤ 1000) :
    Calls Try.prog 61 #[.agg (vcells m fv), iv l, iv f, iv k] w fun e w' => e = .returned (.tuple #[iv (leftL m.t m.h l f k), .bool (decide (0 ≤ leftL m.t m.h l f k))]) ∧ Below w.heap.size w w' := by
  obtain ⟨kk, t, bl, bh, h, nl, nh⟩ := m
  dsimp only at *
  have hF := fill_any ⟨kk, t, bl, bh, h, nl, nh⟩ fv l f
  have HF := Lib.hid hF; clear hF
  have b1 : -2000000 ≤ fillL h l f := by unfold fillL; split <;> omega
  have b2 : fillL h l f ≤ 2000000 := by unfold fillL; split <;> omega
  have b3 : 0 ≤ k * t := Int.mul_nonneg h5 ht
  have b4 : k * t ≤ 1000000 := by
    have : k * t ≤ 1000 * 1000 := Int.mul_le_mul h6 ht' ht (by omega)
    omega
  have HL : Hid (leftL t h l f k = fillL h l f - k * t) := rfl
  simp only [vcells] at *
  generalize fillL h l f = fl at *
  generalize leftL t h l f k = ll at *
  have e1 : IntKind.i64.wrap (k * t) = k * t := IntWalk.i64_in _ ⟨by omega, by omega⟩
  have e2 : IntKind.i64.wrap (fl - k * t) = ll := by rw [HL.out]; exact IntWalk.i64_in _ ⟨by omega, by omega⟩
  go_enter Try.func61, Try.ntmps61
  go_wp2_with fail
  go_region_held3 (fun w' => w'.cell? ⟨w.heap.size, 0, none⟩ = some (iv kk) ∧ w'.cell? ⟨w.heap.size, 1, none⟩ = some (iv t) ∧ w'.cell? ⟨w.heap.size, 2, none⟩ = some (iv bl) ∧ w'.cell? ⟨w.heap.size, 3, none⟩ = some (iv bh) ∧ w'.cell? ⟨w.heap.size, 4, none⟩ = some (iv h) ∧ w'.cell? ⟨w.heap.size, 5, none⟩ = some (iv nl) ∧ w'.cell? ⟨w.heap.size, 6, none⟩ = some (iv nh) ∧ w'.cell? ⟨w.heap.size, 7, none⟩ = some fv) (first | (go_split_ands; refine ⟨?_, ?_, ?_, ?_, ?_, ?_, ?_, ?_⟩ <;> exact kcell hb (by assumption)) | go_keep)
    (first | (go_at_call 42; refine (HF.out _ h1 h2 h3 h4).mono ?_; rintro e w1 ⟨rfl, hb⟩))
  rename_i hHeld
  have HB := Lib.hid (show Below w.heap.size w w1 from bstep (by repeat (first | exact Below.refl _ _ | refine Below.drew ?_ | refine bpush ?_ _ | refine bput ?_ (by simp) _ | (refine bstep ?_ (by assumption)))) hb)
  clear hHeld hb e1 e2
  go_wp2_with fail
  go_ret2
  exact ⟨rfl, HB.out⟩

end Go.Proofs.Ytghnkhpjblnabaa

/- The iterator over the levels of a pond. -/
namespace Go.Proofs.Ytghnkhpjblnabaa
open Go Go.RowKit Go.Shelf
attribute [local go_sem] Oper.semAt_some
attribute [local go_sem ↓] Go.wp_at_zero Go.wp_at_succ

/-- How high a pond stands after each hour that has enough water: of each hour what comes, and the hammers. -/
def lvs (T H : Int) : Int → List (Int × Int) → List Int
  | _, [] => []
  | l, (f, k) :: r => if 0 ≤ leftL T H l f k then leftL T H l f k :: lvs T H (leftL T H l f k) r else []
def hrs (sel : Sp → Int) (F : List Sp) (plan : List Int) : List (Int × Int) := (F.map sel).zip plan
theorem hrs_drop {sel : Sp → Int} {F : List Sp} {plan : List Int} {k : Nat} {p : Sp} {x : Int} (hp : F[k]? = some p) (hx : plan[k]? = some x) : (hrs sel F plan).drop k = (sel p, x) :: (hrs sel F plan).drop (k + 1) := by
  have h : (hrs sel F plan)[k]? = some (sel p, x) := by simp [hrs, List.getElem?_zip_eq_some, hp, hx]
  obtain ⟨hk, he⟩ := List.getElem?_eq_some_iff.1 h
  rw [← he]; exact List.drop_eq_getElem_cons hk
theorem hrs_end {sel : Sp → Int} {F : List Sp} {plan : List Int} {k : Nat} (h : plan.length ≤ k) : (hrs sel F plan).drop k = [] := by
  apply List.drop_eq_nil_of_le; simp [hrs]; omega
/-- A row of cells, cell by cell. -/
theorem row8 {W : World} {b : Nat} {a0 a1 a2 a3 a4 a5 a6 a7 : Value} {t : TypeId} (h : W.heap[b]? = some (.cells #[a0, a1, a2, a3, a4, a5, a6, a7] t (0, 0))) :
    W.cell? ⟨b, 0, none⟩ = some a0 ∧ W.cell? ⟨b, 1, none⟩ = some a1 ∧ W.cell? ⟨b, 2, none⟩ = some a2 ∧ W.cell? ⟨b, 3, none⟩ = some a3 ∧ W.cell? ⟨b, 4, none⟩ = some a4 ∧ W.cell? ⟨b, 5, none⟩ = some a5 ∧ W.cell? ⟨b, 6, none⟩ = some a6 ∧ W.cell? ⟨b, 7, none⟩ = some a7 := by
  refine ⟨?_, ?_, ?_, ?_, ?_, ?_, ?_, ?_⟩ <;> (rw [cell_of_row _ _ _ _ _ _ h]; rfl)
theorem vMill_iff {m : Ml} : vMill m = true ↔ (1 ≤ m.k ∧ m.k ≤ 8) ∧ (0 ≤ m.t ∧ m.t ≤ 100) ∧ okSpan m.bl m.bh 0 5000 = true ∧ (0 ≤ m.h ∧ m.h ≤ 500) ∧ (0 ≤ m.nl ∧ m.nl ≤ m.h ∧ 0 ≤ m.nh ∧ m.nh ≤ m.h ∧ m.nl ≤ m.nh) := by
  simp only [vMill, Bool.and_eq_true, inB_iff, okSpan_iff]

end Go.Proofs.Ytghnkhpjblnabaa

/- stretch.add of package cloth. -/
namespace Go.Proofs.Ytghnkhpjblnabaa
open Go Go.RowKit Go.Shelf

/-- A stretch: its ends, and how many numbers it has. -/
structure Str where
  (l h : Int) (n : Nat)
def Str.cells (s : Str) : Array Value := #[iv s.l, iv s.h, iv s.n]
def Str.add (s : Str) (x : Int) : Str := if s.n = 0 then ⟨x, x, 1⟩ else ⟨if x < s.l then x else s.l, if s.h < x then x else s.h, s.n + 1⟩

/-- Block b alone has become o. -/
structure PutB (b : Nat) (o : Obj) (w w' : World) : Prop where
  os : w'.os = w.os
  tape : w'.tape = w.tape
  output : w'.output = w.output
  size : w'.heap.size = w.heap.size
  this : w'.heap[b]? = some o
  other : ∀ k, k ≠ b → w'.heap[k]? = w.heap[k]?
theorem PutB.below {b : Nat} {o : Obj} {w w1 w2 : World} (h : PutB b o w1 w2) (hb : Below w.heap.size w w1) (hB : w.heap.size ≤ b) : Below w.heap.size w w2 :=
  hb.trans ⟨h.os, h.tape, h.output, by rw [h.size]; exact Nat.le_refl _, fun k hk => h.other k (by omega)⟩

theorem PutB.set {b : Nat} {cs : Array Value} {t : TypeId} {w w' : World} (h : PutB b (.cells cs t (0, 0)) w w') (o : Nat) (v : Value) : PutB b (.cells (cs.setIfInBounds o v) t (0, 0)) w (w'.setCell ⟨b, o, none⟩ v) :=
  ⟨h.os, h.tape, h.output, by simp [h.size], heap_setCell_same _ _ _ _ _ _ h.this, fun k hk => (heap_setCell_other _ _ _ _ hk).trans (h.other k hk)⟩
theorem PutB.refl {b : Nat} {o : Obj} {w : World} (h : w.heap[b]? = some o) : PutB b o w w := ⟨rfl, rfl, rfl, rfl, h, fun _ _ => rfl⟩
theorem PutB.drew {b : Nat} {o : Obj} {w w' : World} (h : PutB b o w w') : PutB b o w w'.drew := ⟨h.os, h.tape, h.output, h.size, h.this, h.other⟩

set_option maxRecDepth 20000 in
set_option maxHeartbeats 3200000 in
theorem add_any (s : Str) (x : Int) (b : Nat) (w : World) (hb : w.heap[b]? = some (.cells s.cells 103 (0, 0))) (hn : s.n ≤ 1000000) :
    Calls Try.prog 55 #[.pointer (some ⟨b, 0, none⟩), iv x] w fun e w' => e = .returned (.tuple #[]) ∧ PutB b (.cells (s.add x).cells 103 (0, 0)) w w' := by
  obtain ⟨l, h, n⟩ := s
  have c0 : w.cell? ⟨b, 0, none⟩ = some (iv l) := by rw [cell_of_row _ _ _ _ _ _ hb]; rfl
  have c1 : w.cell? ⟨b, 1, none⟩ = some (iv h) := by rw [cell_of_row _ _ _ _ _ _ hb]; rfl
  have c2 : w.cell? ⟨b, 2, none⟩ = some (iv n) := by rw [cell_of_row _ _ _ _ _ _ hb]; rfl
  have f0 : w.frozen? ⟨b, 0, none⟩ = false := frozen_of_row _ _ _ _ _ hb
  have f1 : w.frozen? ⟨b, 1, none⟩ = false := frozen_of_row _ _ _ _ _ hb
  have f2 : w.frozen? ⟨b, 2, none⟩ = false := frozen_of_row _ _ _ _ _ hb
  have HB := Lib.hid (PutB.refl hb); clear hb
  dsimp only at hn
  by_cases h0 : n = 0
  · subst h0
    go_enter Try.func55, Try.ntmps55
    go_wp2_with fail
    have HP := Lib.hid ((HB.out.set 0 (iv x)).set 1 (iv x))
    generalize ((w.setCell ⟨b, 0, none⟩ (.int .i64 x)).setCell ⟨b, 1, none⟩ (.int .i64 x)) = W at *
    clear c0 c1 c2 f0 f1 f2
    have c0 : W.cell? ⟨b, 0, none⟩ = some (iv x) := by rw [cell_of_row _ _ _ _ _ _ HP.out.this]; rfl
    have c1 : W.cell? ⟨b, 1, none⟩ = some (iv x) := by rw [cell_of_row _ _ _ _ _ _ HP.out.this]; rfl
    have c2 : W.cell? ⟨b, 2, none⟩ = some (iv 0) := by rw [cell_of_row _ _ _ _ _ _ HP.out.this]; rfl
    have f0 : W.frozen? ⟨b, 0, none⟩ = false := frozen_of_row _ _ _ _ _ HP.out.this
    have f1 : W.frozen? ⟨b, 1, none⟩ = false := frozen_of_row _ _ _ _ _ HP.out.this
    have f2 : W.frozen? ⟨b, 2, none⟩ = false := frozen_of_row _ _ _ _ _ HP.out.this
    go_region
    go_wp2_with fail
    go_end0
    exact ⟨rfl, (((HP.out.set 0 (iv x)).set 1 (iv x)).set 2 (iv 1)).drew⟩
  · have e0 : ((n : Int) == 0) = false := by simp [h0]
    go_enter Try.func55, Try.ntmps55
    go_wp2_with fail
    go_region
    have HA : Hid (({ l := l, h := h, n := n } : Str).add x = ⟨if x < l then x else l, if h < x then x else h, n + 1⟩) := by simp [Hid, Str.add, h0]
    generalize (if x < l then x else l) = m1 at *
    generalize (if h < x then x else h) = m2 at *
    go_wp2_with fail
    go_end0
    refine ⟨rfl, ?_⟩
    rw [HA.out]
    exact (((HB.out.set 0 (iv m1)).set 1 (iv m2)).set 2 (iv ((n : Int) + 1))).drew
end Go.Proofs.Ytghnkhpjblnabaa

/- A range over a function whose body writes some boxes of its own. -/
namespace Go.Proofs.Ytghnkhpjblnabaa
open Go Go.RowKit Go.Shelf

/-- How a round may be left: only the blocks of X have been turned. -/
def boxEnd {α : Type} (X : Nat → Prop) (I : List α → World → Prop) (Ix : Code → World → Prop) (xs : List α) (W : World) : Exit → Act → World → Prop
  | .normal, _, W' => Turn X W W' ∧ I xs W'
  | .ret, _, W' => Turn X W W' ∧ Ix .ret W'
  | .exit id, _, W' => Turn X W W' ∧ Ix (.exit id) W'
  | .goto t, _, W' => Turn X W W' ∧ Ix (.goto t) W'
  | .panic _, _, _ => False
  | .outgrown, _, _ => False

theorem Turn.high {X T : Nat → Prop} {w W W' : World} (h : Turn X w W) (hT : ∀ k, T k → w.heap.size ≤ k) (h' : Turn T W W') : Turn X w W' :=
  ⟨h'.os.trans h.os, h'.tape.trans h.tape, h'.output.trans h.output, Nat.le_trans h.size h'.size, fun k hk hn => (h'.same k (Nat.lt_of_lt_of_le hk h.size) (fun ht => by have := hT k ht; omega)).trans (h.same k hk hn)⟩
theorem Turn.sub {X : Nat → Prop} {w W W' : World} (h : Turn X w W) (h' : Turn X W W') : Turn X w W' := h.trans h'
theorem Turn.sameOn {X S : Nat → Prop} {W W' : World} (h : Turn X W W') (hS : ∀ k, S k → k < W.heap.size ∧ ¬ X k) : SameOn S W W' := ⟨h.size, fun k hk => h.same k (hS k hk).1 (hS k hk).2⟩

theorem rangeB {P : Program} {α : Type} {n : Nat} {g : Operand} {ps : Array Tmp} {assign body : Code} {Q : Exit → Act → World → Prop} {a : Act} {w : World}
    {gf : Nat} {lb : Array Value} (hg : a.eval g = .func (.func gf) #[] lb) (eg : ∀ args w, (callFunc gf args).run P w = .ok (.enter gf args) w)
    {enc : α → Array Value} {S : Nat → Prop} {xs : List α} (hseq : SeqL P gf lb enc S xs w) (hps : ∀ x, (enc x).size = ps.size) (hS : ∀ k, S k → k < w.heap.size)
    (X : Nat → Prop) (hX : ∀ k, X k → k < w.heap.size) (hSX : ∀ k, S k → ¬ X k)
    (I : List α → World → Prop) (Ix : Code → World → Prop) (hI : ∀ s W W', I s W → (∀ k, X k → W'.heap[k]? = W.heap[k]?) → I s W') (hIx : ∀ c W W', Ix c W → (∀ k, X k → W'.heap[k]? = W.heap[k]?) → Ix c W') (h0 : I [] w)
    (hround : ∀ (l : Nat) (pre : List α) (x : α) (W : World), (pre ++ [x]) <+: xs → Turn X w W → I pre W →
      ∀ K : Act → World → Prop, (∀ a1 W1, Below W.heap.size W W1 → (∀ W2, Turn X w W2 → I pre W2 → W2.heap.size = W1.heap.size → (∀ (k : Nat) (o : Obj), W1.heap[k]? = some o → Obj.isCells o = true → W2.heap[k]? = some o) → body.wpIn (Fence.wide.inRound l) (n - 1 - 1) P (boxEnd X I Ix (pre ++ [x]) W2) a1 W2) → K a1 W1) →
      assign.wpIn (Fence.wide.inRound l) (n - 1 - 1) P (Exit.then K (fun _ _ _ => False)) { tmps := (ps.zip (enc x)).foldl (fun t (p, v) => t.setIfInBounds p v) a.tmps, defers := [] } W)
    (hdone : ∀ W, Turn X w W → I xs W → W.heap[w.heap.size]? = some (.deferred (some [])) → Q .normal { a with defers := { target := .collected w.heap.size, args := #[] } :: a.defers } W)
    (hstop : ∀ c W, Turn X w W → Ix c W → W.heap[w.heap.size]? = some (.deferred (some [])) → c.wpIn Fence.wide n P Q { a with defers := { target := .collected w.heap.size, args := #[] } :: a.defers } W) :
    (Code.rangeFunc g ps assign body).wpIn Fence.wide n P Q a w := by
  have hst : ∀ (K : World → Prop), (∀ W W', K W → (∀ k, X k → W'.heap[k]? = W.heap[k]?) → K W') → Stable w.heap.size (fun _ W => Turn X w W ∧ K W) := by
    intro K hK
    refine ⟨fun _ _ _ h _ => h, fun T W W' hT hB ⟨h1, h2⟩ ht => ⟨h1.high hT ht, hK W W' h2 (fun k hk => ht.same k (by have := hX k hk; omega) (fun h => by have := hT k h; have := hX k hk; omega))⟩⟩
  refine rangeL hg eg hseq hps hS (fun _ s W => Turn X w W ∧ I s W) (fun c _ W => Turn X w W ∧ Ix c W) (fun s => hst _ (hI s)) (fun c => hst _ (hIx c)) ⟨Turn.refl _ _, h0⟩ ?_ ?_ ?_
  · intro l T pre x W hTl hTs hsz hpre ⟨ht, hi⟩ K hK
    refine hround l pre x W hpre ht hi K (fun a1 W1 hb hbody => ?_)
    have hST : ∀ k, both S T k → k < W.heap.size := by
      rintro k (h | h)
      · have := hS k h; omega
      · exact hTs k h
    refine hK a1 W1 (SameOn.of_below hb hST) (fun W2 hbump => ?_)
    have ht1 : Turn X w W1 := ht.trans (Turn.of_below hb)
    have ht2 : Turn X w W2 := ht1.high hTl hbump.turn
    have hi1 : I pre W1 := hI _ _ _ hi (fun k hk => hb.block k (by have := hX k hk; omega))
    have hi2 : I pre W2 := hI _ _ _ hi1 (fun k hk => hbump.turn.same k (by have := hX k hk; have := hb.size; omega) (fun h => by have := hTl k h; have := hX k hk; omega))
    refine wpIn_mono (hbody W2 ht2 hi2 hbump.size hbump.cells) ?_
    have hso : ∀ W3, Turn X W2 W3 → SameOn (both S T) W2 W3 := fun W3 h3 => h3.sameOn (fun k hk => ⟨by have := hST k hk; have := hb.size; have := hbump.size; omega, by
      rcases hk with h | h
      · exact hSX k h
      · intro hx; have := hTl k h; have := hX k hx; omega⟩)
    rintro e a3 W3 hp
    cases e with
    | normal => exact ⟨hso _ hp.1, ht2.trans hp.1, hp.2⟩
    | ret => exact ⟨hso _ hp.1, ht2.trans hp.1, hp.2⟩
    | exit id => exact ⟨hso _ hp.1, ht2.trans hp.1, hp.2⟩
    | goto t => exact ⟨hso _ hp.1, ht2.trans hp.1, hp.2⟩
    | panic ch => exact hp.elim
    | outgrown => exact hp.elim
  · intro T W _ _ _ ⟨ht, hi⟩ hK
    exact hdone W ht hi hK
  · intro T c W _ _ _ ⟨ht, hi⟩ hK
    exact hstop c W ht hi hK

/-- The marks of loops that are over are taken up, one after another. -/
theorem leaves_marks {n : Nat} {P : Program} {fn : Func} {tmps : Array Value} {R : Ending → World → Prop} : ∀ (Ds : List Nat) (W : World), Ds.Nodup → (∀ D, D ∈ Ds → W.heap[D]? = some (.deferred (some []))) →
    (∀ W', Turn (fun k => k ∈ Ds) W W' → W'.heap.size = W.heap.size → LeavesInM Fence.wide n P fn tmps R [] .returning W') →
    LeavesInM Fence.wide n P fn tmps R (Ds.map fun D => { target := .collected D, args := #[] }) .returning W
  | [], W, _, _, h => h W (Turn.refl _ _) rfl
  | D :: Ds, W, hn, hd, h => by
    have hD := hd D (by simp)
    refine ⟨by simp, .inl ⟨D, _, rfl, run_takeDeferred hD, leaves_marks Ds _ (List.nodup_cons.1 hn).2 (fun D' hD' => ?_) (fun W' ht hs => h W' ?_ ?_)⟩⟩
    · have hne : D' ≠ D := fun e => (List.nodup_cons.1 hn).1 (e ▸ hD')
      exact (World.putObj_heap_other hne).trans (hd D' (by simp [hD']))
    · exact (Turn.putObj (T := fun k => k ∈ D :: Ds) _ (by simp)).trans (ht.mono (fun k hk => by simp [hk]))
    · rw [hs]; simp
end Go.Proofs.Ytghnkhpjblnabaa

/- quantities.spans of package cloth, with the two functions that it is handed. -/
namespace Go.Proofs.Ytghnkhpjblnabaa
open Go Go.RowKit Go.Shelf
def strOf (l : List Int) : Str := l.foldl Str.add ⟨0, 0, 0⟩
theorem strOf_snoc (l : List Int) (x : Int) : strOf (l ++ [x]) = (strOf l).add x := by simp [strOf]
theorem foldl_n (l : List Int) : ∀ s : Str, (l.foldl Str.add s).n = s.n + l.length := by
  induction l with
  | nil => intro s; rfl
  | cons x l ih =>
    intro s
    rw [List.foldl_cons, ih, List.length_cons, Str.add]
    split <;> simp_all <;> omega
theorem strOf_n (l : List Int) : (strOf l).n = l.length := by rw [strOf, foldl_n]; simp
/-- From the least to the greatest of some numbers. -/
def hull (l : List Int) : Sp := ((strOf l).l, (strOf l).h)
/-- For the first k quantities from the least to the greatest number of their truths. -/
def spansTo (f : Int × Int → Int) (ta tb tc : Tk) (M : List Ms) : Nat → List Sp
  | 0 => []
  | k + 1 => spansTo f ta tb tc M k ++ [hull ((trs (tk3 ta tb tc k) (k : Int) M).map f)]
theorem spansTo_len (f : Int × Int → Int) (ta tb tc : Tk) (M : List Ms) (k : Nat) : (spansTo f ta tb tc M k).length = k := by
  induction k with
  | zero => rfl
  | succ k ih => simp [spansTo, ih]
theorem info72 : (Try.prog.info? 28).map (fun i => (i.zero, i.size, i.bytes)) = some (some (.agg #[.int .i64 0, .int .i64 0]), 2, 16) := by kernel_rfl
theorem encS_len (p : Sp) : (encS p).length = 2 := rfl
theorem encS_one (p : Sp) : ∀ u ∈ encS p, u.oneCell' = true := by intro u hu; simp [encS] at hu; rcases hu with rfl | rfl <;> rfl
theorem encS_cell {w : World} {g : Nat} {p : Sp} (h : w.cell? ⟨g, 0, none⟩ = some (iv p.1)) (h' : w.cell? ⟨g, 1, none⟩ = some (iv p.2)) : ∀ j u, (encS p)[j]? = some u → w.cell? ⟨g, j, none⟩ = some u := by
  intro j u hu
  rcases j with _ | _ | j
  · simp [encS] at hu; subst hu; exact h
  · simp [encS] at hu; subst hu; exact h'
  · simp [encS] at hu
theorem crs_len (t : Tk) (ht : vTrack t = true) : (crs t).length ≤ 2000 := by
  simp only [vTrack, vRate, Bool.and_eq_true, vSpan_iff] at ht
  have h1 : (crs t).length = (t.fh + 1 - t.fl).toNat * (t.rh + 1 - t.rl).toNat := by
    simp only [crs, crsTo, rowOf, ups, List.length_flatMap, List.length_map, List.length_range, List.map_const', List.sum_replicate_nat]
  rw [h1]
  have h2 : (t.fh + 1 - t.fl).toNat ≤ 61 := by omega
  have h3 : (t.rh + 1 - t.rl).toNat ≤ 31 := by omega
  calc _ ≤ 61 * 31 := Nat.mul_le_mul h2 h3
    _ ≤ 2000 := by omega
theorem trs_len (t : Tk) (what : Int) (M : List Ms) (ht : vTrack t = true) : (trs t what M).length ≤ 2000 := Nat.le_trans (List.length_filter_le _ _) (crs_len t ht)
theorem PutB.turn {b : Nat} {o : Obj} {w w' : World} (h : PutB b o w w') : Turn (fun k => k = b) w w' := ⟨h.os, h.tape, h.output, by rw [h.size]; exact Nat.le_refl _, fun k _ hk => h.other k hk⟩
theorem marks_cons (D : Nat) (Ds : List Nat) : (({ target := .collected D, args := #[] } : Deferred) :: Ds.map fun D => { target := .collected D, args := #[] }) = (D :: Ds).map fun D => { target := .collected D, args := #[] } := rfl

end Go.Proofs.Ytghnkhpjblnabaa

/- How many numbers an iterator yields, and their sum; steady plans. -/
namespace Go.Proofs.Ytghnkhpjblnabaa
open Go Go.RowKit Go.Shelf
attribute [local go_sem] Oper.semAt_some

theorem SeqL.later {α : Type} {P : Program} {gf : Nat} {lb : Array Value} {enc : α → Array Value} {S : Nat → Prop} {xs : List α} {w w' : World} (h : SeqL P gf lb enc S xs w) (hs : SameOn S w w') : SeqL P gf lb enc S xs w' :=
  fun n l J Jx W hW => h n l J Jx W (hs.trans hW)
theorem heap_set1 {W : World} {b : Nat} {v u : Value} {t : TypeId} (h : W.heap[b]? = some (.cells #[v] t (0, 0))) : (W.setCell ⟨b, 0, none⟩ u).heap[b]? = some (.cells #[u] t (0, 0)) := by
  have := heap_setCell_same W b 0 #[v] t u h
  simpa using this
theorem turn_set {W : World} {b : Nat} (v : Value) : Turn (fun k => k = b) W (W.setCell ⟨b, 0, none⟩ v) :=
  ⟨rfl, rfl, rfl, by simp [World.setCell], fun k _ hk => Below.heap_setCell _ _ _ _ hk⟩

/-- A plan in which k hammers go from an hour on: the first j hours are filled in. -/
def stdTo (n : Nat) (k fr : Int) (j : Nat) : List Int := (List.range n).map fun i => if i < j ∧ fr ≤ (i : Int) then k else 0
def stdy (n : Nat) (k fr : Int) : List Int := stdTo n k fr n
theorem stdTo_len (n : Nat) (k fr : Int) (j : Nat) : (stdTo n k fr j).length = n := by simp [stdTo]
theorem stdTo_get (n : Nat) (k fr : Int) (j i : Nat) : (stdTo n k fr j)[i]? = if i < n then some (if i < j ∧ fr ≤ (i : Int) then k else 0) else none := by
  unfold stdTo
  rw [List.getElem?_map]
  by_cases h : i < n
  · rw [List.getElem?_range h, if_pos h]; rfl
  · rw [if_neg h, List.getElem?_eq_none (by simp; omega)]; rfl
theorem stdTo_zero (n : Nat) (k fr : Int) : (stdTo n k fr 0).map iv = List.replicate n (iv 0) := by
  apply List.ext_getElem?; intro i
  rw [List.getElem?_map, stdTo_get, List.getElem?_replicate]
  split <;> simp
theorem stdTo_yes {n : Nat} {k fr : Int} {j : Nat} (h : fr ≤ (j : Int)) : (stdTo n k fr (j + 1)).map iv = ((stdTo n k fr j).map iv).set j (iv k) := by
  apply List.ext_getElem?; intro i
  rw [List.getElem?_map, List.getElem?_set, List.getElem?_map, stdTo_get, stdTo_get, List.length_map, stdTo_len]
  by_cases e : j = i
  · subst e
    rw [if_pos rfl]
    by_cases hn : j < n
    · rw [if_pos hn, if_pos hn, if_pos ⟨by omega, h⟩]; rfl
    · rw [if_neg hn, if_neg hn]; rfl
  · rw [if_neg e]
    have hc : (i < j + 1 ∧ fr ≤ (i : Int)) ↔ (i < j ∧ fr ≤ (i : Int)) := ⟨fun h2 => ⟨by omega, h2.2⟩, fun h2 => ⟨by omega, h2.2⟩⟩
    simp only [hc]
theorem stdTo_no {n : Nat} {k fr : Int} {j : Nat} (h : ¬ fr ≤ (j : Int)) : stdTo n k fr (j + 1) = stdTo n k fr j := by
  apply List.ext_getElem?; intro i
  rw [stdTo_get, stdTo_get]
  have hc : (i < j + 1 ∧ fr ≤ (i : Int)) ↔ (i < j ∧ fr ≤ (i : Int)) := ⟨fun h2 => ⟨by
    by_cases e : i = j
    · subst e; exact absurd h2.2 h
    · omega, h2.2⟩, fun h2 => ⟨by omega, h2.2⟩⟩
  simp only [hc]
theorem flatI (l : List Int) : l.flatMap encI = l.map iv := by
  induction l with
  | nil => rfl
  | cons a l ih => rw [List.flatMap_cons, ih]; rfl

/-- A list of numbers is returned. -/
def IntsRes (n : Nat) (xs : List Int) (w : World) (e : Ending) (w' : World) : Prop := ∃ pa, e = .returned (.slice pa n n) ∧ Ints w' (.slice pa n n) xs ∧ Below w.heap.size w w'
end Go.Proofs.Ytghnkhpjblnabaa

/- Lasts of package stream. -/
namespace Go.Proofs.Ytghnkhpjblnabaa
open Go Go.RowKit Go.Shelf
attribute [local go_sem ↓] Go.wp_at_zero Go.wp_at_succ

theorem kfrozen {W W1 : World} {b o : Nat} {v : Value} (hb : Below W.heap.size W W1) (h : W.cell? ⟨b, o, none⟩ = some v) (hf : W.frozen? ⟨b, o, none⟩ = false) : W1.frozen? ⟨b, o, none⟩ = false := (hb.frozen (p := ⟨b, o, none⟩) (lt_of_cell h)).trans hf

/-- Levels of a plan, if one end of each span is true. -/
def lvOf (sel : Sp → Int) (m : Ml) (F : List Sp) (plan : List Int) : List Int := lvs m.t m.h (sel (m.nl, m.nh)) (hrs sel F plan)
theorem lvs_len (T H : Int) : ∀ (r : List (Int × Int)) (l : Int), (lvs T H l r).length ≤ r.length
  | [], _ => by simp [lvs]
  | (f, k) :: r, l => by
    rw [lvs]
    split
    · rw [List.length_cons, List.length_cons]; have := lvs_len T H r (leftL T H l f k); omega
    · simp
theorem lvOf_len (sel : Sp → Int) (m : Ml) (F : List Sp) (plan : List Int) : (lvOf sel m F plan).length ≤ plan.length := by
  refine Nat.le_trans (lvs_len _ _ _ _) ?_
  simp [hrs]; omega

def lastErr (m : Ml) (F : List Sp) (k fr : Int) : Int := if sChk m F ≠ 0 then sChk m F else if inB 1 m.k k = true ∧ inB 0 ((F.length : Int) - 1) fr = true then 0 else 3
def lastOf (sel : Sp → Int) (m : Ml) (F : List Sp) (k fr : Int) : Int := if lastErr m F k fr = 0 then ((lvOf sel m F (stdy F.length k fr)).length : Int) - fr else 0
theorem openV_bad {m : Ml} {F : List Sp} (fv : Value) (h : sChk m F ≠ 0) : openV m F fv = zv := by simp [openV, h]
theorem openV_good {m : Ml} {F : List Sp} (fv : Value) (h : sChk m F = 0) : openV m F fv = vcells m fv := by simp [openV, h]
theorem encMl_cells (m : Ml) : (encMl m).toArray = #[iv m.k, iv m.t, iv m.bl, iv m.bh, iv m.h, iv m.nl, iv m.nh] := rfl

end Go.Proofs.Ytghnkhpjblnabaa
