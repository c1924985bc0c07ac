/- The checks of package stream: mills, streams, plans. -/
import Derived.Test.YtfpbfhjfhfmanacOpo
namespace Go.Proofs.Ytfpbfhjfhfmanac
open Go Go.RowKit

/-- A mill. -/
structure Ml where
  (k t bl bh h nl nh : Int)
def encMl (m : Ml) : List Value := [iv m.k, iv m.t, iv m.bl, iv m.bh, iv m.h, iv m.nl, iv m.nh]
def vMill (m : Ml) : Bool := inB 1 8 m.k && (inB 0 100 m.t && (okSpan m.bl m.bh 0 5000 && (inB 0 500 m.h && okSpan m.nl m.nh 0 m.h)))

set_option maxRecDepth 20000 in
set_option maxHeartbeats 3200000 in
theorem validMill_any (m : Ml) (w : World) :
    Calls Try.prog 34 #[.agg (encMl m).toArray] w fun e w' => e = .returned (.bool (vMill m)) ∧ Below w.heap.size w w' := by
  obtain ⟨k, t, bl, bh, h, nl, nh⟩ := m
  simp only [encMl]
  cases h1 : inB 1 8 k
  · go_enter Try.func34, Try.ntmps34
    go_wp2_with fail
    refine (within1 1 8 k (by go_simp)).mono ?_
    rintro e w_ ⟨rfl, rfl⟩
    go_wp2_with fail
    go_ret
    exact ⟨by simp [vMill, h1], (by repeat (first | exact Below.refl _ _ | refine Below.drew ?_ | refine bpush ?_ _ | refine bput ?_ (by simp) _ | (refine bstep ?_ (by assumption))))⟩
  cases h2 : inB 0 100 t
  · go_enter Try.func34, Try.ntmps34
    go_wp2_with fail
    refine (within1 1 8 k (by go_simp)).mono ?_
    rintro e w_ ⟨rfl, rfl⟩
    go_wp2_with fail
    refine (within1 0 100 t (by go_simp)).mono ?_
    rintro e w_ ⟨rfl, rfl⟩
    go_wp2_with fail
    go_ret
    exact ⟨by simp [vMill, h1, h2], (by repeat (first | exact Below.refl _ _ | refine Below.drew ?_ | refine bpush ?_ _ | refine bput ?_ (by simp) _ | (refine bstep ?_ (by assumption))))⟩
  cases h3 : okSpan bl bh 0 5000
  · go_enter Try.func34, Try.ntmps34
    go_wp2_with fail
    refine (within1 1 8 k (by go_simp)).mono ?_
    rintro e w_ ⟨rfl, rfl⟩
    go_wp2_with fail
    refine (within1 0 100 t (by go_simp)).mono ?_
    rintro e w_ ⟨rfl, rfl⟩
    go_wp2_with fail
    refine (okSpan_any bl bh 0 5000 _).mono ?_
    rintro e w1 ⟨rfl, hb1⟩
    obtain ⟨hb1c, hb1f⟩ := bcell hb1
    have hb1z := hb1.size
    simp [Nat.add_one_le_iff] at hb1z
    go_wp2_with fail
    go_ret
    exact ⟨by simp [vMill, h1, h2, h3], (by repeat (first | exact Below.refl _ _ | refine Below.drew ?_ | refine bpush ?_ _ | refine bput ?_ (by simp) _ | (refine bstep ?_ (by assumption))))⟩
  cases h4 : inB 0 500 h
  · go_enter Try.func34, Try.ntmps34
    go_wp2_with fail
    refine (within1 1 8 k (by go_simp)).mono ?_
    rintro e w_ ⟨rfl, rfl⟩
    go_wp2_with fail
    refine (within1 0 100 t (by go_simp)).mono ?_
    rintro e w_ ⟨rfl, rfl⟩
    go_wp2_with fail
    refine (okSpan_any bl bh 0 5000 _).mono ?_
    rintro e w1 ⟨rfl, hb1⟩
    obtain ⟨hb1c, hb1f⟩ := bcell hb1
    have hb1z := hb1.size
    simp [Nat.add_one_le_iff] at hb1z
    go_wp2_with fail
    refine (within1 0 500 h (by go_simp)).mono ?_
    rintro e w_ ⟨rfl, rfl⟩
    go_wp2_with fail
    go_ret
    exact ⟨by simp [vMill, h1, h2, h3, h4], (by repeat (first | exact Below.refl _ _ | refine Below.drew ?_ | refine bpush ?_ _ | refine bput ?_ (by simp) _ | (refine bstep ?_ (by assumption))))⟩
  · go_enter Try.func34, Try.ntmps34
    go_wp2_with fail
    refine (within1 1 8 k (by go_simp)).mono ?_
    rintro e w_ ⟨rfl, rfl⟩
    go_wp2_with fail
    refine (within1 0 100 t (by go_simp)).mono ?_
    rintro e w_ ⟨rfl, rfl⟩
    go_wp2_with fail
    refine (okSpan_any bl bh 0 5000 _).mono ?_
    rintro e w1 ⟨rfl, hb1⟩
    obtain ⟨hb1c, hb1f⟩ := bcell hb1
    have hb1z := hb1.size
    simp [Nat.add_one_le_iff] at hb1z
    have hlt0 : w.heap.size < w1.heap.size := by omega
    go_wp2_with fail
    refine (within1 0 500 h (by go_simp)).mono ?_
    rintro e w_ ⟨rfl, rfl⟩
    go_wp2_with fail
    refine (okSpan_any nl nh 0 h _).mono ?_
    rintro e w2 ⟨rfl, hb2⟩
    obtain ⟨hb2c, hb2f⟩ := bcell hb2
    have hb2z := hb2.size
    simp [Nat.add_one_le_iff] at hb2z
    go_wp2_with fail
    go_ret
    exact ⟨by simp [vMill, h1, h2, h3, h4], (by repeat (first | exact Below.refl _ _ | refine Below.drew ?_ | refine bpush ?_ _ | refine bput ?_ (by simp) _ | (refine bstep ?_ (by assumption))))⟩

def vFlow (p : Sp) : Bool := okSpan p.1 p.2 0 500
set_option maxHeartbeats 800000 in
theorem validFlow_any (p : Sp) (w : World) :
    Calls Try.prog 36 #[.agg (encS p).toArray] w fun e w' => e = .returned (.bool (vFlow p)) ∧ Below w.heap.size w w' := by
  obtain ⟨l, h⟩ := p
  simp only [encS]
  go_enter Try.func36, Try.ntmps36
  go_wp2_with fail
  refine (okSpan_any l h 0 500 _).mono ?_
  rintro e w' ⟨rfl, hb⟩
  go_wp2_with fail
  go_ret
  exact ⟨rfl, (by repeat (first | exact Below.refl _ _ | refine Below.drew ?_ | refine bpush ?_ _ | refine bput ?_ (by simp) _ | (refine bstep ?_ (by assumption))))⟩

set_option maxHeartbeats 1600000 in
theorem allF_any (xs : List Sp) (v : Value) (w : World) (hs : SliceOf encS 2 w v xs) :
    Calls Try.prog 35 #[.func (.func 36) #[] #[], v] w fun e w' => e = .returned (.bool (xs.all vFlow)) ∧ Below w.heap.size w w' := by
  obtain ⟨a, cap, rfl, hm, hc⟩ := hs
  go_enter Try.func35, Try.ntmps35
  go_wp2
  go_loopw [9, 6] (fun i _ wr => ∃ k : Nat, k ≤ xs.length ∧ i = iv k ∧ (xs.take k).all vFlow = true ∧ Below w.heap.size w wr) (fun i _ _ => xs.length - (intOf i).toNat)
  case atStart => exact ⟨0, Nat.zero_le _, rfl, by simp, Below.refl _ _⟩
  case round =>
    obtain ⟨k, hk, rfl, hall, hbw⟩ := hrel
    have HA := Lib.hid hall; clear hall
    by_cases hlt : k < xs.length
    · obtain ⟨x, hx⟩ := getElem?_of_lt hlt
      obtain ⟨b, off, rfl, hj⟩ := hc k x hx
      have hcell : ∀ j u, (encS x)[j]? = some u → wr.cell? ⟨b, off + k * 2 + j, none⟩ = some u := fun j u hu => (hbw.cell (p := ⟨b, _, none⟩) (lt_of_cell (hj j u hu))).trans (hj j u hu)
      have HX := Lib.hid hx; clear hx hj hc
      have c0 := hcell 0 _ rfl
      have c1 := hcell 1 _ rfl
      simp only [Nat.add_zero] at c0
      clear hcell
      cases hp : vFlow x
      · have HP := Lib.hid hp; clear hp
        go_wp2_with fail
        refine (validFlow_any x _).mono ?_
        rintro e w1 ⟨he, hb⟩
        rw [HP.out] at he; subst he
        go_wp2_with fail
        go_ret
        exact ⟨by rw [all_false_of _ HX.out HP.out]; rfl, bstep (bpush hbw _) hb⟩
      · have HP := Lib.hid hp; clear hp
        go_wp2_with fail
        refine (validFlow_any x _).mono ?_
        rintro e w1 ⟨he, hb⟩
        rw [HP.out] at he; subst he
        go_wp2_with fail
        go_roundw
        case rel => exact ⟨k + 1, by omega, by go_num, all_take_succ _ HX.out HA.out HP.out, bstep (bpush hbw _) hb⟩
        case measure => simp [intOf]; omega
    · obtain rfl : k = xs.length := by omega
      have HT : Hid (xs.all vFlow = true) := by have := HA.out; rwa [List.take_of_length_le (Nat.le_refl _)] at this
      clear hc
      go_wp2
      go_ret
      exact ⟨by rw [HT.out]; rfl, hbw⟩

def sChk (m : Ml) (F : List Sp) : Int :=
  if vMill m = true then (if 24 < F.length then 5 else if F.length = 0 then 7 else if F.all vFlow = true then 0 else 3) else 2
theorem sChk_zero {m : Ml} {F : List Sp} (h : sChk m F = 0) : vMill m = true ∧ F.length ≤ 24 ∧ 0 < F.length ∧ F.all vFlow = true := by
  unfold sChk at h
  split at h
  · split at h
    · omega
    · split at h
      · omega
      · split at h
        · exact ⟨by assumption, by omega, by omega, by assumption⟩
        · omega
  · omega

set_option maxRecDepth 20000 in
set_option maxHeartbeats 3200000 in
theorem sCheck_any (m : Ml) (F : List Sp) (fv : Value) (w : World) (hf : SliceOf encS 2 w fv F) :
    Calls Try.prog 32 #[.agg (encMl m).toArray, fv] w fun e w' => e = .returned (iv (sChk m F)) ∧ Below w.heap.size w w' := by
  have hf' := Lib.hid hf
  obtain ⟨fa, fc, rfl, hl, -⟩ := hf
  have hV := validMill_any m
  have HV := Lib.hid hV; clear hV
  cases hm : vMill m
  · have hr : Hid (sChk m F = 2) := by simp [Hid, sChk, hm]
    have HM := Lib.hid hm; clear hm
    simp only [encMl] at *
    go_enter Try.func32, Try.ntmps32
    go_wp2_with fail
    refine (HV.out _).mono ?_
    rintro e w1 ⟨he, hb⟩; rw [HM.out] at he; subst he
    go_wp2_with fail
    go_ret
    exact ⟨by rw [hr.out]; rfl, (by repeat (first | exact Below.refl _ _ | refine Below.drew ?_ | refine bpush ?_ _ | refine bput ?_ (by simp) _ | (refine bstep ?_ (by assumption))))⟩
  · have HM := Lib.hid hm
    by_cases h5 : 24 < F.length
    · have hr : Hid (sChk m F = 5) := by simp [Hid, sChk, hm, h5]
      clear hm
      simp only [encMl] at *
      go_enter Try.func32, Try.ntmps32
      go_wp2_with fail
      refine (HV.out _).mono ?_
      rintro e w1 ⟨he, hb⟩; rw [HM.out] at he; subst he
      go_wp2_with fail
      go_ret
      exact ⟨by rw [hr.out]; rfl, (by repeat (first | exact Below.refl _ _ | refine Below.drew ?_ | refine bpush ?_ _ | refine bput ?_ (by simp) _ | (refine bstep ?_ (by assumption))))⟩
    · by_cases h7 : F.length = 0
      · have hr : Hid (sChk m F = 7) := by simp [Hid, sChk, hm, h7]
        have e7 : ((F.length : Int) == 0) = true := by simp [h7]
        have H7 := Lib.hid h7
        clear hm h7
        simp only [encMl] at *
        go_enter Try.func32, Try.ntmps32
        go_wp2_with fail
        refine (HV.out _).mono ?_
        rintro e w1 ⟨he, hb⟩; rw [HM.out] at he; subst he
        go_wp2_with fail
        go_ret
        exact ⟨by rw [hr.out]; rfl, (by repeat (first | exact Below.refl _ _ | refine Below.drew ?_ | refine bpush ?_ _ | refine bput ?_ (by simp) _ | (refine bstep ?_ (by assumption))))⟩
      · have e7 : ((F.length : Int) == 0) = false := by simpa using h7
        cases hF : F.all vFlow
        · have hr : Hid (sChk m F = 3) := by simp [Hid, sChk, hm, h5, h7, hF]
          have HF := Lib.hid hF
          have H7 := Lib.hid h7
          clear hm h7 hF
          simp only [encMl] at *
          go_enter Try.func32, Try.ntmps32
          go_wp2_with fail
          refine (HV.out _).mono ?_
          rintro e w1 ⟨he, hb⟩; rw [HM.out] at he; subst he
          go_wp2_with fail
          refine (allF_any F _ _ (hf'.out.below (by repeat (first | exact Below.refl _ _ | refine Below.drew ?_ | refine bpush ?_ _ | refine bput ?_ (by simp) _ | (refine bstep ?_ (by assumption)))))).mono ?_
          rintro e w2 ⟨he, hb2⟩; rw [HF.out] at he; subst he
          go_wp2_with fail
          go_ret
          exact ⟨by rw [hr.out]; rfl, (by repeat (first | exact Below.refl _ _ | refine Below.drew ?_ | refine bpush ?_ _ | refine bput ?_ (by simp) _ | (refine bstep ?_ (by assumption))))⟩
        · have hr : Hid (sChk m F = 0) := by simp [Hid, sChk, hm, h5, h7, hF]
          have HF := Lib.hid hF
          have H7 := Lib.hid h7
          clear hm h7 hF
          simp only [encMl] at *
          go_enter Try.func32, Try.ntmps32
          go_wp2_with fail
          refine (HV.out _).mono ?_
          rintro e w1 ⟨he, hb⟩; rw [HM.out] at he; subst he
          go_wp2_with fail
          refine (allF_any F _ _ (hf'.out.below (by repeat (first | exact Below.refl _ _ | refine Below.drew ?_ | refine bpush ?_ _ | refine bput ?_ (by simp) _ | (refine bstep ?_ (by assumption)))))).mono ?_
          rintro e w2 ⟨he, hb2⟩; rw [HF.out] at he; subst he
          go_wp2_with fail
          go_ret
          exact ⟨by rw [hr.out]; rfl, (by repeat (first | exact Below.refl _ _ | refine Below.drew ?_ | refine bpush ?_ _ | refine bput ?_ (by simp) _ | (refine bstep ?_ (by assumption))))⟩

/-- The valley of a mill and a stream. -/
def vcells (m : Ml) (fv : Value) : Array Value := #[iv m.k, iv m.t, iv m.bl, iv m.bh, iv m.h, iv m.nl, iv m.nh, fv]
def zv : Array Value := #[iv 0, iv 0, iv 0, iv 0, iv 0, iv 0, iv 0, .slice none 0 0]
def openV (m : Ml) (F : List Sp) (fv : Value) : Array Value := if sChk m F = 0 then vcells m fv else zv

theorem zinfoVl : (Try.prog.info? 41).map (·.zero) = some (some (.agg zv)) := by kernel_rfl
theorem sinfoVl (m : Ml) (fv : Value) : (Try.prog.info? 41).map (·.size) = some (vcells m fv).size := by kernel_rfl
theorem sinfoZv : (Try.prog.info? 41).map (·.size) = some zv.size := by kernel_rfl
theorem vcells_one (m : Ml) (a : Option Addr) (n c : Nat) : (vcells m (.slice a n c)).all (·.oneCell') = true := by simp [vcells, Value.oneCell']
theorem zv_one : zv.all (·.oneCell') = true := by simp [zv, Value.oneCell']
theorem builtVl (m : Ml) (a : Option Addr) (n c : Nat) : Try.prog.built 41 [(0, .agg (encMl m).toArray), (1, .slice a n c)] = some (vcells m (.slice a n c)) := by kernel_rfl

set_option maxRecDepth 20000 in
set_option maxHeartbeats 3200000 in
theorem sOpen_any (m : Ml) (F : List Sp) (fv : Value) (w : World) (hf : SliceOf encS 2 w fv F) :
    Calls Try.prog 27 #[.agg (encMl m).toArray, fv] w fun e w' => e = .returned (.tuple #[.agg (openV m F fv), iv (sChk m F)]) ∧ Below w.heap.size w w' := by
  have hf' := Lib.hid hf
  obtain ⟨fa, fc, rfl, hl, -⟩ := hf
  have hV := fun w (h : SliceOf encS 2 w (.slice fa F.length fc) F) => sCheck_any m F _ w h
  have HV := Lib.hid hV; clear hV
  have HSI := Lib.hid (sinfoVl m (.slice fa F.length fc))
  have HON := Lib.hid (vcells_one m fa F.length fc)
  by_cases hc : sChk m F = 0
  · have HC := Lib.hid hc
    have HO : Hid (openV m F (.slice fa F.length fc) = vcells m (.slice fa F.length fc)) := by simp [Hid, openV, hc]
    clear hc
    obtain ⟨k, t, bl, bh, h, nl, nh⟩ := m
    simp only [encMl, vcells] at *
    go_enter Try.func27, Try.ntmps27
    go_wp2_with fail
    refine (HV.out _ (hf'.out.below (by repeat (first | exact Below.refl _ _ | refine Below.drew ?_ | refine bpush ?_ _ | refine bput ?_ (by simp) _ | (refine bstep ?_ (by assumption)))))).mono ?_
    rintro e w1 ⟨rfl, hb⟩
    rw [HC.out]
    have hr1 := Lib.hid ((hb.block (w.heap.size + 1) (by simp)).trans (by have := heap_new (w.alloc (.cells #[iv k, iv t, iv bl, iv bh, iv h, iv nl, iv nh] 27)) zv 41; simp only [World.size_alloc] at this; exact this))
    have HB := Lib.hid (show Below w.heap.size w w1 from bstep (by repeat (first | exact Below.refl _ _ | refine Below.drew ?_ | refine bpush ?_ _ | refine bput ?_ (by simp) _ | (refine bstep ?_ (by assumption)))) hb)
    obtain ⟨hbc, hbf⟩ := bcell hb
    have hbz := hb.size
    simp [Nat.add_one_le_iff] at hbz
    clear hb
    go_wp2_with (with_reducible change wpList _ _ _ (Oper.mk _ (Op.store 41 _ _) _ _ _ _ :: _) _ _; refine L_skip rfl (run_store_row 41 _ _ rfl _ rfl #[iv k, iv t, iv bl, iv bh, iv h, iv nl, iv nh, .slice fa F.length fc] rfl 41 zv hr1.out HSI.out rfl HON.out) ?_)
    exact bodyPost_ret (results_row_tmp (fn := Try.f27) Try.results27 _ rfl (heap_setRow_same hr1.out) Try.underlying41 rfl HSI.out) rfl ⟨by rw [HO.out, HC.out]; rfl, bsetRow HB.out (by omega) _⟩
  · have hc1 : (sChk m F != 0) = true := by simpa using hc
    have HO : Hid (openV m F (.slice fa F.length fc) = zv) := by simp [Hid, openV, hc]
    clear hc
    generalize sChk m F = ck at *
    obtain ⟨k, t, bl, bh, h, nl, nh⟩ := m
    simp only [encMl] at *
    go_enter Try.func27, Try.ntmps27
    go_wp2_with fail
    refine (HV.out _ (hf'.out.below (by repeat (first | exact Below.refl _ _ | refine Below.drew ?_ | refine bpush ?_ _ | refine bput ?_ (by simp) _ | (refine bstep ?_ (by assumption)))))).mono ?_
    rintro e w1 ⟨rfl, hb⟩
    have hr1 := Lib.hid ((hb.block (w.heap.size + 1) (by simp)).trans (by have := heap_new (w.alloc (.cells #[iv k, iv t, iv bl, iv bh, iv h, iv nl, iv nh] 27)) zv 41; simp only [World.size_alloc] at this; exact this))
    have HB := Lib.hid (show Below w.heap.size w w1 from bstep (by repeat (first | exact Below.refl _ _ | refine Below.drew ?_ | refine bpush ?_ _ | refine bput ?_ (by simp) _ | (refine bstep ?_ (by assumption)))) hb)
    obtain ⟨hbc, hbf⟩ := bcell hb
    have hbz := hb.size
    simp [Nat.add_one_le_iff] at hbz
    clear hb
    go_wp2_with (with_reducible change wpList _ _ _ (Oper.mk _ (Op.store 41 _ _) _ _ _ _ :: _) _ _; refine L_skip rfl (run_store_row 41 _ _ rfl _ rfl zv rfl 41 zv hr1.out sinfoZv rfl zv_one) ?_)
    exact bodyPost_ret (results_row_tmp (fn := Try.f27) Try.results27 _ rfl (heap_setRow_same hr1.out) Try.underlying41 rfl sinfoZv) rfl ⟨by rw [HO.out]; rfl, bsetRow HB.out (by omega) _⟩
end Go.Proofs.Ytfpbfhjfhfmanac
