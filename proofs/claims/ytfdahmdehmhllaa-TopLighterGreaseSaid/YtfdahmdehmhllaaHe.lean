/- Package soap: sorts, cloths, grease. -/
import Derived.Test.YtfdahmdehmhllaaJb
import Derived.Test.YtfdahmdehmhllaaPc
namespace Go.Proofs.Ytfdahmdehmhllaa
open Go Go.RowKit Go.Shelf
attribute [local go_sem ↓] Go.wp_at_zero Go.wp_at_succ

def vSo (s : So) : Bool := okSpan s.tl s.th 0 200 && (inB 0 500 s.pr && (inB 0 50 s.st && inB 0 12 s.ha))
set_option maxRecDepth 20000 in
set_option maxHeartbeats 3200000 in
theorem validSort_any (s : So) (w : World) :
    Calls Try.prog 45 #[.agg (encSo s).toArray] w fun e w' => e = .returned (.bool (vSo s)) ∧ Below w.heap.size w w' := by
  obtain ⟨tl, th, pr, st, ha⟩ := s
  simp only [encSo]
  cases h1 : okSpan tl th 0 200
  · go_enter Try.func45, Try.ntmps45
    go_wp2_with fail
    refine (okSpan_any tl th 0 200 _).mono ?_
    rintro e w1 ⟨rfl, hb⟩
    obtain ⟨hbc, hbf⟩ := bcell hb
    have hbz := hb.size
    simp [Nat.add_one_le_iff] at hbz
    have hlt0 : w.heap.size < w1.heap.size := by omega
    go_wp2_with fail
    go_wp2_with fail
    go_ret
    exact ⟨by simp [vSo, h1], (by repeat (first | exact Below.refl _ _ | refine Below.drew ?_ | refine bpush ?_ _ | refine bput ?_ (by simp) _ | (refine bstep ?_ (by assumption))))⟩
  cases h2 : inB 0 500 pr
  · go_enter Try.func45, Try.ntmps45
    go_wp2_with fail
    refine (okSpan_any tl th 0 200 _).mono ?_
    rintro e w1 ⟨rfl, hb⟩
    obtain ⟨hbc, hbf⟩ := bcell hb
    have hbz := hb.size
    simp [Nat.add_one_le_iff] at hbz
    have hlt0 : w.heap.size < w1.heap.size := by omega
    go_wp2_with fail
    refine (within1 0 500 pr (by go_simp)).mono ?_
    rintro e w_ ⟨rfl, rfl⟩
    go_wp2_with fail
    go_wp2_with fail
    go_ret
    exact ⟨by simp [vSo, h1, h2], (by repeat (first | exact Below.refl _ _ | refine Below.drew ?_ | refine bpush ?_ _ | refine bput ?_ (by simp) _ | (refine bstep ?_ (by assumption))))⟩
  cases h3 : inB 0 50 st
  · go_enter Try.func45, Try.ntmps45
    go_wp2_with fail
    refine (okSpan_any tl th 0 200 _).mono ?_
    rintro e w1 ⟨rfl, hb⟩
    obtain ⟨hbc, hbf⟩ := bcell hb
    have hbz := hb.size
    simp [Nat.add_one_le_iff] at hbz
    have hlt0 : w.heap.size < w1.heap.size := by omega
    go_wp2_with fail
    refine (within1 0 500 pr (by go_simp)).mono ?_
    rintro e w_ ⟨rfl, rfl⟩
    go_wp2_with fail
    refine (within1 0 50 st (by go_simp)).mono ?_
    rintro e w_ ⟨rfl, rfl⟩
    go_wp2_with fail
    go_wp2_with fail
    go_ret
    exact ⟨by simp [vSo, h1, h2, h3], (by repeat (first | exact Below.refl _ _ | refine Below.drew ?_ | refine bpush ?_ _ | refine bput ?_ (by simp) _ | (refine bstep ?_ (by assumption))))⟩
  · go_enter Try.func45, Try.ntmps45
    go_wp2_with fail
    refine (okSpan_any tl th 0 200 _).mono ?_
    rintro e w1 ⟨rfl, hb⟩
    obtain ⟨hbc, hbf⟩ := bcell hb
    have hbz := hb.size
    simp [Nat.add_one_le_iff] at hbz
    have hlt0 : w.heap.size < w1.heap.size := by omega
    go_wp2_with fail
    refine (within1 0 500 pr (by go_simp)).mono ?_
    rintro e w_ ⟨rfl, rfl⟩
    go_wp2_with fail
    refine (within1 0 50 st (by go_simp)).mono ?_
    rintro e w_ ⟨rfl, rfl⟩
    go_wp2_with fail
    refine (within1 0 12 ha (by go_simp)).mono ?_
    rintro e w_ ⟨rfl, rfl⟩
    go_wp2_with fail
    go_wp2_with fail
    go_ret
    exact ⟨by simp [vSo, h1, h2, h3], (by repeat (first | exact Below.refl _ _ | refine Below.drew ?_ | refine bpush ?_ _ | refine bput ?_ (by simp) _ | (refine bstep ?_ (by assumption))))⟩
set_option maxHeartbeats 1600000 in
theorem allSo_any (xs : List So) (v : Value) (w : World) (hs : SliceOf encSo 5 w v xs) :
    Calls Try.prog 44 #[.func (.func 45) #[] #[], v] w fun e w' => e = .returned (.bool (xs.all vSo)) ∧ Below w.heap.size w w' := by
  obtain ⟨a, cap, rfl, hm, hc⟩ := hs
  go_enter Try.func44, Try.ntmps44
  go_wp2
  go_loopw [9, 6] (fun i _ wr => ∃ k : Nat, k ≤ xs.length ∧ i = iv k ∧ (xs.take k).all vSo = true ∧ Below w.heap.size w wr) (fun i _ _ => xs.length - (intOf i).toNat)
  case atStart => exact ⟨0, Nat.zero_le _, rfl, by simp, Below.refl _ _⟩
  case round =>
    obtain ⟨k, hk, rfl, hall, hbw⟩ := hrel
    have HA := Lib.hid hall; clear hall
    by_cases hlt : k < xs.length
    · obtain ⟨x, hx⟩ := getElem?_of_lt hlt
      obtain ⟨b, off, rfl, hj⟩ := hc k x hx
      have hcell : ∀ j u, (encSo x)[j]? = some u → wr.cell? ⟨b, off + k * 5 + j, none⟩ = some u := fun j u hu => (hbw.cell (p := ⟨b, _, none⟩) (lt_of_cell (hj j u hu))).trans (hj j u hu)
      have HX := Lib.hid hx; clear hx hj hc
      have c0 := hcell 0 _ rfl
      have c1 := hcell 1 _ rfl
      have c2 := hcell 2 _ rfl
      have c3 := hcell 3 _ rfl
      have c4 := hcell 4 _ rfl
      simp only [Nat.add_zero] at c0
      clear hcell
      cases hp : vSo x
      · have HP := Lib.hid hp; clear hp
        go_wp2_with fail
        refine (validSort_any x _).mono ?_
        rintro e w1 ⟨he, hb⟩
        rw [HP.out] at he; subst he
        go_wp2_with fail
        go_ret
        exact ⟨by rw [all_false_of _ HX.out HP.out]; rfl, bstep (bpush hbw _) hb⟩
      · have HP := Lib.hid hp; clear hp
        go_wp2_with fail
        refine (validSort_any x _).mono ?_
        rintro e w1 ⟨he, hb⟩
        rw [HP.out] at he; subst he
        go_wp2_with fail
        go_roundw
        case rel => exact ⟨k + 1, by omega, by go_num, all_take_succ _ HX.out HA.out HP.out, bstep (bpush hbw _) hb⟩
        case measure => simp [intOf]; omega
    · obtain rfl : k = xs.length := by omega
      have HT : Hid (xs.all vSo = true) := by have := HA.out; rwa [List.take_of_length_le (Nat.le_refl _)] at this
      clear hc
      go_wp2
      go_ret
      exact ⟨by rw [HT.out]; rfl, hbw⟩
/-- A greasy cloth. -/
structure Gc where
  (wl wh gl gh be : Int)
def encGc (c : Gc) : List Value := [iv c.wl, iv c.wh, iv c.gl, iv c.gh, iv c.be]
def vGc (c : Gc) : Bool := okSpan c.wl c.wh 1 2000 && (okSpan c.gl c.gh 0 300 && inB 0 500 c.be)
set_option maxRecDepth 20000 in
set_option maxHeartbeats 3200000 in
theorem validGc_any (c : Gc) (w : World) :
    Calls Try.prog 17 #[.agg (encGc c).toArray] w fun e w' => e = .returned (.bool (vGc c)) ∧ Below w.heap.size w w' := by
  obtain ⟨wl, wh, gl, gh, be⟩ := c
  simp only [encGc]
  cases h1 : okSpan wl wh 1 2000
  · go_enter Try.func17, Try.ntmps17
    go_wp2_with fail
    refine (okSpan_any wl wh 1 2000 _).mono ?_
    rintro e w1 ⟨rfl, hb⟩
    obtain ⟨hbc, hbf⟩ := bcell hb
    have hbz := hb.size
    simp [Nat.add_one_le_iff] at hbz
    have hlt0 : w.heap.size < w1.heap.size := by omega
    go_wp2_with fail
    go_wp2_with fail
    go_ret
    exact ⟨by simp [vGc, h1], (by repeat (first | exact Below.refl _ _ | refine Below.drew ?_ | refine bpush ?_ _ | refine bput ?_ (by simp) _ | (refine bstep ?_ (by assumption))))⟩
  cases h2 : okSpan gl gh 0 300
  · go_enter Try.func17, Try.ntmps17
    go_wp2_with fail
    refine (okSpan_any wl wh 1 2000 _).mono ?_
    rintro e w1 ⟨rfl, hb⟩
    obtain ⟨hbc, hbf⟩ := bcell hb
    have hbz := hb.size
    simp [Nat.add_one_le_iff] at hbz
    have hlt0 : w.heap.size < w1.heap.size := by omega
    go_wp2_with fail
    refine (okSpan_any gl gh 0 300 _).mono ?_
    rintro e w2 ⟨rfl, hb2⟩
    go_wp2_with fail
    go_ret
    exact ⟨by simp [vGc, h1, h2], (by repeat (first | exact Below.refl _ _ | refine Below.drew ?_ | refine bpush ?_ _ | refine bput ?_ (by simp) _ | (refine bstep ?_ (by assumption))))⟩
  · go_enter Try.func17, Try.ntmps17
    go_wp2_with fail
    refine (okSpan_any wl wh 1 2000 _).mono ?_
    rintro e w1 ⟨rfl, hb⟩
    obtain ⟨hbc, hbf⟩ := bcell hb
    have hbz := hb.size
    simp [Nat.add_one_le_iff] at hbz
    have hlt0 : w.heap.size < w1.heap.size := by omega
    go_wp2_with fail
    refine (okSpan_any gl gh 0 300 _).mono ?_
    rintro e w2 ⟨rfl, hb2⟩
    obtain ⟨hb2c, hb2f⟩ := bcell hb2
    have hb2z := hb2.size
    have hlt2 : w.heap.size < w2.heap.size := by omega
    go_wp2_with fail
    refine (within1 0 500 be (by go_simp)).mono ?_
    rintro e w_ ⟨rfl, rfl⟩
    go_wp2_with fail
    go_wp2_with fail
    go_ret
    exact ⟨by simp [vGc, h1, h2], (by repeat (first | exact Below.refl _ _ | refine Below.drew ?_ | refine bpush ?_ _ | refine bput ?_ (by simp) _ | (refine bstep ?_ (by assumption))))⟩
theorem vGc_iff {c : Gc} : vGc c = true ↔ (1 ≤ c.wl ∧ c.wl ≤ 2000 ∧ 1 ≤ c.wh ∧ c.wh ≤ 2000 ∧ c.wl ≤ c.wh) ∧ (0 ≤ c.gl ∧ c.gl ≤ 300 ∧ 0 ≤ c.gh ∧ c.gh ≤ 300 ∧ c.gl ≤ c.gh) ∧ (0 ≤ c.be ∧ c.be ≤ 500) := by
  simp only [vGc, Bool.and_eq_true, inB_iff, okSpan_iff]
theorem vSo_iff {s : So} : vSo s = true ↔ (0 ≤ s.tl ∧ s.tl ≤ 200 ∧ 0 ≤ s.th ∧ s.th ≤ 200 ∧ s.tl ≤ s.th) ∧ (0 ≤ s.pr ∧ s.pr ≤ 500) ∧ (0 ≤ s.st ∧ s.st ≤ 50) ∧ (0 ≤ s.ha ∧ s.ha ≤ 12) := by
  simp only [vSo, Bool.and_eq_true, inB_iff, okSpan_iff]
/-- So many thousandths of a weight, rounded up. -/
def grsI (w t : Int) : Int := (w * t + 999) / 1000
set_option maxHeartbeats 800000 in
theorem grease_any (a b : Int) (w : World) (ha : 0 ≤ a ∧ a ≤ 2000) (hb : 0 ≤ b ∧ b ≤ 300) :
    Calls Try.prog 29 #[iv a, iv b] w fun e w' => e = .returned (iv (grsI a b)) ∧ w' = w := by
  have h0 : 0 ≤ a * b := Int.mul_nonneg ha.1 hb.1
  have h1 : a * b ≤ 2000 * 300 := Int.mul_le_mul ha.2 hb.2 hb.1 (by omega)
  have e1 : IntKind.i64.wrap (a * b) = a * b := IntWalk.i64_in _ ⟨by omega, by omega⟩
  have e2 : IntKind.i64.wrap (a * b + 999) = a * b + 999 := IntWalk.i64_in _ ⟨by omega, by omega⟩
  have e3 : (a * b + 999).tdiv 1000 = grsI a b := Int.tdiv_eq_ediv_of_nonneg (by omega)
  have h2 : 0 ≤ grsI a b ∧ grsI a b ≤ 700 := by unfold grsI; omega
  have e4 : IntKind.i64.wrap (grsI a b) = grsI a b := IntWalk.i64_in _ ⟨by omega, by omega⟩
  go_enter Try.func29, Try.ntmps29
  go_wp2_with fail
  go_ret
  exact ⟨rfl, rfl⟩

/-- The error of a store. -/
def soChk (L : List So) : Int := if 4 < L.length then 5 else if L.length = 0 then 7 else if L.all vSo = true then 0 else 2
theorem soChk_zero {L : List So} (h : soChk L = 0) : L.length ≤ 4 ∧ 0 < L.length ∧ L.all vSo = true := by
  unfold soChk at h
  split at h
  · omega
  · split at h
    · omega
    · split at h
      · exact ⟨by omega, by omega, by assumption⟩
      · omega
set_option maxHeartbeats 1600000 in
theorem soCheck_any (L : List So) (sa : Option Addr) (sc : Nat) (w : World) (hl : L.length ≤ 1000000) (hs : SliceOf encSo 5 w (.slice sa L.length sc) L) :
    Calls Try.prog 30 #[.slice sa L.length sc] w fun e w' => e = .returned (iv (soChk L)) ∧ Below w.heap.size w w' := by
  by_cases h1 : 4 < L.length
  · have HE : Hid (soChk L = 5) := by simp [Hid, soChk, h1]
    have n1 : (4 : Int) < (L.length : Int) := by omega
    clear h1 hs
    go_enter Try.func30, Try.ntmps30
    go_wp2_with fail
    go_ret
    exact ⟨by rw [HE.out]; rfl, Below.refl _ _⟩
  have n1 : ¬ (4 < (L.length : Int)) := by omega
  by_cases h2 : L.length = 0
  · have HE : Hid (soChk L = 7) := by simp [Hid, soChk, h2]
    have n2 : ((L.length : Int) == 0) = true := by rw [beq_iff_eq]; omega
    have n3 : (L.length : Int) = 0 := by omega
    clear h1 h2 hs
    go_enter Try.func30, Try.ntmps30
    go_wp2_with fail
    go_ret
    exact ⟨by rw [HE.out]; rfl, Below.refl _ _⟩
  have n2 : ((L.length : Int) == 0) = false := by rw [beq_eq_false_iff_ne]; omega
  have n3 : ¬ ((L.length : Int) = 0) := by omega
  have HA := Lib.hid (allSo_any L _ w hs)
  clear hs
  cases h3 : L.all vSo
  · have HE : Hid (soChk L = 2) := by simp [Hid, soChk, h1, h2, h3]
    rw [h3] at HA
    clear h1 h2 h3
    go_enter Try.func30, Try.ntmps30
    go_wp2_with fail
    refine HA.out.mono ?_
    rintro e w1 ⟨rfl, hb⟩
    have HB := Lib.hid hb; clear hb
    go_wp2_with fail
    go_ret
    exact ⟨by rw [HE.out]; rfl, HB.out⟩
  · have HE : Hid (soChk L = 0) := by simp [Hid, soChk, h1, h2, h3]
    rw [h3] at HA
    clear h1 h2 h3
    go_enter Try.func30, Try.ntmps30
    go_wp2_with fail
    refine HA.out.mono ?_
    rintro e w1 ⟨rfl, hb⟩
    have HB := Lib.hid hb; clear hb
    go_wp2_with fail
    go_ret
    exact ⟨by rw [HE.out]; rfl, HB.out⟩
set_option maxHeartbeats 800000 in
theorem selPr_any (s : So) (w : World) :
    Calls Try.prog 49 #[.agg (encSo s).toArray] w fun e w' => e = .returned (iv s.pr) ∧ Below w.heap.size w w' := by
  obtain ⟨tl, th, pr, st, ha⟩ := s
  simp only [encSo]
  go_enter Try.func49, Try.ntmps49
  go_wp2_with fail
  go_ret
  exact ⟨rfl, (by repeat (first | exact Below.refl _ _ | refine Below.drew ?_ | refine bpush ?_ _ | refine bput ?_ (by simp) _ | (refine bstep ?_ (by assumption))))⟩
set_option maxHeartbeats 800000 in
theorem selTl_any (s : So) (w : World) :
    Calls Try.prog 50 #[.agg (encSo s).toArray] w fun e w' => e = .returned (iv s.tl) ∧ Below w.heap.size w w' := by
  obtain ⟨tl, th, pr, st, ha⟩ := s
  simp only [encSo]
  go_enter Try.func50, Try.ntmps50
  go_wp2_with fail
  go_ret
  exact ⟨rfl, (by repeat (first | exact Below.refl _ _ | refine Below.drew ?_ | refine bpush ?_ _ | refine bput ?_ (by simp) _ | (refine bstep ?_ (by assumption))))⟩
set_option maxHeartbeats 800000 in
theorem selTh_any (s : So) (w : World) :
    Calls Try.prog 51 #[.agg (encSo s).toArray] w fun e w' => e = .returned (iv s.th) ∧ Below w.heap.size w w' := by
  obtain ⟨tl, th, pr, st, ha⟩ := s
  simp only [encSo]
  go_enter Try.func51, Try.ntmps51
  go_wp2_with fail
  go_ret
  exact ⟨rfl, (by repeat (first | exact Below.refl _ _ | refine Below.drew ?_ | refine bpush ?_ _ | refine bput ?_ (by simp) _ | (refine bstep ?_ (by assumption))))⟩
set_option maxHeartbeats 800000 in
theorem selSt_any (s : So) (w : World) :
    Calls Try.prog 52 #[.agg (encSo s).toArray] w fun e w' => e = .returned (iv s.st) ∧ Below w.heap.size w w' := by
  obtain ⟨tl, th, pr, st, ha⟩ := s
  simp only [encSo]
  go_enter Try.func52, Try.ntmps52
  go_wp2_with fail
  go_ret
  exact ⟨rfl, (by repeat (first | exact Below.refl _ _ | refine Below.drew ?_ | refine bpush ?_ _ | refine bput ?_ (by simp) _ | (refine bstep ?_ (by assumption))))⟩
/-- A job: a cloth, and the sorts of a store. -/
abbrev jv (c : Gc) (sv : Value) : Value := .agg #[iv c.wl, iv c.wh, iv c.gl, iv c.gh, iv c.be, sv]
/-- What the pounds of the first sorts do together. -/
def togL (f : So → Int) (L : List So) (M : List Int) : List Int := (M.zip L).map fun p => p.1 * f p.2
end Go.Proofs.Ytfdahmdehmhllaa
