/- The checks of package cloth: within, all, valid.. -/
import Derived.Test.YtfpbfhjfhfmanabMem
namespace Go.Proofs.Ytfpbfhjfhfmanab
open Go Go.RowKit

set_option maxHeartbeats 400000 in
theorem within_any (lo hi : Int) (xs : List Int) (v : Value) (w : World) (hs : Ints w v xs) :
    Calls Try.prog 12 #[iv lo, iv hi, v] w fun e w' => e = .returned (.bool (xs.all (inB lo hi))) ∧ w = w' := by
  obtain ⟨a, cap, rfl, hm, hc⟩ := hs
  go_enter Try.func12, Try.ntmps12
  go_wp2
  go_loop [11, 8] (fun i _ => ∃ k : Nat, k ≤ xs.length ∧ i = iv k ∧ (xs.take k).all (inB lo hi) = true) (fun i _ => xs.length - (intOf i).toNat)
  case atStart => exact ⟨0, Nat.zero_le _, rfl, by simp⟩
  case round =>
    obtain ⟨k, hk, rfl, hall⟩ := hrel
    have HA := Lib.hid hall; clear hall
    by_cases hlt : k < xs.length
    · obtain ⟨x, hx⟩ := getElem?_of_lt hlt
      obtain ⟨b, off, rfl, hj⟩ := hc k x hx
      have hcell := hj 0 (iv x) rfl
      simp only [Nat.mul_one, Nat.add_zero] at hcell
      have HX := Lib.hid hx; clear hx
      clear hj hc
      by_cases hin : lo ≤ x ∧ x ≤ hi
      · obtain ⟨h1, h2⟩ := hin
        have hp : Hid (inB lo hi x = true) := inB_iff.2 ⟨h1, h2⟩
        go_wp2
        go_round
        case rel => exact ⟨k + 1, by omega, by go_num, all_take_succ _ HX.out HA.out hp.out⟩
        case measure => simp [intOf]; omega
      · have hp : Hid (inB lo hi x = false) := by simp only [Hid, inB]; simpa using hin
        by_cases h1 : x < lo
        · go_wp2
          go_ret
          exact ⟨by rw [all_false_of _ HX.out hp.out]; rfl, rfl⟩
        · have h2 : hi < x := by omega
          go_wp2
          go_ret
          exact ⟨by rw [all_false_of _ HX.out hp.out]; rfl, rfl⟩
    · obtain rfl : k = xs.length := by omega
      have HT : Hid (xs.all (inB lo hi) = true) := by have := HA.out; rwa [List.take_of_length_le (Nat.le_refl _)] at this
      clear hc
      go_wp2
      go_ret
      exact ⟨by rw [HT.out]; rfl, rfl⟩

def vSpan (l h lo hi apart : Int) : Bool := inB lo hi l && inB lo hi h && inB 0 apart (h - l)
/-- A span from lo to hi. -/
def okSpan (l h lo hi : Int) : Bool := inB lo hi l && inB lo hi h && decide (l ≤ h)
theorem okSpan_iff {l h lo hi : Int} : okSpan l h lo hi = true ↔ lo ≤ l ∧ l ≤ hi ∧ lo ≤ h ∧ h ≤ hi ∧ l ≤ h := by simp [okSpan, inB]; omega

set_option maxHeartbeats 400000 in
theorem okSpan_any (l h lo hi : Int) (w : World) :
    Calls Try.prog 30 #[.agg #[iv l, iv h], iv lo, iv hi] w fun e w' => e = .returned (.bool (okSpan l h lo hi)) ∧ Below w.heap.size w w' := by
  cases hp : [l, h].all (inB lo hi)
  · have HB := Lib.hid hp
    have HV : Hid (okSpan l h lo hi = false) := by
      simp only [Hid]; rw [Bool.eq_false_iff]; intro hh; simp [okSpan, inB] at hh hp; omega
    clear hp
    go_enter Try.func30, Try.ntmps30
    go_wp2_with fail
    refine (within_any lo hi [l, h] _ _ (ints2 (by go_simp) (by go_simp))).mono ?_
    rintro e w' ⟨he, rfl⟩; rw [HB.out] at he; subst he
    go_wp2_with fail
    go_ret
    exact ⟨by rw [HV.out]; rfl, (by repeat (first | exact Below.refl _ _ | refine Below.drew ?_ | refine bpush ?_ _ | refine bput ?_ (by simp) _ | (refine bstep ?_ (by assumption))))⟩
  · have HB := Lib.hid hp
    have HV : Hid (okSpan l h lo hi = decide (l ≤ h)) := by
      simp [Hid, okSpan, inB] at hp ⊢; omega
    clear hp
    go_enter Try.func30, Try.ntmps30
    go_wp2_with fail
    refine (within_any lo hi [l, h] _ _ (ints2 (by go_simp) (by go_simp))).mono ?_
    rintro e w' ⟨he, rfl⟩; rw [HB.out] at he; subst he
    go_wp2_with fail
    go_ret
    exact ⟨by rw [HV.out]; rfl, (by repeat (first | exact Below.refl _ _ | refine Below.drew ?_ | refine bpush ?_ _ | refine bput ?_ (by simp) _ | (refine bstep ?_ (by assumption))))⟩

set_option maxHeartbeats 400000 in
theorem validSpan_any (l h lo hi apart : Int) (w : World) (h0 : 0 ≤ lo) (h1 : hi ≤ 1000000) :
    Calls Try.prog 43 #[.agg #[iv l, iv h], iv lo, iv hi, iv apart] w fun e w' => e = .returned (.bool (vSpan l h lo hi apart)) ∧ Below w.heap.size w w' := by
  cases hp : okSpan l h lo hi
  · have HB := Lib.hid hp
    have HV : Hid (vSpan l h lo hi apart = false) := by
      simp only [Hid]; rw [Bool.eq_false_iff]; intro hh; simp [vSpan, inB] at hh; simp [okSpan, inB] at hp; omega
    clear hp
    go_enter Try.func43, Try.ntmps43
    go_wp2_with fail
    refine (okSpan_any l h lo hi _).mono ?_
    rintro e w1 ⟨he, hb⟩; rw [HB.out] at he; subst he
    go_wp2_with fail
    go_ret
    exact ⟨by rw [HV.out]; rfl, (by repeat (first | exact Below.refl _ _ | refine Below.drew ?_ | refine bpush ?_ _ | refine bput ?_ (by simp) _ | (refine bstep ?_ (by assumption))))⟩
  · have HB := Lib.hid hp
    obtain ⟨p1, p2, p3, p4, p5⟩ := okSpan_iff.1 hp
    have HV : Hid (vSpan l h lo hi apart = decide (h - l ≤ apart)) := by
      simp [Hid, vSpan, inB, p1, p2, p3, p4]; omega
    clear hp
    go_enter Try.func43, Try.ntmps43
    go_wp2_with fail
    refine (okSpan_any l h lo hi _).mono ?_
    rintro e w1 ⟨he, hb⟩; rw [HB.out] at he; subst he
    obtain ⟨hbc, hbf⟩ := bcell hb
    have hbz := hb.size
    simp [Nat.add_one_le_iff] at hbz
    go_wp2_with fail
    go_ret
    exact ⟨by rw [HV.out]; rfl, (by repeat (first | exact Below.refl _ _ | refine Below.drew ?_ | refine bpush ?_ _ | refine bput ?_ (by simp) _ | (refine bstep ?_ (by assumption))))⟩

theorem within1 (lo hi x : Int) {b off cap : Nat} {w : World} (h : w.cell? ⟨b, off, none⟩ = some (iv x)) :
    Calls Try.prog 12 #[iv lo, iv hi, .slice (some ⟨b, off, none⟩) 1 cap] w fun e w' => e = .returned (.bool (inB lo hi x)) ∧ w = w' := by
  refine (within_any lo hi [x] _ _ (ints1 h)).mono ?_
  rintro e w' ⟨rfl, rfl⟩; exact ⟨by simp, rfl⟩

def vRate (l h : Int) : Bool := vSpan l h 0 100 30
def vSize (l h : Int) : Bool := vSpan l h 0 2000 2000

set_option maxHeartbeats 400000 in
theorem validRate_any (l h : Int) (w : World) :
    Calls Try.prog 44 #[.agg #[iv l, iv h]] w fun e w' => e = .returned (.bool (vRate l h)) ∧ Below w.heap.size w w' := by
  go_enter Try.func44, Try.ntmps44
  go_wp2_with fail
  refine (validSpan_any l h 0 100 30 _ (by omega) (by omega)).mono ?_
  rintro e w' ⟨rfl, hb⟩
  go_wp2_with fail
  go_ret
  exact ⟨rfl, (by repeat (first | exact Below.refl _ _ | refine Below.drew ?_ | refine bpush ?_ _ | refine bput ?_ (by simp) _ | (refine bstep ?_ (by assumption))))⟩

theorem vSize_ok (l h : Int) : vSize l h = okSpan l h 0 2000 := by
  rw [Bool.eq_iff_iff, okSpan_iff]; simp [vSize, vSpan, inB]; omega
structure Tk where
  (fl fh rl rh : Int)
structure Ms where
  (what hour reading off : Int)
def encT (t : Tk) : List Value := [iv t.fl, iv t.fh, iv t.rl, iv t.rh]
def encM (m : Ms) : List Value := [iv m.what, iv m.hour, iv m.reading, iv m.off]
def vTrack (t : Tk) : Bool := vSpan t.fl t.fh 1 2000 60 && vRate t.rl t.rh
def vMeas (m : Ms) : Bool := inB 0 2 m.what && (inB 0 48 m.hour && (inB 0 2000 m.reading && inB 0 20 m.off))

set_option maxHeartbeats 800000 in
theorem validTrack_any (t : Tk) (w : World) :
    Calls Try.prog 33 #[.agg (encT t).toArray] w fun e w' => e = .returned (.bool (vTrack t)) ∧ Below w.heap.size w w' := by
  obtain ⟨a, b, c, d⟩ := t
  simp only [encT]
  cases h1 : vSpan a b 1 2000 60
  · go_enter Try.func33, Try.ntmps33
    go_wp2_with fail
    refine (validSpan_any a b 1 2000 60 _ (by omega) (by omega)).mono ?_
    rintro e w' ⟨rfl, hb⟩
    go_wp2_with fail
    go_ret
    exact ⟨by simp [vTrack, h1], (by repeat (first | exact Below.refl _ _ | refine Below.drew ?_ | refine bpush ?_ _ | refine bput ?_ (by simp) _ | (refine bstep ?_ (by assumption))))⟩
  · go_enter Try.func33, Try.ntmps33
    go_wp2_with fail
    refine (validSpan_any a b 1 2000 60 _ (by omega) (by omega)).mono ?_
    rintro e w1 ⟨rfl, hb⟩
    obtain ⟨hbc, hbf⟩ := bcell hb
    have hbz := hb.size
    simp [Nat.add_one_le_iff] at hbz
    go_wp2_with fail
    refine (validRate_any c d _).mono ?_
    rintro e w2 ⟨rfl, hb2⟩
    go_wp2_with fail
    go_ret
    exact ⟨by simp [vTrack, h1], (by repeat (first | exact Below.refl _ _ | refine Below.drew ?_ | refine bpush ?_ _ | refine bput ?_ (by simp) _ | (refine bstep ?_ (by assumption))))⟩

set_option maxHeartbeats 400000 in
theorem validWhat_any (a : Int) (w : World) :
    Calls Try.prog 15 #[iv a] w fun e w' => e = .returned (.bool (inB 0 2 a)) ∧ Below w.heap.size w w' := by
  go_enter Try.func15, Try.ntmps15
  go_wp2_with fail
  refine (within1 0 2 a (by go_simp)).mono ?_
  rintro e w' ⟨rfl, rfl⟩
  go_wp2_with fail
  go_ret
  exact ⟨rfl, (by repeat (first | exact Below.refl _ _ | refine Below.drew ?_ | refine bpush ?_ _ | refine bput ?_ (by simp) _ | (refine bstep ?_ (by assumption))))⟩
end Go.Proofs.Ytfpbfhjfhfmanab
