/- The checks of package stock. -/
import Derived.Test.YtdhkgpfcanekkaaMa
namespace Go.Proofs.Ytdhkgpfcanekkaa
open Go Go.RowKit

def vPart (p : Sp) : Bool := vSpan p.1 p.2 0 1000 8
def vGain (p : Sp) : Bool := vSpan p.1 p.2 0 50 8
set_option maxHeartbeats 800000 in
theorem validPart_any (p : Sp) (w : World) :
    Calls Try.prog 58 #[.agg (encS p).toArray] w fun e w' => e = .returned (.bool (vPart p)) ∧ Below w.heap.size w w' := by
  obtain ⟨l, h⟩ := p
  simp only [encS]
  go_enter Try.func58, Try.ntmps58
  go_wp2_with fail
  refine (validSpan_any l h 0 1000 8 _ (by omega) (by omega)).mono ?_
  rintro e w' ⟨rfl, hb⟩
  go_wp2_with fail
  go_ret
  exact ⟨rfl, (by repeat (first | exact Below.refl _ _ | refine Below.drew ?_ | refine bpush ?_ _ | refine bput ?_ (by simp) _ | (refine bstep ?_ (by assumption))))⟩
set_option maxHeartbeats 800000 in
theorem validGain_any (p : Sp) (w : World) :
    Calls Try.prog 69 #[.agg (encS p).toArray] w fun e w' => e = .returned (.bool (vGain p)) ∧ Below w.heap.size w w' := by
  obtain ⟨l, h⟩ := p
  simp only [encS]
  go_enter Try.func69, Try.ntmps69
  go_wp2_with fail
  refine (validSpan_any l h 0 50 8 _ (by omega) (by omega)).mono ?_
  rintro e w' ⟨rfl, hb⟩
  go_wp2_with fail
  go_ret
  exact ⟨rfl, (by repeat (first | exact Below.refl _ _ | refine Below.drew ?_ | refine bpush ?_ _ | refine bput ?_ (by simp) _ | (refine bstep ?_ (by assumption))))⟩

set_option maxHeartbeats 1600000 in
theorem allPt_any (xs : List Sp) (v : Value) (w : World) (hs : SliceOf encS 2 w v xs) :
    Calls Try.prog 57 #[.func (.func 58) #[] #[], v] w fun e w' => e = .returned (.bool (xs.all vPart)) ∧ Below w.heap.size w w' := by
  obtain ⟨a, cap, rfl, hm, hc⟩ := hs
  go_enter Try.func57, Try.ntmps57
  go_wp2
  go_loopw [9, 6] (fun i _ wr => ∃ k : Nat, k ≤ xs.length ∧ i = iv k ∧ (xs.take k).all vPart = true ∧ Below w.heap.size w wr) (fun i _ _ => xs.length - (intOf i).toNat)
  case atStart => exact ⟨0, Nat.zero_le _, rfl, by simp, Below.refl _ _⟩
  case round =>
    obtain ⟨k, hk, rfl, hall, hbw⟩ := hrel
    have HA := Lib.hid hall; clear hall
    by_cases hlt : k < xs.length
    · obtain ⟨x, hx⟩ := getElem?_of_lt hlt
      obtain ⟨b, off, rfl, hj⟩ := hc k x hx
      have hcell : ∀ j u, (encS x)[j]? = some u → wr.cell? ⟨b, off + k * 2 + j, none⟩ = some u := fun j u hu => (hbw.cell (p := ⟨b, _, none⟩) (lt_of_cell (hj j u hu))).trans (hj j u hu)
      have HX := Lib.hid hx; clear hx hj hc
      have c0 := hcell 0 _ rfl
      have c1 := hcell 1 _ rfl
      simp only [Nat.add_zero] at c0
      clear hcell
      cases hp : vPart x
      · have HP := Lib.hid hp; clear hp
        go_wp2_with fail
        refine (validPart_any x _).mono ?_
        rintro e w1 ⟨he, hb⟩
        rw [HP.out] at he; subst he
        go_wp2_with fail
        go_ret
        exact ⟨by rw [all_false_of _ HX.out HP.out]; rfl, bstep (bpush hbw _) hb⟩
      · have HP := Lib.hid hp; clear hp
        go_wp2_with fail
        refine (validPart_any x _).mono ?_
        rintro e w1 ⟨he, hb⟩
        rw [HP.out] at he; subst he
        go_wp2_with fail
        go_roundw
        case rel => exact ⟨k + 1, by omega, by go_num, all_take_succ _ HX.out HA.out HP.out, bstep (bpush hbw _) hb⟩
        case measure => simp [intOf]; omega
    · obtain rfl : k = xs.length := by omega
      have HT : Hid (xs.all vPart = true) := by have := HA.out; rwa [List.take_of_length_le (Nat.le_refl _)] at this
      clear hc
      go_wp2
      go_ret
      exact ⟨by rw [HT.out]; rfl, hbw⟩
set_option maxHeartbeats 1600000 in
theorem allGn_any (xs : List Sp) (v : Value) (w : World) (hs : SliceOf encS 2 w v xs) :
    Calls Try.prog 57 #[.func (.func 69) #[] #[], v] w fun e w' => e = .returned (.bool (xs.all vGain)) ∧ Below w.heap.size w w' := by
  obtain ⟨a, cap, rfl, hm, hc⟩ := hs
  go_enter Try.func57, Try.ntmps57
  go_wp2
  go_loopw [9, 6] (fun i _ wr => ∃ k : Nat, k ≤ xs.length ∧ i = iv k ∧ (xs.take k).all vGain = true ∧ Below w.heap.size w wr) (fun i _ _ => xs.length - (intOf i).toNat)
  case atStart => exact ⟨0, Nat.zero_le _, rfl, by simp, Below.refl _ _⟩
  case round =>
    obtain ⟨k, hk, rfl, hall, hbw⟩ := hrel
    have HA := Lib.hid hall; clear hall
    by_cases hlt : k < xs.length
    · obtain ⟨x, hx⟩ := getElem?_of_lt hlt
      obtain ⟨b, off, rfl, hj⟩ := hc k x hx
      have hcell : ∀ j u, (encS x)[j]? = some u → wr.cell? ⟨b, off + k * 2 + j, none⟩ = some u := fun j u hu => (hbw.cell (p := ⟨b, _, none⟩) (lt_of_cell (hj j u hu))).trans (hj j u hu)
      have HX := Lib.hid hx; clear hx hj hc
      have c0 := hcell 0 _ rfl
      have c1 := hcell 1 _ rfl
      simp only [Nat.add_zero] at c0
      clear hcell
      cases hp : vGain x
      · have HP := Lib.hid hp; clear hp
        go_wp2_with fail
        refine (validGain_any x _).mono ?_
        rintro e w1 ⟨he, hb⟩
        rw [HP.out] at he; subst he
        go_wp2_with fail
        go_ret
        exact ⟨by rw [all_false_of _ HX.out HP.out]; rfl, bstep (bpush hbw _) hb⟩
      · have HP := Lib.hid hp; clear hp
        go_wp2_with fail
        refine (validGain_any x _).mono ?_
        rintro e w1 ⟨he, hb⟩
        rw [HP.out] at he; subst he
        go_wp2_with fail
        go_roundw
        case rel => exact ⟨k + 1, by omega, by go_num, all_take_succ _ HX.out HA.out HP.out, bstep (bpush hbw _) hb⟩
        case measure => simp [intOf]; omega
    · obtain rfl : k = xs.length := by omega
      have HT : Hid (xs.all vGain = true) := by have := HA.out; rwa [List.take_of_length_le (Nat.le_refl _)] at this
      clear hc
      go_wp2
      go_ret
      exact ⟨by rw [HT.out]; rfl, hbw⟩

theorem spans2 {w : World} {b off cap : Nat} {p q : Sp} (h0 : w.cell? ⟨b, off, none⟩ = some (iv p.1)) (h1 : w.cell? ⟨b, off + 1, none⟩ = some (iv p.2)) (h2 : w.cell? ⟨b, off + 2, none⟩ = some (iv q.1)) (h3 : w.cell? ⟨b, off + 3, none⟩ = some (iv q.2)) : SliceOf encS 2 w (.slice (some ⟨b, off, none⟩) 2 cap) [p, q] := by
  refine ⟨_, cap, rfl, by simp, fun i z hz => ⟨b, off, rfl, fun j u hu => ?_⟩⟩
  rcases i with _ | _ | i
  · simp only [List.getElem?_cons_zero, Option.some.injEq] at hz; subst hz
    rcases j with _ | _ | j
    · simp [encS] at hu; subst hu; simpa using h0
    · simp [encS] at hu; subst hu; simpa using h1
    · simp [encS] at hu
  · simp only [List.getElem?_cons_succ, List.getElem?_cons_zero, Option.some.injEq] at hz; subst hz
    rcases j with _ | _ | j
    · simp [encS] at hu; subst hu; simpa using h2
    · simp [encS] at hu; subst hu; simpa using h3
    · simp [encS] at hu
  · simp at hz

/-- What the hammers give, when a cloth is turned, from where on, and which thicknesses are right. -/
structure Fe where
  (sl sh wl wh turn start full harm : Int)
def stcells (c : Fe) (pv mv : Value) : List Value := [pv, iv c.sl, iv c.sh, iv c.wl, iv c.wh, iv c.turn, iv c.start, iv c.full, iv c.harm, mv]
def vBeat (n : Nat) (c : Fe) : Bool := (vGain (c.sl, c.sh) && vGain (c.wl, c.wh)) && (decide (c.wh ≤ c.sl) && (inB 1 12 c.turn && (inB 0 ((n : Int) - 1) c.start && okSpan c.full c.harm 0 3000)))

set_option maxRecDepth 20000 in
set_option maxHeartbeats 3200000 in
theorem validBeating_any (c : Fe) (a : Option Addr) (n cap : Nat) (mv : Value) (w : World) (hn : n ≤ 140737488355328) :
    Calls Try.prog 59 #[.agg (stcells c (.slice a n cap) mv).toArray] w fun e w' => e = .returned (.bool (vBeat n c)) ∧ Below w.heap.size w w' := by
  obtain ⟨sl, sh, wl, wh, turn, start, full, harm⟩ := c
  simp only [stcells]
  cases h0 : ([(sl, sh), (wl, wh)] : List Sp).all vGain
  · have HB := Lib.hid h0
    have HV : Hid (vBeat n ⟨sl, sh, wl, wh, turn, start, full, harm⟩ = false) := by
      simp only [List.all_cons, List.all_nil, Bool.and_true] at h0
      simp [Hid, vBeat, h0]
    clear h0
    go_enter Try.func59, Try.ntmps59
    go_wp2_with fail
    refine (allGn_any [(sl, sh), (wl, wh)] _ _ (spans2 (by go_simp) (by go_simp) (by go_simp) (by go_simp))).mono ?_
    rintro e w1 ⟨he, hb⟩; rw [HB.out] at he; subst he
    obtain ⟨hbc, hbf⟩ := bcell hb
    have hbz := hb.size
    simp [Nat.add_one_le_iff] at hbz
    have hlt0 : w.heap.size < w1.heap.size := by omega
    go_wp2_with fail
    go_ret
    exact ⟨by rw [HV.out]; rfl, (by repeat (first | exact Below.refl _ _ | refine Below.drew ?_ | refine bpush ?_ _ | refine bput ?_ (by simp) _ | (refine bstep ?_ (by assumption))))⟩
  have HB := Lib.hid h0
  have HG : Hid (vGain (sl, sh) = true ∧ vGain (wl, wh) = true) := by simpa [Hid] using h0
  clear h0
  by_cases h1 : wh ≤ sl
  · cases h2 : inB 1 12 turn
    · go_enter Try.func59, Try.ntmps59
      go_wp2_with fail
      refine (allGn_any [(sl, sh), (wl, wh)] _ _ (spans2 (by go_simp) (by go_simp) (by go_simp) (by go_simp))).mono ?_
      rintro e w1 ⟨he, hb⟩; rw [HB.out] at he; subst he
      obtain ⟨hbc, hbf⟩ := bcell hb
      have hbz := hb.size
      simp [Nat.add_one_le_iff] at hbz
      have hlt0 : w.heap.size < w1.heap.size := by omega
      go_wp2_with fail
      go_wp2_with fail
      refine (within1 1 12 turn (by go_simp)).mono ?_
      rintro e w_ ⟨rfl, rfl⟩
      rw [h2]
      go_wp2_with fail
      go_ret
      exact ⟨by simp [vBeat, HG.out.1, HG.out.2, h1, h2], (by repeat (first | exact Below.refl _ _ | refine Below.drew ?_ | refine bpush ?_ _ | refine bput ?_ (by simp) _ | (refine bstep ?_ (by assumption))))⟩
    cases h3 : inB 0 ((n : Int) - 1) start
    · go_enter Try.func59, Try.ntmps59
      go_wp2_with fail
      refine (allGn_any [(sl, sh), (wl, wh)] _ _ (spans2 (by go_simp) (by go_simp) (by go_simp) (by go_simp))).mono ?_
      rintro e w1 ⟨he, hb⟩; rw [HB.out] at he; subst he
      obtain ⟨hbc, hbf⟩ := bcell hb
      have hbz := hb.size
      simp [Nat.add_one_le_iff] at hbz
      have hlt0 : w.heap.size < w1.heap.size := by omega
      go_wp2_with fail
      go_wp2_with fail
      refine (within1 1 12 turn (by go_simp)).mono ?_
      rintro e w_ ⟨rfl, rfl⟩
      rw [h2]
      go_wp2_with fail
      refine (within1 0 ((n : Int) - 1) start (by go_simp)).mono ?_
      rintro e w_ ⟨rfl, rfl⟩
      rw [h3]
      go_wp2_with fail
      go_ret
      exact ⟨by simp [vBeat, HG.out.1, HG.out.2, h1, h2, h3], (by repeat (first | exact Below.refl _ _ | refine Below.drew ?_ | refine bpush ?_ _ | refine bput ?_ (by simp) _ | (refine bstep ?_ (by assumption))))⟩
    · go_enter Try.func59, Try.ntmps59
      go_wp2_with fail
      refine (allGn_any [(sl, sh), (wl, wh)] _ _ (spans2 (by go_simp) (by go_simp) (by go_simp) (by go_simp))).mono ?_
      rintro e w1 ⟨he, hb⟩; rw [HB.out] at he; subst he
      obtain ⟨hbc, hbf⟩ := bcell hb
      have hbz := hb.size
      simp [Nat.add_one_le_iff] at hbz
      have hlt0 : w.heap.size < w1.heap.size := by omega
      go_wp2_with fail
      go_wp2_with fail
      refine (within1 1 12 turn (by go_simp)).mono ?_
      rintro e w_ ⟨rfl, rfl⟩
      rw [h2]
      go_wp2_with fail
      refine (within1 0 ((n : Int) - 1) start (by go_simp)).mono ?_
      rintro e w_ ⟨rfl, rfl⟩
      rw [h3]
      go_wp2_with fail
      refine (okSpan_any full harm 0 3000 _).mono ?_
      rintro e w2 ⟨rfl, hb2⟩
      obtain ⟨hb2c, hb2f⟩ := bcell hb2
      have hb2z := hb2.size
      simp [Nat.add_one_le_iff] at hb2z
      go_wp2_with fail
      go_ret
      exact ⟨by simp [vBeat, HG.out.1, HG.out.2, h1, h2, h3], (by repeat (first | exact Below.refl _ _ | refine Below.drew ?_ | refine bpush ?_ _ | refine bput ?_ (by simp) _ | (refine bstep ?_ (by assumption))))⟩
  · go_enter Try.func59, Try.ntmps59
    go_wp2_with fail
    refine (allGn_any [(sl, sh), (wl, wh)] _ _ (spans2 (by go_simp) (by go_simp) (by go_simp) (by go_simp))).mono ?_
    rintro e w1 ⟨he, hb⟩; rw [HB.out] at he; subst he
    obtain ⟨hbc, hbf⟩ := bcell hb
    have hbz := hb.size
    simp [Nat.add_one_le_iff] at hbz
    have hlt0 : w.heap.size < w1.heap.size := by omega
    go_wp2_with fail
    go_ret
    exact ⟨by simp [vBeat, show ¬ wh ≤ sl from by omega], (by repeat (first | exact Below.refl _ _ | refine Below.drew ?_ | refine bpush ?_ _ | refine bput ?_ (by simp) _ | (refine bstep ?_ (by assumption))))⟩
end Go.Proofs.Ytdhkgpfcanekkaa
