/- Window of package stream at valid arguments. -/
import Derived.Test.YtiellodbdidgoaaSe
namespace Go.Proofs.Ytiellodbdidgoaa
open Go Go.RowKit Go.Shelf
attribute [local go_sem ↓] Go.wp_at_zero Go.wp_at_succ

/-- Whether hammers surely go for so many hours from an hour on. -/
def winB (m : Ml) (F : List Sp) (k hours : Int) (fr : Nat) : Bool := decide (hours ≤ ((lvOf Prod.fst m F (stdy F.length k fr)).length : Int) - fr)
/-- The first such hour. -/
def winO (m : Ml) (F : List Sp) (k hours : Int) : Option Nat := (List.range F.length).find? (winB m F k hours)
def winV : Option Nat → Value
  | some fr => .tuple #[iv fr, iv 0]
  | none => .tuple #[iv 0, iv 7]
theorem winO_some {m : Ml} {F : List Sp} {k hours : Int} {j : Nat} (h : ∀ q, q < j → winB m F k hours q = false) (hj : j < F.length) (h1 : winB m F k hours j = true) : winO m F k hours = some j := by
  unfold winO; rw [List.find?_range_eq_some]; exact ⟨h1, List.mem_range.2 hj, fun q hq => by simp [h q hq]⟩
theorem winO_none {m : Ml} {F : List Sp} {k hours : Int} (h : ∀ q, q < F.length → winB m F k hours q = false) : winO m F k hours = none := by
  unfold winO; rw [List.find?_range_eq_none]; exact fun q hq => by simp [h q hq]

set_option maxRecDepth 20000 in
set_option maxHeartbeats 6400000 in
theorem Window_good (m : Ml) (F : List Sp) (fv : Value) (k hours : Int) (w : World) (hf : SliceOf encS 2 w fv F) (hc : sChk m F = 0) (hk : inB 1 m.k k = true) (hq : inB 1 24 hours = true) :
    Calls Try.prog 7 #[.agg (encMl m).toArray, fv, iv k, iv hours] w fun e w' => e = .returned (winV (winO m F k hours)) ∧ Below w.heap.size w w' := by
  have HF := Lib.hid hf
  obtain ⟨fa, fc, rfl, hfl, -⟩ := hf
  have hO := sOpen_any m F (.slice fa F.length fc)
  obtain ⟨hm, hl24, hl0, hFv⟩ := sChk_zero hc
  rw [openV_good _ hc, hc] at hO
  have HO := Lib.hid hO; clear hO
  obtain ⟨q1, q2⟩ := inB_iff.1 hq
  obtain ⟨k1, k2⟩ := inB_iff.1 hk
  have hk8 : m.k ≤ 8 := (vMill_iff.1 hm).1.2
  have hALL : ∀ j : Nat, ∃ N : Nat, N ≤ 24 ∧ Hid (winB m F k hours j = decide (hours ≤ (N : Int) - j)) ∧ Hid (∀ (w : World) (pa : Option Addr) (pn pc : Nat), SliceOf encS 2 w (.slice fa F.length fc) F → Ints w (.slice pa pn pc) (stdy F.length k j) → Calls Try.prog 17 #[.agg (vcells m (.slice fa F.length fc)), .slice pa pn pc] w (CtdRes N w)) ∧ Hid (∀ w : World, Calls Try.prog 18 #[.agg (vcells m (.slice fa F.length fc)), iv k, iv j] w (IntsRes F.length (stdy F.length k j) w)) := by
    intro j
    have hP : (stdy F.length k j).all (inB 0 8) = true := by
      rw [List.all_eq_true]; intro x hx
      simp only [stdy, stdTo, List.mem_map] at hx
      obtain ⟨i, -, rfl⟩ := hx
      rw [inB_iff]; split <;> omega
    have hpl : (stdy F.length k j).length = F.length := stdTo_len _ _ _ _
    refine ⟨(lvOf Prod.fst m F (stdy F.length k j)).length, ?_, rfl, ?_, ?_⟩
    · have := lvOf_len Prod.fst m F (stdy F.length k j); omega
    · exact fun w pa pn pc h1 h2 => lowest_ctd hm hFv hP (by omega) (by omega) w h1 h2
    · exact fun w => steady_ints m fa F.length fc k j w (by omega)
  have HALL := Lib.hid hALL
  have HS := Lib.hid (fun j => @winO_some m F k hours j)
  have HN := Lib.hid (@winO_none m F k hours)
  have HK := Lib.hid hk; have HQ := Lib.hid hq
  clear hm hFv hc hk hq hk8 hALL
  obtain ⟨wb, hwb⟩ : ∃ wb, wb = winB m F k hours := ⟨_, rfl⟩
  obtain ⟨wo, hwo⟩ : ∃ wo, wo = winO m F k hours := ⟨_, rfl⟩
  rw [← hwb] at HALL HS HN
  rw [← hwo] at HS HN ⊢
  clear hwb hwo
  obtain ⟨kk, t, bl, bh, h, nl, nh⟩ := m
  simp only [encMl, vcells] at *
  go_enter Try.func7, Try.ntmps7
  go_wp2_with fail
  refine (HO.out _ (HF.out.below (by repeat (first | exact Below.refl _ _ | refine Below.drew ?_ | refine bpush ?_ _ | refine bput ?_ (by simp) _ | (refine bstep ?_ (by assumption)))))).mono ?_
  rintro e w1 ⟨rfl, hb⟩
  obtain ⟨hbc, hbf⟩ := bcell hb
  have hbz := hb.size
  simp [Nat.add_one_le_iff] at hbz
  have hlt0 : w.heap.size < w1.heap.size := by omega
  go_wp2_with fail
  refine (within1 1 kk k (by go_simp)).mono ?_
  rintro e w2 ⟨he, rfl⟩; rw [HK.out] at he; subst he
  go_wp2_with fail
  refine (within1 1 24 hours (by go_simp)).mono ?_
  rintro e w2 ⟨he, rfl⟩; rw [HQ.out] at he; subst he
  go_wp2_with fail
  go_loopw [38, 12] (fun i _ wr => ∃ j : Nat, j ≤ F.length ∧ i = iv j ∧ Hid (∀ q, q < j → wb q = false) ∧ (wr.cell? ⟨w1.heap.size, 0, none⟩ = some (iv kk) ∧ wr.cell? ⟨w1.heap.size, 1, none⟩ = some (iv t) ∧ wr.cell? ⟨w1.heap.size, 2, none⟩ = some (iv bl) ∧ wr.cell? ⟨w1.heap.size, 3, none⟩ = some (iv bh) ∧ wr.cell? ⟨w1.heap.size, 4, none⟩ = some (iv h) ∧ wr.cell? ⟨w1.heap.size, 5, none⟩ = some (iv nl) ∧ wr.cell? ⟨w1.heap.size, 6, none⟩ = some (iv nh) ∧ wr.cell? ⟨w1.heap.size, 7, none⟩ = some (.slice fa F.length fc)) ∧ w1.heap.size < wr.heap.size ∧ Hid (Below w.heap.size w wr)) (fun i _ _ => F.length - (intOf i).toNat)
  case atStart =>
    refine ⟨0, Nat.zero_le _, rfl, fun q hq => absurd hq (by omega), ⟨?_, ?_, ?_, ?_, ?_, ?_, ?_, ?_⟩, ?_, ?_⟩
    all_goals first | (go_simp; done) | (simp; done) | skip
    exact (by repeat (first | exact Below.refl _ _ | refine Below.drew ?_ | refine bpush ?_ _ | refine bput ?_ (by simp) _ | (refine bstep ?_ (by assumption))))
  case round =>
    obtain ⟨j, hj, rfl, HA, ⟨c0, c1, c2, c3, c4, c5, c6, c7⟩, hlr, HB⟩ := hrel
    by_cases hlt : j < F.length
    · obtain ⟨N, n24, HW, HL, HST⟩ := HALL.out j
      have HFr := Lib.hid (HF.out.below HB.out)
      have hF3 := HFr.out
      have hBB : Below wr.heap.size wr wr := Below.refl _ _
      have e1 : IntKind.i64.wrap ((N : Int) - (j : Int)) = (N : Int) - (j : Int) := IntWalk.i64_in _ ⟨by omega, by omega⟩
      go_wp2_with fail
      go_region_held3 (fun w' => w'.cell? ⟨w1.heap.size, 0, none⟩ = some (iv kk) ∧ w'.cell? ⟨w1.heap.size, 1, none⟩ = some (iv t) ∧ w'.cell? ⟨w1.heap.size, 2, none⟩ = some (iv bl) ∧ w'.cell? ⟨w1.heap.size, 3, none⟩ = some (iv bh) ∧ w'.cell? ⟨w1.heap.size, 4, none⟩ = some (iv h) ∧ w'.cell? ⟨w1.heap.size, 5, none⟩ = some (iv nl) ∧ w'.cell? ⟨w1.heap.size, 6, none⟩ = some (iv nh) ∧ w'.cell? ⟨w1.heap.size, 7, none⟩ = some (.slice fa F.length fc) ∧ SliceOf encS 2 w' (.slice fa F.length fc) F ∧ Below wr.heap.size wr w')
        (first | (go_split_ands; refine ⟨?_, ?_, ?_, ?_, ?_, ?_, ?_, ?_, ?_, ?_⟩ <;> first | exact kcell hbC (by assumption) | exact SliceOf.below (by assumption) hbC | exact bstep (by assumption) hbC | exact kcell hbL (by assumption) | exact SliceOf.below (by assumption) hbL | exact bstep (by assumption) hbL | exact kcell hbS (by assumption) | exact SliceOf.below (by assumption) hbS | exact bstep (by assumption) hbS) | (refine ⟨?_, ?_, ?_, ?_, ?_, ?_, ?_, ?_, ?_, ?_⟩ <;> first | go_keep | exact SliceOf.below (by assumption) ((Below.refl _ _).drew) | exact Below.drew (by assumption)))
        (first | ((with_reducible refine (HcL.out).mono ?_); rintro e wc ⟨rfl, hbC⟩) | (go_split_ands; (with_reducible refine (HL.out _ _ _ _ (by assumption) (by assumption)).mono ?_); rintro e wl ⟨le, lv, lp, rfl, hcL, hbL⟩; unfold Counts at hcL; have HcL := Lib.hid hcL; clear hcL) | ((with_reducible refine (HST.out _).mono ?_); rintro e ws ⟨pa, rfl, hpi, hbS⟩))
      rename_i hHeld
      obtain ⟨d0, d1, d2, d3, d4, d5, d6, d7, -, hbx⟩ := hHeld
      have HBX := Lib.hid (bstep HB.out hbx)
      have hz := hbx.size
      clear hbC hbL hbS hpi HcL e1 c0 c1 c2 c3 c4 c5 c6 c7 hbx hF3 hBB
      by_cases hle : hours ≤ (N : Int) - (j : Int)
      · have HE : Hid (wo = some j) := HS.out j HA.out hlt (by rw [HW.out]; simpa using hle)
        go_wp2_with fail
        go_ret2
        exact ⟨by rw [HE.out]; rfl, HBX.out⟩
      · have HE : Hid (wb j = false) := by rw [HW.out]; simpa [Hid] using hle
        go_wp2_with fail
        go_roundw
        case rel =>
          refine ⟨j + 1, by omega, by go_num, fun q hq => ?_, ⟨d0, d1, d2, d3, d4, d5, d6, d7⟩, by omega, HBX.out⟩
          by_cases h : q = j
          · rw [h]; exact HE.out
          · exact HA.out q (by omega)
        case measure => simp [intOf]; omega
    · obtain rfl : j = F.length := by omega
      have HE : Hid (wo = none) := HN.out HA.out
      clear c0 c1 c2 c3 c4 c5 c6 c7
      go_wp2_with fail
      go_ret2
      exact ⟨by rw [HE.out]; rfl, HB.out⟩
end Go.Proofs.Ytiellodbdidgoaa
