/- firstHour of package cloth, with the two conditions that Below hands it. -/
import Derived.Test.YteoejhldmeompaaBhr
namespace Go.Proofs.Yteoejhldmeompaa
open Go Go.RowKit Go.Shelf

/-- The first hour at which a condition holds, and 49 if there is none. -/
def firstHr (p : Nat → Bool) : Nat := ((List.range 49).find? p).getD 49
theorem find_range (p : Nat → Bool) (n k : Nat) (hk : k < n) (ha : ∀ j, j < k → p j = false) (hp : p k = true) : (List.range n).find? p = some k := by
  rw [List.find?_eq_some_iff_getElem]
  refine ⟨hp, k, by simpa using hk, by simp, fun j hj => ?_⟩
  simp [ha j hj]
theorem firstHr_at (p : Nat → Bool) {k : Nat} (hk : k < 49) (ha : ∀ j, j < k → p j = false) (hp : p k = true) : firstHr p = k := by
  rw [firstHr, find_range p 49 k hk ha hp]; rfl
theorem firstHr_none (p : Nat → Bool) (ha : ∀ j, j < 49 → p j = false) : firstHr p = 49 := by
  rw [firstHr, List.find?_eq_none.2 (fun x hx => by simp [ha x (by simpa using hx)])]; rfl

set_option maxRecDepth 20000 in
set_option maxHeartbeats 1600000 in
theorem highIs_any (f : Nat → Str) (limit : Int) (bl bm h : Nat) (w : World) (hh : h < 49) (hl : w.heap[bl]? = some (.cells (brow f) 71 (0, 0))) (hm : w.cell? ⟨bm, 0, none⟩ = some (iv limit)) :
    Calls Try.prog 20 #[iv h, .pointer (some ⟨bl, 0, none⟩), .pointer (some ⟨bm, 0, none⟩)] w fun e w' => e = .returned (.bool (decide ((f h).h ≤ limit))) ∧ Below w.heap.size w w' := by
  have c0 : w.cell? ⟨bl, h * 3, none⟩ = some (iv (f h).l) := by rw [cell_of_row _ _ _ _ _ _ hl]; exact brow_l f hh
  have c1 : w.cell? ⟨bl, h * 3 + 1, none⟩ = some (iv (f h).h) := by rw [cell_of_row _ _ _ _ _ _ hl]; exact brow_h f hh
  have i0 : (0 : Int) ≤ (h : Int) := by omega
  have i1 : (h : Int) < 49 := by omega
  clear hl
  go_enter Try.func20, Try.ntmps20
  go_wp2_with fail
  go_region
  go_wp2_with fail
  go_ret
  exact ⟨rfl, (by repeat (first | exact Below.refl _ _ | refine Below.drew ?_ | refine bpush ?_ _ | refine bput ?_ (by simp) _ | (refine bstep ?_ (by assumption))))⟩

set_option maxRecDepth 20000 in
set_option maxHeartbeats 1600000 in
theorem firstHigh_any (f : Nat → Str) (limit : Int) (bl bm : Nat) (w : World) (hl : w.heap[bl]? = some (.cells (brow f) 71 (0, 0))) (hm : w.cell? ⟨bm, 0, none⟩ = some (iv limit)) :
    Calls Try.prog 19 #[.func (.func 20) #[] #[.pointer (some ⟨bl, 0, none⟩), .pointer (some ⟨bm, 0, none⟩)]] w fun e w' => e = .returned (iv (firstHr fun h => decide ((f h).h ≤ limit))) ∧ Below w.heap.size w w' := by
  have HL := Lib.hid hl; have HM := Lib.hid hm
  clear hl hm
  go_enter Try.func19, Try.ntmps19
  go_wp2
  go_loopw [4, 3] (fun i _ wr => ∃ k : Nat, k ≤ 49 ∧ i = iv k ∧ (∀ j, j < k → decide ((f j).h ≤ limit) = false) ∧ Below w.heap.size w wr) (fun i _ _ => 49 - (intOf i).toNat)
  case atStart => exact ⟨0, by omega, rfl, fun _ h => by omega, Below.refl _ _⟩
  case round =>
    obtain ⟨k, hk, rfl, hall, hb⟩ := hrel
    have HA := Lib.hid hall; clear hall
    have HB := Lib.hid hb; clear hb
    by_cases hlt : k < 49
    · have hl2 := Lib.hid ((HB.out.block bl (Array.getElem?_eq_some_iff.1 HL.out).1).trans HL.out)
      have hm2 := Lib.hid ((HB.out.cell (p := ⟨bm, 0, none⟩) (lt_of_cell HM.out)).trans HM.out)
      cases hp : decide ((f k).h ≤ limit)
      · have HP := Lib.hid hp; clear hp
        go_wp2_with fail
        refine (highIs_any f limit bl bm k wr hlt hl2.out hm2.out).mono ?_
        rintro e w1 ⟨he, hb1⟩
        rw [HP.out] at he; subst he
        have HB1 := Lib.hid (bstep HB.out hb1); clear hb1
        go_wp2_with fail
        go_roundw
        case rel =>
          refine ⟨k + 1, by omega, by go_num, fun j hj => ?_, HB1.out⟩
          by_cases hjk : j = k
          · subst hjk; exact HP.out
          · exact HA.out j (by omega)
        case measure => simp [intOf]; omega
      · have HP := Lib.hid hp; clear hp
        have HR : Hid (firstHr (fun h => decide ((f h).h ≤ limit)) = k) := firstHr_at _ hlt HA.out HP.out
        go_wp2_with fail
        refine (highIs_any f limit bl bm k wr hlt hl2.out hm2.out).mono ?_
        rintro e w1 ⟨he, hb1⟩
        rw [HP.out] at he; subst he
        have HB1 := Lib.hid (bstep HB.out hb1); clear hb1
        go_wp2_with fail
        go_ret
        exact ⟨by rw [HR.out]; rfl, HB1.out⟩
    · obtain rfl : k = 49 := by omega
      have HR : Hid (firstHr (fun h => decide ((f h).h ≤ limit)) = 49) := firstHr_none _ HA.out
      go_wp2_with fail
      go_ret
      exact ⟨by rw [HR.out]; rfl, HB.out⟩

set_option maxRecDepth 20000 in
set_option maxHeartbeats 1600000 in
theorem lowIs_any (f : Nat → Str) (limit : Int) (bl bm h : Nat) (w : World) (hh : h < 49) (hl : w.heap[bl]? = some (.cells (brow f) 71 (0, 0))) (hm : w.cell? ⟨bm, 0, none⟩ = some (iv limit)) :
    Calls Try.prog 21 #[iv h, .pointer (some ⟨bl, 0, none⟩), .pointer (some ⟨bm, 0, none⟩)] w fun e w' => e = .returned (.bool (decide ((f h).l ≤ limit))) ∧ Below w.heap.size w w' := by
  have c0 : w.cell? ⟨bl, h * 3, none⟩ = some (iv (f h).l) := by rw [cell_of_row _ _ _ _ _ _ hl]; exact brow_l f hh
  have c1 : w.cell? ⟨bl, h * 3 + 1, none⟩ = some (iv (f h).h) := by rw [cell_of_row _ _ _ _ _ _ hl]; exact brow_h f hh
  have i0 : (0 : Int) ≤ (h : Int) := by omega
  have i1 : (h : Int) < 49 := by omega
  clear hl
  go_enter Try.func21, Try.ntmps21
  go_wp2_with fail
  go_region
  go_wp2_with fail
  go_ret
  exact ⟨rfl, (by repeat (first | exact Below.refl _ _ | refine Below.drew ?_ | refine bpush ?_ _ | refine bput ?_ (by simp) _ | (refine bstep ?_ (by assumption))))⟩

set_option maxRecDepth 20000 in
set_option maxHeartbeats 1600000 in
theorem firstLow_any (f : Nat → Str) (limit : Int) (bl bm : Nat) (w : World) (hl : w.heap[bl]? = some (.cells (brow f) 71 (0, 0))) (hm : w.cell? ⟨bm, 0, none⟩ = some (iv limit)) :
    Calls Try.prog 19 #[.func (.func 21) #[] #[.pointer (some ⟨bl, 0, none⟩), .pointer (some ⟨bm, 0, none⟩)]] w fun e w' => e = .returned (iv (firstHr fun h => decide ((f h).l ≤ limit))) ∧ Below w.heap.size w w' := by
  have HL := Lib.hid hl; have HM := Lib.hid hm
  clear hl hm
  go_enter Try.func19, Try.ntmps19
  go_wp2
  go_loopw [4, 3] (fun i _ wr => ∃ k : Nat, k ≤ 49 ∧ i = iv k ∧ (∀ j, j < k → decide ((f j).l ≤ limit) = false) ∧ Below w.heap.size w wr) (fun i _ _ => 49 - (intOf i).toNat)
  case atStart => exact ⟨0, by omega, rfl, fun _ h => by omega, Below.refl _ _⟩
  case round =>
    obtain ⟨k, hk, rfl, hall, hb⟩ := hrel
    have HA := Lib.hid hall; clear hall
    have HB := Lib.hid hb; clear hb
    by_cases hlt : k < 49
    · have hl2 := Lib.hid ((HB.out.block bl (Array.getElem?_eq_some_iff.1 HL.out).1).trans HL.out)
      have hm2 := Lib.hid ((HB.out.cell (p := ⟨bm, 0, none⟩) (lt_of_cell HM.out)).trans HM.out)
      cases hp : decide ((f k).l ≤ limit)
      · have HP := Lib.hid hp; clear hp
        go_wp2_with fail
        refine (lowIs_any f limit bl bm k wr hlt hl2.out hm2.out).mono ?_
        rintro e w1 ⟨he, hb1⟩
        rw [HP.out] at he; subst he
        have HB1 := Lib.hid (bstep HB.out hb1); clear hb1
        go_wp2_with fail
        go_roundw
        case rel =>
          refine ⟨k + 1, by omega, by go_num, fun j hj => ?_, HB1.out⟩
          by_cases hjk : j = k
          · subst hjk; exact HP.out
          · exact HA.out j (by omega)
        case measure => simp [intOf]; omega
      · have HP := Lib.hid hp; clear hp
        have HR : Hid (firstHr (fun h => decide ((f h).l ≤ limit)) = k) := firstHr_at _ hlt HA.out HP.out
        go_wp2_with fail
        refine (lowIs_any f limit bl bm k wr hlt hl2.out hm2.out).mono ?_
        rintro e w1 ⟨he, hb1⟩
        rw [HP.out] at he; subst he
        have HB1 := Lib.hid (bstep HB.out hb1); clear hb1
        go_wp2_with fail
        go_ret
        exact ⟨by rw [HR.out]; rfl, HB1.out⟩
    · obtain rfl : k = 49 := by omega
      have HR : Hid (firstHr (fun h => decide ((f h).l ≤ limit)) = 49) := firstHr_none _ HA.out
      go_wp2_with fail
      go_ret
      exact ⟨by rw [HR.out]; rfl, HB.out⟩
end Go.Proofs.Yteoejhldmeompaa
