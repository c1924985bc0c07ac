/- elmHas. -/
import Derived.Test.YtdalilllakdamaaNe
namespace Go.Proofs.Ytdalilllakdamaa
open Go Go.RowKit Go.Shelf
attribute [local go_sem ↓] Go.wp_at_zero Go.wp_at_succ

set_option maxRecDepth 20000 in
set_option maxHeartbeats 6400000 in
theorem elmHas_any (xs : List Int) (x : Int) (v : Value) (w : World) (hx : Ints w v xs) :
    Calls Try.prog 7 #[v, iv x] w fun e w' => e = .returned (.bool (decide (x ∈ xs))) ∧ Below w.heap.size w w' := by
  have HX := Lib.hid hx
  obtain ⟨xa, xc, rfl, hxl, -⟩ := hx
  go_enter Try.func7, Try.ntmps7
  go_wp2_with fail
  go_loopw [5] (fun i wr => ∃ k : Nat, k ≤ xs.length ∧ i = iv k ∧ Hid (x ∉ xs.take k) ∧ Hid (Below w.heap.size w wr)) (fun i _ => xs.length - (intOf i).toNat)
  case atStart => exact ⟨0, Nat.zero_le _, rfl, (by simp [Hid]), Below.refl _ _⟩
  case round =>
    obtain ⟨k, hk, rfl, HT, HB⟩ := hrel
    by_cases hlt : k < xs.length
    · have y1 : decide ((k : Int) < (xs.length : Int)) = true := decide_eq_true (by omega)
      have y2 : decide (k < xs.length) = true := decide_eq_true hlt
      have hx1 := HX.out.below HB.out
      obtain ⟨xb, xo, rfl⟩ := slice_addrN hx1 (by omega)
      obtain ⟨z, hz⟩ := getElem?_of_lt hlt
      have c0 := intcellN hx1 hz
      have q0 : (0 : Int) ≤ (k : Int) := by omega
      have q1 : (k : Int) < (xs.length : Int) := by omega
      have HZ := Lib.hid hz
      clear hx1 hz
      by_cases he : z = x
      · subst he
        have e1 : (z == z) = true := by simp
        have HV : Hid (decide (z ∈ xs) = true) := decide_eq_true (List.mem_of_getElem? HZ.out)
        go_wp2_with fail
        go_ret
        exact ⟨by rw [HV.out]; rfl, HB.out⟩
      · have e1 : (z == x) = false := by simpa using he
        have HT2 : Hid (x ∉ xs.take (k + 1)) := by
          simp only [Hid]; rw [List.take_add_one, HZ.out]
          simp only [Option.toList_some, List.mem_append, List.mem_singleton, not_or]
          exact ⟨HT.out, fun e => he e.symm⟩
        go_wp2_with fail
        go_roundw
        case rel => exact ⟨k + 1, by omega, by go_num, HT2, HB.out⟩
        case measure => simp [intOf]; omega
    · obtain rfl : k = xs.length := by omega
      have HV : Hid (decide (x ∈ xs) = false) := decide_eq_false (by have := HT.out; rwa [List.take_length] at this)
      go_wp2_with fail
      go_ret
      exact ⟨by rw [HV.out]; rfl, HB.out⟩
end Go.Proofs.Ytdalilllakdamaa
