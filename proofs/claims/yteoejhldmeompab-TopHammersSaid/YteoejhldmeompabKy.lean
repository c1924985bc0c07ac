/- A felt made of bytes: ElmFelt.thick and fit. -/
import Derived.Test.YteoejhldmeompabKx
namespace Go.Proofs.Yteoejhldmeompab
open Go Go.RowKit Go.Shelf
attribute [local go_sem ↓] Go.wp_at_zero Go.wp_at_succ

/-- How thick a part truly is after so many hours. -/
def efTh (b : Nat → Int) (p : Nat) : Nat → Int
  | 0 => efN b p
  | h + 1 => efTh b p h + if (b 9 % 2 + (h : Int) / (1 + b 8 % 12)) % 2 = (p : Int) then efS b else efW b
theorem efTh_bd {b : Nat → Int} (hb : ∀ i, 0 ≤ b i ∧ b i ≤ 255) (p : Nat) : ∀ h : Nat, 5 ≤ efTh b p h ∧ efTh b p h ≤ 44 + 17 * (h : Int)
  | 0 => by have := hb (2 * p); simp only [efTh, efN]; omega
  | h + 1 => by
    have h4 := hb 4; have h5 := hb 5
    have := efTh_bd hb p h
    simp only [efTh]
    split <;> simp only [efS, efW] <;> omega
/-- Whether it truly is full and not harmed. -/
def efFit (b : Nat → Int) (h : Nat) : Bool := decide ((efFe b).full ≤ efTh b 0 h) && (decide (efTh b 0 h ≤ (efFe b).harm) && (decide ((efFe b).full ≤ efTh b 1 h) && decide (efTh b 1 h ≤ (efFe b).harm)))

set_option maxRecDepth 20000 in
set_option maxHeartbeats 6400000 in
theorem elmThick_any (b : Nat → Int) (p h : Nat) (w : World) (hb : ∀ i, 0 ≤ b i ∧ b i ≤ 255) (hp : p < 2) (hh : h ≤ 1000) :
    Calls Try.prog 24 #[.agg (fyCells b), iv p, iv h] w fun e w' => e = .returned (iv (efTh b p h)) ∧ Below w.heap.size w w' := by
  have HBN := Lib.hid hb
  have HBD := Lib.hid (efTh_bd hb p)
  have h4 := hb 4; have h5 := hb 5; have h8 := hb 8; have h9 := hb 9
  have bS : 6 ≤ efS b ∧ efS b ≤ 17 := by simp only [efS]; omega
  have bW : 0 ≤ efW b ∧ efW b ≤ 4 := by simp only [efW]; omega
  have HFe : Hid (efFe b = ⟨efS b - b 6 % 2, efS b + b 6 / 16 % 3, max 0 (efW b - b 7 % 2), efW b, 1 + b 8 % 12, b 9 % 2, (efFe b).full, (efFe b).harm⟩) := rfl
  have HTh : Hid (∀ k : Nat, efTh b p (k + 1) = efTh b p k + if (b 9 % 2 + (k : Int) / (1 + b 8 % 12)) % 2 = (p : Int) then efS b else efW b) := fun k => rfl
  have HT0 : Hid (efTh b p 0 = efN b p) := rfl
  have bT : 1 ≤ 1 + b 8 % 12 ∧ 1 + b 8 % 12 ≤ 12 := by omega
  have bU : 0 ≤ b 9 % 2 ∧ b 9 % 2 ≤ 1 := by omega
  obtain ⟨Wn, hWn⟩ : ∃ Wn : World, w.alloc (.cells (fyCells b) 26) = Wn := ⟨_, rfl⟩
  have hBw : Below w.heap.size w Wn := by rw [← hWn]; exact bpush (Below.refl _ _) _
  have hrw : Wn.heap[w.heap.size]? = some (.cells (fyCells b) 26 (0, 0)) := by rw [← hWn]; exact heap_new _ _ _
  have HBW := Lib.hid hBw; have HRW := Lib.hid hrw
  have l0 : Wn.cell? ⟨w.heap.size, 0, none⟩ = some (Yteoejhldmeompab.u8 (b 0)) := by rw [cell_of_row _ _ _ _ _ _ hrw]; rfl
  have l1 : Wn.cell? ⟨w.heap.size, 1, none⟩ = some (Yteoejhldmeompab.u8 (b 1)) := by rw [cell_of_row _ _ _ _ _ _ hrw]; rfl
  have l2 : Wn.cell? ⟨w.heap.size, 2, none⟩ = some (Yteoejhldmeompab.u8 (b 2)) := by rw [cell_of_row _ _ _ _ _ _ hrw]; rfl
  have l3 : Wn.cell? ⟨w.heap.size, 3, none⟩ = some (Yteoejhldmeompab.u8 (b 3)) := by rw [cell_of_row _ _ _ _ _ _ hrw]; rfl
  have l4 : Wn.cell? ⟨w.heap.size, 4, none⟩ = some (Yteoejhldmeompab.u8 (b 4)) := by rw [cell_of_row _ _ _ _ _ _ hrw]; rfl
  have l5 : Wn.cell? ⟨w.heap.size, 5, none⟩ = some (Yteoejhldmeompab.u8 (b 5)) := by rw [cell_of_row _ _ _ _ _ _ hrw]; rfl
  have l6 : Wn.cell? ⟨w.heap.size, 6, none⟩ = some (Yteoejhldmeompab.u8 (b 6)) := by rw [cell_of_row _ _ _ _ _ _ hrw]; rfl
  have l7 : Wn.cell? ⟨w.heap.size, 7, none⟩ = some (Yteoejhldmeompab.u8 (b 7)) := by rw [cell_of_row _ _ _ _ _ _ hrw]; rfl
  have l8 : Wn.cell? ⟨w.heap.size, 8, none⟩ = some (Yteoejhldmeompab.u8 (b 8)) := by rw [cell_of_row _ _ _ _ _ _ hrw]; rfl
  have l9 : Wn.cell? ⟨w.heap.size, 9, none⟩ = some (Yteoejhldmeompab.u8 (b 9)) := by rw [cell_of_row _ _ _ _ _ _ hrw]; rfl
  have l10 : Wn.cell? ⟨w.heap.size, 10, none⟩ = some (Yteoejhldmeompab.u8 (b 10)) := by rw [cell_of_row _ _ _ _ _ _ hrw]; rfl
  have l11 : Wn.cell? ⟨w.heap.size, 11, none⟩ = some (Yteoejhldmeompab.u8 (b 11)) := by rw [cell_of_row _ _ _ _ _ _ hrw]; rfl
  simp only [fyCells] at hWn ⊢
  clear hrw hBw hb h4 h5 h8 h9
  go_enter Try.func24, Try.ntmps24
  go_wp2_with fail
  refine (elmFelt_any b _ HBN.out).mono ?_
  rintro e w1 ⟨pg, pc, rfl, -, hb1⟩
  rw [HFe.out]
  clear l0 l1 l2 l3 l4 l5 l6 l7 l8 l9 l10 l11
  have h01 := bblk hb1 HRW.out
  have HB1 := Lib.hid (bstep HBW.out hb1)
  have hz1 : w.heap.size < w1.heap.size := (Array.getElem?_eq_some_iff.1 h01).1
  have HZ1 := Lib.hid hz1
  have l0 : w1.cell? ⟨w.heap.size, 0, none⟩ = some (Yteoejhldmeompab.u8 (b 0)) := by rw [cell_of_row _ _ _ _ _ _ h01]; rfl
  have l1 : w1.cell? ⟨w.heap.size, 1, none⟩ = some (Yteoejhldmeompab.u8 (b 1)) := by rw [cell_of_row _ _ _ _ _ _ h01]; rfl
  have l2 : w1.cell? ⟨w.heap.size, 2, none⟩ = some (Yteoejhldmeompab.u8 (b 2)) := by rw [cell_of_row _ _ _ _ _ _ h01]; rfl
  have l3 : w1.cell? ⟨w.heap.size, 3, none⟩ = some (Yteoejhldmeompab.u8 (b 3)) := by rw [cell_of_row _ _ _ _ _ _ h01]; rfl
  have l4 : w1.cell? ⟨w.heap.size, 4, none⟩ = some (Yteoejhldmeompab.u8 (b 4)) := by rw [cell_of_row _ _ _ _ _ _ h01]; rfl
  have l5 : w1.cell? ⟨w.heap.size, 5, none⟩ = some (Yteoejhldmeompab.u8 (b 5)) := by rw [cell_of_row _ _ _ _ _ _ h01]; rfl
  have l6 : w1.cell? ⟨w.heap.size, 6, none⟩ = some (Yteoejhldmeompab.u8 (b 6)) := by rw [cell_of_row _ _ _ _ _ _ h01]; rfl
  have l7 : w1.cell? ⟨w.heap.size, 7, none⟩ = some (Yteoejhldmeompab.u8 (b 7)) := by rw [cell_of_row _ _ _ _ _ _ h01]; rfl
  have l8 : w1.cell? ⟨w.heap.size, 8, none⟩ = some (Yteoejhldmeompab.u8 (b 8)) := by rw [cell_of_row _ _ _ _ _ _ h01]; rfl
  have l9 : w1.cell? ⟨w.heap.size, 9, none⟩ = some (Yteoejhldmeompab.u8 (b 9)) := by rw [cell_of_row _ _ _ _ _ _ h01]; rfl
  have l10 : w1.cell? ⟨w.heap.size, 10, none⟩ = some (Yteoejhldmeompab.u8 (b 10)) := by rw [cell_of_row _ _ _ _ _ _ h01]; rfl
  have l11 : w1.cell? ⟨w.heap.size, 11, none⟩ = some (Yteoejhldmeompab.u8 (b 11)) := by rw [cell_of_row _ _ _ _ _ _ h01]; rfl
  clear hb1 HFe
  simp only [stcells]
  generalize (efFe b).full = FU at *
  generalize (efFe b).harm = HA at *
  generalize b 8 % 12 = x8 at *
  generalize b 9 % 2 = x9 at *
  go_wp2_with fail
  obtain ⟨W2, hW2⟩ : ∃ W : World, w1.alloc (.cells #[.slice (some ⟨pg, 0, none⟩) 2 pc, iv (efS b - b 6 % 2), iv (efS b + b 6 / 16 % 3), iv (max 0 (efW b - b 7 % 2)), iv (efW b), iv (1 + x8), iv x9, iv FU, iv HA, .slice none 0 0] 36) = W := ⟨_, rfl⟩
  have HR2 : Hid (W2.heap[w1.heap.size]? = some (.cells #[.slice (some ⟨pg, 0, none⟩) 2 pc, iv (efS b - b 6 % 2), iv (efS b + b 6 / 16 % 3), iv (max 0 (efW b - b 7 % 2)), iv (efW b), iv (1 + x8), iv x9, iv FU, iv HA, .slice none 0 0] 36 (0, 0))) := by rw [← hW2]; exact heap_new _ _ _
  have HB2 : Hid (Below w.heap.size w W2) := by rw [← hW2]; exact bpush HB1.out _
  rw [hW2]
  clear hW2 l0 l1 l2 l3 l4 l5 l6 l7 l8 l9 l10 l11
  refine (elmFirst_any b p _ HBN.out hp).mono ?_
  rintro e w3 ⟨rfl, hb3⟩
  have HB3 := Lib.hid (bstep HB2.out hb3)
  have HR3 := Lib.hid (bblk hb3 HR2.out)
  clear hb3
  rw [← HT0.out]
  go_wp2_with fail
  go_loopw [10, 11] (fun n i wr => ∃ k : Nat, k ≤ h ∧ i = iv k ∧ n = iv (efTh b p k) ∧ Hid (Below w.heap.size w wr) ∧ Hid (wr.heap[w1.heap.size]? = some (.cells #[.slice (some ⟨pg, 0, none⟩) 2 pc, iv (efS b - b 6 % 2), iv (efS b + b 6 / 16 % 3), iv (max 0 (efW b - b 7 % 2)), iv (efW b), iv (1 + x8), iv x9, iv FU, iv HA, .slice none 0 0] 36 (0, 0)))) (fun _ i _ => h - (intOf i).toNat)
  case atStart => exact ⟨0, Nat.zero_le _, rfl, rfl, HB3.out, HR3.out⟩
  case round =>
    obtain ⟨k, hk, rfl, rfl, HBR, HRR⟩ := hrel
    have hlo := (HBD.out k).1
    have hhi := (HBD.out k).2
    have HN := Lib.hid (HTh.out k)
    by_cases hlt : k < h
    · have hlt' : (k : Int) < (h : Int) := by omega
      have c5 : wr.cell? ⟨w1.heap.size, 5, none⟩ = some (iv (1 + x8)) := by rw [cell_of_row _ _ _ _ _ _ HRR.out]; rfl
      have c6 : wr.cell? ⟨w1.heap.size, 6, none⟩ = some (iv x9) := by rw [cell_of_row _ _ _ _ _ _ HRR.out]; rfl
      have hq0 : 0 ≤ (k : Int) / (1 + x8) := Int.ediv_nonneg (by omega) (by omega)
      have hq1 : (k : Int) / (1 + x8) ≤ k := Int.ediv_le_self _ (by omega)
      have t1 : (k : Int).tdiv (1 + x8) = (k : Int) / (1 + x8) := Int.tdiv_eq_ediv_of_nonneg (by omega)
      generalize (k : Int) / (1 + x8) = q at *
      have t2 : (x9 + q).tmod 2 = (x9 + q) % 2 := Int.tmod_eq_emod_of_nonneg (by omega)
      have g1 : IntKind.i64.wrap q = q := IntWalk.i64_in _ ⟨by omega, by omega⟩
      have g2 : IntKind.i64.wrap (x9 + q) = x9 + q := IntWalk.i64_in _ ⟨by omega, by omega⟩
      have hne : ¬ (1 + x8 = 0) := by omega
      generalize efTh b p k = y at *
      have g3 : IntKind.i64.wrap (y + efS b) = y + efS b := IntWalk.i64_in _ ⟨by omega, by omega⟩
      have g4 : IntKind.i64.wrap (y + efW b) = y + efW b := IntWalk.i64_in _ ⟨by omega, by omega⟩
      by_cases hc : (x9 + q) % 2 = (p : Int)
      · have HN2 : Hid (efTh b p (k + 1) = y + efS b) := by have := HN.out; rw [if_pos hc] at this; exact this
        go_wp2_with fail
        go_quiet (fail)
        go_wp2_with fail
        go_roundw
        case rel => exact ⟨k + 1, by omega, by go_num, by rw [HN2.out], bdrewK HBR.out _, HRR.out⟩
        case measure => simp [intOf]; omega
      · have HN2 : Hid (efTh b p (k + 1) = y + efW b) := by have := HN.out; rw [if_neg hc] at this; exact this
        go_wp2_with fail
        go_quiet (fail)
        go_wp2_with fail
        go_roundw
        case rel => exact ⟨k + 1, by omega, by go_num, by rw [HN2.out], bdrewK HBR.out _, HRR.out⟩
        case measure => simp [intOf]; omega
    · obtain rfl : k = h := by omega
      go_wp2_with fail
      go_ret
      exact ⟨rfl, HBR.out⟩
end Go.Proofs.Yteoejhldmeompab
