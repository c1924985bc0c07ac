/- A felt made of bytes: ElmFelt.fit. -/
import Derived.Test.YteoejhldmeompabKy
namespace Go.Proofs.Yteoejhldmeompab
open Go Go.RowKit Go.Shelf
attribute [local go_sem ↓] Go.wp_at_zero Go.wp_at_succ

set_option maxRecDepth 20000 in
set_option maxHeartbeats 12800000 in
theorem elmFit_any (b : Nat → Int) (h : Nat) (w : World) (hb : ∀ i, 0 ≤ b i ∧ b i ≤ 255) (hh : h ≤ 1000) :
    Calls Try.prog 10 #[.agg (fyCells b), iv h] w fun e w' => e = .returned (.bool (efFit b h)) ∧ Below w.heap.size w w' := by
  have HBN := Lib.hid hb
  have HFe : Hid (efFe b = ⟨efS b - b 6 % 2, efS b + b 6 / 16 % 3, max 0 (efW b - b 7 % 2), efW b, 1 + b 8 % 12, b 9 % 2, (efFe b).full, (efFe b).harm⟩) := rfl
  have HFit : Hid (efFit b h = (decide ((efFe b).full ≤ efTh b 0 h) && (decide (efTh b 0 h ≤ (efFe b).harm) && (decide ((efFe b).full ≤ efTh b 1 h) && decide (efTh b 1 h ≤ (efFe b).harm))))) := rfl
  have HT0 : Hid (∀ W : World, Calls Try.prog 24 #[.agg (fyCells b), iv 0, iv h] W fun e w' => e = .returned (iv (efTh b 0 h)) ∧ Below W.heap.size W w') := fun W => elmThick_any b 0 h W hb (by omega) hh
  have HT1 : Hid (∀ W : World, Calls Try.prog 24 #[.agg (fyCells b), iv 1, iv h] W fun e w' => e = .returned (iv (efTh b 1 h)) ∧ Below W.heap.size W w') := fun W => elmThick_any b 1 h W hb (by omega) hh
  rw [HFit.out]
  generalize (efFe b).full = FU at *
  generalize (efFe b).harm = HA at *
  generalize hTA : efTh b 0 h = TA at *
  generalize hTB : efTh b 1 h = TB at *
  obtain ⟨Wn, hWn⟩ : ∃ Wn : World, w.alloc (.cells (fyCells b) 26) = Wn := ⟨_, rfl⟩
  have hBw : Below w.heap.size w Wn := by rw [← hWn]; exact bpush (Below.refl _ _) _
  have hrw : Wn.heap[w.heap.size]? = some (.cells (fyCells b) 26 (0, 0)) := by rw [← hWn]; exact heap_new _ _ _
  have HBW := Lib.hid hBw; have HRW := Lib.hid hrw
  have l0 : Wn.cell? ⟨w.heap.size, 0, none⟩ = some (Yteoejhldmeompab.u8 (b 0)) := by rw [cell_of_row _ _ _ _ _ _ hrw]; rfl
  have l1 : Wn.cell? ⟨w.heap.size, 1, none⟩ = some (Yteoejhldmeompab.u8 (b 1)) := by rw [cell_of_row _ _ _ _ _ _ hrw]; rfl
  have l2 : Wn.cell? ⟨w.heap.size, 2, none⟩ = some (Yteoejhldmeompab.u8 (b 2)) := by rw [cell_of_row _ _ _ _ _ _ hrw]; rfl
  have l3 : Wn.cell? ⟨w.heap.size, 3, none⟩ = some (Yteoejhldmeompab.u8 (b 3)) := by rw [cell_of_row _ _ _ _ _ _ hrw]; rfl
  have l4 : Wn.cell? ⟨w.heap.size, 4, none⟩ = some (Yteoejhldmeompab.u8 (b 4)) := by rw [cell_of_row _ _ _ _ _ _ hrw]; rfl
  have l5 : Wn.cell? ⟨w.heap.size, 5, none⟩ = some (Yteoejhldmeompab.u8 (b 5)) := by rw [cell_of_row _ _ _ _ _ _ hrw]; rfl
  have l6 : Wn.cell? ⟨w.heap.size, 6, none⟩ = some (Yteoejhldmeompab.u8 (b 6)) := by rw [cell_of_row _ _ _ _ _ _ hrw]; rfl
  have l7 : Wn.cell? ⟨w.heap.size, 7, none⟩ = some (Yteoejhldmeompab.u8 (b 7)) := by rw [cell_of_row _ _ _ _ _ _ hrw]; rfl
  have l8 : Wn.cell? ⟨w.heap.size, 8, none⟩ = some (Yteoejhldmeompab.u8 (b 8)) := by rw [cell_of_row _ _ _ _ _ _ hrw]; rfl
  have l9 : Wn.cell? ⟨w.heap.size, 9, none⟩ = some (Yteoejhldmeompab.u8 (b 9)) := by rw [cell_of_row _ _ _ _ _ _ hrw]; rfl
  have l10 : Wn.cell? ⟨w.heap.size, 10, none⟩ = some (Yteoejhldmeompab.u8 (b 10)) := by rw [cell_of_row _ _ _ _ _ _ hrw]; rfl
  have l11 : Wn.cell? ⟨w.heap.size, 11, none⟩ = some (Yteoejhldmeompab.u8 (b 11)) := by rw [cell_of_row _ _ _ _ _ _ hrw]; rfl
  simp only [fyCells] at hWn HT0 HT1 ⊢
  clear hrw hBw hb
  go_enter Try.func10, Try.ntmps10
  go_wp2_with fail
  refine (elmFelt_any b _ HBN.out).mono ?_
  rintro e w1 ⟨pg, pc, rfl, -, hb1⟩
  rw [HFe.out]
  clear l0 l1 l2 l3 l4 l5 l6 l7 l8 l9 l10 l11
  have h01 := bblk hb1 HRW.out
  have HB1 := Lib.hid (bstep HBW.out hb1)
  have hz1 : w.heap.size < w1.heap.size := (Array.getElem?_eq_some_iff.1 h01).1
  have l0 : w1.cell? ⟨w.heap.size, 0, none⟩ = some (Yteoejhldmeompab.u8 (b 0)) := by rw [cell_of_row _ _ _ _ _ _ h01]; rfl
  have l1 : w1.cell? ⟨w.heap.size, 1, none⟩ = some (Yteoejhldmeompab.u8 (b 1)) := by rw [cell_of_row _ _ _ _ _ _ h01]; rfl
  have l2 : w1.cell? ⟨w.heap.size, 2, none⟩ = some (Yteoejhldmeompab.u8 (b 2)) := by rw [cell_of_row _ _ _ _ _ _ h01]; rfl
  have l3 : w1.cell? ⟨w.heap.size, 3, none⟩ = some (Yteoejhldmeompab.u8 (b 3)) := by rw [cell_of_row _ _ _ _ _ _ h01]; rfl
  have l4 : w1.cell? ⟨w.heap.size, 4, none⟩ = some (Yteoejhldmeompab.u8 (b 4)) := by rw [cell_of_row _ _ _ _ _ _ h01]; rfl
  have l5 : w1.cell? ⟨w.heap.size, 5, none⟩ = some (Yteoejhldmeompab.u8 (b 5)) := by rw [cell_of_row _ _ _ _ _ _ h01]; rfl
  have l6 : w1.cell? ⟨w.heap.size, 6, none⟩ = some (Yteoejhldmeompab.u8 (b 6)) := by rw [cell_of_row _ _ _ _ _ _ h01]; rfl
  have l7 : w1.cell? ⟨w.heap.size, 7, none⟩ = some (Yteoejhldmeompab.u8 (b 7)) := by rw [cell_of_row _ _ _ _ _ _ h01]; rfl
  have l8 : w1.cell? ⟨w.heap.size, 8, none⟩ = some (Yteoejhldmeompab.u8 (b 8)) := by rw [cell_of_row _ _ _ _ _ _ h01]; rfl
  have l9 : w1.cell? ⟨w.heap.size, 9, none⟩ = some (Yteoejhldmeompab.u8 (b 9)) := by rw [cell_of_row _ _ _ _ _ _ h01]; rfl
  have l10 : w1.cell? ⟨w.heap.size, 10, none⟩ = some (Yteoejhldmeompab.u8 (b 10)) := by rw [cell_of_row _ _ _ _ _ _ h01]; rfl
  have l11 : w1.cell? ⟨w.heap.size, 11, none⟩ = some (Yteoejhldmeompab.u8 (b 11)) := by rw [cell_of_row _ _ _ _ _ _ h01]; rfl
  clear hb1 HFe HFit
  simp only [stcells]
  go_wp2_with fail
  have HRn : (w1.alloc (.cells #[.slice (some ⟨pg, 0, none⟩) 2 pc, iv (efS b - b 6 % 2), iv (efS b + b 6 / 16 % 3), iv (max 0 (efW b - b 7 % 2)), iv (efW b), iv (1 + b 8 % 12), iv (b 9 % 2), iv FU, iv HA, .slice none 0 0] 36)).heap[w1.heap.size]? = some (.cells #[.slice (some ⟨pg, 0, none⟩) 2 pc, iv (efS b - b 6 % 2), iv (efS b + b 6 / 16 % 3), iv (max 0 (efW b - b 7 % 2)), iv (efW b), iv (1 + b 8 % 12), iv (b 9 % 2), iv FU, iv HA, .slice none 0 0] 36 (0, 0)) := heap_new _ _ _
  have HB2 : Below w.heap.size w (w1.alloc (.cells #[.slice (some ⟨pg, 0, none⟩) 2 pc, iv (efS b - b 6 % 2), iv (efS b + b 6 / 16 % 3), iv (max 0 (efW b - b 7 % 2)), iv (efW b), iv (1 + b 8 % 12), iv (b 9 % 2), iv FU, iv HA, .slice none 0 0] 36)) := bpush HB1.out _
  have h02 := (bpush (Below.refl _ w1) (.cells #[.slice (some ⟨pg, 0, none⟩) 2 pc, iv (efS b - b 6 % 2), iv (efS b + b 6 / 16 % 3), iv (max 0 (efW b - b 7 % 2)), iv (efW b), iv (1 + b 8 % 12), iv (b 9 % 2), iv FU, iv HA, .slice none 0 0] 36)).block w.heap.size hz1 |>.trans h01
  clear l0 l1 l2 l3 l4 l5 l6 l7 l8 l9 l10 l11
  generalize w1.alloc (.cells #[.slice (some ⟨pg, 0, none⟩) 2 pc, iv (efS b - b 6 % 2), iv (efS b + b 6 / 16 % 3), iv (max 0 (efW b - b 7 % 2)), iv (efW b), iv (1 + b 8 % 12), iv (b 9 % 2), iv FU, iv HA, .slice none 0 0] 36) = W2 at *
  have m7 : W2.cell? ⟨w1.heap.size, 7, none⟩ = some (iv FU) := by rw [cell_of_row _ _ _ _ _ _ HRn]; rfl
  have m8 : W2.cell? ⟨w1.heap.size, 8, none⟩ = some (iv HA) := by rw [cell_of_row _ _ _ _ _ _ HRn]; rfl
  have l0 : W2.cell? ⟨w.heap.size, 0, none⟩ = some (Yteoejhldmeompab.u8 (b 0)) := by rw [cell_of_row _ _ _ _ _ _ h02]; rfl
  have l1 : W2.cell? ⟨w.heap.size, 1, none⟩ = some (Yteoejhldmeompab.u8 (b 1)) := by rw [cell_of_row _ _ _ _ _ _ h02]; rfl
  have l2 : W2.cell? ⟨w.heap.size, 2, none⟩ = some (Yteoejhldmeompab.u8 (b 2)) := by rw [cell_of_row _ _ _ _ _ _ h02]; rfl
  have l3 : W2.cell? ⟨w.heap.size, 3, none⟩ = some (Yteoejhldmeompab.u8 (b 3)) := by rw [cell_of_row _ _ _ _ _ _ h02]; rfl
  have l4 : W2.cell? ⟨w.heap.size, 4, none⟩ = some (Yteoejhldmeompab.u8 (b 4)) := by rw [cell_of_row _ _ _ _ _ _ h02]; rfl
  have l5 : W2.cell? ⟨w.heap.size, 5, none⟩ = some (Yteoejhldmeompab.u8 (b 5)) := by rw [cell_of_row _ _ _ _ _ _ h02]; rfl
  have l6 : W2.cell? ⟨w.heap.size, 6, none⟩ = some (Yteoejhldmeompab.u8 (b 6)) := by rw [cell_of_row _ _ _ _ _ _ h02]; rfl
  have l7 : W2.cell? ⟨w.heap.size, 7, none⟩ = some (Yteoejhldmeompab.u8 (b 7)) := by rw [cell_of_row _ _ _ _ _ _ h02]; rfl
  have l8 : W2.cell? ⟨w.heap.size, 8, none⟩ = some (Yteoejhldmeompab.u8 (b 8)) := by rw [cell_of_row _ _ _ _ _ _ h02]; rfl
  have l9 : W2.cell? ⟨w.heap.size, 9, none⟩ = some (Yteoejhldmeompab.u8 (b 9)) := by rw [cell_of_row _ _ _ _ _ _ h02]; rfl
  have l10 : W2.cell? ⟨w.heap.size, 10, none⟩ = some (Yteoejhldmeompab.u8 (b 10)) := by rw [cell_of_row _ _ _ _ _ _ h02]; rfl
  have l11 : W2.cell? ⟨w.heap.size, 11, none⟩ = some (Yteoejhldmeompab.u8 (b 11)) := by rw [cell_of_row _ _ _ _ _ _ h02]; rfl
  clear h01 h02 HRn hz1 HB1
  go_region_held3 (fun w' => w'.cell? ⟨w1.heap.size, 7, none⟩ = some (iv FU) ∧ w'.cell? ⟨w1.heap.size, 8, none⟩ = some (iv HA) ∧ w'.cell? ⟨w.heap.size, 0, none⟩ = some (Yteoejhldmeompab.u8 (b 0)) ∧ w'.cell? ⟨w.heap.size, 1, none⟩ = some (Yteoejhldmeompab.u8 (b 1)) ∧ w'.cell? ⟨w.heap.size, 2, none⟩ = some (Yteoejhldmeompab.u8 (b 2)) ∧ w'.cell? ⟨w.heap.size, 3, none⟩ = some (Yteoejhldmeompab.u8 (b 3)) ∧ w'.cell? ⟨w.heap.size, 4, none⟩ = some (Yteoejhldmeompab.u8 (b 4)) ∧ w'.cell? ⟨w.heap.size, 5, none⟩ = some (Yteoejhldmeompab.u8 (b 5)) ∧ w'.cell? ⟨w.heap.size, 6, none⟩ = some (Yteoejhldmeompab.u8 (b 6)) ∧ w'.cell? ⟨w.heap.size, 7, none⟩ = some (Yteoejhldmeompab.u8 (b 7)) ∧ w'.cell? ⟨w.heap.size, 8, none⟩ = some (Yteoejhldmeompab.u8 (b 8)) ∧ w'.cell? ⟨w.heap.size, 9, none⟩ = some (Yteoejhldmeompab.u8 (b 9)) ∧ w'.cell? ⟨w.heap.size, 10, none⟩ = some (Yteoejhldmeompab.u8 (b 10)) ∧ w'.cell? ⟨w.heap.size, 11, none⟩ = some (Yteoejhldmeompab.u8 (b 11)) ∧ Below w.heap.size w w')
    (first | (go_split_ands; refine ⟨?_, ?_, ?_, ?_, ?_, ?_, ?_, ?_, ?_, ?_, ?_, ?_, ?_, ?_, ?_⟩ <;> first | assumption | exact kcell hbK (by assumption) | exact kfrozen hbK (by assumption) (by assumption) | exact bstep (by assumption) hbK | exact SliceOf.below (by assumption) hbK) | (refine ⟨?_, ?_, ?_, ?_, ?_, ?_, ?_, ?_, ?_, ?_, ?_, ?_, ?_, ?_, ?_⟩ <;> first | exact Below.drew (by assumption) | exact SliceOf.below (by assumption) ((Below.refl _ _).drew) | assumption))
    (first | (go_split_ands; (with_reducible refine (HT0.out _).mono ?_); rintro e wK ⟨rfl, hbK⟩) | (go_split_ands; (with_reducible refine (HT1.out _).mono ?_); rintro e wK ⟨rfl, hbK⟩))
  all_goals
    rename_i hHeld
    obtain ⟨n7, n8, -, -, -, -, -, -, -, -, -, -, -, -, hBE⟩ := hHeld
    have HBE := Lib.hid hBE
    clear hBE m7 m8 l0 l1 l2 l3 l4 l5 l6 l7 l8 l9 l10 l11
    by_cases c1 : FU ≤ TA
    · by_cases c2 : TA ≤ HA
      · by_cases c3 : FU ≤ TB
        · by_cases c4 : TB ≤ HA
          all_goals
            go_wp2_with fail
            go_ret
            exact ⟨by simp; omega, HBE.out⟩
        · go_wp2_with fail
          go_ret
          exact ⟨by simp; intros; omega, HBE.out⟩
      · go_wp2_with fail
        go_ret
        exact ⟨by simp; intros; omega, HBE.out⟩
    · go_wp2_with fail
      go_ret
      exact ⟨by simp; intros; omega, HBE.out⟩
end Go.Proofs.Yteoejhldmeompab
