/- Turns of package stock: the turn by which a felt is surely fit first. -/
import Derived.Test.YtgoncgbbgodliaaKs
namespace Go.Proofs.Ytgoncgbbgodliaa
open Go Go.RowKit Go.Shelf
attribute [local go_sem ↓] Go.wp_at_zero Go.wp_at_succ

/-- The felt with another turn. -/
def tuF (c : Fe) (t : Nat) : Fe := ⟨c.sl, c.sh, c.wl, c.wh, t, c.start, c.full, c.harm⟩
theorem tuF_ok {P : List Sp} {c : Fe} {t : Nat} (hok : okFe P c = true) (h1 : 1 ≤ t) (h2 : t ≤ 12) : okFe P (tuF c t) = true := by
  have h : inB 1 12 ((t : Nat) : Int) = true := inB_iff.2 ⟨by omega, by omega⟩
  simp only [okFe, vBeat, Bool.and_eq_true] at hok ⊢
  obtain ⟨a, ⟨b1, b2⟩, b3, b4, b5, b6⟩ := hok
  exact ⟨a, ⟨b1, b2⟩, b3, h, b5, b6⟩
/-- What has been found up to now: nothing, or the first hour of some turn. -/
def TuR (P : List Sp) (c : Fe) (tn hn : Nat) : Prop := (tn = 0 ∧ hn = 37) ∨ (1 ≤ tn ∧ tn ≤ 12 ∧ hn ≤ 36 ∧ (sureL P (tuF c tn)).head? = some hn)

set_option maxRecDepth 20000 in
set_option maxHeartbeats 6400000 in
theorem Turns_good (P : List Sp) (c : Fe) (pa ma : Option Addr) (pc mc : Nat) (w : World) (hs : SliceOf encS 2 w (.slice pa P.length pc) P) (hok : okFe P c = true) :
    Calls Try.prog 6 #[.agg (stcells c (.slice pa P.length pc) (.slice ma 0 mc)).toArray] w fun e w' => ((∃ t h : Nat, 1 ≤ t ∧ t ≤ 12 ∧ h ≤ 36 ∧ (sureL P (tuF c t)).head? = some h ∧ e = .returned (.tuple #[iv t, iv h, iv 0])) ∨ e = .returned (.tuple #[iv 0, iv 0, iv 7])) ∧ Below w.heap.size w w' := by
  have HOP : Hid (∀ W, Below w.heap.size w W → Calls Try.prog 17 #[.agg #[.slice pa P.length pc, iv c.sl, iv c.sh, iv c.wl, iv c.wh, iv (c.turn), iv c.start, iv c.full, iv c.harm, .slice ma 0 mc]] W fun e w' => ∃ va vc bf, e = .returned (.tuple #[.slice va (gainsL c).length vc, iv 0]) ∧ ChIn P c pa ma pc mc bf (.slice va (gainsL c).length vc) w' ∧ Below W.heap.size W w') := fun W hb => kopen_good P c pa ma pc mc W (hs.below hb) hok
  have HN : Hid (1 ≤ P.length ∧ P.length ≤ 3) := by
    have h := hok
    simp only [okFe, Bool.and_eq_true] at h
    have := inB_iff.1 h.1.1
    exact ⟨by omega, by omega⟩
  have HVB : Hid (∀ k : Nat, 1 ≤ k → k ≤ 12 → vBeat P.length (tuF c k) = true) := fun k h1 h2 => by
    have h := tuF_ok hok h1 h2
    simp only [okFe, Bool.and_eq_true] at h
    exact h.2
  have HLY : Hid (∀ (k : Nat) (W : World), 1 ≤ k → k ≤ 12 → Calls Try.prog 18 #[.agg #[.slice pa P.length pc, iv c.sl, iv c.sh, iv c.wl, iv c.wh, iv ((k : Int)), iv c.start, iv c.full, iv c.harm, .slice ma 0 mc]] W (LayRes (tuF c k) (.slice pa P.length pc) (.slice ma 0 mc) P.length W)) := fun k W h1 h2 => lay_any (tuF c k) pa ma P.length pc 0 mc W HN.out.1 HN.out.2 (HVB.out k h1 h2)
  have HCH : Hid (∀ (k : Nat) (W : World) (bf : Nat), 1 ≤ k → k ≤ 12 → Below w.heap.size w W → W.heap[bf]? = some (.cells (frow (tuF c k) (.slice pa P.length pc) (.slice ma 0 mc) P.length 36) 92 (0, 0)) → Calls Try.prog 19 #[.pointer (some ⟨bf, 0, none⟩)] W fun e w' => ∃ va vc, e = .returned (.slice va (gainsL (tuF c k)).length vc) ∧ ChIn P (tuF c k) pa ma pc mc bf (.slice va (gainsL (tuF c k)).length vc) w' ∧ Below W.heap.size W w') := fun k W bf h1 h2 hbw hf => by
    refine (chances_any P (tuF c k) pa ma pc mc bf W HN.out (HVB.out k h1 h2) (hs.below hbw) hf).mono ?_
    rintro e w3 ⟨v, rfl, ho3, hb3⟩
    obtain ⟨va, vc, rfl⟩ := ho3.len
    have hgl := gainsL_len (HVB.out k h1 h2)
    have h := Owns.slice ho3 (ccells_len bf) (by rw [List.length_map]; omega)
    rw [List.length_map] at h
    refine ⟨va, vc, by rw [List.length_map], ⟨(hb3.block bf (Array.getElem?_eq_some_iff.1 hf).1).trans hf, h⟩, hb3⟩
  have HOU : Hid (∀ (k : Nat) (W : World) (bf : Nat) (v : Value), 1 ≤ k → k ≤ 12 → ChIn P (tuF c k) pa ma pc mc bf v W → Calls Try.prog 20 #[v] W fun e w' => e = .returned (.tuple #[iv ((sureL P (tuF c k)).head?.getD 0 : Nat), .bool (sureL P (tuF c k)).head?.isSome]) ∧ Below W.heap.size W w') := fun k W bf v h1 h2 h => out_any P (tuF c k) pa ma pc mc bf v W (tuF_ok hok h1 h2) h
  have H36 : Hid (∀ k h : Nat, (sureL P (tuF c k)).head? = some h → h ≤ 36) := fun k h hh => by
    have hm := List.mem_of_mem_head? hh
    unfold sureL at hm
    rw [List.mem_filter, List.mem_range] at hm
    omega
  clear hs hok
  obtain ⟨Wn, hWn⟩ : ∃ Wn : World, w.alloc (.cells (stcells c (.slice pa P.length pc) (.slice ma 0 mc)).toArray 36) = Wn := ⟨_, rfl⟩
  have hBw : Below w.heap.size w Wn := by rw [← hWn]; exact bpush (Below.refl _ _) _
  have hrw : Wn.heap[w.heap.size]? = some (.cells #[.slice pa P.length pc, iv c.sl, iv c.sh, iv c.wl, iv c.wh, iv (c.turn), iv c.start, iv c.full, iv c.harm, .slice ma 0 mc] 36 (0, 0)) := by rw [← hWn]; exact heap_new _ _ _
  have c0 : Wn.cell? ⟨w.heap.size, 0, none⟩ = some (.slice pa P.length pc) := by rw [cell_of_row _ _ _ _ _ _ hrw]; rfl
  have c1 : Wn.cell? ⟨w.heap.size, 1, none⟩ = some (iv c.sl) := by rw [cell_of_row _ _ _ _ _ _ hrw]; rfl
  have c2 : Wn.cell? ⟨w.heap.size, 2, none⟩ = some (iv c.sh) := by rw [cell_of_row _ _ _ _ _ _ hrw]; rfl
  have c3 : Wn.cell? ⟨w.heap.size, 3, none⟩ = some (iv c.wl) := by rw [cell_of_row _ _ _ _ _ _ hrw]; rfl
  have c4 : Wn.cell? ⟨w.heap.size, 4, none⟩ = some (iv c.wh) := by rw [cell_of_row _ _ _ _ _ _ hrw]; rfl
  have c5 : Wn.cell? ⟨w.heap.size, 5, none⟩ = some (iv c.turn) := by rw [cell_of_row _ _ _ _ _ _ hrw]; rfl
  have c6 : Wn.cell? ⟨w.heap.size, 6, none⟩ = some (iv c.start) := by rw [cell_of_row _ _ _ _ _ _ hrw]; rfl
  have c7 : Wn.cell? ⟨w.heap.size, 7, none⟩ = some (iv c.full) := by rw [cell_of_row _ _ _ _ _ _ hrw]; rfl
  have c8 : Wn.cell? ⟨w.heap.size, 8, none⟩ = some (iv c.harm) := by rw [cell_of_row _ _ _ _ _ _ hrw]; rfl
  have c9 : Wn.cell? ⟨w.heap.size, 9, none⟩ = some (.slice ma 0 mc) := by rw [cell_of_row _ _ _ _ _ _ hrw]; rfl
  have y5 : Wn.frozen? ⟨w.heap.size, 5, none⟩ = false := frozen_of_row _ _ _ _ _ hrw
  have HBW := Lib.hid hBw; have HRW := Lib.hid hrw
  simp only [stcells] at hWn ⊢
  clear hBw hrw
  go_enter Try.func6, Try.ntmps6
  go_wp2_with fail
  refine (HOP.out _ HBW.out).mono ?_
  rintro e w1 ⟨va, vc, bf, rfl, -, hb1⟩
  have hrw := (hb1.block _ (Array.getElem?_eq_some_iff.1 HRW.out).1).trans HRW.out
  have HB1 := Lib.hid (bstep HBW.out hb1)
  have HR1 := Lib.hid hrw
  clear hb1 c0 c1 c2 c3 c4 c5 c6 c7 c8 c9 y5 hWn
  have c0 : w1.cell? ⟨w.heap.size, 0, none⟩ = some (.slice pa P.length pc) := by rw [cell_of_row _ _ _ _ _ _ hrw]; rfl
  have c1 : w1.cell? ⟨w.heap.size, 1, none⟩ = some (iv c.sl) := by rw [cell_of_row _ _ _ _ _ _ hrw]; rfl
  have c2 : w1.cell? ⟨w.heap.size, 2, none⟩ = some (iv c.sh) := by rw [cell_of_row _ _ _ _ _ _ hrw]; rfl
  have c3 : w1.cell? ⟨w.heap.size, 3, none⟩ = some (iv c.wl) := by rw [cell_of_row _ _ _ _ _ _ hrw]; rfl
  have c4 : w1.cell? ⟨w.heap.size, 4, none⟩ = some (iv c.wh) := by rw [cell_of_row _ _ _ _ _ _ hrw]; rfl
  have c5 : w1.cell? ⟨w.heap.size, 5, none⟩ = some (iv c.turn) := by rw [cell_of_row _ _ _ _ _ _ hrw]; rfl
  have c6 : w1.cell? ⟨w.heap.size, 6, none⟩ = some (iv c.start) := by rw [cell_of_row _ _ _ _ _ _ hrw]; rfl
  have c7 : w1.cell? ⟨w.heap.size, 7, none⟩ = some (iv c.full) := by rw [cell_of_row _ _ _ _ _ _ hrw]; rfl
  have c8 : w1.cell? ⟨w.heap.size, 8, none⟩ = some (iv c.harm) := by rw [cell_of_row _ _ _ _ _ _ hrw]; rfl
  have c9 : w1.cell? ⟨w.heap.size, 9, none⟩ = some (.slice ma 0 mc) := by rw [cell_of_row _ _ _ _ _ _ hrw]; rfl
  have y5 : w1.frozen? ⟨w.heap.size, 5, none⟩ = false := frozen_of_row _ _ _ _ _ hrw
  clear hrw
  go_wp2_with fail
  clear c0 c1 c2 c3 c4 c5 c6 c7 c8 c9 y5
  go_loopw [2, 3, 5] (fun tv hv i wr => ∃ (k tn hn : Nat) (tu : Int), 1 ≤ k ∧ k ≤ 13 ∧ i = iv k ∧ tv = iv tn ∧ hv = iv hn ∧ Hid (TuR P c tn hn) ∧ Hid (Below w.heap.size w wr) ∧ Hid (wr.heap[w.heap.size]? = some (.cells #[.slice pa P.length pc, iv c.sl, iv c.sh, iv c.wl, iv c.wh, iv (tu), iv c.start, iv c.full, iv c.harm, .slice ma 0 mc] 36 (0, 0)))) (fun _ _ i _ => 13 - (intOf i).toNat)
  case atStart => exact ⟨1, 0, 37, c.turn, by omega, by omega, rfl, rfl, rfl, .inl ⟨rfl, rfl⟩, HB1.out, HR1.out⟩
  case round =>
    obtain ⟨k, tn, hn, tu, hk1, hk2, rfl, rfl, rfl, HTU, HBR, HRR⟩ := hrel
    have hhn : hn ≤ 37 := by rcases HTU.out with ⟨-, h⟩ | ⟨-, -, h, -⟩ <;> omega
    by_cases hlt : k ≤ 12
    · have hrw := HRR.out
      have c0 : wr.cell? ⟨w.heap.size, 0, none⟩ = some (.slice pa P.length pc) := by rw [cell_of_row _ _ _ _ _ _ hrw]; rfl
      have c1 : wr.cell? ⟨w.heap.size, 1, none⟩ = some (iv c.sl) := by rw [cell_of_row _ _ _ _ _ _ hrw]; rfl
      have c2 : wr.cell? ⟨w.heap.size, 2, none⟩ = some (iv c.sh) := by rw [cell_of_row _ _ _ _ _ _ hrw]; rfl
      have c3 : wr.cell? ⟨w.heap.size, 3, none⟩ = some (iv c.wl) := by rw [cell_of_row _ _ _ _ _ _ hrw]; rfl
      have c4 : wr.cell? ⟨w.heap.size, 4, none⟩ = some (iv c.wh) := by rw [cell_of_row _ _ _ _ _ _ hrw]; rfl
      have c5 : wr.cell? ⟨w.heap.size, 5, none⟩ = some (iv tu) := by rw [cell_of_row _ _ _ _ _ _ hrw]; rfl
      have c6 : wr.cell? ⟨w.heap.size, 6, none⟩ = some (iv c.start) := by rw [cell_of_row _ _ _ _ _ _ hrw]; rfl
      have c7 : wr.cell? ⟨w.heap.size, 7, none⟩ = some (iv c.full) := by rw [cell_of_row _ _ _ _ _ _ hrw]; rfl
      have c8 : wr.cell? ⟨w.heap.size, 8, none⟩ = some (iv c.harm) := by rw [cell_of_row _ _ _ _ _ _ hrw]; rfl
      have c9 : wr.cell? ⟨w.heap.size, 9, none⟩ = some (.slice ma 0 mc) := by rw [cell_of_row _ _ _ _ _ _ hrw]; rfl
      have y5 : wr.frozen? ⟨w.heap.size, 5, none⟩ = false := frozen_of_row _ _ _ _ _ hrw
      clear hrw
      have b1 : decide ((k : Int) ≤ 12) = true := decide_eq_true (by omega)
      have hz : w.heap.size < wr.heap.size := (Array.getElem?_eq_some_iff.1 HRR.out).1
      go_wp2_with fail
      obtain ⟨W5, hW5⟩ : ∃ W : World, wr.setCell ⟨w.heap.size, 5, none⟩ (.int .i64 k) = W := ⟨_, rfl⟩
      have HB5 : Hid (Below w.heap.size w W5) := by rw [← hW5]; exact bput HBR.out (Nat.le_refl _) _
      have HR5 : Hid (W5.heap[w.heap.size]? = some (.cells #[.slice pa P.length pc, iv c.sl, iv c.sh, iv c.wl, iv c.wh, iv ((k : Int)), iv c.start, iv c.full, iv c.harm, .slice ma 0 mc] 36 (0, 0))) := by
        have h := heap_setCell_same wr w.heap.size 5 _ _ (.int .i64 k) HRR.out
        rw [hW5] at h
        simpa [Hid] using h
      rw [hW5]
      clear hW5 c0 c1 c2 c3 c4 c5 c6 c7 c8 c9 y5
      refine (HLY.out k _ hk1 hlt).mono ?_
      rintro e w2 ⟨bf2, rfl, hf2, hbf, hb2⟩
      have HF2 := Lib.hid hf2
      have HB2 := Lib.hid (bstep HB5.out hb2)
      have HR2 := Lib.hid ((hb2.block _ (Array.getElem?_eq_some_iff.1 HR5.out).1).trans HR5.out)
      clear hf2 hb2 hbf
      go_wp2_with fail
      refine (HCH.out k _ bf2 hk1 hlt HB2.out HF2.out).mono ?_
      rintro e w3 ⟨va3, vc3, rfl, hci, hb3⟩
      have HCI := Lib.hid hci
      have HB3 := Lib.hid (bstep HB2.out hb3)
      have HR3 := Lib.hid ((hb3.block _ (Array.getElem?_eq_some_iff.1 HR2.out).1).trans HR2.out)
      clear hci hb3
      go_wp2_with fail
      refine (HOU.out k _ bf2 _ hk1 hlt HCI.out).mono ?_
      rintro e w4 ⟨rfl, hb4⟩
      have HB4 := Lib.hid (bstep HB3.out hb4)
      have HR4 := Lib.hid ((hb4.block _ (Array.getElem?_eq_some_iff.1 HR3.out).1).trans HR3.out)
      clear hb4
      have H36K := Lib.hid (H36.out k)
      have HNW := Lib.hid (fun (h : Nat) (hh : (sureL P (tuF c k)).head? = some h) => (show TuR P c k h from .inr ⟨hk1, hlt, H36.out k h hh, hh⟩))
      generalize (sureL P (tuF c k)).head? = oh at *
      cases oh with
      | none =>
        simp only [Option.isSome_none, Option.getD_none]
        go_wp2_with fail
        go_roundw
        case rel => exact ⟨k + 1, tn, hn, k, by omega, by omega, by go_num, rfl, rfl, HTU, HB4, HR4⟩
        case measure => simp [intOf]; omega
      | some h =>
        simp only [Option.isSome_some, Option.getD_some]
        have hh36 := H36K.out h rfl
        by_cases hlh : h < hn
        · have d1 : decide ((h : Int) < (hn : Int)) = true := decide_eq_true (by omega)
          have d2 : decide (h < hn) = true := decide_eq_true hlh
          go_wp2_with fail
          go_roundw
          case rel => exact ⟨k + 1, k, h, k, by omega, by omega, by go_num, rfl, rfl, HNW.out h rfl, HB4, HR4⟩
          case measure => simp [intOf]; omega
        · have d1 : decide ((h : Int) < (hn : Int)) = false := decide_eq_false (by omega)
          have d2 : decide (h < hn) = false := decide_eq_false hlh
          go_wp2_with fail
          go_roundw
          case rel => exact ⟨k + 1, tn, hn, k, by omega, by omega, by go_num, rfl, rfl, HTU, HB4, HR4⟩
          case measure => simp [intOf]; omega
    · obtain rfl : k = 13 := by omega
      rcases HTU.out with ⟨rfl, rfl⟩ | ⟨t1, t2, t3, t4⟩
      · go_wp2_with fail
        exact bodyPost_ret (v := .tuple #[iv 0, iv 0, iv 7]) (by simp [results, Try.results6, go_sem]) rfl ⟨.inr rfl, HBR.out⟩
      · have d1 : decide ((tn : Int) = 0) = false := decide_eq_false (by omega)
        have d2 : decide (tn = 0) = false := decide_eq_false (by omega)
        have d3 : ((tn : Int) == 0) = false := by rw [beq_eq_false_iff_ne]; omega
        have T4 := Lib.hid t4
        clear t4
        go_wp2_with fail
        exact bodyPost_ret (v := .tuple #[iv tn, iv hn, iv 0]) (by simp [results, Try.results6, go_sem]) rfl ⟨.inl ⟨tn, hn, t1, t2, t3, T4.out, rfl⟩, HBR.out⟩
end Go.Proofs.Ytgoncgbbgodliaa
