/- open of package stock, for a valid cloth without measurings; whether all chances are fit at an hour. -/
import Derived.Test.YtdhkgpfcanekkaaKh
import Derived.Test.YtdhkgpfcanekkaaKi
import Derived.Test.YtdhkgpfcanekkaaKb
import Derived.Test.YtdhkgpfcanekkaaKd
namespace Go.Proofs.Ytdhkgpfcanekkaa
open Go Go.RowKit Go.Shelf

/-- The chances of a valid cloth. -/
def chL (P : List Sp) (c : Fe) : List Chc := (gainsL c).map (chOf P)
/-- The chances of a cloth lie in memory, with their felt. -/
structure ChIn (P : List Sp) (c : Fe) (pa ma : Option Addr) (pc mc bf : Nat) (v : Value) (w : World) : Prop where
  fe : w.heap[bf]? = some (.cells (frow c (.slice pa P.length pc) (.slice ma 0 mc) P.length 36) 135 (0, 0))
  ch : SliceOf (ccells bf) 9 w v (chL P c)
theorem ChIn.below {P : List Sp} {c : Fe} {pa ma : Option Addr} {pc mc bf : Nat} {v : Value} {w w' : World} (h : ChIn P c pa ma pc mc bf v w) (hb : Below w.heap.size w w') : ChIn P c pa ma pc mc bf v w' :=
  ⟨(hb.block bf (Array.getElem?_eq_some_iff.1 h.fe).1).trans h.fe, h.ch.below hb⟩
set_option maxRecDepth 20000 in
set_option maxHeartbeats 3200000 in
theorem kopen_good (P : List Sp) (c : Fe) (pa ma : Option Addr) (pc mc : Nat) (w : World) (hs : SliceOf encS 2 w (.slice pa P.length pc) P) (hok : okFe P c = true) :
    Calls Try.prog 32 #[.agg (stcells c (.slice pa P.length pc) (.slice ma 0 mc)).toArray] w fun e w' => ∃ va vc bf, e = .returned (.tuple #[.slice va (gainsL c).length vc, iv 0]) ∧ ChIn P c pa ma pc mc bf (.slice va (gainsL c).length vc) w' ∧ Below w.heap.size w w' := by
  have hok' := hok
  simp only [okFe, Bool.and_eq_true] at hok'
  obtain ⟨⟨h1, -⟩, hb⟩ := hok'
  obtain ⟨n1, n3⟩ := inB_iff.1 h1
  have HCK : Hid (∀ W, Below w.heap.size w W → Calls Try.prog 44 #[.agg (stcells c (.slice pa P.length pc) (.slice ma 0 mc)).toArray] W fun e w' => e = .returned (iv 0) ∧ Below W.heap.size W w') := fun W hbw => kCheck_good P c _ ma mc W (hs.below hbw) hok
  have HLY : Hid (∀ W, Calls Try.prog 45 #[.agg (stcells c (.slice pa P.length pc) (.slice ma 0 mc)).toArray] W (LayRes c (.slice pa P.length pc) (.slice ma 0 mc) P.length W)) := fun W => lay_any c pa ma P.length pc 0 mc W (by omega) (by omega) hb
  have HCH : Hid (∀ W bf, Below w.heap.size w W → W.heap[bf]? = some (.cells (frow c (.slice pa P.length pc) (.slice ma 0 mc) P.length 36) 135 (0, 0)) → Calls Try.prog 46 #[.pointer (some ⟨bf, 0, none⟩)] W fun e w' => ∃ v, e = .returned v ∧ Owns (ccells bf) 9 143 W.heap.size w' v ((gainsL c).map (chOf P)) ∧ Below W.heap.size W w') :=
    fun W bf hbw hf => chances_any P c pa ma pc mc bf W (by omega) hb (hs.below hbw) hf
  have HGL := Lib.hid (gainsL_len hb)
  clear hs hok h1 hb n1 n3
  obtain ⟨Wn, hWn⟩ : ∃ Wn : World, w.alloc (.cells (stcells c (.slice pa P.length pc) (.slice ma 0 mc)).toArray 83) = Wn := ⟨_, rfl⟩
  have hBw : Below w.heap.size w Wn := by rw [← hWn]; exact bpush (Below.refl _ _) _
  have hrw : Wn.heap[w.heap.size]? = some (.cells (stcells c (.slice pa P.length pc) (.slice ma 0 mc)).toArray 83 (0, 0)) := by rw [← hWn]; exact heap_new _ _ _
  have c0 : Wn.cell? ⟨w.heap.size, 0, none⟩ = some (.slice pa P.length pc) := by rw [cell_of_row _ _ _ _ _ _ hrw]; rfl
  have c1 : Wn.cell? ⟨w.heap.size, 1, none⟩ = some (iv c.sl) := by rw [cell_of_row _ _ _ _ _ _ hrw]; rfl
  have c2 : Wn.cell? ⟨w.heap.size, 2, none⟩ = some (iv c.sh) := by rw [cell_of_row _ _ _ _ _ _ hrw]; rfl
  have c3 : Wn.cell? ⟨w.heap.size, 3, none⟩ = some (iv c.wl) := by rw [cell_of_row _ _ _ _ _ _ hrw]; rfl
  have c4 : Wn.cell? ⟨w.heap.size, 4, none⟩ = some (iv c.wh) := by rw [cell_of_row _ _ _ _ _ _ hrw]; rfl
  have c5 : Wn.cell? ⟨w.heap.size, 5, none⟩ = some (iv c.turn) := by rw [cell_of_row _ _ _ _ _ _ hrw]; rfl
  have c6 : Wn.cell? ⟨w.heap.size, 6, none⟩ = some (iv c.start) := by rw [cell_of_row _ _ _ _ _ _ hrw]; rfl
  have c7 : Wn.cell? ⟨w.heap.size, 7, none⟩ = some (iv c.full) := by rw [cell_of_row _ _ _ _ _ _ hrw]; rfl
  have c8 : Wn.cell? ⟨w.heap.size, 8, none⟩ = some (iv c.harm) := by rw [cell_of_row _ _ _ _ _ _ hrw]; rfl
  have c9 : Wn.cell? ⟨w.heap.size, 9, none⟩ = some (.slice ma 0 mc) := by rw [cell_of_row _ _ _ _ _ _ hrw]; rfl
  have HBW := Lib.hid hBw; have HRW := Lib.hid hrw
  simp only [stcells] at hWn HCK HLY ⊢
  clear hBw hrw
  go_enter Try.func32, Try.ntmps32
  go_wp2_with fail
  refine (HCK.out _ HBW.out).mono ?_
  rintro e w1 ⟨rfl, hb1⟩
  have hrw := (hb1.block _ (Array.getElem?_eq_some_iff.1 HRW.out).1).trans HRW.out
  have HB1 := Lib.hid (bstep HBW.out hb1)
  clear hb1 c0 c1 c2 c3 c4 c5 c6 c7 c8 c9 hWn
  have c0 : w1.cell? ⟨w.heap.size, 0, none⟩ = some (.slice pa P.length pc) := by rw [cell_of_row _ _ _ _ _ _ hrw]; rfl
  have c1 : w1.cell? ⟨w.heap.size, 1, none⟩ = some (iv c.sl) := by rw [cell_of_row _ _ _ _ _ _ hrw]; rfl
  have c2 : w1.cell? ⟨w.heap.size, 2, none⟩ = some (iv c.sh) := by rw [cell_of_row _ _ _ _ _ _ hrw]; rfl
  have c3 : w1.cell? ⟨w.heap.size, 3, none⟩ = some (iv c.wl) := by rw [cell_of_row _ _ _ _ _ _ hrw]; rfl
  have c4 : w1.cell? ⟨w.heap.size, 4, none⟩ = some (iv c.wh) := by rw [cell_of_row _ _ _ _ _ _ hrw]; rfl
  have c5 : w1.cell? ⟨w.heap.size, 5, none⟩ = some (iv c.turn) := by rw [cell_of_row _ _ _ _ _ _ hrw]; rfl
  have c6 : w1.cell? ⟨w.heap.size, 6, none⟩ = some (iv c.start) := by rw [cell_of_row _ _ _ _ _ _ hrw]; rfl
  have c7 : w1.cell? ⟨w.heap.size, 7, none⟩ = some (iv c.full) := by rw [cell_of_row _ _ _ _ _ _ hrw]; rfl
  have c8 : w1.cell? ⟨w.heap.size, 8, none⟩ = some (iv c.harm) := by rw [cell_of_row _ _ _ _ _ _ hrw]; rfl
  have c9 : w1.cell? ⟨w.heap.size, 9, none⟩ = some (.slice ma 0 mc) := by rw [cell_of_row _ _ _ _ _ _ hrw]; rfl
  clear hrw
  go_wp2_with fail
  refine (HLY.out _).mono ?_
  rintro e w2 ⟨bf, rfl, hf2, hbf, hb2⟩
  have HF2 := Lib.hid hf2; have HB2 := Lib.hid (bstep HB1.out hb2)
  clear hf2 hb2 c0 c1 c2 c3 c4 c5 c6 c7 c8 c9
  go_wp2_with fail
  refine (HCH.out _ bf HB2.out HF2.out).mono ?_
  rintro e w3 ⟨v, rfl, ho3, hb3⟩
  obtain ⟨va, vc, rfl⟩ := ho3.len
  rw [List.length_map] at ho3 ⊢
  have HB3 := Lib.hid (bstep HB2.out hb3)
  have HCI : Hid (ChIn P c pa ma pc mc bf (.slice va (gainsL c).length vc) w3) := ⟨(hb3.block bf (Array.getElem?_eq_some_iff.1 HF2.out).1).trans HF2.out, by
    have h := Owns.slice ho3 (ccells_len bf) (by have := HGL.out; rw [List.length_map]; omega)
    exact h⟩
  have hne : ¬ ((((gainsL c).length : Nat) : Int) = 0) := by have := HGL.out; omega
  have hne2 : ((((gainsL c).length : Nat) : Int) == 0) = false := by rw [beq_eq_false_iff_ne]; exact hne
  clear ho3 hb3
  go_wp2_with fail
  exact bodyPost_ret (v := .tuple #[.slice va (gainsL c).length vc, iv 0]) (by simp [results, Try.results32, go_sem]) rfl ⟨va, vc, bf, rfl, HCI.out, HB3.out⟩
end Go.Proofs.Ytdhkgpfcanekkaa
