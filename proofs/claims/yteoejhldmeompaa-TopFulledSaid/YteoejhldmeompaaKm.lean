/- A chance of package stock: canFit. -/
import Derived.Test.YteoejhldmeompaaKi
import Derived.BigQuiet
namespace Go.Proofs.Yteoejhldmeompaa
open Go Go.RowKit Go.Shelf

set_option maxHeartbeats 3200000 in
theorem can1_any (bx bf : Nat) (c : Fe) (s : Sp) (w : World) (hF : FullAt bx bf c w) :
    Calls Try.prog 68 #[.agg #[iv s.1, iv s.2], .pointer (some ⟨bx, 0, none⟩)] w fun e w' => e = .returned (.bool (canC c s)) ∧ Below w.heap.size w w' := by
  obtain ⟨h1, h2, h3⟩ := hF
  obtain ⟨a, b⟩ := s
  obtain ⟨Wn, hWn⟩ : ∃ Wn : World, w.alloc (.cells #[iv a, iv b] 32) = Wn := ⟨_, rfl⟩
  have hBw : Below w.heap.size w Wn := by rw [← hWn]; exact bpush (Below.refl _ _) _
  have c0 : Wn.cell? ⟨w.heap.size, 0, none⟩ = some (iv a) := by rw [← hWn]; exact ncell0 _ _ _ _
  have c1 : Wn.cell? ⟨w.heap.size, 1, none⟩ = some (iv b) := by rw [← hWn]; exact ncell1 _ _ _ _
  have h1 := kcell hBw h1; have h2 := kcell hBw h2; have h3 := kcell hBw h3
  have HBW := Lib.hid hBw
  clear hBw
  by_cases hb : c.full ≤ b
  · have hd : canC c (a, b) = decide (a ≤ c.harm) := by unfold canC; rw [decide_eq_true hb]; rfl
    have HD := Lib.hid hd
    clear hd
    go_enter Try.func68, Try.ntmps68
    go_wp2_with fail
    clear hWn
    go_quiet (fail)
    go_wp2_with fail
    go_ret
    exact ⟨by rw [HD.out]; rfl, bdrewK HBW.out _⟩
  · have hd : canC c (a, b) = false := by unfold canC; rw [decide_eq_false hb]; rfl
    have HD := Lib.hid hd
    have hbn : Below Wn.heap.size Wn Wn := Below.refl _ _
    clear hd
    go_enter Try.func68, Try.ntmps68
    go_wp2_with fail
    clear hWn
    have hb0 : ¬ (c.full ≤ b) := by omega
    go_quiet (fail)
    go_wp2_with fail
    go_ret
    exact ⟨by rw [HD.out]; rfl, bdrewK HBW.out _⟩
def canB (n : Nat) (c : Fe) (x : Chc) (hour : Nat) : Bool := (List.range n).all fun p => canC c (thickI n c x p hour)
set_option maxRecDepth 20000 in
set_option maxHeartbeats 3200000 in
theorem canFit_any (n : Nat) (c : Fe) (pa ma : Option Addr) (pc mc bf : Nat) (x : Chc) (hour : Nat) (w : World) (hn : n ≤ 3) (hh : hour ≤ 36) (hx : okG x) (hq : ∀ p, p < n → okP (x.p p))
    (hf : w.heap[bf]? = some (.cells (frow c (.slice pa n pc) (.slice ma 0 mc) n 36) 133 (0, 0))) :
    Calls Try.prog 45 #[.agg (ccells bf x).toArray, iv hour] w fun e w' => e = .returned (.bool (canB n c x hour)) ∧ Below w.heap.size w w' := by
  have hbl : bf < w.heap.size := (Array.getElem?_eq_some_iff.1 hf).1
  obtain ⟨Wn, hWn⟩ : ∃ Wn : World, w.alloc (.cells (ccells bf x).toArray 105) = Wn := ⟨_, rfl⟩
  have hBw : Below w.heap.size w Wn := by rw [← hWn]; exact bpush (Below.refl _ _) _
  have hrw : Wn.heap[w.heap.size]? = some (.cells (ccells bf x).toArray 105 (0, 0)) := by rw [← hWn]; exact heap_new _ _ _
  have hfn := (hBw.block bf hbl).trans hf
  have HFA : Hid (FullAt w.heap.size bf c Wn) := ⟨by rw [cell_of_row _ _ _ _ _ _ hrw]; rfl, by rw [cell_of_row _ _ _ _ _ _ hfn]; exact frow_head _ _ _ _ _ 7 rfl, by rw [cell_of_row _ _ _ _ _ _ hfn]; exact frow_head _ _ _ _ _ 8 rfl⟩
  have HEV := Lib.hid (every_any n c pa ma pc mc bf x hour 68 #[.pointer (some ⟨w.heap.size, 0, none⟩)] (canC c) Wn (enters_of Try.func68 (by kernel_rfl) rfl) hn hh hx hq hfn
    (fun s W _ hb => can1_any w.heap.size bf c s W (HFA.out.below hb)))
  have HBW := Lib.hid hBw
  have e0 : Wn.cell? ⟨w.heap.size, 0, none⟩ = some (.pointer (some ⟨bf, 0, none⟩)) := by rw [cell_of_row _ _ _ _ _ _ hrw]; rfl
  have e1 : Wn.cell? ⟨w.heap.size, 1, none⟩ = some (iv x.s) := by rw [cell_of_row _ _ _ _ _ _ hrw]; rfl
  have e2 : Wn.cell? ⟨w.heap.size, 2, none⟩ = some (iv x.k) := by rw [cell_of_row _ _ _ _ _ _ hrw]; rfl
  have e3 : Wn.cell? ⟨w.heap.size, 3, none⟩ = some (iv x.l0) := by rw [cell_of_row _ _ _ _ _ _ hrw]; rfl
  have e4 : Wn.cell? ⟨w.heap.size, 4, none⟩ = some (iv x.h0) := by rw [cell_of_row _ _ _ _ _ _ hrw]; rfl
  have e5 : Wn.cell? ⟨w.heap.size, 5, none⟩ = some (iv x.l1) := by rw [cell_of_row _ _ _ _ _ _ hrw]; rfl
  have e6 : Wn.cell? ⟨w.heap.size, 6, none⟩ = some (iv x.h1) := by rw [cell_of_row _ _ _ _ _ _ hrw]; rfl
  have e7 : Wn.cell? ⟨w.heap.size, 7, none⟩ = some (iv x.l2) := by rw [cell_of_row _ _ _ _ _ _ hrw]; rfl
  have e8 : Wn.cell? ⟨w.heap.size, 8, none⟩ = some (iv x.h2) := by rw [cell_of_row _ _ _ _ _ _ hrw]; rfl
  simp only [ccells] at hWn HEV ⊢
  clear hrw hBw hfn hf hx hq
  go_enter Try.func45, Try.ntmps45
  go_wp2_with fail
  refine HEV.out.mono ?_
  rintro e w2 ⟨rfl, hb2⟩
  have HB2 := Lib.hid (bstep HBW.out hb2)
  clear hb2 e0 e1 e2 e3 e4 e5 e6 e7 e8
  go_wp2_with fail
  go_ret
  exact ⟨rfl, HB2.out⟩
end Go.Proofs.Yteoejhldmeompaa
