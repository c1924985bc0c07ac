/- A chance of package stock: what holds of every part; fit. -/
import Derived.Test.YtdhkgpfcanekkaaKg
import Derived.Deep.QuietTactic
namespace Go.Proofs.Ytdhkgpfcanekkaa
open Go Go.RowKit Go.Shelf

theorem bdrewK {B : Nat} {w w1 : World} (h : Below B w w1) (n : Nat) : Below B w (w1.drewN n) := ⟨h.os, h.tape, h.output, h.size, h.block⟩
theorem thickI_bd {n : Nat} {c : Fe} {x : Chc} {part hour : Nat} (hh : hour ≤ 36) (hx : okG x) (hq : okP (x.p part)) : (0 ≤ (thickI n c x part hour).1 ∧ (thickI n c x part hour).1 ≤ 4600) ∧ (0 ≤ (thickI n c x part hour).2 ∧ (thickI n c x part hour).2 ≤ 4600) := by
  have := moreI_bd (n := n) (c := c) (part := part) hh hx
  obtain ⟨q1, q2, q3, q4⟩ := hq
  simp only [thickI]; omega
set_option maxRecDepth 20000 in
set_option maxHeartbeats 3200000 in
theorem every_any (n : Nat) (c : Fe) (pa ma : Option Addr) (pc mc bf : Nat) (x : Chc) (hour : Nat) (gf : FuncId) (lb : Array Value) (cond : Sp → Bool) (w : World) (eg : ∀ args w, (callFunc gf args).run Try.prog w = .ok (.enter gf args) w) (hn : n ≤ 3) (hh : hour ≤ 36) (hx : okG x) (hq : ∀ p, p < n → okP (x.p p))
    (hf : w.heap[bf]? = some (.cells (frow c (.slice pa n pc) (.slice ma 0 mc) n 36) 135 (0, 0)))
    (hg : ∀ (s : Sp) (W : World), (0 ≤ s.1 ∧ s.1 ≤ 4600) ∧ (0 ≤ s.2 ∧ s.2 ≤ 4600) → Below w.heap.size w W → Calls Try.prog gf (#[.agg #[iv s.1, iv s.2]] ++ lb) W fun e W' => e = .returned (.bool (cond s)) ∧ Below W.heap.size W W') :
    Calls Try.prog 74 #[.agg (ccells bf x).toArray, iv hour, .func (.func gf) #[] lb] w fun e w' => e = .returned (.bool ((List.range n).all fun p => cond (thickI n c x p hour))) ∧ Below w.heap.size w w' := by
  have hbl : bf < w.heap.size := (Array.getElem?_eq_some_iff.1 hf).1
  have HAT : Hid (∀ (p : Nat) (W : World), p < n → Below w.heap.size w W → Calls Try.prog 76 #[.agg (ccells bf x).toArray, iv p, iv hour] W fun e w' => e = .returned (.agg #[iv (thickI n c x p hour).1, iv (thickI n c x p hour).2]) ∧ Below W.heap.size W w') := fun p W hp hb =>
    chAt_any n c (.slice pa n pc) (.slice ma 0 mc) bf x p hour W (by omega) hh hx (hq p hp) ((hb.block bf hbl).trans hf)
  have HBD : Hid (∀ p, p < n → (0 ≤ (thickI n c x p hour).1 ∧ (thickI n c x p hour).1 ≤ 4600) ∧ (0 ≤ (thickI n c x p hour).2 ∧ (thickI n c x p hour).2 ≤ 4600)) := fun p hp => thickI_bd hh hx (hq p hp)
  have HG := Lib.hid hg
  clear hg hx hq
  have f0 : w.cell? ⟨bf, 0, none⟩ = some (.slice pa n pc) := by rw [cell_of_row _ _ _ _ _ _ hf]; exact frow_head _ _ _ _ _ 0 rfl
  clear hf
  obtain ⟨Wn, hWn⟩ : ∃ Wn : World, w.alloc (.cells (ccells bf x).toArray 143) = Wn := ⟨_, rfl⟩
  have hBw : Below w.heap.size w Wn := by rw [← hWn]; exact bpush (Below.refl _ _) _
  have hrw : Wn.heap[w.heap.size]? = some (.cells (ccells bf x).toArray 143 (0, 0)) := by rw [← hWn]; exact heap_new _ _ _
  have g0 := kcell hBw f0
  have HRW := Lib.hid hrw; have HBW := Lib.hid hBw
  have e0 : Wn.cell? ⟨w.heap.size, 0, none⟩ = some (.pointer (some ⟨bf, 0, none⟩)) := by rw [cell_of_row _ _ _ _ _ _ hrw]; rfl
  have e1 : Wn.cell? ⟨w.heap.size, 1, none⟩ = some (iv x.s) := by rw [cell_of_row _ _ _ _ _ _ hrw]; rfl
  have e2 : Wn.cell? ⟨w.heap.size, 2, none⟩ = some (iv x.k) := by rw [cell_of_row _ _ _ _ _ _ hrw]; rfl
  have e3 : Wn.cell? ⟨w.heap.size, 3, none⟩ = some (iv x.l0) := by rw [cell_of_row _ _ _ _ _ _ hrw]; rfl
  have e4 : Wn.cell? ⟨w.heap.size, 4, none⟩ = some (iv x.h0) := by rw [cell_of_row _ _ _ _ _ _ hrw]; rfl
  have e5 : Wn.cell? ⟨w.heap.size, 5, none⟩ = some (iv x.l1) := by rw [cell_of_row _ _ _ _ _ _ hrw]; rfl
  have e6 : Wn.cell? ⟨w.heap.size, 6, none⟩ = some (iv x.h1) := by rw [cell_of_row _ _ _ _ _ _ hrw]; rfl
  have e7 : Wn.cell? ⟨w.heap.size, 7, none⟩ = some (iv x.l2) := by rw [cell_of_row _ _ _ _ _ _ hrw]; rfl
  have e8 : Wn.cell? ⟨w.heap.size, 8, none⟩ = some (iv x.h2) := by rw [cell_of_row _ _ _ _ _ _ hrw]; rfl
  simp only [ccells] at hWn HAT ⊢
  clear hrw hBw f0
  go_enter Try.func74, Try.ntmps74
  go_wp2_with fail
  clear e0 e1 e2 e3 e4 e5 e6 e7 e8 hWn
  go_loopw [15] (fun i wr => ∃ k : Nat, k ≤ n ∧ i = iv k ∧ Hid (∀ p, p < k → cond (thickI n c x p hour) = true) ∧ Hid (Below Wn.heap.size Wn wr)) (fun i _ => n - (intOf i).toNat)
  case atStart => exact ⟨0, Nat.zero_le _, rfl, fun p hp => absurd hp (Nat.not_lt_zero _), Below.refl _ _⟩
  case round =>
    obtain ⟨k, hk, rfl, HC, HB⟩ := hrel
    have HBR := Lib.hid (bstep HBW.out HB.out)
    by_cases hlt : k < n
    · have hrw := (HB.out.block _ (Array.getElem?_eq_some_iff.1 HRW.out).1).trans HRW.out
      have e0 : wr.cell? ⟨w.heap.size, 0, none⟩ = some (.pointer (some ⟨bf, 0, none⟩)) := by rw [cell_of_row _ _ _ _ _ _ hrw]; rfl
      have e1 : wr.cell? ⟨w.heap.size, 1, none⟩ = some (iv x.s) := by rw [cell_of_row _ _ _ _ _ _ hrw]; rfl
      have e2 : wr.cell? ⟨w.heap.size, 2, none⟩ = some (iv x.k) := by rw [cell_of_row _ _ _ _ _ _ hrw]; rfl
      have e3 : wr.cell? ⟨w.heap.size, 3, none⟩ = some (iv x.l0) := by rw [cell_of_row _ _ _ _ _ _ hrw]; rfl
      have e4 : wr.cell? ⟨w.heap.size, 4, none⟩ = some (iv x.h0) := by rw [cell_of_row _ _ _ _ _ _ hrw]; rfl
      have e5 : wr.cell? ⟨w.heap.size, 5, none⟩ = some (iv x.l1) := by rw [cell_of_row _ _ _ _ _ _ hrw]; rfl
      have e6 : wr.cell? ⟨w.heap.size, 6, none⟩ = some (iv x.h1) := by rw [cell_of_row _ _ _ _ _ _ hrw]; rfl
      have e7 : wr.cell? ⟨w.heap.size, 7, none⟩ = some (iv x.l2) := by rw [cell_of_row _ _ _ _ _ _ hrw]; rfl
      have e8 : wr.cell? ⟨w.heap.size, 8, none⟩ = some (iv x.h2) := by rw [cell_of_row _ _ _ _ _ _ hrw]; rfl
      have i0 : (k : Int) < (n : Int) := by omega
      clear hrw g0
      go_wp2_with fail
      refine (HAT.out k _ hlt HBR.out).mono ?_
      rintro e w2 ⟨rfl, hb2⟩
      have HB2 := Lib.hid (bstep HBR.out hb2); have HB2' := Lib.hid (bstep HB.out hb2)
      clear hb2 e0 e1 e2 e3 e4 e5 e6 e7 e8
      go_wp2_with fail
      refine (HG.out (thickI n c x k hour) w2 (HBD.out k hlt) HB2.out).mono ?_
      rintro e w3 ⟨rfl, hb3⟩
      have HB3 := Lib.hid (bstep HB2.out hb3); have HB3' := Lib.hid (bstep HB2'.out hb3)
      clear hb3
      cases hcd : cond (thickI n c x k hour) with
      | false =>
        have hall : Hid (((List.range n).all fun p => cond (thickI n c x p hour)) = false) := List.all_eq_false.2 ⟨k, List.mem_range.2 hlt, by rw [hcd]; simp⟩
        clear hcd
        go_wp2_with fail
        go_ret
        exact ⟨by rw [hall.out]; rfl, HB3.out⟩
      | true =>
        have HC2 : Hid (∀ p, p < k + 1 → cond (thickI n c x p hour) = true) := by
          intro p hp
          by_cases h : p = k
          · rw [h]; exact hcd
          · exact HC.out p (by omega)
        clear hcd
        go_wp2_with fail
        go_roundw
        case rel => exact ⟨k + 1, by omega, by go_num, HC2, HB3'.out⟩
        case measure => simp [intOf]; omega
    · obtain rfl : k = n := by omega
      have hall : ((List.range k).all fun p => cond (thickI k c x p hour)) = true := List.all_eq_true.2 fun p hp => HC.out p (List.mem_range.1 hp)
      have i0 : ¬ ((k : Int) < (k : Int)) := by omega
      go_wp2_with fail
      go_ret
      exact ⟨rfl, HBR.out⟩
/-- Whether a thickness is full and not harmed. -/
def fitC (c : Fe) (s : Sp) : Bool := inB c.full c.harm s.1 && inB c.full c.harm s.2
def canC (c : Fe) (s : Sp) : Bool := decide (c.full ≤ s.2) && decide (s.1 ≤ c.harm)
/-- The cells of a felt that say when it is full. -/
def FullAt (bx bf : Nat) (c : Fe) (w : World) : Prop := w.cell? ⟨bx, 0, none⟩ = some (.pointer (some ⟨bf, 0, none⟩)) ∧ w.cell? ⟨bf, 7, none⟩ = some (iv c.full) ∧ w.cell? ⟨bf, 8, none⟩ = some (iv c.harm)
theorem FullAt.below {bx bf : Nat} {c : Fe} {w w' : World} (h : FullAt bx bf c w) (hb : Below w.heap.size w w') : FullAt bx bf c w' := ⟨kcell hb h.1, kcell hb h.2.1, kcell hb h.2.2⟩
set_option maxHeartbeats 3200000 in
theorem fit1_any (bx bf : Nat) (c : Fe) (s : Sp) (w : World) (hF : FullAt bx bf c w) :
    Calls Try.prog 75 #[.agg #[iv s.1, iv s.2], .pointer (some ⟨bx, 0, none⟩)] w fun e w' => e = .returned (.bool (fitC c s)) ∧ Below w.heap.size w w' := by
  obtain ⟨h1, h2, h3⟩ := hF
  obtain ⟨a, b⟩ := s
  obtain ⟨Wn, hWn⟩ : ∃ Wn : World, w.alloc (.cells #[iv a, iv b] 36) = Wn := ⟨_, rfl⟩
  have hBw : Below w.heap.size w Wn := by rw [← hWn]; exact bpush (Below.refl _ _) _
  have c0 : Wn.cell? ⟨w.heap.size, 0, none⟩ = some (iv a) := by rw [← hWn]; exact ncell0 _ _ _ _
  have c1 : Wn.cell? ⟨w.heap.size, 1, none⟩ = some (iv b) := by rw [← hWn]; exact ncell1 _ _ _ _
  have h1 := kcell hBw h1; have h2 := kcell hBw h2; have h3 := kcell hBw h3
  have HBW := Lib.hid hBw
  clear hBw
  go_enter Try.func75, Try.ntmps75
  go_wp2_with fail
  have hbn : Below Wn.heap.size Wn Wn := Below.refl _ _
  clear hWn
  go_region_held3 (fun w' => w'.cell? ⟨bx, 0, none⟩ = some (.pointer (some ⟨bf, 0, none⟩)) ∧ w'.cell? ⟨bf, 7, none⟩ = some (iv c.full) ∧ w'.cell? ⟨bf, 8, none⟩ = some (iv c.harm) ∧ w'.cell? ⟨w.heap.size, 0, none⟩ = some (iv a) ∧ w'.cell? ⟨w.heap.size, 1, none⟩ = some (iv b) ∧ Below Wn.heap.size Wn w')
    (first | (go_split_ands; refine ⟨?_, ?_, ?_, ?_, ?_, ?_⟩ <;> first | assumption | exact kcell hbK (by assumption) | exact kfrozen hbK (by assumption) (by assumption) | exact bstep (by assumption) hbK | exact SliceOf.below (by assumption) hbK | exact kcell (bpush (Below.refl _ _) _) (by assumption) | exact kfrozen (bpush (Below.refl _ _) _) (by assumption) (by assumption) | exact bpush (by assumption) _ | exact SliceOf.below (by assumption) (bpush (Below.refl _ _) _)) | (refine ⟨?_, ?_, ?_, ?_, ?_, ?_⟩ <;> first | exact Below.drew (by assumption) | exact SliceOf.below (by assumption) ((Below.refl _ _).drew) | assumption))
    (first | (go_split_ands; (with_reducible refine (within_any _ _ [a, b] _ _ (ints2 (by go_simp) (by go_simp))).mono ?_); rintro e w3 ⟨rfl, rfl⟩))
  all_goals
    rename_i hHeld
    have HHB := Lib.hid (bstep HBW.out hHeld.2.2.2.2.2)
    clear hHeld
    go_wp2_with fail
    go_ret
    exact ⟨by simp [fitC], HHB.out⟩
def fitB (n : Nat) (c : Fe) (x : Chc) (hour : Nat) : Bool := (List.range n).all fun p => fitC c (thickI n c x p hour)
set_option maxRecDepth 20000 in
set_option maxHeartbeats 3200000 in
theorem fit_any (n : Nat) (c : Fe) (pa ma : Option Addr) (pc mc bf : Nat) (x : Chc) (hour : Nat) (w : World) (hn : n ≤ 3) (hh : hour ≤ 36) (hx : okG x) (hq : ∀ p, p < n → okP (x.p p))
    (hf : w.heap[bf]? = some (.cells (frow c (.slice pa n pc) (.slice ma 0 mc) n 36) 135 (0, 0))) :
    Calls Try.prog 68 #[.agg (ccells bf x).toArray, iv hour] w fun e w' => e = .returned (.bool (fitB n c x hour)) ∧ Below w.heap.size w w' := by
  have hbl : bf < w.heap.size := (Array.getElem?_eq_some_iff.1 hf).1
  obtain ⟨Wn, hWn⟩ : ∃ Wn : World, w.alloc (.cells (ccells bf x).toArray 143) = Wn := ⟨_, rfl⟩
  have hBw : Below w.heap.size w Wn := by rw [← hWn]; exact bpush (Below.refl _ _) _
  have hrw : Wn.heap[w.heap.size]? = some (.cells (ccells bf x).toArray 143 (0, 0)) := by rw [← hWn]; exact heap_new _ _ _
  have hfn := (hBw.block bf hbl).trans hf
  have HFA : Hid (FullAt w.heap.size bf c Wn) := ⟨by rw [cell_of_row _ _ _ _ _ _ hrw]; rfl, by rw [cell_of_row _ _ _ _ _ _ hfn]; exact frow_head _ _ _ _ _ 7 rfl, by rw [cell_of_row _ _ _ _ _ _ hfn]; exact frow_head _ _ _ _ _ 8 rfl⟩
  have HEV := Lib.hid (every_any n c pa ma pc mc bf x hour 75 #[.pointer (some ⟨w.heap.size, 0, none⟩)] (fitC c) Wn (enters_of Try.func75 (by kernel_rfl) rfl) hn hh hx hq hfn
    (fun s W _ hb => fit1_any w.heap.size bf c s W (HFA.out.below hb)))
  have HBW := Lib.hid hBw
  have e0 : Wn.cell? ⟨w.heap.size, 0, none⟩ = some (.pointer (some ⟨bf, 0, none⟩)) := by rw [cell_of_row _ _ _ _ _ _ hrw]; rfl
  have e1 : Wn.cell? ⟨w.heap.size, 1, none⟩ = some (iv x.s) := by rw [cell_of_row _ _ _ _ _ _ hrw]; rfl
  have e2 : Wn.cell? ⟨w.heap.size, 2, none⟩ = some (iv x.k) := by rw [cell_of_row _ _ _ _ _ _ hrw]; rfl
  have e3 : Wn.cell? ⟨w.heap.size, 3, none⟩ = some (iv x.l0) := by rw [cell_of_row _ _ _ _ _ _ hrw]; rfl
  have e4 : Wn.cell? ⟨w.heap.size, 4, none⟩ = some (iv x.h0) := by rw [cell_of_row _ _ _ _ _ _ hrw]; rfl
  have e5 : Wn.cell? ⟨w.heap.size, 5, none⟩ = some (iv x.l1) := by rw [cell_of_row _ _ _ _ _ _ hrw]; rfl
  have e6 : Wn.cell? ⟨w.heap.size, 6, none⟩ = some (iv x.h1) := by rw [cell_of_row _ _ _ _ _ _ hrw]; rfl
  have e7 : Wn.cell? ⟨w.heap.size, 7, none⟩ = some (iv x.l2) := by rw [cell_of_row _ _ _ _ _ _ hrw]; rfl
  have e8 : Wn.cell? ⟨w.heap.size, 8, none⟩ = some (iv x.h2) := by rw [cell_of_row _ _ _ _ _ _ hrw]; rfl
  simp only [ccells] at hWn HEV ⊢
  clear hrw hBw hfn hf hx hq
  go_enter Try.func68, Try.ntmps68
  go_wp2_with fail
  refine HEV.out.mono ?_
  rintro e w2 ⟨rfl, hb2⟩
  have HB2 := Lib.hid (bstep HBW.out hb2)
  clear hb2 e0 e1 e2 e3 e4 e5 e6 e7 e8
  go_wp2_with fail
  go_ret
  exact ⟨rfl, HB2.out⟩
end Go.Proofs.Ytdhkgpfcanekkaa
