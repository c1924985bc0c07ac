/- A copy of a felt: elmStock. -/
import Derived.Test.YtgoncgbbgodliaaLk
import Derived.Test.YtgoncgbbgodliaaSj
import Derived.Deep.RegionLaw
import Derived.Deep.CutBlock
import Derived.Deep.DeepCutAuto
namespace Go.Proofs.Ytgoncgbbgodliaa
open Go Go.RowKit Go.Shelf
attribute [local go_sem] Oper.semAt_some
attribute [local go_sem ↓] Go.wp_at_zero Go.wp_at_succ

theorem infoSpL : (Try.prog.info? 33).map (fun i => (i.zero, i.size, i.bytes)) = some (some (.agg #[.int .i64 0, .int .i64 0]), 2, 16) := by kernel_rfl
/-- While a felt is being copied. -/
structure StPre (c : Fe) (p m : Value) (w X : World) : Prop where
  B : Below w.heap.size w X
  S : w.heap.size + 2 ≤ X.heap.size
  h : X.heap[w.heap.size]? = some (.cells #[p, iv c.sl, iv c.sh, iv c.wl, iv c.wh, iv c.turn, iv c.start, iv c.full, iv c.harm, m] 36 (0, 0))
  z : X.heap[w.heap.size + 1]? = some (.cells #[.slice none 0 0, iv 0, iv 0, iv 0, iv 0, iv 0, iv 0, iv 0, iv 0, .slice none 0 0] 36 (0, 0))
theorem StPre.alloc {c : Fe} {p m : Value} {w X : World} (h : StPre c p m w X) (o : Obj) : StPre c p m w (X.alloc o) :=
  ⟨bpush h.B o, by have := h.S; simp; omega, by rw [Below.heap_alloc _ _ _ (by have := h.S; omega)]; exact h.h, by rw [Below.heap_alloc _ _ _ (by have := h.S; omega)]; exact h.z⟩
theorem StPre.drew {c : Fe} {p m : Value} {w X : World} (h : StPre c p m w X) : StPre c p m w X.drew := ⟨h.B.drew, h.S, h.h, h.z⟩
theorem StPre.fresh {α : Type} {enc : α → List Value} {sz : Nat} {c : Fe} {p m : Value} {w X w' : World} {g g' : Nat} {v : Value} {ys : List α} (h : StPre c p m w X) (hE : Fresh enc sz w.heap.size g g' X w' v ys) (hg : w.heap.size + 2 ≤ g) : StPre c p m w w' :=
  ⟨h.B.trans hE.below, Nat.le_trans h.S hE.below.size, (hE.block _ (by have := h.S; omega) (by omega)).trans h.h, (hE.block _ (by have := h.S; omega) (by omega)).trans h.z⟩
theorem StPre.far {α : Type} {enc : α → List Value} {sz : Nat} {c : Fe} {p m : Value} {w X w' : World} {g g' : Nat} {v : Value} {ys : List α} (h : StPre c p m w X) (hE : Fresh enc sz w.heap.size g g' X w' v ys) : w.heap.size ≠ g' ∧ w.heap.size + 1 ≠ g' :=
  ⟨(hE.cell ⟨w.heap.size, 1, none⟩ (iv c.sl) (by rw [cell_of_row _ _ _ _ _ _ h.h]; rfl)).1, (hE.cell ⟨w.heap.size + 1, 0, none⟩ (.slice none 0 0) (by rw [cell_of_row _ _ _ _ _ _ h.z]; rfl)).1⟩
theorem StPre.c0 {c : Fe} {p m : Value} {w X : World} (h : StPre c p m w X) : X.cell? ⟨w.heap.size, 0, none⟩ = some p := by rw [cell_of_row _ _ _ _ _ _ h.h]; rfl
theorem StPre.c9 {c : Fe} {p m : Value} {w X : World} (h : StPre c p m w X) : X.cell? ⟨w.heap.size, 9, none⟩ = some m := by rw [cell_of_row _ _ _ _ _ _ h.h]; rfl
theorem StPre.f {c : Fe} {p m : Value} {w X : World} (h : StPre c p m w X) (o : Nat) : X.frozen? ⟨w.heap.size, o, none⟩ = false := frozen_of_row _ _ _ _ _ h.h
/-- A felt has been copied. -/
def StCut (P : List Sp) (c : Fe) (w wx : World) : Prop :=
  ∃ g1 c1 g2 c2, StPre c (.slice (some ⟨g1, 0, none⟩) P.length c1) (.slice (some ⟨g2, 0, none⟩) 0 c2) w wx ∧ (w.heap.size ≠ g1 ∧ w.heap.size + 1 ≠ g1) ∧ SliceOf encS 2 wx (.slice (some ⟨g1, 0, none⟩) P.length c1) P
theorem StCut.alloc {P : List Sp} {c : Fe} {w wx : World} (h : StCut P c w wx) (o : Obj) : StCut P c w (wx.alloc o) := by
  obtain ⟨g1, c1, g2, c2, h1, h2, h3⟩ := h
  exact ⟨g1, c1, g2, c2, h1.alloc o, h2, h3.below (bpush (Below.refl _ _) _)⟩
theorem st_done {P : List Sp} {c : Fe} {p m : Value} {w X : World} {g1 c1 g2 c2 : Nat} (h : StPre c p m w X) (n1 : w.heap.size ≠ g1 ∧ w.heap.size + 1 ≠ g1) (s1 : SliceOf encS 2 X (.slice (some ⟨g1, 0, none⟩) P.length c1) P) :
    StCut P c w ((X.setCell ⟨w.heap.size, 0, none⟩ (.slice (some ⟨g1, 0, none⟩) P.length c1)).setCell ⟨w.heap.size, 9, none⟩ (.slice (some ⟨g2, 0, none⟩) 0 c2)) := by
  have hcell : ∀ g o, w.heap.size ≠ g → ((X.setCell ⟨w.heap.size, 0, none⟩ (.slice (some ⟨g1, 0, none⟩) P.length c1)).setCell ⟨w.heap.size, 9, none⟩ (.slice (some ⟨g2, 0, none⟩) 0 c2)).cell? ⟨g, o, none⟩ = X.cell? ⟨g, o, none⟩ := fun g o hne =>
    World.cell?_of_block ((Below.heap_setCell _ _ _ _ (Ne.symm hne)).trans (Below.heap_setCell _ _ _ _ (Ne.symm hne)))
  have h1 := heap_setCell_same X w.heap.size 0 _ _ (.slice (some ⟨g1, 0, none⟩) P.length c1) h.h
  have h2 := heap_setCell_same _ w.heap.size 9 _ _ (.slice (some ⟨g2, 0, none⟩) 0 c2) h1
  refine ⟨g1, c1, g2, c2, ⟨bput (p := ⟨w.heap.size, 9, none⟩) (bput (p := ⟨w.heap.size, 0, none⟩) h.B (Nat.le_refl _) _) (Nat.le_refl _) _, by have := h.S; simp [World.setCell]; exact this, by simpa using h2, ?_⟩, n1, ?_⟩
  · rw [Below.heap_setCell _ _ _ _ (by show w.heap.size + 1 ≠ w.heap.size; omega), Below.heap_setCell _ _ _ _ (by show w.heap.size + 1 ≠ w.heap.size; omega)]; exact h.z
  · exact SliceOf.at_block s1 (fun o u hu => (hcell g1 o n1.1).trans hu)

set_option maxRecDepth 20000 in
set_option maxHeartbeats 12800000 in
theorem elmStock_any (P : List Sp) (c : Fe) (ra : Addr) (rc : Nat) (w : World) (hne : P ≠ []) (hl : P.length ≤ 1000) (hP : SliceOf encS 2 w (.slice (some ra) P.length rc) P) :
    Calls Try.prog 7 #[.agg #[.slice (some ra) P.length rc, iv c.sl, iv c.sh, iv c.wl, iv c.wh, iv c.turn, iv c.start, iv c.full, iv c.harm, .slice none 0 0]] w fun e w' => ∃ g1 c1 g2 c2, e = .returned (.agg #[.slice (some ⟨g1, 0, none⟩) P.length c1, iv c.sl, iv c.sh, iv c.wl, iv c.wh, iv c.turn, iv c.start, iv c.full, iv c.harm, .slice (some ⟨g2, 0, none⟩) 0 c2]) ∧ SliceOf encS 2 w' (.slice (some ⟨g1, 0, none⟩) P.length c1) P ∧ Below w.heap.size w w' := by
  obtain ⟨i1, hj, hy0, hy1, hy2⟩ := info_parts infoSpL
  obtain ⟨i0, hi⟩ : ∃ i0, Try.prog.info? 102 = some i0 := Option.isSome_iff_exists.1 (by kernel_rfl)
  have HI := Lib.hid hi
  have HJ := Lib.hid hj; have HY0 := Lib.hid hy0; have HY1 := Lib.hid hy1; have HY2 := Lib.hid hy2
  have HB3 : Hid (P.length ≤ maxLen ∧ P.length * 16 ≤ 140737488355328) := by simp only [Hid]; unfold maxLen; omega
  have HPP := Lib.hid hP
  clear hi hj hy0 hy1 hy2 hP
  obtain ⟨Wn, hWn⟩ : ∃ Wn : World, (w.alloc (.cells #[.slice (some ra) P.length rc, iv c.sl, iv c.sh, iv c.wl, iv c.wh, iv c.turn, iv c.start, iv c.full, iv c.harm, .slice none 0 0] 36)).alloc (.cells #[.slice none 0 0, iv 0, iv 0, iv 0, iv 0, iv 0, iv 0, iv 0, iv 0, .slice none 0 0] 36) = Wn := ⟨_, rfl⟩
  have hP : StPre c (.slice (some ra) P.length rc) (.slice none 0 0) w Wn := by
    rw [← hWn]
    refine ⟨bpush (bpush (Below.refl _ _) _) _, by simp, ?_, ?_⟩
    · rw [Below.heap_alloc _ _ _ (by simp)]; exact heap_new _ _ _
    · have := heap_new (w.alloc (.cells #[.slice (some ra) P.length rc, iv c.sl, iv c.sh, iv c.wl, iv c.wh, iv c.turn, iv c.start, iv c.full, iv c.harm, .slice none 0 0] 36)) #[.slice none 0 0, iv 0, iv 0, iv 0, iv 0, iv 0, iv 0, iv 0, iv 0, .slice none 0 0] 36
      rwa [World.size_alloc] at this
  have c0 := hP.c0
  have c1 := hP.c9
  have d0 := hP.f 0
  have d1 := hP.f 9
  have z0 : Wn.drew.cell? ⟨w.heap.size, 0, none⟩ = some (.slice (some ra) P.length rc) := c0
  have z1 : Wn.drew.cell? ⟨w.heap.size, 9, none⟩ = some (.slice none 0 0) := c1
  have z2 : Wn.drew.frozen? ⟨w.heap.size, 0, none⟩ = false := d0
  have z3 : Wn.drew.frozen? ⟨w.heap.size, 9, none⟩ = false := d1
  have hzn : w.heap.size + 2 ≤ Wn.heap.size := hP.S
  have hn0 : w.heap.size < Wn.heap.size := by omega
  have hn1 : w.heap.size < Wn.heap.size + 1 := by omega
  have HP := Lib.hid hP
  clear hP
  go_enter Try.func7, Try.ntmps7
  go_wp2_with fail
  clear hWn
  go_cut [] (fun wx => StCut P c w wx)
  case first =>
    go_region_law (first | (refine S_appendNone (base := 0) (by rfl) _ _ 34 (by rfl) Try.underlying34 HI.out (by rfl) (by rfl) (own_blk encM 4 102 0 ?_ (Nat.zero_le _)) ?_; (focus (first | (refine heapA ?_; simp; done) | (refine heapB ?_; simp; done) | exact heap_new1 _ _ _ _ | (refine (hF.block _ ?_ ?_).trans ?_ <;> first | (simp; done) | (simp; omega) | (refine heapA ?_; simp; done) | (refine heapB ?_; simp; done) | exact heap_new1 _ _ _ _)))) | (refine S_appendE (B := w.heap.size) P hne (by rfl) _ _ 31 (by rfl) Try.underlying31 HJ.out HY0.out HY1.out HY2.out rfl Nat.two_pos encS_len encS_one (by rfl) (by rfl) ?_ ?_ HB3.out ?_ ?_; (focus (first | (refine heapA ?_; simp; done) | (refine heapB ?_; simp; done) | exact heap_new1 _ _ _ _)); (focus (exact HPP.out.below (StPre.B (c := c) (p := .slice (some ra) P.length rc) (m := .slice none 0 0) (by repeat (first | exact HP.out | (with_reducible refine StPre.drew ?_) | (with_reducible refine StPre.alloc ?_ _)))))); (focus omega); intro g2 k2 w2 hF; have hP2 := StPre.fresh (c := c) (p := .slice (some ra) P.length rc) (m := .slice none 0 0) (by repeat (first | exact HP.out | (with_reducible refine StPre.drew ?_) | (with_reducible refine StPre.alloc ?_ _))) hF (by omega); have hf2 := StPre.far (c := c) (p := .slice (some ra) P.length rc) (m := .slice none 0 0) (by repeat (first | exact HP.out | (with_reducible refine StPre.drew ?_) | (with_reducible refine StPre.alloc ?_ _))) hF; have hw2 : w.heap.size < w2.heap.size := (by have := hP2.S; omega); have q0 := hP2.c0; have q1 := hP2.c9; have r0 := hP2.f 0; have r1 := hP2.f 9; have HD := Lib.hid (And.intro hP2 (And.intro hf2 hF.sl))))
    all_goals
      go_wp2_with fail
      go_meet
      first
        | exact st_done HD.out.1 HD.out.2.1 HD.out.2.2
        | exact (st_done HD.out.1 HD.out.2.1 HD.out.2.2).alloc _
  case rest =>
    obtain ⟨g1, k1, g2, k2, hp, n1, s1⟩ := hcut
    have HP2 := Lib.hid hp
    have HN := Lib.hid n1
    have HS1 := Lib.hid s1
    have e0 : wc.cell? ⟨w.heap.size, 0, none⟩ = some (.slice (some ⟨g1, 0, none⟩) P.length k1) := by rw [cell_of_row _ _ _ _ _ _ hp.h]; rfl
    have e1 : wc.cell? ⟨w.heap.size, 1, none⟩ = some (iv c.sl) := by rw [cell_of_row _ _ _ _ _ _ hp.h]; rfl
    have e2 : wc.cell? ⟨w.heap.size, 2, none⟩ = some (iv c.sh) := by rw [cell_of_row _ _ _ _ _ _ hp.h]; rfl
    have e3 : wc.cell? ⟨w.heap.size, 3, none⟩ = some (iv c.wl) := by rw [cell_of_row _ _ _ _ _ _ hp.h]; rfl
    have e4 : wc.cell? ⟨w.heap.size, 4, none⟩ = some (iv c.wh) := by rw [cell_of_row _ _ _ _ _ _ hp.h]; rfl
    have e5 : wc.cell? ⟨w.heap.size, 5, none⟩ = some (iv c.turn) := by rw [cell_of_row _ _ _ _ _ _ hp.h]; rfl
    have e6 : wc.cell? ⟨w.heap.size, 6, none⟩ = some (iv c.start) := by rw [cell_of_row _ _ _ _ _ _ hp.h]; rfl
    have e7 : wc.cell? ⟨w.heap.size, 7, none⟩ = some (iv c.full) := by rw [cell_of_row _ _ _ _ _ _ hp.h]; rfl
    have e8 : wc.cell? ⟨w.heap.size, 8, none⟩ = some (iv c.harm) := by rw [cell_of_row _ _ _ _ _ _ hp.h]; rfl
    have e9 : wc.cell? ⟨w.heap.size, 9, none⟩ = some (.slice (some ⟨g2, 0, none⟩) 0 k2) := by rw [cell_of_row _ _ _ _ _ _ hp.h]; rfl
    have h1 := Lib.hid hp.z
    have HSI := Lib.hid (show (Try.prog.info? 36).map (·.size) = some (#[Value.slice (some ⟨g1, 0, none⟩) P.length k1, iv c.sl, iv c.sh, iv c.wl, iv c.wh, iv c.turn, iv c.start, iv c.full, iv c.harm, .slice (some ⟨g2, 0, none⟩) 0 k2] : Array Value).size by kernel_rfl)
    have HON : Hid ((#[Value.slice (some ⟨g1, 0, none⟩) P.length k1, iv c.sl, iv c.sh, iv c.wl, iv c.wh, iv c.turn, iv c.start, iv c.full, iv c.harm, .slice (some ⟨g2, 0, none⟩) 0 k2] : Array Value).all (fun v : Value => v.oneCell') = true) := by simp [Hid, Value.oneCell']
    clear c0 c1 d0 d1 z0 z1 z2 z3 hzn hn0 hn1 hp n1 s1
    go_wp2_with (with_reducible change wpList _ _ _ (Oper.mk _ (Op.store 36 _ _) _ _ _ _ :: _) _ _; refine L_skip rfl (run_store_row 36 _ _ rfl _ rfl #[.slice (some ⟨g1, 0, none⟩) P.length k1, iv c.sl, iv c.sh, iv c.wl, iv c.wh, iv c.turn, iv c.start, iv c.full, iv c.harm, .slice (some ⟨g2, 0, none⟩) 0 k2] rfl 36 #[.slice none 0 0, iv 0, iv 0, iv 0, iv 0, iv 0, iv 0, iv 0, iv 0, .slice none 0 0] h1.out HSI.out rfl HON.out) ?_)
    have hcell : ∀ g o, w.heap.size + 1 ≠ g → (wc.setRow (w.heap.size + 1) #[.slice (some ⟨g1, 0, none⟩) P.length k1, iv c.sl, iv c.sh, iv c.wl, iv c.wh, iv c.turn, iv c.start, iv c.full, iv c.harm, .slice (some ⟨g2, 0, none⟩) 0 k2]).cell? ⟨g, o, none⟩ = wc.cell? ⟨g, o, none⟩ := fun g o hne =>
      World.cell?_of_block (heap_setRow_other _ _ _ _ (Ne.symm hne))
    exact bodyPost_ret (results_cell_row (fn := Try.f7) Try.results7 _ _ (w.heap.size + 1) 36 #[.slice (some ⟨g1, 0, none⟩) P.length k1, iv c.sl, iv c.sh, iv c.wl, iv c.wh, iv c.turn, iv c.start, iv c.full, iv c.harm, .slice (some ⟨g2, 0, none⟩) 0 k2] (0, 0) _ rfl (heap_setRow_same h1.out) Try.underlying36 rfl HSI.out) rfl ⟨g1, k1, g2, k2, rfl, SliceOf.at_block HS1.out (fun o u hu => (hcell g1 o HN.out.2).trans hu), bsetRow HP2.out.B (Nat.le_succ _) _⟩
end Go.Proofs.Ytgoncgbbgodliaa
