/- A copy of a field. -/
import Derived.Test.YtkialkfplhhenaaGl
import Derived.Deep.RegionLaw
import Derived.Deep.CutBlock
import Derived.Deep.DeepCutAuto
namespace Go.Proofs.Ytkialkfplhhenaa
open Go Go.RowKit Go.Shelf
attribute [local go_sem] Oper.semAt_some
attribute [local go_sem ↓] Go.wp_at_zero Go.wp_at_succ

theorem infoTn : (Try.prog.info? 41).map (fun i => (i.zero, i.size, i.bytes)) = some (some (.agg #[.int .i64 0, .int .i64 0, .int .i64 0, .int .i64 0]), 4, 32) := by kernel_rfl
theorem infoIn : (Try.prog.info? 3).map (fun i => (i.zero, i.size, i.bytes)) = some (some (.int .i64 0), 1, 8) := by kernel_rfl
theorem encN_len (c : Tn) : (encN c).length = 4 := rfl
theorem encN_one (c : Tn) : ∀ u ∈ encN c, u.oneCell' = true := by simp [encN, Value.oneCell']
/-- While a field is being copied. -/
structure OwnPre (cs : Array Value) (w X : World) : Prop where
  B : Below w.heap.size w X
  S : w.heap.size + 2 ≤ X.heap.size
  h : X.heap[w.heap.size]? = some (.cells cs 43 (0, 0))
  z : X.heap[w.heap.size + 1]? = some (.cells #[.slice none 0 0, .slice none 0 0, iv 0, iv 0] 43 (0, 0))
theorem OwnPre.alloc {cs : Array Value} {w X : World} (h : OwnPre cs w X) (o : Obj) : OwnPre cs w (X.alloc o) :=
  ⟨bpush h.B o, by have := h.S; simp; omega, by rw [Below.heap_alloc _ _ _ (by have := h.S; omega)]; exact h.h, by rw [Below.heap_alloc _ _ _ (by have := h.S; omega)]; exact h.z⟩
theorem OwnPre.drew {cs : Array Value} {w X : World} (h : OwnPre cs w X) : OwnPre cs w X.drew := ⟨h.B.drew, h.S, h.h, h.z⟩
theorem OwnPre.fresh {α : Type} {enc : α → List Value} {sz : Nat} {cs : Array Value} {w X w' : World} {g g' : Nat} {v : Value} {ys : List α} (h : OwnPre cs w X) (hE : Fresh enc sz w.heap.size g g' X w' v ys) (hg : w.heap.size + 2 ≤ g) : OwnPre cs w w' :=
  ⟨h.B.trans hE.below, Nat.le_trans h.S hE.below.size, (hE.block _ (by have := h.S; omega) (by omega)).trans h.h, (hE.block _ (by have := h.S; omega) (by omega)).trans h.z⟩
theorem OwnPre.far {α : Type} {enc : α → List Value} {sz : Nat} {v0 v1 v2 v3 : Value} {w X w' : World} {g g' : Nat} {v : Value} {ys : List α} (h : OwnPre #[v0, v1, v2, v3] w X) (hE : Fresh enc sz w.heap.size g g' X w' v ys) : w.heap.size ≠ g' ∧ w.heap.size + 1 ≠ g' :=
  ⟨(hE.cell ⟨w.heap.size, 0, none⟩ v0 (by rw [cell_of_row _ _ _ _ _ _ h.h]; rfl)).1, (hE.cell ⟨w.heap.size + 1, 0, none⟩ (.slice none 0 0) (by rw [cell_of_row _ _ _ _ _ _ h.z]; rfl)).1⟩
theorem OwnPre.c0 {v0 v1 v2 v3 : Value} {w X : World} (h : OwnPre #[v0, v1, v2, v3] w X) : X.cell? ⟨w.heap.size, 0, none⟩ = some v0 := by rw [cell_of_row _ _ _ _ _ _ h.h]; rfl
theorem OwnPre.c1 {v0 v1 v2 v3 : Value} {w X : World} (h : OwnPre #[v0, v1, v2, v3] w X) : X.cell? ⟨w.heap.size, 1, none⟩ = some v1 := by rw [cell_of_row _ _ _ _ _ _ h.h]; rfl
theorem OwnPre.f {v0 v1 v2 v3 : Value} {w X : World} (h : OwnPre #[v0, v1, v2, v3] w X) (o : Nat) : X.frozen? ⟨w.heap.size, o, none⟩ = false := by unfold World.frozen?; rw [h.h]; rfl
/-- A field has been copied. -/
def OwnCut (C : List Tn) (R : List Int) (gap str : Int) (w wx : World) : Prop :=
  ∃ g1 c1 g2 c2, OwnPre #[.slice (some ⟨g1, 0, none⟩) C.length c1, .slice (some ⟨g2, 0, none⟩) R.length c2, iv gap, iv str] w wx ∧ (w.heap.size ≠ g1 ∧ w.heap.size + 1 ≠ g1) ∧ (w.heap.size ≠ g2 ∧ w.heap.size + 1 ≠ g2) ∧ SliceOf encN 4 wx (.slice (some ⟨g1, 0, none⟩) C.length c1) C ∧ Ints wx (.slice (some ⟨g2, 0, none⟩) R.length c2) R
theorem own_done {C : List Tn} {R : List Int} {gap str : Int} {v0 v1 : Value} {w X : World} {g1 c1 g2 c2 : Nat} (h : OwnPre #[v0, v1, iv gap, iv str] w X) (n1 : w.heap.size ≠ g1 ∧ w.heap.size + 1 ≠ g1) (n2 : w.heap.size ≠ g2 ∧ w.heap.size + 1 ≠ g2) (s1 : SliceOf encN 4 X (.slice (some ⟨g1, 0, none⟩) C.length c1) C) (s2 : Ints X (.slice (some ⟨g2, 0, none⟩) R.length c2) R) :
    OwnCut C R gap str w ((X.setCell ⟨w.heap.size, 0, none⟩ (.slice (some ⟨g1, 0, none⟩) C.length c1)).setCell ⟨w.heap.size, 1, none⟩ (.slice (some ⟨g2, 0, none⟩) R.length c2)) := by
  have hcell : ∀ g o, w.heap.size ≠ g → ((X.setCell ⟨w.heap.size, 0, none⟩ (.slice (some ⟨g1, 0, none⟩) C.length c1)).setCell ⟨w.heap.size, 1, none⟩ (.slice (some ⟨g2, 0, none⟩) R.length c2)).cell? ⟨g, o, none⟩ = X.cell? ⟨g, o, none⟩ := fun g o hne =>
    World.cell?_of_block ((Below.heap_setCell _ _ _ _ (Ne.symm hne)).trans (Below.heap_setCell _ _ _ _ (Ne.symm hne)))
  have h1 := heap_setCell_same X w.heap.size 0 _ _ (.slice (some ⟨g1, 0, none⟩) C.length c1) h.h
  have h2 := heap_setCell_same _ w.heap.size 1 _ _ (.slice (some ⟨g2, 0, none⟩) R.length c2) h1
  refine ⟨g1, c1, g2, c2, ⟨bput (p := ⟨w.heap.size, 1, none⟩) (bput (p := ⟨w.heap.size, 0, none⟩) h.B (Nat.le_refl _) _) (Nat.le_refl _) _, by have := h.S; simp [World.setCell]; exact this, h2, ?_⟩, n1, n2, ?_, ?_⟩
  · rw [Below.heap_setCell _ _ _ _ (by show w.heap.size + 1 ≠ w.heap.size; omega), Below.heap_setCell _ _ _ _ (by show w.heap.size + 1 ≠ w.heap.size; omega)]; exact h.z
  · exact SliceOf.at_block s1 (fun o u hu => (hcell g1 o n1.1).trans hu)
  · exact SliceOf.at_block s2 (fun o u hu => (hcell g2 o n2.1).trans hu)

set_option maxRecDepth 20000 in
set_option maxHeartbeats 12800000 in
theorem elmOwn_any (C : List Tn) (R : List Int) (gap str : Int) (ca ra : Addr) (cc rc : Nat) (w : World) (hneC : C ≠ []) (hneR : R ≠ []) (hlC : C.length ≤ 1000) (hlR : R.length ≤ 1000) (hC : SliceOf encN 4 w (.slice (some ca) C.length cc) C) (hR : Ints w (.slice (some ra) R.length rc) R) :
    Calls Try.prog 10 #[.agg #[.slice (some ca) C.length cc, .slice (some ra) R.length rc, iv gap, iv str]] w fun e w' => ∃ g1 c1 g2 c2, e = .returned (.agg #[.slice (some ⟨g1, 0, none⟩) C.length c1, .slice (some ⟨g2, 0, none⟩) R.length c2, iv gap, iv str]) ∧ SliceOf encN 4 w' (.slice (some ⟨g1, 0, none⟩) C.length c1) C ∧ Ints w' (.slice (some ⟨g2, 0, none⟩) R.length c2) R ∧ Below w.heap.size w w' := by
  obtain ⟨i0, hi, hz0, hz1, hz2⟩ := info_parts infoTn
  obtain ⟨i1, hj, hy0, hy1, hy2⟩ := info_parts infoIn
  have HI := Lib.hid hi; have HZ0 := Lib.hid hz0; have HZ1 := Lib.hid hz1; have HZ2 := Lib.hid hz2
  have HJ := Lib.hid hj; have HY0 := Lib.hid hy0; have HY1 := Lib.hid hy1; have HY2 := Lib.hid hy2
  have HB2 : Hid (C.length ≤ maxLen ∧ C.length * 32 ≤ 140737488355328) := by simp only [Hid]; unfold maxLen; omega
  have HB3 : Hid (R.length ≤ maxLen ∧ R.length * 8 ≤ 140737488355328) := by simp only [Hid]; unfold maxLen; omega
  have HC := Lib.hid hC; have HR := Lib.hid hR
  clear hi hz0 hz1 hz2 hj hy0 hy1 hy2 hC hR
  obtain ⟨Wn, hWn⟩ : ∃ Wn : World, (w.alloc (.cells #[.slice (some ca) C.length cc, .slice (some ra) R.length rc, iv gap, iv str] 43)).alloc (.cells #[.slice none 0 0, .slice none 0 0, .int .i64 0, .int .i64 0] 43) = Wn := ⟨_, rfl⟩
  have hP : OwnPre #[.slice (some ca) C.length cc, .slice (some ra) R.length rc, iv gap, iv str] w Wn := by
    rw [← hWn]
    refine ⟨bpush (bpush (Below.refl _ _) _) _, by simp, ?_, ?_⟩
    · rw [Below.heap_alloc _ _ _ (by simp)]; exact heap_new _ _ _
    · have := heap_new (w.alloc (.cells #[.slice (some ca) C.length cc, .slice (some ra) R.length rc, iv gap, iv str] 43)) #[.slice none 0 0, .slice none 0 0, iv 0, iv 0] 43
      rwa [World.size_alloc] at this
  have c0 := hP.c0
  have c1 := hP.c1
  have d0 := hP.f 0
  have d1 := hP.f 1
  have z0 : Wn.drew.cell? ⟨w.heap.size, 0, none⟩ = some (.slice (some ca) C.length cc) := c0
  have z1 : Wn.drew.cell? ⟨w.heap.size, 1, none⟩ = some (.slice (some ra) R.length rc) := c1
  have z2 : Wn.drew.frozen? ⟨w.heap.size, 0, none⟩ = false := d0
  have z3 : Wn.drew.frozen? ⟨w.heap.size, 1, none⟩ = false := d1
  have hzn : w.heap.size + 2 ≤ Wn.heap.size := hP.S
  have hn0 : w.heap.size < Wn.heap.size := by omega
  have hn1 : w.heap.size < Wn.heap.size + 1 := by omega
  have HP := Lib.hid hP
  clear hP
  go_enter Try.func10, Try.ntmps10
  go_wp2_with fail
  clear hWn
  go_cut [] (fun wx => OwnCut C R gap str w wx)
  case first =>
    go_region_law (first | (refine S_appendE (B := w.heap.size) C hneC (by rfl) _ _ 33 (by rfl) Try.underlying33 HI.out HZ0.out HZ1.out HZ2.out rfl Nat.four_pos' encN_len encN_one (by rfl) (by rfl) ?_ ?_ HB2.out ?_ ?_; (focus (first | (refine heapA ?_; simp; done) | (refine heapB ?_; simp; done) | exact heap_new1 _ _ _ _)); (focus (exact HC.out.below (OwnPre.B (cs := #[.slice (some ca) C.length cc, .slice (some ra) R.length rc, iv gap, iv str]) (by repeat (first | exact HP.out | (with_reducible refine OwnPre.drew ?_) | (with_reducible refine OwnPre.alloc ?_ _)))))); (focus omega); intro g1 k1 w1 hE; have hP1 := OwnPre.fresh (cs := #[.slice (some ca) C.length cc, .slice (some ra) R.length rc, iv gap, iv str]) (by repeat (first | exact HP.out | (with_reducible refine OwnPre.drew ?_) | (with_reducible refine OwnPre.alloc ?_ _))) hE (by omega); have hf1 := OwnPre.far (v0 := .slice (some ca) C.length cc) (v1 := .slice (some ra) R.length rc) (v2 := iv gap) (v3 := iv str) (by repeat (first | exact HP.out | (with_reducible refine OwnPre.drew ?_) | (with_reducible refine OwnPre.alloc ?_ _))) hE; have n0 := hP1.c0; have n1 := hP1.c1; have m0 := hP1.f 0; have m1 := hP1.f 1; have p0 : w.heap.size < w1.heap.size := Nat.lt_of_lt_of_le (Nat.lt_of_lt_of_le (Nat.lt_succ_self _) (Nat.le_succ _)) hP1.S; have p1 : w.heap.size < w1.heap.size + 1 := Nat.lt_succ_of_lt p0; have p2 : w.heap.size + 2 ≤ w1.heap.size := hP1.S; have HQ1 := Lib.hid hP1; have HA := Lib.hid (And.intro hE.sl hf1); have HE1 := Lib.hid hE; clear hE hP1 hf1) | (refine S_appendE (B := w.heap.size) R hneR (by rfl) _ _ 29 (by rfl) Try.underlying29 HJ.out HY0.out HY1.out HY2.out rfl Nat.one_pos encI_len encI_one (by rfl) (by rfl) ?_ ?_ HB3.out ?_ ?_; (focus (first | (refine heapA ?_; simp; done) | (refine heapB ?_; simp; done) | (refine (HE1.out.block _ ?_ ?_).trans ?_; (focus (first | (simp; done) | (simp; omega))); (focus (first | (simp; done) | (simp; omega))); first | (refine heapA ?_; simp; done) | (refine heapB ?_; simp; done) | exact heap_new1 _ _ _ _))); (focus (exact HR.out.below (OwnPre.B (cs := #[.slice (some ca) C.length cc, .slice (some ra) R.length rc, iv gap, iv str]) (by repeat (first | exact HQ1.out | (with_reducible refine OwnPre.drew ?_) | (with_reducible refine OwnPre.alloc ?_ _)))))); (focus omega); intro g2 k2 w2 hF; have hP2 := OwnPre.fresh (cs := #[.slice (some ca) C.length cc, .slice (some ra) R.length rc, iv gap, iv str]) (by repeat (first | exact HQ1.out | (with_reducible refine OwnPre.drew ?_) | (with_reducible refine OwnPre.alloc ?_ _))) hF (by omega); have hf2 := OwnPre.far (v0 := .slice (some ca) C.length cc) (v1 := .slice (some ra) R.length rc) (v2 := iv gap) (v3 := iv str) (by repeat (first | exact HQ1.out | (with_reducible refine OwnPre.drew ?_) | (with_reducible refine OwnPre.alloc ?_ _))) hF; have q0 := hP2.c0; have q1 := hP2.c1; have r0 := hP2.f 0; have r1 := hP2.f 1; have HS1 := Lib.hid (SliceOf.cellsEq (HA.out.1.below (by repeat (first | exact Below.refl _ _ | (with_reducible refine Below.drew ?_) | (with_reducible refine bpush ?_ _)))) (fun a u hu => (hF.cell a u hu).2)); have HD := Lib.hid (And.intro hP2 (And.intro hf2 hF.sl)); clear hF hP2 hf2))
    all_goals
      go_wp2_with fail
      go_meet
      exact own_done HD.out.1 HA.out.2 HD.out.2.1 HS1.out HD.out.2.2
  case rest =>
    obtain ⟨g1, k1, g2, k2, hp, n1, n2, s1, s2⟩ := hcut
    have HP2 := Lib.hid hp
    have HN := Lib.hid (And.intro n1 n2)
    have HS1 := Lib.hid s1; have HS2 := Lib.hid s2
    have e0 := hp.c0
    have e1 := hp.c1
    have e2 : wc.cell? ⟨w.heap.size, 2, none⟩ = some (iv gap) := by rw [cell_of_row _ _ _ _ _ _ hp.h]; rfl
    have e3 : wc.cell? ⟨w.heap.size, 3, none⟩ = some (iv str) := by rw [cell_of_row _ _ _ _ _ _ hp.h]; rfl
    have h1 := Lib.hid hp.z
    have HSI := Lib.hid (show (Try.prog.info? 43).map (·.size) = some (#[Value.slice (some ⟨g1, 0, none⟩) C.length k1, .slice (some ⟨g2, 0, none⟩) R.length k2, iv gap, iv str] : Array Value).size by kernel_rfl)
    have HON : Hid (#[Value.slice (some ⟨g1, 0, none⟩) C.length k1, .slice (some ⟨g2, 0, none⟩) R.length k2, iv gap, iv str].all (fun v : Value => v.oneCell') = true) := by simp [Hid, Value.oneCell']
    clear c0 c1 d0 d1 z0 z1 z2 z3 hzn hn0 hn1 hp n1 n2 s1 s2
    go_wp2_with (with_reducible change wpList _ _ _ (Oper.mk _ (Op.store 43 _ _) _ _ _ _ :: _) _ _; refine L_skip rfl (run_store_row 43 _ _ rfl _ rfl #[.slice (some ⟨g1, 0, none⟩) C.length k1, .slice (some ⟨g2, 0, none⟩) R.length k2, iv gap, iv str] rfl 43 #[.slice none 0 0, .slice none 0 0, iv 0, iv 0] h1.out HSI.out rfl HON.out) ?_)
    have hcell : ∀ g o, w.heap.size + 1 ≠ g → (wc.setRow (w.heap.size + 1) #[.slice (some ⟨g1, 0, none⟩) C.length k1, .slice (some ⟨g2, 0, none⟩) R.length k2, iv gap, iv str]).cell? ⟨g, o, none⟩ = wc.cell? ⟨g, o, none⟩ := fun g o hne =>
      World.cell?_of_block (heap_setRow_other _ _ _ _ (Ne.symm hne))
    exact bodyPost_ret (results_row1 (fn := Try.f10) Try.results10 _ rfl (heap_setRow_same h1.out) Try.underlying43 rfl HSI.out) rfl ⟨g1, k1, g2, k2, rfl, SliceOf.at_block HS1.out (fun o u hu => (hcell g1 o HN.out.1.2).trans hu), SliceOf.at_block HS2.out (fun o u hu => (hcell g2 o HN.out.2.2).trans hu), bsetRow HP2.out.B (Nat.le_succ _) _⟩
end Go.Proofs.Ytkialkfplhhenaa
