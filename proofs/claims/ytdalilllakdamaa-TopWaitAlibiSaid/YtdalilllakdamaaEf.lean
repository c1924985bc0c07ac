/- TopWaitAlibi: the walk up to the minutes. -/
import Derived.Test.YtdalilllakdamaaEd
import Derived.Deep.RegionHeld3
import Derived.Deep.CutBlock
import Derived.Deep.DeepCutAuto
namespace Go.Proofs.Ytdalilllakdamaa
open Go Go.RowKit Go.Shelf
attribute [local go_sem] Oper.semAt_some
attribute [local go_sem ↓] Go.wp_at_zero Go.wp_at_succ

def encW3 (p : W3) : List Value := [u8 p.1, u8 p.2.1, u8 p.2.2]
theorem w3_cells {w : World} {a : Option Addr} {n cap k : Nat} {Y : List W3} {p : W3} (h : SliceU encW3 3 w (.slice a n cap) Y) (hk : Y[k]? = some p) :
    ∃ yb yo, a = some ⟨yb, yo, none⟩ ∧ w.cell? ⟨yb, yo + k * 3, none⟩ = some (u8 p.1) ∧ w.cell? ⟨yb, yo + k * 3 + 1, none⟩ = some (u8 p.2.1) ∧ w.cell? ⟨yb, yo + k * 3 + 2, none⟩ = some (u8 p.2.2) := by
  obtain ⟨a', c', hv, _, hc⟩ := h
  simp only [Value.slice.injEq] at hv
  obtain ⟨rfl, rfl, rfl⟩ := hv
  obtain ⟨yb, yo, rfl, hj⟩ := hc k p hk
  exact ⟨yb, yo, rfl, hj 0 _ rfl, hj 1 _ rfl, hj 2 _ rfl⟩
theorem encC_cellW {w : World} {g : Nat} {a b c d : Int} {t : TypeId} (h : w.heap[g]? = some (.cells #[iv a, iv b, iv c, iv d] t (0, 0))) : ∀ j u, (encC ⟨a, b, c, d⟩)[j]? = some u → w.cell? ⟨g, j, none⟩ = some u := by
  intro j u hu
  rw [cell_of_row _ _ _ _ _ _ h]
  rcases j with _ | _ | _ | _ | j <;> simp [encC] at hu ⊢ <;> exact hu
theorem encC_oneW (c : Ct) : ∀ u ∈ encC c, u.oneCell' = true := by simp [encC, Value.oneCell']
theorem spanW {W : World} {g : Nat} (h : W.heap[g]? = some (.cells #[.int .i64 0, .int .i64 0] 29 (0, 0))) :
    (W.cell? ⟨g, 0, none⟩ = some (.int .i64 0) ∧ W.cell? ⟨g, 1, none⟩ = some (.int .i64 0)) ∧ (W.frozen? ⟨g, 0, none⟩ = false ∧ W.frozen? ⟨g, 1, none⟩ = false) ∧ g < W.heap.size := by
  refine ⟨⟨?_, ?_⟩, ⟨?_, ?_⟩, (Array.getElem?_eq_some_iff.1 h).1⟩ <;> first | (rw [cell_of_row _ _ _ _ _ _ h]; rfl) | exact frozen_of_row _ _ _ _ _ h
theorem wKeep3 {Wr w' : World} {b : Nat} {v0 v1 v2 : Int} (h : Wr.heap[b]? = some (.cells #[u8 v0, u8 v1, u8 v2] 23 (0, 0))) (hb : Below Wr.heap.size Wr w') :
    w'.cell? ⟨b, 1, none⟩ = some (u8 v1) ∧ w'.cell? ⟨b, 2, none⟩ = some (u8 v2) ∧ Below Wr.heap.size Wr w' := by
  have h' := bblkG hb h
  refine ⟨?_, ?_, hb⟩ <;> (rw [cell_of_row _ _ _ _ _ _ h']; rfl)
theorem bputW {w W : World} {g i : Nat} (h : Below w.heap.size w W) (hg : w.heap.size ≤ g) (u : Value) : Below w.heap.size w (W.setCell ⟨g, i, none⟩ u) := bput (p := ⟨g, i, none⟩) h hg u
def GoneCut (gl gh : Int) (W : World) (p : Value) (wx : World) : Prop := ∃ gq, p = .pointer (some ⟨gq, 0, none⟩) ∧ wx.heap[gq]? = some (.cells #[iv gl, iv gh] 29 (0, 0)) ∧ Below W.heap.size W wx
theorem goneA {gl gh : Int} {W w3 : World} (hb : Below W.heap.size W w3) : GoneCut gl gh W (.pointer (some ⟨w3.heap.size, 0, none⟩)) (w3.alloc (.cells #[iv gl, iv gh] 29)) :=
  ⟨_, rfl, heap_new _ _ _, bpush hb _⟩
theorem goneB {gl gh : Int} {W w3 : World} {g : Nat} (hb : Below W.heap.size W w3) (hz : w3.heap[g]? = some (.cells #[.int .i64 0, .int .i64 0] 29 (0, 0))) (hg : W.heap.size ≤ g) :
    GoneCut gl gh W (.pointer (some ⟨g, 0, none⟩)) ((w3.setCell ⟨g, 0, none⟩ (iv gl)).setCell ⟨g, 1, none⟩ (iv gh)) :=
  ⟨_, rfl, heap_setW2 (i := 1) (x0 := iv gl) (x1 := .int .i64 0) (t := 29) (b := g) (by have := heap_setW2 (i := 0) (u := iv gl) (b := g) (t := 27) (W := w3) (x0 := .int .i64 0) (x1 := .int .i64 0); exact heap_setCell_same w3 g 0 #[.int .i64 0, .int .i64 0] _ _ hz), bputW (bputW hb hg _) hg _⟩
set_option maxRecDepth 20000 in
set_option maxHeartbeats 12800000 in
theorem walibi_any (v0 v1 v2 : Int) (la : Option Addr) (lc : Nat) (Y : List W3) (w : World) (hv0 : 0 ≤ v0 ∧ v0 ≤ 255) (hv1 : 0 ≤ v1 ∧ v1 ≤ 255) (hv2 : 0 ≤ v2 ∧ v2 ≤ 255) (hY : ∀ p ∈ Y, W3ok p) (hf : SliceU encW3 3 w (.slice la Y.length lc) Y) :
    Calls Try.prog 3 #[.slice la Y.length lc, .agg #[u8 v0, u8 v1, u8 v2]] w fun e w' => e = .returned (.bool true) ∧ Below w.heap.size w w' := by
  have HYY := Lib.hid hY
  have HV0 := Lib.hid hv0; have HV1 := Lib.hid hv1; have HV2 := Lib.hid hv2
  obtain ⟨W0, hW0⟩ : ∃ W : World, (w.alloc (.cells #[u8 v0, u8 v1, u8 v2] 23)).alloc (.cells #[.int .i64 3, .int .i64 1, .int .i64 0, .int .i64 2] 3) = W := ⟨_, rfl⟩
  have hb0 : Below w.heap.size w W0 := by rw [← hW0]; exact bpush (bpush (Below.refl _ _) _) _
  have hz0 : w.heap.size + 1 + 1 = W0.heap.size := by rw [← hW0]; simp
  have HVR := Lib.hid (show W0.heap[w.heap.size]? = some (.cells #[u8 v0, u8 v1, u8 v2] 23 (0, 0)) by rw [← hW0, Below.heap_alloc _ _ _ (by simp)]; exact heap_new _ _ _)
  have HRK := Lib.hid (show W0.heap[w.heap.size + 1]? = some (.cells #[iv 3, iv 1, iv 0, iv 2] 3 (0, 0)) by rw [← hW0]; exact heapA (by simp))
  have HFY0 := Lib.hid (SliceU.below hf hb0)
  have HB0 := Lib.hid hb0; have HW0 := Lib.hid hW0; have HZ0 := Lib.hid hz0
  clear hv0 hv1 hv2 hY hf hb0 hz0 hW0
  go_enter Try.func3, Try.ntmps3
  go_upto_region 2 with (fail)
  rw [HW0.out, HZ0.out]
  clear HW0
  obtain ⟨i0, hi, hz0, hz1, hz2⟩ := info_parts infoCW
  have HI := Lib.hid hi; have HZI0 := Lib.hid hz0; have HZI1 := Lib.hid hz1; have HZI2 := Lib.hid hz2
  clear hi hz0 hz1 hz2
  obtain ⟨rv, hrv⟩ : ∃ rv : Value, .slice (some ⟨w.heap.size + 1, 0, none⟩) 4 4 = rv := ⟨_, rfl⟩
  rw [hrv]
  have HRV := Lib.hid hrv
  clear hrv
  go_wp2_with fail
  go_loopw [6] (fun i wr => ∃ (k : Nat) (cv : Value), k ≤ Y.length ∧ k ≤ 6 ∧ i = iv k ∧ Hid (WdInv ((Y.take k).map waC) W0 rv cv wr)) (fun i _ => 6 - (intOf i).toNat)
  case atStart => exact ⟨0, .slice none 0 0, Nat.zero_le _, Nat.zero_le _, rfl, WdInv.start⟩
  case round =>
    obtain ⟨k, cv, hkY, hk4, rfl, HTI⟩ := hrel
    by_cases hlt : k < Y.length ∧ k < 6
    · obtain ⟨hl1, hl2⟩ := hlt
      obtain ⟨p, hp⟩ := getElem?_of_lt hl1
      have hpk := HYY.out p (List.mem_of_getElem? hp)
      obtain ⟨q0, q1, q2⟩ := p
      simp only [W3ok] at hpk
      obtain ⟨yb, yo, rfl, x0, x1, x2⟩ := w3_cells HFY0.out hp
      obtain ⟨we, hwe⟩ : ∃ x : Int, q0 % 4 = x := ⟨_, rfl⟩
      obtain ⟨co, hco⟩ : ∃ x : Int, q1 % 3 = x := ⟨_, rfl⟩
      obtain ⟨lo, hlo⟩ : ∃ x : Int, 1 + q2 % 4 = x := ⟨_, rfl⟩
      obtain ⟨C, hC⟩ : ∃ C, (Y.take k).map waC = C := ⟨_, rfl⟩
      have HTK : Hid ((Y.take (k + 1)).map waC = C ++ [⟨we, co, lo, lo⟩]) := by
        unfold Hid; rw [← hC, List.take_add_one, hp]; simp [waC, hwe, hco, hlo]
      have hb2 : Hid (C.length + 1 ≤ maxLen ∧ (C.length + 1) * 32 ≤ 140737488355328) := by rw [← hC]; simp [Hid]; unfold maxLen; omega
      rw [hC] at HTI
      have t1 : q2.tmod 4 = q2 % 4 := Int.tmod_eq_emod_of_nonneg (by omega)
      have t2 : q0.tmod 4 = we := by rw [Int.tmod_eq_emod_of_nonneg (by omega), hwe]
      have t3 : q1.tmod 3 = co := by rw [Int.tmod_eq_emod_of_nonneg (by omega), hco]
      have g0 : IntKind.i64.wrap q0 = q0 := IntWalk.i64_in _ ⟨by omega, by omega⟩
      have g1 : IntKind.i64.wrap q1 = q1 := IntWalk.i64_in _ ⟨by omega, by omega⟩
      have g2 : IntKind.i64.wrap q2 = q2 := IntWalk.i64_in _ ⟨by omega, by omega⟩
      have g3 : IntKind.i64.wrap (1 + q2 % 4) = lo := by rw [IntWalk.i64_in _ ⟨by omega, by omega⟩, hlo]
      have HX0 := Lib.hid x0; have HX1 := Lib.hid x1
      have hk0 : (0 : Int) ≤ (k : Int) := by omega
      have y0 := kcellG HTI.out.B x0; have y1 := kcellG HTI.out.B x1; have y2 := kcellG HTI.out.B x2
      clear hwe hco hlo hC hp hpk x0 x1 x2
      have HTD : Hid (WdInv C W0 rv cv wr.drew) := WdInv.below HTI.out (Below.refl _ _).drew
      have z0 : wr.drew.cell? ⟨W0.heap.size, 0, none⟩ = some cv := HTD.out.c0
      have z1 : wr.drew.frozen? ⟨W0.heap.size, 0, none⟩ = false := HTD.out.f0
      have z2 : W0.heap.size < wr.heap.size := HTI.out.S
      go_upto_block 1 with (fail)
      go_cut [] (fun wx => ∃ cv', Hid (WdInv (C ++ [⟨we, co, lo, lo⟩]) W0 rv cv' wx))
      case first =>
        go_wp2_with fail
        have hS0 : wr.drew.cell? ⟨yb, yo + k * 3, none⟩ = some (Ytdalilllakdamaa.u8 q0) ∧ wr.drew.cell? ⟨yb, yo + k * 3 + 1, none⟩ = some (Ytdalilllakdamaa.u8 q1) := ⟨y0, y1⟩
        clear y0 y1 y2
        refine wp_region_held_drew (S := fun w' => w'.cell? ⟨yb, yo + k * 3, none⟩ = some (Ytdalilllakdamaa.u8 q0) ∧ w'.cell? ⟨yb, yo + k * 3 + 1, none⟩ = some (Ytdalilllakdamaa.u8 q1)) (by kernel_rfl) hS0 (fun hHeld => ?_)
        clear hS0
        refine wpAnyH_take (i := 0) (v := ?_) rfl (by kernel_rfl) (by kernel_rfl) (by kernel_rfl) (fun _ _ _ h => h) (Or.inl ⟨by kernel_rfl, ?_⟩) (by assumption) ?_
        rotate_left
        · (intro W hS; obtain ⟨hS1, hS2⟩ := hS; go_simp; try (with_reducible rfl))
        refine (show wpAnyH Try.prog Region.Mode.any _ _ _ _ _ (Act.mk (Array.setIfInBounds (List.toArray _) _ _) _) _ from ?_)
        simp only [List.setIfInBounds_toArray, List.set_cons_zero, List.set_cons_succ]
        refine wpAnyH_take (i := 2) (v := ?_) rfl (by kernel_rfl) (by kernel_rfl) (by kernel_rfl) (fun _ _ _ h => h) (Or.inl ⟨by kernel_rfl, ?_⟩) (by assumption) ?_
        rotate_left
        · (intro W hS; obtain ⟨hS1, hS2⟩ := hS; go_simp; try (with_reducible rfl))
        refine (show wpAnyH Try.prog Region.Mode.any _ _ _ _ _ (Act.mk (Array.setIfInBounds (List.toArray _) _ _) _) _ from ?_)
        simp only [List.setIfInBounds_toArray, List.set_cons_zero, List.set_cons_succ]
        refine wpAnyH_take (i := 3) (v := ?_) rfl (by kernel_rfl) (by kernel_rfl) (by kernel_rfl) (fun _ _ _ h => h) (Or.inl ⟨by kernel_rfl, ?_⟩) (by assumption) ?_
        rotate_left
        · (intro W hS; obtain ⟨hS1, hS2⟩ := hS; go_simp; try (with_reducible rfl))
        refine (show wpAnyH Try.prog Region.Mode.any _ _ _ _ _ (Act.mk (Array.setIfInBounds (List.toArray _) _ _) _) _ from ?_)
        simp only [List.setIfInBounds_toArray, List.set_cons_zero, List.set_cons_succ]
        refine wpAnyH_take (i := 4) (v := ?_) rfl (by kernel_rfl) (by kernel_rfl) (by kernel_rfl) (fun _ _ _ h => h) (Or.inl ⟨by kernel_rfl, ?_⟩) (by assumption) ?_
        rotate_left
        · (intro W hS; obtain ⟨hS1, hS2⟩ := hS; go_simp; try (with_reducible rfl))
        refine (show wpAnyH Try.prog Region.Mode.any _ _ _ _ _ (Act.mk (Array.setIfInBounds (List.toArray _) _ _) _) _ from ?_)
        simp only [List.setIfInBounds_toArray, List.set_cons_zero, List.set_cons_succ]
        refine wpAnyH_take (i := 5) (v := ?_) rfl (by kernel_rfl) (by kernel_rfl) (by kernel_rfl) (fun _ _ _ h => h) (Or.inl ⟨by kernel_rfl, ?_⟩) (by assumption) ?_
        rotate_left
        · (intro W hS; obtain ⟨hS1, hS2⟩ := hS; go_simp; try (with_reducible rfl))
        refine (show wpAnyH Try.prog Region.Mode.any _ _ _ _ _ (Act.mk (Array.setIfInBounds (List.toArray _) _ _) _) _ from ?_)
        simp only [List.setIfInBounds_toArray, List.set_cons_zero, List.set_cons_succ]
        refine wpAnyH_take (i := 6) (v := ?_) rfl (by kernel_rfl) (by kernel_rfl) (by kernel_rfl) (fun _ _ _ h => h) (Or.inl ⟨by kernel_rfl, ?_⟩) (by assumption) ?_
        rotate_left
        · (intro W hS; obtain ⟨hS1, hS2⟩ := hS; go_simp; try (with_reducible rfl))
        refine (show wpAnyH Try.prog Region.Mode.any _ _ _ _ _ (Act.mk (Array.setIfInBounds (List.toArray _) _ _) _) _ from ?_)
        simp only [List.setIfInBounds_toArray, List.set_cons_zero, List.set_cons_succ]
        refine wpAnyH_take (i := 7) (v := ?_) rfl (by kernel_rfl) (by kernel_rfl) (by kernel_rfl) (fun _ _ _ h => h) (Or.inl ⟨by kernel_rfl, ?_⟩) (by assumption) ?_
        rotate_left
        · (intro W hS; obtain ⟨hS1, hS2⟩ := hS; go_simp; try (with_reducible rfl))
        refine (show wpAnyH Try.prog Region.Mode.any _ _ _ _ _ (Act.mk (Array.setIfInBounds (List.toArray _) _ _) _) _ from ?_)
        simp only [List.setIfInBounds_toArray, List.set_cons_zero, List.set_cons_succ]
        refine wpAnyH_take (i := 8) (v := ?_) rfl (by kernel_rfl) (by kernel_rfl) (by kernel_rfl) (fun _ _ _ h => h) (Or.inl ⟨by kernel_rfl, ?_⟩) (by assumption) ?_
        rotate_left
        · (intro W hS; obtain ⟨hS1, hS2⟩ := hS; go_simp; try (with_reducible rfl))
        refine (show wpAnyH Try.prog Region.Mode.any _ _ _ _ _ (Act.mk (Array.setIfInBounds (List.toArray _) _ _) _) _ from ?_)
        simp only [List.setIfInBounds_toArray, List.set_cons_zero, List.set_cons_succ]
        refine wpAnyH_take (i := 9) (v := ?_) rfl (by kernel_rfl) (by kernel_rfl) (by kernel_rfl) (fun _ _ _ h => h) (Or.inl ⟨by kernel_rfl, ?_⟩) (by assumption) ?_
        rotate_left
        · (intro W hS; obtain ⟨hS1, hS2⟩ := hS; go_simp; try (with_reducible rfl))
        refine (show wpAnyH Try.prog Region.Mode.any _ _ _ _ _ (Act.mk (Array.setIfInBounds (List.toArray _) _ _) _) _ from ?_)
        simp only [List.setIfInBounds_toArray, List.set_cons_zero, List.set_cons_succ]
        refine wpAnyH_take (i := 10) (v := ?_) rfl (by kernel_rfl) (by kernel_rfl) (by kernel_rfl) (fun _ _ _ h => h) (Or.inl ⟨by kernel_rfl, ?_⟩) (by assumption) ?_
        rotate_left
        · (intro W hS; obtain ⟨hS1, hS2⟩ := hS; go_simp; try (with_reducible rfl))
        refine (show wpAnyH Try.prog Region.Mode.any _ _ _ _ _ (Act.mk (Array.setIfInBounds (List.toArray _) _ _) _) _ from ?_)
        simp only [List.setIfInBounds_toArray, List.set_cons_zero, List.set_cons_succ]
        refine wpAnyH_take (i := 11) (v := ?_) rfl (by kernel_rfl) (by kernel_rfl) (by kernel_rfl) (fun _ _ _ h => h) (Or.inl ⟨by kernel_rfl, ?_⟩) (by assumption) ?_
        rotate_left
        · (intro W hS; obtain ⟨hS1, hS2⟩ := hS; go_simp; try (with_reducible rfl))
        refine (show wpAnyH Try.prog Region.Mode.any _ _ _ _ _ (Act.mk (Array.setIfInBounds (List.toArray _) _ _) _) _ from ?_)
        simp only [List.setIfInBounds_toArray, List.set_cons_zero, List.set_cons_succ]
        refine wpAnyH_take (i := 12) (v := ?_) rfl (by kernel_rfl) (by kernel_rfl) (by kernel_rfl) (fun _ _ _ h => h) (Or.inl ⟨by kernel_rfl, ?_⟩) (by assumption) ?_
        rotate_left
        · (intro W hS; obtain ⟨hS1, hS2⟩ := hS; go_simp; try (with_reducible rfl))
        refine (show wpAnyH Try.prog Region.Mode.any _ _ _ _ _ (Act.mk (Array.setIfInBounds (List.toArray _) _ _) _) _ from ?_)
        simp only [List.setIfInBounds_toArray, List.set_cons_zero, List.set_cons_succ]
        refine wpAnyH_take (i := 13) (v := ?_) rfl (by kernel_rfl) (by kernel_rfl) (by kernel_rfl) (fun _ _ _ h => h) (Or.inl ⟨by kernel_rfl, ?_⟩) (by assumption) ?_
        rotate_left
        · (intro W hS; obtain ⟨hS1, hS2⟩ := hS; go_simp; try (with_reducible rfl))
        refine (show wpAnyH Try.prog Region.Mode.any _ _ _ _ _ (Act.mk (Array.setIfInBounds (List.toArray _) _ _) _) _ from ?_)
        simp only [List.setIfInBounds_toArray, List.set_cons_zero, List.set_cons_succ]
        refine wpAnyH_take (i := 14) (v := ?_) rfl (by kernel_rfl) (by kernel_rfl) (by kernel_rfl) (fun _ _ _ h => h) (Or.inl ⟨by kernel_rfl, ?_⟩) (by assumption) ?_
        rotate_left
        · (intro W hS; obtain ⟨hS1, hS2⟩ := hS; go_simp; try (with_reducible rfl))
        refine (show wpAnyH Try.prog Region.Mode.any _ _ _ _ _ (Act.mk (Array.setIfInBounds (List.toArray _) _ _) _) _ from ?_)
        simp only [List.setIfInBounds_toArray, List.set_cons_zero, List.set_cons_succ]
        refine wpAnyH_take (i := 15) (v := ?_) rfl (by kernel_rfl) (by kernel_rfl) (by kernel_rfl) (fun _ _ _ h => h) (Or.inl ⟨by kernel_rfl, ?_⟩) (by assumption) ?_
        rotate_left
        · (intro W hS; obtain ⟨hS1, hS2⟩ := hS; go_simp; try (with_reducible rfl))
        refine (show wpAnyH Try.prog Region.Mode.any _ _ _ _ _ (Act.mk (Array.setIfInBounds (List.toArray _) _ _) _) _ from ?_)
        simp only [List.setIfInBounds_toArray, List.set_cons_zero, List.set_cons_succ]
        refine wpAnyH_take (i := 16) (v := ?_) rfl (by kernel_rfl) (by kernel_rfl) (by kernel_rfl) (fun _ _ _ h => h) (Or.inl ⟨by kernel_rfl, ?_⟩) (by assumption) ?_
        rotate_left
        · (intro W hS; obtain ⟨hS1, hS2⟩ := hS; go_simp; try (with_reducible rfl))
        refine (show wpAnyH Try.prog Region.Mode.any _ _ _ _ _ (Act.mk (Array.setIfInBounds (List.toArray _) _ _) _) _ from ?_)
        simp only [List.setIfInBounds_toArray, List.set_cons_zero, List.set_cons_succ]
        refine wpAnyH_take (i := 17) (v := ?_) rfl (by kernel_rfl) (by kernel_rfl) (by kernel_rfl) (fun _ _ _ h => h) (Or.inl ⟨by kernel_rfl, ?_⟩) (by assumption) ?_
        rotate_left
        · (intro W hS; obtain ⟨hS1, hS2⟩ := hS; go_simp; try (with_reducible rfl))
        refine (show wpAnyH Try.prog Region.Mode.any _ _ _ _ _ (Act.mk (Array.setIfInBounds (List.toArray _) _ _) _) _ from ?_)
        simp only [List.setIfInBounds_toArray, List.set_cons_zero, List.set_cons_succ]
        refine wpAnyH_ready (rs := [1, 18]) (by kernel_rfl) (by simp) (AllReadyH.cons rfl (fun K hK => ?_) (AllReadyH.cons rfl (fun K hK => ?_) AllReadyH.nil))
        · go_simp
          refine hK.out _ _ hHeld (fun hHeld => ?_)
          clear hK K
          refine wpAnyH_ready (rs := [18]) (by kernel_rfl) (by simp) (AllReadyH.cons rfl (fun K hK => ?_) AllReadyH.nil)
          go_simp
          refine (elmSpan_any _ _ _).mono ?_
          rintro e w3 ⟨rfl, hbK⟩
          have hT3 : Hid (WdInv C W0 rv cv w3) := WdInv.below (Hid.out (by assumption)) hbK
          have nm0 : w3.cell? ⟨W0.heap.size, 0, none⟩ = some cv := hT3.out.c0
          have nm1 : w3.frozen? ⟨W0.heap.size, 0, none⟩ = false := hT3.out.f0
          have nm8 : W0.heap.size < w3.heap.size := hT3.out.S
          go_wp2_with fail
          refine hK.out _ _ ⟨kcellG hT3.out.B HX0.out, kcellG hT3.out.B HX1.out⟩ (fun hHeld => ?_)
          clear hK K
          refine wpAnyH_take (i := 19) (v := ?_) rfl (by kernel_rfl) (by kernel_rfl) (by kernel_rfl) (fun _ _ _ h => h) (Or.inl ⟨by kernel_rfl, ?_⟩) (by assumption) ?_
          rotate_left
          · (intro W hS; obtain ⟨hS1, hS2⟩ := hS; go_simp; try (with_reducible rfl))
          refine (show wpAnyH Try.prog Region.Mode.any _ _ _ _ _ (Act.mk (Array.setIfInBounds (List.toArray _) _ _) _) _ from ?_)
          simp only [List.setIfInBounds_toArray, List.set_cons_zero, List.set_cons_succ]
          refine wpAnyH_ready (rs := [20]) (by kernel_rfl) (by simp) (AllReadyH.cons rfl (fun K hK => ?_) AllReadyH.nil)
          go_simp
          refine hK.out _ _ ⟨kcellG (bpush (Below.refl _ _) _) hHeld.1, kcellG (bpush (Below.refl _ _) _) hHeld.2⟩ (fun hHeld => ?_)
          clear hK K
          refine wpAnyH_ready (rs := [21]) (by kernel_rfl) (by simp) (AllReadyH.cons rfl (fun K hK => ?_) AllReadyH.nil)
          refine S_append2W (enc := encC) (sz := 4) (e := 32) (base := W0.heap.size + 1) (⟨we, co, lo, lo⟩ : Ct) (by rfl) _ _ 25 (by rfl) Try.underlying25 HI.out HZI0.out HZI1.out HZI2.out rfl Nat.four_pos' encC_len (encC_oneW _) (by rfl) (by rfl) ?_ ?_ hb2.out ?_ ?_
          · exact (WdInv.below hT3.out (bpush (Below.refl _ _) _)).O
          · exact encC_cellW (heap_new _ _ _)
          · exact (WdInv.below hT3.out (bpush (Below.refl _ _) _)).S
          intro g' cap wA hown hbe hG hlie
          have HDN := Lib.hid (WdInv.more (WdInv.below hT3.out (bpush (Below.refl _ _) _)) hown hbe)
          have hBA : Below W0.heap.size W0 wA := (WdInv.below hT3.out (bpush (Below.refl _ _) _)).B.trans (hbe.mono (Nat.le_succ _))
          have n0 : wA.cell? ⟨W0.heap.size, 0, none⟩ = some cv := (hbe.cell (p := ⟨W0.heap.size, 0, none⟩) (Nat.lt_succ_self _)).trans (WdInv.below hT3.out (bpush (Below.refl _ _) _)).c0
          have n1 : wA.frozen? ⟨W0.heap.size, 0, none⟩ = false := (hbe.frozen (p := ⟨W0.heap.size, 0, none⟩) (Nat.lt_succ_self _)).trans (WdInv.below hT3.out (bpush (Below.refl _ _) _)).f0
          refine hK.out _ _ ⟨kcellG hBA HX0.out, kcellG hBA HX1.out⟩ (fun hHeld => ?_)
          clear hK K
          refine (show wpAnyH Try.prog Region.Mode.any _ _ _ _ _ (Act.mk (Array.setIfInBounds (List.toArray _) _ _) _) _ from ?_)
          simp only [List.setIfInBounds_toArray, List.set_cons_zero, List.set_cons_succ]
          refine wpAnyH_take (i := 22) (v := ?_) rfl (by kernel_rfl) (by kernel_rfl) (by kernel_rfl) (fun _ _ _ h => h) (Or.inl ⟨by kernel_rfl, ?_⟩) (by assumption) ?_
          rotate_left
          · (intro W hS; obtain ⟨hS1, hS2⟩ := hS; go_simp; try (with_reducible rfl))
          refine (show wpAnyH Try.prog Region.Mode.any _ _ _ _ _ (Act.mk (Array.setIfInBounds (List.toArray _) _ _) _) _ from ?_)
          simp only [List.setIfInBounds_toArray, List.set_cons_zero, List.set_cons_succ]
          refine wpAnyH_ready (rs := [23]) (by kernel_rfl) (by simp) (AllReadyH.cons rfl (fun K hK => ?_) AllReadyH.nil)
          go_simp
          refine hK.out _ _ ⟨kcellG HDN.out.B HX0.out, kcellG HDN.out.B HX1.out⟩ (fun hHeld => ?_)
          clear hK K
          refine wpAnyH_done (by kernel_rfl) ?_ _
          go_wp2_with fail
          go_meet
          exact ⟨_, HDN⟩
        · go_simp
          refine (elmSpan_any _ _ _).mono ?_
          rintro e w3 ⟨rfl, hbK⟩
          have hT3 : Hid (WdInv C W0 rv cv w3) := WdInv.below (Hid.out (by assumption)) hbK
          have nm0 : w3.cell? ⟨W0.heap.size, 0, none⟩ = some cv := hT3.out.c0
          have nm1 : w3.frozen? ⟨W0.heap.size, 0, none⟩ = false := hT3.out.f0
          have nm8 : W0.heap.size < w3.heap.size := hT3.out.S
          go_wp2_with fail
          refine hK.out _ _ ⟨kcellG hT3.out.B HX0.out, kcellG hT3.out.B HX1.out⟩ (fun hHeld => ?_)
          clear hK K
          refine wpAnyH_take (i := 19) (v := ?_) rfl (by kernel_rfl) (by kernel_rfl) (by kernel_rfl) (fun _ _ _ h => h) (Or.inl ⟨by kernel_rfl, ?_⟩) (by assumption) ?_
          rotate_left
          · (intro W hS; obtain ⟨hS1, hS2⟩ := hS; go_simp; try (with_reducible rfl))
          refine (show wpAnyH Try.prog Region.Mode.any _ _ _ _ _ (Act.mk (Array.setIfInBounds (List.toArray _) _ _) _) _ from ?_)
          simp only [List.setIfInBounds_toArray, List.set_cons_zero, List.set_cons_succ]
          refine wpAnyH_ready (rs := [1, 20]) (by kernel_rfl) (by simp) (AllReadyH.cons rfl (fun K hK => ?_) (AllReadyH.cons rfl (fun K hK => ?_) AllReadyH.nil))
          · go_simp
            refine hK.out _ _ hHeld (fun hHeld => ?_)
            clear hK K
            refine wpAnyH_ready (rs := [20]) (by kernel_rfl) (by simp) (AllReadyH.cons rfl (fun K hK => ?_) AllReadyH.nil)
            go_simp
            refine hK.out _ _ ⟨kcellG (bpush (Below.refl _ _) _) hHeld.1, kcellG (bpush (Below.refl _ _) _) hHeld.2⟩ (fun hHeld => ?_)
            clear hK K
            refine wpAnyH_ready (rs := [21]) (by kernel_rfl) (by simp) (AllReadyH.cons rfl (fun K hK => ?_) AllReadyH.nil)
            refine S_append2W (enc := encC) (sz := 4) (e := 32) (base := W0.heap.size + 1) (⟨we, co, lo, lo⟩ : Ct) (by rfl) _ _ 25 (by rfl) Try.underlying25 HI.out HZI0.out HZI1.out HZI2.out rfl Nat.four_pos' encC_len (encC_oneW _) (by rfl) (by rfl) ?_ ?_ hb2.out ?_ ?_
            · exact (WdInv.below hT3.out (bpush (Below.refl _ _) _)).O
            · exact encC_cellW (heap_new _ _ _)
            · exact (WdInv.below hT3.out (bpush (Below.refl _ _) _)).S
            intro g' cap wA hown hbe hG hlie
            have HDN := Lib.hid (WdInv.more (WdInv.below hT3.out (bpush (Below.refl _ _) _)) hown hbe)
            have hBA : Below W0.heap.size W0 wA := (WdInv.below hT3.out (bpush (Below.refl _ _) _)).B.trans (hbe.mono (Nat.le_succ _))
            have n0 : wA.cell? ⟨W0.heap.size, 0, none⟩ = some cv := (hbe.cell (p := ⟨W0.heap.size, 0, none⟩) (Nat.lt_succ_self _)).trans (WdInv.below hT3.out (bpush (Below.refl _ _) _)).c0
            have n1 : wA.frozen? ⟨W0.heap.size, 0, none⟩ = false := (hbe.frozen (p := ⟨W0.heap.size, 0, none⟩) (Nat.lt_succ_self _)).trans (WdInv.below hT3.out (bpush (Below.refl _ _) _)).f0
            refine hK.out _ _ ⟨kcellG hBA HX0.out, kcellG hBA HX1.out⟩ (fun hHeld => ?_)
            clear hK K
            refine (show wpAnyH Try.prog Region.Mode.any _ _ _ _ _ (Act.mk (Array.setIfInBounds (List.toArray _) _ _) _) _ from ?_)
            simp only [List.setIfInBounds_toArray, List.set_cons_zero, List.set_cons_succ]
            refine wpAnyH_take (i := 22) (v := ?_) rfl (by kernel_rfl) (by kernel_rfl) (by kernel_rfl) (fun _ _ _ h => h) (Or.inl ⟨by kernel_rfl, ?_⟩) (by assumption) ?_
            rotate_left
            · (intro W hS; obtain ⟨hS1, hS2⟩ := hS; go_simp; try (with_reducible rfl))
            refine (show wpAnyH Try.prog Region.Mode.any _ _ _ _ _ (Act.mk (Array.setIfInBounds (List.toArray _) _ _) _) _ from ?_)
            simp only [List.setIfInBounds_toArray, List.set_cons_zero, List.set_cons_succ]
            refine wpAnyH_ready (rs := [23]) (by kernel_rfl) (by simp) (AllReadyH.cons rfl (fun K hK => ?_) AllReadyH.nil)
            go_simp
            refine hK.out _ _ ⟨kcellG HDN.out.B HX0.out, kcellG HDN.out.B HX1.out⟩ (fun hHeld => ?_)
            clear hK K
            refine wpAnyH_done (by kernel_rfl) ?_ _
            go_wp2_with fail
            go_meet
            exact ⟨_, HDN⟩
          · go_simp
            refine hK.out _ _ ⟨kcellG (bpush (Below.refl _ _) _) hHeld.1, kcellG (bpush (Below.refl _ _) _) hHeld.2⟩ (fun hHeld => ?_)
            clear hK K
            refine wpAnyH_ready (rs := [1]) (by kernel_rfl) (by simp) (AllReadyH.cons rfl (fun K hK => ?_) AllReadyH.nil)
            go_simp
            refine hK.out _ _ hHeld (fun hHeld => ?_)
            clear hK K
            refine wpAnyH_ready (rs := [21]) (by kernel_rfl) (by simp) (AllReadyH.cons rfl (fun K hK => ?_) AllReadyH.nil)
            refine S_append2W (enc := encC) (sz := 4) (e := 32) (base := W0.heap.size + 1) (⟨we, co, lo, lo⟩ : Ct) (by rfl) _ _ 25 (by rfl) Try.underlying25 HI.out HZI0.out HZI1.out HZI2.out rfl Nat.four_pos' encC_len (encC_oneW _) (by rfl) (by rfl) ?_ ?_ hb2.out ?_ ?_
            · exact (WdInv.below hT3.out (bpush (Below.refl _ _) _)).O
            · exact encC_cellW (heap_new _ _ _)
            · exact (WdInv.below hT3.out (bpush (Below.refl _ _) _)).S
            intro g' cap wA hown hbe hG hlie
            have HDN := Lib.hid (WdInv.more (WdInv.below hT3.out (bpush (Below.refl _ _) _)) hown hbe)
            have hBA : Below W0.heap.size W0 wA := (WdInv.below hT3.out (bpush (Below.refl _ _) _)).B.trans (hbe.mono (Nat.le_succ _))
            have n0 : wA.cell? ⟨W0.heap.size, 0, none⟩ = some cv := (hbe.cell (p := ⟨W0.heap.size, 0, none⟩) (Nat.lt_succ_self _)).trans (WdInv.below hT3.out (bpush (Below.refl _ _) _)).c0
            have n1 : wA.frozen? ⟨W0.heap.size, 0, none⟩ = false := (hbe.frozen (p := ⟨W0.heap.size, 0, none⟩) (Nat.lt_succ_self _)).trans (WdInv.below hT3.out (bpush (Below.refl _ _) _)).f0
            refine hK.out _ _ ⟨kcellG hBA HX0.out, kcellG hBA HX1.out⟩ (fun hHeld => ?_)
            clear hK K
            refine (show wpAnyH Try.prog Region.Mode.any _ _ _ _ _ (Act.mk (Array.setIfInBounds (List.toArray _) _ _) _) _ from ?_)
            simp only [List.setIfInBounds_toArray, List.set_cons_zero, List.set_cons_succ]
            refine wpAnyH_take (i := 22) (v := ?_) rfl (by kernel_rfl) (by kernel_rfl) (by kernel_rfl) (fun _ _ _ h => h) (Or.inl ⟨by kernel_rfl, ?_⟩) (by assumption) ?_
            rotate_left
            · (intro W hS; obtain ⟨hS1, hS2⟩ := hS; go_simp; try (with_reducible rfl))
            refine (show wpAnyH Try.prog Region.Mode.any _ _ _ _ _ (Act.mk (Array.setIfInBounds (List.toArray _) _ _) _) _ from ?_)
            simp only [List.setIfInBounds_toArray, List.set_cons_zero, List.set_cons_succ]
            refine wpAnyH_ready (rs := [23]) (by kernel_rfl) (by simp) (AllReadyH.cons rfl (fun K hK => ?_) AllReadyH.nil)
            go_simp
            refine hK.out _ _ ⟨kcellG HDN.out.B HX0.out, kcellG HDN.out.B HX1.out⟩ (fun hHeld => ?_)
            clear hK K
            refine wpAnyH_done (by kernel_rfl) ?_ _
            go_wp2_with fail
            go_meet
            exact ⟨_, HDN⟩
      case rest =>
        obtain ⟨cv', HT2⟩ := hcut
        have HDX : Hid (WdInv ((Y.take (k + 1)).map waC) W0 rv cv' wc) := by rw [HTK.out]; exact HT2
        clear y0 y1 y2 z0 z1 z2 HTD
        go_wp2_with fail
        go_roundw
        case rel => exact ⟨k + 1, cv', by omega, by omega, by go_num, HDX⟩
        case measure => simp [intOf]; omega
    · go_upto_region 3 with (fail)
      go_cut [33] (fun b wx => b = .bool false ∧ wx = wr)
      case first =>
        by_cases hkl : k < Y.length
        · have hk1 : ¬ (k : Int) < 6 := by omega
          go_wp2_with fail
          go_meet
          exact ⟨rfl, rfl⟩
        · have hk1 : ¬ (k : Int) < (Y.length : Int) := by omega
          go_wp2_with fail
          go_meet
          exact ⟨rfl, rfl⟩
      case rest =>
        obtain ⟨rfl, hcut⟩ := hcut
        subst hcut
        rename World => wA
        have hv0 := HV0.out; have hv1 := HV1.out; have hv2 := HV2.out
        have hL : ∀ p ∈ Y.take k, W3ok p := fun p hp => HYY.out p (List.mem_of_mem_take hp)
        have hl6 : (Y.take k).length ≤ 6 := by rw [List.length_take]; omega
        have HCK := Lib.hid (wa_chk hL hl6)
        obtain ⟨K, hK⟩ : ∃ K : Nat, 1 + v0 % 2 = (K : Int) := ⟨(1 + v0 % 2).toNat, by omega⟩
        have HK : Hid (1 ≤ K ∧ K ≤ 5) := by unfold Hid; omega
        have HWF := Lib.hid (fun (o : List Nat) ho => wa_facts (o := o) (K := K) hL hl6 ho HK.out.1)
        have HWE : Hid (∀ i, i < ((Y.take k).map waC).length → 0 ≤ (ctAt ((Y.take k).map waC) i).we ∧ (ctAt ((Y.take k).map waC) i).we ≤ 3) := fun i hi => by
          rw [List.length_map] at hi
          rw [wa_at (List.getElem?_eq_getElem hi)]
          simp only [waC]; omega
        have hC6 : ((Y.take k).map waC).length ≤ 6 := by rw [List.length_map]; exact hl6
        generalize (Y.take k).map waC = C at *
        clear hL hl6 HYY HFY0
        obtain ⟨ta, tn, rfl⟩ := HTI.out.O.len
        have hrv := HRV.out
        subst hrv
        have HCC := Lib.hid (Owns.slice HTI.out.O encC_len (by omega))
        have HCR := Lib.hid (show Ints wA (.slice (some ⟨w.heap.size + 1, 0, none⟩) 4 4) waR from slice_row (enc := encI) (xs := waR) (fun _ => rfl) (bblkG HTI.out.B HRK.out) rfl (by decide))
        have HSTA := Lib.hid (show Calls Try.prog 5 #[.agg #[.slice ta C.length tn, .slice (some ⟨w.heap.size + 1, 0, none⟩) 4 4], iv K] wA (StartsRes C waR K wA) from Starts_good C waR ta (w.heap.size + 1) 0 tn 4 K wA HCC.out HCR.out HCK.out HK.out)
        have HVW := Lib.hid (bblkG HTI.out.B HVR.out)
        have c0 := HTI.out.c0
        have c1 := HTI.out.c1
        have d0 : wA.cell? ⟨w.heap.size, 0, none⟩ = some (Ytdalilllakdamaa.u8 v0) := by rw [cell_of_row _ _ _ _ _ _ HVW.out]; rfl
        have f6 : IntKind.i64.wrap v0 = v0 := IntWalk.i64_in _ ⟨by omega, by omega⟩
        have f7 : v0.tmod 2 = v0 % 2 := Int.tmod_eq_emod_of_nonneg hv0.1
        have f8 : IntKind.i64.wrap (1 + v0 % 2) = (K : Int) := by rw [IntWalk.i64_in _ ⟨by omega, by omega⟩, hK]
        clear hK hv0 hv1 hv2 HRV HI HZI0 HZI1 HZI2
        go_wp2_with fail
        refine HSTA.out.mono ?_
        rintro e w4 ⟨o, qa, hord, hqa, rfl, hrow, hb4⟩
        have HWFO := Lib.hid (HWF.out o hord)
        have HT4 := Lib.hid (WdInv.below HTI.out hb4)
        have HRW := Lib.hid hrow
        have HVW4 := Lib.hid (bblkG hb4 HVW.out)
        have hne : ((C.length : Int) != (C.length : Int)) = false := by simp
        clear c0 c1 d0 f6 f7 f8 hord hrow hb4 HSTA HCC HCR HTI HVW HWF hqa
        have c0 := HT4.out.c0
        go_upto_region 10 with (fail)
        clear c0 hne
        have hv1 := HV1.out; have hv2 := HV2.out
        obtain ⟨aw, haw⟩ : ∃ x : Int, v1 % 100 = x := ⟨_, rfl⟩
        obtain ⟨gl, hgl⟩ : ∃ x : Int, 4 * v2 = x := ⟨_, rfl⟩
        obtain ⟨d15, hd15⟩ : ∃ x : Int, v1 / 100 * 15 = x := ⟨_, rfl⟩
        obtain ⟨gh, hgh⟩ : ∃ x : Int, gl + d15 = x := ⟨_, rfl⟩
        have t1 : v1.tmod 100 = aw := by rw [Int.tmod_eq_emod_of_nonneg hv1.1, haw]
        have t2 : v1.tdiv 100 = v1 / 100 := Int.tdiv_eq_ediv_of_nonneg hv1.1
        have g0 : IntKind.i64.wrap v1 = v1 := IntWalk.i64_in _ ⟨by omega, by omega⟩
        have g1 : IntKind.i64.wrap v2 = v2 := IntWalk.i64_in _ ⟨by omega, by omega⟩
        have g2 : IntKind.i64.wrap (4 * v2) = gl := by rw [IntWalk.i64_in _ ⟨by omega, by omega⟩, hgl]
        have g3 : IntKind.i64.wrap (v1 / 100) = v1 / 100 := IntWalk.i64_in _ ⟨by omega, by omega⟩
        have g4 : IntKind.i64.wrap (v1 / 100 * 15) = d15 := by rw [IntWalk.i64_in _ ⟨by omega, by omega⟩, hd15]
        have g5 : IntKind.i64.wrap (gl + d15) = gh := by rw [IntWalk.i64_in _ ⟨by omega, by omega⟩, hgh]
        have HGF : Hid ((0 ≤ gl ∧ gl ≤ 1100) ∧ gh ≤ 1100 ∧ (0 ≤ aw ∧ aw ≤ 99) ∧ 0 ≤ gh - gl ∧ gh - gl ≤ 30) := by unfold Hid; omega
        have hBz : Below w4.heap.size w4 w4 := Below.refl _ _
        obtain ⟨d1, d2, -⟩ := wKeep3 HVW4.out hBz
        have HZa : Hid ((w4.alloc (.cells #[.int .i64 0, .int .i64 0] 29)).drew.heap[w4.heap.size]? = some (.cells #[.int .i64 0, .int .i64 0] 29 (0, 0))) := heap_new _ _ _
        clear haw hgl hd15 hgh hv1 hv2
        go_cut [10, 11] (fun a p wx => a = iv aw ∧ GoneCut gl gh w4 p wx)
        case first =>
          go_region_held3 (fun w' => w'.cell? ⟨w.heap.size, 1, none⟩ = some (Ytdalilllakdamaa.u8 v1) ∧ w'.cell? ⟨w.heap.size, 2, none⟩ = some (Ytdalilllakdamaa.u8 v2) ∧ Below w4.heap.size w4 w')
            (first | ((with_reducible refine wKeep3 HVW4.out ?_); repeat (first | (with_reducible assumption) | (with_reducible refine Below.drew ?_) | (with_reducible refine bpush ?_ _) | (with_reducible refine bputW ?_ (Nat.le_refl _) _))))
            (first | (go_split_ands; (with_reducible refine (elmSpan_any _ _ _).mono ?_); rintro e w3 ⟨rfl, hbK⟩; have hb8 : Below w4.heap.size w4 w3 := bstep (by assumption) hbK; (try have hy1 := spanW (bblkG hbK HZa.out)); go_split_ands))
          all_goals
            go_wp2_with fail
            go_meet
            refine ⟨rfl, ?_⟩
            first
              | with_reducible exact goneA hb8
              | with_reducible exact goneB hb8 (bblkG hbK HZa.out) (Nat.le_refl _)
        case rest =>
          obtain ⟨rfl, gq, rfl, hgr, hbG⟩ := hcut
          obtain ⟨h1, h2, h3, h4, h5⟩ := HGF.out
          have HT5 := Lib.hid (WdInv.below HT4.out hbG)
          refine (show ∀ (a : _) (w : _), Code.wp Try.prog _ _ a w → _ from by assumption) _ _ (walibi_rest (N := (gh - gl + 1).toNat) (by omega) (by omega) h1 h2 h3 hC6 HWE.out HWFO.out HT5.out (bblkG hbG HRW.out) hgr (bstep HB0.out HT5.out.B))
end Go.Proofs.Ytdalilllakdamaa
