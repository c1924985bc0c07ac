/- A felt made of bytes: ElmFelt.made. -/
import Derived.Test.YtgoncgbbgodliaaKu
import Derived.Deep.RegionLaw
import Derived.RegionTactic
import Derived.Deep.DeepCutAuto
import Derived.Deep.CutBlock
namespace Go.Proofs.Ytgoncgbbgodliaa
open Go Go.RowKit Go.Shelf
attribute [local go_sem ↓] Go.wp_at_zero Go.wp_at_succ

/-- A row of ten cells, all set anew. -/
theorem row10 {W : World} {g : Nat} {t : TypeId} {v0 v1 v2 v3 v4 v5 v6 v7 v8 v9 u0 u1 u2 u3 u4 u5 u6 u7 u8 u9 : Value} (h : W.heap[g]? = some (.cells #[v0, v1, v2, v3, v4, v5, v6, v7, v8, v9] t (0, 0))) :
    ((((((((((W.setCell ⟨g, 0, none⟩ u0).setCell ⟨g, 1, none⟩ u1).setCell ⟨g, 2, none⟩ u2).setCell ⟨g, 3, none⟩ u3).setCell ⟨g, 4, none⟩ u4).setCell ⟨g, 5, none⟩ u5).setCell ⟨g, 6, none⟩ u6).setCell ⟨g, 7, none⟩ u7).setCell ⟨g, 8, none⟩ u8).setCell ⟨g, 9, none⟩ u9).heap[g]? = some (.cells #[u0, u1, u2, u3, u4, u5, u6, u7, u8, u9] t (0, 0)) := by
  have h0 := heap_setCell_same _ g 0 _ t u0 h
  have h1 := heap_setCell_same _ g 1 _ t u1 h0
  have h2 := heap_setCell_same _ g 2 _ t u2 h1
  have h3 := heap_setCell_same _ g 3 _ t u3 h2
  have h4 := heap_setCell_same _ g 4 _ t u4 h3
  have h5 := heap_setCell_same _ g 5 _ t u5 h4
  have h6 := heap_setCell_same _ g 6 _ t u6 h5
  have h7 := heap_setCell_same _ g 7 _ t u7 h6
  have h8 := heap_setCell_same _ g 8 _ t u8 h7
  have h9 := heap_setCell_same _ g 9 _ t u9 h8
  simpa using h9
theorem row10o {W : World} {g k : Nat} {u0 u1 u2 u3 u4 u5 u6 u7 u8 u9 : Value} (hk : k ≠ g) :
    ((((((((((W.setCell ⟨g, 0, none⟩ u0).setCell ⟨g, 1, none⟩ u1).setCell ⟨g, 2, none⟩ u2).setCell ⟨g, 3, none⟩ u3).setCell ⟨g, 4, none⟩ u4).setCell ⟨g, 5, none⟩ u5).setCell ⟨g, 6, none⟩ u6).setCell ⟨g, 7, none⟩ u7).setCell ⟨g, 8, none⟩ u8).setCell ⟨g, 9, none⟩ u9).heap[k]? = W.heap[k]? := by
  repeat rw [Below.heap_setCell _ _ _ _ (by first | exact hk | exact hk.symm)]
theorem World.drew_heapQ (W : World) (k : Nat) : W.drew.heap[k]? = W.heap[k]? := rfl
/-- What holds when the spans of spread and weight stand in the cloth. -/
def EfCut (b : Nat → Int) (w wx : World) : Prop :=
  Below w.heap.size w wx ∧ w.heap.size + 2 ≤ wx.heap.size ∧ wx.heap[w.heap.size]? = some (.cells (fyCells b) 26 (0, 0)) ∧
  wx.heap[w.heap.size + 1]? = some (.cells #[.slice none 0 0, iv (efS b - b 6 % 2), iv (efS b + b 6 / 16 % 3), iv (max 0 (efW b - b 7 % 2)), iv (efW b), iv 0, iv 0, iv 0, iv 0, .slice none 0 0] 36 (0, 0))

structure EfInv (b : Nat → Int) (w : World) (k : Nat) (tv : Value) (wr : World) : Prop where
  B : Below w.heap.size w wr
  S : w.heap.size + 2 ≤ wr.heap.size
  h0 : wr.heap[w.heap.size]? = some (.cells (fyCells b) 26 (0, 0))
  h1 : wr.heap[w.heap.size + 1]? = some (.cells #[tv, iv (efS b - b 6 % 2), iv (efS b + b 6 / 16 % 3), iv (max 0 (efW b - b 7 % 2)), iv (efW b), iv 0, iv 0, iv 0, iv 0, .slice none 0 0] 36 (0, 0))
  O : Owns encS 2 33 (w.heap.size + 2) wr tv ((List.range k).map (efP b))

theorem row4 {W : World} {g : Nat} {t : TypeId} {v0 v1 v2 v3 v4 v5 v6 v7 v8 v9 u5 u6 u7 u8 : Value} (h : W.heap[g]? = some (.cells #[v0, v1, v2, v3, v4, v5, v6, v7, v8, v9] t (0, 0))) :
    ((((W.setCell ⟨g, 5, none⟩ u5).setCell ⟨g, 6, none⟩ u6).setCell ⟨g, 7, none⟩ u7).setCell ⟨g, 8, none⟩ u8).heap[g]? = some (.cells #[v0, v1, v2, v3, v4, u5, u6, u7, u8, v9] t (0, 0)) := by
  have h5 := heap_setCell_same _ g 5 _ t u5 h
  have h6 := heap_setCell_same _ g 6 _ t u6 h5
  have h7 := heap_setCell_same _ g 7 _ t u7 h6
  have h8 := heap_setCell_same _ g 8 _ t u8 h7
  simpa using h8
theorem row4o {W : World} {g k : Nat} {u5 u6 u7 u8 : Value} (hk : k ≠ g) :
    ((((W.setCell ⟨g, 5, none⟩ u5).setCell ⟨g, 6, none⟩ u6).setCell ⟨g, 7, none⟩ u7).setCell ⟨g, 8, none⟩ u8).heap[k]? = W.heap[k]? := by
  repeat rw [Below.heap_setCell _ _ _ _ (by first | exact hk | exact hk.symm)]
theorem cell_heap {W W' : World} {g o : Nat} (h : W'.heap[g]? = W.heap[g]?) : W'.cell? ⟨g, o, none⟩ = W.cell? ⟨g, o, none⟩ := by
  unfold World.cell?; simp only [h]
theorem ef_results {P : Program} {fn : Func} {p q r : Tmp} {ty : TypeId} (h : fn.results = #[.cell p ty, .tmp q, .tmp r]) (tmps : Array Value) (w : World) (g : Nat) (t : TypeId) (cs : Array Value) (fr : Nat × Nat) (d : TypeDesc)
    (hp : tmps.getD p undef = .pointer (some ⟨g, 0, none⟩)) (hg : w.heap[g]? = some (.cells cs t fr))
    (hu : P.underlying ty = some d) (hd : (match d with | .struct _ | .array _ _ => true | _ => false) = true) (hi : (P.info? ty).map (·.size) = some cs.size) :
    (results fn tmps).run P w = .ok (.tuple #[.agg cs, tmps.getD q undef, tmps.getD r undef]) w := by
  have e : tmps[p]?.getD undef = .pointer (some ⟨g, 0, none⟩) := by simpa using hp
  simp [results, h, e, asAddr, run_loadVar_row w g t ty cs fr d hg hu hd hi]

theorem ef_fin {b : Nat → Int} {w W : World} {tmps : Array Value} {pg pc : Nat}
    (h : W.heap[w.heap.size + 1]? = some (.cells #[.slice (some ⟨pg, 0, none⟩) 2 pc, iv (efS b - b 6 % 2), iv (efS b + b 6 / 16 % 3), iv (max 0 (efW b - b 7 % 2)), iv (efW b), iv (1 + b 8 % 12), iv (b 9 % 2), iv (20 + b 10 % 160), iv (20 + b 10 % 160 + b 11 % 120), .slice none 0 0] 36 (0, 0)))
    (h2 : tmps.getD 2 undef = .pointer (some ⟨w.heap.size + 1, 0, none⟩)) (h3 : tmps.getD 3 undef = iv (efS b)) (h4 : tmps.getD 4 undef = iv (efW b))
    (hS : SliceOf encS 2 W (.slice (some ⟨pg, 0, none⟩) 2 pc) [efP b 0, efP b 1]) (hB : Below w.heap.size w W) :
    bodyPost Try.prog Try.f4 (fun e w' => ∃ pg pc, e = .returned (.tuple #[.agg (stcells (efFe b) (.slice (some ⟨pg, 0, none⟩) 2 pc) (.slice none 0 0)).toArray, iv (efS b), iv (efW b)]) ∧ SliceOf encS 2 w' (.slice (some ⟨pg, 0, none⟩) 2 pc) [efP b 0, efP b 1] ∧ Below w.heap.size w w') Exit.ret { tmps := tmps, defers := [] } W := by
  have hr := ef_results (fn := Try.f4) Try.results4 tmps W (w.heap.size + 1) 36 _ (0, 0) _ h2 h Try.underlying36 rfl (by kernel_rfl)
  rw [h3, h4] at hr
  exact bodyPost_ret hr rfl ⟨pg, pc, rfl, hS, hB⟩

def EfNext (b : Nat → Int) (w : World) (k : Nat) (wr : World) : Prop := ∃ tv, EfInv b w k tv wr
theorem bstepE {B : Nat} {w W W1 : World} (h : Below (B + 1) w W) (hs : B + 2 ≤ W.heap.size) (hb : Below W.heap.size W W1) : Below (B + 1) w W1 := h.trans (hb.mono (by omega))
theorem bstepF {B : Nat} {w W : World} (h : Below (B + 1) w W) (hs : B + 2 ≤ W.heap.size) (o : Obj) : Below (B + 1) w (W.alloc o) := bstepE h hs (bpush (Below.refl _ _) o)
theorem encS_row {w : World} {g : Nat} {y : Sp} {t : TypeId} (h : w.heap[g]? = some (.cells #[iv y.1, iv y.2] t (0, 0))) : ∀ j u, (encS y)[j]? = some u → w.cell? ⟨g, j, none⟩ = some u :=
  encS_cell (by rw [cell_of_row _ _ _ _ _ _ h]; rfl) (by rw [cell_of_row _ _ _ _ _ _ h]; rfl)
theorem infoSpE : (Try.prog.info? 33).map (fun i => (i.zero, i.size, i.bytes)) = some (some (.agg #[.int .i64 0, .int .i64 0]), 2, 16) := by kernel_rfl
theorem ef_done {b : Nat → Int} {w wr w3 : World} {k g' n cap : Nat} {tv : Value} {tk : Sp} (h : EfInv b w k tv wr) (hT : (List.range (k + 1)).map (efP b) = (List.range k).map (efP b) ++ [tk])
    (hO3 : Owns encS 2 33 (w.heap.size + 2) w3 (.slice (some ⟨g', 0, none⟩) n cap) ((List.range k).map (efP b) ++ [tk])) (n4 : Below (w.heap.size + 1) wr w3)
    (n7 : w3.heap[w.heap.size + 1]? = some (.cells #[tv, iv (efS b - b 6 % 2), iv (efS b + b 6 / 16 % 3), iv (max 0 (efW b - b 7 % 2)), iv (efW b), iv 0, iv 0, iv 0, iv 0, .slice none 0 0] 36 (0, 0))) : EfNext b w (k + 1) (w3.setCell ⟨w.heap.size + 1, 0, none⟩ (.slice (some ⟨g', 0, none⟩) n cap)) := by
  have hs := h.S
  have HN4 := n4.setCell (p := ⟨w.heap.size + 1, 0, none⟩) (Nat.le_refl _) (.slice (some ⟨g', 0, none⟩) n cap)
  refine ⟨.slice (some ⟨g', 0, none⟩) n cap, h.B.trans (HN4.mono (by omega)), Nat.le_trans h.S HN4.size, (HN4.block w.heap.size (by omega)).trans h.h0, ?_, ?_⟩
  · have h1 := heap_setCell_same w3 (w.heap.size + 1) 0 _ _ (.slice (some ⟨g', 0, none⟩) n cap) n7
    simpa using h1
  · rw [hT]
    refine World.ownsRow.kept hO3 (grown_setA _ _ _) (.inr (fun e => ?_))
    have := (World.ownsRow.lt hO3 g' rfl).1
    simp only [Value.ownBlock, Option.some.injEq] at e; omega

set_option maxRecDepth 20000 in
set_option maxHeartbeats 12800000 in
theorem elmFelt_any (b : Nat → Int) (w : World) (hb : ∀ i, 0 ≤ b i ∧ b i ≤ 255) :
    Calls Try.prog 4 #[.agg (fyCells b)] w fun e w' => ∃ pg pc, e = .returned (.tuple #[.agg (stcells (efFe b) (.slice (some ⟨pg, 0, none⟩) 2 pc) (.slice none 0 0)).toArray, iv (efS b), iv (efW b)]) ∧ SliceOf encS 2 w' (.slice (some ⟨pg, 0, none⟩) 2 pc) [efP b 0, efP b 1] ∧ Below w.heap.size w w' := by
  have HBN := Lib.hid hb
  obtain ⟨i0, hi, hz0, hz1, hz2⟩ := info_parts infoSpE
  have HI := Lib.hid hi; have HZ0 := Lib.hid hz0; have HZ1 := Lib.hid hz1; have HZ2 := Lib.hid hz2
  clear hi hz0 hz1 hz2
  have hS : 6 + b 4 % 12 = efS b := rfl
  have hW : b 5 % 5 = efW b := rfl
  have bS : 6 ≤ efS b ∧ efS b ≤ 17 := by have := hb 4; simp only [efS]; omega
  have bW : 0 ≤ efW b ∧ efW b ≤ 4 := by have := hb 5; simp only [efW]; omega
  have h4 := hb 4; have h5 := hb 5; have h6 := hb 6; have h7 := hb 7
  clear hb
  obtain ⟨Wn, hWn⟩ : ∃ Wn : World, (w.alloc (.cells (fyCells b) 26)).alloc (.cells #[.slice none 0 0, iv 0, iv 0, iv 0, iv 0, iv 0, iv 0, iv 0, iv 0, .slice none 0 0] 36) = Wn := ⟨_, rfl⟩
  have hBw : Below w.heap.size w Wn := by rw [← hWn]; exact bpush (bpush (Below.refl _ _) _) _
  have hz : Wn.heap.size = w.heap.size + 2 := by rw [← hWn]; simp
  have hr0 : Wn.heap[w.heap.size]? = some (.cells (fyCells b) 26 (0, 0)) := by rw [← hWn, Below.heap_alloc _ _ _ (by simp)]; exact heap_new _ _ _
  have hr1 : Wn.heap[w.heap.size + 1]? = some (.cells #[.slice none 0 0, iv 0, iv 0, iv 0, iv 0, iv 0, iv 0, iv 0, iv 0, .slice none 0 0] 36 (0, 0)) := by
    rw [← hWn]; exact heapA (by simp)
  have x4 : Wn.cell? ⟨w.heap.size, 4, none⟩ = some (u8 (b 4)) := by rw [cell_of_row _ _ _ _ _ _ hr0]; rfl
  have x5 : Wn.cell? ⟨w.heap.size, 5, none⟩ = some (u8 (b 5)) := by rw [cell_of_row _ _ _ _ _ _ hr0]; rfl
  have x6 : Wn.cell? ⟨w.heap.size, 6, none⟩ = some (u8 (b 6)) := by rw [cell_of_row _ _ _ _ _ _ hr0]; rfl
  have x7 : Wn.cell? ⟨w.heap.size, 7, none⟩ = some (u8 (b 7)) := by rw [cell_of_row _ _ _ _ _ _ hr0]; rfl
  have HBW := Lib.hid hBw; have HZ := Lib.hid hz; have HR0 := Lib.hid hr0; have HR1 := Lib.hid hr1
  have t4 : (b 4).tmod 12 = b 4 % 12 := Int.tmod_eq_emod_of_nonneg (HBN.out 4).1
  have t5 : (b 5).tmod 5 = b 5 % 5 := Int.tmod_eq_emod_of_nonneg (HBN.out 5).1
  have t6 : (b 6).tmod 2 = b 6 % 2 := Int.tmod_eq_emod_of_nonneg (HBN.out 6).1
  have t7 : (b 7).tmod 2 = b 7 % 2 := Int.tmod_eq_emod_of_nonneg (HBN.out 7).1
  have d6 : (b 6).tdiv 16 = b 6 / 16 := Int.tdiv_eq_ediv_of_nonneg h6.1
  have d6m : (b 6 / 16).tmod 3 = b 6 / 16 % 3 := Int.tmod_eq_emod_of_nonneg (by omega)
  have g4 : IntKind.i64.wrap (b 4) = b 4 := IntWalk.i64_in _ ⟨by omega, by omega⟩
  have g5 : IntKind.i64.wrap (b 5) = b 5 := IntWalk.i64_in _ ⟨by omega, by omega⟩
  have g6 : IntKind.i64.wrap (b 6) = b 6 := IntWalk.i64_in _ ⟨by omega, by omega⟩
  have g7 : IntKind.i64.wrap (b 7) = b 7 := IntWalk.i64_in _ ⟨by omega, by omega⟩
  have k1 : IntKind.i64.wrap (6 + b 4 % 12) = efS b := by rw [hS]; exact IntWalk.i64_in _ ⟨by omega, by omega⟩
  have k2 : IntKind.i64.wrap (efS b - b 6 % 2) = efS b - b 6 % 2 := IntWalk.i64_in _ ⟨by omega, by omega⟩
  have k3 : IntKind.i64.wrap (b 6 / 16) = b 6 / 16 := IntWalk.i64_in _ ⟨by omega, by omega⟩
  have k4 : IntKind.i64.wrap (efS b + b 6 / 16 % 3) = efS b + b 6 / 16 % 3 := IntWalk.i64_in _ ⟨by omega, by omega⟩
  have k5 : IntKind.i64.wrap (efW b - b 7 % 2) = efW b - b 7 % 2 := IntWalk.i64_in _ ⟨by omega, by omega⟩
  simp only [fyCells] at hWn ⊢
  clear hBw hz hr0 hr1 hS
  have HWn := Lib.hid hWn; clear hWn
  go_enter Try.func4, Try.ntmps4
  go_wp2_with fail
  rw [HWn.out]
  go_quiet (fail)
  go_wp2_with fail
  have HW1 : Hid ((Wn.drewN nq).heap[w.heap.size]? = some (.cells (fyCells b) 26 (0, 0)) ∧ (Wn.drewN nq).heap[w.heap.size + 1]? = some (.cells #[.slice none 0 0, iv 0, iv 0, iv 0, iv 0, iv 0, iv 0, iv 0, iv 0, .slice none 0 0] 36 (0, 0))) := ⟨HR0.out, HR1.out⟩
  have HB1 : Hid (Below w.heap.size w (Wn.drewN nq)) := bdrewK HBW.out nq
  have hz1 : (Wn.drewN nq).heap.size = w.heap.size + 2 := HZ.out
  have x6 : (Wn.drewN nq).cell? ⟨w.heap.size, 6, none⟩ = some (u8 (b 6)) := x6
  have x7 : (Wn.drewN nq).cell? ⟨w.heap.size, 7, none⟩ = some (u8 (b 7)) := x7
  clear x4 x5
  generalize Wn.drewN nq = W1 at *
  have z0 : W1.cell? ⟨w.heap.size + 1, 0, none⟩ = some (.slice none 0 0) := by rw [cell_of_row _ _ _ _ _ _ HW1.out.2]; rfl
  have y0 : W1.frozen? ⟨w.heap.size + 1, 0, none⟩ = false := frozen_of_row _ _ _ _ _ HW1.out.2
  have z1 : W1.cell? ⟨w.heap.size + 1, 1, none⟩ = some (iv 0) := by rw [cell_of_row _ _ _ _ _ _ HW1.out.2]; rfl
  have y1 : W1.frozen? ⟨w.heap.size + 1, 1, none⟩ = false := frozen_of_row _ _ _ _ _ HW1.out.2
  have z2 : W1.cell? ⟨w.heap.size + 1, 2, none⟩ = some (iv 0) := by rw [cell_of_row _ _ _ _ _ _ HW1.out.2]; rfl
  have y2 : W1.frozen? ⟨w.heap.size + 1, 2, none⟩ = false := frozen_of_row _ _ _ _ _ HW1.out.2
  have z3 : W1.cell? ⟨w.heap.size + 1, 3, none⟩ = some (iv 0) := by rw [cell_of_row _ _ _ _ _ _ HW1.out.2]; rfl
  have y3 : W1.frozen? ⟨w.heap.size + 1, 3, none⟩ = false := frozen_of_row _ _ _ _ _ HW1.out.2
  have z4 : W1.cell? ⟨w.heap.size + 1, 4, none⟩ = some (iv 0) := by rw [cell_of_row _ _ _ _ _ _ HW1.out.2]; rfl
  have y4 : W1.frozen? ⟨w.heap.size + 1, 4, none⟩ = false := frozen_of_row _ _ _ _ _ HW1.out.2
  have z5 : W1.cell? ⟨w.heap.size + 1, 5, none⟩ = some (iv 0) := by rw [cell_of_row _ _ _ _ _ _ HW1.out.2]; rfl
  have y5 : W1.frozen? ⟨w.heap.size + 1, 5, none⟩ = false := frozen_of_row _ _ _ _ _ HW1.out.2
  have z6 : W1.cell? ⟨w.heap.size + 1, 6, none⟩ = some (iv 0) := by rw [cell_of_row _ _ _ _ _ _ HW1.out.2]; rfl
  have y6 : W1.frozen? ⟨w.heap.size + 1, 6, none⟩ = false := frozen_of_row _ _ _ _ _ HW1.out.2
  have z7 : W1.cell? ⟨w.heap.size + 1, 7, none⟩ = some (iv 0) := by rw [cell_of_row _ _ _ _ _ _ HW1.out.2]; rfl
  have y7 : W1.frozen? ⟨w.heap.size + 1, 7, none⟩ = false := frozen_of_row _ _ _ _ _ HW1.out.2
  have z8 : W1.cell? ⟨w.heap.size + 1, 8, none⟩ = some (iv 0) := by rw [cell_of_row _ _ _ _ _ _ HW1.out.2]; rfl
  have y8 : W1.frozen? ⟨w.heap.size + 1, 8, none⟩ = false := frozen_of_row _ _ _ _ _ HW1.out.2
  have z9 : W1.cell? ⟨w.heap.size + 1, 9, none⟩ = some (.slice none 0 0) := by rw [cell_of_row _ _ _ _ _ _ HW1.out.2]; rfl
  have y9 : W1.frozen? ⟨w.heap.size + 1, 9, none⟩ = false := frozen_of_row _ _ _ _ _ HW1.out.2
  have hb1 := HB1.out
  have hl1 : w.heap.size + 1 < W1.heap.size := by omega
  have hl0 : w.heap.size < W1.heap.size := by omega
  go_cut [] (fun wx => EfCut b w wx)
  case first =>
    rcases Int.lt_or_le 0 (efW b - b 7 % 2) with hm | hm
    rotate_left
    · have hm1 : max (efW b - b 7 % 2) 0 = 0 := by omega
      have hm2 : max 0 (efW b - b 7 % 2) = 0 := by omega
      have hm4 : ¬ (0 < efW b - b 7 % 2) := by omega
      go_region_held3 (fun w' => w'.cell? ⟨w.heap.size, 6, none⟩ = some (u8 (b 6)) ∧ w'.cell? ⟨w.heap.size, 7, none⟩ = some (u8 (b 7)) ∧ Below w.heap.size w w')
        (first | (go_split_ands; refine ⟨?_, ?_, ?_⟩ <;> first | (with_reducible assumption) | (go_simp; done) | (repeat' (first | (with_reducible exact hb1) | (with_reducible refine bpush ?_ _) | (with_reducible refine bput ?_ ?_ _) | (with_reducible refine Below.drew ?_) | (simp; done) | (simp; omega)))))
        (first | (go_split_ands; (with_reducible refine (elmSpan_exact _ _ _).mono ?_); rintro e wS ⟨rfl, rfl⟩))
      all_goals
        go_wp2_with fail
        go_meet
        unfold EfCut; simp only [hm2]
        have hbx := HB1.out
        refine ⟨?_, by simp; omega, ?_, ?_⟩
        · repeat' (first | (with_reducible exact hbx) | (with_reducible refine bpush ?_ _) | (with_reducible refine bput ?_ ?_ _) | (with_reducible refine Below.drew ?_) | (simp; done) | (simp; omega))
        · refine Eq.trans (World.drew_heapQ _ _) ?_
          rw [Below.heap_alloc _ _ _ (by simp; omega), Below.heap_alloc _ _ _ (by simp; omega)]
          exact (row10o (by omega)).trans HW1.out.1
        · refine Eq.trans (World.drew_heapQ _ _) ?_
          rw [Below.heap_alloc _ _ _ (by simp; omega), Below.heap_alloc _ _ _ (by simp; omega)]
          exact row10 HW1.out.2
    · have hm1 : max (efW b - b 7 % 2) 0 = efW b - b 7 % 2 := by omega
      have hm2 : max 0 (efW b - b 7 % 2) = efW b - b 7 % 2 := by omega
      have hm3 : ¬ (efW b - b 7 % 2 < 0) := by omega
      have hm5 : ¬ (efW b - b 7 % 2 ≤ 0) := by omega
      have hm6 : 0 ≤ efW b - b 7 % 2 := by omega
      go_region_held3 (fun w' => w'.cell? ⟨w.heap.size, 6, none⟩ = some (u8 (b 6)) ∧ w'.cell? ⟨w.heap.size, 7, none⟩ = some (u8 (b 7)) ∧ Below w.heap.size w w')
        (first | (go_split_ands; refine ⟨?_, ?_, ?_⟩ <;> first | (with_reducible assumption) | (go_simp; done) | (repeat' (first | (with_reducible exact hb1) | (with_reducible refine bpush ?_ _) | (with_reducible refine bput ?_ ?_ _) | (with_reducible refine Below.drew ?_) | (simp; done) | (simp; omega)))))
        (first | (go_split_ands; (with_reducible refine (elmSpan_exact _ _ _).mono ?_); rintro e wS ⟨rfl, rfl⟩))
      all_goals
        go_wp2_with fail
        go_meet
        unfold EfCut; simp only [hm2]
        have hbx := HB1.out
        refine ⟨?_, by simp; omega, ?_, ?_⟩
        · repeat' (first | (with_reducible exact hbx) | (with_reducible refine bpush ?_ _) | (with_reducible refine bput ?_ ?_ _) | (with_reducible refine Below.drew ?_) | (simp; done) | (simp; omega))
        · refine Eq.trans (World.drew_heapQ _ _) ?_
          rw [Below.heap_alloc _ _ _ (by simp; omega), Below.heap_alloc _ _ _ (by simp; omega)]
          exact (row10o (by omega)).trans HW1.out.1
        · refine Eq.trans (World.drew_heapQ _ _) ?_
          rw [Below.heap_alloc _ _ _ (by simp; omega), Below.heap_alloc _ _ _ (by simp; omega)]
          exact row10 HW1.out.2
  case rest =>
    obtain ⟨cB, cS, cr0, cr1⟩ := hcut
    have CB := Lib.hid cB; have CS := Lib.hid cS; have CR0 := Lib.hid cr0; have CR1 := Lib.hid cr1
    clear cB cS cr0 cr1 z0 z1 z2 z3 z4 z5 z6 z7 z8 z9 y0 y1 y2 y3 y4 y5 y6 y7 y8 y9 x6 x7 hb1 hl1 hl0 HB1 HW1 hz1
    go_wp2_with fail
    go_loopw [5] (fun i wr => ∃ (k : Nat) (tv : Value), k ≤ 2 ∧ i = iv k ∧ Hid (EfInv b w k tv wr)) (fun i _ => 2 - (intOf i).toNat)
    case atStart => exact ⟨0, .slice none 0 0, by omega, rfl, CB.out, CS.out, CR0.out, CR1.out, Owns.nil _ _ _ _ _⟩
    case round =>
      obtain ⟨k, tv, hk, rfl, HV⟩ := hrel
      have HS := Lib.hid HV.out.S; have H0 := Lib.hid HV.out.h0; have H1 := Lib.hid HV.out.h1; have HO := Lib.hid HV.out.O
      by_cases hlt : k < 2
      · have CL := Lib.hid (show w.heap.size + 1 < wr.heap.size from HS.out)
        go_upto_block 1 with (fail)
        go_cut [] (fun wx => EfNext b w (k + 1) wx)
        case first =>
          have l0 : wr.cell? ⟨w.heap.size, 0, none⟩ = some (Ytgoncgbbgodliaa.u8 (b 0)) := by rw [cell_of_row _ _ _ _ _ _ H0.out]; rfl
          have l1 : wr.cell? ⟨w.heap.size, 1, none⟩ = some (Ytgoncgbbgodliaa.u8 (b 1)) := by rw [cell_of_row _ _ _ _ _ _ H0.out]; rfl
          have l2 : wr.cell? ⟨w.heap.size, 2, none⟩ = some (Ytgoncgbbgodliaa.u8 (b 2)) := by rw [cell_of_row _ _ _ _ _ _ H0.out]; rfl
          have l3 : wr.cell? ⟨w.heap.size, 3, none⟩ = some (Ytgoncgbbgodliaa.u8 (b 3)) := by rw [cell_of_row _ _ _ _ _ _ H0.out]; rfl
          have l4 : wr.cell? ⟨w.heap.size, 4, none⟩ = some (Ytgoncgbbgodliaa.u8 (b 4)) := by rw [cell_of_row _ _ _ _ _ _ H0.out]; rfl
          have l5 : wr.cell? ⟨w.heap.size, 5, none⟩ = some (Ytgoncgbbgodliaa.u8 (b 5)) := by rw [cell_of_row _ _ _ _ _ _ H0.out]; rfl
          have l6 : wr.cell? ⟨w.heap.size, 6, none⟩ = some (Ytgoncgbbgodliaa.u8 (b 6)) := by rw [cell_of_row _ _ _ _ _ _ H0.out]; rfl
          have l7 : wr.cell? ⟨w.heap.size, 7, none⟩ = some (Ytgoncgbbgodliaa.u8 (b 7)) := by rw [cell_of_row _ _ _ _ _ _ H0.out]; rfl
          have l8 : wr.cell? ⟨w.heap.size, 8, none⟩ = some (Ytgoncgbbgodliaa.u8 (b 8)) := by rw [cell_of_row _ _ _ _ _ _ H0.out]; rfl
          have l9 : wr.cell? ⟨w.heap.size, 9, none⟩ = some (Ytgoncgbbgodliaa.u8 (b 9)) := by rw [cell_of_row _ _ _ _ _ _ H0.out]; rfl
          have l10 : wr.cell? ⟨w.heap.size, 10, none⟩ = some (Ytgoncgbbgodliaa.u8 (b 10)) := by rw [cell_of_row _ _ _ _ _ _ H0.out]; rfl
          have l11 : wr.cell? ⟨w.heap.size, 11, none⟩ = some (Ytgoncgbbgodliaa.u8 (b 11)) := by rw [cell_of_row _ _ _ _ _ _ H0.out]; rfl
          go_wp2_with fail
          refine (elmFirst_any b k _ HBN.out hlt).mono ?_
          rintro e w1 ⟨rfl, hb1⟩
          clear l0 l1 l2 l3 l4 l5 l6 l7 l8 l9 l10 l11
          have h01 := bblk hb1 H0.out
          have H11 := Lib.hid (bblk hb1 H1.out)
          have x1 : w1.cell? ⟨w.heap.size, k * 2 + 1, none⟩ = some (Ytgoncgbbgodliaa.u8 (b (2 * k + 1))) := by
            rw [cell_of_row _ _ _ _ _ _ h01]; obtain rfl | rfl : k = 0 ∨ k = 1 := by omega
            all_goals rfl
          obtain ⟨p1, p1'⟩ := HBN.out (2 * k + 1)
          obtain ⟨p0, p0'⟩ := HBN.out (2 * k)
          have HTk : Hid ((List.range (k + 1)).map (efP b) = (List.range k).map (efP b) ++ [(efN b k - b (2 * k + 1) % 3, efN b k + b (2 * k + 1) / 16 % 3)]) := by simp [Hid, List.range_succ, efP]
          have hF0 : 5 ≤ efN b k ∧ efN b k ≤ 44 := by simp only [efN]; omega
          have i0' : (0 : Int) ≤ (k : Int) := by omega
          have i1' : (k : Int) < 2 := by omega
          have hs2 := HS.out
          have d0 : w1.cell? ⟨w.heap.size + 1, 0, none⟩ = some tv := by rw [cell_of_row _ _ _ _ _ _ H11.out]; rfl
          have d1 : w1.frozen? ⟨w.heap.size + 1, 0, none⟩ = false := frozen_of_row _ _ _ _ _ H11.out
          have hO7 : Hid (Owns encS 2 33 (w.heap.size + 2) w1.drew tv ((List.range k).map (efP b))) := Owns.kept HO.out hb1.drew
          have z0 : w1.drew.cell? ⟨w.heap.size + 1, 0, none⟩ = some tv := d0
          have z1 : w1.drew.frozen? ⟨w.heap.size + 1, 0, none⟩ = false := d1
          have z2 : w1.drew.cell? ⟨w.heap.size, k * 2 + 1, none⟩ = some (Ytgoncgbbgodliaa.u8 (b (2 * k + 1))) := x1
          have z4 : Below (w.heap.size + 1) wr w1.drew := hb1.drew.mono (by omega)
          have z6 : w.heap.size + 2 ≤ w1.drew.heap.size := Nat.le_trans hs2 hb1.size
          have z8 : w.heap.size + 1 < w1.heap.size := z6
          have z9 : w.heap.size < w1.heap.size := Nat.lt_of_succ_lt z8
          have z7 : Hid (w1.drew.heap[w.heap.size + 1]? = some (.cells #[tv, iv (efS b - b 6 % 2), iv (efS b + b 6 / 16 % 3), iv (max 0 (efW b - b 7 % 2)), iv (efW b), iv 0, iv 0, iv 0, iv 0, .slice none 0 0] 36 (0, 0))) := H11.out
          generalize efN b k = F at *
          generalize b (2 * k + 1) = q1 at *
          clear h01 hb1
          go_wp2_with fail
          clear d0 d1 x1
          have t2 : q1.tmod 3 = q1 % 3 := Int.tmod_eq_emod_of_nonneg p1
          have e2 : q1.tdiv 16 = q1 / 16 := Int.tdiv_eq_ediv_of_nonneg p1
          have t4 : (q1 / 16).tmod 3 = q1 / 16 % 3 := Int.tmod_eq_emod_of_nonneg (by omega)
          have r2 : IntKind.i64.wrap q1 = q1 := IntWalk.i64_in _ ⟨by omega, by omega⟩
          have r4 : IntKind.i64.wrap (q1 / 16) = q1 / 16 := IntWalk.i64_in _ ⟨by omega, by omega⟩
          have r6 : IntKind.i64.wrap (F - q1 % 3) = F - q1 % 3 := IntWalk.i64_in _ ⟨by omega, by omega⟩
          have r7 : IntKind.i64.wrap (F + q1 / 16 % 3) = F + q1 / 16 % 3 := IntWalk.i64_in _ ⟨by omega, by omega⟩
          generalize q1 / 16 % 3 = y2 at *
          generalize q1 / 16 = o2 at *
          generalize q1 % 3 = s2 at *
          have hbb2 : Hid (((List.range k).map (efP b)).length + 1 ≤ maxLen ∧ (((List.range k).map (efP b)).length + 1) * 16 ≤ 140737488355328) := by simp [Hid]; unfold maxLen; omega
          have HT := HTk
          have HLk : Hid (((List.range k).map (efP b)).length = k) := by simp [Hid]
          have HVV := HV
          have hlB : w.heap.size ≠ w.heap.size + 1 := by omega
          clear H0 H1 H11 HO HTk HS HV HR0 HR1 HBW HWn CB CS CR0 CR1 CL HBN hF0 p0 p0' p1 p1' hs2 t5 t6 t7 d6 d6m g4 g5 g6 g7 k1 k2 k3 k4 k5 bS bW h4 h5 h6 h7 hW x6 x7
          go_region_law (first | (go_simp; go_at_call 15; refine (elmSpan_any _ _ _).mono ?_; rintro e w1' ⟨rfl, hb1⟩; have m0 : w1'.cell? ⟨w.heap.size + 1, 0, none⟩ = some tv := kcell hb1 (by assumption); have m1 : w1'.frozen? ⟨w.heap.size + 1, 0, none⟩ = false := kfrozen hb1 (v := tv) (by assumption) (by assumption); have m2 : w1'.cell? ⟨w.heap.size, k * 2 + 1, none⟩ = some (Ytgoncgbbgodliaa.u8 q1) := kcell hb1 (by assumption); have m4 : Below (w.heap.size + 1) wr w1' := bstepE (by assumption) (by assumption) hb1; have m6 : w.heap.size + 2 ≤ w1'.heap.size := Nat.le_trans (by assumption) hb1.size; have m8 : w.heap.size + 1 < w1'.heap.size := m6; have m7 : Hid (w1'.heap[w.heap.size + 1]? = some (.cells #[tv, iv (efS b - b 6 % 2), iv (efS b + b 6 / 16 % 3), iv (max 0 (efW b - b 7 % 2)), iv (efW b), iv 0, iv 0, iv 0, iv 0, .slice none 0 0] 36 (0, 0))) := bblk hb1 (Hid.out (by assumption)); have m5 : Hid (Owns encS 2 33 (w.heap.size + 2) w1' tv ((List.range k).map (efP b))) := Owns.kept (Hid.out (by assumption)) hb1) | (refine S_append1 ((F - s2, F + y2) : Sp) (by rfl) _ _ 31 (by rfl) Try.underlying31 HI.out HZ0.out HZ1.out HZ2.out rfl Nat.two_pos encS_len (encS_one _) (by rfl) (by rfl) (Owns.kept (Hid.out (by assumption)) (bpush (Below.refl _ _) _)) (encS_row (heap_new _ _ _)) hbb2.out (Nat.le_trans (by assumption) (bpush (Below.refl _ _) _).size) ?_; intro g' cap w3 hown hbe hg; have n0 : w3.cell? ⟨w.heap.size + 1, 0, none⟩ = some tv := (hbe.cell (p := ⟨w.heap.size + 1, 0, none⟩) (Nat.lt_succ_self _)).trans (kcell (bpush (Below.refl _ _) _) (by assumption)); have n1 : w3.frozen? ⟨w.heap.size + 1, 0, none⟩ = false := (hbe.frozen (p := ⟨w.heap.size + 1, 0, none⟩) (Nat.lt_succ_self _)).trans (kfrozen (bpush (Below.refl _ _) _) (v := tv) (by assumption) (by assumption)); have n4 : Below (w.heap.size + 1) wr w3 := (bstepF (by assumption) (by assumption) _).trans (hbe.mono (Nat.le_succ _)); have n7 : Hid (w3.heap[w.heap.size + 1]? = some (.cells #[tv, iv (efS b - b 6 % 2), iv (efS b + b 6 / 16 % 3), iv (max 0 (efW b - b 7 % 2)), iv (efW b), iv 0, iv 0, iv 0, iv 0, .slice none 0 0] 36 (0, 0))) := (hbe.block (w.heap.size + 1) (Nat.lt_succ_self _)).trans (bblk (bpush (Below.refl _ _) _) (Hid.out (by assumption)))))
          all_goals
            go_wp2_with fail
            go_meet
            have hown2 := hown
            rw [HLk.out] at hown2
            exact ef_done HVV.out HT.out hown2 n4 n7.out
        case rest =>
          obtain ⟨tv2, hv2⟩ := hcut
          have HV2 := Lib.hid hv2; clear hv2
          go_wp2_with fail
          go_roundw
          case rel => exact ⟨k + 1, tv2, by omega, by go_num, HV2.out⟩
          case measure => simp [intOf]; omega
      · obtain rfl : k = 2 := by omega
        obtain ⟨tg, tc, rfl⟩ := owns_addr HO.out (by simp)
        have x8 : wr.cell? ⟨w.heap.size, 8, none⟩ = some (Ytgoncgbbgodliaa.u8 (b 8)) := by rw [cell_of_row _ _ _ _ _ _ H0.out]; rfl
        have x9 : wr.cell? ⟨w.heap.size, 9, none⟩ = some (Ytgoncgbbgodliaa.u8 (b 9)) := by rw [cell_of_row _ _ _ _ _ _ H0.out]; rfl
        have x10 : wr.cell? ⟨w.heap.size, 10, none⟩ = some (Ytgoncgbbgodliaa.u8 (b 10)) := by rw [cell_of_row _ _ _ _ _ _ H0.out]; rfl
        have x11 : wr.cell? ⟨w.heap.size, 11, none⟩ = some (Ytgoncgbbgodliaa.u8 (b 11)) := by rw [cell_of_row _ _ _ _ _ _ H0.out]; rfl
        have z0 : wr.cell? ⟨w.heap.size + 1, 0, none⟩ = some (.slice (some ⟨tg, 0, none⟩) ((List.range 2).map (efP b)).length tc) := by rw [cell_of_row _ _ _ _ _ _ H1.out]; rfl
        have y0 : wr.frozen? ⟨w.heap.size + 1, 0, none⟩ = false := frozen_of_row _ _ _ _ _ H1.out
        have z1 : wr.cell? ⟨w.heap.size + 1, 1, none⟩ = some (iv (efS b - b 6 % 2)) := by rw [cell_of_row _ _ _ _ _ _ H1.out]; rfl
        have y1 : wr.frozen? ⟨w.heap.size + 1, 1, none⟩ = false := frozen_of_row _ _ _ _ _ H1.out
        have z2 : wr.cell? ⟨w.heap.size + 1, 2, none⟩ = some (iv (efS b + b 6 / 16 % 3)) := by rw [cell_of_row _ _ _ _ _ _ H1.out]; rfl
        have y2 : wr.frozen? ⟨w.heap.size + 1, 2, none⟩ = false := frozen_of_row _ _ _ _ _ H1.out
        have z3 : wr.cell? ⟨w.heap.size + 1, 3, none⟩ = some (iv (max 0 (efW b - b 7 % 2))) := by rw [cell_of_row _ _ _ _ _ _ H1.out]; rfl
        have y3 : wr.frozen? ⟨w.heap.size + 1, 3, none⟩ = false := frozen_of_row _ _ _ _ _ H1.out
        have z4 : wr.cell? ⟨w.heap.size + 1, 4, none⟩ = some (iv (efW b)) := by rw [cell_of_row _ _ _ _ _ _ H1.out]; rfl
        have y4 : wr.frozen? ⟨w.heap.size + 1, 4, none⟩ = false := frozen_of_row _ _ _ _ _ H1.out
        have z5 : wr.cell? ⟨w.heap.size + 1, 5, none⟩ = some (iv 0) := by rw [cell_of_row _ _ _ _ _ _ H1.out]; rfl
        have y5 : wr.frozen? ⟨w.heap.size + 1, 5, none⟩ = false := frozen_of_row _ _ _ _ _ H1.out
        have z6 : wr.cell? ⟨w.heap.size + 1, 6, none⟩ = some (iv 0) := by rw [cell_of_row _ _ _ _ _ _ H1.out]; rfl
        have y6 : wr.frozen? ⟨w.heap.size + 1, 6, none⟩ = false := frozen_of_row _ _ _ _ _ H1.out
        have z7 : wr.cell? ⟨w.heap.size + 1, 7, none⟩ = some (iv 0) := by rw [cell_of_row _ _ _ _ _ _ H1.out]; rfl
        have y7 : wr.frozen? ⟨w.heap.size + 1, 7, none⟩ = false := frozen_of_row _ _ _ _ _ H1.out
        have z8 : wr.cell? ⟨w.heap.size + 1, 8, none⟩ = some (iv 0) := by rw [cell_of_row _ _ _ _ _ _ H1.out]; rfl
        have y8 : wr.frozen? ⟨w.heap.size + 1, 8, none⟩ = false := frozen_of_row _ _ _ _ _ H1.out
        have z9 : wr.cell? ⟨w.heap.size + 1, 9, none⟩ = some (.slice none 0 0) := by rw [cell_of_row _ _ _ _ _ _ H1.out]; rfl
        have y9 : wr.frozen? ⟨w.heap.size + 1, 9, none⟩ = false := frozen_of_row _ _ _ _ _ H1.out
        obtain ⟨p8, p8'⟩ := HBN.out 8; obtain ⟨p9, p9'⟩ := HBN.out 9; obtain ⟨p10, p10'⟩ := HBN.out 10; obtain ⟨p11, p11'⟩ := HBN.out 11
        have t8 : (b 8).tmod 12 = b 8 % 12 := Int.tmod_eq_emod_of_nonneg (by omega)
        have g8 : IntKind.i64.wrap (b 8) = b 8 := IntWalk.i64_in _ ⟨by omega, by omega⟩
        have t9 : (b 9).tmod 2 = b 9 % 2 := Int.tmod_eq_emod_of_nonneg (by omega)
        have g9 : IntKind.i64.wrap (b 9) = b 9 := IntWalk.i64_in _ ⟨by omega, by omega⟩
        have t10 : (b 10).tmod 160 = b 10 % 160 := Int.tmod_eq_emod_of_nonneg (by omega)
        have g10 : IntKind.i64.wrap (b 10) = b 10 := IntWalk.i64_in _ ⟨by omega, by omega⟩
        have t11 : (b 11).tmod 120 = b 11 % 120 := Int.tmod_eq_emod_of_nonneg (by omega)
        have g11 : IntKind.i64.wrap (b 11) = b 11 := IntWalk.i64_in _ ⟨by omega, by omega⟩
        have q8 : IntKind.i64.wrap (1 + b 8 % 12) = 1 + b 8 % 12 := IntWalk.i64_in _ ⟨by omega, by omega⟩
        have q10 : IntKind.i64.wrap (20 + b 10 % 160) = 20 + b 10 % 160 := IntWalk.i64_in _ ⟨by omega, by omega⟩
        have q11 : IntKind.i64.wrap (20 + b 10 % 160 + b 11 % 120) = 20 + b 10 % 160 + b 11 % 120 := IntWalk.i64_in _ ⟨by omega, by omega⟩
        have hl1 : w.heap.size + 1 < wr.heap.size := HS.out
        go_wp2_with fail
        first
          | (go_quiet (fail))
          | (go_region_held3 (fun w' => w'.cell? ⟨w.heap.size, 8, none⟩ = some (Ytgoncgbbgodliaa.u8 (b 8)) ∧ w'.cell? ⟨w.heap.size, 9, none⟩ = some (Ytgoncgbbgodliaa.u8 (b 9)))
              (first | (go_split_ands; refine ⟨?_, ?_⟩ <;> first | (with_reducible assumption) | (go_simp; done)))
              (fail))
        all_goals
          go_wp2_with fail
          clear z0 z1 z2 z3 z4 z5 z6 z7 z8 z9 y0 y1 y2 y3 y4 y5 y6 y7 y8 y9
          have htg := (World.ownsRow.lt HO.out tg rfl).1
          refine ef_fin (pg := tg) (pc := tc) ?_ ?_ ?_ ?_ ?_ ?_
          · refine Eq.trans (World.drew_heapQ _ _) ?_
            exact row10 (row4 H1.out)
          · rfl
          · rfl
          · rfl
          · refine SliceOf.at_block (Owns.slice HO.out encS_len (by simp)) (fun o u hu => Eq.trans (cell_heap (Eq.trans (World.drew_heapQ _ _) ?_)) hu)
            exact (row10o (by omega)).trans (row4o (by omega))
          · have hbx := HV.out.B
            repeat' (first | (with_reducible exact hbx) | (with_reducible exact Nat.le_succ _) | (with_reducible refine bput ?_ ?_ _) | (with_reducible refine Below.drew ?_))
end Go.Proofs.Ytgoncgbbgodliaa
