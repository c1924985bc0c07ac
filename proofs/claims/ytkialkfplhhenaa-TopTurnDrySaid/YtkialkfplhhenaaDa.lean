/- The field of the elm laws: elmTenter of any list. -/
import Derived.Test.YtkialkfplhhenaaGm
import Derived.Test.YtkialkfplhhenaaSj
import Derived.Deep.RegionLaw
import Derived.Deep.CutBlock
import Derived.Deep.DeepCutAuto
namespace Go.Proofs.Ytkialkfplhhenaa
open Go Go.RowKit Go.Shelf
attribute [local go_sem] Oper.semAt_some
attribute [local go_sem ↓] Go.wp_at_zero Go.wp_at_succ

theorem S_appendZero {P : Program} {ops : Array Oper} {o : Oper} {a : Act} {w : World} {Q : Exit → Act → World → Prop} {e : Nat} {i : TypeInfo} {g c : Nat} {b : Option Addr} {K : Act → World → Prop} {E : Prop}
    (hg : o.guard = none) (s x : Operand) (t : TypeId) (hop : o.op = Op.call { callee := Callee.builtin Builtin.append, args := #[s, x], argTypes := #[t, t] })
    (h1 : P.underlying t = some (.slice e)) (h2 : P.info? e = some i) (hs : a.eval s = .slice (some ⟨g, 0, none⟩) 0 0) (hx : a.eval x = .slice b 0 c) (hK : K (a.put o.dst (.slice (some ⟨g, 0, none⟩) 0 0)) w) :
    if Region.wanted o (yielded ops a.tmps) = true then Oper.wp P o a w K Q else E := by
  have hw : Region.wanted o (yielded ops a.tmps) = true := by simp [Region.wanted, hg]
  rw [if_pos hw]
  have hrun : (Builtin.append_ #[t, t] o.type #[.slice (some ⟨g, 0, none⟩) 0 0, .slice b 0 c]).run P w = .ok (.slice (some ⟨g, 0, none⟩) 0 0) w := by
    cases b <;> simp [Builtin.append_, run_underlying h1, sizeOf, typeInfo, h2, Builtin.lenOf, Builtin.firstCells, loadCells, loadCellsFrom, storeCells]
  unfold Oper.wp
  simp [execOp, hop, resolve, invoke, builtin, hs, hx, hrun, Result.andThen]
  exact hK
theorem ksetGG {X : World} {b o g i : Nat} {v u : Value} (hne : b ≠ g) (h : X.cell? ⟨b, o, none⟩ = some v) : (X.setCell ⟨g, i, none⟩ u).cell? ⟨b, o, none⟩ = some v :=
  (World.cell?_of_block (Below.heap_setCell _ _ _ _ hne)).trans h
theorem bputGG {w W : World} {g i : Nat} (h : Below w.heap.size w W) (hg : w.heap.size ≤ g) (u : Value) : Below w.heap.size w (W.setCell ⟨g, i, none⟩ u) := bput (p := ⟨g, i, none⟩) h hg u
theorem Fresh.bcell {α : Type} {enc : α → List Value} {sz B g g' : Nat} {W w' : World} {v : Value} {ys : List α} (hE : Fresh enc sz B g g' W w' v ys) :
    (∀ b o, b < W.heap.size → b ≠ g → w'.cell? ⟨b, o, none⟩ = W.cell? ⟨b, o, none⟩) ∧ (∀ b o, b < W.heap.size → b ≠ g → w'.frozen? ⟨b, o, none⟩ = W.frozen? ⟨b, o, none⟩) :=
  ⟨fun b _ h hn => World.cell?_of_block (hE.block b h hn), fun b _ h hn => World.frozen?_of_block (hE.block b h hn)⟩
theorem vkeep {α : Type} {enc : α → List Value} {sz g g' : Nat} {w Wn X w' : World} {v : Value} {ys : List α} {v0 v1 v2 v3 : Value} {Q : Prop} (hE : Fresh enc sz Wn.heap.size g g' X w' v ys) (hr : Wn.heap[w.heap.size]? = some (.cells #[v0, v1, v2, v3] 26 (0, 0))) (hlt : w.heap.size < Wn.heap.size) (hX : Below Wn.heap.size Wn X) (hg : Wn.heap.size ≤ g)
    (k : w'.cell? ⟨w.heap.size, 0, none⟩ = some v0 → w'.cell? ⟨w.heap.size, 1, none⟩ = some v1 → Below Wn.heap.size Wn w' → w.heap.size < w'.heap.size → w.heap.size < w'.heap.size + 1 → Q) : Q := by
  have hb := hX.trans hE.below
  have hr' := (hb.block _ hlt).trans hr
  have _ := hg
  have hs := hb.size
  exact k (by rw [cell_of_row _ _ _ _ _ _ hr']; rfl) (by rw [cell_of_row _ _ _ _ _ _ hr']; rfl) hb (by omega) (by omega)
theorem zkeep {α : Type} {enc : α → List Value} {sz B g g' g5 : Nat} {X w' : World} {v : Value} {ys : List α} {Q : Prop} (hE : Fresh enc sz B g g' X w' v ys) (hr : X.heap[g5]? = some (.cells #[.slice none 0 0, .slice none 0 0, .int .i64 0, .int .i64 0] 43 (0, 0))) (hne : g5 ≠ g)
    (k : w'.cell? ⟨g5, 0, none⟩ = some (.slice none 0 0) → w'.cell? ⟨g5, 1, none⟩ = some (.slice none 0 0) → w'.cell? ⟨g5, 2, none⟩ = some (iv 0) → w'.cell? ⟨g5, 3, none⟩ = some (iv 0) →
      w'.frozen? ⟨g5, 0, none⟩ = false → w'.frozen? ⟨g5, 1, none⟩ = false → w'.frozen? ⟨g5, 2, none⟩ = false → w'.frozen? ⟨g5, 3, none⟩ = false → Hid (w'.heap[g5]? = some (.cells #[.slice none 0 0, .slice none 0 0, .int .i64 0, .int .i64 0] 43 (0, 0)) ∧ g5 ≠ g') → Q) : Q := by
  have hr' := (hE.block g5 (Array.getElem?_eq_some_iff.1 hr).1 hne).trans hr
  have hfar : g5 ≠ g' := (hE.cell ⟨g5, 0, none⟩ (.slice none 0 0) (by rw [cell_of_row _ _ _ _ _ _ hr]; rfl)).1
  refine k ?_ ?_ ?_ ?_ ?_ ?_ ?_ ?_ ⟨hr', hfar⟩ <;> first | (rw [cell_of_row _ _ _ _ _ _ hr']; rfl) | (unfold World.frozen?; rw [hr']; rfl)
/-- A field lies at p: its cloths are a copy, it has no tenter yet. -/
def TrCut (C : List Tn) (gap str : Int) (W : World) (p : Value) (wx : World) : Prop := ∃ g g1 c1, p = .pointer (some ⟨g, 0, none⟩) ∧ Below W.heap.size W wx ∧ W.heap.size ≤ g ∧ g ≠ g1 ∧
  wx.heap[g]? = some (.cells #[.slice (some ⟨g1, 0, none⟩) C.length c1, .slice none 0 0, iv gap, iv str] 43 (0, 0)) ∧ SliceOf encN 4 wx (.slice (some ⟨g1, 0, none⟩) C.length c1) C ∧ (C = [] → W.heap.size ≤ g1 ∧ g1 < wx.heap.size)
theorem trA {C : List Tn} {W w1 X : World} {g g1 k1 : Nat} {gap str : Int} (hne : C ≠ []) (hE : Fresh encN 4 W.heap.size g g1 X w1 (.slice (some ⟨g1, 0, none⟩) C.length k1) C) (hb : Below W.heap.size W w1) :
    TrCut C gap str W (.pointer (some ⟨w1.heap.size, 0, none⟩)) (w1.alloc (.cells #[.slice (some ⟨g1, 0, none⟩) C.length k1, .slice none 0 0, iv gap, iv str] 43)) := by
  obtain ⟨c, hc⟩ := getElem?_of_lt (List.length_pos_iff.2 hne)
  obtain ⟨b, o, he, hj⟩ := sl_rowG hE.sl hc
  simp only [Option.some.injEq, Addr.mk.injEq, and_true] at he
  obtain ⟨rfl, rfl⟩ := he
  have hlt := lt_of_cell (hj 0 _ rfl)
  exact ⟨_, _, k1, rfl, bpush hb _, hb.size, by omega, heap_new _ _ _, hE.sl.below (bpush (Below.refl _ _) _), fun h => absurd h hne⟩
theorem trB {C : List Tn} {W w1 X : World} {g g1 g5 k1 : Nat} {gap str : Int} (hne : C ≠ []) (hE : Fresh encN 4 W.heap.size g g1 X w1 (.slice (some ⟨g1, 0, none⟩) C.length k1) C) (hb : Below W.heap.size W w1) (hz : Hid (w1.heap[g5]? = some (.cells #[.slice none 0 0, .slice none 0 0, .int .i64 0, .int .i64 0] 43 (0, 0)) ∧ g5 ≠ g1)) (hg : W.heap.size ≤ g5) :
    TrCut C gap str W (.pointer (some ⟨g5, 0, none⟩)) ((((w1.setCell ⟨g5, 0, none⟩ (.slice (some ⟨g1, 0, none⟩) C.length k1)).setCell ⟨g5, 1, none⟩ (.slice none 0 0)).setCell ⟨g5, 2, none⟩ (iv gap)).setCell ⟨g5, 3, none⟩ (iv str)) := by
  obtain ⟨h0, hn⟩ := hz.out
  have e1 := heap_setCell_same w1 g5 0 _ _ (.slice (some ⟨g1, 0, none⟩) C.length k1) h0
  have e2 := heap_setCell_same _ g5 1 _ _ (.slice none 0 0) e1
  have e3 := heap_setCell_same _ g5 2 _ _ (iv gap) e2
  have e4 := heap_setCell_same _ g5 3 _ _ (iv str) e3
  refine ⟨g5, g1, k1, rfl, bputGG (bputGG (bputGG (bputGG hb hg _) hg _) hg _) hg _, hg, hn, e4, SliceOf.at_block hE.sl (fun o u hu => (World.cell?_of_block ?_).trans hu), fun h => absurd h hne⟩
  rw [Below.heap_setCell _ _ _ _ (Ne.symm hn), Below.heap_setCell _ _ _ _ (Ne.symm hn), Below.heap_setCell _ _ _ _ (Ne.symm hn), Below.heap_setCell _ _ _ _ (Ne.symm hn)]
theorem trZ1 {W : World} {gap str : Int} (_h : Below W.heap.size W W) : TrCut [] gap str W (.pointer (some ⟨W.heap.size + 1, 0, none⟩)) ((W.alloc (.cells #[] 41)).alloc (.cells #[.slice (some ⟨W.heap.size, 0, none⟩) 0 0, .slice none 0 0, iv gap, iv str] 43)).drew := by
  refine ⟨W.heap.size + 1, W.heap.size, 0, rfl, (bpush (bpush (Below.refl _ _) _) _).drew, by omega, by omega, ?_, SliceOf.nil _ _ _ _ _, fun _ => ⟨Nat.le_refl _, by simp; omega⟩⟩
  have := heap_new (W.alloc (.cells #[] 41)) #[.slice (some ⟨W.heap.size, 0, none⟩) 0 0, .slice none 0 0, iv gap, iv str] 43
  rwa [World.size_alloc] at this
theorem trZ2 {W : World} {gap str : Int} (_h : Below W.heap.size W W) : TrCut [] gap str W (.pointer (some ⟨W.heap.size, 0, none⟩)) ((W.alloc (.cells #[.slice (some ⟨W.heap.size + 1, 0, none⟩) 0 0, .slice none 0 0, iv gap, iv str] 43)).alloc (.cells #[] 41)).drew := by
  refine ⟨W.heap.size, W.heap.size + 1, 0, rfl, (bpush (bpush (Below.refl _ _) _) _).drew, Nat.le_refl _, by omega, ?_, SliceOf.nil _ _ _ _ _, fun _ => ⟨by omega, by simp⟩⟩
  exact (Below.heap_alloc _ _ _ (by simp)).trans (heap_new W #[.slice (some ⟨W.heap.size + 1, 0, none⟩) 0 0, .slice none 0 0, iv gap, iv str] 43)
theorem grown_set1 (W : World) (b o : Nat) (u : Value) : W.grownBy (W.setCell ⟨b, o, none⟩ u) (some b) :=
  ⟨rfl, rfl, rfl, by simp [World.setCell], fun k _ hk => Below.heap_setCell _ _ _ _ (fun e => hk (by rw [e]))⟩
theorem encI_newO (W : World) (x : Int) (t : TypeId) : ∀ j u, (encI x)[j]? = some u → (W.alloc (.cells #[iv x] t)).cell? ⟨W.heap.size, j, none⟩ = some u :=
  encI_cell (by rw [cell_of_row _ _ _ _ _ _ (heap_new W #[iv x] t)]; rfl)
/-- The tenters of the field. -/
def frI (v2 v3 : Int) (i : Nat) : Int := 60 + 3 * (if i % 2 = 0 then v2 else v3)
def frL (v2 v3 : Int) (k : Nat) : List Int := (List.range k).map (frI v2 v3)
theorem frL_succ (v2 v3 : Int) (k : Nat) : frL v2 v3 (k + 1) = frL v2 v3 k ++ [frI v2 v3 k] := by simp [frL, List.range_succ]
theorem frL_len (v2 v3 : Int) (k : Nat) : (frL v2 v3 k).length = k := by simp [frL]
/-- While tenters are being added. -/
structure TrInv (C : List Tn) (gap str v2 v3 : Int) (Wn W : World) (g g1 c1 k : Nat) (rv : Value) (wr : World) : Prop where
  B : Below Wn.heap.size Wn wr
  F : wr.heap[g]? = some (.cells #[.slice (some ⟨g1, 0, none⟩) C.length c1, rv, iv gap, iv str] 43 (0, 0))
  O : Owns encI 1 3 W.heap.size wr rv (frL v2 v3 k)
  S : SliceOf encN 4 wr (.slice (some ⟨g1, 0, none⟩) C.length c1) C
  Z : W.heap.size ≤ wr.heap.size
def TrNext (C : List Tn) (gap str v2 v3 : Int) (Wn W : World) (g g1 c1 k : Nat) (wr : World) : Prop := ∃ rv, TrInv C gap str v2 v3 Wn W g g1 c1 k rv wr
theorem trI_done {C : List Tn} {gap str v2 v3 x : Int} {Wn W wr X w3 : World} {g g1 c1 k g' n c : Nat} {rv : Value} (h : TrInv C gap str v2 v3 Wn W g g1 c1 k rv wr) (hx : frI v2 v3 k = x) (hg : g < W.heap.size) (hg1 : g1 < W.heap.size) (hne : g ≠ g1) (hWg : Wn.heap.size ≤ g)
    (hX : Below wr.heap.size wr X) (ho : Owns encI 1 3 W.heap.size w3 (.slice (some ⟨g', 0, none⟩) n c) (frL v2 v3 k ++ [x])) (hb : Below W.heap.size X w3) :
    TrNext C gap str v2 v3 Wn W g g1 c1 (k + 1) (w3.setCell ⟨g, 1, none⟩ (.slice (some ⟨g', 0, none⟩) n c)) := by
  have hz := h.Z
  have hF : w3.heap[g]? = some (.cells #[.slice (some ⟨g1, 0, none⟩) C.length c1, rv, iv gap, iv str] 43 (0, 0)) :=
    (hb.block g hg).trans ((hX.block g (by omega)).trans h.F)
  have hF2 := heap_setCell_same w3 g 1 _ _ (.slice (some ⟨g', 0, none⟩) n c) hF
  have hsz : W.heap.size ≤ w3.heap.size := Nat.le_trans hz (Nat.le_trans hX.size hb.size)
  have hB3 : Below Wn.heap.size Wn w3 := (h.B.trans (hX.mono h.B.size)).trans (hb.mono (by have := h.B.size; omega))
  refine ⟨_, hB3.setCell hWg _, by simpa using hF2, ?_, ?_, by simpa [World.setCell] using hsz⟩
  · rw [frL_succ, hx]
    refine World.ownsRow.kept ho (grown_set1 w3 g 1 _) ?_
    cases e : (Value.slice (some ⟨g', 0, none⟩) n c).ownBlock with
    | none => exact .inl rfl
    | some q =>
      have := (World.ownsRow.lt ho q e).1
      exact .inr (fun e2 => by simp only [Option.some.injEq] at e2; omega)
  · have hS3 : SliceOf encN 4 w3 (.slice (some ⟨g1, 0, none⟩) C.length c1) C := SliceOf.at_block h.S (fun o u hu => (World.cell?_of_block ((hb.block g1 hg1).trans (hX.block g1 (by omega)))).trans hu)
    exact SliceOf.at_block hS3 (fun o u hu => (World.cell?_of_block (Below.heap_setCell _ _ _ _ (Ne.symm hne))).trans hu)
set_option maxRecDepth 20000 in
set_option maxHeartbeats 12800000 in
theorem elmTenter_any (C : List Tn) (ca : Addr) (cc n : Nat) (v0 v1 v2 v3 : Int) (w : World) (hlC : C.length ≤ 1000) (hC : SliceOf encN 4 w (.slice (some ca) C.length cc) C) (hv0 : 0 ≤ v0 ∧ v0 ≤ 255) (hv1 : 0 ≤ v1 ∧ v1 ≤ 255) (hv2 : 0 ≤ v2 ∧ v2 ≤ 255) (hv3 : 0 ≤ v3 ∧ v3 ≤ 255) (hn : v0 / 32 % 3 = (n : Int)) :
    Calls Try.prog 6 #[.slice (some ca) C.length cc, .agg #[u8 v0, u8 v1, u8 v2, u8 v3]] w fun e w' => ∃ g1 c1 g2 c2, e = .returned (.agg #[.slice (some ⟨g1, 0, none⟩) C.length c1, .slice (some ⟨g2, 0, none⟩) (n + 1) c2, iv (v0 % 20), iv (v1 % 120)]) ∧ SliceOf encN 4 w' (.slice (some ⟨g1, 0, none⟩) C.length c1) C ∧ Ints w' (.slice (some ⟨g2, 0, none⟩) (n + 1) c2) (frL v2 v3 (n + 1)) ∧ Below w.heap.size w w' := by
  obtain ⟨i0, hi, hz0, hz1, hz2⟩ := info_parts infoTn
  have HI := Lib.hid hi; have HZ0 := Lib.hid hz0; have HZ1 := Lib.hid hz1; have HZ2 := Lib.hid hz2
  have HB2 : Hid (C.length ≤ maxLen ∧ C.length * 32 ≤ 140737488355328) := by simp only [Hid]; unfold maxLen; omega
  have HC := Lib.hid hC
  clear hi hz0 hz1 hz2 hC
  obtain ⟨Wn, hWn⟩ : ∃ Wn : World, (w.alloc (.cells #[u8 v0, u8 v1, u8 v2, u8 v3] 26)).alloc (.cells #[.slice none 0 0, .slice none 0 0, .int .i64 0, .int .i64 0] 43) = Wn := ⟨_, rfl⟩
  have hBw : Below w.heap.size w Wn := by rw [← hWn]; exact bpush (bpush (Below.refl _ _) _) _
  have hR0 : Wn.heap[w.heap.size]? = some (.cells #[u8 v0, u8 v1, u8 v2, u8 v3] 26 (0, 0)) := by rw [← hWn, Below.heap_alloc _ _ _ (by simp)]; exact heap_new _ _ _
  have hR1 : Wn.heap[w.heap.size + 1]? = some (.cells #[.slice none 0 0, .slice none 0 0, .int .i64 0, .int .i64 0] 43 (0, 0)) := by rw [← hWn]; exact heapA (by simp)
  have hzn : Wn.heap.size = w.heap.size + 2 := by rw [← hWn]; simp
  have HBW := Lib.hid hBw; have HR0 := Lib.hid hR0; have HR1 := Lib.hid hR1; have HWN := Lib.hid hWn
  have c0 : Wn.cell? ⟨w.heap.size, 0, none⟩ = some (Ytkialkfplhhenaa.u8 v0) := by rw [cell_of_row _ _ _ _ _ _ hR0]; rfl
  have c1 : Wn.cell? ⟨w.heap.size, 1, none⟩ = some (u8 v1) := by rw [cell_of_row _ _ _ _ _ _ hR0]; rfl
  have e0 : IntKind.i64.wrap v0 = v0 := IntWalk.i64_in _ ⟨by omega, by omega⟩
  have e1 : IntKind.i64.wrap v1 = v1 := IntWalk.i64_in _ ⟨by omega, by omega⟩
  have f0 : v0.tmod 20 = v0 % 20 := Int.tmod_eq_emod_of_nonneg hv0.1
  have f1 : v1.tmod 120 = v1 % 120 := Int.tmod_eq_emod_of_nonneg hv1.1
  have g0 : IntKind.i64.wrap (v0 % 20) = v0 % 20 := IntWalk.i64_in _ ⟨by omega, by omega⟩
  have g1 : IntKind.i64.wrap (v1 % 120) = v1 % 120 := IntWalk.i64_in _ ⟨by omega, by omega⟩
  have hS := HC.out.below hBw
  have hbz : Below Wn.heap.size Wn Wn := Below.refl _ _
  have n0 : w.heap.size < Wn.heap.size := by omega
  have n1 : w.heap.size < Wn.heap.size + 1 := by omega
  have n2 : Wn.heap.size < Wn.heap.size + 1 + 1 := by omega
  have hzl : w.heap.size + 2 ≤ Wn.heap.size := by omega
  have f2 : v0.tdiv 32 = v0 / 32 := Int.tdiv_eq_ediv_of_nonneg hv0.1
  have f3 : (v0 / 32).tmod 3 = (n : Int) := by rw [← hn]; exact Int.tmod_eq_emod_of_nonneg (by omega)
  have f4 : IntKind.i64.wrap (v0 / 32) = v0 / 32 := IntWalk.i64_in _ ⟨by omega, by omega⟩
  have f5 : IntKind.i64.wrap (n : Int) = (n : Int) := IntWalk.i64_in _ ⟨by omega, by omega⟩
  have hn2 : n ≤ 2 := by omega
  have HF := Lib.hid (And.intro f2 (And.intro f3 (And.intro f4 f5)))
  have HV0B : Hid (0 ≤ v0 ∧ v0 ≤ 255) := hv0
  have HV23 : Hid ((0 ≤ v2 ∧ v2 ≤ 255) ∧ (0 ≤ v3 ∧ v3 ≤ 255)) := ⟨hv2, hv3⟩
  clear hR0 hR1 hWn hBw hv0 hv1 hzn hv2 hv3 hn f2 f3 f4 f5
  go_enter Try.func6, Try.ntmps6
  go_upto_region 1 with (fail)
  rw [HWN.out]
  go_cut [5] (fun p wx => TrCut C (v0 % 20) (v1 % 120) Wn p wx)
  case first =>
    by_cases hneC : C = []
    · subst hneC
      have hBz : Below Wn.heap.size Wn Wn := Below.refl _ _
      clear hS HC
      go_region_law (first | (refine S_appendZero (by rfl) _ _ 33 (by rfl) Try.underlying33 HI.out (by rfl) (by rfl) ?_))
      all_goals
        go_wp2_with fail
        go_meet
        first | (with_reducible exact trZ1 hBz) | (with_reducible exact trZ2 hBz)
    · have hneC : C ≠ [] := hneC
      have hBz : Below Wn.heap.size Wn Wn := Below.refl _ _
      have HRZ := Lib.hid HR0.out
      go_region_law (first | (refine S_appendE (B := Wn.heap.size) C hneC (by rfl) _ _ 33 (by rfl) Try.underlying33 HI.out HZ0.out HZ1.out HZ2.out rfl Nat.four_pos' encN_len encN_one (by rfl) (by rfl) ?_ ?_ HB2.out ?_ ?_; (focus (first | (refine heapA ?_; simp; done) | (refine heapB ?_; simp; done) | exact heap_new1 _ _ _ _)); (focus (exact hS.below (by repeat (first | exact hBz | (with_reducible refine Below.drew ?_) | (with_reducible refine bpush ?_ _))))); (focus (first | exact Nat.le_refl _ | omega)); intro g1 k1 w1 hE; refine vkeep (Wn := Wn) hE HRZ.out n0 (by repeat (first | exact hBz | (with_reducible refine Below.drew ?_) | (with_reducible refine bpush ?_ _))) (by omega) ?_; intro m0 m1 hB1 p0 p1; (first | (refine zkeep (g5 := Wn.heap.size) hE ?_ ?_ ?_; (focus (first | (refine heapA ?_; simp; done) | (refine heapB ?_; simp; done) | exact heap_new1 _ _ _ _)); (focus (simp; done)); intro q0 q1 q2 q3 r0 r1 r2 r3 hz) | (refine zkeep (g5 := Wn.heap.size + 1) hE ?_ ?_ ?_; (focus (first | (refine heapA ?_; simp; done) | (refine heapB ?_; simp; done) | exact heap_new1 _ _ _ _)); (focus (simp; done)); intro q0 q1 q2 q3 r0 r1 r2 r3 hz) | skip); have HE1 := Lib.hid hE; have HB1 := Lib.hid hB1; clear hE hB1))
      all_goals
        go_wp2_with fail
        go_meet
        first
          | (with_reducible exact trA hneC HE1.out HB1.out)
          | ((with_reducible refine trB hneC HE1.out HB1.out hz ?_) <;> omega)
  case rest =>
    rename World => wA
    clear c0 c1 e0 e1 f0 f1 g0 g1 hS hbz n1 n2
    obtain ⟨g, g1, c1, rfl, hB, hWg, hne, hFd, hSl, hE0⟩ := hcut
    have hg1l : g1 < wA.heap.size := by
      by_cases hneC : C = []
      · exact (hE0 hneC).2
      obtain ⟨xx, hxx⟩ := getElem?_of_lt (List.length_pos_iff.2 hneC)
      obtain ⟨b, o, he, hj⟩ := sl_rowG hSl hxx
      simp only [Option.some.injEq, Addr.mk.injEq, and_true] at he
      obtain ⟨rfl, rfl⟩ := he
      exact lt_of_cell (hj 0 _ rfl)
    have hgl : g < wA.heap.size := (Array.getElem?_eq_some_iff.1 hFd).1
    have HI0 : Hid (TrInv C (v0 % 20) (v1 % 120) v2 v3 Wn wA g g1 c1 0 (.slice none 0 0) wA) := ⟨hB, hFd, Owns.nil _ _ _ _ _, hSl, Nat.le_refl _⟩
    have HS4 : Hid (Below w.heap.size w wA) := HBW.out.trans (hB.mono (by omega))
    obtain ⟨i3, hi3, hz30, hz31, hz32⟩ := info_parts info3
    have HI3 := Lib.hid hi3; have HZ30 := Lib.hid hz30; have HZ31 := Lib.hid hz31; have HZ32 := Lib.hid hz32
    have hn0w : w.heap.size < Wn.heap.size := n0
    have hWA : Wn.heap.size ≤ wA.heap.size := hB.size
    have hg1w : g1 ≠ w.heap.size + 1 := by
      intro e
      by_cases hneC : C = []
      · have := (hE0 hneC).1
        omega
      obtain ⟨xx, hxx⟩ := getElem?_of_lt (List.length_pos_iff.2 hneC)
      obtain ⟨b, o, he, hj⟩ := sl_rowG hSl hxx
      simp only [Option.some.injEq, Addr.mk.injEq, and_true] at he
      obtain ⟨rfl, rfl⟩ := he
      have h1 := hj 0 _ rfl
      have h2 : wA.heap[w.heap.size + 1]? = some (.cells #[.slice none 0 0, .slice none 0 0, .int .i64 0, .int .i64 0] 43 (0, 0)) := (hB.block _ (by omega)).trans HR1.out
      rw [e, cell_of_row _ _ _ _ _ _ h2] at h1
      simp at h1
    have hz1f := HR1.out
    clear n0 hi3 hz30 hz31 hz32 hB hFd hSl hE0 HI HZ0 HZ1 HZ2 HB2 HC
    go_wp2_with fail
    go_loopw [6] (fun i wr => ∃ k : Nat, k ≤ n + 1 ∧ i = iv k ∧ Hid (TrNext C (v0 % 20) (v1 % 120) v2 v3 Wn wA g g1 c1 k wr)) (fun i _ => n + 1 - (intOf i).toNat)
    case atStart => exact ⟨0, by omega, rfl, _, HI0.out⟩
    case round =>
      obtain ⟨k, hk, rfl, HN⟩ := hrel
      obtain ⟨rv, hV⟩ := HN.out
      have HV := Lib.hid hV
      have HRW := Lib.hid ((hV.B.block w.heap.size hn0w).trans HR0.out)
      have y0 : wr.cell? ⟨w.heap.size, 0, none⟩ = some (Ytkialkfplhhenaa.u8 v0) := by rw [cell_of_row _ _ _ _ _ _ HRW.out]; rfl
      obtain ⟨f2, f3, f4, f5⟩ := HF.out
      have e0 : IntKind.i64.wrap v0 = v0 := by
        have h1 := HV0B.out
        exact IntWalk.i64_in _ ⟨by omega, by omega⟩
      clear hV
      by_cases hlt : k ≤ n
      · have x1 : decide ((k : Int) ≤ (n : Int)) = true := decide_eq_true (by omega)
        have x2 : decide (k ≤ n) = true := decide_eq_true hlt
        go_upto_block 1 with (fail)
        clear f2 f3 f4 f5 e0 y0 x1 x2
        have y3 : wr.cell? ⟨w.heap.size, 2, none⟩ = some (Ytkialkfplhhenaa.u8 v2) := by rw [cell_of_row _ _ _ _ _ _ HRW.out]; rfl
        have y4 : wr.cell? ⟨w.heap.size, 3, none⟩ = some (Ytkialkfplhhenaa.u8 v3) := by rw [cell_of_row _ _ _ _ _ _ HRW.out]; rfl
        have hkm : (k : Int).tmod 2 = ((k % 2 : Nat) : Int) := by rw [Int.tmod_eq_emod_of_nonneg (by omega)]; omega
        obtain ⟨hv2, hv3⟩ := HV23.out
        rcases Nat.mod_two_eq_zero_or_one k with hp | hp
        · rw [hp] at hkm
          have q0 : wr.drew.cell? ⟨g, 1, none⟩ = some rv := by rw [show wr.drew.cell? ⟨g, 1, none⟩ = wr.cell? ⟨g, 1, none⟩ from rfl, cell_of_row _ _ _ _ _ _ HV.out.F]; rfl
          have q1 : wr.drew.frozen? ⟨g, 1, none⟩ = false := frozen_of_row _ _ _ _ _ HV.out.F
          have q2 : wr.drew.cell? ⟨w.heap.size, 2, none⟩ = some (Ytkialkfplhhenaa.u8 v2) := by rw [show wr.drew.cell? ⟨w.heap.size, 2, none⟩ = wr.cell? ⟨w.heap.size, 2, none⟩ from rfl, cell_of_row _ _ _ _ _ _ HRW.out]; rfl
          have q8 : wr.cell? ⟨g, 1, none⟩ = some rv := q0
          have q9 : wr.cell? ⟨w.heap.size, 2, none⟩ = some (Ytkialkfplhhenaa.u8 v2) := q2
          have q3 : g < wr.heap.size := Nat.lt_of_lt_of_le hgl HV.out.Z
          have q4 : w.heap.size < wr.heap.size := (Array.getElem?_eq_some_iff.1 HRW.out).1
          have q5 : Hid (Owns encI 1 3 wA.heap.size wr.drew rv (frL v2 v3 k)) := HV.out.O
          have q6 : wA.heap.size ≤ wr.drew.heap.size := HV.out.Z
          have q7 : Below wr.heap.size wr wr.drew := (Below.refl _ _).drew
          have HFX : Hid (frI v2 v3 k = 60 + 3 * v2) := by simp only [Hid, frI]; rw [hp]; rfl
          have hbb2 : Hid ((frL v2 v3 k).length + 1 ≤ maxLen ∧ ((frL v2 v3 k).length + 1) * 8 ≤ 140737488355328) := by rw [frL_len]; simp only [Hid]; unfold maxLen; omega
          have w1 : IntKind.i64.wrap v2 = v2 := IntWalk.i64_in _ ⟨by omega, by omega⟩
          have w2 : IntKind.i64.wrap (3 * v2) = 3 * v2 := IntWalk.i64_in _ ⟨by omega, by omega⟩
          have w3' : IntKind.i64.wrap (60 + 3 * v2) = 60 + 3 * v2 := IntWalk.i64_in _ ⟨by omega, by omega⟩
          have w4 : IntKind.i64.wrap ((0 : Nat) : Int) = ((0 : Nat) : Int) := by decide
          have w5 : IntKind.i64.wrap (2 + ((0 : Nat) : Int)) = (2 : Int) := by decide
          have w6 : IntKind.i64.wrap 2 = 2 := by decide
          obtain ⟨X, hX⟩ : ∃ X : World, X = (wr.alloc (.cells #[iv (60 + 3 * v2)] 3)).drew := ⟨_, rfl⟩
          have hXB : Below wr.heap.size wr X := by rw [hX]; exact (bpush (Below.refl _ _) _).drew
          have HX0 : Hid (X.cell? ⟨g, 1, none⟩ = some rv) := kcell hXB (by rw [cell_of_row _ _ _ _ _ _ HV.out.F]; rfl)
          have HX1 : Hid (X.frozen? ⟨g, 1, none⟩ = false) := (hXB.frozen (p := ⟨g, 1, none⟩) (Nat.lt_of_lt_of_le hgl HV.out.Z)).trans (frozen_of_row _ _ _ _ _ HV.out.F)
          have HXO : Hid (Owns encI 1 3 wA.heap.size X rv (frL v2 v3 k)) := Owns.kept HV.out.O hXB
          have HXZ : Hid (wA.heap.size ≤ X.heap.size) := Nat.le_trans HV.out.Z hXB.size
          have HXB := Lib.hid hXB
          rw [hX] at HX0 HX1 HXO HXZ HXB
          clear hX hXB y3 y4 hv2 hv3 hp
          go_cut [] (fun wx => TrNext C (v0 % 20) (v1 % 120) v2 v3 Wn wA g g1 c1 (k + 1) wx)
          case first =>
            go_wp2_with fail
            go_region_law (first | (refine S_append1 (60 + 3 * v2 : Int) (by rfl) _ _ 29 (by rfl) Try.underlying29 HI3.out HZ30.out HZ31.out HZ32.out rfl Nat.one_pos encI_len (encI_one _) (by rfl) (by rfl) HXO.out (encI_newO wr (60 + 3 * v2) 3) hbb2.out HXZ.out ?_; intro g' cap w3 hown hbe hg; have n0 : w3.cell? ⟨g, 1, none⟩ = some rv := (hbe.cell (p := ⟨g, 1, none⟩) hgl).trans HX0.out; have n1 : w3.frozen? ⟨g, 1, none⟩ = false := (hbe.frozen (p := ⟨g, 1, none⟩) hgl).trans HX1.out))
            all_goals
              go_wp2_with fail
              go_meet
              exact trI_done HV.out HFX.out hgl hg1l hne hWg HXB.out hown hbe
          case rest =>
            rename World => wB
            have HV2 := Lib.hid hcut
            clear hcut
            go_wp2_with fail
            go_roundw
            case rel => exact ⟨k + 1, by omega, by go_num, HV2⟩
            case measure => simp [intOf]; omega
        · rw [hp] at hkm
          have q0 : wr.drew.cell? ⟨g, 1, none⟩ = some rv := by rw [show wr.drew.cell? ⟨g, 1, none⟩ = wr.cell? ⟨g, 1, none⟩ from rfl, cell_of_row _ _ _ _ _ _ HV.out.F]; rfl
          have q1 : wr.drew.frozen? ⟨g, 1, none⟩ = false := frozen_of_row _ _ _ _ _ HV.out.F
          have q2 : wr.drew.cell? ⟨w.heap.size, 3, none⟩ = some (Ytkialkfplhhenaa.u8 v3) := by rw [show wr.drew.cell? ⟨w.heap.size, 3, none⟩ = wr.cell? ⟨w.heap.size, 3, none⟩ from rfl, cell_of_row _ _ _ _ _ _ HRW.out]; rfl
          have q8 : wr.cell? ⟨g, 1, none⟩ = some rv := q0
          have q9 : wr.cell? ⟨w.heap.size, 3, none⟩ = some (Ytkialkfplhhenaa.u8 v3) := q2
          have q3 : g < wr.heap.size := Nat.lt_of_lt_of_le hgl HV.out.Z
          have q4 : w.heap.size < wr.heap.size := (Array.getElem?_eq_some_iff.1 HRW.out).1
          have q5 : Hid (Owns encI 1 3 wA.heap.size wr.drew rv (frL v2 v3 k)) := HV.out.O
          have q6 : wA.heap.size ≤ wr.drew.heap.size := HV.out.Z
          have q7 : Below wr.heap.size wr wr.drew := (Below.refl _ _).drew
          have HFX : Hid (frI v2 v3 k = 60 + 3 * v3) := by simp only [Hid, frI]; rw [hp]; rfl
          have hbb2 : Hid ((frL v2 v3 k).length + 1 ≤ maxLen ∧ ((frL v2 v3 k).length + 1) * 8 ≤ 140737488355328) := by rw [frL_len]; simp only [Hid]; unfold maxLen; omega
          have w1 : IntKind.i64.wrap v3 = v3 := IntWalk.i64_in _ ⟨by omega, by omega⟩
          have w2 : IntKind.i64.wrap (3 * v3) = 3 * v3 := IntWalk.i64_in _ ⟨by omega, by omega⟩
          have w3' : IntKind.i64.wrap (60 + 3 * v3) = 60 + 3 * v3 := IntWalk.i64_in _ ⟨by omega, by omega⟩
          have w4 : IntKind.i64.wrap ((1 : Nat) : Int) = ((1 : Nat) : Int) := by decide
          have w5 : IntKind.i64.wrap (2 + ((1 : Nat) : Int)) = (3 : Int) := by decide
          have w6 : IntKind.i64.wrap 3 = 3 := by decide
          obtain ⟨X, hX⟩ : ∃ X : World, X = (wr.alloc (.cells #[iv (60 + 3 * v3)] 3)).drew := ⟨_, rfl⟩
          have hXB : Below wr.heap.size wr X := by rw [hX]; exact (bpush (Below.refl _ _) _).drew
          have HX0 : Hid (X.cell? ⟨g, 1, none⟩ = some rv) := kcell hXB (by rw [cell_of_row _ _ _ _ _ _ HV.out.F]; rfl)
          have HX1 : Hid (X.frozen? ⟨g, 1, none⟩ = false) := (hXB.frozen (p := ⟨g, 1, none⟩) (Nat.lt_of_lt_of_le hgl HV.out.Z)).trans (frozen_of_row _ _ _ _ _ HV.out.F)
          have HXO : Hid (Owns encI 1 3 wA.heap.size X rv (frL v2 v3 k)) := Owns.kept HV.out.O hXB
          have HXZ : Hid (wA.heap.size ≤ X.heap.size) := Nat.le_trans HV.out.Z hXB.size
          have HXB := Lib.hid hXB
          rw [hX] at HX0 HX1 HXO HXZ HXB
          clear hX hXB y3 y4 hv2 hv3 hp
          go_cut [] (fun wx => TrNext C (v0 % 20) (v1 % 120) v2 v3 Wn wA g g1 c1 (k + 1) wx)
          case first =>
            go_wp2_with fail
            go_region_law (first | (refine S_append1 (60 + 3 * v3 : Int) (by rfl) _ _ 29 (by rfl) Try.underlying29 HI3.out HZ30.out HZ31.out HZ32.out rfl Nat.one_pos encI_len (encI_one _) (by rfl) (by rfl) HXO.out (encI_newO wr (60 + 3 * v3) 3) hbb2.out HXZ.out ?_; intro g' cap w3 hown hbe hg; have n0 : w3.cell? ⟨g, 1, none⟩ = some rv := (hbe.cell (p := ⟨g, 1, none⟩) hgl).trans HX0.out; have n1 : w3.frozen? ⟨g, 1, none⟩ = false := (hbe.frozen (p := ⟨g, 1, none⟩) hgl).trans HX1.out))
            all_goals
              go_wp2_with fail
              go_meet
              exact trI_done HV.out HFX.out hgl hg1l hne hWg HXB.out hown hbe
          case rest =>
            rename World => wB
            have HV2 := Lib.hid hcut
            clear hcut
            go_wp2_with fail
            go_roundw
            case rel => exact ⟨k + 1, by omega, by go_num, HV2⟩
            case measure => simp [intOf]; omega
      · obtain rfl : k = n + 1 := by omega
        have x1 : decide (((n + 1 : Nat) : Int) ≤ (n : Int)) = false := decide_eq_false (by omega)
        have x2 : decide (n + 1 ≤ n) = false := decide_eq_false (by omega)
        have hV := HV.out
        obtain ⟨g2, c2, rfl⟩ := owns_addrG hV.O (by rw [frL_len]; omega)
        rw [frL_len] at hV
        have HVV := Lib.hid hV
        have HZR := Lib.hid ((hV.B.block (w.heap.size + 1) (by omega)).trans hz1f)
        have z0 : wr.cell? ⟨g, 0, none⟩ = some (.slice (some ⟨g1, 0, none⟩) C.length c1) := by rw [cell_of_row _ _ _ _ _ _ hV.F]; rfl
        have z1 : wr.cell? ⟨g, 1, none⟩ = some (.slice (some ⟨g2, 0, none⟩) (n + 1) c2) := by rw [cell_of_row _ _ _ _ _ _ hV.F]; rfl
        have z2 : wr.cell? ⟨g, 2, none⟩ = some (iv (v0 % 20)) := by rw [cell_of_row _ _ _ _ _ _ hV.F]; rfl
        have z3 : wr.cell? ⟨g, 3, none⟩ = some (iv (v1 % 120)) := by rw [cell_of_row _ _ _ _ _ _ hV.F]; rfl
        have HSI := Lib.hid (show (Try.prog.info? 43).map (·.size) = some (#[Value.slice (some ⟨g1, 0, none⟩) C.length c1, .slice (some ⟨g2, 0, none⟩) (n + 1) c2, iv (v0 % 20), iv (v1 % 120)] : Array Value).size by kernel_rfl)
        have HON : Hid ((#[Value.slice (some ⟨g1, 0, none⟩) C.length c1, .slice (some ⟨g2, 0, none⟩) (n + 1) c2, iv (v0 % 20), iv (v1 % 120)] : Array Value).all (fun v : Value => v.oneCell') = true) := by simp [Hid, Value.oneCell']
        clear hV hz1f
        go_wp2_with (with_reducible change wpList _ _ _ (Oper.mk _ (Op.store 43 _ _) _ _ _ _ :: _) _ _; refine L_skip rfl (run_store_row 43 _ _ rfl _ rfl #[.slice (some ⟨g1, 0, none⟩) C.length c1, .slice (some ⟨g2, 0, none⟩) (n + 1) c2, iv (v0 % 20), iv (v1 % 120)] rfl 43 #[.slice none 0 0, .slice none 0 0, .int .i64 0, .int .i64 0] HZR.out HSI.out rfl HON.out) ?_)
        refine bodyPost_ret (results_cell_row (fn := Try.f6) Try.results6 _ _ (w.heap.size + 1) 43 #[.slice (some ⟨g1, 0, none⟩) C.length c1, .slice (some ⟨g2, 0, none⟩) (n + 1) c2, iv (v0 % 20), iv (v1 % 120)] (0, 0) _ rfl (heap_setRow_same HZR.out) Try.underlying43 rfl HSI.out) rfl ⟨g1, c1, g2, c2, rfl, ?_, ?_, ?_⟩
        · exact SliceOf.at_block HVV.out.S (fun o u hu => (World.cell?_of_block (heap_setRow_other _ _ _ _ hg1w)).trans hu)
        · have hs := Owns.slice HVV.out.O encI_len (by rw [frL_len]; omega)
          rw [← frL_len v2 v3 (n + 1)] at hs
          have hg2 := (World.ownsRow.lt HVV.out.O g2 rfl).1
          rw [frL_len] at hs
          have hg2n : g2 ≠ w.heap.size + 1 := by omega
          exact SliceOf.at_block hs (fun o u hu => (World.cell?_of_block (heap_setRow_other _ _ _ _ hg2n)).trans hu)
        · exact bsetRow (HBW.out.trans (HVV.out.B.mono (by omega))) (by omega) _
end Go.Proofs.Ytkialkfplhhenaa
