/- A mill and a stream made of bytes. -/
import Derived.Test.YtghnkhpjblnabaaSk
namespace Go.Proofs.Ytghnkhpjblnabaa
open Go Go.RowKit Go.Shelf
attribute [local go_sem ↓] Go.wp_at_zero Go.wp_at_succ

/-- A list in memory, of any length that Go has. -/
def SliceU {α : Type} (enc : α → List Value) (sz : Nat) (w : World) (v : Value) (xs : List α) : Prop :=
  ∃ a cap, v = .slice a xs.length cap ∧ xs.length ≤ 9223372036854775807 ∧
    ∀ i x, xs[i]? = some x → ∃ b off, a = some ⟨b, off, none⟩ ∧ ∀ j u, (enc x)[j]? = some u → w.cell? ⟨b, off + i * sz + j, none⟩ = some u
theorem SliceU.below {α : Type} {enc : α → List Value} {sz : Nat} {w w' : World} {v : Value} {xs : List α} (h : SliceU enc sz w v xs) (hb : Below w.heap.size w w') : SliceU enc sz w' v xs := by
  obtain ⟨a, cap, h1, h2, h3⟩ := h
  refine ⟨a, cap, h1, h2, fun i x hx => ?_⟩
  obtain ⟨b, off, e, hc⟩ := h3 i x hx
  exact ⟨b, off, e, fun j u hu => (hb.cell (p := ⟨b, _, none⟩) (lt_of_cell (hc j u hu))).trans (hc j u hu)⟩
def enc2 (p : Int × Int) : List Value := [u8 p.1, u8 p.2]
def fbN (V : List (Int × Int)) : Nat := if V.length = 0 then 1 else min V.length 12
def fbSp (V : List (Int × Int)) (i : Nat) : Sp := ((V.getD i (10, 2)).1 % 50, (V.getD i (10, 2)).1 % 50 + (V.getD i (10, 2)).2 % 9)
def fbL (V : List (Int × Int)) (k : Nat) : List Sp := (List.range k).map (fbSp V)
def fbMl (m0 m1 m2 m3 : Int) : Ml := ⟨1 + m0 % 4, m1 % 20, 20, 30, 20 + m2 % 80, m3 % (21 + m2 % 80), if m3 % (21 + m2 % 80) + 5 < 20 + m2 % 80 then m3 % (21 + m2 % 80) + 5 else 20 + m2 % 80⟩
def FbRes (m : Ml) (F : List Sp) (w : World) (e : Ending) (w' : World) : Prop := ∃ v, e = .returned (.tuple #[.agg (encMl m).toArray, v]) ∧ Owns encS 2 28 w.heap.size w' v F ∧ Below w.heap.size w w'

/-- A mill lies at p. -/
def FbCut (Wn : World) (v0 v1 v2 v3 v4 v5 v6 : Int) (p : Value) (wx : World) : Prop := ∃ g, p = .pointer (some ⟨g, 0, none⟩) ∧ Wn.heap.size ≤ g ∧ g < wx.heap.size ∧ Below Wn.heap.size Wn wx ∧
  wx.cell? ⟨g, 0, none⟩ = some (iv v0) ∧ wx.cell? ⟨g, 1, none⟩ = some (iv v1) ∧ wx.cell? ⟨g, 2, none⟩ = some (iv v2) ∧ wx.cell? ⟨g, 3, none⟩ = some (iv v3) ∧ wx.cell? ⟨g, 4, none⟩ = some (iv v4) ∧ wx.cell? ⟨g, 5, none⟩ = some (iv v5) ∧ wx.cell? ⟨g, 6, none⟩ = some (iv v6)
def set7 (W : World) (g : Nat) (v0 v1 v2 v3 v4 v5 v6 : Value) : World := ((((((W.setCell ⟨g, 0, none⟩ v0).setCell ⟨g, 1, none⟩ v1).setCell ⟨g, 2, none⟩ v2).setCell ⟨g, 3, none⟩ v3).setCell ⟨g, 4, none⟩ v4).setCell ⟨g, 5, none⟩ v5).setCell ⟨g, 6, none⟩ v6
theorem bset7 {w W : World} {g : Nat} {v0 v1 v2 v3 v4 v5 v6 : Value} (h : Below w.heap.size w W) (hg : w.heap.size ≤ g) : Below w.heap.size w (((((((W.setCell ⟨g, 0, none⟩ v0).setCell ⟨g, 1, none⟩ v1).setCell ⟨g, 2, none⟩ v2).setCell ⟨g, 3, none⟩ v3).setCell ⟨g, 4, none⟩ v4).setCell ⟨g, 5, none⟩ v5).setCell ⟨g, 6, none⟩ v6) :=
  bput (p := ⟨g, 6, none⟩) (bput (p := ⟨g, 5, none⟩) (bput (p := ⟨g, 4, none⟩) (bput (p := ⟨g, 3, none⟩) (bput (p := ⟨g, 2, none⟩) (bput (p := ⟨g, 1, none⟩) (bput (p := ⟨g, 0, none⟩) h hg v0) hg v1) hg v2) hg v3) hg v4) hg v5) hg v6
theorem cset7 {W : World} {g b o : Nat} {v0 v1 v2 v3 v4 v5 v6 : Value} (hg : b ≠ g) : (((((((W.setCell ⟨g, 0, none⟩ v0).setCell ⟨g, 1, none⟩ v1).setCell ⟨g, 2, none⟩ v2).setCell ⟨g, 3, none⟩ v3).setCell ⟨g, 4, none⟩ v4).setCell ⟨g, 5, none⟩ v5).setCell ⟨g, 6, none⟩ v6).cell? ⟨b, o, none⟩ = W.cell? ⟨b, o, none⟩ := by
  refine World.cell?_of_block ?_
  rw [Below.heap_setCell _ _ _ _ hg, Below.heap_setCell _ _ _ _ hg, Below.heap_setCell _ _ _ _ hg, Below.heap_setCell _ _ _ _ hg, Below.heap_setCell _ _ _ _ hg, Below.heap_setCell _ _ _ _ hg, Below.heap_setCell _ _ _ _ hg]

theorem heap_set7 {W : World} {g : Nat} {x0 x1 x2 x3 x4 x5 x6 v0 v1 v2 v3 v4 v5 v6 : Value} {t : TypeId} (h : W.heap[g]? = some (.cells #[x0, x1, x2, x3, x4, x5, x6] t (0, 0))) :
    (((((((W.setCell ⟨g, 0, none⟩ v0).setCell ⟨g, 1, none⟩ v1).setCell ⟨g, 2, none⟩ v2).setCell ⟨g, 3, none⟩ v3).setCell ⟨g, 4, none⟩ v4).setCell ⟨g, 5, none⟩ v5).setCell ⟨g, 6, none⟩ v6).heap[g]? = some (.cells #[v0, v1, v2, v3, v4, v5, v6] t (0, 0)) := by
  have h1 : (W.setCell ⟨g, 0, none⟩ v0).heap[g]? = some (.cells #[v0, x1, x2, x3, x4, x5, x6] t (0, 0)) := by have e := heap_setCell_same _ g 0 _ t v0 h; simpa using e
  have h2 : ((W.setCell ⟨g, 0, none⟩ v0).setCell ⟨g, 1, none⟩ v1).heap[g]? = some (.cells #[v0, v1, x2, x3, x4, x5, x6] t (0, 0)) := by have e := heap_setCell_same _ g 1 _ t v1 h1; simpa using e
  have h3 : (((W.setCell ⟨g, 0, none⟩ v0).setCell ⟨g, 1, none⟩ v1).setCell ⟨g, 2, none⟩ v2).heap[g]? = some (.cells #[v0, v1, v2, x3, x4, x5, x6] t (0, 0)) := by have e := heap_setCell_same _ g 2 _ t v2 h2; simpa using e
  have h4 : ((((W.setCell ⟨g, 0, none⟩ v0).setCell ⟨g, 1, none⟩ v1).setCell ⟨g, 2, none⟩ v2).setCell ⟨g, 3, none⟩ v3).heap[g]? = some (.cells #[v0, v1, v2, v3, x4, x5, x6] t (0, 0)) := by have e := heap_setCell_same _ g 3 _ t v3 h3; simpa using e
  have h5 : (((((W.setCell ⟨g, 0, none⟩ v0).setCell ⟨g, 1, none⟩ v1).setCell ⟨g, 2, none⟩ v2).setCell ⟨g, 3, none⟩ v3).setCell ⟨g, 4, none⟩ v4).heap[g]? = some (.cells #[v0, v1, v2, v3, v4, x5, x6] t (0, 0)) := by have e := heap_setCell_same _ g 4 _ t v4 h4; simpa using e
  have h6 : ((((((W.setCell ⟨g, 0, none⟩ v0).setCell ⟨g, 1, none⟩ v1).setCell ⟨g, 2, none⟩ v2).setCell ⟨g, 3, none⟩ v3).setCell ⟨g, 4, none⟩ v4).setCell ⟨g, 5, none⟩ v5).heap[g]? = some (.cells #[v0, v1, v2, v3, v4, v5, x6] t (0, 0)) := by have e := heap_setCell_same _ g 5 _ t v5 h5; simpa using e
  have h7 : (((((((W.setCell ⟨g, 0, none⟩ v0).setCell ⟨g, 1, none⟩ v1).setCell ⟨g, 2, none⟩ v2).setCell ⟨g, 3, none⟩ v3).setCell ⟨g, 4, none⟩ v4).setCell ⟨g, 5, none⟩ v5).setCell ⟨g, 6, none⟩ v6).heap[g]? = some (.cells #[v0, v1, v2, v3, v4, v5, v6] t (0, 0)) := by have e := heap_setCell_same _ g 6 _ t v6 h6; simpa using e
  exact h7
theorem grown_setO (W : World) (g o : Nat) (u : Value) : W.grownBy (W.setCell ⟨g, o, none⟩ u) (some g) :=
  ⟨rfl, rfl, rfl, by simp [World.setCell], fun k hk hne => Below.heap_setCell _ _ _ _ (fun e => hne (by rw [e]))⟩
theorem owns_set {α : Type} {enc : α → List Value} {sz e base : Nat} {W : World} {v : Value} {F : List α} {g : Nat} (h : Owns enc sz e base W v F) (hg : g < base) (o : Nat) (u : Value) : Owns enc sz e base (W.setCell ⟨g, o, none⟩ u) v F := by
  refine World.ownsRow.kept h (grown_setO _ _ _ _) ?_
  cases hv : v.ownBlock with
  | none => exact .inl rfl
  | some q =>
    have := (World.ownsRow.lt h q hv).1
    refine .inr (fun e => ?_)
    simp only [Option.some.injEq] at e; omega
/-- A structure's cell and a register as the results. -/
theorem fb_results {P : Program} {fn : Func} {p q : Tmp} {ty : TypeId} (h : fn.results = #[.cell p ty, .tmp q]) (tmps : Array Value) (w : World) (g : Nat) (t : TypeId) (cs : Array Value) (fr : Nat × Nat) (d : TypeDesc)
    (hp : tmps.getD p undef = .pointer (some ⟨g, 0, none⟩)) (hg : w.heap[g]? = some (.cells cs t fr))
    (hu : P.underlying ty = some d) (hd : (match d with | .struct _ | .array _ _ => true | _ => false) = true) (hi : (P.info? ty).map (·.size) = some cs.size) :
    (results fn tmps).run P w = .ok (.tuple #[.agg cs, tmps.getD q undef]) w := by
  have e : tmps[p]?.getD undef = .pointer (some ⟨g, 0, none⟩) := by simpa using hp
  simp [results, h, e, asAddr, run_loadVar_row w g t ty cs fr d hg hu hd hi]
theorem fb_end {w wc wr : World} {g : Nat} {v : Value} {F : List Sp} {m : Ml} {v0 v1 v2 v3 v4 v5 v6 : Int} (hg : w.heap.size ≤ g) (hgc : g < wc.heap.size) (hB : Below w.heap.size w wc) (hW : Below wc.heap.size wc wr)
    (hO : Owns encS 2 28 wc.heap.size wr v F) (hm : m = ⟨v0, v1, v2, v3, v4, v5, v6⟩) :
    FbRes m F w (.returned (.tuple #[.agg #[iv v0, iv v1, iv v2, iv v3, iv v4, iv v5, iv v6], v])) (((((((wr.setCell ⟨g, 0, none⟩ (iv v0)).setCell ⟨g, 1, none⟩ (iv v1)).setCell ⟨g, 2, none⟩ (iv v2)).setCell ⟨g, 3, none⟩ (iv v3)).setCell ⟨g, 4, none⟩ (iv v4)).setCell ⟨g, 5, none⟩ (iv v5)).setCell ⟨g, 6, none⟩ (iv v6)) := by
  subst hm
  exact ⟨v, rfl, Owns.base2 (owns_set (owns_set (owns_set (owns_set (owns_set (owns_set (owns_set hO hgc 0 _) hgc 1 _) hgc 2 _) hgc 3 _) hgc 4 _) hgc 5 _) hgc 6 _) hB.size, bset7 (hB.trans (hW.mono hB.size)) hg⟩

theorem fbA {Wn w3 : World} {v0 v1 v2 v3 v4 v5 v6 : Int} {t : TypeId} (h : Below Wn.heap.size Wn w3) : FbCut Wn v0 v1 v2 v3 v4 v5 v6 (.pointer (some ⟨w3.heap.size, 0, none⟩)) (w3.alloc (.cells #[iv v0, iv v1, iv v2, iv v3, iv v4, iv v5, iv v6] t)) := by
  have hr := heap_new w3 #[iv v0, iv v1, iv v2, iv v3, iv v4, iv v5, iv v6] t
  refine ⟨_, rfl, h.size, by simp, bpush h _, ?_, ?_, ?_, ?_, ?_, ?_, ?_⟩ <;> (rw [cell_of_row _ _ _ _ _ _ hr]; rfl)
theorem fbB {Wn w3 : World} {g : Nat} {v0 v1 v2 v3 v4 v5 v6 : Int} (h : Below Wn.heap.size Wn w3) (hg : Wn.heap.size ≤ g)
    (k0 : w3.cell? ⟨g, 0, none⟩ = some (iv 0)) (k1 : w3.cell? ⟨g, 1, none⟩ = some (iv 0)) (k2 : w3.cell? ⟨g, 2, none⟩ = some (iv 0)) (k3 : w3.cell? ⟨g, 3, none⟩ = some (iv 0)) (k4 : w3.cell? ⟨g, 4, none⟩ = some (iv 0)) (k5 : w3.cell? ⟨g, 5, none⟩ = some (iv 0)) (k6 : w3.cell? ⟨g, 6, none⟩ = some (iv 0)) :
    FbCut Wn v0 v1 v2 v3 v4 v5 v6 (.pointer (some ⟨g, 0, none⟩)) (((((((w3.setCell ⟨g, 0, none⟩ (iv v0)).setCell ⟨g, 1, none⟩ (iv v1)).setCell ⟨g, 2, none⟩ (iv v2)).setCell ⟨g, 3, none⟩ (iv v3)).setCell ⟨g, 4, none⟩ (iv v4)).setCell ⟨g, 5, none⟩ (iv v5)).setCell ⟨g, 6, none⟩ (iv v6)) := by
  refine ⟨g, rfl, hg, ?_, bset7 h hg, ?_, ?_, ?_, ?_, ?_, ?_, ?_⟩
  · simp [World.setCell]; exact lt_of_cell k0
  all_goals go_simp

set_option maxRecDepth 20000 in
set_option maxHeartbeats 12800000 in
theorem fbMade_any (m0 m1 m2 m3 : Int) (fv : Value) (V : List (Int × Int)) (w : World) (h0 : 0 ≤ m0 ∧ m0 ≤ 255) (h1 : 0 ≤ m1 ∧ m1 ≤ 255) (h2 : 0 ≤ m2 ∧ m2 ≤ 255) (h3 : 0 ≤ m3 ∧ m3 ≤ 255) (hV : ∀ p ∈ V, (0 ≤ p.1 ∧ p.1 ≤ 255) ∧ (0 ≤ p.2 ∧ p.2 ≤ 255)) (hf : SliceU enc2 2 w fv V) :
    Calls Try.prog 5 #[.agg #[u8 m0, u8 m1, u8 m2, u8 m3, fv]] w (FbRes (fbMl m0 m1 m2 m3) (fbL V (fbN V)) w) := by
  obtain ⟨i0, hi, hz0, hz1, hz2⟩ := info_parts info72
  have HI := Lib.hid hi; have HZ0 := Lib.hid hz0; have HZ1 := Lib.hid hz1; have HZ2 := Lib.hid hz2
  have HF := Lib.hid hf; have HVV := Lib.hid hV
  obtain ⟨fa, fc, rfl, hfl, -⟩ := hf
  obtain ⟨a0, a0'⟩ := h0; obtain ⟨a1, a1'⟩ := h1; obtain ⟨a2, a2'⟩ := h2; obtain ⟨a3, a3'⟩ := h3
  clear hi hz0 hz1 hz2 hV
  have HR : Hid (∀ (H N : Int), H = 20 + m2 % 80 → N = m3 % (H + 1) → fbMl m0 m1 m2 m3 = ⟨1 + m0 % 4, m1 % 20, 20, 30, H, N, if N + 5 < H then N + 5 else H⟩) := by
    rintro H N rfl rfl; simp only [fbMl, show 20 + m2 % 80 + 1 = 21 + m2 % 80 by omega]
  go_enter Try.func5, Try.ntmps5
  have b2 : 0 ≤ m2 % 80 ∧ m2 % 80 ≤ 79 := by omega
  obtain ⟨H, hH⟩ : ∃ H, H = 20 + m2 % 80 := ⟨_, rfl⟩
  have hH1 : 20 ≤ H := by omega
  have hH2 : H ≤ 99 := by omega
  have hN1 : 0 ≤ m3 % (H + 1) := Int.emod_nonneg _ (by omega)
  have hN2 : m3 % (H + 1) < H + 1 := Int.emod_lt_of_pos _ (by omega)
  have eH : 20 + m2 % 80 = H := hH.symm
  have HE := Lib.hid hH; clear hH b2
  go_wp2_with fail
  have HRR := Lib.hid (HR.out H (m3 % (H + 1)) HE.out rfl)
  clear HR
  generalize m3 % (H + 1) = N at *
  obtain ⟨Wn, hWn⟩ : ∃ Wn : World, (w.alloc (.cells #[u8 m0, u8 m1, u8 m2, u8 m3, .slice fa V.length fc] 25)).alloc (.cells #[.int .i64 0, .int .i64 0, .int .i64 0, .int .i64 0, .int .i64 0, .int .i64 0, .int .i64 0] 30) = Wn := ⟨_, rfl⟩
  have hBw : Below w.heap.size w Wn := by rw [← hWn]; exact (by repeat (first | exact Below.refl _ _ | refine Below.drew ?_ | refine bpush ?_ _ | refine bput ?_ (by simp) _ | (refine bstep ?_ (by assumption))))
  have hb0 : Wn.heap[w.heap.size]? = some (.cells #[u8 m0, u8 m1, u8 m2, u8 m3, .slice fa V.length fc] 25 (0, 0)) := by rw [← hWn]; exact heapC rfl
  have hb1 : Wn.heap[w.heap.size + 1]? = some (.cells #[.int .i64 0, .int .i64 0, .int .i64 0, .int .i64 0, .int .i64 0, .int .i64 0, .int .i64 0] 30 (0, 0)) := by rw [← hWn]; exact heapA (by simp)
  have hz : Wn.heap.size = w.heap.size + 2 := by rw [← hWn]; simp
  rw [hWn]
  clear hWn
  have HB0 := Lib.hid hb0; have HB1 := Lib.hid hb1; have HZ := Lib.hid hz
  have hz1 : w.heap.size + 2 ≤ Wn.heap.size := by omega
  have c0 : Wn.cell? ⟨w.heap.size, 0, none⟩ = some (u8 m0) := by rw [cell_of_row _ _ _ _ _ _ hb0]; rfl
  have c1 : Wn.cell? ⟨w.heap.size, 1, none⟩ = some (u8 m1) := by rw [cell_of_row _ _ _ _ _ _ hb0]; rfl
  have hBn : Below Wn.heap.size Wn Wn := Below.refl _ _
  clear hb0 hb1 hz
  have t0 : IntKind.i64.wrap m0 = m0 := IntWalk.i64_in _ ⟨by omega, by omega⟩
  have t1 : IntKind.i64.wrap m1 = m1 := IntWalk.i64_in _ ⟨by omega, by omega⟩
  have t2 : m0.tmod 4 = m0 % 4 := Int.tmod_eq_emod_of_nonneg a0
  have t3 : m1.tmod 20 = m1 % 20 := Int.tmod_eq_emod_of_nonneg a1
  have t4 : IntKind.i64.wrap (1 + m0 % 4) = 1 + m0 % 4 := IntWalk.i64_in _ ⟨by omega, by omega⟩
  have t5 : IntKind.i64.wrap (N + 5) = N + 5 := IntWalk.i64_in _ ⟨by omega, by omega⟩
  obtain ⟨nh, hnh⟩ : ∃ nh, nh = if N + 5 < H then N + 5 else H := ⟨_, rfl⟩
  go_cut [6] (fun p wx => FbCut Wn (1 + m0 % 4) (m1 % 20) 20 30 H N nh p wx)
  case first =>
    by_cases hmn : N + 5 < H
    · obtain rfl : nh = N + 5 := by rw [hnh, if_pos hmn]
      clear hnh
      go_region_held3 (fun w' => w'.cell? ⟨w.heap.size, 0, none⟩ = some (u8 m0) ∧ w'.cell? ⟨w.heap.size, 1, none⟩ = some (u8 m1) ∧ Below Wn.heap.size Wn w')
        (first | (with_reducible exact ⟨kcell (bpush (Below.refl _ _) _) hS0.out.1, kcell (bpush (Below.refl _ _) _) hS0.out.2, bpush hSt _⟩) | ((with_reducible refine ⟨(cset7 ?_).trans hS0.out.1, (cset7 ?_).trans hS0.out.2, bset7 hSt ?_⟩) <;> omega) | (with_reducible exact ⟨hS0.out.1, hS0.out.2, hSt⟩) | (refine ⟨?_, ?_, ?_⟩ <;> first | exact Below.drew (by assumption) | assumption) | (go_split_ands; refine ⟨?_, ?_, ?_⟩ <;> first | assumption | exact kcell (bpush (Below.refl _ _) _) (by assumption) | exact bpush (by assumption) _))
        (first | ((with_reducible refine (firSpan_any _ _ _).mono ?_); rintro e w3 ⟨rfl, hbK⟩; have hSt : Below Wn.heap.size Wn w3 := bstep (And.right (And.right (by assumption))) hbK; have hS0 : Hid (w3.cell? ⟨w.heap.size, 0, none⟩ = some (u8 m0) ∧ w3.cell? ⟨w.heap.size, 1, none⟩ = some (u8 m1)) := ⟨kcell hbK (And.left (by assumption)), kcell hbK (And.left (And.right (by assumption)))⟩; obtain ⟨hKc, hKf⟩ := bcell hbK; have hKz := hbK.size; (try simp [Nat.add_one_le_iff] at hKz); have hSz := hSt.size))
      all_goals
        go_wp2_with fail
        go_meet
        first
          | (with_reducible exact fbA hSt)
          | (refine fbB hSt (by omega) ?_ ?_ ?_ ?_ ?_ ?_ ?_ <;> (go_simp; done))
    · obtain rfl : nh = H := by rw [hnh, if_neg hmn]
      clear hnh
      go_region_held3 (fun w' => w'.cell? ⟨w.heap.size, 0, none⟩ = some (u8 m0) ∧ w'.cell? ⟨w.heap.size, 1, none⟩ = some (u8 m1) ∧ Below Wn.heap.size Wn w')
        (first | (with_reducible exact ⟨kcell (bpush (Below.refl _ _) _) hS0.out.1, kcell (bpush (Below.refl _ _) _) hS0.out.2, bpush hSt _⟩) | ((with_reducible refine ⟨(cset7 ?_).trans hS0.out.1, (cset7 ?_).trans hS0.out.2, bset7 hSt ?_⟩) <;> omega) | (with_reducible exact ⟨hS0.out.1, hS0.out.2, hSt⟩) | (refine ⟨?_, ?_, ?_⟩ <;> first | exact Below.drew (by assumption) | assumption) | (go_split_ands; refine ⟨?_, ?_, ?_⟩ <;> first | assumption | exact kcell (bpush (Below.refl _ _) _) (by assumption) | exact bpush (by assumption) _))
        (first | ((with_reducible refine (firSpan_any _ _ _).mono ?_); rintro e w3 ⟨rfl, hbK⟩; have hSt : Below Wn.heap.size Wn w3 := bstep (And.right (And.right (by assumption))) hbK; have hS0 : Hid (w3.cell? ⟨w.heap.size, 0, none⟩ = some (u8 m0) ∧ w3.cell? ⟨w.heap.size, 1, none⟩ = some (u8 m1)) := ⟨kcell hbK (And.left (by assumption)), kcell hbK (And.left (And.right (by assumption)))⟩; obtain ⟨hKc, hKf⟩ := bcell hbK; have hKz := hbK.size; (try simp [Nat.add_one_le_iff] at hKz); have hSz := hSt.size))
      all_goals
        go_wp2_with fail
        go_meet
        first
          | (with_reducible exact fbA hSt)
          | (refine fbB hSt (by omega) ?_ ?_ ?_ ?_ ?_ ?_ ?_ <;> (go_simp; done))
  case rest =>
    obtain ⟨g, rfl, hg, hgz, hBc, k0, k1, k2, k3, k4, k5, k6⟩ := hcut
    have HG := Lib.hid (show Wn.heap.size ≤ g ∧ g < wc.heap.size from ⟨hg, hgz⟩)
    have HK := Lib.hid (And.intro k0 (And.intro k1 (And.intro k2 (And.intro k3 (And.intro k4 (And.intro k5 k6))))))
    have hbwc : Below w.heap.size w wc := hBw.trans (hBc.mono (by omega))
    have HBC := Lib.hid hbwc
    have HB0c := Lib.hid ((hBc.block w.heap.size (by omega)).trans HB0.out)
    have HB1c := Lib.hid ((hBc.block (w.heap.size + 1) (by omega)).trans HB1.out)
    have hwc : w.heap.size + 2 ≤ wc.heap.size := Nat.le_trans hz1 hBc.size
    have HFc := Lib.hid (SliceU.below HF.out hbwc)
    have HNH := Lib.hid hnh; clear hnh
    clear k0 k1 k2 k3 k4 k5 k6 hBw hbwc hBn hBc c0 c1 t0 t1 t2 t3 t4 t5 HF HB0 HB1 HZ hg hgz
    have hN12 : fbN V ≤ 12 := by unfold fbN; split <;> omega
    go_wp2_with fail
    go_loopw [7, 8] (fun tv i wr => ∃ k : Nat, k ≤ fbN V ∧ i = iv k ∧ Hid (Owns encS 2 28 wc.heap.size wr tv (fbL V k)) ∧ Hid (Below wc.heap.size wc wr)) (fun _ i _ => 12 - (intOf i).toNat)
    case atStart => exact ⟨0, by omega, rfl, Lib.hid (owns_empty encS 2 _ _ wc (Nat.le_refl _)), Lib.hid (bpush (Below.refl _ _) _)⟩
    case round =>
      obtain ⟨k, hk, rfl, HO, HW⟩ := hrel
      have hs : wc.heap.size ≤ wr.heap.size := HW.out.size
      have HR0 := Lib.hid ((HW.out.block w.heap.size (by omega)).trans HB0c.out)
      have c4 : wr.cell? ⟨w.heap.size, 4, none⟩ = some (.slice fa V.length fc) := by rw [cell_of_row _ _ _ _ _ _ HR0.out]; rfl
      have hlk : (fbL V k).length = k := by simp [fbL]
      by_cases hlt : k < fbN V
      · have hw0 : w.heap.size ≠ wr.heap.size := by omega
        by_cases hkl : k < V.length
        · obtain ⟨p, hp⟩ : ∃ p, V[k]? = some p := ⟨V[k], List.getElem?_eq_getElem hkl⟩
          obtain ⟨⟨p0, p0'⟩, ⟨p1, p1'⟩⟩ := HVV.out p (List.mem_of_getElem? hp)
          obtain ⟨q0, q1⟩ := p
          dsimp only at p0 p0' p1 p1'
          have HT : Hid (fbL V (k + 1) = fbL V k ++ [(q0 % 50, q0 % 50 + q1 % 9)]) := by simp [Hid, fbL, List.range_succ, fbSp, List.getD, hp]
          have hfr := SliceU.below HFc.out HW.out
          obtain ⟨a', c', hv, -, hcs⟩ := hfr
          obtain ⟨fb, fo, hfa, hj⟩ := hcs k (q0, q1) hp
          have hfa2 : fa = some ⟨fb, fo, none⟩ := by simp only [Value.slice.injEq] at hv; rw [hv.1, hfa]
          clear hv hcs hfa
          subst hfa2
          have x0 : wr.cell? ⟨fb, fo + k * 2, none⟩ = some (u8 q0) := hj 0 _ rfl
          have x1 : wr.cell? ⟨fb, fo + k * 2 + 1, none⟩ = some (u8 q1) := hj 1 _ rfl
          have hfb : fb < wr.heap.size := lt_of_cell x0
          have xA0 : ∀ o, (wr.alloc o).cell? ⟨fb, fo + k * 2, none⟩ = some (u8 q0) := fun o => (World.cell?_alloc_old _ _ _ (by show fb ≠ wr.heap.size; omega)).trans x0
          have xA1 : ∀ o, (wr.alloc o).cell? ⟨fb, fo + k * 2 + 1, none⟩ = some (u8 q1) := fun o => (World.cell?_alloc_old _ _ _ (by show fb ≠ wr.heap.size; omega)).trans x1
          have cA : ∀ o, (wr.alloc o).cell? ⟨w.heap.size, 4, none⟩ = some (.slice (some ⟨fb, fo, none⟩) V.length fc) := fun o => (World.cell?_alloc_old _ _ _ (by show w.heap.size ≠ wr.heap.size; omega)).trans c4
          clear hj
          have t1 : q0.tmod 50 = q0 % 50 := Int.tmod_eq_emod_of_nonneg p0
          have t2 : q1.tmod 9 = q1 % 9 := Int.tmod_eq_emod_of_nonneg p1
          have r1 : 0 ≤ q0 % 50 ∧ q0 % 50 ≤ 49 := by omega
          have r2 : 0 ≤ q1 % 9 ∧ q1 % 9 ≤ 8 := by omega
          obtain ⟨r1, r1'⟩ := r1; obtain ⟨r2, r2'⟩ := r2
          have g1 : IntKind.i64.wrap q0 = q0 := IntWalk.i64_in _ ⟨by omega, by omega⟩
          have g2 : IntKind.i64.wrap q1 = q1 := IntWalk.i64_in _ ⟨by omega, by omega⟩
          have g3 : IntKind.i64.wrap (q0 % 50 + q1 % 9) = q0 % 50 + q1 % 9 := IntWalk.i64_in _ ⟨by omega, by omega⟩
          have hki : (k : Int) < (V.length : Int) := by omega
          have hk0i : (0 : Int) ≤ (k : Int) := by omega
          have hk12 : (k : Int) < 12 := by omega
          by_cases hk0 : k = 0
          · subst hk0
            have zA0 : ∀ o, (wr.alloc o).cell? ⟨fb, fo, none⟩ = some (u8 q0) := fun o => (congrArg (fun x => (wr.alloc o).cell? ⟨fb, x, none⟩) (by omega)).trans (xA0 o)
            have zA1 : ∀ o, (wr.alloc o).cell? ⟨fb, fo + 1, none⟩ = some (u8 q1) := fun o => (congrArg (fun x => (wr.alloc o).cell? ⟨fb, x, none⟩) (by omega)).trans (xA1 o)
            go_wp2_with fail
            refine (firSpan_any _ _ _).mono ?_
            rintro e w1 ⟨rfl, hb1⟩
            have hBX : Below wr.heap.size wr w1 := bstep (by repeat (first | exact Below.refl _ _ | refine Below.drew ?_ | refine bpush ?_ _ | refine bput ?_ (by simp) _ | (refine bstep ?_ (by assumption)))) hb1
            have HBX := Lib.hid hBX
            have HO1 := Lib.hid (Owns.kept HO.out hBX)
            have hb2 : Hid ((fbL V 0).length + 1 ≤ maxLen ∧ ((fbL V 0).length + 1) * 16 ≤ 140737488355328) := by rw [hlk]; simp [Hid]; unfold maxLen; omega
            have hb3 : Hid (wc.heap.size ≤ (w1.alloc (.cells #[iv (q0 % 50), iv (q0 % 50 + q1 % 9)] 28)).heap.size) := by have := hBX.size; simp [Hid]; omega
            clear hBX hb1
            go_wp2_with (at_builtin; refine L_append1 ((q0 % 50, q0 % 50 + q1 % 9) : Sp) rfl _ _ 31 rfl Try.underlying31 HI.out HZ0.out HZ1.out HZ2.out rfl Nat.two_pos encS_len (encS_one _) rfl rfl (Owns.kept HO1.out (bpush (Below.refl _ _) _)) (encS_cell ?_ ?_) hb2.out hb3.out ?_; go_simp; go_simp; intro v' w3 hown3 hbe3 hg3)
            have HO3 := Lib.hid (show Owns encS 2 28 wc.heap.size w3 v' (fbL V (0 + 1)) by rw [HT.out]; exact hown3)
            go_roundw
            case rel =>
              refine ⟨0 + 1, ?_, ?_, HO3, Lib.hid ((HW.out.trans ((bpush HBX.out _).mono (by omega))).trans hbe3)⟩
              · omega
              · first | rfl | go_num
            case measure => first | (simp [intOf]; done) | (simp [intOf]; omega)
          · have hz0 : ¬ (k : Int) = 0 := by omega
            have hz0' : ((k : Int) == 0) = false := by simpa using hz0
            go_wp2_with fail
            refine (firSpan_any _ _ _).mono ?_
            rintro e w1 ⟨rfl, hb1⟩
            have hBX : Below wr.heap.size wr w1 := bstep (by repeat (first | exact Below.refl _ _ | refine Below.drew ?_ | refine bpush ?_ _ | refine bput ?_ (by simp) _ | (refine bstep ?_ (by assumption)))) hb1
            have HBX := Lib.hid hBX
            have HO1 := Lib.hid (Owns.kept HO.out hBX)
            have hb2 : Hid ((fbL V k).length + 1 ≤ maxLen ∧ ((fbL V k).length + 1) * 16 ≤ 140737488355328) := by rw [hlk]; simp [Hid]; unfold maxLen; omega
            have hb3 : Hid (wc.heap.size ≤ (w1.alloc (.cells #[iv (q0 % 50), iv (q0 % 50 + q1 % 9)] 28)).heap.size) := by have := hBX.size; simp [Hid]; omega
            clear hBX hb1
            go_wp2_with (at_builtin; refine L_append1 ((q0 % 50, q0 % 50 + q1 % 9) : Sp) rfl _ _ 31 rfl Try.underlying31 HI.out HZ0.out HZ1.out HZ2.out rfl Nat.two_pos encS_len (encS_one _) rfl rfl (Owns.kept HO1.out (bpush (Below.refl _ _) _)) (encS_cell ?_ ?_) hb2.out hb3.out ?_; go_simp; go_simp; intro v' w3 hown3 hbe3 hg3)
            have HO3 := Lib.hid (show Owns encS 2 28 wc.heap.size w3 v' (fbL V (k + 1)) by rw [HT.out]; exact hown3)
            go_roundw
            case rel =>
              refine ⟨k + 1, ?_, ?_, HO3, Lib.hid ((HW.out.trans ((bpush HBX.out _).mono (by omega))).trans hbe3)⟩
              · omega
              · first | rfl | go_num
            case measure => first | (simp [intOf]; done) | (simp [intOf]; omega)
        · have hv : V.length = 0 := by unfold fbN at hlt; split at hlt <;> omega
          have hk0 : k = 0 := by unfold fbN at hlt; split at hlt <;> omega
          subst hk0
          have cA : ∀ o, (wr.alloc o).cell? ⟨w.heap.size, 4, none⟩ = some (.slice fa V.length fc) := fun o => (World.cell?_alloc_old _ _ _ (by show w.heap.size ≠ wr.heap.size; omega)).trans c4
          have HT : Hid (fbL V (0 + 1) = fbL V 0 ++ [(10, 12)]) := by have e := List.eq_nil_of_length_eq_zero hv; simp [Hid, fbL, List.range_succ, fbSp, e]
          clear hv
          go_wp2_with fail
          refine (firSpan_any _ _ _).mono ?_
          rintro e w1 ⟨rfl, hb1⟩
          have hBX : Below wr.heap.size wr w1 := bstep (by repeat (first | exact Below.refl _ _ | refine Below.drew ?_ | refine bpush ?_ _ | refine bput ?_ (by simp) _ | (refine bstep ?_ (by assumption)))) hb1
          have HBX := Lib.hid hBX
          have HO1 := Lib.hid (Owns.kept HO.out hBX)
          have hb2 : Hid ((fbL V 0).length + 1 ≤ maxLen ∧ ((fbL V 0).length + 1) * 16 ≤ 140737488355328) := by rw [hlk]; simp [Hid]; unfold maxLen; omega
          have hb3 : Hid (wc.heap.size ≤ (w1.alloc (.cells #[iv (10), iv (12)] 28)).heap.size) := by have := hBX.size; simp [Hid]; omega
          clear hBX hb1
          go_wp2_with (at_builtin; refine L_append1 ((10, 12) : Sp) rfl _ _ 31 rfl Try.underlying31 HI.out HZ0.out HZ1.out HZ2.out rfl Nat.two_pos encS_len (encS_one _) rfl rfl (Owns.kept HO1.out (bpush (Below.refl _ _) _)) (encS_cell ?_ ?_) hb2.out hb3.out ?_; go_simp; go_simp; intro v' w3 hown3 hbe3 hg3)
          have HO3 := Lib.hid (show Owns encS 2 28 wc.heap.size w3 v' (fbL V (0 + 1)) by rw [HT.out]; exact hown3)
          go_roundw
          case rel =>
            refine ⟨0 + 1, ?_, ?_, HO3, Lib.hid ((HW.out.trans ((bpush HBX.out _).mono (by omega))).trans hbe3)⟩
            · omega
            · first | rfl | go_num
          case measure => first | (simp [intOf]; done) | (simp [intOf]; omega)
      · have hz0 : ¬ (k : Int) = 0 := by unfold fbN at hlt; split at hlt <;> omega
        have hz0' : ((k : Int) == 0) = false := by simpa using hz0
        have hge : V.length ≤ k ∨ 12 ≤ k := by unfold fbN at hlt; split at hlt <;> omega
        obtain ⟨j0, j1, j2, j3, j4, j5, j6⟩ := HK.out
        have i0' : wr.cell? ⟨g, 0, none⟩ = some (iv (1 + m0 % 4)) := (HW.out.cell (p := ⟨g, 0, none⟩) HG.out.2).trans j0
        have i1' : wr.cell? ⟨g, 1, none⟩ = some (iv (m1 % 20)) := (HW.out.cell (p := ⟨g, 1, none⟩) HG.out.2).trans j1
        have i2' : wr.cell? ⟨g, 2, none⟩ = some (iv 20) := (HW.out.cell (p := ⟨g, 2, none⟩) HG.out.2).trans j2
        have i3' : wr.cell? ⟨g, 3, none⟩ = some (iv 30) := (HW.out.cell (p := ⟨g, 3, none⟩) HG.out.2).trans j3
        have i4' : wr.cell? ⟨g, 4, none⟩ = some (iv H) := (HW.out.cell (p := ⟨g, 4, none⟩) HG.out.2).trans j4
        have i5' : wr.cell? ⟨g, 5, none⟩ = some (iv N) := (HW.out.cell (p := ⟨g, 5, none⟩) HG.out.2).trans j5
        have i6' : wr.cell? ⟨g, 6, none⟩ = some (iv nh) := (HW.out.cell (p := ⟨g, 6, none⟩) HG.out.2).trans j6
        clear j0 j1 j2 j3 j4 j5 j6
        have HR1 := Lib.hid ((HW.out.block (w.heap.size + 1) (by omega)).trans HB1c.out)
        have d0 : wr.cell? ⟨w.heap.size + 1, 0, none⟩ = some (.int .i64 0) := by rw [cell_of_row _ _ _ _ _ _ HR1.out]; rfl
        have d1 : wr.cell? ⟨w.heap.size + 1, 1, none⟩ = some (.int .i64 0) := by rw [cell_of_row _ _ _ _ _ _ HR1.out]; rfl
        have d2 : wr.cell? ⟨w.heap.size + 1, 2, none⟩ = some (.int .i64 0) := by rw [cell_of_row _ _ _ _ _ _ HR1.out]; rfl
        have d3 : wr.cell? ⟨w.heap.size + 1, 3, none⟩ = some (.int .i64 0) := by rw [cell_of_row _ _ _ _ _ _ HR1.out]; rfl
        have d4 : wr.cell? ⟨w.heap.size + 1, 4, none⟩ = some (.int .i64 0) := by rw [cell_of_row _ _ _ _ _ _ HR1.out]; rfl
        have d5 : wr.cell? ⟨w.heap.size + 1, 5, none⟩ = some (.int .i64 0) := by rw [cell_of_row _ _ _ _ _ _ HR1.out]; rfl
        have d6 : wr.cell? ⟨w.heap.size + 1, 6, none⟩ = some (.int .i64 0) := by rw [cell_of_row _ _ _ _ _ _ HR1.out]; rfl
        have y0 : wr.frozen? ⟨w.heap.size + 1, 0, none⟩ = false := by unfold World.frozen?; rw [HR1.out]; rfl
        have y1 : wr.frozen? ⟨w.heap.size + 1, 1, none⟩ = false := by unfold World.frozen?; rw [HR1.out]; rfl
        have y2 : wr.frozen? ⟨w.heap.size + 1, 2, none⟩ = false := by unfold World.frozen?; rw [HR1.out]; rfl
        have y3 : wr.frozen? ⟨w.heap.size + 1, 3, none⟩ = false := by unfold World.frozen?; rw [HR1.out]; rfl
        have y4 : wr.frozen? ⟨w.heap.size + 1, 4, none⟩ = false := by unfold World.frozen?; rw [HR1.out]; rfl
        have y5 : wr.frozen? ⟨w.heap.size + 1, 5, none⟩ = false := by unfold World.frozen?; rw [HR1.out]; rfl
        have y6 : wr.frozen? ⟨w.heap.size + 1, 6, none⟩ = false := by unfold World.frozen?; rw [HR1.out]; rfl
        have hgw : w.heap.size + 1 ≠ g := by have := HG.out.1; omega
        have hkN : k = fbN V := by omega
        have HOE : Hid (Owns encS 2 28 wc.heap.size wr u7 (fbL V (fbN V))) := by rw [← hkN]; exact HO
        have HME : Hid (fbMl m0 m1 m2 m3 = ⟨1 + m0 % 4, m1 % 20, 20, 30, H, N, nh⟩) := by show _ = _; rw [HRR.out, ← HNH.out]
        have HL1 : w.heap.size + 1 < wc.heap.size := by omega
        clear hkN
        by_cases hkl : (k : Int) < (V.length : Int)
        · have hk12 : ¬ (k : Int) < 12 := by omega
          clear hge
          go_wp2_with fail
          exact bodyPost_ret (fb_results Try.results5 _ _ (w.heap.size + 1) 30 #[iv (1 + m0 % 4), iv (m1 % 20), iv 20, iv 30, iv H, iv N, iv nh] (0, 0) _ rfl (heap_set7 HR1.out) Try.underlying30 rfl (by kernel_rfl)) rfl (fb_end (Nat.le_succ _) HL1 HBC.out HW.out HOE.out HME.out)
        · clear hge
          go_wp2_with fail
          exact bodyPost_ret (fb_results Try.results5 _ _ (w.heap.size + 1) 30 #[iv (1 + m0 % 4), iv (m1 % 20), iv 20, iv 30, iv H, iv N, iv nh] (0, 0) _ rfl (heap_set7 HR1.out) Try.underlying30 rfl (by kernel_rfl)) rfl (fb_end (Nat.le_succ _) HL1 HBC.out HW.out HOE.out HME.out)
end Go.Proofs.Ytghnkhpjblnabaa
