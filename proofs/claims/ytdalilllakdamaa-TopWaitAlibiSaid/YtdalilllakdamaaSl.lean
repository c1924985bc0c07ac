/- A mill and a stream made of bytes. -/
import Derived.Test.YtdalilllakdamaaSk
namespace Go.Proofs.Ytdalilllakdamaa
open Go Go.RowKit Go.Shelf
attribute [local go_sem ↓] Go.wp_at_zero Go.wp_at_succ

/-- A list in memory, of any length that Go has. -/
def SliceU {α : Type} (enc : α → List Value) (sz : Nat) (w : World) (v : Value) (xs : List α) : Prop :=
  ∃ a cap, v = .slice a xs.length cap ∧ xs.length ≤ 9223372036854775807 ∧
    ∀ i x, xs[i]? = some x → ∃ b off, a = some ⟨b, off, none⟩ ∧ ∀ j u, (enc x)[j]? = some u → w.cell? ⟨b, off + i * sz + j, none⟩ = some u
theorem SliceU.below {α : Type} {enc : α → List Value} {sz : Nat} {w w' : World} {v : Value} {xs : List α} (h : SliceU enc sz w v xs) (hb : Below w.heap.size w w') : SliceU enc sz w' v xs := by
  obtain ⟨a, cap, h1, h2, h3⟩ := h
  refine ⟨a, cap, h1, h2, fun i x hx => ?_⟩
  obtain ⟨b, off, e, hc⟩ := h3 i x hx
  exact ⟨b, off, e, fun j u hu => (hb.cell (p := ⟨b, _, none⟩) (lt_of_cell (hc j u hu))).trans (hc j u hu)⟩
def enc2 (p : Int × Int) : List Value := [u8 p.1, u8 p.2]
def fbN (V : List (Int × Int)) : Nat := if V.length = 0 then 1 else min V.length 12
def fbSp (V : List (Int × Int)) (i : Nat) : Sp := ((V.getD i (10, 2)).1 % 50, (V.getD i (10, 2)).1 % 50 + (V.getD i (10, 2)).2 % 9)
def fbL (V : List (Int × Int)) (k : Nat) : List Sp := (List.range k).map (fbSp V)
def fbMl (m0 m1 m2 m3 : Int) : Ml := ⟨1 + m0 % 4, m1 % 20, 20, 30, 20 + m2 % 80, m3 % (21 + m2 % 80), if m3 % (21 + m2 % 80) + 5 < 20 + m2 % 80 then m3 % (21 + m2 % 80) + 5 else 20 + m2 % 80⟩
def FbRes (m : Ml) (F : List Sp) (w : World) (e : Ending) (w' : World) : Prop := ∃ v, e = .returned (.tuple #[.agg (encMl m).toArray, v]) ∧ Owns encS 2 29 w.heap.size w' v F ∧ Below w.heap.size w w'

/-- A mill lies at p. -/
def FbCut (Wn : World) (v0 v1 v2 v3 v4 v5 v6 : Int) (p : Value) (wx : World) : Prop := ∃ g, p = .pointer (some ⟨g, 0, none⟩) ∧ Wn.heap.size ≤ g ∧ g < wx.heap.size ∧ Below Wn.heap.size Wn wx ∧
  wx.cell? ⟨g, 0, none⟩ = some (iv v0) ∧ wx.cell? ⟨g, 1, none⟩ = some (iv v1) ∧ wx.cell? ⟨g, 2, none⟩ = some (iv v2) ∧ wx.cell? ⟨g, 3, none⟩ = some (iv v3) ∧ wx.cell? ⟨g, 4, none⟩ = some (iv v4) ∧ wx.cell? ⟨g, 5, none⟩ = some (iv v5) ∧ wx.cell? ⟨g, 6, none⟩ = some (iv v6)
def set7 (W : World) (g : Nat) (v0 v1 v2 v3 v4 v5 v6 : Value) : World := ((((((W.setCell ⟨g, 0, none⟩ v0).setCell ⟨g, 1, none⟩ v1).setCell ⟨g, 2, none⟩ v2).setCell ⟨g, 3, none⟩ v3).setCell ⟨g, 4, none⟩ v4).setCell ⟨g, 5, none⟩ v5).setCell ⟨g, 6, none⟩ v6
theorem bset7 {w W : World} {g : Nat} {v0 v1 v2 v3 v4 v5 v6 : Value} (h : Below w.heap.size w W) (hg : w.heap.size ≤ g) : Below w.heap.size w (((((((W.setCell ⟨g, 0, none⟩ v0).setCell ⟨g, 1, none⟩ v1).setCell ⟨g, 2, none⟩ v2).setCell ⟨g, 3, none⟩ v3).setCell ⟨g, 4, none⟩ v4).setCell ⟨g, 5, none⟩ v5).setCell ⟨g, 6, none⟩ v6) :=
  bput (p := ⟨g, 6, none⟩) (bput (p := ⟨g, 5, none⟩) (bput (p := ⟨g, 4, none⟩) (bput (p := ⟨g, 3, none⟩) (bput (p := ⟨g, 2, none⟩) (bput (p := ⟨g, 1, none⟩) (bput (p := ⟨g, 0, none⟩) h hg v0) hg v1) hg v2) hg v3) hg v4) hg v5) hg v6
theorem cset7 {W : World} {g b o : Nat} {v0 v1 v2 v3 v4 v5 v6 : Value} (hg : b ≠ g) : (((((((W.setCell ⟨g, 0, none⟩ v0).setCell ⟨g, 1, none⟩ v1).setCell ⟨g, 2, none⟩ v2).setCell ⟨g, 3, none⟩ v3).setCell ⟨g, 4, none⟩ v4).setCell ⟨g, 5, none⟩ v5).setCell ⟨g, 6, none⟩ v6).cell? ⟨b, o, none⟩ = W.cell? ⟨b, o, none⟩ := by
  refine World.cell?_of_block ?_
  rw [Below.heap_setCell _ _ _ _ hg, Below.heap_setCell _ _ _ _ hg, Below.heap_setCell _ _ _ _ hg, Below.heap_setCell _ _ _ _ hg, Below.heap_setCell _ _ _ _ hg, Below.heap_setCell _ _ _ _ hg, Below.heap_setCell _ _ _ _ hg]

theorem heap_set7 {W : World} {g : Nat} {x0 x1 x2 x3 x4 x5 x6 v0 v1 v2 v3 v4 v5 v6 : Value} {t : TypeId} (h : W.heap[g]? = some (.cells #[x0, x1, x2, x3, x4, x5, x6] t (0, 0))) :
    (((((((W.setCell ⟨g, 0, none⟩ v0).setCell ⟨g, 1, none⟩ v1).setCell ⟨g, 2, none⟩ v2).setCell ⟨g, 3, none⟩ v3).setCell ⟨g, 4, none⟩ v4).setCell ⟨g, 5, none⟩ v5).setCell ⟨g, 6, none⟩ v6).heap[g]? = some (.cells #[v0, v1, v2, v3, v4, v5, v6] t (0, 0)) := by
  have h1 : (W.setCell ⟨g, 0, none⟩ v0).heap[g]? = some (.cells #[v0, x1, x2, x3, x4, x5, x6] t (0, 0)) := by have e := heap_setCell_same _ g 0 _ t v0 h; simpa using e
  have h2 : ((W.setCell ⟨g, 0, none⟩ v0).setCell ⟨g, 1, none⟩ v1).heap[g]? = some (.cells #[v0, v1, x2, x3, x4, x5, x6] t (0, 0)) := by have e := heap_setCell_same _ g 1 _ t v1 h1; simpa using e
  have h3 : (((W.setCell ⟨g, 0, none⟩ v0).setCell ⟨g, 1, none⟩ v1).setCell ⟨g, 2, none⟩ v2).heap[g]? = some (.cells #[v0, v1, v2, x3, x4, x5, x6] t (0, 0)) := by have e := heap_setCell_same _ g 2 _ t v2 h2; simpa using e
  have h4 : ((((W.setCell ⟨g, 0, none⟩ v0).setCell ⟨g, 1, none⟩ v1).setCell ⟨g, 2, none⟩ v2).setCell ⟨g, 3, none⟩ v3).heap[g]? = some (.cells #[v0, v1, v2, v3, x4, x5, x6] t (0, 0)) := by have e := heap_setCell_same _ g 3 _ t v3 h3; simpa using e
  have h5 : (((((W.setCell ⟨g, 0, none⟩ v0).setCell ⟨g, 1, none⟩ v1).setCell ⟨g, 2, none⟩ v2).setCell ⟨g, 3, none⟩ v3).setCell ⟨g, 4, none⟩ v4).heap[g]? = some (.cells #[v0, v1, v2, v3, v4, x5, x6] t (0, 0)) := by have e := heap_setCell_same _ g 4 _ t v4 h4; simpa using e
  have h6 : ((((((W.setCell ⟨g, 0, none⟩ v0).setCell ⟨g, 1, none⟩ v1).setCell ⟨g, 2, none⟩ v2).setCell ⟨g, 3, none⟩ v3).setCell ⟨g, 4, none⟩ v4).setCell ⟨g, 5, none⟩ v5).heap[g]? = some (.cells #[v0, v1, v2, v3, v4, v5, x6] t (0, 0)) := by have e := heap_setCell_same _ g 5 _ t v5 h5; simpa using e
  have h7 : (((((((W.setCell ⟨g, 0, none⟩ v0).setCell ⟨g, 1, none⟩ v1).setCell ⟨g, 2, none⟩ v2).setCell ⟨g, 3, none⟩ v3).setCell ⟨g, 4, none⟩ v4).setCell ⟨g, 5, none⟩ v5).setCell ⟨g, 6, none⟩ v6).heap[g]? = some (.cells #[v0, v1, v2, v3, v4, v5, v6] t (0, 0)) := by have e := heap_setCell_same _ g 6 _ t v6 h6; simpa using e
  exact h7
theorem grown_setO (W : World) (g o : Nat) (u : Value) : W.grownBy (W.setCell ⟨g, o, none⟩ u) (some g) :=
  ⟨rfl, rfl, rfl, by simp [World.setCell], fun k hk hne => Below.heap_setCell _ _ _ _ (fun e => hne (by rw [e]))⟩
theorem owns_set {α : Type} {enc : α → List Value} {sz e base : Nat} {W : World} {v : Value} {F : List α} {g : Nat} (h : Owns enc sz e base W v F) (hg : g < base) (o : Nat) (u : Value) : Owns enc sz e base (W.setCell ⟨g, o, none⟩ u) v F := by
  refine World.ownsRow.kept h (grown_setO _ _ _ _) ?_
  cases hv : v.ownBlock with
  | none => exact .inl rfl
  | some q =>
    have := (World.ownsRow.lt h q hv).1
    refine .inr (fun e => ?_)
    simp only [Option.some.injEq] at e; omega
/-- A structure's cell and a register as the results. -/
theorem fb_results {P : Program} {fn : Func} {p q : Tmp} {ty : TypeId} (h : fn.results = #[.cell p ty, .tmp q]) (tmps : Array Value) (w : World) (g : Nat) (t : TypeId) (cs : Array Value) (fr : Nat × Nat) (d : TypeDesc)
    (hp : tmps.getD p undef = .pointer (some ⟨g, 0, none⟩)) (hg : w.heap[g]? = some (.cells cs t fr))
    (hu : P.underlying ty = some d) (hd : (match d with | .struct _ | .array _ _ => true | _ => false) = true) (hi : (P.info? ty).map (·.size) = some cs.size) :
    (results fn tmps).run P w = .ok (.tuple #[.agg cs, tmps.getD q undef]) w := by
  have e : tmps[p]?.getD undef = .pointer (some ⟨g, 0, none⟩) := by simpa using hp
  simp [results, h, e, asAddr, run_loadVar_row w g t ty cs fr d hg hu hd hi]
theorem fb_end {w wc wr : World} {g : Nat} {v : Value} {F : List Sp} {m : Ml} {v0 v1 v2 v3 v4 v5 v6 : Int} (hg : w.heap.size ≤ g) (hgc : g < wc.heap.size) (hB : Below w.heap.size w wc) (hW : Below wc.heap.size wc wr)
    (hO : Owns encS 2 29 wc.heap.size wr v F) (hm : m = ⟨v0, v1, v2, v3, v4, v5, v6⟩) :
    FbRes m F w (.returned (.tuple #[.agg #[iv v0, iv v1, iv v2, iv v3, iv v4, iv v5, iv v6], v])) (((((((wr.setCell ⟨g, 0, none⟩ (iv v0)).setCell ⟨g, 1, none⟩ (iv v1)).setCell ⟨g, 2, none⟩ (iv v2)).setCell ⟨g, 3, none⟩ (iv v3)).setCell ⟨g, 4, none⟩ (iv v4)).setCell ⟨g, 5, none⟩ (iv v5)).setCell ⟨g, 6, none⟩ (iv v6)) := by
  subst hm
  exact ⟨v, rfl, Owns.base2 (owns_set (owns_set (owns_set (owns_set (owns_set (owns_set (owns_set hO hgc 0 _) hgc 1 _) hgc 2 _) hgc 3 _) hgc 4 _) hgc 5 _) hgc 6 _) hB.size, bset7 (hB.trans (hW.mono hB.size)) hg⟩

theorem fbA {Wn w3 : World} {v0 v1 v2 v3 v4 v5 v6 : Int} {t : TypeId} (h : Below Wn.heap.size Wn w3) : FbCut Wn v0 v1 v2 v3 v4 v5 v6 (.pointer (some ⟨w3.heap.size, 0, none⟩)) (w3.alloc (.cells #[iv v0, iv v1, iv v2, iv v3, iv v4, iv v5, iv v6] t)) := by
  have hr := heap_new w3 #[iv v0, iv v1, iv v2, iv v3, iv v4, iv v5, iv v6] t
  refine ⟨_, rfl, h.size, by simp, bpush h _, ?_, ?_, ?_, ?_, ?_, ?_, ?_⟩ <;> (rw [cell_of_row _ _ _ _ _ _ hr]; rfl)
theorem fbB {Wn w3 : World} {g : Nat} {v0 v1 v2 v3 v4 v5 v6 : Int} (h : Below Wn.heap.size Wn w3) (hg : Wn.heap.size ≤ g)
    (k0 : w3.cell? ⟨g, 0, none⟩ = some (iv 0)) (k1 : w3.cell? ⟨g, 1, none⟩ = some (iv 0)) (k2 : w3.cell? ⟨g, 2, none⟩ = some (iv 0)) (k3 : w3.cell? ⟨g, 3, none⟩ = some (iv 0)) (k4 : w3.cell? ⟨g, 4, none⟩ = some (iv 0)) (k5 : w3.cell? ⟨g, 5, none⟩ = some (iv 0)) (k6 : w3.cell? ⟨g, 6, none⟩ = some (iv 0)) :
    FbCut Wn v0 v1 v2 v3 v4 v5 v6 (.pointer (some ⟨g, 0, none⟩)) (((((((w3.setCell ⟨g, 0, none⟩ (iv v0)).setCell ⟨g, 1, none⟩ (iv v1)).setCell ⟨g, 2, none⟩ (iv v2)).setCell ⟨g, 3, none⟩ (iv v3)).setCell ⟨g, 4, none⟩ (iv v4)).setCell ⟨g, 5, none⟩ (iv v5)).setCell ⟨g, 6, none⟩ (iv v6)) := by
  refine ⟨g, rfl, hg, ?_, bset7 h hg, ?_, ?_, ?_, ?_, ?_, ?_, ?_⟩
  · simp [World.setCell]; exact lt_of_cell k0
  all_goals go_simp

end Go.Proofs.Ytdalilllakdamaa
