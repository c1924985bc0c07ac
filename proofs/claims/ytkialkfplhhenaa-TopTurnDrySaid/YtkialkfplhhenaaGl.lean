/- The mill and the stream made of bytes, for the elm laws. -/
import Derived.Test.YtkialkfplhhenaaGk
namespace Go.Proofs.Ytkialkfplhhenaa
open Go Go.RowKit Go.Shelf
attribute [local go_sem ↓] Go.wp_at_zero Go.wp_at_succ

def emN (V : List (Int × Int)) : Nat := if V.length = 0 then 1 else min V.length 12
def emSp (V : List (Int × Int)) (i : Nat) : Sp := ((V.getD i (20, 4)).1 % 80, (V.getD i (20, 4)).1 % 80 + (V.getD i (20, 4)).2 % 20)
def emL (V : List (Int × Int)) (k : Nat) : List Sp := (List.range k).map (emSp V)
def emMl (m0 m1 m2 m3 m4 : Int) : Ml := ⟨1 + m0 % 6, m1 % 20, 30, 40, 10 + m2, min (10 + m2) m3, min (10 + m2) (min (10 + m2) m3 + m4 % 20)⟩
/-- A mill lies at p, and can be written. -/
def EmCut (Wn : World) (v0 v1 v2 v3 v4 v5 v6 : Int) (p : Value) (wx : World) : Prop := ∃ g, p = .pointer (some ⟨g, 0, none⟩) ∧ Wn.heap.size ≤ g ∧ g < wx.heap.size ∧ Below Wn.heap.size Wn wx ∧
  (wx.cell? ⟨g, 0, none⟩ = some (iv v0) ∧ wx.cell? ⟨g, 1, none⟩ = some (iv v1) ∧ wx.cell? ⟨g, 2, none⟩ = some (iv v2) ∧ wx.cell? ⟨g, 3, none⟩ = some (iv v3) ∧ wx.cell? ⟨g, 4, none⟩ = some (iv v4) ∧ wx.cell? ⟨g, 5, none⟩ = some (iv v5) ∧ wx.cell? ⟨g, 6, none⟩ = some (iv v6)) ∧ wx.frozen? ⟨g, 5, none⟩ = false ∧ wx.frozen? ⟨g, 6, none⟩ = false
theorem emA {Wn w3 : World} {v0 v1 v2 v3 v4 v5 v6 : Int} {t : TypeId} (h : Below Wn.heap.size Wn w3) : EmCut Wn v0 v1 v2 v3 v4 v5 v6 (.pointer (some ⟨w3.heap.size, 0, none⟩)) (w3.alloc (.cells #[iv v0, iv v1, iv v2, iv v3, iv v4, iv v5, iv v6] t)) := by
  have hr := heap_new w3 #[iv v0, iv v1, iv v2, iv v3, iv v4, iv v5, iv v6] t
  refine ⟨_, rfl, h.size, by simp, bpush h _, ⟨?_, ?_, ?_, ?_, ?_, ?_, ?_⟩, ?_, ?_⟩ <;> first | (rw [cell_of_row _ _ _ _ _ _ hr]; rfl) | (unfold World.frozen?; rw [hr]; rfl)
theorem frozen7 {W : World} {g : Nat} {v0 v1 v2 v3 v4 v5 v6 : Value} {o : Nat} (h : W.frozen? ⟨g, o, none⟩ = false) : (((((((W.setCell ⟨g, 0, none⟩ v0).setCell ⟨g, 1, none⟩ v1).setCell ⟨g, 2, none⟩ v2).setCell ⟨g, 3, none⟩ v3).setCell ⟨g, 4, none⟩ v4).setCell ⟨g, 5, none⟩ v5).setCell ⟨g, 6, none⟩ v6).frozen? ⟨g, o, none⟩ = false := by
  go_simp
theorem emB {Wn w3 : World} {g : Nat} {v0 v1 v2 v3 v4 v5 v6 : Int} (h : Below Wn.heap.size Wn w3) (hg : Wn.heap.size ≤ g)
    (k0 : w3.cell? ⟨g, 0, none⟩ = some (iv 0)) (k1 : w3.cell? ⟨g, 1, none⟩ = some (iv 0)) (k2 : w3.cell? ⟨g, 2, none⟩ = some (iv 0)) (k3 : w3.cell? ⟨g, 3, none⟩ = some (iv 0)) (k4 : w3.cell? ⟨g, 4, none⟩ = some (iv 0)) (k5 : w3.cell? ⟨g, 5, none⟩ = some (iv 0)) (k6 : w3.cell? ⟨g, 6, none⟩ = some (iv 0)) (f5 : w3.frozen? ⟨g, 5, none⟩ = false) (f6 : w3.frozen? ⟨g, 6, none⟩ = false) :
    EmCut Wn v0 v1 v2 v3 v4 v5 v6 (.pointer (some ⟨g, 0, none⟩)) (((((((w3.setCell ⟨g, 0, none⟩ (iv v0)).setCell ⟨g, 1, none⟩ (iv v1)).setCell ⟨g, 2, none⟩ (iv v2)).setCell ⟨g, 3, none⟩ (iv v3)).setCell ⟨g, 4, none⟩ (iv v4)).setCell ⟨g, 5, none⟩ (iv v5)).setCell ⟨g, 6, none⟩ (iv v6)) := by
  obtain ⟨g', e, h1, h2, h3, h4⟩ := fbB (v0 := v0) (v1 := v1) (v2 := v2) (v3 := v3) (v4 := v4) (v5 := v5) (v6 := v6) h hg k0 k1 k2 k3 k4 k5 k6
  simp only [Value.pointer.injEq, Option.some.injEq, Addr.mk.injEq, and_true] at e
  subst e
  exact ⟨g, rfl, h1, h2, h3, h4, frozen7 f5, frozen7 f6⟩
/-- A mill lies in block g. -/
structure EmAt (wc : World) (v0 v1 v2 v3 v4 v5 v6 : Int) (g : Nat) (wx : World) : Prop where
  B : Below wc.heap.size wc wx ∨ ∃ w5 : World, Below wc.heap.size wc w5 ∧ wx = (w5.setCell ⟨g, 5, none⟩ (iv v5)).setCell ⟨g, 6, none⟩ (iv v6)
  k : wx.cell? ⟨g, 0, none⟩ = some (iv v0) ∧ wx.cell? ⟨g, 1, none⟩ = some (iv v1) ∧ wx.cell? ⟨g, 2, none⟩ = some (iv v2) ∧ wx.cell? ⟨g, 3, none⟩ = some (iv v3) ∧ wx.cell? ⟨g, 4, none⟩ = some (iv v4) ∧ wx.cell? ⟨g, 5, none⟩ = some (iv v5) ∧ wx.cell? ⟨g, 6, none⟩ = some (iv v6)
theorem EmAt.below {w wc wx : World} {v0 v1 v2 v3 v4 v5 v6 : Int} {g : Nat} (h : EmAt wc v0 v1 v2 v3 v4 v5 v6 g wx) (hb : Below w.heap.size w wc) (hg : w.heap.size ≤ g) : Below w.heap.size w wx := by
  rcases h.B with h1 | ⟨w5, h1, rfl⟩
  · exact bstep hb h1
  · exact bput (p := ⟨g, 6, none⟩) (bput (p := ⟨g, 5, none⟩) (bstep hb h1) hg _) hg _
theorem EmAt.size {wc wx : World} {v0 v1 v2 v3 v4 v5 v6 : Int} {g : Nat} (h : EmAt wc v0 v1 v2 v3 v4 v5 v6 g wx) : wc.heap.size ≤ wx.heap.size := by
  rcases h.B with h1 | ⟨w5, h1, rfl⟩
  · exact h1.size
  · have := h1.size; simpa [World.setCell] using this
theorem EmAt.block {wc wx : World} {v0 v1 v2 v3 v4 v5 v6 : Int} {g k : Nat} (h : EmAt wc v0 v1 v2 v3 v4 v5 v6 g wx) (hk : k < wc.heap.size) (hne : k ≠ g) : wx.heap[k]? = wc.heap[k]? := by
  rcases h.B with h1 | ⟨w5, h1, rfl⟩
  · exact h1.block k hk
  · exact ((Below.heap_setCell _ _ _ _ hne).trans (Below.heap_setCell _ _ _ _ hne)).trans (h1.block k hk)
theorem emC {wc w5 : World} {v0 v1 v2 v3 v4 x5 x6 v5 v6 : Int} {g : Nat} (hb : Below wc.heap.size wc w5) (k0 : wc.cell? ⟨g, 0, none⟩ = some (iv v0)) (k1 : wc.cell? ⟨g, 1, none⟩ = some (iv v1)) (k2 : wc.cell? ⟨g, 2, none⟩ = some (iv v2)) (k3 : wc.cell? ⟨g, 3, none⟩ = some (iv v3)) (k4 : wc.cell? ⟨g, 4, none⟩ = some (iv v4)) (k5 : wc.cell? ⟨g, 5, none⟩ = some (iv x5)) (k6 : wc.cell? ⟨g, 6, none⟩ = some (iv x6)) :
    EmAt wc v0 v1 v2 v3 v4 v5 v6 g ((w5.setCell ⟨g, 5, none⟩ (iv v5)).setCell ⟨g, 6, none⟩ (iv v6)) := by
  have q0 := kcell hb k0; have q1 := kcell hb k1; have q2 := kcell hb k2; have q3 := kcell hb k3; have q4 := kcell hb k4; have q5 := kcell hb k5; have q6 := kcell hb k6
  refine ⟨.inr ⟨w5, hb, rfl⟩, ?_, ?_, ?_, ?_, ?_, ?_, ?_⟩
  all_goals go_simp
end Go.Proofs.Ytkialkfplhhenaa
