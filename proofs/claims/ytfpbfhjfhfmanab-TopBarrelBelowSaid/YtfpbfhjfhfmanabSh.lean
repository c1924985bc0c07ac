/- Most of package stream. -/
import Derived.Test.YtfpbfhjfhfmanabSg
namespace Go.Proofs.Ytfpbfhjfhfmanab
open Go Go.RowKit Go.Shelf
attribute [local go_sem ↓] Go.wp_at_zero Go.wp_at_succ

/-- A list of numbers, and an error. -/
def IntsErr (L : List Int) (err : Int) (w : World) (e : Ending) (w' : World) : Prop := ∃ v, e = .returned (.tuple #[v, iv err]) ∧ Owns encI 1 3 w.heap.size w' v L ∧ Below w.heap.size w w'
def mostL (m : Ml) (F : List Sp) : List Int := if sChk m F = 0 then mostP m m.nl F else []
theorem Owns.base2 {α : Type} {enc : α → List Value} {sz e base base' : Nat} {w : World} {v : Value} {xs : List α} (h : Owns enc sz e base w v xs) (hb : base' ≤ base) : Owns enc sz e base' w v xs := by
  refine ⟨h.1, ?_⟩
  rcases h.2 with h0 | ⟨g, cap, cur, h1, h2, h3⟩
  · exact .inl h0
  · exact .inr ⟨g, cap, cur, h1, Nat.le_trans hb h2, h3⟩
theorem bbase {B : Nat} {W w1 : World} (hb : Below B W w1) : (∀ b o, b < B → w1.cell? ⟨b, o, none⟩ = W.cell? ⟨b, o, none⟩) ∧ (∀ b o, b < B → w1.frozen? ⟨b, o, none⟩ = W.frozen? ⟨b, o, none⟩) :=
  ⟨fun b o h => hb.cell (p := ⟨b, o, none⟩) h, fun b o h => hb.frozen (p := ⟨b, o, none⟩) h⟩
theorem heap_set2 {W : World} {b : Nat} {x y u v : Value} {t : TypeId} (h : W.heap[b]? = some (.cells #[x, y] t (0, 0))) : ((W.setCell ⟨b, 0, none⟩ u).setCell ⟨b, 1, none⟩ v).heap[b]? = some (.cells #[u, v] t (0, 0)) := by
  have h1 := heap_setCell_same W b 0 #[x, y] t u h
  have h2 := heap_setCell_same _ b 1 _ t v h1
  simpa using h2
theorem grown_set2 (W : World) (b : Nat) (u v : Value) : W.grownBy ((W.setCell ⟨b, 0, none⟩ u).setCell ⟨b, 1, none⟩ v) (some b) :=
  ⟨rfl, rfl, rfl, by simp [World.setCell], fun k hk hne => by
    have : k ≠ b := fun e => hne (by rw [e])
    rw [Below.heap_setCell _ _ _ _ (by simpa using this), Below.heap_setCell _ _ _ _ (by simpa using this)]⟩

end Go.Proofs.Ytfpbfhjfhfmanab
