/- TopBeatenLonger's walk. -/
import Derived.Test.YtdalilllakdamaaSn
namespace Go.Proofs.Ytdalilllakdamaa
open Go Go.RowKit Go.Shelf
attribute [local go_sem ↓] Go.wp_at_zero Go.wp_at_succ

theorem owns_addr {α : Type} {enc : α → List Value} {sz e base : Nat} {w : World} {v : Value} {xs : List α} (h : Owns enc sz e base w v xs) (hne : 0 < xs.length) : ∃ g c, v = .slice (some ⟨g, 0, none⟩) xs.length c := by
  obtain ⟨h1, h2⟩ := h
  rcases h2 with ⟨rfl, h0⟩ | ⟨g, cap, cur, rfl, -⟩
  · omega
  · exact ⟨g, _, rfl⟩

theorem sl_cellsS {w : World} {g n c k : Nat} {L : List Sp} {p : Sp} (h : SliceOf encS 2 w (.slice (some ⟨g, 0, none⟩) n c) L) (hk : L[k]? = some p) : w.cell? ⟨g, k * 2, none⟩ = some (iv p.1) ∧ w.cell? ⟨g, k * 2 + 1, none⟩ = some (iv p.2) := by
  obtain ⟨a', c', hv, -, hc⟩ := h
  obtain ⟨gb, go, ha, hj⟩ := hc k p hk
  simp only [Value.slice.injEq] at hv
  have e := hv.1.trans ha
  simp only [Option.some.injEq, Addr.mk.injEq] at e
  obtain ⟨rfl, rfl, -⟩ := e
  have h0 := hj 0 _ rfl
  have h1 := hj 1 _ rfl
  simp only [Nat.zero_add, Nat.add_zero] at h0 h1
  exact ⟨h0, h1⟩
theorem sl_cellsT {w : World} {g n c k : Nat} {L : List Tk} {p : Tk} (h : SliceOf encT 4 w (.slice (some ⟨g, 0, none⟩) n c) L) (hk : L[k]? = some p) : w.cell? ⟨g, k * 4, none⟩ = some (iv p.fl) ∧ w.cell? ⟨g, k * 4 + 1, none⟩ = some (iv p.fh) := by
  obtain ⟨a', c', hv, -, hc⟩ := h
  obtain ⟨gb, go, ha, hj⟩ := hc k p hk
  simp only [Value.slice.injEq] at hv
  have e := hv.1.trans ha
  simp only [Option.some.injEq, Addr.mk.injEq] at e
  obtain ⟨rfl, rfl, -⟩ := e
  have h0 := hj 0 _ rfl
  have h1 := hj 1 _ rfl
  simp only [Nat.zero_add, Nat.add_zero] at h0 h1
  exact ⟨h0, h1⟩
end Go.Proofs.Ytdalilllakdamaa
