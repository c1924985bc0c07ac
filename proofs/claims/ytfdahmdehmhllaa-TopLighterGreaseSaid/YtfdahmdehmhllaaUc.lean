/- Levels of package stream. -/
import Derived.Test.YtfdahmdehmhllaaUb
import Derived.Test.YtfdahmdehmhllaaSm
namespace Go.Proofs.Ytfdahmdehmhllaa
open Go Go.RowKit Go.Shelf
attribute [local go_sem] Oper.semAt_some
attribute [local go_sem ↓] Go.wp_at_zero Go.wp_at_succ

theorem Owns.bl {α : Type} {enc : α → List Value} {sz e base : Nat} {w : World} {v : Value} {xs : List α} (h : Owns enc sz e base w v xs) (hne : 0 < xs.length) : ∃ g c, v = .slice (some ⟨g, 0, none⟩) xs.length c ∧ base ≤ g ∧ ∃ cur, w.heap[g]? = some (.cells cur e (0, 0)) := by
  obtain ⟨h1, h2⟩ := h
  rcases h2 with ⟨rfl, h0⟩ | ⟨g, cap, cur, rfl, hb, hg, -⟩
  · omega
  · exact ⟨g, _, rfl, hb, cur, hg⟩
/-- Levels: both ends of each hour, the upper ends of the first j hours. -/
def zipTo (A B : List Int) (j : Nat) : List Sp := (List.range A.length).map fun i => (A.getD i 0, if i < j then B.getD i 0 else 0)
theorem zipTo_len (A B : List Int) (j : Nat) : (zipTo A B j).length = A.length := by simp [zipTo]
theorem zipTo_zero (A B : List Int) : zipTo A B 0 = A.map fun l => ((l, 0) : Sp) := by
  apply List.ext_getElem?
  intro i
  simp only [zipTo, List.getElem?_map]
  by_cases h : i < A.length
  · rw [List.getElem?_range h, List.getElem?_eq_getElem h]
    simp [List.getD, List.getElem?_eq_getElem h]
  · rw [List.getElem?_eq_none (by simp; omega), List.getElem?_eq_none (by omega)]; rfl
theorem zipTo_get {A B : List Int} {j : Nat} (hj : j < A.length) : (zipTo A B j)[j]? = some (A.getD j 0, 0) := by
  simp [zipTo, List.getElem?_range hj]
theorem zipTo_succ {A B : List Int} {j : Nat} {b : Int} (hj : j < A.length) (hb : B[j]? = some b) : zipTo A B (j + 1) = (zipTo A B j).set j (A.getD j 0, b) := by
  apply List.ext_getElem?
  intro i
  rw [List.getElem?_set]
  simp only [zipTo, List.getElem?_map, List.length_map, List.length_range]
  by_cases e : j = i
  · subst e
    rw [if_pos rfl, if_pos hj, List.getElem?_range hj]
    simp [List.getD, hb]
  · rw [if_neg e]
    by_cases h : i < A.length
    · rw [List.getElem?_range h]
      have : (i < j + 1) ↔ (i < j) := by omega
      simp [this]
    · rw [List.getElem?_eq_none (by simp; omega)]; rfl
theorem flat_set : ∀ (xs : List Sp) (j : Nat) (p : Sp) (b : Int), xs[j]? = some p → (xs.flatMap encS).set (j * 2 + 1) (iv b) = (xs.set j (p.1, b)).flatMap encS
  | [], j, p, b, h => by simp at h
  | x :: xs, 0, p, b, h => by
    simp only [List.getElem?_cons_zero, Option.some.injEq] at h; subst h
    rfl
  | x :: xs, j + 1, p, b, h => by
    simp only [List.getElem?_cons_succ] at h
    rw [List.set_cons_succ, List.flatMap_cons, List.flatMap_cons, ← flat_set xs j p b h]
    obtain ⟨x0, x1⟩ := x
    show ([iv x0, iv x1] ++ xs.flatMap encS).set ((j + 1) * 2 + 1) (iv b) = _
    rw [show (j + 1) * 2 + 1 = (j * 2 + 1) + 1 + 1 by omega]
    rfl

theorem sl_cellI {w : World} {g n c k : Nat} {L : List Int} {x : Int} (h : SliceOf encI 1 w (.slice (some ⟨g, 0, none⟩) n c) L) (hk : L[k]? = some x) : w.cell? ⟨g, k, none⟩ = some (iv x) := by
  obtain ⟨a', c', hv, -, hc⟩ := h
  obtain ⟨gb, go, ha, hj⟩ := hc k x hk
  simp only [Value.slice.injEq] at hv
  have e := hv.1.trans ha
  simp only [Option.some.injEq, Addr.mk.injEq] at e
  obtain ⟨rfl, rfl, -⟩ := e
  have h0 := hj 0 _ rfl
  simp only [Nat.zero_add, Nat.add_zero, Nat.mul_one] at h0
  exact h0
theorem sl_cellsSb {w : World} {g n c k : Nat} {L : List Sp} {p : Sp} (h : SliceOf encS 2 w (.slice (some ⟨g, 0, none⟩) n c) L) (hk : L[k]? = some p) : w.cell? ⟨g, k * 2, none⟩ = some (iv p.1) ∧ w.cell? ⟨g, k * 2 + 1, none⟩ = some (iv p.2) := by
  obtain ⟨a', c', hv, -, hc⟩ := h
  obtain ⟨gb, go, ha, hj⟩ := hc k p hk
  simp only [Value.slice.injEq] at hv
  have e := hv.1.trans ha
  simp only [Option.some.injEq, Addr.mk.injEq] at e
  obtain ⟨rfl, rfl, -⟩ := e
  have h0 := hj 0 _ rfl
  have h1 := hj 1 _ rfl
  simp only [Nat.zero_add, Nat.add_zero] at h0 h1
  exact ⟨h0, h1⟩
theorem results_two_tmp {P : Program} {fn : Func} {p q : Tmp} (h : fn.results = #[.tmp p, .tmp q]) (tmps : Array Value) (w : World) : (results fn tmps).run P w = .ok (.tuple #[tmps.getD p undef, tmps.getD q undef]) w := by
  simp [results, h]
theorem row1b {W : World} {b : Nat} {v : Value} {t : TypeId} (h : W.heap[b]? = some (.cells #[v] t (0, 0))) : W.cell? ⟨b, 0, none⟩ = some v ∧ W.frozen? ⟨b, 0, none⟩ = false := by
  refine ⟨?_, ?_⟩
  · rw [cell_of_row _ _ _ _ _ _ h]; rfl
  · unfold World.frozen?; rw [h]; rfl
def levErr (m : Ml) (F : List Sp) (plan : List Int) : Int := if rightB m F plan = true then 0 else 9
def levL (m : Ml) (F : List Sp) (plan : List Int) : List Sp := if rightB m F plan = true then zipTo (lvOf Prod.fst m F plan) (lvOf Prod.snd m F plan) plan.length else []

end Go.Proofs.Ytfdahmdehmhllaa
