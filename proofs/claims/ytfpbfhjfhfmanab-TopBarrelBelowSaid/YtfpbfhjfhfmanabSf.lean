/- The busiest plans: begin, next, the iterator. -/
import Derived.Test.YtfpbfhjfhfmanabSe
import Derived.Sort.LoopGhostIn
namespace Go.Proofs.Ytfpbfhjfhfmanab
open Go Go.RowKit Go.Shelf
attribute [local go_sem] Oper.semAt_some
attribute [local go_sem ↓] Go.wp_at_zero Go.wp_at_succ

def mom (hour level : Int) : Value := .agg #[iv hour, iv level]
/-- The hammers of an hour, if as many go as can. -/
def mostOf (m : Ml) (l f : Int) : Int := if 0 < m.t then (if fillL m.h l f / m.t < m.k then fillL m.h l f / m.t else m.k) else m.k
def busy (m : Ml) : Int → List Sp → List Int
  | _, [] => []
  | l, p :: r => mostOf m l p.1 :: busy m (leftL m.t m.h l p.1 (mostOf m l p.1)) r
theorem fillL_bd {H l f : Int} (hH : 0 ≤ H) (h1 : 0 ≤ l) (h2 : 0 ≤ f) : 0 ≤ fillL H l f ∧ fillL H l f ≤ H := by unfold fillL; split <;> omega
theorem mostOf_bd {m : Ml} {l f : Int} (hm : vMill m = true) (h1 : 0 ≤ l) (h2 : 0 ≤ f) : 0 ≤ mostOf m l f ∧ mostOf m l f ≤ m.k ∧ 0 ≤ leftL m.t m.h l f (mostOf m l f) ∧ leftL m.t m.h l f (mostOf m l f) ≤ m.h := by
  obtain ⟨⟨m1, m2⟩, ⟨m3, m4⟩, -, ⟨m5, m6⟩, -⟩ := vMill_iff.1 hm
  obtain ⟨f1, f2⟩ := fillL_bd m5 h1 h2
  have key : ∀ x : Int, 0 ≤ x → x * m.t ≤ fillL m.h l f → 0 ≤ leftL m.t m.h l f x ∧ leftL m.t m.h l f x ≤ m.h := by
    intro x hx hxt
    have : 0 ≤ x * m.t := Int.mul_nonneg hx m3
    unfold leftL; omega
  unfold mostOf
  split
  · rename_i ht
    have q0 : 0 ≤ fillL m.h l f / m.t := Int.ediv_nonneg f1 m3
    have q1 : fillL m.h l f / m.t * m.t ≤ fillL m.h l f := Int.ediv_mul_le _ (by omega)
    split
    · rename_i hq
      exact ⟨q0, by omega, key _ q0 q1⟩
    · rename_i hq
      refine ⟨by omega, by omega, key _ (by omega) (Int.le_trans (Int.mul_le_mul_of_nonneg_right (by omega) m3) q1)⟩
  · rename_i ht
    have : m.t = 0 := by omega
    exact ⟨by omega, by omega, key _ (by omega) (by rw [this]; omega)⟩
theorem heap_new2 (W : World) (g : Nat) (a b : Value) (t : TypeId) : (((W.setCell ⟨g, 0, none⟩ a).setCell ⟨g, 1, none⟩ b).alloc (.cells #[a, b] t)).heap[W.heap.size]? = some (.cells #[a, b] t (0, 0)) := by
  have := heap_new ((W.setCell ⟨g, 0, none⟩ a).setCell ⟨g, 1, none⟩ b) #[a, b] t
  simpa using this
theorem turn_setAt {T : Nat → Prop} {W : World} {b : Nat} (hb : T b) (o : Nat) (v : Value) : Turn T W (W.setCell ⟨b, o, none⟩ v) :=
  ⟨rfl, rfl, rfl, by simp [World.setCell], fun k _ hk => Below.heap_setCell _ _ _ _ (fun e => hk (e ▸ hb))⟩

end Go.Proofs.Ytfpbfhjfhfmanab
