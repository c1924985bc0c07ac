/- Done of package stream, and sums. -/
import Derived.Test.YtdalilllakdamaaTa
namespace Go.Proofs.Ytdalilllakdamaa
open Go Go.RowKit Go.Shelf
attribute [local go_sem] Oper.semAt_some
attribute [local go_sem ↓] Go.wp_at_zero Go.wp_at_succ

/-- After n hours some work is done, or never. -/
def DoneR (B : List Int) (work n err : Int) : Prop :=
  (∃ k : Nat, n = k ∧ err = 0 ∧ k ≤ B.length ∧ work ≤ (B.take k).sum ∧ ∀ j, j < k → (B.take j).sum < work) ∨ (n = 0 ∧ err = 7 ∧ ∀ j, j ≤ B.length → (B.take j).sum < work)
def DoneEnd (B : List Int) (work : Int) (w : World) (e : Ending) (w' : World) : Prop := ∃ n err : Int, e = .returned (.tuple #[iv n, iv err]) ∧ DoneR B work n err ∧ Below w.heap.size w w'
theorem results_two {P : Program} {fn : Func} {w : World} {p q : Tmp} {ty tz : TypeId} {a b : Addr} {x y : Value} {d d' : TypeDesc} (h : fn.results = #[.cell p ty, .cell q tz]) (tmps : Array Value) (hp : tmps.getD p undef = .pointer (some a)) (hq : tmps.getD q undef = .pointer (some b))
    (hu : P.underlying ty = some d) (hd : (match d with | .struct _ | .array _ _ => true | _ => false) = false) (hu' : P.underlying tz = some d') (hd' : (match d' with | .struct _ | .array _ _ => true | _ => false) = false) (hx : w.cell? a = some x) (hy : w.cell? b = some y) :
    (results fn tmps).run P w = .ok (.tuple #[x, y]) w := by
  have hp' : tmps[p]?.getD undef = .pointer (some a) := by simpa using hp
  have hq' : tmps[q]?.getD undef = .pointer (some b) := by simpa using hq
  simp only [results, h]
  simp [Sem.run_bind, hp', hq', asAddr, run_loadVar_one hu hd hx, run_loadVar_one hu' hd' hy, Result.andThen]
theorem row1 {W : World} {b : Nat} {v : Value} {t : TypeId} (h : W.heap[b]? = some (.cells #[v] t (0, 0))) : W.cell? ⟨b, 0, none⟩ = some v ∧ W.frozen? ⟨b, 0, none⟩ = false := by
  refine ⟨?_, ?_⟩
  · rw [cell_of_row _ _ _ _ _ _ h]; rfl
  · unfold World.frozen?; rw [h]; rfl
theorem heap_set_ne {W : World} {b k : Nat} {v : Value} {o : Option Obj} (h : W.heap[k]? = o) (hne : k ≠ b) : (W.setCell ⟨b, 0, none⟩ v).heap[k]? = o := (Below.heap_setCell _ _ _ _ hne).trans h
theorem prefix_take {α : Type} {pre xs : List α} (h : pre <+: xs) : xs.take pre.length = pre := by
  obtain ⟨t, rfl⟩ := h; simp

theorem cset_ne {W : World} {b k o : Nat} {v : Value} (hne : ¬ k = b) : (W.setCell ⟨b, 0, none⟩ v).cell? ⟨k, o, none⟩ = W.cell? ⟨k, o, none⟩ := World.cell?_of_block (Below.heap_setCell _ _ _ _ hne)
theorem cset_eq {W : World} {b : Nat} {v u : Value} (h : W.cell? ⟨b, 0, none⟩ = some u) : (W.setCell ⟨b, 0, none⟩ v).cell? ⟨b, 0, none⟩ = some v := World.cell?_setCell_same' _ _ _ (by rw [h]; rfl)

theorem sum_bdk {K : Int} (hK : 0 ≤ K) : ∀ (l : List Int), (∀ x ∈ l, -K ≤ x ∧ x ≤ K) → -(K * (l.length : Int)) ≤ l.sum ∧ l.sum ≤ K * (l.length : Int)
  | [], _ => by simp
  | a :: l, h => by
    have h1 := h a (by simp)
    have h2 := sum_bdk hK l (fun x hx => h x (by simp [hx]))
    rw [List.sum_cons, List.length_cons]
    have : K * ((l.length + 1 : Nat) : Int) = K * (l.length : Int) + K := by rw [Int.natCast_add, Int.mul_add]; simp
    omega
theorem take_sum_succ {xs : List Int} {k : Nat} {x : Int} (h : xs[k]? = some x) : (xs.take (k + 1)).sum = (xs.take k).sum + x := by
  rw [List.take_add_one, h]; simp

end Go.Proofs.Ytdalilllakdamaa
