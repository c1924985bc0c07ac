/- The small functions of the statements across the chapters: spans, copies, comparisons, and the known example. -/
import Derived.Test.YtiellodbdidgoaaSh
import Derived.Deep.QuietTactic
import Derived.BigQuiet
namespace Go.Proofs.Ytiellodbdidgoaa
open Go Go.RowKit Go.Shelf
theorem spans3 {w : World} {g cap : Nat} {a b c d e f : Int} {t : TypeId} (h : w.heap[g]? = some (.cells #[iv a, iv b, iv c, iv d, iv e, iv f] t (0, 0))) : SliceOf encS 2 w (.slice (some ⟨g, 0, none⟩) 3 cap) [(a, b), (c, d), (e, f)] := by
  refine ⟨_, cap, rfl, by simp, fun i p hp => ⟨g, 0, rfl, fun j u hu => ?_⟩⟩
  rw [cell_of_row _ _ _ _ _ _ h]
  rcases i with _ | _ | _ | i
  · simp at hp; subst hp; rcases j with _ | _ | j <;> simp [encS] at hu ⊢ <;> exact hu
  · simp at hp; subst hp; rcases j with _ | _ | j <;> simp [encS] at hu ⊢ <;> exact hu
  · simp at hp; subst hp; rcases j with _ | _ | j <;> simp [encS] at hu ⊢ <;> exact hu
  · simp at hp

theorem ints3 {w : World} {g cap : Nat} {a b c : Int} {t : TypeId} (h : w.heap[g]? = some (.cells #[iv a, iv b, iv c] t (0, 0))) : Ints w (.slice (some ⟨g, 0, none⟩) 3 cap) [a, b, c] := by
  refine ⟨_, cap, rfl, by simp, fun i p hp => ⟨g, 0, rfl, fun j u hu => ?_⟩⟩
  rw [cell_of_row _ _ _ _ _ _ h]
  rcases i with _ | _ | _ | i
  · simp at hp; subst hp; rcases j with _ | j <;> simp [encI] at hu ⊢ <;> exact hu
  · simp at hp; subst hp; rcases j with _ | j <;> simp [encI] at hu ⊢ <;> exact hu
  · simp at hp; subst hp; rcases j with _ | j <;> simp [encI] at hu ⊢ <;> exact hu
  · simp at hp
theorem bdrewN {B : Nat} {w w1 : World} (h : Below B w w1) (n : Nat) : Below B w (w1.drewN n) := ⟨h.os, h.tape, h.output, h.size, h.block⟩
theorem beq_take_succ {xs ys : List Int} {k : Nat} {x y : Int} (h : xs.take k = ys.take k) (hx : xs[k]? = some x) (hy : ys[k]? = some y) (he : x = y) : xs.take (k + 1) = ys.take (k + 1) := by
  rw [List.take_add_one, List.take_add_one, h, hx, hy, he]

def kMl : Ml := ⟨3, 10, 30, 40, 50, 20, 25⟩
def kFl : List Sp := [(10, 20), (0, 5), (15, 30)]
theorem kMost : mostL kMl kFl = [0, 1, 3] := by decide +kernel
theorem kChk : sChk kMl kFl = 0 := by decide +kernel

end Go.Proofs.Ytiellodbdidgoaa
