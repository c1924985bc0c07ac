/- The elm functions of Top laws: spans, copies of spans, and the known examples of chapters 2 and 5. -/
import Derived.Test.YtdalilllakdamaaMc
import Derived.Test.YtdalilllakdamaaVa
import Derived.Test.YtdalilllakdamaaMb
import Derived.Test.YtdalilllakdamaaSj
namespace Go.Proofs.Ytdalilllakdamaa
open Go Go.RowKit Go.Shelf
attribute [local go_sem ↓] Go.wp_at_zero Go.wp_at_succ

set_option maxHeartbeats 400000 in
theorem elmSpan_any (lo hi : Int) (w : World) :
    Calls Try.prog 4 #[iv lo, iv hi] w fun e w' => e = .returned (.agg #[iv lo, iv hi]) ∧ Below w.heap.size w w' := by
  go_enter Try.func4, Try.ntmps4
  go_wp2_with fail
  exact bodyPost_ret (v := .agg #[iv lo, iv hi]) (by simp [results, Try.results4, go_sem]) rfl ⟨rfl, (by repeat (first | exact Below.refl _ _ | refine Below.drew ?_ | refine bpush ?_ _ | refine bput ?_ (by simp) _ | (refine bstep ?_ (by assumption))))⟩

theorem kWin : winO kMl kFl 2 2 = some 1 := by decide +kernel
def kTn : List Tn := [((200, 204), (0, 0))]
theorem kTnChk : fdChk ⟨kTn, [520], 0, 50⟩ = 0 := by decide +kernel
theorem kTnMap : kTn.map (lenS 50) = [(204, 210)] := by decide +kernel
theorem tn_new {w : World} {g cap : Nat} {a b c d : Int} {t : TypeId} (h : w.heap[g]? = some (.cells #[iv a, iv b, iv c, iv d] t (0, 0))) : SliceOf encN 4 w (.slice (some ⟨g, 0, none⟩) 1 cap) [((a, b), (c, d))] := by
  refine ⟨_, cap, rfl, by simp, fun i p hp => ⟨g, 0, rfl, fun j u hu => ?_⟩⟩
  rw [cell_of_row _ _ _ _ _ _ h]
  rcases i with _ | i
  · simp at hp; subst hp; rcases j with _ | _ | _ | _ | j <;> simp [encN] at hu ⊢ <;> exact hu
  · simp at hp
end Go.Proofs.Ytdalilllakdamaa
