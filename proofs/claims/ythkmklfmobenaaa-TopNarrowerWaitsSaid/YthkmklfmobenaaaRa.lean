/- TopEnoughWater returns true for every raw cloth made of bytes and every three bytes; the input reads as it did. -/
import Derived.Test.YthkmklfmobenaaaRows
import Derived.Test.YthkmklfmobenaaaMc
import Derived.Test.YthkmklfmobenaaaQz
namespace Go.Proofs.Ythkmklfmobenaaa
open Go Go.ChangeShapes Go.WideShapes Go.ChangeAt Go.RowKit

set_option maxRecDepth 100000
theorem open_three {W : World} {base : Nat} {v : Value} (h : Value.okWide Try.prog W .any base 23 v) : ∃ v0 v1 v2 : Int, (0 ≤ v0 ∧ v0 ≤ 255) ∧ (0 ≤ v1 ∧ v1 ≤ 255) ∧ (0 ≤ v2 ∧ v2 ≤ 255) ∧ v = .agg #[u8 v0, u8 v1, u8 v2] := by
  simp only [Value.okWide, Try.underlying23] at h
  obtain ⟨cs, rfl, hsz, hr⟩ := h
  rw [show Try.prog.cellsOf 23 = 3 by kernel_rfl] at hsz
  obtain ⟨b, hb, hc⟩ := u8_row hr (ts := [5, 5, 5]) (by kernel_rfl) (u := 5) Try.underlying5
  refine ⟨b 0, b 1, b 2, hb 0, hb 1, hb 2, congrArg _ (Array.ext_getElem? fun i => ?_)⟩
  by_cases hi : i < 3
  · rw [hc i (by omega) ?_]
    · rcases i with _ | _ | _ | i <;> first | rfl | omega
    · rcases i with _ | _ | _ | i <;> first | rfl | omega
  · rw [Array.getElem?_eq_none (by omega), Array.getElem?_eq_none (by simp; omega)]

end Go.Proofs.Ythkmklfmobenaaa
