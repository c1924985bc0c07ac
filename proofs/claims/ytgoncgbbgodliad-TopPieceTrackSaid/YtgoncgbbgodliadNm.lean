/- TopPieceTrack: a piece that was cut, and washed some times, is found as long as a cloth of its length and rate is after as many hours; the least length that Least names becomes so long, and an inch less does not. For all lengths and bytes. -/
import Derived.Test.YtgoncgbbgodliadRows
import Derived.Test.YtgoncgbbgodliadMc
import Derived.Test.YtgoncgbbgodliadNl
namespace Go.Proofs.Ytgoncgbbgodliad
open Go Go.ChangeShapes Go.WideShapes Go.ChangeAt Go.RowKit

set_option maxRecDepth 100000
theorem open_u16p {W : World} {base : Nat} {v : Value} (h : Value.okWide Try.prog W .any base 22 v) : ∃ n : Int, (0 ≤ n ∧ n ≤ 65535) ∧ v = u16v n := by
  simp only [Value.okWide, Cell.okWide, Cell.ok, Try.underlying22] at h
  cases v <;> simp at h
  rename_i k n
  obtain ⟨rfl, hn⟩ := h
  refine ⟨n, ?_, rfl⟩
  simp [IntKind.has, IntKind.min, IntKind.max, IntKind.signed, IntKind.bits] at hn
  omega

theorem open_threep {W : World} {base : Nat} {v : Value} (h : Value.okWide Try.prog W .any base 23 v) : ∃ v0 v1 v2 : Int, (0 ≤ v0 ∧ v0 ≤ 255) ∧ (0 ≤ v1 ∧ v1 ≤ 255) ∧ (0 ≤ v2 ∧ v2 ≤ 255) ∧ v = .agg #[u8 v0, u8 v1, u8 v2] := by
  simp only [Value.okWide, Try.underlying23] at h
  obtain ⟨cs, rfl, hsz, hr⟩ := h
  rw [show Try.prog.cellsOf 23 = 3 by kernel_rfl] at hsz
  obtain ⟨b, hb, hc⟩ := u8_row hr (ts := [5, 5, 5]) (by kernel_rfl) (u := 5) Try.underlying5
  refine ⟨b 0, b 1, b 2, hb 0, hb 1, hb 2, congrArg _ (Array.ext_getElem? fun i => ?_)⟩
  by_cases hi : i < 3
  · rw [hc i (by omega) ?_]
    · rcases i with _ | _ | _ | i <;> first | rfl | omega
    · rcases i with _ | _ | _ | i <;> first | rfl | omega
  · rw [Array.getElem?_eq_none (by omega), Array.getElem?_eq_none (by simp; omega)]
set_option maxRecDepth 100000 in
theorem piece_lifted (os : Os) (started : os.Started) (H : Type) (enc : TypeId × Value → H) :
    ReturnsInHanded {} Try.checked os 3 .any (Rows.topPieceTrackSpec.pre6 enc Try.prog Try.f3 Rows.topPieceTrackRow.domain false) (Rows.topPieceTrackSpec.post enc Try.prog Try.f3 false true false false) := by
  refine returnsInHanded_of_change (C := Try.checked) Try.own started (by kernel_rfl) Try.func3
    (ChangeSpec.witness6 (enc := enc) (C := Try.checked) false ⟨#[], #[u16v 0, .agg #[u8 0, u8 0, u8 0]], []⟩ 8 (by kernel_rfl) (by kernel_rfl) (by kernel_rfl) (by kernel_rfl)) ?_
  intro W base args ds gs before hval0 hW hcnd _
  have hval : ∀ (j : Nat) t v, Try.f3.params[j]? = some t → args[j]? = some v → Value.okWide Try.prog W .any base t v := hval0
  have hW' := hW
  obtain ⟨p, q, hA0, hV, rfl, hfz, hnd⟩ := hW
  have hA : DataW.TrodAll enc Try.prog W 0 (fun _ => true) true Try.f3.params.toList args.toList ds p := hA0
  rw [Try.params3] at hA hval
  obtain ⟨v0, v1, d0, d1, p0, p1, rfl, rfl, rfl, h0, h1⟩ := trodAll_two hA
  obtain ⟨rfl, rfl⟩ := trodVars_none hV
  obtain ⟨lg, hlg, rfl⟩ := open_u16p (hval 0 _ v0 rfl rfl)
  obtain ⟨x0, x1, x2, hx0, hx1, hx2, rfl⟩ := open_threep (hval 1 _ v1 rfl rfl)
  clear hA0 hval0
  simp only [List.append_nil] at hW'
  have hlt := hW'.lt
  refine (piece_walk lg x0 x1 x2 W hlg hx0 hx1 hx2).mono fun e W' ⟨he, hB⟩ => ?_
  subst he
  refine ⟨_, rfl, _, _, _, [], p0 ++ p1, [], hW', ?_, ?_, ?_, hB.frame _, fun h => by cases h⟩
  · exact trodAll_mk1 (shut_bool Try.underlying4 true)
  · exact trodAll_mk2 (Below.trod Try.laidOut (by kernel_rfl) (of_decide_eq_true (by kernel_rfl)) h0 hB (fun x hx => hlt x (by simp [hx])))
      (Below.trod Try.laidOut (by kernel_rfl) (of_decide_eq_true (by kernel_rfl)) h1 hB (fun x hx => hlt x (by simp [hx])))
  · rfl

theorem piece_holds : Rows.TopPieceTrackSaid :=
  OpenClaim.holds_of_wide 3 Try.f3 rfl rfl rfl rfl rfl rfl rfl ⟨rfl, rfl, rfl, rfl, rfl⟩ rfl rfl rfl rfl rfl (by kernel_rfl) Try.func3 (by kernel_rfl)
    (of_decide_eq_true (by kernel_rfl)) (by unfold Func.isWrapper; rw [if_neg (of_decide_eq_false (by kernel_rfl))]; exact ⟨rfl, rfl⟩)
    (fun os started H enc _ => piece_lifted os started H enc)

end Go.Proofs.Ytgoncgbbgodliad
