/- TopWetLength: a cloth that was fulled for some hours is as long as At says; hung at a length of Hangs it is neither slack nor stretched by more than the statute permits, whatever it truly is; stretched farther than the longest one it possibly is stretched too much. For all bytes. -/
import Derived.Test.YtdhkgpfcanekkaaRows
import Derived.Test.YtdhkgpfcanekkaaMc
import Derived.Test.YtdhkgpfcanekkaaOd
namespace Go.Proofs.Ytdhkgpfcanekkaa
open Go Go.ChangeShapes Go.WideShapes Go.ChangeAt Go.RowKit

set_option maxRecDepth 100000

theorem open_boltO {W : World} {base : Nat} {v : Value} (h : Value.okWide Try.prog W .any base 25 v) : ∃ b : Nat → Int, (∀ i, 0 ≤ b i ∧ b i ≤ 255) ∧ v = .agg (fyCells b) := by
  simp only [Value.okWide, Try.underlying25] at h
  obtain ⟨cs, rfl, hsz, hr⟩ := h
  rw [show Try.prog.cellsOf 25 = 12 by kernel_rfl] at hsz
  obtain ⟨b, hb, hc⟩ := u8_row hr (ts := [5, 5, 5, 5, 5, 5, 5, 5, 5, 5, 5, 5]) (by kernel_rfl) (u := 5) Try.underlying5
  refine ⟨b, hb, congrArg _ (Array.ext_getElem? fun i => ?_)⟩
  by_cases hi : i < 12
  · rw [hc i (by omega) ?_]
    · rcases i with _ | _ | _ | _ | _ | _ | _ | _ | _ | _ | _ | _ | i <;> first | rfl | omega
    · rcases i with _ | _ | _ | _ | _ | _ | _ | _ | _ | _ | _ | _ | i <;> first | rfl | omega
  · rw [Array.getElem?_eq_none (by omega), Array.getElem?_eq_none (by simp [fyCells]; omega)]
theorem open_fourO {W : World} {base : Nat} {v : Value} (h : Value.okWide Try.prog W .any base 22 v) : ∃ v0 v1 v2 v3 : Int, (0 ≤ v0 ∧ v0 ≤ 255) ∧ (0 ≤ v1 ∧ v1 ≤ 255) ∧ (0 ≤ v2 ∧ v2 ≤ 255) ∧ (0 ≤ v3 ∧ v3 ≤ 255) ∧ v = .agg #[u8 v0, u8 v1, u8 v2, u8 v3] := by
  simp only [Value.okWide, Try.underlying22] at h
  obtain ⟨cs, rfl, hsz, hr⟩ := h
  rw [show Try.prog.cellsOf 22 = 4 by kernel_rfl] at hsz
  obtain ⟨b, hb, hc⟩ := u8_row hr (ts := [5, 5, 5, 5]) (by kernel_rfl) (u := 5) Try.underlying5
  refine ⟨b 0, b 1, b 2, b 3, hb 0, hb 1, hb 2, hb 3, congrArg _ (Array.ext_getElem? fun i => ?_)⟩
  by_cases hi : i < 4
  · rw [hc i (by omega) ?_]
    · rcases i with _ | _ | _ | _ | i <;> first | rfl | omega
    · rcases i with _ | _ | _ | _ | i <;> first | rfl | omega
  · rw [Array.getElem?_eq_none (by omega), Array.getElem?_eq_none (by simp; omega)]
theorem open_u8O {W : World} {base : Nat} {v : Value} (h : Value.okWide Try.prog W .any base 5 v) : ∃ n : Int, (0 ≤ n ∧ n ≤ 255) ∧ v = u8 n := by
  simp only [Value.okWide, Cell.okWide, Cell.ok, Try.underlying5] at h
  cases v <;> simp at h
  rename_i k n
  obtain ⟨rfl, hn⟩ := h
  refine ⟨n, ?_, rfl⟩
  simp [IntKind.has, IntKind.min, IntKind.max, IntKind.signed, IntKind.bits] at hn
  omega

set_option maxRecDepth 100000 in
theorem wet_lifted (os : Os) (started : os.Started) (H : Type) (enc : TypeId × Value → H) :
    ReturnsInHanded {} Try.checked os 3 .any (Rows.topWetLengthSpec.pre6 enc Try.prog Try.f3 Rows.topWetLengthRow.domain false) (Rows.topWetLengthSpec.post enc Try.prog Try.f3 false true false false) := by
  refine returnsInHanded_of_change (C := Try.checked) Try.own started (by kernel_rfl) Try.func3
    (ChangeSpec.witness6 (enc := enc) (C := Try.checked) false ⟨#[], #[.agg #[u8 0, u8 0, u8 0, u8 0, u8 0, u8 0, u8 0, u8 0, u8 0, u8 0, u8 0, u8 0], u8 0, .agg #[u8 0, u8 0, u8 0, u8 0]], []⟩ 8 (by kernel_rfl) (by kernel_rfl) (by kernel_rfl) (by kernel_rfl)) ?_
  intro W base args ds gs before hval0 hW hcnd _
  have hval : ∀ (j : Nat) t v, Try.f3.params[j]? = some t → args[j]? = some v → Value.okWide Try.prog W .any base t v := hval0
  have hW' := hW
  obtain ⟨p, q, hA0, hV, rfl, hfz, hnd⟩ := hW
  have hA : DataW.TrodAll enc Try.prog W 0 (fun _ => true) true Try.f3.params.toList args.toList ds p := hA0
  rw [Try.params3] at hA hval
  obtain ⟨v0, v1, v2, d0, d1, d2, p0, p1, p2, rfl, rfl, rfl, h0, h1, h2⟩ := trodAll_three hA
  obtain ⟨rfl, rfl⟩ := trodVars_none hV
  obtain ⟨a, ha, rfl⟩ := open_boltO (hval 0 _ v0 rfl rfl)
  obtain ⟨x0, hx0, rfl⟩ := open_u8O (hval 1 _ v1 rfl rfl)
  obtain ⟨n0, n1, n2, n3, hn0, hn1, hn2, hn3, rfl⟩ := open_fourO (hval 2 _ v2 rfl rfl)
  clear hA0 hval0
  simp only [List.append_nil, List.append_assoc] at hW'
  have hlt := hW'.lt
  refine (wet_walk a x0 n0 n1 n2 n3 W ha hx0 hn0 hn1 hn2 hn3).mono fun e W' ⟨he, hB⟩ => ?_
  subst he
  refine ⟨_, rfl, _, _, _, [], p0 ++ (p1 ++ p2), [], hW', ?_, ?_, ?_, hB.frame _, fun h => by cases h⟩
  · exact trodAll_mk1 (shut_bool Try.underlying4 true)
  · exact trodAll_mk3 (Below.trod Try.laidOut (by kernel_rfl) (of_decide_eq_true (by kernel_rfl)) h0 hB (fun x hx => hlt x (by simp [hx])))
      (Below.trod Try.laidOut (by kernel_rfl) (of_decide_eq_true (by kernel_rfl)) h1 hB (fun x hx => hlt x (by simp [hx])))
      (Below.trod Try.laidOut (by kernel_rfl) (of_decide_eq_true (by kernel_rfl)) h2 hB (fun x hx => hlt x (by simp [hx])))
  · rfl

theorem wet_holds : Rows.TopWetLengthSaid :=
  OpenClaim.holds_of_wide 3 Try.f3 rfl rfl rfl rfl rfl rfl rfl ⟨rfl, rfl, rfl, rfl, rfl⟩ rfl rfl rfl rfl rfl (by kernel_rfl) Try.func3 (by kernel_rfl)
    (of_decide_eq_true (by kernel_rfl)) (by unfold Func.isWrapper; rw [if_neg (of_decide_eq_false (by kernel_rfl))]; exact ⟨rfl, rfl⟩)
    (fun os started H enc _ => wet_lifted os started H enc)

end Go.Proofs.Ytdhkgpfcanekkaa
