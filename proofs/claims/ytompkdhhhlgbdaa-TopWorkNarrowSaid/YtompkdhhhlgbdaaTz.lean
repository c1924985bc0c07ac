/- TopWorkNarrow returns true for every raw cloth, every mill and stream made of bytes, and every byte; the input reads as it did. -/
import Derived.Test.YtompkdhhhlgbdaaRows
import Derived.Test.YtompkdhhhlgbdaaSz
import Derived.Test.YtompkdhhhlgbdaaTd
namespace Go.Proofs.Ytompkdhhhlgbdaa
open Go Go.ChangeShapes Go.WideShapes Go.ChangeAt Go.RowKit

set_option maxRecDepth 100000
theorem open_u8 {W : World} {base : Nat} {v : Value} (h : Value.okWide Try.prog W .any base 5 v) : ∃ n : Int, (0 ≤ n ∧ n ≤ 255) ∧ v = u8 n := by
  simp only [Value.okWide, Cell.okWide, Cell.ok, Try.underlying5] at h
  cases v <;> simp at h
  rename_i k n
  obtain ⟨rfl, hn⟩ := h
  refine ⟨n, ?_, rfl⟩
  simp [IntKind.has, IntKind.min, IntKind.max, IntKind.signed, IntKind.bits] at hn
  omega

set_option maxRecDepth 100000 in
theorem narrow_lifted (os : Os) (started : os.Started) (H : Type) (enc : TypeId × Value → H) :
    ReturnsInHanded {} Try.checked os 4 .any (Rows.topWorkNarrowSpec.pre6 enc Try.prog Try.f4 Rows.topWorkNarrowRow.domain false) (Rows.topWorkNarrowSpec.post enc Try.prog Try.f4 false true false false) := by
  refine returnsInHanded_of_change (C := Try.checked) Try.own started (by kernel_rfl) Try.func4
    (ChangeSpec.witness6 (enc := enc) (C := Try.checked) false ⟨#[], #[.agg #[u8 0, u8 0, u8 0, u8 0, u8 0, u8 0, u8 0, u8 0, u8 0, u8 0, u8 0, u8 0], .agg #[u8 0, u8 0, u8 0, u8 0, .slice none 0 0], u8 0], []⟩ 8 (by kernel_rfl) (by kernel_rfl) (by kernel_rfl) (by kernel_rfl)) ?_
  intro W base args ds gs before hval0 hW hcnd _
  have hval : ∀ (j : Nat) t v, Try.f4.params[j]? = some t → args[j]? = some v → Value.okWide Try.prog W .any base t v := hval0
  have hW' := hW
  obtain ⟨p, q, hA0, hV, rfl, hfz, hnd⟩ := hW
  have hA : DataW.TrodAll enc Try.prog W 0 (fun _ => true) true Try.f4.params.toList args.toList ds p := hA0
  rw [Try.params4] at hA hval
  obtain ⟨v0, v1, v2, d0, d1, d2, p0, p1, p2, rfl, rfl, rfl, h0, h1, h2⟩ := trodAll_three hA
  obtain ⟨rfl, rfl⟩ := trodVars_none hV
  obtain ⟨b, hb, rfl⟩ := open_yarn (hval 0 _ v0 rfl rfl)
  obtain ⟨m0, m1, m2, m3, fv, V, k0, k1, k2, k3, hVV, hF, rfl⟩ := open_beck (hval 1 _ v1 rfl rfl) h1
  obtain ⟨x0, hx0, rfl⟩ := open_u8 (hval 2 _ v2 rfl rfl)
  clear hA0 hval0
  simp only [List.append_nil, List.append_assoc] at hW'
  have hlt := hW'.lt
  refine (narrow_any b m0 m1 m2 m3 x0 fv V W hb k0 k1 k2 k3 hx0 hVV hF).mono fun e W' ⟨he, hB⟩ => ?_
  subst he
  refine ⟨_, rfl, _, _, _, [], p0 ++ (p1 ++ p2), [], hW', ?_, ?_, ?_, hB.frame _, fun h => by cases h⟩
  · exact trodAll_mk1 (shut_bool Try.underlying4 true)
  · exact trodAll_mk3 (Below.trod Try.laidOut (by kernel_rfl) (of_decide_eq_true (by kernel_rfl)) h0 hB (fun x hx => hlt x (by simp [hx])))
      (Below.trod Try.laidOut (by kernel_rfl) (of_decide_eq_true (by kernel_rfl)) h1 hB (fun x hx => hlt x (by simp [hx])))
      (Below.trod Try.laidOut (by kernel_rfl) (of_decide_eq_true (by kernel_rfl)) h2 hB (fun x hx => hlt x (by simp [hx])))
  · rfl

theorem narrow_holds : Rows.TopWorkNarrowSaid :=
  OpenClaim.holds_of_wide 4 Try.f4 rfl rfl rfl rfl rfl rfl rfl ⟨rfl, rfl, rfl, rfl, rfl⟩ rfl rfl rfl rfl rfl (by kernel_rfl) Try.func4 (by kernel_rfl)
    (of_decide_eq_true (by kernel_rfl)) (by unfold Func.isWrapper; rw [if_neg (of_decide_eq_false (by kernel_rfl))]; exact ⟨rfl, rfl⟩)
    (fun os started H enc _ => narrow_lifted os started H enc)

end Go.Proofs.Ytompkdhhhlgbdaa
