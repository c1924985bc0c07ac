/- TopWaterShares returns true for every two slices of bytes and every byte; the input reads as it did. -/
import Derived.Test.YtfpbfhjfhfmanacRows
import Derived.Test.YtfpbfhjfhfmanacSz
import Derived.Test.YtfpbfhjfhfmanacPe
namespace Go.Proofs.Ytfpbfhjfhfmanac
open Go Go.ChangeShapes Go.WideShapes Go.ChangeAt Go.RowKit

set_option maxRecDepth 100000
theorem cell_spotB {W : World} {b o s : Nat} {v : Value} (h : W.cell? (((⟨b, o, some s⟩ : Addr).add (0 * 1)).add 0) = some v) : False := by
  have e : (((⟨b, o, some s⟩ : Addr).add (0 * 1)).add 0) = ⟨b, o, some s⟩ := rfl
  rw [e] at h
  have := cell_none h
  simp at this
theorem open_bytes {H : Type} {enc : TypeId × Value → H} {W : World} {v : Value} {d : DataW H} {p : List MemPlace} {base : Nat} (hv : Value.okWide Try.prog W .any base 22 v) (ht : DataW.Trod enc Try.prog W 0 (fun _ => true) true 22 v d p) :
    ∃ L : List Int, (∀ x ∈ L, 0 ≤ x ∧ x ≤ 255) ∧ SliceU encB 1 W v L := by
  obtain ⟨fuel, hf⟩ := ht
  have key : ∀ (cs : List Value), DataW.trod enc Try.prog W 0 (fun _ => true) true fuel 22 cs = some (d, p) → ∀ c4, cs = [c4] → ∃ L : List Int, (∀ x ∈ L, 0 ≤ x ∧ x ≤ 255) ∧ SliceU encB 1 W c4 L := by
    intro cs t2 c4 e4
    subst e4
    rcases Go.Deep.open_slice Try.underlying22 t2 with ⟨hcs, -⟩ | ⟨a, len, cap, m, k, D, Pl, hcs, -, hl, hm, hmm, -, hx⟩
    · obtain rfl : c4 = .slice none 0 0 := by simpa using hcs
      exact ⟨[], by simp, none, 0, rfl, by simp, by simp⟩
    · obtain rfl : c4 = .slice (some a) len cap := by simpa using hcs
      have each : ∀ i, ∃ q : Int, (0 ≤ q ∧ q ≤ 255) ∧ (i < len → W.cell? ((a.add (i * 1)).add 0) = some (u8 q)) := by
        intro i
        by_cases hi : i < len
        · obtain ⟨cs', e1, e2⟩ := hx i (by rw [hmm]; simp; omega)
          rw [show Try.prog.cellsOf 5 = 1 by kernel_rfl] at e1
          obtain ⟨-, hlen, hcell⟩ := World.cells?_some e1
          match cs', hlen with
          | [x0], _ =>
            obtain ⟨n0, q0, -, w0⟩ := DataW.trod_int Try.underlying5 e2
            simp only [List.cons.injEq, and_true] at q0
            subst q0
            exact ⟨n0, bounds_u8 w0, fun _ => hcell 0 (by omega)⟩
        · exact ⟨0, by simp, fun h => absurd h hi⟩
      refine ⟨(List.range len).map fun i => (each i).choose, ?_, ?_⟩
      · intro p hp
        obtain ⟨i, -, rfl⟩ := List.mem_map.1 hp
        exact (each i).choose_spec.1
      · refine ⟨some a, cap, by simp, by simp; unfold maxLen at hm; omega, fun i x hix => ?_⟩
        have hi : i < len := by
          have := (List.getElem?_eq_some_iff.1 hix).1
          simpa using this
        have hxe : x = (each i).choose := by simpa [hi] using hix.symm
        have c0 := (each i).choose_spec.2 hi
        rw [← hxe] at c0
        obtain ⟨ab, ao, sp⟩ := a
        cases sp with
        | none =>
          refine ⟨ab, ao, rfl, fun j u hu => ?_⟩
          rw [add_plain, add_plain] at c0
          rcases j with _ | j
          · simp [encB] at hu; subst hu; exact c0
          · simp [encB] at hu
        | some s =>
          exact (cell_spotB ((each 0).choose_spec.2 (by omega))).elim
  have hne : v.cells = #[v] := by
    cases v <;> first | rfl | (simp [Value.okWide, Cell.okWide, Cell.ok, Try.underlying22] at hv)
  rw [hne] at hf
  exact key _ hf v rfl

theorem open_byte {W : World} {base : Nat} {v : Value} (h : Value.okWide Try.prog W .any base 5 v) : ∃ n : Int, (0 ≤ n ∧ n ≤ 255) ∧ v = u8 n := by
  simp only [Value.okWide, Cell.okWide, Cell.ok, Try.underlying5] at h
  cases v <;> simp at h
  rename_i k n
  obtain ⟨rfl, hn⟩ := h
  refine ⟨n, ?_, rfl⟩
  simp [IntKind.has, IntKind.min, IntKind.max, IntKind.signed, IntKind.bits] at hn
  omega

set_option maxRecDepth 100000 in
theorem wshares_lifted (os : Os) (started : os.Started) (H : Type) (enc : TypeId × Value → H) :
    ReturnsInHanded {} Try.checked os 3 .any (Rows.topWaterSharesSpec.pre6 enc Try.prog Try.f3 Rows.topWaterSharesRow.domain false) (Rows.topWaterSharesSpec.post enc Try.prog Try.f3 false true false false) := by
  refine returnsInHanded_of_change (C := Try.checked) Try.own started (by kernel_rfl) Try.func3
    (ChangeSpec.witness6 (enc := enc) (C := Try.checked) false ⟨#[], #[.slice none 0 0, .slice none 0 0, u8 0], []⟩ 8 (by kernel_rfl) (by kernel_rfl) (by kernel_rfl) (by kernel_rfl)) ?_
  intro W base args ds gs before hval0 hW hcnd _
  have hval : ∀ (j : Nat) t v, Try.f3.params[j]? = some t → args[j]? = some v → Value.okWide Try.prog W .any base t v := hval0
  have hW' := hW
  obtain ⟨p, q, hA0, hV, rfl, hfz, hnd⟩ := hW
  have hA : DataW.TrodAll enc Try.prog W 0 (fun _ => true) true Try.f3.params.toList args.toList ds p := hA0
  rw [Try.params3] at hA hval
  obtain ⟨v0, v1, v2, d0, d1, d2, p0, p1, p2, rfl, rfl, rfl, h0, h1, h2⟩ := trodAll_three hA
  obtain ⟨rfl, rfl⟩ := trodVars_none hV
  obtain ⟨V, hV1, hS1⟩ := open_bytes (hval 0 _ v0 rfl rfl) h0
  obtain ⟨H1, hV2, hS2⟩ := open_bytes (hval 1 _ v1 rfl rfl) h1
  obtain ⟨x0, hx0, rfl⟩ := open_byte (hval 2 _ v2 rfl rfl)
  obtain ⟨fa, fc, rfl, l1, -⟩ := id hS1
  obtain ⟨ha, hc, rfl, l2, -⟩ := id hS2
  clear hA0 hval0
  simp only [List.append_nil, List.append_assoc] at hW'
  have hlt := hW'.lt
  refine (wshares_any fa ha fc hc x0 V H1 W hV1 hV2 hx0 l1 l2 hS1 hS2).mono fun e W' ⟨he, hB⟩ => ?_
  subst he
  refine ⟨_, rfl, _, _, _, [], p0 ++ (p1 ++ p2), [], hW', ?_, ?_, ?_, hB.frame _, fun h => by cases h⟩
  · exact trodAll_mk1 (shut_bool Try.underlying4 true)
  · exact trodAll_mk3 (Below.trod Try.laidOut (by kernel_rfl) (of_decide_eq_true (by kernel_rfl)) h0 hB (fun x hx => hlt x (by simp [hx])))
      (Below.trod Try.laidOut (by kernel_rfl) (of_decide_eq_true (by kernel_rfl)) h1 hB (fun x hx => hlt x (by simp [hx])))
      (Below.trod Try.laidOut (by kernel_rfl) (of_decide_eq_true (by kernel_rfl)) h2 hB (fun x hx => hlt x (by simp [hx])))
  · rfl

theorem wshares_holds : Rows.TopWaterSharesSaid :=
  OpenClaim.holds_of_wide 3 Try.f3 rfl rfl rfl rfl rfl rfl rfl ⟨rfl, rfl, rfl, rfl, rfl⟩ rfl rfl rfl rfl rfl (by kernel_rfl) Try.func3 (by kernel_rfl)
    (of_decide_eq_true (by kernel_rfl)) (by unfold Func.isWrapper; rw [if_neg (of_decide_eq_false (by kernel_rfl))]; exact ⟨rfl, rfl⟩)
    (fun os started H enc _ => wshares_lifted os started H enc)

end Go.Proofs.Ytfpbfhjfhfmanac
