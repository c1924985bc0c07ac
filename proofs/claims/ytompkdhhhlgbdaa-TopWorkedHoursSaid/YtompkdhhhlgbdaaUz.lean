/- TopWorkedHours returns true for every raw cloth, every mill and stream made of bytes, and every slice of bytes; the input reads as it did. -/
import Derived.Test.YtompkdhhhlgbdaaRows
import Derived.Test.YtompkdhhhlgbdaaSz
import Derived.Test.YtompkdhhhlgbdaaUw
namespace Go.Proofs.Ytompkdhhhlgbdaa
open Go Go.ChangeShapes Go.WideShapes Go.ChangeAt Go.RowKit

set_option maxRecDepth 100000
theorem cell_spot1 {W : World} {b o s : Nat} {v : Value} (h : W.cell? (((⟨b, o, some s⟩ : Addr).add (0 * 1)).add 0) = some v) : False := by
  have e : (((⟨b, o, some s⟩ : Addr).add (0 * 1)).add 0) = ⟨b, o, some s⟩ := rfl
  rw [e] at h
  have := cell_none h
  simp at this
theorem open_hams {H : Type} {enc : TypeId × Value → H} {W : World} {v : Value} {d : DataW H} {p : List MemPlace} {base : Nat} (hv : Value.okWide Try.prog W .any base 62 v) (ht : DataW.Trod enc Try.prog W 0 (fun _ => true) true 62 v d p) :
    ∃ L : List Int, (∀ x ∈ L, 0 ≤ x ∧ x ≤ 255) ∧ SliceU enc1 1 W v L := by
  obtain ⟨fuel, hf⟩ := ht
  have key : ∀ (cs : List Value), DataW.trod enc Try.prog W 0 (fun _ => true) true fuel 62 cs = some (d, p) → ∀ c4, cs = [c4] → ∃ L : List Int, (∀ x ∈ L, 0 ≤ x ∧ x ≤ 255) ∧ SliceU enc1 1 W c4 L := by
    intro cs t2 c4 e4
    subst e4
    rcases Go.Deep.open_slice Try.underlying62 t2 with ⟨hcs, -⟩ | ⟨a, len, cap, m, k, D, Pl, hcs, -, hl, hm, hmm, -, hx⟩
    · obtain rfl : c4 = .slice none 0 0 := by simpa using hcs
      exact ⟨[], by simp, none, 0, rfl, by simp, by simp⟩
    · obtain rfl : c4 = .slice (some a) len cap := by simpa using hcs
      have each : ∀ i, ∃ q : Int, (0 ≤ q ∧ q ≤ 255) ∧ (i < len → W.cell? ((a.add (i * 1)).add 0) = some (u8 q)) := by
        intro i
        by_cases hi : i < len
        · obtain ⟨cs', e1, e2⟩ := hx i (by rw [hmm]; simp; omega)
          rw [show Try.prog.cellsOf 5 = 1 by kernel_rfl] at e1
          obtain ⟨-, hlen, hcell⟩ := World.cells?_some e1
          match cs', hlen with
          | [x0], _ =>
            obtain ⟨n0, q0, -, w0⟩ := DataW.trod_int Try.underlying5 e2
            simp only [List.cons.injEq, and_true] at q0
            subst q0
            exact ⟨n0, bounds_u8 w0, fun _ => hcell 0 (by omega)⟩
        · exact ⟨0, by simp, fun h => absurd h hi⟩
      refine ⟨(List.range len).map fun i => (each i).choose, ?_, ?_⟩
      · intro p hp
        obtain ⟨i, -, rfl⟩ := List.mem_map.1 hp
        exact (each i).choose_spec.1
      · refine ⟨some a, cap, by simp, by simp; unfold maxLen at hm; omega, fun i x hix => ?_⟩
        have hi : i < len := by
          have := (List.getElem?_eq_some_iff.1 hix).1
          simpa using this
        have hxe : x = (each i).choose := by simpa [hi] using hix.symm
        have c0 := (each i).choose_spec.2 hi
        rw [← hxe] at c0
        obtain ⟨ab, ao, sp⟩ := a
        cases sp with
        | none =>
          refine ⟨ab, ao, rfl, fun j u hu => ?_⟩
          rw [add_plain, add_plain] at c0
          rcases j with _ | j
          · simp [enc1] at hu; subst hu; exact c0
          · simp [enc1] at hu
        | some s =>
          exact (cell_spot1 ((each 0).choose_spec.2 (by omega))).elim
  have hne : v.cells = #[v] := by
    cases v <;> first | rfl | (simp [Value.okWide, Cell.okWide, Cell.ok, Try.underlying62] at hv)
  rw [hne] at hf
  exact key _ hf v rfl

set_option maxRecDepth 100000 in
theorem worked_lifted (os : Os) (started : os.Started) (H : Type) (enc : TypeId × Value → H) :
    ReturnsInHanded {} Try.checked os 5 .any (Rows.topWorkedHoursSpec.pre6 enc Try.prog Try.f5 Rows.topWorkedHoursRow.domain false) (Rows.topWorkedHoursSpec.post enc Try.prog Try.f5 false true false false) := by
  refine returnsInHanded_of_change (C := Try.checked) Try.own started (by kernel_rfl) Try.func5
    (ChangeSpec.witness6 (enc := enc) (C := Try.checked) false ⟨#[], #[.agg #[u8 0, u8 0, u8 0, u8 0, u8 0, u8 0, u8 0, u8 0, u8 0, u8 0, u8 0, u8 0], .agg #[u8 0, u8 0, u8 0, u8 0, .slice none 0 0], .slice none 0 0], []⟩ 8 (by kernel_rfl) (by kernel_rfl) (by kernel_rfl) (by kernel_rfl)) ?_
  intro W base args ds gs before hval0 hW hcnd _
  have hval : ∀ (j : Nat) t v, Try.f5.params[j]? = some t → args[j]? = some v → Value.okWide Try.prog W .any base t v := hval0
  have hW' := hW
  obtain ⟨p, q, hA0, hV, rfl, hfz, hnd⟩ := hW
  have hA : DataW.TrodAll enc Try.prog W 0 (fun _ => true) true Try.f5.params.toList args.toList ds p := hA0
  rw [Try.params5] at hA hval
  obtain ⟨v0, v1, v2, d0, d1, d2, p0, p1, p2, rfl, rfl, rfl, h0, h1, h2⟩ := trodAll_three hA
  obtain ⟨rfl, rfl⟩ := trodVars_none hV
  obtain ⟨b, hb, rfl⟩ := open_yarn (hval 0 _ v0 rfl rfl)
  obtain ⟨m0, m1, m2, m3, fv, V, k0, k1, k2, k3, hVV, hF, rfl⟩ := open_beck (hval 1 _ v1 rfl rfl) h1
  obtain ⟨hH0, hHH, hSH⟩ := open_hams (hval 2 _ v2 rfl rfl) h2
  clear hA0 hval0
  simp only [List.append_nil, List.append_assoc] at hW'
  have hlt := hW'.lt
  refine (worked_any b m0 m1 m2 m3 fv v2 V hH0 W hb k0 k1 k2 k3 hHH hVV hF hSH).mono fun e W' ⟨he, hB⟩ => ?_
  subst he
  refine ⟨_, rfl, _, _, _, [], p0 ++ (p1 ++ p2), [], hW', ?_, ?_, ?_, hB.frame _, fun h => by cases h⟩
  · exact trodAll_mk1 (shut_bool Try.underlying4 true)
  · exact trodAll_mk3 (Below.trod Try.laidOut (by kernel_rfl) (of_decide_eq_true (by kernel_rfl)) h0 hB (fun x hx => hlt x (by simp [hx])))
      (Below.trod Try.laidOut (by kernel_rfl) (of_decide_eq_true (by kernel_rfl)) h1 hB (fun x hx => hlt x (by simp [hx])))
      (Below.trod Try.laidOut (by kernel_rfl) (of_decide_eq_true (by kernel_rfl)) h2 hB (fun x hx => hlt x (by simp [hx])))
  · rfl

theorem worked_holds : Rows.TopWorkedHoursSaid :=
  OpenClaim.holds_of_wide 5 Try.f5 rfl rfl rfl rfl rfl rfl rfl ⟨rfl, rfl, rfl, rfl, rfl⟩ rfl rfl rfl rfl rfl (by kernel_rfl) Try.func5 (by kernel_rfl)
    (of_decide_eq_true (by kernel_rfl)) (by unfold Func.isWrapper; rw [if_neg (of_decide_eq_false (by kernel_rfl))]; exact ⟨rfl, rfl⟩)
    (fun os started H enc _ => worked_lifted os started H enc)

end Go.Proofs.Ytompkdhhhlgbdaa
