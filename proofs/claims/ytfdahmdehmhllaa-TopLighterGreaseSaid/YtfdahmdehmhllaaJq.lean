/- TopLighterGrease returns true for every raw cloth made of bytes, every store made of bytes and every three bytes; the input reads as it did. -/
import Derived.Test.YtfdahmdehmhllaaRows
import Derived.Test.YtfdahmdehmhllaaSz
import Derived.Test.YtfdahmdehmhllaaJp
namespace Go.Proofs.Ytfdahmdehmhllaa
open Go Go.ChangeShapes Go.WideShapes Go.ChangeAt Go.RowKit

set_option maxRecDepth 100000
theorem open_three {W : World} {base : Nat} {v : Value} (h : Value.okWide Try.prog W .any base 29 v) : ∃ v0 v1 v2 : Int, (0 ≤ v0 ∧ v0 ≤ 255) ∧ (0 ≤ v1 ∧ v1 ≤ 255) ∧ (0 ≤ v2 ∧ v2 ≤ 255) ∧ v = .agg #[u8 v0, u8 v1, u8 v2] := by
  simp only [Value.okWide, Try.underlying29] at h
  obtain ⟨cs, rfl, hsz, hr⟩ := h
  rw [show Try.prog.cellsOf 29 = 3 by kernel_rfl] at hsz
  obtain ⟨b, hb, hc⟩ := u8_row hr (ts := [5, 5, 5]) (by kernel_rfl) (u := 5) Try.underlying5
  refine ⟨b 0, b 1, b 2, hb 0, hb 1, hb 2, congrArg _ (Array.ext_getElem? fun i => ?_)⟩
  by_cases hi : i < 3
  · rw [hc i (by omega) ?_]
    · rcases i with _ | _ | _ | i <;> first | rfl | omega
    · rcases i with _ | _ | _ | i <;> first | rfl | omega
  · rw [Array.getElem?_eq_none (by omega), Array.getElem?_eq_none (by simp; omega)]
/-- A list of fours of bytes, of any length. -/
theorem open_quads {H : Type} {enc : TypeId × Value → H} {W : World} {n : Nat} {c4 : Value} {y : DataW H × List MemPlace} (t2 : DataW.trod enc Try.prog W 0 (fun _ => true) true n 26 [c4] = some y) :
    ∃ V : List Q4, (∀ q ∈ V, q4B q) ∧ SliceU enc4 4 W c4 V := by
  rcases Go.Deep.open_slice Try.underlying26 t2 with ⟨hcs, -⟩ | ⟨a, len, cap, m, k, D, Pl, hcs, -, hl, hm, hmm, -, hx⟩
  · obtain rfl : c4 = .slice none 0 0 := by simpa using hcs
    exact ⟨[], by simp, none, 0, rfl, by simp, by simp⟩
  · obtain rfl : c4 = .slice (some a) len cap := by simpa using hcs
    have each : ∀ i, ∃ q : Q4, q4B q ∧ (i < len → W.cell? ((a.add (i * 4)).add 0) = some (u8 q.a) ∧ W.cell? ((a.add (i * 4)).add 1) = some (u8 q.b) ∧ W.cell? ((a.add (i * 4)).add 2) = some (u8 q.c) ∧ W.cell? ((a.add (i * 4)).add 3) = some (u8 q.d)) := by
      intro i
      by_cases hi : i < len
      · obtain ⟨cs', e1, e2⟩ := hx i (by rw [hmm]; simp; omega)
        rw [show Try.prog.cellsOf 22 = 4 by kernel_rfl] at e1
        obtain ⟨-, hlen, hcell⟩ := World.cells?_some e1
        obtain ⟨xs, m', -, -, -, hxl, hg⟩ := DataW.trod_array Try.underlying22 e2
        match cs', hlen, xs, hxl with
        | [x0, x1, x2, x3], _, [z0, z1, z2, z3], _ =>
          have g0 := hg 0 (by omega)
          have g1 := hg 1 (by omega)
          have g2 := hg 2 (by omega)
          have g3 := hg 3 (by omega)
          rw [show Try.prog.cellsOf 5 = 1 by kernel_rfl] at g0 g1 g2 g3
          obtain ⟨n0, q0, -, w0⟩ := DataW.trod_int Try.underlying5 (show DataW.trod enc Try.prog W 0 (fun _ => true) true m' 5 [x0] = some z0 from g0)
          obtain ⟨n1, q1, -, w1⟩ := DataW.trod_int Try.underlying5 (show DataW.trod enc Try.prog W 0 (fun _ => true) true m' 5 [x1] = some z1 from g1)
          obtain ⟨n2, q2, -, w2⟩ := DataW.trod_int Try.underlying5 (show DataW.trod enc Try.prog W 0 (fun _ => true) true m' 5 [x2] = some z2 from g2)
          obtain ⟨n3, q3, -, w3⟩ := DataW.trod_int Try.underlying5 (show DataW.trod enc Try.prog W 0 (fun _ => true) true m' 5 [x3] = some z3 from g3)
          simp only [List.cons.injEq, and_true] at q0 q1 q2 q3
          subst q0 q1 q2 q3
          exact ⟨⟨n0, n1, n2, n3⟩, ⟨bounds_u8 w0, bounds_u8 w1, bounds_u8 w2, bounds_u8 w3⟩, fun _ => ⟨hcell 0 (by omega), hcell 1 (by omega), hcell 2 (by omega), hcell 3 (by omega)⟩⟩
      · exact ⟨⟨0, 0, 0, 0⟩, by unfold q4B; simp, fun h => absurd h hi⟩
    refine ⟨(List.range len).map fun i => (each i).choose, ?_, ?_⟩
    · intro p hp
      obtain ⟨i, -, rfl⟩ := List.mem_map.1 hp
      exact (each i).choose_spec.1
    · refine ⟨some a, cap, by simp, by simp; unfold maxLen at hm; omega, fun i x hix => ?_⟩
      have hi : i < len := by
        have := (List.getElem?_eq_some_iff.1 hix).1
        simpa using this
      have hxe : x = (each i).choose := by simpa [hi] using hix.symm
      obtain ⟨c0, c1, c2, c3⟩ := (each i).choose_spec.2 hi
      rw [← hxe] at c0 c1 c2 c3
      obtain ⟨ab, ao, sp⟩ := a
      cases sp with
      | none =>
        refine ⟨ab, ao, rfl, fun j u hu => ?_⟩
        rw [add_plain, add_plain] at c0 c1 c2 c3
        rcases j with _ | _ | _ | _ | j
        · simp [enc4] at hu; subst hu; exact c0
        · simp [enc4] at hu; subst hu; exact c1
        · simp [enc4] at hu; subst hu; exact c2
        · simp [enc4] at hu; subst hu; exact c3
        · simp [enc4] at hu
      | some s =>
        exact (cell_spot ((each 0).choose_spec.2 (by omega)).1).elim
theorem open_shop {H : Type} {enc : TypeId × Value → H} {W : World} {base : Nat} {v : Value} {d : DataW H} {p : List MemPlace} (h : Value.okWide Try.prog W .any base 28 v) (ht : DataW.Trod enc Try.prog W 0 (fun _ => true) true 28 v d p) :
    ∃ (fv : Value) (V : List Q4), (∀ q ∈ V, q4B q) ∧ SliceU enc4 4 W fv V ∧ v = .agg #[fv] := by
  simp only [Value.okWide, Try.underlying28] at h
  obtain ⟨cs, rfl, hsz, -⟩ := h
  rw [show Try.prog.cellsOf 28 = 1 by kernel_rfl] at hsz
  obtain ⟨c0, h0⟩ : ∃ c0, cs[0]? = some c0 := ⟨cs[0]'(by omega), Array.getElem?_eq_getElem _⟩
  obtain rfl : cs = #[c0] := by
    refine Array.ext_getElem? fun i => ?_
    by_cases hi : i = 0
    · subst hi; rw [h0]; rfl
    · rw [Array.getElem?_eq_none (by omega), Array.getElem?_eq_none (by simp; omega)]
  clear h0 hsz
  obtain ⟨fuel, hf⟩ := ht
  obtain ⟨y0, n, -, -, t1⟩ := trod_struct1 Try.underlying28 hf
  obtain ⟨V, hV, hS⟩ := open_quads (show DataW.trod enc Try.prog W 0 (fun _ => true) true n 26 [c0] = some y0 from t1)
  exact ⟨c0, V, hV, hS, rfl⟩

set_option maxRecDepth 100000 in
theorem lighter_lifted (os : Os) (started : os.Started) (H : Type) (enc : TypeId × Value → H) :
    ReturnsInHanded {} Try.checked os 3 .any (Rows.topLighterGreaseSpec.pre6 enc Try.prog Try.f3 Rows.topLighterGreaseRow.domain false) (Rows.topLighterGreaseSpec.post enc Try.prog Try.f3 false true false false) := by
  refine returnsInHanded_of_change (C := Try.checked) Try.own started (by kernel_rfl) Try.func3
    (ChangeSpec.witness6 (enc := enc) (C := Try.checked) false ⟨#[], #[.agg #[u8 0, u8 0, u8 0, u8 0, u8 0, u8 0, u8 0, u8 0, u8 0, u8 0, u8 0, u8 0], .agg #[.slice none 0 0], .agg #[u8 0, u8 0, u8 0]], []⟩ 8 (by kernel_rfl) (by kernel_rfl) (by kernel_rfl) (by kernel_rfl)) ?_
  intro W base args ds gs before hval0 hW hcnd _
  have hval : ∀ (j : Nat) t v, Try.f3.params[j]? = some t → args[j]? = some v → Value.okWide Try.prog W .any base t v := hval0
  have hW' := hW
  obtain ⟨p, q, hA0, hV, rfl, hfz, hnd⟩ := hW
  have hA : DataW.TrodAll enc Try.prog W 0 (fun _ => true) true Try.f3.params.toList args.toList ds p := hA0
  rw [Try.params3] at hA hval
  obtain ⟨v0, v1, v2, d0, d1, d2, p0, p1, p2, rfl, rfl, rfl, h0, h1, h2⟩ := trodAll_three hA
  obtain ⟨rfl, rfl⟩ := trodVars_none hV
  obtain ⟨b, hb, rfl⟩ := open_yarn (hval 0 _ v0 rfl rfl)
  obtain ⟨gv, U, hUU, hG, rfl⟩ := open_shop (hval 1 _ v1 rfl rfl) h1
  obtain ⟨x0, x1, x2, hx0, hx1, hx2, rfl⟩ := open_three (hval 2 _ v2 rfl rfl)
  clear hA0 hval0
  simp only [List.append_nil, List.append_assoc] at hW'
  have hlt := hW'.lt
  refine (lighter_any b U gv x0 x1 x2 W hb hUU hG hx0 hx1 hx2).mono fun e W' ⟨he, hB⟩ => ?_
  subst he
  refine ⟨_, rfl, _, _, _, [], p0 ++ (p1 ++ p2), [], hW', ?_, ?_, ?_, hB.frame _, fun h => by cases h⟩
  · exact trodAll_mk1 (shut_bool Try.underlying4 true)
  · exact trodAll_mk3 (Below.trod Try.laidOut (by kernel_rfl) (of_decide_eq_true (by kernel_rfl)) h0 hB (fun x hx => hlt x (by simp [hx])))
      (Below.trod Try.laidOut (by kernel_rfl) (of_decide_eq_true (by kernel_rfl)) h1 hB (fun x hx => hlt x (by simp [hx])))
      (Below.trod Try.laidOut (by kernel_rfl) (of_decide_eq_true (by kernel_rfl)) h2 hB (fun x hx => hlt x (by simp [hx])))
  · rfl

theorem lighter_holds : Rows.TopLighterGreaseSaid :=
  OpenClaim.holds_of_wide 3 Try.f3 rfl rfl rfl rfl rfl rfl rfl ⟨rfl, rfl, rfl, rfl, rfl⟩ rfl rfl rfl rfl rfl (by kernel_rfl) Try.func3 (by kernel_rfl)
    (of_decide_eq_true (by kernel_rfl)) (by unfold Func.isWrapper; rw [if_neg (of_decide_eq_false (by kernel_rfl))]; exact ⟨rfl, rfl⟩)
    (fun os started H enc _ => lighter_lifted os started H enc)
end Go.Proofs.Ytfdahmdehmhllaa
