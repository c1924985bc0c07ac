/- TopNarrowerWaits returns true for every list of raw cloths made of bytes, and every three bytes; the input reads as it did. -/
import Derived.Test.YthkmklfmobenaaaRows
import Derived.Test.YthkmklfmobenaaaRa
import Derived.Test.YthkmklfmobenaaaRf
namespace Go.Proofs.Ythkmklfmobenaaa
open Go Go.ChangeShapes Go.WideShapes Go.ChangeAt Go.RowKit

set_option maxRecDepth 100000
theorem trod_u8x4 {H : Type} {enc : TypeId × Value → H} {W : World} {m : Nat} {x0 x1 x2 x3 : Value} {y : DataW H × List MemPlace} (h : DataW.trod enc Try.prog W 0 (fun _ => true) true m 33 [x0, x1, x2, x3] = some y) :
    ∃ n0 n1 n2 n3 : Int, ((0 ≤ n0 ∧ n0 ≤ 255) ∧ (0 ≤ n1 ∧ n1 ≤ 255) ∧ (0 ≤ n2 ∧ n2 ≤ 255) ∧ (0 ≤ n3 ∧ n3 ≤ 255)) ∧ x0 = u8 n0 ∧ x1 = u8 n1 ∧ x2 = u8 n2 ∧ x3 = u8 n3 := by
  obtain ⟨xs, m', -, -, -, hxl, hg⟩ := DataW.trod_array Try.underlying33 h
  match xs, hxl with
  | [z0, z1, z2, z3], _ =>
    have g0 := hg 0 (by omega)
    have g1 := hg 1 (by omega)
    have g2 := hg 2 (by omega)
    have g3 := hg 3 (by omega)
    rw [show Try.prog.cellsOf 5 = 1 by kernel_rfl] at g0 g1 g2 g3
    obtain ⟨n0, q0, -, w0⟩ := DataW.trod_int Try.underlying5 (show DataW.trod enc Try.prog W 0 (fun _ => true) true m' 5 [x0] = some z0 from g0)
    obtain ⟨n1, q1, -, w1⟩ := DataW.trod_int Try.underlying5 (show DataW.trod enc Try.prog W 0 (fun _ => true) true m' 5 [x1] = some z1 from g1)
    obtain ⟨n2, q2, -, w2⟩ := DataW.trod_int Try.underlying5 (show DataW.trod enc Try.prog W 0 (fun _ => true) true m' 5 [x2] = some z2 from g2)
    obtain ⟨n3, q3, -, w3⟩ := DataW.trod_int Try.underlying5 (show DataW.trod enc Try.prog W 0 (fun _ => true) true m' 5 [x3] = some z3 from g3)
    simp only [List.cons.injEq, and_true] at q0 q1 q2 q3
    exact ⟨n0, n1, n2, n3, ⟨bounds_u8 w0, bounds_u8 w1, bounds_u8 w2, bounds_u8 w3⟩, q0, q1, q2, q3⟩
/-- The cells of one raw cloth. -/
theorem trod_yarn {H : Type} {enc : TypeId × Value → H} {W : World} {m : Nat} {cs : List Value} {y : DataW H × List MemPlace} (hl : cs.length = 12) (h : DataW.trod enc Try.prog W 0 (fun _ => true) true m 36 cs = some y) :
    ∃ b : Nat → Int, (∀ i, 0 ≤ b i ∧ b i ≤ 255) ∧ cs = encY b := by
  match cs, hl with
  | [x0, x1, x2, x3, x4, x5, x6, x7, x8, x9, x10, x11], _ =>
    obtain ⟨y0, n, -, -, t1⟩ := trod_struct1 Try.underlying36 h
    have t2 : DataW.trod enc Try.prog W 0 (fun _ => true) true n 34 [x0, x1, x2, x3, x4, x5, x6, x7, x8, x9, x10, x11] = some y0 := t1
    obtain ⟨xs, m', -, -, -, hxl, hg⟩ := DataW.trod_array Try.underlying34 t2
    match xs, hxl with
    | [z0, z1, z2], _ =>
      have g0 := hg 0 (by omega)
      have g1 := hg 1 (by omega)
      have g2 := hg 2 (by omega)
      rw [show Try.prog.cellsOf 33 = 4 by kernel_rfl] at g0 g1 g2
      obtain ⟨n0, n1, n2, n3, ⟨h0, h1, h2, h3⟩, e0, e1, e2, e3⟩ := trod_u8x4 (show DataW.trod enc Try.prog W 0 (fun _ => true) true m' 33 [x0, x1, x2, x3] = some z0 from g0)
      obtain ⟨n4, n5, n6, n7, ⟨h4, h5, h6, h7⟩, e4, e5, e6, e7⟩ := trod_u8x4 (show DataW.trod enc Try.prog W 0 (fun _ => true) true m' 33 [x4, x5, x6, x7] = some z1 from g1)
      obtain ⟨n8, n9, n10, n11, ⟨h8, h9, h10, h11⟩, e8, e9, e10, e11⟩ := trod_u8x4 (show DataW.trod enc Try.prog W 0 (fun _ => true) true m' 33 [x8, x9, x10, x11] = some z2 from g2)
      subst e0 e1 e2 e3 e4 e5 e6 e7 e8 e9 e10 e11
      refine ⟨fun i => [n0, n1, n2, n3, n4, n5, n6, n7, n8, n9, n10, n11].getD i 0, fun i => ?_, rfl⟩
      rcases i with _ | _ | _ | _ | _ | _ | _ | _ | _ | _ | _ | _ | i <;> first | assumption | (simp)
theorem encY_len (b : Nat → Int) : (encY b).length = 12 := rfl
theorem open_yarns {H : Type} {enc : TypeId × Value → H} {W : World} {v : Value} {d : DataW H} {p : List MemPlace} {base : Nat} (hv : Value.okWide Try.prog W .any base 22 v) (ht : DataW.Trod enc Try.prog W 0 (fun _ => true) true 22 v d p) :
    ∃ (la : Option Addr) (lc : Nat) (Y : List (Nat → Int)), v = .slice la Y.length lc ∧ (∀ b ∈ Y, ∀ i, 0 ≤ b i ∧ b i ≤ 255) ∧ Y.length ≤ 9223372036854775807 ∧ SliceU encY 12 W (.slice la Y.length lc) Y := by
  obtain ⟨fuel, hf⟩ := ht
  have key : ∀ (cs : List Value), DataW.trod enc Try.prog W 0 (fun _ => true) true fuel 22 cs = some (d, p) → ∀ c4, cs = [c4] →
      ∃ (la : Option Addr) (lc : Nat) (Y : List (Nat → Int)), c4 = .slice la Y.length lc ∧ (∀ b ∈ Y, ∀ i, 0 ≤ b i ∧ b i ≤ 255) ∧ Y.length ≤ 9223372036854775807 ∧ SliceU encY 12 W (.slice la Y.length lc) Y := by
    intro cs t2 c4 e4
    subst e4
    rcases Go.Deep.open_slice Try.underlying22 t2 with ⟨hcs, -⟩ | ⟨a, len, cap, m, k, D, Pl, hcs, -, hl, hm, hmm, -, hx⟩
    · obtain rfl : c4 = .slice none 0 0 := by simpa using hcs
      exact ⟨none, 0, [], rfl, by simp, by simp, none, 0, rfl, by simp, by simp⟩
    · obtain rfl : c4 = .slice (some a) len cap := by simpa using hcs
      have each : ∀ i, ∃ b : Nat → Int, (∀ i, 0 ≤ b i ∧ b i ≤ 255) ∧ (i < len → ∀ j u, (encY b)[j]? = some u → W.cell? ((a.add (i * 12)).add j) = some u) := by
        intro i
        by_cases hi : i < len
        · obtain ⟨cs', e1, e2⟩ := hx i (by rw [hmm]; simp; omega)
          rw [show Try.prog.cellsOf 36 = 12 by kernel_rfl] at e1
          obtain ⟨-, hlen, hcell⟩ := World.cells?_some e1
          obtain ⟨b, hb, rfl⟩ := trod_yarn hlen e2
          refine ⟨b, hb, fun _ j u hu => ?_⟩
          have hj : j < 12 := by have := (List.getElem?_eq_some_iff.1 hu).1; rwa [encY_len] at this
          exact (hcell j hj).trans hu
        · exact ⟨fun _ => 0, by simp, fun h => absurd h hi⟩
      have hYl : ((List.range len).map fun i => (each i).choose).length = len := by simp
      have hlm : len ≤ 9223372036854775807 := by unfold maxLen at hm; omega
      refine ⟨some a, cap, (List.range len).map fun i => (each i).choose, by rw [hYl], ?_, by rw [hYl]; exact hlm, ?_⟩
      · intro p hp
        obtain ⟨i, -, rfl⟩ := List.mem_map.1 hp
        exact (each i).choose_spec.1
      · refine ⟨some a, cap, rfl, by rw [hYl]; exact hlm, fun i x hix => ?_⟩
        have hi : i < len := by
          have := (List.getElem?_eq_some_iff.1 hix).1
          simpa using this
        have hxe : x = (each i).choose := by simpa [hi] using hix.symm
        have c0 := (each i).choose_spec.2 hi
        rw [← hxe] at c0
        obtain ⟨ab, ao, sp⟩ := a
        cases sp with
        | none =>
          refine ⟨ab, ao, rfl, fun j u hu => ?_⟩
          have := c0 j u hu
          rwa [add_plain, add_plain] at this
        | some s =>
          have c1 := (each 0).choose_spec.2 (by omega) 0 (u8 ((each 0).choose 0)) rfl
          have e : (((⟨ab, ao, some s⟩ : Addr).add (0 * 12)).add 0) = ⟨ab, ao, some s⟩ := rfl
          rw [e] at c1
          have := cell_none c1
          simp at this
  have hne : v.cells = #[v] := by
    cases v <;> first | rfl | (simp [Value.okWide, Cell.okWide, Cell.ok, Try.underlying22] at hv)
  rw [hne] at hf
  exact key _ hf v rfl

set_option maxRecDepth 100000 in
theorem narrower_lifted (os : Os) (started : os.Started) (H : Type) (enc : TypeId × Value → H) :
    ReturnsInHanded {} Try.checked os 3 .any (Rows.topNarrowerWaitsSpec.pre6 enc Try.prog Try.f3 Rows.topNarrowerWaitsRow.domain false) (Rows.topNarrowerWaitsSpec.post enc Try.prog Try.f3 false true false false) := by
  refine returnsInHanded_of_change (C := Try.checked) Try.own started (by kernel_rfl) Try.func3
    (ChangeSpec.witness6 (enc := enc) (C := Try.checked) false ⟨#[], #[.slice none 0 0, .agg #[u8 0, u8 0, u8 0]], []⟩ 8 (by kernel_rfl) (by kernel_rfl) (by kernel_rfl) (by kernel_rfl)) ?_
  intro W base args ds gs before hval0 hW hcnd _
  have hval : ∀ (j : Nat) t v, Try.f3.params[j]? = some t → args[j]? = some v → Value.okWide Try.prog W .any base t v := hval0
  have hW' := hW
  obtain ⟨p, q, hA0, hV, rfl, hfz, hnd⟩ := hW
  have hA : DataW.TrodAll enc Try.prog W 0 (fun _ => true) true Try.f3.params.toList args.toList ds p := hA0
  rw [Try.params3] at hA hval
  obtain ⟨v0, v1, d0, d1, p0, p1, rfl, rfl, rfl, h0, h1⟩ := trodAll_two hA
  obtain ⟨rfl, rfl⟩ := trodVars_none hV
  obtain ⟨la, lc, Y, rfl, hY, hY63, hF⟩ := open_yarns (hval 0 _ v0 rfl rfl) h0
  obtain ⟨x0, x1, x2, hx0, hx1, hx2, rfl⟩ := open_three (hval 1 _ v1 rfl rfl)
  clear hA0 hval0
  simp only [List.append_nil] at hW'
  have hlt := hW'.lt
  refine (nwaits_any x0 x1 x2 la lc Y W hx0 hx1 hx2 hY hY63 hF).mono fun e W' ⟨he, hB⟩ => ?_
  subst he
  refine ⟨_, rfl, _, _, _, [], p0 ++ p1, [], hW', ?_, ?_, ?_, hB.frame _, fun h => by cases h⟩
  · exact trodAll_mk1 (shut_bool Try.underlying4 true)
  · exact trodAll_mk2 (Below.trod Try.laidOut (by kernel_rfl) (of_decide_eq_true (by kernel_rfl)) h0 hB (fun x hx => hlt x (by simp [hx])))
      (Below.trod Try.laidOut (by kernel_rfl) (of_decide_eq_true (by kernel_rfl)) h1 hB (fun x hx => hlt x (by simp [hx])))
  · rfl

theorem narrower_holds : Rows.TopNarrowerWaitsSaid :=
  OpenClaim.holds_of_wide 3 Try.f3 rfl rfl rfl rfl rfl rfl rfl ⟨rfl, rfl, rfl, rfl, rfl⟩ rfl rfl rfl rfl rfl (by kernel_rfl) Try.func3 (by kernel_rfl)
    (of_decide_eq_true (by kernel_rfl)) (by unfold Func.isWrapper; rw [if_neg (of_decide_eq_false (by kernel_rfl))]; exact ⟨rfl, rfl⟩)
    (fun os started H enc _ => narrower_lifted os started H enc)
end Go.Proofs.Ythkmklfmobenaaa
