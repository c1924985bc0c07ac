/- TopTurnDry returns true for every weather and all cloths made of bytes, and every four bytes; the input reads as it did. -/
import Derived.Test.YtkialkfplhhenaaRows
import Derived.Test.YtkialkfplhhenaaSo
import Derived.Test.YtkialkfplhhenaaSz
import Derived.Test.YtkialkfplhhenaaDg
namespace Go.Proofs.Ytkialkfplhhenaa
open Go Go.ChangeShapes Go.WideShapes Go.ChangeAt Go.RowKit

set_option maxRecDepth 100000
theorem open_four {W : World} {base : Nat} {v : Value} (h : Value.okWide Try.prog W .any base 26 v) : ∃ v0 v1 v2 v3 : Int, (0 ≤ v0 ∧ v0 ≤ 255) ∧ (0 ≤ v1 ∧ v1 ≤ 255) ∧ (0 ≤ v2 ∧ v2 ≤ 255) ∧ (0 ≤ v3 ∧ v3 ≤ 255) ∧ v = .agg #[u8 v0, u8 v1, u8 v2, u8 v3] := by
  simp only [Value.okWide, Try.underlying26] at h
  obtain ⟨cs, rfl, hsz, hr⟩ := h
  rw [show Try.prog.cellsOf 26 = 4 by kernel_rfl] at hsz
  obtain ⟨b, hb, hc⟩ := u8_row hr (ts := [5, 5, 5, 5]) (by kernel_rfl) (u := 5) Try.underlying5
  refine ⟨b 0, b 1, b 2, b 3, hb 0, hb 1, hb 2, hb 3, congrArg _ (Array.ext_getElem? fun i => ?_)⟩
  by_cases hi : i < 4
  · rw [hc i (by omega) ?_]
    · rcases i with _ | _ | _ | _ | i <;> first | rfl | omega
    · rcases i with _ | _ | _ | _ | i <;> first | rfl | omega
  · rw [Array.getElem?_eq_none (by omega), Array.getElem?_eq_none (by simp; omega)]
/-- A list of pairs of bytes, of any length. -/
theorem open_pairs {H : Type} {enc : TypeId × Value → H} {W : World} {n : Nat} {c4 : Value} {y : DataW H × List MemPlace} (t2 : DataW.trod enc Try.prog W 0 (fun _ => true) true n 22 [c4] = some y) :
    ∃ V : List (Int × Int), (∀ p ∈ V, (0 ≤ p.1 ∧ p.1 ≤ 255) ∧ (0 ≤ p.2 ∧ p.2 ≤ 255)) ∧ SliceU enc2 2 W c4 V := by
  rcases Go.Deep.open_slice Try.underlying22 t2 with ⟨hcs, -⟩ | ⟨a, len, cap, m, k, D, Pl, hcs, -, hl, hm, hmm, -, hx⟩
  · obtain rfl : c4 = .slice none 0 0 := by simpa using hcs
    exact ⟨[], by simp, none, 0, rfl, by simp, by simp⟩
  · obtain rfl : c4 = .slice (some a) len cap := by simpa using hcs
    have each : ∀ i, ∃ q : Int × Int, ((0 ≤ q.1 ∧ q.1 ≤ 255) ∧ (0 ≤ q.2 ∧ q.2 ≤ 255)) ∧ (i < len → W.cell? ((a.add (i * 2)).add 0) = some (u8 q.1) ∧ W.cell? ((a.add (i * 2)).add 1) = some (u8 q.2)) := by
      intro i
      by_cases hi : i < len
      · obtain ⟨cs', e1, e2⟩ := hx i (by rw [hmm]; simp; omega)
        rw [show Try.prog.cellsOf 57 = 2 by kernel_rfl] at e1
        obtain ⟨-, hlen, hcell⟩ := World.cells?_some e1
        obtain ⟨xs, m', -, -, -, hxl, hg⟩ := DataW.trod_array Try.underlying57 e2
        match cs', hlen, xs, hxl with
        | [x0, x1], _, [z0, z1], _ =>
          have g0 := hg 0 (by omega)
          have g1 := hg 1 (by omega)
          rw [show Try.prog.cellsOf 5 = 1 by kernel_rfl] at g0 g1
          obtain ⟨n0, q0, -, w0⟩ := DataW.trod_int Try.underlying5 (show DataW.trod enc Try.prog W 0 (fun _ => true) true m' 5 [x0] = some z0 from g0)
          obtain ⟨n1, q1, -, w1⟩ := DataW.trod_int Try.underlying5 (show DataW.trod enc Try.prog W 0 (fun _ => true) true m' 5 [x1] = some z1 from g1)
          simp only [List.cons.injEq, and_true] at q0 q1
          subst q0 q1
          exact ⟨(n0, n1), ⟨bounds_u8 w0, bounds_u8 w1⟩, fun _ => ⟨hcell 0 (by omega), hcell 1 (by omega)⟩⟩
      · exact ⟨(0, 0), by simp, fun h => absurd h hi⟩
    refine ⟨(List.range len).map fun i => (each i).choose, ?_, ?_⟩
    · intro p hp
      obtain ⟨i, -, rfl⟩ := List.mem_map.1 hp
      exact (each i).choose_spec.1
    · refine ⟨some a, cap, by simp, by simp; unfold maxLen at hm; omega, fun i x hix => ?_⟩
      have hi : i < len := by
        have := (List.getElem?_eq_some_iff.1 hix).1
        simpa using this
      have hxe : x = (each i).choose := by simpa [hi] using hix.symm
      obtain ⟨c0, c1⟩ := (each i).choose_spec.2 hi
      rw [← hxe] at c0 c1
      obtain ⟨ab, ao, sp⟩ := a
      cases sp with
      | none =>
        refine ⟨ab, ao, rfl, fun j u hu => ?_⟩
        rw [add_plain, add_plain] at c0 c1
        rcases j with _ | _ | j
        · simp [enc2] at hu; subst hu; exact c0
        · simp [enc2] at hu; subst hu; exact c1
        · simp [enc2] at hu
      | some s =>
        exact (cell_spot ((each 0).choose_spec.2 (by omega)).1).elim
theorem open_elmSky {H : Type} {enc : TypeId × Value → H} {W : World} {base : Nat} {v : Value} {d : DataW H} {p : List MemPlace} (h : Value.okWide Try.prog W .any base 24 v) (ht : DataW.Trod enc Try.prog W 0 (fun _ => true) true 24 v d p) :
    ∃ (fv : Value) (V : List (Int × Int)), (∀ p ∈ V, (0 ≤ p.1 ∧ p.1 ≤ 255) ∧ (0 ≤ p.2 ∧ p.2 ≤ 255)) ∧ SliceU enc2 2 W fv V ∧ v = .agg #[fv] := by
  simp only [Value.okWide, Try.underlying24] at h
  obtain ⟨cs, rfl, hsz, -⟩ := h
  rw [show Try.prog.cellsOf 24 = 1 by kernel_rfl] at hsz
  obtain ⟨c0, h0⟩ : ∃ c0, cs[0]? = some c0 := ⟨cs[0]'(by omega), Array.getElem?_eq_getElem _⟩
  obtain rfl : cs = #[c0] := by
    refine Array.ext_getElem? fun i => ?_
    by_cases hi : i = 0
    · subst hi; rw [h0]; rfl
    · rw [Array.getElem?_eq_none (by omega), Array.getElem?_eq_none (by simp; omega)]
  clear h0 hsz
  obtain ⟨fuel, hf⟩ := ht
  obtain ⟨y0, n, -, -, t1⟩ := trod_struct1 Try.underlying24 hf
  obtain ⟨V, hV, hS⟩ := open_pairs (show DataW.trod enc Try.prog W 0 (fun _ => true) true n 22 [c0] = some y0 from t1)
  exact ⟨c0, V, hV, hS, rfl⟩
theorem encB3_len (b : B3) : (encB3 b).length = 3 := rfl
/-- The three bytes of a raw cloth. -/
theorem trod_b3 {H : Type} {enc : TypeId × Value → H} {W : World} {m : Nat} {cs : List Value} {y : DataW H × List MemPlace} (hl : cs.length = 3) (h : DataW.trod enc Try.prog W 0 (fun _ => true) true m 34 cs = some y) :
    ∃ b : B3, B3ok b ∧ cs = encB3 b := by
  match cs, hl with
  | [x0, x1, x2], _ =>
    obtain ⟨xs, m', -, -, -, hxl, hg⟩ := DataW.trod_array Try.underlying34 h
    match xs, hxl with
    | [z0, z1, z2], _ =>
      have g0 := hg 0 (by omega)
      have g1 := hg 1 (by omega)
      have g2 := hg 2 (by omega)
      rw [show Try.prog.cellsOf 5 = 1 by kernel_rfl] at g0 g1 g2
      obtain ⟨n0, q0, -, w0⟩ := DataW.trod_int Try.underlying5 (show DataW.trod enc Try.prog W 0 (fun _ => true) true m' 5 [x0] = some z0 from g0)
      obtain ⟨n1, q1, -, w1⟩ := DataW.trod_int Try.underlying5 (show DataW.trod enc Try.prog W 0 (fun _ => true) true m' 5 [x1] = some z1 from g1)
      obtain ⟨n2, q2, -, w2⟩ := DataW.trod_int Try.underlying5 (show DataW.trod enc Try.prog W 0 (fun _ => true) true m' 5 [x2] = some z2 from g2)
      simp only [List.cons.injEq, and_true] at q0 q1 q2
      subst q0 q1 q2
      exact ⟨(n0, n1, n2), ⟨bounds_u8 w0, bounds_u8 w1, bounds_u8 w2⟩, rfl⟩
theorem open_b3s {H : Type} {enc : TypeId × Value → H} {W : World} {v : Value} {d : DataW H} {p : List MemPlace} {base : Nat} (hv : Value.okWide Try.prog W .any base 25 v) (ht : DataW.Trod enc Try.prog W 0 (fun _ => true) true 25 v d p) :
    ∃ (la : Option Addr) (lc : Nat) (Y : List B3), v = .slice la Y.length lc ∧ (∀ b ∈ Y, B3ok b) ∧ Y.length ≤ 9223372036854775807 ∧ SliceU encB3 3 W (.slice la Y.length lc) Y := by
  obtain ⟨fuel, hf⟩ := ht
  have key : ∀ (cs : List Value), DataW.trod enc Try.prog W 0 (fun _ => true) true fuel 25 cs = some (d, p) → ∀ c4, cs = [c4] →
      ∃ (la : Option Addr) (lc : Nat) (Y : List B3), c4 = .slice la Y.length lc ∧ (∀ b ∈ Y, B3ok b) ∧ Y.length ≤ 9223372036854775807 ∧ SliceU encB3 3 W (.slice la Y.length lc) Y := by
    intro cs t2 c4 e4
    subst e4
    rcases Go.Deep.open_slice Try.underlying25 t2 with ⟨hcs, -⟩ | ⟨a, len, cap, m, k, D, Pl, hcs, -, hl, hm, hmm, -, hx⟩
    · obtain rfl : c4 = .slice none 0 0 := by simpa using hcs
      exact ⟨none, 0, [], rfl, by simp, by simp, none, 0, rfl, by simp, by simp⟩
    · obtain rfl : c4 = .slice (some a) len cap := by simpa using hcs
      have each : ∀ i, ∃ b : B3, B3ok b ∧ (i < len → ∀ j u, (encB3 b)[j]? = some u → W.cell? ((a.add (i * 3)).add j) = some u) := by
        intro i
        by_cases hi : i < len
        · obtain ⟨cs', e1, e2⟩ := hx i (by rw [hmm]; simp; omega)
          rw [show Try.prog.cellsOf 34 = 3 by kernel_rfl] at e1
          obtain ⟨-, hlen, hcell⟩ := World.cells?_some e1
          obtain ⟨b, hb, rfl⟩ := trod_b3 hlen e2
          refine ⟨b, hb, fun _ j u hu => ?_⟩
          have hj : j < 3 := by have := (List.getElem?_eq_some_iff.1 hu).1; rwa [encB3_len] at this
          exact (hcell j hj).trans hu
        · exact ⟨(0, 0, 0), by simp [B3ok], fun h => absurd h hi⟩
      have hYl : ((List.range len).map fun i => (each i).choose).length = len := by simp
      have hlm : len ≤ 9223372036854775807 := by unfold maxLen at hm; omega
      refine ⟨some a, cap, (List.range len).map fun i => (each i).choose, by rw [hYl], ?_, by rw [hYl]; exact hlm, ?_⟩
      · intro p hp
        obtain ⟨i, -, rfl⟩ := List.mem_map.1 hp
        exact (each i).choose_spec.1
      · refine ⟨some a, cap, rfl, by rw [hYl]; exact hlm, fun i x hix => ?_⟩
        have hi : i < len := by
          have := (List.getElem?_eq_some_iff.1 hix).1
          simpa using this
        have hxe : x = (each i).choose := by simpa [hi] using hix.symm
        have c0 := (each i).choose_spec.2 hi
        rw [← hxe] at c0
        obtain ⟨ab, ao, sp⟩ := a
        cases sp with
        | none =>
          refine ⟨ab, ao, rfl, fun j u hu => ?_⟩
          have := c0 j u hu
          rwa [add_plain, add_plain] at this
        | some s =>
          have c1 := (each 0).choose_spec.2 (by omega) 0 (u8 ((each 0).choose.1)) rfl
          have e : (((⟨ab, ao, some s⟩ : Addr).add (0 * 3)).add 0) = ⟨ab, ao, some s⟩ := rfl
          rw [e] at c1
          have := cell_none c1
          simp at this
  have hne : v.cells = #[v] := by
    cases v <;> first | rfl | (simp [Value.okWide, Cell.okWide, Cell.ok, Try.underlying25] at hv)
  rw [hne] at hf
  exact key _ hf v rfl

set_option maxRecDepth 100000 in
theorem tdry_lifted (os : Os) (started : os.Started) (H : Type) (enc : TypeId × Value → H) :
    ReturnsInHanded {} Try.checked os 3 .any (Rows.topTurnDrySpec.pre6 enc Try.prog Try.f3 Rows.topTurnDryRow.domain false) (Rows.topTurnDrySpec.post enc Try.prog Try.f3 false true false false) := by
  refine returnsInHanded_of_change (C := Try.checked) Try.own started (by kernel_rfl) Try.func3
    (ChangeSpec.witness6 (enc := enc) (C := Try.checked) false ⟨#[], #[.agg #[.slice none 0 0], .slice none 0 0, .agg #[u8 0, u8 0, u8 0, u8 0]], []⟩ 8 (by kernel_rfl) (by kernel_rfl) (by kernel_rfl) (by kernel_rfl)) ?_
  intro W base args ds gs before hval0 hW hcnd _
  have hval : ∀ (j : Nat) t v, Try.f3.params[j]? = some t → args[j]? = some v → Value.okWide Try.prog W .any base t v := hval0
  have hW' := hW
  obtain ⟨p, q, hA0, hV, rfl, hfz, hnd⟩ := hW
  have hA : DataW.TrodAll enc Try.prog W 0 (fun _ => true) true Try.f3.params.toList args.toList ds p := hA0
  rw [Try.params3] at hA hval
  obtain ⟨v0, v1, v2, d0, d1, d2, p0, p1, p2, rfl, rfl, rfl, h0, h1, h2⟩ := trodAll_three hA
  obtain ⟨rfl, rfl⟩ := trodVars_none hV
  obtain ⟨gv, U, hUU, hG, rfl⟩ := open_elmSky (hval 0 _ v0 rfl rfl) h0
  obtain ⟨la, lc, Y, rfl, hY, hY63, hF⟩ := open_b3s (hval 1 _ v1 rfl rfl) h1
  obtain ⟨x0, x1, x2, x3, hx0, hx1, hx2, hx3, rfl⟩ := open_four (hval 2 _ v2 rfl rfl)
  clear hA0 hval0
  simp only [List.append_nil, List.append_assoc] at hW'
  have hlt := hW'.lt
  refine (tdry_any gv U x0 x1 x2 x3 la lc Y W hx0 hx1 hx2 hx3 hUU hY hY63 hG hF).mono fun e W' ⟨he, hB⟩ => ?_
  subst he
  refine ⟨_, rfl, _, _, _, [], p0 ++ (p1 ++ p2), [], hW', ?_, ?_, ?_, hB.frame _, fun h => by cases h⟩
  · exact trodAll_mk1 (shut_bool Try.underlying4 true)
  · exact trodAll_mk3 (Below.trod Try.laidOut (by kernel_rfl) (of_decide_eq_true (by kernel_rfl)) h0 hB (fun x hx => hlt x (by simp [hx])))
      (Below.trod Try.laidOut (by kernel_rfl) (of_decide_eq_true (by kernel_rfl)) h1 hB (fun x hx => hlt x (by simp [hx])))
      (Below.trod Try.laidOut (by kernel_rfl) (of_decide_eq_true (by kernel_rfl)) h2 hB (fun x hx => hlt x (by simp [hx])))
  · rfl

theorem tdry_holds : Rows.TopTurnDrySaid :=
  OpenClaim.holds_of_wide 3 Try.f3 rfl rfl rfl rfl rfl rfl rfl ⟨rfl, rfl, rfl, rfl, rfl⟩ rfl rfl rfl rfl rfl (by kernel_rfl) Try.func3 (by kernel_rfl)
    (of_decide_eq_true (by kernel_rfl)) (by unfold Func.isWrapper; rw [if_neg (of_decide_eq_false (by kernel_rfl))]; exact ⟨rfl, rfl⟩)
    (fun os started H enc _ => tdry_lifted os started H enc)
end Go.Proofs.Ytkialkfplhhenaa
