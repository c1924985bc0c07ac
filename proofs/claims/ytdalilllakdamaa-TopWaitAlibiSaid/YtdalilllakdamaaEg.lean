/- TopWaitAlibi returns true for all cloths made of bytes, and every three bytes; the input reads as it did. -/
import Derived.Test.YtdalilllakdamaaRows
import Derived.Test.YtdalilllakdamaaSo
import Derived.Test.YtdalilllakdamaaSz
import Derived.Test.YtdalilllakdamaaEf
namespace Go.Proofs.Ytdalilllakdamaa
open Go Go.ChangeShapes Go.WideShapes Go.ChangeAt Go.RowKit

set_option maxRecDepth 100000
theorem open_three {W : World} {base : Nat} {v : Value} (h : Value.okWide Try.prog W .any base 23 v) : ∃ v0 v1 v2 : Int, (0 ≤ v0 ∧ v0 ≤ 255) ∧ (0 ≤ v1 ∧ v1 ≤ 255) ∧ (0 ≤ v2 ∧ v2 ≤ 255) ∧ v = .agg #[u8 v0, u8 v1, u8 v2] := by
  simp only [Value.okWide, Try.underlying23] at h
  obtain ⟨cs, rfl, hsz, hr⟩ := h
  rw [show Try.prog.cellsOf 23 = 3 by kernel_rfl] at hsz
  obtain ⟨b, hb, hc⟩ := u8_row hr (ts := [5, 5, 5]) (by kernel_rfl) (u := 5) Try.underlying5
  refine ⟨b 0, b 1, b 2, hb 0, hb 1, hb 2, congrArg _ (Array.ext_getElem? fun i => ?_)⟩
  by_cases hi : i < 3
  · rw [hc i (by omega) ?_]
    · rcases i with _ | _ | _ | i <;> first | rfl | omega
    · rcases i with _ | _ | _ | i <;> first | rfl | omega
  · rw [Array.getElem?_eq_none (by omega), Array.getElem?_eq_none (by simp; omega)]
theorem encW3_len (b : W3) : (encW3 b).length = 3 := rfl
/-- The three bytes of a raw cloth. -/
theorem trod_w3 {H : Type} {enc : TypeId × Value → H} {W : World} {m : Nat} {cs : List Value} {y : DataW H × List MemPlace} (hl : cs.length = 3) (h : DataW.trod enc Try.prog W 0 (fun _ => true) true m 23 cs = some y) :
    ∃ b : W3, W3ok b ∧ cs = encW3 b := by
  match cs, hl with
  | [x0, x1, x2], _ =>
    obtain ⟨xs, m', -, -, -, hxl, hg⟩ := DataW.trod_array Try.underlying23 h
    match xs, hxl with
    | [z0, z1, z2], _ =>
      have g0 := hg 0 (by omega)
      have g1 := hg 1 (by omega)
      have g2 := hg 2 (by omega)
      rw [show Try.prog.cellsOf 5 = 1 by kernel_rfl] at g0 g1 g2
      obtain ⟨n0, q0, -, w0⟩ := DataW.trod_int Try.underlying5 (show DataW.trod enc Try.prog W 0 (fun _ => true) true m' 5 [x0] = some z0 from g0)
      obtain ⟨n1, q1, -, w1⟩ := DataW.trod_int Try.underlying5 (show DataW.trod enc Try.prog W 0 (fun _ => true) true m' 5 [x1] = some z1 from g1)
      obtain ⟨n2, q2, -, w2⟩ := DataW.trod_int Try.underlying5 (show DataW.trod enc Try.prog W 0 (fun _ => true) true m' 5 [x2] = some z2 from g2)
      simp only [List.cons.injEq, and_true] at q0 q1 q2
      subst q0 q1 q2
      exact ⟨(n0, n1, n2), ⟨bounds_u8 w0, bounds_u8 w1, bounds_u8 w2⟩, rfl⟩
theorem open_w3s {H : Type} {enc : TypeId × Value → H} {W : World} {v : Value} {d : DataW H} {p : List MemPlace} {base : Nat} (hv : Value.okWide Try.prog W .any base 22 v) (ht : DataW.Trod enc Try.prog W 0 (fun _ => true) true 22 v d p) :
    ∃ (la : Option Addr) (lc : Nat) (Y : List W3), v = .slice la Y.length lc ∧ (∀ b ∈ Y, W3ok b) ∧ Y.length ≤ 9223372036854775807 ∧ SliceU encW3 3 W (.slice la Y.length lc) Y := by
  obtain ⟨fuel, hf⟩ := ht
  have key : ∀ (cs : List Value), DataW.trod enc Try.prog W 0 (fun _ => true) true fuel 22 cs = some (d, p) → ∀ c4, cs = [c4] →
      ∃ (la : Option Addr) (lc : Nat) (Y : List W3), c4 = .slice la Y.length lc ∧ (∀ b ∈ Y, W3ok b) ∧ Y.length ≤ 9223372036854775807 ∧ SliceU encW3 3 W (.slice la Y.length lc) Y := by
    intro cs t2 c4 e4
    subst e4
    rcases Go.Deep.open_slice Try.underlying22 t2 with ⟨hcs, -⟩ | ⟨a, len, cap, m, k, D, Pl, hcs, -, hl, hm, hmm, -, hx⟩
    · obtain rfl : c4 = .slice none 0 0 := by simpa using hcs
      exact ⟨none, 0, [], rfl, by simp, by simp, none, 0, rfl, by simp, by simp⟩
    · obtain rfl : c4 = .slice (some a) len cap := by simpa using hcs
      have each : ∀ i, ∃ b : W3, W3ok b ∧ (i < len → ∀ j u, (encW3 b)[j]? = some u → W.cell? ((a.add (i * 3)).add j) = some u) := by
        intro i
        by_cases hi : i < len
        · obtain ⟨cs', e1, e2⟩ := hx i (by rw [hmm]; simp; omega)
          rw [show Try.prog.cellsOf 23 = 3 by kernel_rfl] at e1
          obtain ⟨-, hlen, hcell⟩ := World.cells?_some e1
          obtain ⟨b, hb, rfl⟩ := trod_w3 hlen e2
          refine ⟨b, hb, fun _ j u hu => ?_⟩
          have hj : j < 3 := by have := (List.getElem?_eq_some_iff.1 hu).1; rwa [encW3_len] at this
          exact (hcell j hj).trans hu
        · exact ⟨(0, 0, 0), by simp [W3ok], fun h => absurd h hi⟩
      have hYl : ((List.range len).map fun i => (each i).choose).length = len := by simp
      have hlm : len ≤ 9223372036854775807 := by unfold maxLen at hm; omega
      refine ⟨some a, cap, (List.range len).map fun i => (each i).choose, by rw [hYl], ?_, by rw [hYl]; exact hlm, ?_⟩
      · intro p hp
        obtain ⟨i, -, rfl⟩ := List.mem_map.1 hp
        exact (each i).choose_spec.1
      · refine ⟨some a, cap, rfl, by rw [hYl]; exact hlm, fun i x hix => ?_⟩
        have hi : i < len := by
          have := (List.getElem?_eq_some_iff.1 hix).1
          simpa using this
        have hxe : x = (each i).choose := by simpa [hi] using hix.symm
        have c0 := (each i).choose_spec.2 hi
        rw [← hxe] at c0
        obtain ⟨ab, ao, sp⟩ := a
        cases sp with
        | none =>
          refine ⟨ab, ao, rfl, fun j u hu => ?_⟩
          have := c0 j u hu
          rwa [add_plain, add_plain] at this
        | some s =>
          have c1 := (each 0).choose_spec.2 (by omega) 0 (u8 ((each 0).choose.1)) rfl
          have e : (((⟨ab, ao, some s⟩ : Addr).add (0 * 3)).add 0) = ⟨ab, ao, some s⟩ := rfl
          rw [e] at c1
          have := cell_none c1
          simp at this
  have hne : v.cells = #[v] := by
    cases v <;> first | rfl | (simp [Value.okWide, Cell.okWide, Cell.ok, Try.underlying22] at hv)
  rw [hne] at hf
  exact key _ hf v rfl

set_option maxRecDepth 100000 in
theorem walibi_lifted (os : Os) (started : os.Started) (H : Type) (enc : TypeId × Value → H) :
    ReturnsInHanded {} Try.checked os 3 .any (Rows.topWaitAlibiSpec.pre6 enc Try.prog Try.f3 Rows.topWaitAlibiRow.domain false) (Rows.topWaitAlibiSpec.post enc Try.prog Try.f3 false true false false) := by
  refine returnsInHanded_of_change (C := Try.checked) Try.own started (by kernel_rfl) Try.func3
    (ChangeSpec.witness6 (enc := enc) (C := Try.checked) false ⟨#[], #[.slice none 0 0, .agg #[u8 0, u8 0, u8 0]], []⟩ 8 (by kernel_rfl) (by kernel_rfl) (by kernel_rfl) (by kernel_rfl)) ?_
  intro W base args ds gs before hval0 hW hcnd _
  have hval : ∀ (j : Nat) t v, Try.f3.params[j]? = some t → args[j]? = some v → Value.okWide Try.prog W .any base t v := hval0
  have hW' := hW
  obtain ⟨p, q, hA0, hV, rfl, hfz, hnd⟩ := hW
  have hA : DataW.TrodAll enc Try.prog W 0 (fun _ => true) true Try.f3.params.toList args.toList ds p := hA0
  rw [Try.params3] at hA hval
  obtain ⟨v0, v1, d0, d1, p0, p1, rfl, rfl, rfl, h0, h1⟩ := trodAll_two hA
  obtain ⟨rfl, rfl⟩ := trodVars_none hV
  obtain ⟨la, lc, Y, rfl, hY, hY63, hF⟩ := open_w3s (hval 0 _ v0 rfl rfl) h0
  obtain ⟨x0, x1, x2, hx0, hx1, hx2, rfl⟩ := open_three (hval 1 _ v1 rfl rfl)
  clear hA0 hval0 hY63
  simp only [List.append_nil] at hW'
  have hlt := hW'.lt
  refine (walibi_any x0 x1 x2 la lc Y W hx0 hx1 hx2 hY hF).mono fun e W' ⟨he, hB⟩ => ?_
  subst he
  refine ⟨_, rfl, _, _, _, [], p0 ++ p1, [], hW', ?_, ?_, ?_, hB.frame _, fun h => by cases h⟩
  · exact trodAll_mk1 (shut_bool Try.underlying4 true)
  · exact trodAll_mk2 (Below.trod Try.laidOut (by kernel_rfl) (of_decide_eq_true (by kernel_rfl)) h0 hB (fun x hx => hlt x (by simp [hx])))
      (Below.trod Try.laidOut (by kernel_rfl) (of_decide_eq_true (by kernel_rfl)) h1 hB (fun x hx => hlt x (by simp [hx])))
  · rfl

theorem walibi_holds : Rows.TopWaitAlibiSaid :=
  OpenClaim.holds_of_wide 3 Try.f3 rfl rfl rfl rfl rfl rfl rfl ⟨rfl, rfl, rfl, rfl, rfl⟩ rfl rfl rfl rfl rfl (by kernel_rfl) Try.func3 (by kernel_rfl)
    (of_decide_eq_true (by kernel_rfl)) (by unfold Func.isWrapper; rw [if_neg (of_decide_eq_false (by kernel_rfl))]; exact ⟨rfl, rfl⟩)
    (fun os started H enc _ => walibi_lifted os started H enc)
end Go.Proofs.Ytdalilllakdamaa
