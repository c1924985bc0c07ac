/- TopTurnWater: a cloth that is best turned needs so many hours; where hammers surely go for as many one after another, by the first window, the plan surely is right, and the cloth is taken out at its end; if there is no window, they do not last so long from any hour. For all bytes, and streams of any length. -/
import Derived.Test.YtgoncgbbgodliaaRows
import Derived.Test.YtgoncgbbgodliaaMc
import Derived.Test.YtgoncgbbgodliaaLm
namespace Go.Proofs.Ytgoncgbbgodliaa
open Go Go.ChangeShapes Go.WideShapes Go.ChangeAt Go.RowKit

set_option maxRecDepth 100000
/-- A list of pairs of bytes, of any length. -/
theorem open_pairs {H : Type} {enc : TypeId × Value → H} {W : World} {n : Nat} {c4 : Value} {y : DataW H × List MemPlace} (t2 : DataW.trod enc Try.prog W 0 (fun _ => true) true n 28 [c4] = some y) :
    ∃ V : List (Int × Int), (∀ p ∈ V, (0 ≤ p.1 ∧ p.1 ≤ 255) ∧ (0 ≤ p.2 ∧ p.2 ≤ 255)) ∧ SliceU enc2 2 W c4 V := by
  rcases Go.Deep.open_slice Try.underlying28 t2 with ⟨hcs, -⟩ | ⟨a, len, cap, m, k, D, Pl, hcs, -, hl, hm, hmm, -, hx⟩
  · obtain rfl : c4 = .slice none 0 0 := by simpa using hcs
    exact ⟨[], by simp, none, 0, rfl, by simp, by simp⟩
  · obtain rfl : c4 = .slice (some a) len cap := by simpa using hcs
    have each : ∀ i, ∃ q : Int × Int, ((0 ≤ q.1 ∧ q.1 ≤ 255) ∧ (0 ≤ q.2 ∧ q.2 ≤ 255)) ∧ (i < len → W.cell? ((a.add (i * 2)).add 0) = some (u8 q.1) ∧ W.cell? ((a.add (i * 2)).add 1) = some (u8 q.2)) := by
      intro i
      by_cases hi : i < len
      · obtain ⟨cs', e1, e2⟩ := hx i (by rw [hmm]; simp; omega)
        rw [show Try.prog.cellsOf 22 = 2 by kernel_rfl] at e1
        obtain ⟨-, hlen, hcell⟩ := World.cells?_some e1
        obtain ⟨xs, m', -, -, -, hxl, hg⟩ := DataW.trod_array Try.underlying22 e2
        match cs', hlen, xs, hxl with
        | [x0, x1], _, [z0, z1], _ =>
          have g0 := hg 0 (by omega)
          have g1 := hg 1 (by omega)
          rw [show Try.prog.cellsOf 5 = 1 by kernel_rfl] at g0 g1
          obtain ⟨n0, q0, -, w0⟩ := DataW.trod_int Try.underlying5 (show DataW.trod enc Try.prog W 0 (fun _ => true) true m' 5 [x0] = some z0 from g0)
          obtain ⟨n1, q1, -, w1⟩ := DataW.trod_int Try.underlying5 (show DataW.trod enc Try.prog W 0 (fun _ => true) true m' 5 [x1] = some z1 from g1)
          simp only [List.cons.injEq, and_true] at q0 q1
          subst q0 q1
          exact ⟨(n0, n1), ⟨bounds_u8 w0, bounds_u8 w1⟩, fun _ => ⟨hcell 0 (by omega), hcell 1 (by omega)⟩⟩
      · exact ⟨(0, 0), by simp, fun h => absurd h hi⟩
    refine ⟨(List.range len).map fun i => (each i).choose, ?_, ?_⟩
    · intro p hp
      obtain ⟨i, -, rfl⟩ := List.mem_map.1 hp
      exact (each i).choose_spec.1
    · refine ⟨some a, cap, by simp, by simp; unfold maxLen at hm; omega, fun i x hix => ?_⟩
      have hi : i < len := by
        have := (List.getElem?_eq_some_iff.1 hix).1
        simpa using this
      have hxe : x = (each i).choose := by simpa [hi] using hix.symm
      obtain ⟨c0, c1⟩ := (each i).choose_spec.2 hi
      rw [← hxe] at c0 c1
      obtain ⟨ab, ao, sp⟩ := a
      cases sp with
      | none =>
        refine ⟨ab, ao, rfl, fun j u hu => ?_⟩
        rw [add_plain, add_plain] at c0 c1
        rcases j with _ | _ | j
        · simp [enc2] at hu; subst hu; exact c0
        · simp [enc2] at hu; subst hu; exact c1
        · simp [enc2] at hu
      | some s =>
        exact (cell_spot ((each 0).choose_spec.2 (by omega)).1).elim
theorem open_elmMill {H : Type} {enc : TypeId × Value → H} {W : World} {base : Nat} {v : Value} {d : DataW H} {p : List MemPlace} (h : Value.okWide Try.prog W .any base 30 v) (ht : DataW.Trod enc Try.prog W 0 (fun _ => true) true 30 v d p) :
    ∃ (m0 m1 m2 m3 m4 : Int) (fv : Value) (V : List (Int × Int)), (0 ≤ m0 ∧ m0 ≤ 255) ∧ (0 ≤ m1 ∧ m1 ≤ 255) ∧ (0 ≤ m2 ∧ m2 ≤ 255) ∧ (0 ≤ m3 ∧ m3 ≤ 255) ∧ (0 ≤ m4 ∧ m4 ≤ 255) ∧ (∀ p ∈ V, (0 ≤ p.1 ∧ p.1 ≤ 255) ∧ (0 ≤ p.2 ∧ p.2 ≤ 255)) ∧ SliceU enc2 2 W fv V ∧ v = .agg #[u8 m0, u8 m1, u8 m2, u8 m3, u8 m4, fv] := by
  simp only [Value.okWide, Try.underlying30] at h
  obtain ⟨cs, rfl, hsz, hr⟩ := h
  rw [show Try.prog.cellsOf 30 = 6 by kernel_rfl] at hsz
  obtain ⟨b, hb, hc⟩ := u8_row hr (ts := [5, 5, 5, 5, 5, 28]) (by kernel_rfl) (u := 5) Try.underlying5
  obtain ⟨c5, h5⟩ : ∃ c5, cs[5]? = some c5 := ⟨cs[5]'(by omega), Array.getElem?_eq_getElem _⟩
  obtain rfl : cs = #[u8 (b 0), u8 (b 1), u8 (b 2), u8 (b 3), u8 (b 4), c5] := by
    refine Array.ext_getElem? fun i => ?_
    by_cases hi : i < 5
    · rw [hc i (by omega) ?_]
      · rcases i with _ | _ | _ | _ | _ | i <;> first | rfl | omega
      · rcases i with _ | _ | _ | _ | _ | i <;> first | rfl | omega
    · by_cases hi5 : i = 5
      · subst hi5; rw [h5]; rfl
      · rw [Array.getElem?_eq_none (by omega), Array.getElem?_eq_none (by simp; omega)]
  clear hc h5 hsz hr
  obtain ⟨fuel, hf⟩ := ht
  obtain ⟨y0, y1, n, -, -, -, t1⟩ := trod_struct2 Try.underlying30 hf
  obtain ⟨V, hV, hS⟩ := open_pairs (show DataW.trod enc Try.prog W 0 (fun _ => true) true n 28 [c5] = some y1 from t1)
  exact ⟨b 0, b 1, b 2, b 3, b 4, c5, V, hb 0, hb 1, hb 2, hb 3, hb 4, hV, hS, rfl⟩
theorem open_felt {W : World} {base : Nat} {v : Value} (h : Value.okWide Try.prog W .any base 26 v) : ∃ b : Nat → Int, (∀ i, 0 ≤ b i ∧ b i ≤ 255) ∧ v = .agg (fyCells b) := by
  simp only [Value.okWide, Try.underlying26] at h
  obtain ⟨cs, rfl, hsz, hr⟩ := h
  rw [show Try.prog.cellsOf 26 = 12 by kernel_rfl] at hsz
  obtain ⟨b, hb, hc⟩ := u8_row hr (ts := [5, 5, 5, 5, 5, 5, 5, 5, 5, 5, 5, 5]) (by kernel_rfl) (u := 5) Try.underlying5
  refine ⟨b, hb, congrArg _ (Array.ext_getElem? fun i => ?_)⟩
  by_cases hi : i < 12
  · rw [hc i (by omega) ?_]
    · rcases i with _ | _ | _ | _ | _ | _ | _ | _ | _ | _ | _ | _ | i <;> first | rfl | omega
    · rcases i with _ | _ | _ | _ | _ | _ | _ | _ | _ | _ | _ | _ | i <;> first | rfl | omega
  · rw [Array.getElem?_eq_none (by omega), Array.getElem?_eq_none (by simp [fyCells]; omega)]
theorem open_u8t {W : World} {base : Nat} {v : Value} (h : Value.okWide Try.prog W .any base 5 v) : ∃ n : Int, (0 ≤ n ∧ n ≤ 255) ∧ v = u8 n := by
  simp only [Value.okWide, Cell.okWide, Cell.ok, Try.underlying5] at h
  cases v <;> simp at h
  rename_i k n
  obtain ⟨rfl, hn⟩ := h
  refine ⟨n, ?_, rfl⟩
  simp [IntKind.has, IntKind.min, IntKind.max, IntKind.signed, IntKind.bits] at hn
  omega

set_option maxRecDepth 100000 in
theorem turnwater_lifted (os : Os) (started : os.Started) (H : Type) (enc : TypeId × Value → H) :
    ReturnsInHanded {} Try.checked os 3 .any (Rows.topTurnWaterSpec.pre6 enc Try.prog Try.f3 Rows.topTurnWaterRow.domain false) (Rows.topTurnWaterSpec.post enc Try.prog Try.f3 false true false false) := by
  refine returnsInHanded_of_change (C := Try.checked) Try.own started (by kernel_rfl) Try.func3
    (ChangeSpec.witness6 (enc := enc) (C := Try.checked) false ⟨#[], #[.agg #[u8 0, u8 0, u8 0, u8 0, u8 0, u8 0, u8 0, u8 0, u8 0, u8 0, u8 0, u8 0], .agg #[u8 0, u8 0, u8 0, u8 0, u8 0, .slice none 0 0], u8 0], []⟩ 8 (by kernel_rfl) (by kernel_rfl) (by kernel_rfl) (by kernel_rfl)) ?_
  intro W base args ds gs before hval0 hW hcnd _
  have hval : ∀ (j : Nat) t v, Try.f3.params[j]? = some t → args[j]? = some v → Value.okWide Try.prog W .any base t v := hval0
  have hW' := hW
  obtain ⟨p, q, hA0, hV, rfl, hfz, hnd⟩ := hW
  have hA : DataW.TrodAll enc Try.prog W 0 (fun _ => true) true Try.f3.params.toList args.toList ds p := hA0
  rw [Try.params3] at hA hval
  obtain ⟨v0, v1, v2, d0, d1, d2, p0, p1, p2, rfl, rfl, rfl, h0, h1, h2⟩ := trodAll_three hA
  obtain ⟨rfl, rfl⟩ := trodVars_none hV
  obtain ⟨b, hb, rfl⟩ := open_felt (hval 0 _ v0 rfl rfl)
  obtain ⟨m0, m1, m2, m3, m4, fv, V, k0, k1, k2, k3, k4, hVV, hF, rfl⟩ := open_elmMill (hval 1 _ v1 rfl rfl) h1
  obtain ⟨x0, hx0, rfl⟩ := open_u8t (hval 2 _ v2 rfl rfl)
  clear hA0 hval0
  simp only [List.append_nil, List.append_assoc] at hW'
  have hlt := hW'.lt
  refine (turnwater_walk b m0 m1 m2 m3 m4 x0 fv V W hb k0 k1 k2 k3 k4 hVV hF hx0).mono fun e W' ⟨he, hB⟩ => ?_
  subst he
  refine ⟨_, rfl, _, _, _, [], p0 ++ (p1 ++ p2), [], hW', ?_, ?_, ?_, hB.frame _, fun h => by cases h⟩
  · exact trodAll_mk1 (shut_bool Try.underlying4 true)
  · exact trodAll_mk3 (Below.trod Try.laidOut (by kernel_rfl) (of_decide_eq_true (by kernel_rfl)) h0 hB (fun x hx => hlt x (by simp [hx])))
      (Below.trod Try.laidOut (by kernel_rfl) (of_decide_eq_true (by kernel_rfl)) h1 hB (fun x hx => hlt x (by simp [hx])))
      (Below.trod Try.laidOut (by kernel_rfl) (of_decide_eq_true (by kernel_rfl)) h2 hB (fun x hx => hlt x (by simp [hx])))
  · rfl

theorem turnwater_holds : Rows.TopTurnWaterSaid :=
  OpenClaim.holds_of_wide 3 Try.f3 rfl rfl rfl rfl rfl rfl rfl ⟨rfl, rfl, rfl, rfl, rfl⟩ rfl rfl rfl rfl rfl (by kernel_rfl) Try.func3 (by kernel_rfl)
    (of_decide_eq_true (by kernel_rfl)) (by unfold Func.isWrapper; rw [if_neg (of_decide_eq_false (by kernel_rfl))]; exact ⟨rfl, rfl⟩)
    (fun os started H enc _ => turnwater_lifted os started H enc)

end Go.Proofs.Ytgoncgbbgodliaa
