/- TopBeatenLonger returns true for every raw cloth, every mill and stream made of bytes, and every two bytes; the input reads as it did. -/
import Derived.Test.YtghnkhpjblnabaaRows
import Derived.Test.YtghnkhpjblnabaaSo
import Derived.ProofKit
import Derived.Carry
import Derived.OpenShut
import Derived.Deep.Slices
namespace Go.Proofs.Ytghnkhpjblnabaa
open Go Go.ChangeShapes Go.WideShapes Go.ChangeAt Go.RowKit

set_option maxRecDepth 100000
theorem Try.own : ownKnob Try.prog.godebug = none := by kernel_rfl
theorem Try.laidOut : laidOutB Try.prog = true := by kernel_rfl

theorem add_plain (b o n : Nat) : (⟨b, o, none⟩ : Addr).add n = ⟨b, o + n, none⟩ := by unfold Addr.add; split <;> simp_all
theorem cell_none {W : World} {a : Addr} {v : Value} (h : W.cell? a = some v) : a.spot = none := by
  cases hs : a.spot with
  | none => rfl
  | some s =>
    exfalso
    unfold World.cell? at h
    split at h
    · simp [hs] at h
    · cases h
theorem cell_spot {W : World} {b o s : Nat} {v : Value} (h : W.cell? (((⟨b, o, some s⟩ : Addr).add (0 * 2)).add 0) = some v) : False := by
  have e : (((⟨b, o, some s⟩ : Addr).add (0 * 2)).add 0) = ⟨b, o, some s⟩ := rfl
  rw [e] at h
  have := cell_none h
  simp at this
/-- Bytes in a row of cells. -/
theorem u8_row {P : Program} {W : World} {base : Nat} {t u : TypeId} {cs : Array Value} {ts : List TypeId} (h : Row.okWide P W .any base t cs) (hts : P.cellTypes P.depth t = some ts) (hu : P.underlying u = some (.int .u8)) :
    ∃ b : Nat → Int, (∀ i, 0 ≤ b i ∧ b i ≤ 255) ∧ ∀ i, i < cs.size → ts[i % ts.length]? = some u → cs[i]? = some (u8 (b i)) := by
  obtain ⟨ts', h1, -, h3⟩ := h
  obtain rfl := Option.some.inj (hts.symm.trans h1)
  have each : ∀ i, ∃ n : Int, (0 ≤ n ∧ n ≤ 255) ∧ (i < cs.size → ts[i % ts.length]? = some u → cs[i]? = some (u8 n)) := by
    intro i
    by_cases hi : i < cs.size
    · by_cases ht : ts[i % ts.length]? = some u
      · obtain ⟨u', hu1, hu2⟩ := h3 i cs[i] (Array.getElem?_eq_getElem hi)
        obtain rfl := Option.some.inj (ht.symm.trans hu1)
        simp only [Cell.okWide, Cell.ok, hu] at hu2
        cases hc : cs[i] <;> rw [hc] at hu2 <;> simp at hu2
        rename_i k n
        obtain ⟨rfl, hn⟩ := hu2
        refine ⟨n, ?_, fun _ _ => by rw [Array.getElem?_eq_getElem hi, hc]⟩
        simp [IntKind.has, IntKind.min, IntKind.max, IntKind.signed, IntKind.bits] at hn
        omega
      · exact ⟨0, by omega, fun _ h => absurd h ht⟩
    · exact ⟨0, by omega, fun h => absurd h hi⟩
  exact ⟨fun i => (each i).choose, fun i => (each i).choose_spec.1, fun i => (each i).choose_spec.2⟩

theorem open_yarn {W : World} {base : Nat} {v : Value} (h : Value.okWide Try.prog W .any base 59 v) : ∃ b : Nat → Int, (∀ i, 0 ≤ b i ∧ b i ≤ 255) ∧ v = .agg (fyCells b) := by
  simp only [Value.okWide, Try.underlying59] at h
  obtain ⟨cs, rfl, hsz, hr⟩ := h
  rw [show Try.prog.cellsOf 59 = 12 by kernel_rfl] at hsz
  obtain ⟨b, hb, hc⟩ := u8_row hr (ts := [5, 5, 5, 5, 5, 5, 5, 5, 5, 5, 5, 5]) (by kernel_rfl) (u := 5) Try.underlying5
  refine ⟨b, hb, congrArg _ (Array.ext_getElem? fun i => ?_)⟩
  by_cases hi : i < 12
  · rw [hc i (by omega) ?_]
    · rcases i with _ | _ | _ | _ | _ | _ | _ | _ | _ | _ | _ | _ | i <;> first | rfl | omega
    · rcases i with _ | _ | _ | _ | _ | _ | _ | _ | _ | _ | _ | _ | i <;> first | rfl | omega
  · rw [Array.getElem?_eq_none (by omega), Array.getElem?_eq_none (by simp [fyCells]; omega)]
theorem open_two {W : World} {base : Nat} {v : Value} (h : Value.okWide Try.prog W .any base 70 v) : ∃ v0 v1 : Int, (0 ≤ v0 ∧ v0 ≤ 255) ∧ (0 ≤ v1 ∧ v1 ≤ 255) ∧ v = .agg #[u8 v0, u8 v1] := by
  simp only [Value.okWide, Try.underlying70] at h
  obtain ⟨cs, rfl, hsz, hr⟩ := h
  rw [show Try.prog.cellsOf 70 = 2 by kernel_rfl] at hsz
  obtain ⟨b, hb, hc⟩ := u8_row hr (ts := [5, 5]) (by kernel_rfl) (u := 5) Try.underlying5
  refine ⟨b 0, b 1, hb 0, hb 1, congrArg _ (Array.ext_getElem? fun i => ?_)⟩
  by_cases hi : i < 2
  · rw [hc i (by omega) ?_]
    · rcases i with _ | _ | i <;> first | rfl | omega
    · rcases i with _ | _ | i <;> first | rfl | omega
  · rw [Array.getElem?_eq_none (by omega), Array.getElem?_eq_none (by simp; omega)]
theorem open_beck {H : Type} {enc : TypeId × Value → H} {W : World} {base : Nat} {v : Value} {d : DataW H} {p : List MemPlace} (h : Value.okWide Try.prog W .any base 25 v) (ht : DataW.Trod enc Try.prog W 0 (fun _ => true) true 25 v d p) :
    ∃ (m0 m1 m2 m3 : Int) (fv : Value) (V : List (Int × Int)), (0 ≤ m0 ∧ m0 ≤ 255) ∧ (0 ≤ m1 ∧ m1 ≤ 255) ∧ (0 ≤ m2 ∧ m2 ≤ 255) ∧ (0 ≤ m3 ∧ m3 ≤ 255) ∧ (∀ p ∈ V, (0 ≤ p.1 ∧ p.1 ≤ 255) ∧ (0 ≤ p.2 ∧ p.2 ≤ 255)) ∧ SliceU enc2 2 W fv V ∧ v = .agg #[u8 m0, u8 m1, u8 m2, u8 m3, fv] := by
  simp only [Value.okWide, Try.underlying25] at h
  obtain ⟨cs, rfl, hsz, hr⟩ := h
  rw [show Try.prog.cellsOf 25 = 5 by kernel_rfl] at hsz
  obtain ⟨b, hb, hc⟩ := u8_row hr (ts := [5, 5, 5, 5, 23]) (by kernel_rfl) (u := 5) Try.underlying5
  obtain ⟨c4, h4⟩ : ∃ c4, cs[4]? = some c4 := ⟨cs[4]'(by omega), Array.getElem?_eq_getElem _⟩
  obtain rfl : cs = #[u8 (b 0), u8 (b 1), u8 (b 2), u8 (b 3), c4] := by
    refine Array.ext_getElem? fun i => ?_
    by_cases hi : i < 4
    · rw [hc i (by omega) ?_]
      · rcases i with _ | _ | _ | _ | i <;> first | rfl | omega
      · rcases i with _ | _ | _ | _ | i <;> first | rfl | omega
    · by_cases hi4 : i = 4
      · subst hi4; rw [h4]; rfl
      · rw [Array.getElem?_eq_none (by omega), Array.getElem?_eq_none (by simp; omega)]
  clear hc h4 hsz hr
  obtain ⟨fuel, hf⟩ := ht
  obtain ⟨y0, y1, n, -, -, -, t1⟩ := trod_struct2 Try.underlying25 hf
  have t2 : DataW.trod enc Try.prog W 0 (fun _ => true) true n 23 [c4] = some y1 := t1
  have key : ∃ V : List (Int × Int), (∀ p ∈ V, (0 ≤ p.1 ∧ p.1 ≤ 255) ∧ (0 ≤ p.2 ∧ p.2 ≤ 255)) ∧ SliceU enc2 2 W c4 V := by
    rcases Go.Deep.open_slice Try.underlying23 t2 with ⟨hcs, -⟩ | ⟨a, len, cap, m, k, D, Pl, hcs, -, hl, hm, hmm, -, hx⟩
    · obtain rfl : c4 = .slice none 0 0 := by simpa using hcs
      exact ⟨[], by simp, none, 0, rfl, by simp, by simp⟩
    · obtain rfl : c4 = .slice (some a) len cap := by simpa using hcs
      have each : ∀ i, ∃ q : Int × Int, ((0 ≤ q.1 ∧ q.1 ≤ 255) ∧ (0 ≤ q.2 ∧ q.2 ≤ 255)) ∧ (i < len → W.cell? ((a.add (i * 2)).add 0) = some (u8 q.1) ∧ W.cell? ((a.add (i * 2)).add 1) = some (u8 q.2)) := by
        intro i
        by_cases hi : i < len
        · obtain ⟨cs', e1, e2⟩ := hx i (by rw [hmm]; simp; omega)
          rw [show Try.prog.cellsOf 70 = 2 by kernel_rfl] at e1
          obtain ⟨-, hlen, hcell⟩ := World.cells?_some e1
          obtain ⟨xs, m', -, -, -, hxl, hg⟩ := DataW.trod_array Try.underlying70 e2
          match cs', hlen, xs, hxl with
          | [x0, x1], _, [z0, z1], _ =>
            have g0 := hg 0 (by omega)
            have g1 := hg 1 (by omega)
            rw [show Try.prog.cellsOf 5 = 1 by kernel_rfl] at g0 g1
            obtain ⟨n0, q0, -, w0⟩ := DataW.trod_int Try.underlying5 (show DataW.trod enc Try.prog W 0 (fun _ => true) true m' 5 [x0] = some z0 from g0)
            obtain ⟨n1, q1, -, w1⟩ := DataW.trod_int Try.underlying5 (show DataW.trod enc Try.prog W 0 (fun _ => true) true m' 5 [x1] = some z1 from g1)
            simp only [List.cons.injEq, and_true] at q0 q1
            subst q0 q1
            exact ⟨(n0, n1), ⟨bounds_u8 w0, bounds_u8 w1⟩, fun _ => ⟨hcell 0 (by omega), hcell 1 (by omega)⟩⟩
        · exact ⟨(0, 0), by simp, fun h => absurd h hi⟩
      refine ⟨(List.range len).map fun i => (each i).choose, ?_, ?_⟩
      · intro p hp
        obtain ⟨i, -, rfl⟩ := List.mem_map.1 hp
        exact (each i).choose_spec.1
      · refine ⟨some a, cap, by simp, by simp; unfold maxLen at hm; omega, fun i x hix => ?_⟩
        have hi : i < len := by
          have := (List.getElem?_eq_some_iff.1 hix).1
          simpa using this
        have hxe : x = (each i).choose := by simpa [hi] using hix.symm
        obtain ⟨c0, c1⟩ := (each i).choose_spec.2 hi
        rw [← hxe] at c0 c1
        obtain ⟨ab, ao, sp⟩ := a
        cases sp with
        | none =>
          refine ⟨ab, ao, rfl, fun j u hu => ?_⟩
          rw [add_plain, add_plain] at c0 c1
          rcases j with _ | _ | j
          · simp [enc2] at hu; subst hu; exact c0
          · simp [enc2] at hu; subst hu; exact c1
          · simp [enc2] at hu
        | some s =>
          exact (cell_spot ((each 0).choose_spec.2 (by omega)).1).elim
  obtain ⟨V, hV, hS⟩ := key
  exact ⟨b 0, b 1, b 2, b 3, c4, V, hb 0, hb 1, hb 2, hb 3, hV, hS, rfl⟩

end Go.Proofs.Ytghnkhpjblnabaa
