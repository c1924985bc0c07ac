/-
  No cell of these rows narrows 'for every input' (looked for: loops, veiled, ifaces, maps, wideKeys, modest, calm, conditions, laid).
  DERIVED. THE GIVEN ROWS OF THIS SEAT. 3 by the template 'for every input the law returns true; each argument reads behind the call as it read before'; 0 by the template 'total and deterministic' (their statements: YtompkdhhhlgbdaaTotals.lean).
  GIVEN WITH THE SEED: the statements are not yours to turn. If you find one false, say at which input.
  Laid BY PROGRAM, IN A SANDBOX (cutbox-rows.mjs): the forced cells as the released guide's own fill.sh prints them over the translation 84b5feff96ce6d62… (all of the seat's roots in one cut). By AI agents, Wed Nov 11 2026. No macro, syntax, notation, axiom, sorry.
-/
import Derived.Test.YtompkdhhhlgbdaaChecked
import GoSem.Claim
import GoSem.ClaimJoined
import GoSem.ClaimMapViews
import Derived.JoinedTies
import Derived.KernelRfl
namespace Go.Proofs.Ytompkdhhhlgbdaa
/- THE CELL 'sum', in the pinned program and in every row, IS THE sha256 OF THE DUMP (.gsa) THAT YtompkdhhhlgbdaaProg.lean LOADS. Nothing in Lean hashes anything: it is a label: what it is worth is what the hold of that sum in a sandbox is worth. -/
noncomputable def Try.pinned : Pinned := { name := "ytompkdhhhlgbdaa", sum := "84b5feff96ce6d621d1a966f85790707bca7f351c70c275a8ffda7c9b81caf92", checked := Try.checked }
namespace Rows
def none {H : Type} : Left H := { results := [], args := [] }

/-- 'walkmilltop.TopBeatenLonger': WHATEVER THE INPUT: true; the input reads as it did. -/
def topBeatenLongerSpec : ChangeSpec := { name := "topBeatenLonger", fn := fun _ => fun
  | [d1, d2, d3] => { results := [.lit (.bool true)], args := [d1, d2, d3] }
  | _ => none }
def topBeatenLongerRow : OpenClaim := { program := "ytompkdhhhlgbdaa", sum := "84b5feff96ce6d621d1a966f85790707bca7f351c70c275a8ffda7c9b81caf92", func := "walkmill/walkmilltop.TopBeatenLonger", spec := "topBeatenLonger", unfollowed := true, recurses := true, apart := false }
def TopBeatenLongerSaid : Prop := topBeatenLongerRow.holds Try.pinned (OpenSpec.ofChange topBeatenLongerSpec)

/-- ITS FALSE NEIGHBOUR: 'it returns false'. Refute it at one input. -/
def topBeatenLongerWrong : ChangeSpec := { name := "topBeatenLonger", fn := fun _ => fun
  | [d1, d2, d3] => { results := [.lit (.bool false)], args := [d1, d2, d3] }
  | _ => none }
def TopBeatenLongerWrongFalsely : Prop := topBeatenLongerRow.holds Try.pinned (OpenSpec.ofChange topBeatenLongerWrong)

/-- 'walkmilltop.TopWorkNarrow': WHATEVER THE INPUT: true; the input reads as it did. -/
def topWorkNarrowSpec : ChangeSpec := { name := "topWorkNarrow", fn := fun _ => fun
  | [d1, d2, d3] => { results := [.lit (.bool true)], args := [d1, d2, d3] }
  | _ => none }
def topWorkNarrowRow : OpenClaim := { program := "ytompkdhhhlgbdaa", sum := "84b5feff96ce6d621d1a966f85790707bca7f351c70c275a8ffda7c9b81caf92", func := "walkmill/walkmilltop.TopWorkNarrow", spec := "topWorkNarrow", unfollowed := true, recurses := true, apart := false }
def TopWorkNarrowSaid : Prop := topWorkNarrowRow.holds Try.pinned (OpenSpec.ofChange topWorkNarrowSpec)

/-- ITS FALSE NEIGHBOUR: 'it returns false'. Refute it at one input. -/
def topWorkNarrowWrong : ChangeSpec := { name := "topWorkNarrow", fn := fun _ => fun
  | [d1, d2, d3] => { results := [.lit (.bool false)], args := [d1, d2, d3] }
  | _ => none }
def TopWorkNarrowWrongFalsely : Prop := topWorkNarrowRow.holds Try.pinned (OpenSpec.ofChange topWorkNarrowWrong)

/-- 'walkmilltop.TopWorkedHours': WHATEVER THE INPUT: true; the input reads as it did. -/
def topWorkedHoursSpec : ChangeSpec := { name := "topWorkedHours", fn := fun _ => fun
  | [d1, d2, d3] => { results := [.lit (.bool true)], args := [d1, d2, d3] }
  | _ => none }
def topWorkedHoursRow : OpenClaim := { program := "ytompkdhhhlgbdaa", sum := "84b5feff96ce6d621d1a966f85790707bca7f351c70c275a8ffda7c9b81caf92", func := "walkmill/walkmilltop.TopWorkedHours", spec := "topWorkedHours", unfollowed := true, recurses := true, apart := false }
def TopWorkedHoursSaid : Prop := topWorkedHoursRow.holds Try.pinned (OpenSpec.ofChange topWorkedHoursSpec)

/-- ITS FALSE NEIGHBOUR: 'it returns false'. Refute it at one input. -/
def topWorkedHoursWrong : ChangeSpec := { name := "topWorkedHours", fn := fun _ => fun
  | [d1, d2, d3] => { results := [.lit (.bool false)], args := [d1, d2, d3] }
  | _ => none }
def TopWorkedHoursWrongFalsely : Prop := topWorkedHoursRow.holds Try.pinned (OpenSpec.ofChange topWorkedHoursWrong)

/- THE SECOND FORM. 'bulk': how many values and letters a reading holds, each counted each time it is reached (what is shared counts as often as it is met; a slice's spare places count too). A statement '..UptoSaid' is the law's where the arguments, and the package variables that the reading takes, are together of bulk at most 1048576: NARROWER than '..Said'. Prove '..Said' where nothing that the law and all that it calls make is longer than what came in: it says more and counts as full. Else prove '..UptoSaid'. A law counts once. -/
mutual
def uptoBulk {H : Type} : DataW H → Nat
  | .lit (.string bytes) => bytes.length + 1
  | .lit _ => 1
  | .nil => 1
  | .ptr d => uptoBulk d + 1
  | .slice elems spare => uptoBulkAll elems + uptoBulkAll spare + 1
  | .agg parts => uptoBulkAll parts + 1
  | .iface _ d => uptoBulk d + 1
  | .map entries => uptoBulkEntries entries + 1
  | .held _ => 1
def uptoBulkAll {H : Type} : List (DataW H) → Nat
  | [] => 0
  | d :: r => uptoBulk d + uptoBulkAll r
def uptoBulkEntries {H : Type} : List (Lit × DataW H) → Nat
  | [] => 0
  | x :: r => uptoBulkEntry x + uptoBulkEntries r
def uptoBulkEntry {H : Type} : Lit × DataW H → Nat
  | (.string bytes, d) => bytes.length + uptoBulk d + 1
  | (_, d) => uptoBulk d + 1
 end
def uptoSmall : (H : Type) → List (DataW H) → Bool := fun _ ds => decide (uptoBulkAll ds ≤ 1048576)
def OpenSpec.upto (s : _root_.Go.ChangeSpec) : _root_.Go.OpenSpec := { _root_.Go.OpenSpec.ofChange s with cond := some uptoSmall }

/-- 'walkmilltop.TopBeatenLonger', WHERE WHAT IT READS IS OF BULK AT MOST 1048576: true; the input reads as it did. -/
def topBeatenLongerUptoRow : OpenClaim := { program := "ytompkdhhhlgbdaa", sum := "84b5feff96ce6d621d1a966f85790707bca7f351c70c275a8ffda7c9b81caf92", func := "walkmill/walkmilltop.TopBeatenLonger", spec := "topBeatenLonger", unfollowed := true, recurses := true, apart := false, narrowed := true }
def TopBeatenLongerUptoSaid : Prop := topBeatenLongerUptoRow.holds Try.pinned (OpenSpec.upto topBeatenLongerSpec)

/-- 'walkmilltop.TopWorkNarrow', WHERE WHAT IT READS IS OF BULK AT MOST 1048576: true; the input reads as it did. -/
def topWorkNarrowUptoRow : OpenClaim := { program := "ytompkdhhhlgbdaa", sum := "84b5feff96ce6d621d1a966f85790707bca7f351c70c275a8ffda7c9b81caf92", func := "walkmill/walkmilltop.TopWorkNarrow", spec := "topWorkNarrow", unfollowed := true, recurses := true, apart := false, narrowed := true }
def TopWorkNarrowUptoSaid : Prop := topWorkNarrowUptoRow.holds Try.pinned (OpenSpec.upto topWorkNarrowSpec)

/-- 'walkmilltop.TopWorkedHours', WHERE WHAT IT READS IS OF BULK AT MOST 1048576: true; the input reads as it did. -/
def topWorkedHoursUptoRow : OpenClaim := { program := "ytompkdhhhlgbdaa", sum := "84b5feff96ce6d621d1a966f85790707bca7f351c70c275a8ffda7c9b81caf92", func := "walkmill/walkmilltop.TopWorkedHours", spec := "topWorkedHours", unfollowed := true, recurses := true, apart := false, narrowed := true }
def TopWorkedHoursUptoSaid : Prop := topWorkedHoursUptoRow.holds Try.pinned (OpenSpec.upto topWorkedHoursSpec)

end Rows
end Go.Proofs.Ytompkdhhhlgbdaa
