/- open of package cloth. -/
import Derived.Test.YtdalilllakdamaaOpn
namespace Go.Proofs.Ytdalilllakdamaa
open Go Go.RowKit Go.Shelf

theorem results_row_tmp {P : Program} {fn : Func} {w : World} {p u : Tmp} {ty t : TypeId} {g : Nat} {cs : Array Value} {d : TypeDesc} (h : fn.results = #[.cell p ty, .tmp u]) (tmps : Array Value) (hp : tmps.getD p undef = .pointer (some ⟨g, 0, none⟩))
    (hg : w.heap[g]? = some (.cells cs t (0, 0))) (hu : P.underlying ty = some d) (hd : (match d with | .struct _ | .array _ _ => true | _ => false) = true) (hi : (P.info? ty).map (·.size) = some cs.size) :
    (results fn tmps).run P w = .ok (.tuple #[.agg cs, tmps.getD u undef]) w := by
  rw [results_cell_tmp h, hp]
  simp [asAddr, Result.andThen, run_loadVar_row w g t ty cs (0, 0) d hg hu hd hi]

def openRes (ta tb tc : Tk) (M : List Ms) (mv : Value) : Value := if hasAll ta tb tc M = true then .tuple #[.agg (qs ta tb tc mv), iv 0] else .tuple #[.agg zqs, iv 9]
theorem check_zero {T : List Tk} {M : List Ms} (h : check T M = 0) : ∃ ta tb tc, T = [ta, tb, tc] ∧ T.all vTrack = true ∧ M.length ≤ 8 ∧ M.all vMeas = true := by
  unfold check at h
  split at h
  · rename_i h1
    split at h
    · omega
    · split at h
      · rename_i h2 h3
        obtain ⟨ta, tb, tc, rfl⟩ : ∃ ta tb tc, T = [ta, tb, tc] := by
          rcases T with _ | ⟨a, _ | ⟨b, _ | ⟨c, _ | ⟨d, r⟩⟩⟩⟩ <;> first | exact ⟨_, _, _, rfl⟩ | (simp at h1)
        exact ⟨ta, tb, tc, rfl, h1.2, by omega, h3⟩
      · omega
  · omega

theorem zqs_one : zqs.all (·.oneCell') = true := by simp [zqs, Value.oneCell']
theorem run_build_none {P : Program} {o : Oper} {a : Act} {w : World} (ty : TypeId) (ho : o.op = .build ty #[]) (cells : Array Value) (h : P.built ty [] = some cells) : (execOp a.eval o).run P w = .ok (.value (.agg cells)) w := by
  have h' : P.built ty (#[] : Array (Nat × Value)).toList = some cells := h
  unfold execOp
  simp only [ho, Sem.run_bind, List.map_toArray, List.map_nil, run_build w ty _ cells h', Result.andThen_ok]
  rfl

end Go.Proofs.Ytdalilllakdamaa
