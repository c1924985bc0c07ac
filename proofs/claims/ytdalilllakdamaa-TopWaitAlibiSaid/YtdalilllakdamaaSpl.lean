/- split of package cloth: the quantities of a cloth. -/
import Derived.Test.YtdalilllakdamaaMa
import Derived.StillTailTactics
namespace Go.Proofs.Ytdalilllakdamaa
open Go Go.RowKit Go.Shelf

def zq : Array Value := #[iv 0, iv 0, iv 0, iv 0, iv 0, .slice none 0 0]
def zqs : Array Value := #[iv 0, iv 0, iv 0, iv 0, iv 0, .slice none 0 0, iv 0, iv 0, iv 0, iv 0, iv 0, .slice none 0 0, iv 0, iv 0, iv 0, iv 0, iv 0, .slice none 0 0]
/-- The quantities of a cloth, the first k of them filled in. -/
def sp (ta tb tc : Tk) (mv : Value) : Nat → Array Value
  | 0 => zqs
  | 1 => qcells ta 0 mv ++ zq ++ zq
  | 2 => qcells ta 0 mv ++ qcells tb 1 mv ++ zq
  | _ => qcells ta 0 mv ++ qcells tb 1 mv ++ qcells tc 2 mv
abbrev qs (ta tb tc : Tk) (mv : Value) : Array Value := sp ta tb tc mv 3
theorem sp_size (ta tb tc : Tk) (mv : Value) : ∀ k, (sp ta tb tc mv k).size = 18
  | 0 => rfl
  | 1 => rfl
  | 2 => rfl
  | _ + 3 => rfl
/-- Track number k of three. -/
def tk3 (ta tb tc : Tk) : Nat → Tk
  | 0 => ta
  | 1 => tb
  | _ => tc

section
variable {P : Program} {o : Oper} {a : Act} {w : World}
theorem run_store_at (ty : TypeId) (x y : Operand) (ho : o.op = .store ty x y) (g off : Nat) (hx : a.eval x = .pointer (some ⟨g, off, none⟩)) (cs : Array Value) (hy : a.eval y = .agg cs) (t : TypeId) (old : Array Value) (hg : w.heap[g]? = some (.cells old t (0, 0)))
    (hi : (P.info? ty).map (·.size) = some cs.size) (hs : off + cs.size ≤ old.size) (h1 : cs.all (·.oneCell') = true) :
    (execOp a.eval o).run P w = .ok .skip (w.setRow g (old.toList.take off ++ cs.toList ++ old.toList.drop (off + cs.size)).toArray) := by
  have hst := run_storeCells_at (P := P) g off t cs.toList 0 old w hg (by simpa using hs) (fun v hv => (Array.all_eq_true_iff_forall_mem.1 h1) v (by simpa using hv))
  cases hq : P.info? ty with
  | none => simp [hq] at hi
  | some i =>
    have hsz : i.size = cs.size := by simpa [hq] using hi
    unfold execOp
    simp only [ho, hx, hy, Instr.storeAt, Instr.sureAddr, Sem.run_bind, Sem.run_pure, Result.andThen_ok]
    simp only [storeVar, sizeOf, typeInfo, Sem.run_bind, Value.cells, run_program, Result.andThen_ok, hq, Sem.run_pure, hsz, ne_eq, not_true_eq_false, if_false]
    simp only [Nat.add_zero, Array.length_toList] at hst
    rw [hst]
    rfl
end

theorem sp_succ (ta tb tc : Tk) (mv : Value) (k : Nat) (hk : k < 3) : ((sp ta tb tc mv k).toList.take (k * 6) ++ (qcells (tk3 ta tb tc k) (k : Int) mv).toList ++ (sp ta tb tc mv k).toList.drop (k * 6 + (qcells (tk3 ta tb tc k) (k : Int) mv).size)).toArray = sp ta tb tc mv (k + 1) := by
  rcases k with _ | _ | _ | k
  · kernel_rfl
  · kernel_rfl
  · kernel_rfl
  · omega
theorem qcells_one (t : Tk) (what : Int) (a : Option Addr) (n c : Nat) : (qcells t what (.slice a n c)).all (·.oneCell') = true := by simp [qcells, Value.oneCell']
theorem zqs_size (ta tb tc : Tk) (mv : Value) (k : Nat) : zqs.size = (sp ta tb tc mv k).size := by rw [sp_size]; rfl
theorem sp_one (ta tb tc : Tk) (a : Option Addr) (n c : Nat) (k : Nat) : (sp ta tb tc (.slice a n c) k).all (·.oneCell') = true := by
  rcases k with _ | _ | _ | k <;> simp [sp, qcells, zq, zqs, Value.oneCell']
end Go.Proofs.Ytdalilllakdamaa
