/- split of package cloth: the quantities of a cloth. -/
import Derived.Test.YtdhkgpfcanekkaaPos
import Derived.StillTailTactics
namespace Go.Proofs.Ytdhkgpfcanekkaa
open Go Go.RowKit Go.Shelf

def zq : Array Value := #[iv 0, iv 0, iv 0, iv 0, iv 0, .slice none 0 0]
def zqs : Array Value := #[iv 0, iv 0, iv 0, iv 0, iv 0, .slice none 0 0, iv 0, iv 0, iv 0, iv 0, iv 0, .slice none 0 0, iv 0, iv 0, iv 0, iv 0, iv 0, .slice none 0 0]
theorem zinfo113 : (Try.prog.info? 58).map (·.zero) = some (some (.agg zqs)) := by kernel_rfl
theorem sinfo113 : (Try.prog.info? 58).map (·.size) = some 18 := by kernel_rfl
/-- The quantities of a cloth, the first k of them filled in. -/
def sp (ta tb tc : Tk) (mv : Value) : Nat → Array Value
  | 0 => zqs
  | 1 => qcells ta 0 mv ++ zq ++ zq
  | 2 => qcells ta 0 mv ++ qcells tb 1 mv ++ zq
  | _ => qcells ta 0 mv ++ qcells tb 1 mv ++ qcells tc 2 mv
abbrev qs (ta tb tc : Tk) (mv : Value) : Array Value := sp ta tb tc mv 3
theorem sp_size (ta tb tc : Tk) (mv : Value) : ∀ k, (sp ta tb tc mv k).size = 18
  | 0 => rfl
  | 1 => rfl
  | 2 => rfl
  | _ + 3 => rfl
theorem sinfoS (ta tb tc : Tk) (mv : Value) (k : Nat) : (Try.prog.info? 58).map (·.size) = some (sp ta tb tc mv k).size := by rw [sp_size]; exact sinfo113
/-- Track number k of three. -/
def tk3 (ta tb tc : Tk) : Nat → Tk
  | 0 => ta
  | 1 => tb
  | _ => tc

section
variable {P : Program} {o : Oper} {a : Act} {w : World}
theorem run_store_at (ty : TypeId) (x y : Operand) (ho : o.op = .store ty x y) (g off : Nat) (hx : a.eval x = .pointer (some ⟨g, off, none⟩)) (cs : Array Value) (hy : a.eval y = .agg cs) (t : TypeId) (old : Array Value) (hg : w.heap[g]? = some (.cells old t (0, 0)))
    (hi : (P.info? ty).map (·.size) = some cs.size) (hs : off + cs.size ≤ old.size) (h1 : cs.all (·.oneCell') = true) :
    (execOp a.eval o).run P w = .ok .skip (w.setRow g (old.toList.take off ++ cs.toList ++ old.toList.drop (off + cs.size)).toArray) := by
  have hst := run_storeCells_at (P := P) g off t cs.toList 0 old w hg (by simpa using hs) (fun v hv => (Array.all_eq_true_iff_forall_mem.1 h1) v (by simpa using hv))
  cases hq : P.info? ty with
  | none => simp [hq] at hi
  | some i =>
    have hsz : i.size = cs.size := by simpa [hq] using hi
    unfold execOp
    simp only [ho, hx, hy, Instr.storeAt, Instr.sureAddr, Sem.run_bind, Sem.run_pure, Result.andThen_ok]
    simp only [storeVar, sizeOf, typeInfo, Sem.run_bind, Value.cells, run_program, Result.andThen_ok, hq, Sem.run_pure, hsz, ne_eq, not_true_eq_false, if_false]
    simp only [Nat.add_zero, Array.length_toList] at hst
    rw [hst]
    rfl
end

theorem sp_succ (ta tb tc : Tk) (mv : Value) (k : Nat) (hk : k < 3) : ((sp ta tb tc mv k).toList.take (k * 6) ++ (qcells (tk3 ta tb tc k) (k : Int) mv).toList ++ (sp ta tb tc mv k).toList.drop (k * 6 + (qcells (tk3 ta tb tc k) (k : Int) mv).size)).toArray = sp ta tb tc mv (k + 1) := by
  rcases k with _ | _ | _ | k
  · kernel_rfl
  · kernel_rfl
  · kernel_rfl
  · omega
theorem qcells_one (t : Tk) (what : Int) (a : Option Addr) (n c : Nat) : (qcells t what (.slice a n c)).all (·.oneCell') = true := by simp [qcells, Value.oneCell']
theorem zqs_size (ta tb tc : Tk) (mv : Value) (k : Nat) : zqs.size = (sp ta tb tc mv k).size := by rw [sp_size]; rfl
theorem sp_one (ta tb tc : Tk) (a : Option Addr) (n c : Nat) (k : Nat) : (sp ta tb tc (.slice a n c) k).all (·.oneCell') = true := by
  rcases k with _ | _ | _ | k <;> simp [sp, qcells, zq, zqs, Value.oneCell']
theorem sinfoQ (t : Tk) (what : Int) (mv : Value) : (Try.prog.info? 56).map (·.size) = some (qcells t what mv).size := sinfo111 t what mv
theorem built111 (t : Tk) (what : Int) (a : Option Addr) (n c : Nat) : Try.prog.built 56 [(0, .agg (encT t).toArray), (1, iv what), (2, .slice a n c)] = some (qcells t what (.slice a n c)) := by kernel_rfl

set_option maxRecDepth 20000 in
set_option maxHeartbeats 3200000 in
theorem split_any (ta tb tc : Tk) (tv : Value) (ma : Option Addr) (mn mc : Nat) (w : World) (hT : SliceOf encT 4 w tv [ta, tb, tc]) :
    Calls Try.prog 27 #[.agg #[tv, .slice ma mn mc]] w fun e w' => e = .returned (.agg (qs ta tb tc (.slice ma mn mc))) ∧ Below w.heap.size w w' := by
  obtain ⟨tta, ttc, rfl, -, htc⟩ := hT
  have htc' := Lib.hid htc; clear htc
  go_enter Try.func27, Try.ntmps27
  go_wp2_with (with_reducible change wpList _ _ _ (Oper.mk _ (Op.alloc 58) _ _ _ _ :: _) _ _; refine L_val rfl (run_alloc_row 58 zqs zinfo113 rfl) ?_)
  go_loopw [5, 4] (fun i _ wr => ∃ k : Nat, k ≤ 3 ∧ i = iv k ∧ wr.heap[w.heap.size + 2]? = some (.cells (sp ta tb tc (.slice ma mn mc) k) 58 (0, 0)) ∧ wr.heap[w.heap.size + 1]? = some (.cells zqs 58 (0, 0)) ∧ wr.heap[w.heap.size]? = some (.cells #[.slice tta 3 ttc, .slice ma mn mc] 33 (0, 0)) ∧ Below w.heap.size w wr) (fun i _ _ => 3 - (intOf i).toNat)
  case atStart =>
    refine ⟨0, by omega, rfl, ?_, ?_, ?_, (by repeat (first | exact Below.refl _ _ | refine Below.drew ?_ | refine bpush ?_ _ | refine bput ?_ (by simp) _ | (refine bstep ?_ (by assumption))))⟩
    · show _ = some (Obj.cells zqs _ _)
      have := heap_new ((w.alloc (.cells #[.slice tta 3 ttc, .slice ma mn mc] 33)).alloc (.cells zqs 58)) zqs 58
      simp only [World.size_alloc] at this
      exact this
    · rw [Below.heap_alloc _ _ _ (by simp)]
      have := heap_new (w.alloc (.cells #[.slice tta 3 ttc, .slice ma mn mc] 33)) zqs 58
      simp only [World.size_alloc] at this
      exact this
    · rw [Below.heap_alloc _ _ _ (by simp; omega), Below.heap_alloc _ _ _ (by simp)]; exact heap_new _ _ _
  case round =>
    obtain ⟨k, hk, rfl, hb2, hb1, hb0, hbl⟩ := hrel
    have H2 := Lib.hid hb2; clear hb2
    have H1 := Lib.hid hb1; clear hb1
    have c0 : wr.cell? ⟨w.heap.size, 0, none⟩ = some (.slice tta 3 ttc) := by rw [cell_of_row _ _ _ _ _ _ hb0]; rfl
    have c1 : wr.cell? ⟨w.heap.size, 1, none⟩ = some (.slice ma mn mc) := by rw [cell_of_row _ _ _ _ _ _ hb0]; rfl
    have H0 := Lib.hid hb0; clear hb0
    have hsz2 : w.heap.size + 2 < wr.heap.size := (Array.getElem?_eq_some_iff.1 H2.out).1
    by_cases hlt : k < 3
    · have hx : ([ta, tb, tc] : List Tk)[k]? = some (tk3 ta tb tc k) := by rcases k with _ | _ | _ | k <;> first | rfl | omega
      obtain ⟨b, off, rfl, hj⟩ := htc'.out k _ hx
      have hcell : ∀ j u, (encT (tk3 ta tb tc k))[j]? = some u → wr.cell? ⟨b, off + k * 4 + j, none⟩ = some u := fun j u hu => (hbl.cell (p := ⟨b, _, none⟩) (lt_of_cell (hj j u hu))).trans (hj j u hu)
      have d0 := hcell 0 _ rfl
      have d1 := hcell 1 _ rfl
      have d2 := hcell 2 _ rfl
      have d3 := hcell 3 _ rfl
      simp only [Nat.add_zero] at d0
      clear hcell hj hx
      have i1 : (k : Int) < 3 := by omega
      have HBL := Lib.hid hbl; clear hbl
      generalize htk : tk3 ta tb tc k = tt at *
      have HTK := Lib.hid htk; clear htk
      go_wp2_with fail
      go_still_tail 11, (by kernel_rfl)
      change wpList _ _ _ _ _ wr.drew
      have hb2d : wr.drew.heap[w.heap.size + 2]? = some (.cells (sp ta tb tc (.slice ma mn mc) k) 58 (0, 0)) := H2.out
      refine L_skip rfl (run_store_at 56 _ _ rfl (w.heap.size + 2) (k * 6) rfl (qcells tt k (.slice ma mn mc)) rfl 58 (sp ta tb tc (.slice ma mn mc) k) hb2d (sinfo111 _ _ _) (by rw [sp_size, qcells_size]; omega) (qcells_one _ _ _ _ _)) ?_
      have hse : ((sp ta tb tc (.slice ma mn mc) k).toList.take (k * 6) ++ (qcells tt k (.slice ma mn mc)).toList ++ (sp ta tb tc (.slice ma mn mc) k).toList.drop (k * 6 + (qcells tt k (.slice ma mn mc)).size)).toArray = sp ta tb tc (.slice ma mn mc) (k + 1) := by
        rw [← HTK.out]; exact sp_succ ta tb tc _ k hlt
      rw [hse]
      clear hse hb2d
      go_wp2_with fail
      go_roundw
      case rel =>
        refine ⟨k + 1, by omega, by go_num, ?_, ?_, ?_, bsetRow HBL.out.drew (by omega) _⟩
        · exact heap_setRow_same H2.out
        · rw [heap_setRow_other _ _ _ _ (by omega)]; exact H1.out
        · rw [heap_setRow_other _ _ _ _ (by omega)]; exact H0.out
      case measure => simp [intOf]; omega
    · obtain rfl : k = 3 := by omega
      go_wp2_with (first | (with_reducible change wpList _ _ _ (Oper.mk _ (Op.load 58 _) _ _ _ _ :: _) _ _; refine L_val rfl (run_load_row 58 _ rfl _ rfl 58 (sp ta tb tc (.slice ma mn mc) 3) _ H2.out Try.underlying58 rfl (sinfoS _ _ _ _ _)) ?_) | (with_reducible change wpList _ _ _ (Oper.mk _ (Op.store 58 _ _) _ _ _ _ :: _) _ _; (refine L_skip rfl (run_store_row 58 _ _ rfl _ rfl (sp ta tb tc (.slice ma mn mc) 3) rfl 58 zqs H1.out (sinfoS ta tb tc (.slice ma mn mc) 3) (zqs_size ta tb tc (.slice ma mn mc) 3) (sp_one ta tb tc ma mn mc 3)) ?_)))
      exact bodyPost_ret (results_cell_row (fn := Try.f27) Try.results27 _ _ (w.heap.size + 1) 58 (sp ta tb tc (.slice ma mn mc) 3) (0, 0) _ rfl (heap_setRow_same H1.out) Try.underlying58 rfl (sinfoS _ _ _ _ _)) rfl ⟨rfl, bsetRow hbl (by omega) _⟩
end Go.Proofs.Ytdhkgpfcanekkaa
