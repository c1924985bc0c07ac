/- open of package cloth. -/
import Derived.Test.YtdhkgpfcanekkaaOpn
namespace Go.Proofs.Ytdhkgpfcanekkaa
open Go Go.RowKit Go.Shelf

theorem results_row_tmp {P : Program} {fn : Func} {w : World} {p u : Tmp} {ty t : TypeId} {g : Nat} {cs : Array Value} {d : TypeDesc} (h : fn.results = #[.cell p ty, .tmp u]) (tmps : Array Value) (hp : tmps.getD p undef = .pointer (some ⟨g, 0, none⟩))
    (hg : w.heap[g]? = some (.cells cs t (0, 0))) (hu : P.underlying ty = some d) (hd : (match d with | .struct _ | .array _ _ => true | _ => false) = true) (hi : (P.info? ty).map (·.size) = some cs.size) :
    (results fn tmps).run P w = .ok (.tuple #[.agg cs, tmps.getD u undef]) w := by
  rw [results_cell_tmp h, hp]
  simp [asAddr, Result.andThen, run_loadVar_row w g t ty cs (0, 0) d hg hu hd hi]

def openRes (ta tb tc : Tk) (M : List Ms) (mv : Value) : Value := if hasAll ta tb tc M = true then .tuple #[.agg (qs ta tb tc mv), iv 0] else .tuple #[.agg zqs, iv 9]
theorem check_zero {T : List Tk} {M : List Ms} (h : check T M = 0) : ∃ ta tb tc, T = [ta, tb, tc] ∧ T.all vTrack = true ∧ M.length ≤ 8 ∧ M.all vMeas = true := by
  unfold check at h
  split at h
  · rename_i h1
    split at h
    · omega
    · split at h
      · rename_i h2 h3
        obtain ⟨ta, tb, tc, rfl⟩ : ∃ ta tb tc, T = [ta, tb, tc] := by
          rcases T with _ | ⟨a, _ | ⟨b, _ | ⟨c, _ | ⟨d, r⟩⟩⟩⟩ <;> first | exact ⟨_, _, _, rfl⟩ | (simp at h1)
        exact ⟨ta, tb, tc, rfl, h1.2, by omega, h3⟩
      · omega
  · omega

theorem zqs_one : zqs.all (·.oneCell') = true := by simp [zqs, Value.oneCell']
theorem sinfoZ : (Try.prog.info? 58).map (·.size) = some zqs.size := sinfo113
theorem builtZ : Try.prog.built 58 [] = some zqs := by kernel_rfl
theorem run_build_none {P : Program} {o : Oper} {a : Act} {w : World} (ty : TypeId) (ho : o.op = .build ty #[]) (cells : Array Value) (h : P.built ty [] = some cells) : (execOp a.eval o).run P w = .ok (.value (.agg cells)) w := by
  have h' : P.built ty (#[] : Array (Nat × Value)).toList = some cells := h
  unfold execOp
  simp only [ho, Sem.run_bind, List.map_toArray, List.map_nil, run_build w ty _ cells h', Result.andThen_ok]
  rfl

set_option maxRecDepth 20000 in
set_option maxHeartbeats 3200000 in
theorem open_bad (T : List Tk) (M : List Ms) (tv mv : Value) (w : World) (ht : SliceOf encT 4 w tv T) (hm : SliceOf encM 4 w mv M) (hc : check T M ≠ 0) :
    Calls Try.prog 13 #[.agg #[tv, mv]] w fun e w' => e = .returned (.tuple #[.agg zqs, iv (check T M)]) ∧ Below w.heap.size w w' := by
  have ht' := Lib.hid ht
  have hm' := Lib.hid hm
  obtain ⟨ta, tc, rfl, -, -⟩ := ht
  obtain ⟨ma, mc, rfl, -, -⟩ := hm
  have hc1 : (check T M != 0) = true := by simpa using hc
  generalize hck : check T M = ck at *
  have HCK := Lib.hid hck; clear hck hc
  go_enter Try.func13, Try.ntmps13
  go_wp2_with (with_reducible change wpList _ _ _ (Oper.mk _ (Op.alloc 58) _ _ _ _ :: _) _ _; refine L_val rfl (run_alloc_row 58 zqs zinfo113 rfl) ?_)
  refine (Check_any T M _ _ _ (ht'.out.below (by repeat (first | exact Below.refl _ _ | refine Below.drew ?_ | refine bpush ?_ _ | refine bput ?_ (by simp) _ | (refine bstep ?_ (by assumption))))) (hm'.out.below (by repeat (first | exact Below.refl _ _ | refine Below.drew ?_ | refine bpush ?_ _ | refine bput ?_ (by simp) _ | (refine bstep ?_ (by assumption)))))).mono ?_
  rintro e w1 ⟨rfl, hb1⟩
  rw [HCK.out]
  have hz1 : w.heap.size + 1 < w1.heap.size := by have := hb1.size; simp at this; omega
  have hr1 := Lib.hid ((hb1.block (w.heap.size + 1) (by simp)).trans (by have := heap_new (w.alloc (.cells #[.slice ta T.length tc, .slice ma M.length mc] 33)) zqs 58; simp only [World.size_alloc] at this; exact this))
  have HB := Lib.hid (show Below w.heap.size w w1 from bstep (by repeat (first | exact Below.refl _ _ | refine Below.drew ?_ | refine bpush ?_ _ | refine bput ?_ (by simp) _ | (refine bstep ?_ (by assumption)))) hb1)
  clear hb1
  go_wp2_with (first | (with_reducible change wpList _ _ _ (Oper.mk _ (Op.build 58 _) _ _ _ _ :: _) _ _; refine L_val rfl (run_build_none 58 rfl zqs builtZ) ?_) | (with_reducible change wpList _ _ _ (Oper.mk _ (Op.store 58 _ _) _ _ _ _ :: _) _ _; refine L_skip rfl (run_store_row 58 _ _ rfl _ rfl zqs rfl 58 zqs hr1.out sinfoZ rfl zqs_one) ?_))
  exact bodyPost_ret (results_row_tmp (fn := Try.f13) Try.results13 _ rfl (heap_setRow_same hr1.out) Try.underlying58 rfl sinfoZ) rfl ⟨rfl, bsetRow HB.out (by omega) _⟩

set_option maxRecDepth 20000 in
set_option maxHeartbeats 3200000 in
theorem open_good (ta tb tc : Tk) (M : List Ms) (tv mv : Value) (w : World) (ht : SliceOf encT 4 w tv [ta, tb, tc]) (hm : SliceOf encM 4 w mv M) (hc : check [ta, tb, tc] M = 0) :
    Calls Try.prog 13 #[.agg #[tv, mv]] w fun e w' => e = .returned (openRes ta tb tc M mv) ∧ Below w.heap.size w w' := by
  have ht' := Lib.hid ht
  have hm' := Lib.hid hm
  obtain ⟨tta, ttc, rfl, -, -⟩ := ht
  obtain ⟨ma, mc, rfl, -, -⟩ := hm
  obtain ⟨_, _, _, -, hta, hml, hmm⟩ := check_zero hc
  have HTA := Lib.hid hta; have HMM := Lib.hid hmm; have HCK := Lib.hid hc
  clear hta hmm hc
  go_enter Try.func13, Try.ntmps13
  go_wp2_with (with_reducible change wpList _ _ _ (Oper.mk _ (Op.alloc 58) _ _ _ _ :: _) _ _; refine L_val rfl (run_alloc_row 58 zqs zinfo113 rfl) ?_)
  refine (Check_any [ta, tb, tc] M _ _ _ (ht'.out.below (by repeat (first | exact Below.refl _ _ | refine Below.drew ?_ | refine bpush ?_ _ | refine bput ?_ (by simp) _ | (refine bstep ?_ (by assumption))))) (hm'.out.below (by repeat (first | exact Below.refl _ _ | refine Below.drew ?_ | refine bpush ?_ _ | refine bput ?_ (by simp) _ | (refine bstep ?_ (by assumption)))))).mono ?_
  rintro e w1 ⟨rfl, hb1⟩
  rw [HCK.out]
  have hz1 : w.heap.size + 1 < w1.heap.size := by have := hb1.size; simp at this; omega
  have hr1 := Lib.hid ((hb1.block (w.heap.size + 1) (by simp)).trans (by have := heap_new (w.alloc (.cells #[.slice tta 3 ttc, .slice ma M.length mc] 33)) zqs 58; simp only [World.size_alloc] at this; exact this))
  have HB := Lib.hid (show Below w.heap.size w w1 from bstep (by repeat (first | exact Below.refl _ _ | refine Below.drew ?_ | refine bpush ?_ _ | refine bput ?_ (by simp) _ | (refine bstep ?_ (by assumption)))) hb1)
  obtain ⟨hb1c, hb1f⟩ := bcell hb1
  have hb1z := hb1.size
  simp [Nat.add_one_le_iff] at hb1z
  clear hb1
  go_wp2_with fail
  refine (split_any ta tb tc _ ma M.length mc w1 (ht'.out.below HB.out)).mono ?_
  rintro e w2 ⟨rfl, hb2⟩
  have HB2 := Lib.hid (bstep HB.out hb2)
  have hr2 := Lib.hid ((hb2.block (w.heap.size + 1) hz1).trans hr1.out)
  have hz2 : w.heap.size + 1 < w2.heap.size := Nat.lt_of_lt_of_le hz1 hb2.size
  clear hb1c hb1f hb1z hb2
  go_wp2_with (first | (with_reducible change wpList _ _ _ (Oper.mk _ (Op.alloc 58) _ _ _ _ :: _) _ _; refine L_val rfl (run_alloc_row 58 zqs zinfo113 rfl) ?_) | (with_reducible change wpList _ _ _ (Oper.mk _ (Op.store 58 _ _) _ _ _ _ :: _) _ _; refine L_skip rfl (run_store_row 58 _ _ rfl w2.heap.size rfl (qs ta tb tc (.slice ma M.length mc)) rfl 58 zqs (heap_new _ _ _) (sinfoS _ _ _ _ _) (zqs_size _ _ _ _ _) (sp_one _ _ _ _ _ _ _)) ?_) | (with_reducible change wpList _ _ _ (Oper.mk _ (Op.load 58 _) _ _ _ _ :: _) _ _; refine L_val rfl (run_load_row 58 _ rfl _ rfl 58 (qs ta tb tc (.slice ma M.length mc)) _ (heap_setRow_same (heap_new w2 zqs 58)) Try.underlying58 rfl (sinfoS ta tb tc (.slice ma M.length mc) 3)) ?_))
  refine (possibleAll_any ta tb tc ma M.length mc M _ HTA.out HMM.out (by omega) (hm'.out.below (bpush HB2.out _))).mono ?_
  rintro e w3 ⟨he, hb3⟩
  have HB3 := Lib.hid (bstep (bpush HB2.out _) hb3)
  have hr3 := Lib.hid ((hb3.block (w.heap.size + 1) (by simp; omega)).trans ((Below.heap_alloc _ _ _ hz2).trans hr2.out))
  have hk3 := Lib.hid ((hb3.block w2.heap.size (by simp)).trans (heap_new w2 (qs ta tb tc (.slice ma M.length mc)) 58))
  clear hb3
  cases hh : hasAll ta tb tc M
  · rw [hh] at he; subst he
    have HR : Hid (openRes ta tb tc M (.slice ma M.length mc) = .tuple #[.agg zqs, iv 9]) := by simp [Hid, openRes, hh]
    clear hh
    go_wp2_with (first | (with_reducible change wpList _ _ _ (Oper.mk _ (Op.build 58 _) _ _ _ _ :: _) _ _; refine L_val rfl (run_build_none 58 rfl zqs builtZ) ?_) | (with_reducible change wpList _ _ _ (Oper.mk _ (Op.store 58 _ _) _ _ _ _ :: _) _ _; refine L_skip rfl (run_store_row 58 _ _ rfl _ rfl zqs rfl 58 zqs hr3.out sinfoZ rfl zqs_one) ?_))
    exact bodyPost_ret (results_row_tmp (fn := Try.f13) Try.results13 _ rfl (heap_setRow_same hr3.out) Try.underlying58 rfl sinfoZ) rfl ⟨by rw [HR.out]; rfl, bsetRow HB3.out (by omega) _⟩
  · rw [hh] at he; subst he
    have HR : Hid (openRes ta tb tc M (.slice ma M.length mc) = .tuple #[.agg (qs ta tb tc (.slice ma M.length mc)), iv 0]) := by simp [Hid, openRes, hh]
    clear hh
    go_wp2_with (first | (with_reducible change wpList _ _ _ (Oper.mk _ (Op.store 58 _ _) _ _ _ _ :: _) _ _; refine L_skip rfl (run_store_row 58 _ _ rfl _ rfl (qs ta tb tc (.slice ma M.length mc)) rfl 58 zqs hr3.out (sinfoS _ _ _ _ _) (zqs_size _ _ _ _ _) (sp_one _ _ _ _ _ _ _)) ?_) | (with_reducible change wpList _ _ _ (Oper.mk _ (Op.load 58 _) _ _ _ _ :: _) _ _; refine L_val rfl (run_load_row 58 _ rfl _ rfl 58 (qs ta tb tc (.slice ma M.length mc)) _ hk3.out Try.underlying58 rfl (sinfoS ta tb tc (.slice ma M.length mc) 3)) ?_))
    exact bodyPost_ret (results_row_tmp (fn := Try.f13) Try.results13 _ rfl (heap_setRow_same hr3.out) Try.underlying58 rfl (sinfoS ta tb tc (.slice ma M.length mc) 3)) rfl ⟨by rw [HR.out]; rfl, bsetRow HB3.out (by omega) _⟩
end Go.Proofs.Ytdhkgpfcanekkaa
