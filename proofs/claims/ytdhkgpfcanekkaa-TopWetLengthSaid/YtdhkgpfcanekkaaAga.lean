/- quantity.against of package cloth. -/
import Derived.Test.YtdhkgpfcanekkaaMa
import Derived.Test.YtdhkgpfcanekkaaOwn
namespace Go.Proofs.Ytdhkgpfcanekkaa
open Go Go.RowKit

/-- Measuring number k is of this quantity, and wrong if x and r are true. -/
def bad (what : Int) (M : List Ms) (x r : Int) (k : Nat) : Bool :=
  match M[k]? with
  | some m => (m.what == what) && !fitsM x r m
  | none => false
def agTo (what : Int) (M : List Ms) (x r : Int) : Nat → List Int
  | 0 => []
  | k + 1 => agTo what M x r k ++ if bad what M x r k then [(k : Int)] else []
def ag (what : Int) (M : List Ms) (x r : Int) : List Int := agTo what M x r M.length
theorem agTo_len (what : Int) (M : List Ms) (x r : Int) (k : Nat) : (agTo what M x r k).length ≤ k := by
  induction k with
  | zero => simp [agTo]
  | succ k ih => simp only [agTo, List.length_append]; split <;> simp <;> omega

theorem bpush2 {w W wr : World} (h : Below (w.heap.size + 2) W wr) (hz : w.heap.size + 1 < wr.heap.size) (o : Obj) : Below (w.heap.size + 2) W (wr.alloc o) := h.alloc hz o
/-- The cells of a quantity. -/
def qcells (t : Tk) (what : Int) (mv : Value) : Array Value := #[iv t.fl, iv t.fh, iv t.rl, iv t.rh, iv what, mv]

set_option maxRecDepth 20000 in
set_option maxHeartbeats 3200000 in
theorem against_any (t : Tk) (what : Int) (mv : Value) (M : List Ms) (x r : Int) (w : World) (hM : SliceOf encM 4 w mv M) (hv : M.all vMeas = true) (hl : M.length ≤ 1000000) (hx : 0 ≤ x) (hx' : x ≤ 100000) (hr : 0 ≤ r) (hr' : r ≤ 1000) :
    Calls Try.prog 41 #[.agg (qcells t what mv), tval x r] w fun e w' => ∃ v, e = .returned v ∧ Owns encI 1 3 (w.heap.size + 2) w' v (ag what M x r) ∧ Below w.heap.size w w' := by
  obtain ⟨i0, hi, hz0, hz1, hz2⟩ := info_parts info3
  have hM' := Lib.hid hM
  obtain ⟨ma, mc, rfl, hml, hmc⟩ := hM
  have hmc' := Lib.hid hmc; clear hmc
  have hv' := Lib.hid hv; clear hv
  simp only [qcells]
  go_enter Try.func41, Try.ntmps41
  go_wp2_with fail
  have k4 : ((w.alloc (.cells #[iv t.fl, iv t.fh, iv t.rl, iv t.rh, iv what, .slice ma M.length mc] 56)).alloc (.cells (tvals x r) 65)).cell? ⟨w.heap.size, 4, none⟩ = some (iv what) := by go_simp
  have k5 : ((w.alloc (.cells #[iv t.fl, iv t.fh, iv t.rl, iv t.rh, iv what, .slice ma M.length mc] 56)).alloc (.cells (tvals x r) 65)).cell? ⟨w.heap.size, 5, none⟩ = some (.slice ma M.length mc) := by go_simp
  have k6 := heap_new (w.alloc (.cells #[iv t.fl, iv t.fh, iv t.rl, iv t.rh, iv what, .slice ma M.length mc] 56)) (tvals x r) 65
  have hB : Below w.heap.size w ((w.alloc (.cells #[iv t.fl, iv t.fh, iv t.rl, iv t.rh, iv what, .slice ma M.length mc] 56)).alloc (.cells (tvals x r) 65)) := (by repeat (first | exact Below.refl _ _ | refine Below.drew ?_ | refine bpush ?_ _ | refine bput ?_ (by simp) _ | (refine bstep ?_ (by assumption))))
  have hz : ((w.alloc (.cells #[iv t.fl, iv t.fh, iv t.rl, iv t.rh, iv what, .slice ma M.length mc] 56)).alloc (.cells (tvals x r) 65)).heap.size = w.heap.size + 2 := by simp
  rw [World.size_alloc] at k6
  generalize ((w.alloc (.cells #[iv t.fl, iv t.fh, iv t.rl, iv t.rh, iv what, .slice ma M.length mc] 56)).alloc (.cells (tvals x r) 65)) = W at *
  have HZ := Lib.hid hz; clear hz
  have H6 := Lib.hid k6; clear k6
  go_loopw [11, 5, 6, 7] (fun i l _ _ wr => ∃ k : Nat, k ≤ M.length ∧ i = iv k ∧ Owns encI 1 3 (w.heap.size + 2) wr l (agTo what M x r k) ∧ Below (w.heap.size + 2) W wr) (fun i _ _ _ _ => M.length - (intOf i).toNat)
  case atStart => exact ⟨0, Nat.zero_le _, rfl, Owns.nil _ _ _ _ _, Below.refl _ _⟩
  case round =>
    obtain ⟨k, hk, rfl, hown, hbw⟩ := hrel
    have HO := Lib.hid hown; clear hown
    have hzr : w.heap.size + 1 < wr.heap.size := by have := hbw.size; have := HZ.out; omega
    have hzr0 : w.heap.size < wr.heap.size := by omega
    have HBW : Below W.heap.size W wr := hbw.mono (by rw [HZ.out]; exact Nat.le_refl _)
    have hw4 : wr.cell? ⟨w.heap.size, 4, none⟩ = some (iv what) := (hbw.cell (p := ⟨w.heap.size, 4, none⟩) (by simp)).trans k4
    have hw6 := Lib.hid ((hbw.block (w.heap.size + 1) (by simp)).trans H6.out)
    by_cases hlt : k < M.length
    · obtain ⟨m, hm⟩ := getElem?_of_lt hlt
      obtain ⟨b, off, rfl, hj⟩ := hmc'.out k m hm
      have hvm : vMeas m = true := List.all_eq_true.1 hv'.out m (List.mem_of_getElem? hm)
      have hcell : ∀ j u, (encM m)[j]? = some u → wr.cell? ⟨b, off + k * 4 + j, none⟩ = some u := fun j u hu => (HBW.cell (p := ⟨b, _, none⟩) (Nat.lt_of_lt_of_le (lt_of_cell (hj j u hu)) hB.size)).trans ((hB.cell (p := ⟨b, _, none⟩) (lt_of_cell (hj j u hu))).trans (hj j u hu))
      have c0 := hcell 0 _ rfl
      have c1 := hcell 1 _ rfl
      have c2 := hcell 2 _ rfl
      have c3 := hcell 3 _ rfl
      simp only [Nat.add_zero] at c0
      have HM := Lib.hid hm; have HVM := Lib.hid hvm
      clear hm hvm hj hcell
      cases hw : (m.what == what)
      · have HBAD : Hid (bad what M x r k = false) := by simp [Hid, bad, HM.out, hw]
        go_wp2_with fail
        go_roundw
        case rel =>
          refine ⟨k + 1, by omega, by go_num, ?_, bpush2 hbw hzr _⟩
          simp only [agTo, HBAD.out]
          simpa using Owns.kept HO.out (bpush (Below.refl _ _) _)
        case measure => simp [intOf]; omega
      · cases hf : fitsM x r m
        · have HBAD : Hid (bad what M x r k = true) := by simp [Hid, bad, HM.out, hw, hf]
          have HF := Lib.hid hf; clear hf
          go_wp2_with (with_reducible change wpList _ _ _ (Oper.mk _ (Op.load 65 _) _ _ _ _ :: _) _ _; refine L_val rfl (run_load_row 65 _ rfl _ rfl 65 (tvals x r) _ ((Below.heap_alloc _ _ _ hzr).trans hw6.out) Try.underlying65 rfl (sinfoV x r)) ?_)
          refine (fits_any x r m _ hx hx' hr hr' HVM.out).mono ?_
          rintro e w1 ⟨he, hb1⟩
          rw [HF.out] at he; subst he
          obtain ⟨hb1c, hb1f⟩ := bcell hb1
          have hb1z := hb1.size
          simp [Nat.add_one_le_iff] at hb1z
          have HO1 := Lib.hid (Owns.kept (Owns.kept HO.out (bpush (Below.refl _ _) _)) hb1)
          have hsz1 : w.heap.size + 2 ≤ w1.heap.size := by have := hbw.size; have := HZ.out; omega
          have hb2 : (agTo what M x r k).length + 1 ≤ maxLen ∧ ((agTo what M x r k).length + 1) * 8 ≤ 140737488355328 := by have := agTo_len what M x r k; unfold maxLen; omega
          have hb3 : w.heap.size + 2 ≤ (w1.alloc (.cells #[iv k] 3)).heap.size := by simp; omega
          go_wp2_with (at_builtin; refine L_append1 (k : Int) rfl _ _ 38 rfl Try.underlying38 hi hz0 hz1 hz2 rfl Nat.one_pos encI_len (encI_one _) rfl rfl (Owns.kept HO1.out (bpush (Below.refl _ _) _)) (encI_cell ?_) hb2 hb3 ?_; go_simp; intro v' w2 hown2 hbe2 hg2)
          go_roundw
          case rel =>
            refine ⟨k + 1, by omega, by go_num, ?_, (((bpush2 hbw hzr _).trans (hb1.mono (by simp; omega))).alloc hsz1 _).trans hbe2⟩
            simp only [agTo, HBAD.out]
            exact hown2
          case measure => simp [intOf]; omega
        · have HBAD : Hid (bad what M x r k = false) := by simp [Hid, bad, HM.out, hw, hf]
          have HF := Lib.hid hf; clear hf
          go_wp2_with (with_reducible change wpList _ _ _ (Oper.mk _ (Op.load 65 _) _ _ _ _ :: _) _ _; refine L_val rfl (run_load_row 65 _ rfl _ rfl 65 (tvals x r) _ ((Below.heap_alloc _ _ _ hzr).trans hw6.out) Try.underlying65 rfl (sinfoV x r)) ?_)
          refine (fits_any x r m _ hx hx' hr hr' HVM.out).mono ?_
          rintro e w1 ⟨he, hb1⟩
          rw [HF.out] at he; subst he
          obtain ⟨hb1c, hb1f⟩ := bcell hb1
          have hb1z := hb1.size
          simp [Nat.add_one_le_iff] at hb1z
          have HO1 := Lib.hid (Owns.kept (Owns.kept HO.out (bpush (Below.refl _ _) _)) hb1)
          go_wp2_with fail
          go_roundw
          case rel =>
            refine ⟨k + 1, by omega, by go_num, ?_, (bpush2 hbw hzr _).trans (hb1.mono (by simp; omega))⟩
            simp only [agTo, HBAD.out]
            simpa using HO1.out
          case measure => simp [intOf]; omega
    · obtain rfl : k = M.length := by omega
      go_wp2_with fail
      go_ret
      exact ⟨_, rfl, HO.out, hB.trans (hbw.mono (by omega))⟩
end Go.Proofs.Ytdhkgpfcanekkaa
