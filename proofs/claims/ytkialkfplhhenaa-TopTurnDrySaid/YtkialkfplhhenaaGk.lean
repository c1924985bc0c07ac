/- The weather made of bytes. -/
import Derived.Test.YtkialkfplhhenaaGj
import Derived.Test.YtkialkfplhhenaaSl
namespace Go.Proofs.Ytkialkfplhhenaa
open Go Go.RowKit Go.Shelf
attribute [local go_sem ↓] Go.wp_at_zero Go.wp_at_succ

def skN (V : List (Int × Int)) : Nat := if V.length = 0 then 1 else min V.length 16
def skSp (V : List (Int × Int)) (i : Nat) : Sp := ((V.getD i (15, 5)).1 % 40, (V.getD i (15, 5)).1 % 40 + (V.getD i (15, 5)).2 % 30)
def skL (V : List (Int × Int)) (k : Nat) : List Sp := (List.range k).map (skSp V)
set_option maxRecDepth 20000 in
set_option maxHeartbeats 12800000 in
theorem skMade_any (fv : Value) (V : List (Int × Int)) (w : World) (hV : ∀ p ∈ V, (0 ≤ p.1 ∧ p.1 ≤ 255) ∧ (0 ≤ p.2 ∧ p.2 ≤ 255)) (hf : SliceU enc2 2 w fv V) :
    Calls Try.prog 4 #[.agg #[fv]] w fun e w' => ∃ v, e = .returned v ∧ Owns encS 2 36 w.heap.size w' v (skL V (skN V)) ∧ Below w.heap.size w w' := by
  obtain ⟨i0, hi, hz0, hz1, hz2⟩ := info_parts infoSpG
  have HI := Lib.hid hi; have HZ0 := Lib.hid hz0; have HZ1 := Lib.hid hz1; have HZ2 := Lib.hid hz2
  have HF := Lib.hid hf; have HVV := Lib.hid hV
  obtain ⟨fa, fc, rfl, hfl, -⟩ := hf
  clear hi hz0 hz1 hz2 hV
  obtain ⟨wc, hwc⟩ : ∃ W : World, w.alloc (.cells #[.slice fa V.length fc] 24) = W := ⟨_, rfl⟩
  have hBc : Below w.heap.size w wc := by rw [← hwc]; exact bpush (Below.refl _ _) _
  have hb0 : wc.heap[w.heap.size]? = some (.cells #[.slice fa V.length fc] 24 (0, 0)) := by rw [← hwc]; exact heap_new _ _ _
  have hzc : wc.heap.size = w.heap.size + 1 := by rw [← hwc]; simp
  have HBC := Lib.hid hBc; have HB0c := Lib.hid hb0; have HWC := Lib.hid hwc
  have HFc := Lib.hid (SliceU.below HF.out hBc)
  have hN12 : skN V ≤ 16 := by unfold skN; split <;> omega
  clear hBc hb0 hwc HF
  go_enter Try.func4, Try.ntmps4
  go_wp2_with fail
  rw [HWC.out]
  go_loopw [3, 4] (fun tv i wr => ∃ k : Nat, k ≤ skN V ∧ i = iv k ∧ Hid (Owns encS 2 36 wc.heap.size wr tv (skL V k)) ∧ Hid (Below wc.heap.size wc wr)) (fun _ i _ => 16 - (intOf i).toNat)
  case atStart => exact ⟨0, by omega, rfl, Lib.hid (by rw [← hzc]; exact owns_empty encS 2 _ _ wc (Nat.le_refl _)), Lib.hid (bpush (Below.refl _ _) _)⟩
  case round =>
    obtain ⟨k, hk, rfl, HO, HW⟩ := hrel
    have hs : wc.heap.size ≤ wr.heap.size := HW.out.size
    have HR0 := Lib.hid ((HW.out.block w.heap.size (by omega)).trans HB0c.out)
    have c4 : wr.cell? ⟨w.heap.size, 0, none⟩ = some (.slice fa V.length fc) := by rw [cell_of_row _ _ _ _ _ _ HR0.out]; rfl
    have hlk : (skL V k).length = k := by simp [skL]
    by_cases hlt : k < skN V
    · have hw0 : w.heap.size ≠ wr.heap.size := by omega
      by_cases hkl : k < V.length
      · obtain ⟨p, hp⟩ : ∃ p, V[k]? = some p := ⟨V[k], List.getElem?_eq_getElem hkl⟩
        obtain ⟨⟨p0, p0'⟩, ⟨p1, p1'⟩⟩ := HVV.out p (List.mem_of_getElem? hp)
        obtain ⟨q0, q1⟩ := p
        dsimp only at p0 p0' p1 p1'
        have HT : Hid (skL V (k + 1) = skL V k ++ [(q0 % 40, q0 % 40 + q1 % 30)]) := by simp [Hid, skL, List.range_succ, skSp, List.getD, hp]
        have hfr := SliceU.below HFc.out HW.out
        obtain ⟨a', c', hv, -, hcs⟩ := hfr
        obtain ⟨fb, fo, hfa, hj⟩ := hcs k (q0, q1) hp
        have hfa2 : fa = some ⟨fb, fo, none⟩ := by simp only [Value.slice.injEq] at hv; rw [hv.1, hfa]
        clear hv hcs hfa
        subst hfa2
        have x0 : wr.cell? ⟨fb, fo + k * 2, none⟩ = some (Ytkialkfplhhenaa.u8 q0) := hj 0 _ rfl
        have x1 : wr.cell? ⟨fb, fo + k * 2 + 1, none⟩ = some (Ytkialkfplhhenaa.u8 q1) := hj 1 _ rfl
        have hfb : fb < wr.heap.size := lt_of_cell x0
        have xA0 : ∀ o, (wr.alloc o).cell? ⟨fb, fo + k * 2, none⟩ = some (Ytkialkfplhhenaa.u8 q0) := fun o => (World.cell?_alloc_old _ _ _ (by show fb ≠ wr.heap.size; omega)).trans x0
        have xA1 : ∀ o, (wr.alloc o).cell? ⟨fb, fo + k * 2 + 1, none⟩ = some (Ytkialkfplhhenaa.u8 q1) := fun o => (World.cell?_alloc_old _ _ _ (by show fb ≠ wr.heap.size; omega)).trans x1
        have cA : ∀ o, (wr.alloc o).cell? ⟨w.heap.size, 0, none⟩ = some (.slice (some ⟨fb, fo, none⟩) V.length fc) := fun o => (World.cell?_alloc_old _ _ _ (by show w.heap.size ≠ wr.heap.size; omega)).trans c4
        clear hj
        have t1 : q0.tmod 40 = q0 % 40 := Int.tmod_eq_emod_of_nonneg p0
        have t2 : q1.tmod 30 = q1 % 30 := Int.tmod_eq_emod_of_nonneg p1
        have r1 : 0 ≤ q0 % 40 ∧ q0 % 40 ≤ 39 := by omega
        have r2 : 0 ≤ q1 % 30 ∧ q1 % 30 ≤ 29 := by omega
        obtain ⟨r1, r1'⟩ := r1; obtain ⟨r2, r2'⟩ := r2
        have g1 : IntKind.i64.wrap q0 = q0 := IntWalk.i64_in _ ⟨by omega, by omega⟩
        have g2 : IntKind.i64.wrap q1 = q1 := IntWalk.i64_in _ ⟨by omega, by omega⟩
        have g3 : IntKind.i64.wrap (q0 % 40 + q1 % 30) = q0 % 40 + q1 % 30 := IntWalk.i64_in _ ⟨by omega, by omega⟩
        have hki : (k : Int) < (V.length : Int) := by omega
        have hk0i : (0 : Int) ≤ (k : Int) := by omega
        have hk12 : (k : Int) < 16 := by omega
        by_cases hk0 : k = 0
        · subst hk0
          have zA0 : ∀ o, (wr.alloc o).cell? ⟨fb, fo, none⟩ = some (Ytkialkfplhhenaa.u8 q0) := fun o => (congrArg (fun x => (wr.alloc o).cell? ⟨fb, x, none⟩) (by omega)).trans (xA0 o)
          have zA1 : ∀ o, (wr.alloc o).cell? ⟨fb, fo + 1, none⟩ = some (Ytkialkfplhhenaa.u8 q1) := fun o => (congrArg (fun x => (wr.alloc o).cell? ⟨fb, x, none⟩) (by omega)).trans (xA1 o)
          go_wp2_with fail
          refine (elmSpan_any _ _ _).mono ?_
          rintro e w1 ⟨rfl, hb1⟩
          have hBX : Below wr.heap.size wr w1 := bstep (by repeat (first | exact Below.refl _ _ | refine Below.drew ?_ | refine bpush ?_ _ | refine bput ?_ (by simp) _ | (refine bstep ?_ (by assumption)))) hb1
          have HBX := Lib.hid hBX
          have HO1 := Lib.hid (Owns.kept HO.out hBX)
          have hb2 : Hid ((skL V 0).length + 1 ≤ maxLen ∧ ((skL V 0).length + 1) * 16 ≤ 140737488355328) := by rw [hlk]; simp [Hid]; unfold maxLen; omega
          have hb3 : Hid (wc.heap.size ≤ (w1.alloc (.cells #[iv (q0 % 40), iv (q0 % 40 + q1 % 30)] 36)).heap.size) := by have := hBX.size; simp [Hid]; omega
          clear hBX hb1
          go_wp2_with (at_builtin; refine L_append1 ((q0 % 40, q0 % 40 + q1 % 30) : Sp) rfl _ _ 27 rfl Try.underlying27 HI.out HZ0.out HZ1.out HZ2.out rfl Nat.two_pos encS_len (encS_one _) rfl rfl (Owns.kept HO1.out (bpush (Below.refl _ _) _)) (encS_cell ?_ ?_) hb2.out hb3.out ?_; go_simp; go_simp; intro v' w3 hown3 hbe3 hg3)
          have HO3 := Lib.hid (show Owns encS 2 36 wc.heap.size w3 v' (skL V (0 + 1)) by rw [HT.out]; exact hown3)
          go_roundw
          case rel =>
            refine ⟨0 + 1, ?_, ?_, HO3, Lib.hid ((HW.out.trans ((bpush HBX.out _).mono (by omega))).trans hbe3)⟩
            · omega
            · first | rfl | go_num
          case measure => first | (simp [intOf]; done) | (simp [intOf]; omega)
        · have hz0 : ¬ (k : Int) = 0 := by omega
          have hz0' : ((k : Int) == 0) = false := by simpa using hz0
          go_wp2_with fail
          refine (elmSpan_any _ _ _).mono ?_
          rintro e w1 ⟨rfl, hb1⟩
          have hBX : Below wr.heap.size wr w1 := bstep (by repeat (first | exact Below.refl _ _ | refine Below.drew ?_ | refine bpush ?_ _ | refine bput ?_ (by simp) _ | (refine bstep ?_ (by assumption)))) hb1
          have HBX := Lib.hid hBX
          have HO1 := Lib.hid (Owns.kept HO.out hBX)
          have hb2 : Hid ((skL V k).length + 1 ≤ maxLen ∧ ((skL V k).length + 1) * 16 ≤ 140737488355328) := by rw [hlk]; simp [Hid]; unfold maxLen; omega
          have hb3 : Hid (wc.heap.size ≤ (w1.alloc (.cells #[iv (q0 % 40), iv (q0 % 40 + q1 % 30)] 36)).heap.size) := by have := hBX.size; simp [Hid]; omega
          clear hBX hb1
          go_wp2_with (at_builtin; refine L_append1 ((q0 % 40, q0 % 40 + q1 % 30) : Sp) rfl _ _ 27 rfl Try.underlying27 HI.out HZ0.out HZ1.out HZ2.out rfl Nat.two_pos encS_len (encS_one _) rfl rfl (Owns.kept HO1.out (bpush (Below.refl _ _) _)) (encS_cell ?_ ?_) hb2.out hb3.out ?_; go_simp; go_simp; intro v' w3 hown3 hbe3 hg3)
          have HO3 := Lib.hid (show Owns encS 2 36 wc.heap.size w3 v' (skL V (k + 1)) by rw [HT.out]; exact hown3)
          go_roundw
          case rel =>
            refine ⟨k + 1, ?_, ?_, HO3, Lib.hid ((HW.out.trans ((bpush HBX.out _).mono (by omega))).trans hbe3)⟩
            · omega
            · first | rfl | go_num
          case measure => first | (simp [intOf]; done) | (simp [intOf]; omega)
      · have hv : V.length = 0 := by unfold skN at hlt; split at hlt <;> omega
        have hk0 : k = 0 := by unfold skN at hlt; split at hlt <;> omega
        subst hk0
        have cA : ∀ o, (wr.alloc o).cell? ⟨w.heap.size, 0, none⟩ = some (.slice fa V.length fc) := fun o => (World.cell?_alloc_old _ _ _ (by show w.heap.size ≠ wr.heap.size; omega)).trans c4
        have HT : Hid (skL V (0 + 1) = skL V 0 ++ [(15, 20)]) := by have e := List.eq_nil_of_length_eq_zero hv; simp [Hid, skL, List.range_succ, skSp, e]
        clear hv
        go_wp2_with fail
        refine (elmSpan_any _ _ _).mono ?_
        rintro e w1 ⟨rfl, hb1⟩
        have hBX : Below wr.heap.size wr w1 := bstep (by repeat (first | exact Below.refl _ _ | refine Below.drew ?_ | refine bpush ?_ _ | refine bput ?_ (by simp) _ | (refine bstep ?_ (by assumption)))) hb1
        have HBX := Lib.hid hBX
        have HO1 := Lib.hid (Owns.kept HO.out hBX)
        have hb2 : Hid ((skL V 0).length + 1 ≤ maxLen ∧ ((skL V 0).length + 1) * 16 ≤ 140737488355328) := by rw [hlk]; simp [Hid]; unfold maxLen; omega
        have hb3 : Hid (wc.heap.size ≤ (w1.alloc (.cells #[iv (15), iv (20)] 36)).heap.size) := by have := hBX.size; simp [Hid]; omega
        clear hBX hb1
        go_wp2_with (at_builtin; refine L_append1 ((15, 20) : Sp) rfl _ _ 27 rfl Try.underlying27 HI.out HZ0.out HZ1.out HZ2.out rfl Nat.two_pos encS_len (encS_one _) rfl rfl (Owns.kept HO1.out (bpush (Below.refl _ _) _)) (encS_cell ?_ ?_) hb2.out hb3.out ?_; go_simp; go_simp; intro v' w3 hown3 hbe3 hg3)
        have HO3 := Lib.hid (show Owns encS 2 36 wc.heap.size w3 v' (skL V (0 + 1)) by rw [HT.out]; exact hown3)
        go_roundw
        case rel =>
          refine ⟨0 + 1, ?_, ?_, HO3, Lib.hid ((HW.out.trans ((bpush HBX.out _).mono (by omega))).trans hbe3)⟩
          · omega
          · first | rfl | go_num
        case measure => first | (simp [intOf]; done) | (simp [intOf]; omega)
    · have hz0 : ¬ (k : Int) = 0 := by unfold skN at hlt; split at hlt <;> omega
      have hz0' : ((k : Int) == 0) = false := by simpa using hz0
      have hge : V.length ≤ k ∨ 16 ≤ k := by unfold skN at hlt; split at hlt <;> omega
      have hkN : k = skN V := by omega
      have HOE : Hid (Owns encS 2 36 wc.heap.size wr u3 (skL V (skN V))) := by rw [← hkN]; exact HO
      clear hkN
      by_cases hkl : (k : Int) < (V.length : Int)
      · have hk12 : ¬ (k : Int) < 16 := by omega
        clear hge
        go_wp2_with fail
        go_ret
        exact ⟨_, rfl, Owns.base2 HOE.out HBC.out.size, bstep HBC.out HW.out⟩
      · clear hge
        go_wp2_with fail
        go_ret
        exact ⟨_, rfl, Owns.base2 HOE.out HBC.out.size, bstep HBC.out HW.out⟩
end Go.Proofs.Ytkialkfplhhenaa
