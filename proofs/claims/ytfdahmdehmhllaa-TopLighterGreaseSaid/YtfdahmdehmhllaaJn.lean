/- A store made of bytes: the loop. -/
import Derived.Test.YtfdahmdehmhllaaJm
import Derived.Deep.DeepCutAuto
namespace Go.Proofs.Ytfdahmdehmhllaa
open Go Go.RowKit Go.Shelf
attribute [local go_sem ↓] Go.wp_at_zero Go.wp_at_succ

theorem cellG {W wA : World} {gs n c b o : Nat} {u : Value} (hG : W.grownBy wA (Value.slice (some ⟨gs, 0, none⟩) n c).ownBlock) (hne : b ≠ gs) (h : W.cell? ⟨b, o, none⟩ = some u) : wA.cell? ⟨b, o, none⟩ = some u :=
  (World.cell?_of_block (hG.block _ (lt_of_cell h) (by simp only [Value.ownBlock, ne_eq, Option.some.injEq]; exact hne))).trans h
theorem bstepB {B : Nat} {w W W1 : World} (h : Below B w W) (hs : B ≤ w.heap.size) (hb : Below W.heap.size W W1) : Below B w W1 := h.trans (hb.mono (Nat.le_trans hs h.size))
set_option maxRecDepth 20000 in
set_option maxHeartbeats 12800000 in
theorem shMade_any (X : List Q4) (fv : Value) (w : World) (hX : ∀ q ∈ X, q4B q) (hf : SliceU enc4 4 w fv X) :
    Calls Try.prog 5 #[.agg #[fv]] w fun e w' => ∃ g c, e = .returned (.slice (some ⟨g, 0, none⟩) (shN X) c) ∧ w.heap.size ≤ g ∧ SliceOf encSo 5 w' (.slice (some ⟨g, 0, none⟩) (shN X) c) (shL X (shN X)) ∧ Below w.heap.size w w' := by
  obtain ⟨i0, hi, hz0, hz1, hz2⟩ := info_parts infoSo
  have HI := Lib.hid hi; have HZ0 := Lib.hid hz0; have HZ1 := Lib.hid hz1; have HZ2 := Lib.hid hz2
  have HF := Lib.hid hf; have HX := Lib.hid hX
  obtain ⟨fa, fc, rfl, hfl, -⟩ := hf
  clear hi hz0 hz1 hz2 hX
  obtain ⟨Wn, hWn⟩ : ∃ Wn : World, (w.alloc (.cells #[.slice fa X.length fc] 28)).alloc (.cells #[] 58) = Wn := ⟨_, rfl⟩
  have hBw : Below w.heap.size w Wn := by rw [← hWn]; exact (by repeat (first | exact Below.refl _ _ | refine Below.drew ?_ | refine bpush ?_ _ | refine bput ?_ (by simp) _ | (refine bstep ?_ (by assumption))))
  have hb0 : Wn.heap[w.heap.size]? = some (.cells #[.slice fa X.length fc] 28 (0, 0)) := by rw [← hWn]; exact heapC rfl
  have hO0 : Owns encSo 5 58 (w.heap.size + 1) Wn (.slice (some ⟨w.heap.size + 1, 0, none⟩) 0 0) [] := by
    have := owns_empty encSo 5 58 (w.heap.size + 1) (w.alloc (.cells #[.slice fa X.length fc] 28)) (by simp)
    rw [World.size_alloc] at this
    rw [← hWn]; exact this
  have hz : Wn.heap.size = w.heap.size + 2 := by rw [← hWn]; simp
  have HB0 := Lib.hid hb0; have HZ := Lib.hid hz; have HO0 := Lib.hid hO0; have HBW := Lib.hid hBw
  have HWN := Lib.hid hWn
  clear hb0 hz hWn hO0 hBw
  go_enter Try.func5, Try.ntmps5
  go_wp2_with fail
  rw [HWN.out]
  go_loopw [4, 3] (fun i s wr => ∃ (k gs gc : Nat), k ≤ shN X ∧ i = iv k ∧ s = .slice (some ⟨gs, 0, none⟩) k gc ∧ Hid (Owns encSo 5 58 (w.heap.size + 1) wr (.slice (some ⟨gs, 0, none⟩) k gc) (shL X k)) ∧ Hid (Below (w.heap.size + 1) Wn wr)) (fun i _ _ => 3 - (intOf i).toNat)
  case atStart => exact ⟨0, w.heap.size + 1, 0, Nat.zero_le _, rfl, rfl, HO0.out, Below.refl _ _⟩
  case round =>
    obtain ⟨k, gs, gc, hk, rfl, rfl, HO, HW⟩ := hrel
    have c0 : wr.cell? ⟨w.heap.size, 0, none⟩ = some (.slice fa X.length fc) := by rw [cell_of_row _ _ _ _ _ _ ((HW.out.block _ (Nat.lt_succ_self _)).trans HB0.out)]; rfl
    have hwz : w.heap.size < wr.heap.size := lt_of_cell c0
    have cA : ∀ o, (wr.alloc o).cell? ⟨w.heap.size, 0, none⟩ = some (.slice fa X.length fc) := fun o => (World.cell?_alloc_old _ _ _ (by show w.heap.size ≠ wr.heap.size; omega)).trans c0
    by_cases hlt : k < shN X
    · by_cases hX0 : X.length = 0
      · have hX1 : X = [] := List.length_eq_zero_iff.1 hX0
        have hn : shN X = 1 := by unfold shN; rw [if_pos hX0]
        have hk0 : k = 0 := by omega
        have HT : Hid (shL X (k + 1) = shL X k ++ [⟨9, 12, 4, 1, 6⟩]) := by rw [hk0, hX1]; rfl
        have hk3' : k < 3 := by omega
        have e0 : ((k : Int) == 0) = true := by rw [hk0]; rfl
        have hki : ¬ ((k : Int) < (X.length : Int)) := by omega
        clear hX1 hk0 hX0
        have t0 : (9 : Int).tmod 30 = (9) % 30 := Int.tmod_eq_emod_of_nonneg (by omega)
        have t1 : (3 : Int).tmod 6 = (3) % 6 := Int.tmod_eq_emod_of_nonneg (by omega)
        have t2 : (3 : Int).tmod 25 = (3) % 25 := Int.tmod_eq_emod_of_nonneg (by omega)
        have t3 : (1 : Int).tmod 6 = (1) % 6 := Int.tmod_eq_emod_of_nonneg (by omega)
        have t4 : (6 : Int).tmod 7 = (6) % 7 := Int.tmod_eq_emod_of_nonneg (by omega)
        go_wp2_with fail
        obtain ⟨Wl, hWl⟩ : ∃ Wl : World, wr.alloc (.cells #[.int .u8 (9), .int .u8 (3), .int .u8 (1), .int .u8 (6)] 22) = Wl := ⟨_, rfl⟩
        have hBl : Below wr.heap.size wr Wl := by rw [← hWl]; exact bpush (Below.refl _ _) _
        have hrl : Wl.heap[wr.heap.size]? = some (.cells #[.int .u8 (9), .int .u8 (3), .int .u8 (1), .int .u8 (6)] 22 (0, 0)) := by rw [← hWl]; exact heap_new _ _ _
        have y1 : Wl.cell? ⟨wr.heap.size, 1, none⟩ = some (.int .u8 (3)) := by rw [cell_of_row _ _ _ _ _ _ hrl]; rfl
        have y2 : Wl.cell? ⟨wr.heap.size, 2, none⟩ = some (.int .u8 (1)) := by rw [cell_of_row _ _ _ _ _ _ hrl]; rfl
        have y3 : Wl.cell? ⟨wr.heap.size, 3, none⟩ = some (.int .u8 (6)) := by rw [cell_of_row _ _ _ _ _ _ hrl]; rfl
        have HOL := Lib.hid (Owns.kept HO.out hBl)
        have hgs : gs < wr.heap.size := (World.ownsRow.lt HO.out gs rfl).2
        have hBs : w.heap.size + 1 ≤ wr.heap.size := hwz
        have hzl : wr.heap.size ≤ Wl.heap.size := hBl.size
        have hBB : Below (w.heap.size + 1) wr Wl := hBl.mono hBs
        have hlk : (shL X k).length = k := by simp [shL]
        have hb2 : Hid ((shL X k).length + 1 ≤ maxLen ∧ ((shL X k).length + 1) * 40 ≤ 140737488355328) := by rw [hlk]; simp [Hid]; unfold maxLen; omega
        have HLK := Lib.hid hlk
        rw [hWl]
        clear hWl hrl cA hBl hlk
        skip
        have g1 : IntKind.i64.wrap (3) = 3 := IntWalk.i64_in _ ⟨by omega, by omega⟩
        have g2 : IntKind.i64.wrap (1) = 1 := IntWalk.i64_in _ ⟨by omega, by omega⟩
        have g3 : IntKind.i64.wrap (6) = 6 := IntWalk.i64_in _ ⟨by omega, by omega⟩
        go_region_held3 (fun w' => w'.cell? ⟨wr.heap.size, 1, none⟩ = some (.int .u8 (3)) ∧ w'.cell? ⟨wr.heap.size, 2, none⟩ = some (.int .u8 (1)) ∧ w'.cell? ⟨wr.heap.size, 3, none⟩ = some (.int .u8 (6)) ∧ Below (w.heap.size + 1) wr w')
          (first | (go_split_ands; refine ⟨?_, ?_, ?_, ?_⟩ <;> first | exact cellG hG (by omega) (by assumption) | exact Below.trans (by assumption) hBA) | (go_split_ands; refine ⟨?_, ?_, ?_, ?_⟩ <;> first | exact kcell (bpush (Below.refl _ _) _) (by assumption) | exact bstepB (by assumption) hBs (bpush (Below.refl _ _) _)) | (go_split_ands; refine ⟨?_, ?_, ?_, ?_⟩ <;> first | exact kcell hbK (by assumption) | exact bstepB (by assumption) hBs hbK) | (refine ⟨?_, ?_, ?_, ?_⟩ <;> first | exact Below.drew (by assumption) | assumption))
          (first | (go_split_ands; (with_reducible refine (firSpan_any _ _ _).mono ?_); rintro e w3 ⟨rfl, hbK⟩; have hOS : Hid (Owns encSo 5 58 (w.heap.size + 1) w3 (.slice (some ⟨gs, 0, none⟩) k gc) (shL X k)) := Owns.kept (w := Wl.drew) HOL.out hbK; have hbs3 : w.heap.size + 1 ≤ w3.heap.size := Nat.le_trans hBs (Nat.le_trans hzl hbK.size)) | (go_split_ands; (refine S_append1 (enc := encSo) (sz := 5) (e := 58) (base := w.heap.size + 1) (⟨9, 12, 4, 1, 6⟩ : So) (by rfl) _ _ 35 (by rfl) Try.underlying35 HI.out HZ0.out HZ1.out HZ2.out rfl (Nat.succ_pos _) encSo_len (encSo_one _) (by rfl) (by rfl) ?_ ?_ hb2.out ?_ ?_); (focus exact Owns.kept hOS.out (bpush (Below.refl _ _) _)); (focus exact encSo_cell (s := ⟨9, 12, 4, 1, 6⟩) (heapA rfl)); (focus exact Nat.le_trans hbs3 (bpush (Below.refl _ _) _).size); intro g' cap wA hown hBA hG))
        all_goals
          rename_i hHeld
          have HBA := Lib.hid hHeld.2.2.2
          have hown2 := hown
          rw [HLK.out] at hown2 ⊢
          have HON : Hid (Owns encSo 5 58 (w.heap.size + 1) wA (.slice (some ⟨g', 0, none⟩) (k + 1) cap) (shL X (k + 1))) := by rw [HT.out]; exact hown2
          clear hown hown2 hBA hG hHeld y1 y2 y3
          go_wp2_with fail
          go_roundw
          case rel => exact ⟨k + 1, g', cap, by omega, by go_num, rfl, HON, HW.out.trans HBA.out⟩
          case measure => simp [intOf]; omega
      · have hn : shN X = min X.length 3 := by unfold shN; rw [if_neg hX0]
        have hkl : k < X.length := by omega
        have hk3' : k < 3 := by omega
        obtain ⟨q, hq⟩ : ∃ q, X[k]? = some q := ⟨X[k], List.getElem?_eq_getElem hkl⟩
        obtain ⟨⟨p0, p0'⟩, ⟨p1, p1'⟩, ⟨p2, p2'⟩, ⟨p3, p3'⟩⟩ := HX.out q (List.mem_of_getElem? hq)
        obtain ⟨q0, q1, q2, q3⟩ := q
        dsimp only at p0 p0' p1 p1' p2 p2' p3 p3'
        have HT : Hid (shL X (k + 1) = shL X k ++ [⟨q0 % 30, q0 % 30 + q1 % 6, 1 + q1 % 25, q2 % 6, q3 % 7⟩]) := by simp [Hid, shL, List.range_succ, shS, List.getD, hq]
        have hfr := SliceU.below HF.out (HBW.out.trans (HW.out.mono (Nat.le_succ _)))
        obtain ⟨a', c', hv, -, hcs⟩ := hfr
        obtain ⟨fb, fo, hfa, hj⟩ := hcs k ⟨q0, q1, q2, q3⟩ hq
        have hfa2 : fa = some ⟨fb, fo, none⟩ := by simp only [Value.slice.injEq] at hv; rw [hv.1, hfa]
        clear hv hcs hfa
        subst hfa2
        have x0 : wr.cell? ⟨fb, fo + k * 4, none⟩ = some (Ytfdahmdehmhllaa.u8 q0) := hj 0 _ rfl
        have x1 : wr.cell? ⟨fb, fo + k * 4 + 1, none⟩ = some (Ytfdahmdehmhllaa.u8 q1) := hj 1 _ rfl
        have x2 : wr.cell? ⟨fb, fo + k * 4 + 2, none⟩ = some (Ytfdahmdehmhllaa.u8 q2) := hj 2 _ rfl
        have x3 : wr.cell? ⟨fb, fo + k * 4 + 3, none⟩ = some (Ytfdahmdehmhllaa.u8 q3) := hj 3 _ rfl
        have hfb : fb < wr.heap.size := lt_of_cell x0
        have xA0 : ∀ o, (wr.alloc o).cell? ⟨fb, fo + k * 4, none⟩ = some (Ytfdahmdehmhllaa.u8 q0) := fun o => (World.cell?_alloc_old _ _ _ (by show fb ≠ wr.heap.size; omega)).trans x0
        have xA1 : ∀ o, (wr.alloc o).cell? ⟨fb, fo + k * 4 + 1, none⟩ = some (Ytfdahmdehmhllaa.u8 q1) := fun o => (World.cell?_alloc_old _ _ _ (by show fb ≠ wr.heap.size; omega)).trans x1
        have xA2 : ∀ o, (wr.alloc o).cell? ⟨fb, fo + k * 4 + 2, none⟩ = some (Ytfdahmdehmhllaa.u8 q2) := fun o => (World.cell?_alloc_old _ _ _ (by show fb ≠ wr.heap.size; omega)).trans x2
        have xA3 : ∀ o, (wr.alloc o).cell? ⟨fb, fo + k * 4 + 3, none⟩ = some (Ytfdahmdehmhllaa.u8 q3) := fun o => (World.cell?_alloc_old _ _ _ (by show fb ≠ wr.heap.size; omega)).trans x3
        clear hj x0 x1 x2 x3
        have hki : (k : Int) < (X.length : Int) := by omega
        have hk0i : (0 : Int) ≤ (k : Int) := by omega
        have hk3 : (k : Int) < 3 := by omega
        have HQ := Lib.hid hq
        clear hq
        have t0 : (q0 : Int).tmod 30 = (q0) % 30 := Int.tmod_eq_emod_of_nonneg (by omega)
        have t1 : (q1 : Int).tmod 6 = (q1) % 6 := Int.tmod_eq_emod_of_nonneg (by omega)
        have t2 : (q1 : Int).tmod 25 = (q1) % 25 := Int.tmod_eq_emod_of_nonneg (by omega)
        have t3 : (q2 : Int).tmod 6 = (q2) % 6 := Int.tmod_eq_emod_of_nonneg (by omega)
        have t4 : (q3 : Int).tmod 7 = (q3) % 7 := Int.tmod_eq_emod_of_nonneg (by omega)
        by_cases hk0 : k = 0
        · have e0 : ((k : Int) == 0) = true := by rw [hk0]; rfl
          clear hk0
          go_wp2_with fail
          obtain ⟨Wl, hWl⟩ : ∃ Wl : World, wr.alloc (.cells #[.int .u8 (q0), .int .u8 (q1), .int .u8 (q2), .int .u8 (q3)] 22) = Wl := ⟨_, rfl⟩
          have hBl : Below wr.heap.size wr Wl := by rw [← hWl]; exact bpush (Below.refl _ _) _
          have hrl : Wl.heap[wr.heap.size]? = some (.cells #[.int .u8 (q0), .int .u8 (q1), .int .u8 (q2), .int .u8 (q3)] 22 (0, 0)) := by rw [← hWl]; exact heap_new _ _ _
          have y1 : Wl.cell? ⟨wr.heap.size, 1, none⟩ = some (.int .u8 (q1)) := by rw [cell_of_row _ _ _ _ _ _ hrl]; rfl
          have y2 : Wl.cell? ⟨wr.heap.size, 2, none⟩ = some (.int .u8 (q2)) := by rw [cell_of_row _ _ _ _ _ _ hrl]; rfl
          have y3 : Wl.cell? ⟨wr.heap.size, 3, none⟩ = some (.int .u8 (q3)) := by rw [cell_of_row _ _ _ _ _ _ hrl]; rfl
          have HOL := Lib.hid (Owns.kept HO.out hBl)
          have hgs : gs < wr.heap.size := (World.ownsRow.lt HO.out gs rfl).2
          have hBs : w.heap.size + 1 ≤ wr.heap.size := hwz
          have hzl : wr.heap.size ≤ Wl.heap.size := hBl.size
          have hBB : Below (w.heap.size + 1) wr Wl := hBl.mono hBs
          have hlk : (shL X k).length = k := by simp [shL]
          have hb2 : Hid ((shL X k).length + 1 ≤ maxLen ∧ ((shL X k).length + 1) * 40 ≤ 140737488355328) := by rw [hlk]; simp [Hid]; unfold maxLen; omega
          have HLK := Lib.hid hlk
          rw [hWl]
          clear hWl hrl cA hBl hlk
          obtain ⟨s0, hs0⟩ : ∃ s0, (q0 : Int) % 30 = s0 := ⟨_, rfl⟩
          obtain ⟨s1, hs1⟩ : ∃ s1, (q1 : Int) % 6 = s1 := ⟨_, rfl⟩
          obtain ⟨s2, hs2⟩ : ∃ s2, (q1 : Int) % 25 = s2 := ⟨_, rfl⟩
          obtain ⟨s3, hs3⟩ : ∃ s3, (q2 : Int) % 6 = s3 := ⟨_, rfl⟩
          obtain ⟨s4, hs4⟩ : ∃ s4, (q3 : Int) % 7 = s4 := ⟨_, rfl⟩
          have hb0' : (0 ≤ s0 ∧ s0 ≤ 29) ∧ (0 ≤ s1 ∧ s1 ≤ 5) ∧ (0 ≤ s2 ∧ s2 ≤ 24) ∧ (0 ≤ s3 ∧ s3 ≤ 5) ∧ (0 ≤ s4 ∧ s4 ≤ 6) := by omega
          rw [hs1] at t1
          rw [hs2] at t2
          rw [hs3] at t3
          rw [hs4] at t4
          rw [hs0, hs1, hs2, hs3, hs4] at HT
          rw [hs0]
          have g4 : IntKind.i64.wrap (s0 + s1) = s0 + s1 := IntWalk.i64_in _ ⟨by omega, by omega⟩
          have g5 : IntKind.i64.wrap (1 + s2) = 1 + s2 := IntWalk.i64_in _ ⟨by omega, by omega⟩
          clear hb0' hs0 hs1 hs2 hs3 hs4 t0
          have g1 : IntKind.i64.wrap (q1) = q1 := IntWalk.i64_in _ ⟨by omega, by omega⟩
          have g2 : IntKind.i64.wrap (q2) = q2 := IntWalk.i64_in _ ⟨by omega, by omega⟩
          have g3 : IntKind.i64.wrap (q3) = q3 := IntWalk.i64_in _ ⟨by omega, by omega⟩
          go_region_held3 (fun w' => w'.cell? ⟨wr.heap.size, 1, none⟩ = some (.int .u8 (q1)) ∧ w'.cell? ⟨wr.heap.size, 2, none⟩ = some (.int .u8 (q2)) ∧ w'.cell? ⟨wr.heap.size, 3, none⟩ = some (.int .u8 (q3)) ∧ Below (w.heap.size + 1) wr w')
            (first | (go_split_ands; refine ⟨?_, ?_, ?_, ?_⟩ <;> first | exact cellG hG (by omega) (by assumption) | exact Below.trans (by assumption) hBA) | (go_split_ands; refine ⟨?_, ?_, ?_, ?_⟩ <;> first | exact kcell (bpush (Below.refl _ _) _) (by assumption) | exact bstepB (by assumption) hBs (bpush (Below.refl _ _) _)) | (go_split_ands; refine ⟨?_, ?_, ?_, ?_⟩ <;> first | exact kcell hbK (by assumption) | exact bstepB (by assumption) hBs hbK) | (refine ⟨?_, ?_, ?_, ?_⟩ <;> first | exact Below.drew (by assumption) | assumption))
            (first | (go_split_ands; (with_reducible refine (firSpan_any _ _ _).mono ?_); rintro e w3 ⟨rfl, hbK⟩; have hOS : Hid (Owns encSo 5 58 (w.heap.size + 1) w3 (.slice (some ⟨gs, 0, none⟩) k gc) (shL X k)) := Owns.kept (w := Wl.drew) HOL.out hbK; have hbs3 : w.heap.size + 1 ≤ w3.heap.size := Nat.le_trans hBs (Nat.le_trans hzl hbK.size)) | (go_split_ands; (refine S_append1 (enc := encSo) (sz := 5) (e := 58) (base := w.heap.size + 1) (⟨s0, s0 + s1, 1 + s2, s3, s4⟩ : So) (by rfl) _ _ 35 (by rfl) Try.underlying35 HI.out HZ0.out HZ1.out HZ2.out rfl (Nat.succ_pos _) encSo_len (encSo_one _) (by rfl) (by rfl) ?_ ?_ hb2.out ?_ ?_); (focus exact Owns.kept hOS.out (bpush (Below.refl _ _) _)); (focus exact encSo_cell (s := ⟨s0, s0 + s1, 1 + s2, s3, s4⟩) (heapA rfl)); (focus exact Nat.le_trans hbs3 (bpush (Below.refl _ _) _).size); intro g' cap wA hown hBA hG))
          all_goals
            rename_i hHeld
            have HBA := Lib.hid hHeld.2.2.2
            have hown2 := hown
            rw [HLK.out] at hown2 ⊢
            have HON : Hid (Owns encSo 5 58 (w.heap.size + 1) wA (.slice (some ⟨g', 0, none⟩) (k + 1) cap) (shL X (k + 1))) := by rw [HT.out]; exact hown2
            clear hown hown2 hBA hG hHeld y1 y2 y3
            go_wp2_with fail
            go_roundw
            case rel => exact ⟨k + 1, g', cap, by omega, by go_num, rfl, HON, HW.out.trans HBA.out⟩
            case measure => simp [intOf]; omega
        · have e0 : ((k : Int) == 0) = false := by rw [beq_eq_false_iff_ne]; omega
          clear hk0
          go_wp2_with fail
          obtain ⟨Wl, hWl⟩ : ∃ Wl : World, wr.alloc (.cells #[.int .u8 (q0), .int .u8 (q1), .int .u8 (q2), .int .u8 (q3)] 22) = Wl := ⟨_, rfl⟩
          have hBl : Below wr.heap.size wr Wl := by rw [← hWl]; exact bpush (Below.refl _ _) _
          have hrl : Wl.heap[wr.heap.size]? = some (.cells #[.int .u8 (q0), .int .u8 (q1), .int .u8 (q2), .int .u8 (q3)] 22 (0, 0)) := by rw [← hWl]; exact heap_new _ _ _
          have y1 : Wl.cell? ⟨wr.heap.size, 1, none⟩ = some (.int .u8 (q1)) := by rw [cell_of_row _ _ _ _ _ _ hrl]; rfl
          have y2 : Wl.cell? ⟨wr.heap.size, 2, none⟩ = some (.int .u8 (q2)) := by rw [cell_of_row _ _ _ _ _ _ hrl]; rfl
          have y3 : Wl.cell? ⟨wr.heap.size, 3, none⟩ = some (.int .u8 (q3)) := by rw [cell_of_row _ _ _ _ _ _ hrl]; rfl
          have HOL := Lib.hid (Owns.kept HO.out hBl)
          have hgs : gs < wr.heap.size := (World.ownsRow.lt HO.out gs rfl).2
          have hBs : w.heap.size + 1 ≤ wr.heap.size := hwz
          have hzl : wr.heap.size ≤ Wl.heap.size := hBl.size
          have hBB : Below (w.heap.size + 1) wr Wl := hBl.mono hBs
          have hlk : (shL X k).length = k := by simp [shL]
          have hb2 : Hid ((shL X k).length + 1 ≤ maxLen ∧ ((shL X k).length + 1) * 40 ≤ 140737488355328) := by rw [hlk]; simp [Hid]; unfold maxLen; omega
          have HLK := Lib.hid hlk
          rw [hWl]
          clear hWl hrl cA hBl hlk
          obtain ⟨s0, hs0⟩ : ∃ s0, (q0 : Int) % 30 = s0 := ⟨_, rfl⟩
          obtain ⟨s1, hs1⟩ : ∃ s1, (q1 : Int) % 6 = s1 := ⟨_, rfl⟩
          obtain ⟨s2, hs2⟩ : ∃ s2, (q1 : Int) % 25 = s2 := ⟨_, rfl⟩
          obtain ⟨s3, hs3⟩ : ∃ s3, (q2 : Int) % 6 = s3 := ⟨_, rfl⟩
          obtain ⟨s4, hs4⟩ : ∃ s4, (q3 : Int) % 7 = s4 := ⟨_, rfl⟩
          have hb0' : (0 ≤ s0 ∧ s0 ≤ 29) ∧ (0 ≤ s1 ∧ s1 ≤ 5) ∧ (0 ≤ s2 ∧ s2 ≤ 24) ∧ (0 ≤ s3 ∧ s3 ≤ 5) ∧ (0 ≤ s4 ∧ s4 ≤ 6) := by omega
          rw [hs1] at t1
          rw [hs2] at t2
          rw [hs3] at t3
          rw [hs4] at t4
          rw [hs0, hs1, hs2, hs3, hs4] at HT
          rw [hs0]
          have g4 : IntKind.i64.wrap (s0 + s1) = s0 + s1 := IntWalk.i64_in _ ⟨by omega, by omega⟩
          have g5 : IntKind.i64.wrap (1 + s2) = 1 + s2 := IntWalk.i64_in _ ⟨by omega, by omega⟩
          clear hb0' hs0 hs1 hs2 hs3 hs4 t0
          have g1 : IntKind.i64.wrap (q1) = q1 := IntWalk.i64_in _ ⟨by omega, by omega⟩
          have g2 : IntKind.i64.wrap (q2) = q2 := IntWalk.i64_in _ ⟨by omega, by omega⟩
          have g3 : IntKind.i64.wrap (q3) = q3 := IntWalk.i64_in _ ⟨by omega, by omega⟩
          go_region_held3 (fun w' => w'.cell? ⟨wr.heap.size, 1, none⟩ = some (.int .u8 (q1)) ∧ w'.cell? ⟨wr.heap.size, 2, none⟩ = some (.int .u8 (q2)) ∧ w'.cell? ⟨wr.heap.size, 3, none⟩ = some (.int .u8 (q3)) ∧ Below (w.heap.size + 1) wr w')
            (first | (go_split_ands; refine ⟨?_, ?_, ?_, ?_⟩ <;> first | exact cellG hG (by omega) (by assumption) | exact Below.trans (by assumption) hBA) | (go_split_ands; refine ⟨?_, ?_, ?_, ?_⟩ <;> first | exact kcell (bpush (Below.refl _ _) _) (by assumption) | exact bstepB (by assumption) hBs (bpush (Below.refl _ _) _)) | (go_split_ands; refine ⟨?_, ?_, ?_, ?_⟩ <;> first | exact kcell hbK (by assumption) | exact bstepB (by assumption) hBs hbK) | (refine ⟨?_, ?_, ?_, ?_⟩ <;> first | exact Below.drew (by assumption) | assumption))
            (first | (go_split_ands; (with_reducible refine (firSpan_any _ _ _).mono ?_); rintro e w3 ⟨rfl, hbK⟩; have hOS : Hid (Owns encSo 5 58 (w.heap.size + 1) w3 (.slice (some ⟨gs, 0, none⟩) k gc) (shL X k)) := Owns.kept (w := Wl.drew) HOL.out hbK; have hbs3 : w.heap.size + 1 ≤ w3.heap.size := Nat.le_trans hBs (Nat.le_trans hzl hbK.size)) | (go_split_ands; (refine S_append1 (enc := encSo) (sz := 5) (e := 58) (base := w.heap.size + 1) (⟨s0, s0 + s1, 1 + s2, s3, s4⟩ : So) (by rfl) _ _ 35 (by rfl) Try.underlying35 HI.out HZ0.out HZ1.out HZ2.out rfl (Nat.succ_pos _) encSo_len (encSo_one _) (by rfl) (by rfl) ?_ ?_ hb2.out ?_ ?_); (focus exact Owns.kept hOS.out (bpush (Below.refl _ _) _)); (focus exact encSo_cell (s := ⟨s0, s0 + s1, 1 + s2, s3, s4⟩) (heapA rfl)); (focus exact Nat.le_trans hbs3 (bpush (Below.refl _ _) _).size); intro g' cap wA hown hBA hG))
          all_goals
            rename_i hHeld
            have HBA := Lib.hid hHeld.2.2.2
            have hown2 := hown
            rw [HLK.out] at hown2 ⊢
            have HON : Hid (Owns encSo 5 58 (w.heap.size + 1) wA (.slice (some ⟨g', 0, none⟩) (k + 1) cap) (shL X (k + 1))) := by rw [HT.out]; exact hown2
            clear hown hown2 hBA hG hHeld y1 y2 y3
            go_wp2_with fail
            go_roundw
            case rel => exact ⟨k + 1, g', cap, by omega, by go_num, rfl, HON, HW.out.trans HBA.out⟩
            case measure => simp [intOf]; omega
    · have hke : k = shN X := by omega
      have hk1 : 1 ≤ k := by rw [hke]; unfold shN; split <;> omega
      have e0 : ((k : Int) == 0) = false := by rw [beq_eq_false_iff_ne]; omega
      have HB : Hid (Below w.heap.size w wr) := HBW.out.trans (HW.out.mono (Nat.le_succ _))
      have HS : Hid (SliceOf encSo 5 wr (.slice (some ⟨gs, 0, none⟩) k gc) (shL X k)) := by
        have hlk : (shL X k).length = k := by simp [shL]
        have := Owns.slice HO.out encSo_len (by rw [hlk, hke]; unfold shN; split <;> omega)
        exact this
      have h3 : (X.length : Int) ≤ (k : Int) ∨ 3 ≤ (k : Int) := by
        rw [hke]; unfold shN
        split
        · rename_i h0; left; rw [h0]; omega
        · omega
      by_cases hkl : k < X.length
      · have hki : (k : Int) < (X.length : Int) := by omega
        have hk3 : ¬ ((k : Int) < 3) := by omega
        have HKE := Lib.hid hke
        clear h3 hke
        go_wp2_with fail
        go_ret
        have hke := HKE.out
        subst hke
        exact ⟨gs, gc, rfl, Nat.le_trans (Nat.le_succ _) (World.ownsRow.lt HO.out gs rfl).1, HS.out, HB.out⟩
      · have hki : ¬ ((k : Int) < (X.length : Int)) := by omega
        have HKE := Lib.hid hke
        clear h3 hke
        go_wp2_with fail
        go_ret
        have hke := HKE.out
        subst hke
        exact ⟨gs, gc, rfl, Nat.le_trans (Nat.le_succ _) (World.ownsRow.lt HO.out gs rfl).1, HS.out, HB.out⟩
end Go.Proofs.Ytfdahmdehmhllaa
