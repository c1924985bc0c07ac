/- TopTurnWater's walk. -/
import Derived.Test.YtgoncgbbgodliaaLc
import Derived.Test.YtgoncgbbgodliaaLj
import Derived.Test.YtgoncgbbgodliaaLg
import Derived.Test.YtgoncgbbgodliaaLl
import Derived.Test.YtgoncgbbgodliaaGn
import Derived.Test.YtgoncgbbgodliaaKt
namespace Go.Proofs.Ytgoncgbbgodliaa
open Go Go.RowKit Go.Shelf
attribute [local go_sem ↓] Go.wp_at_zero Go.wp_at_succ

theorem win_pair2 {m : Ml} {F : List Sp} {k hours : Int} : ∃ (a : Nat) (er : Int), winV (winO m F k hours) = .tuple #[iv a, iv er] ∧ ((er = 0 ∧ winO m F k hours = some a) ∨ (er = 7 ∧ a = 0 ∧ winO m F k hours = none)) := by
  cases h : winO m F k hours with
  | some a => exact ⟨a, 0, rfl, .inl ⟨rfl, rfl⟩⟩
  | none => exact ⟨0, 7, rfl, .inr ⟨rfl, rfl, rfl⟩⟩
theorem winO_spec {m : Ml} {F : List Sp} {k hours : Int} {a : Nat} (h : winO m F k hours = some a) : a < F.length ∧ winB m F k hours a = true ∧ ∀ q, q < a → winB m F k hours q = false := by
  unfold winO at h; rw [List.find?_range_eq_some] at h
  exact ⟨List.mem_range.1 h.2.1, h.1, fun q hq => by simpa using h.2.2 q hq⟩
theorem winO_nospec {m : Ml} {F : List Sp} {k hours : Int} (h : winO m F k hours = none) : ∀ q, q < F.length → winB m F k hours q = false := by
  unfold winO at h; rw [List.find?_range_eq_none] at h
  exact fun q hq => by simpa using h q hq
theorem stdTo_start2 (n : Nat) (k : Int) (fr : Nat) : stdTo n k (fr : Int) fr = stdTo n k (fr : Int) 0 := by
  unfold stdTo
  refine List.map_congr_left (fun i _ => ?_)
  rw [if_neg (by omega), if_neg (by omega)]
theorem stdTo_plan2 {n : Nat} {k K fr : Int} {j : Nat} (h1 : 1 ≤ k) (h2 : k ≤ K) : vPlan K (stdTo n k fr j) n n = true := by
  rw [vPlan_iff, stdTo_len]
  refine ⟨by omega, List.all_eq_true.2 fun x hx => ?_⟩
  unfold stdTo at hx
  obtain ⟨i, -, rfl⟩ := List.mem_map.1 hx
  rw [inB_iff]; split <;> omega
theorem SliceOf.lt {α : Type} {enc : α → List Value} {sz g o n c : Nat} {w : World} {xs : List α} (h : SliceOf enc sz w (.slice (some ⟨g, o, none⟩) n c) xs) (hx : 0 < xs.length) (he : ∀ x, 0 < (enc x).length) : g < w.heap.size := by
  obtain ⟨a, cap, e, -, hc⟩ := h
  simp only [Value.slice.injEq] at e
  obtain ⟨rfl, -, -⟩ := e
  obtain ⟨x, hx⟩ := getElem?_of_lt hx
  obtain ⟨b, off, ha, hj⟩ := hc 0 x hx
  simp only [Option.some.injEq, Addr.mk.injEq] at ha
  obtain ⟨rfl, -, -⟩ := ha
  exact lt_of_cell (hj 0 _ (List.getElem?_eq_getElem (he x)))
/-- What a window says of how long hammers last: su j hours from the hour j. -/
def WinF (n : Nat) (su : Nat → Nat) (hours a : Nat) (er : Int) : Prop :=
  (er = 7 ∧ a = 0 ∧ ∀ j, j < n → su j < hours) ∨ (er = 0 ∧ a + hours ≤ n ∧ (∀ j, j < a → su j < hours) ∧ hours ≤ su a)

set_option maxRecDepth 20000 in
set_option maxHeartbeats 25600000 in
theorem turnwater_walk (b : Nat → Int) (m0 m1 m2 m3 m4 v0 : Int) (fv : Value) (V : List (Int × Int)) (w : World) (hb : ∀ i, 0 ≤ b i ∧ b i ≤ 255) (h0 : 0 ≤ m0 ∧ m0 ≤ 255) (h1 : 0 ≤ m1 ∧ m1 ≤ 255) (h2 : 0 ≤ m2 ∧ m2 ≤ 255) (h3 : 0 ≤ m3 ∧ m3 ≤ 255) (h4 : 0 ≤ m4 ∧ m4 ≤ 255) (hV : ∀ p ∈ V, (0 ≤ p.1 ∧ p.1 ≤ 255) ∧ (0 ≤ p.2 ∧ p.2 ≤ 255)) (hf : SliceU enc2 2 w fv V) (hv0 : 0 ≤ v0 ∧ v0 ≤ 255) :
    Calls Try.prog 3 #[.agg (fyCells b), .agg #[u8 m0, u8 m1, u8 m2, u8 m3, u8 m4, fv], u8 v0] w fun e w' => e = .returned (.bool true) ∧ Below w.heap.size w w' := by
  have hCC := em_chk (m0 := m0) (m1 := m1) (m4 := m4) h2 h3 hV
  have hFF := fun W (h : SliceU enc2 2 W fv V) => emMade_any m0 m1 m2 m3 m4 fv V W h0 h1 h2 h3 h4 hV h
  generalize emMl m0 m1 m2 m3 m4 = m at *
  generalize emL V (emN V) = F at *
  have HFB := Lib.hid hFF; clear hFF
  obtain ⟨hm, hl24, hl0, hFv⟩ := sChk_zero hCC
  obtain ⟨k1, k2⟩ := (vMill_iff.1 hm).1
  have hok := efFe_ok hb
  have HFE : Hid (∀ W : World, Calls Try.prog 4 #[.agg (fyCells b)] W fun e w' => ∃ pg pc, e = .returned (.tuple #[.agg (stcells (efFe b) (.slice (some ⟨pg, 0, none⟩) 2 pc) (.slice none 0 0)).toArray, iv (efS b), iv (efW b)]) ∧ SliceOf encS 2 w' (.slice (some ⟨pg, 0, none⟩) 2 pc) [efP b 0, efP b 1] ∧ Below W.heap.size W w') := fun W => elmFelt_any b W hb
  generalize hce : efFe b = c at *
  generalize hPe : [efP b 0, efP b 1] = P at *
  have hP2 : P.length = 2 := by rw [← hPe]; rfl
  clear hce hPe hb
  have HTS : Hid (∀ (W : World) (ra : Addr) (rc : Nat), SliceOf encS 2 W (.slice (some ra) 2 rc) P → Calls Try.prog 7 #[.agg #[.slice (some ra) 2 rc, iv c.sl, iv c.sh, iv c.wl, iv c.wh, iv c.turn, iv c.start, iv c.full, iv c.harm, .slice none 0 0]] W fun e w' => ∃ g1 c1 g2 c2, e = .returned (.agg #[.slice (some ⟨g1, 0, none⟩) 2 c1, iv c.sl, iv c.sh, iv c.wl, iv c.wh, iv c.turn, iv c.start, iv c.full, iv c.harm, .slice (some ⟨g2, 0, none⟩) 0 c2]) ∧ SliceOf encS 2 w' (.slice (some ⟨g1, 0, none⟩) 2 c1) P ∧ Below W.heap.size W w') := fun W ra rc h => by
    have := elmStock_any P c ra rc W (by intro h; rw [h] at hP2; cases hP2) (by omega) (by rw [hP2]; exact h)
    rw [hP2] at this; exact this
  have HTU : Hid (∀ (W : World) (pa ma : Option Addr) (pc mc : Nat), SliceOf encS 2 W (.slice pa 2 pc) P → Calls Try.prog 6 #[.agg #[.slice pa 2 pc, iv c.sl, iv c.sh, iv c.wl, iv c.wh, iv c.turn, iv c.start, iv c.full, iv c.harm, .slice ma 0 mc]] W fun e w' => ((∃ t h : Nat, 1 ≤ t ∧ t ≤ 12 ∧ h ≤ 36 ∧ (sureL P (tuF c t)).head? = some h ∧ e = .returned (.tuple #[iv t, iv h, iv 0])) ∨ e = .returned (.tuple #[iv 0, iv 0, iv 7])) ∧ Below W.heap.size W w') := fun W pa ma pc mc h => by
    have := Turns_good P c pa ma pc mc W (by rw [hP2]; exact h) hok
    rw [hP2] at this; exact this
  have HOU : Hid (∀ (tn hn : Nat), 1 ≤ tn → tn ≤ 12 → (sureL P (tuF c tn)).head? = some hn → ∀ (W : World) (pa : Option Addr) (pc : Nat), SliceOf encS 2 W (.slice pa 2 pc) P → Calls Try.prog 10 #[.agg #[.slice pa 2 pc, iv c.sl, iv c.sh, iv c.wl, iv c.wh, iv tn, iv c.start, iv c.full, iv c.harm, .slice none 0 0]] W fun e w' => e = .returned (.tuple #[iv hn, iv 0]) ∧ Below W.heap.size W w') := fun tn hn t1 t2 hh W pa pc h => by
    have := Out_good P (tuF c tn) pa none pc 0 W (by rw [hP2]; exact h) (tuF_ok hok t1 t2)
    rw [hP2, hh] at this
    exact this
  have HL : ∃ (r0 : Int) (su po : Nat → Nat), Hid (r0 = v0 % m.k) ∧ (0 ≤ r0 ∧ r0 < m.k) ∧ (∀ j, su j ≤ F.length ∧ po j ≤ F.length) ∧ Hid (∀ (j : Nat), j < F.length → ∀ (W : World) (fv : Value), SliceOf encS 2 W fv F → Calls Try.prog 13 #[.agg (encMl m).toArray, fv, iv (1 + r0), iv j] W fun e w' => e = .returned (.tuple #[iv (su j), iv (po j), iv 0]) ∧ Below W.heap.size W w') ∧
      Hid (∀ hours : Nat, 1 ≤ hours → hours ≤ F.length → ∃ (a : Nat) (er : Int), WinF F.length su hours a er ∧ Hid (∀ (W : World) (fv : Value), SliceOf encS 2 W fv F → Calls Try.prog 11 #[.agg (encMl m).toArray, fv, iv (1 + r0), iv hours] W fun e w' => e = .returned (.tuple #[iv a, iv er]) ∧ Below W.heap.size W w') ∧ Hid (er = 0 → ∀ (W : World) (fv pv : Value), SliceOf encS 2 W fv F → Ints W pv (stdTo F.length (1 + r0) a (a + hours)) → Calls Try.prog 14 #[.agg (encMl m).toArray, fv, pv] W fun e w' => ∃ q, e = .returned (.tuple #[iv 0, .bool q, iv 7]) ∧ Below W.heap.size W w')) := by
    have a1 : 0 ≤ v0 % m.k := Int.emod_nonneg _ (by omega)
    have a2 : v0 % m.k < m.k := Int.emod_lt_of_pos _ (by omega)
    have hk : inB 1 m.k (1 + v0 % m.k) = true := inB_iff.2 ⟨by omega, by omega⟩
    have hbd : ∀ j : Nat, j < F.length → lastErr m F (1 + v0 % m.k) (j : Int) = 0 ∧ 0 ≤ lastOf Prod.fst m F (1 + v0 % m.k) (j : Int) ∧ lastOf Prod.fst m F (1 + v0 % m.k) (j : Int) ≤ lastOf Prod.snd m F (1 + v0 % m.k) (j : Int) ∧ lastOf Prod.snd m F (1 + v0 % m.k) (j : Int) ≤ F.length := fun j hj => last_bd hCC hk (inB_iff.2 ⟨by omega, by omega⟩)
    refine ⟨v0 % m.k, fun j => if j < F.length then (lastOf Prod.fst m F (1 + v0 % m.k) (j : Int)).toNat else 0, fun j => if j < F.length then (lastOf Prod.snd m F (1 + v0 % m.k) (j : Int)).toNat else 0, rfl, ⟨a1, a2⟩, fun j => ?_, fun j hj W fv h => ?_, fun hours hh1 hh2 => ?_⟩
    · by_cases hj : j < F.length
      · have := hbd j hj; simp only [if_pos hj]; omega
      · simp only [if_neg hj]; omega
    · obtain ⟨e1, e2, e3, e4⟩ := hbd j hj
      have := Lasts_any m F fv (1 + v0 % m.k) j W h
      simp only [if_pos hj]
      rw [e1] at this
      rw [Int.toNat_of_nonneg e2, Int.toNat_of_nonneg (Int.le_trans e2 e3)]
      exact this
    · obtain ⟨a, er, hw, hc⟩ := @win_pair2 m F (1 + v0 % m.k) (hours : Int)
      refine ⟨a, er, ?_, fun W fv h => ?_, fun he W fv pv hS hP => ?_⟩
      · rcases hc with ⟨rfl, hs⟩ | ⟨rfl, rfl, hn⟩
        · obtain ⟨w1, w2, w3⟩ := winO_spec hs
          refine .inr ⟨rfl, (window_plain hCC w2).1, fun j hj => ?_, ?_⟩
          · have := w3 j hj
            rw [win_last hCC hk (by omega), decide_eq_false_iff_not] at this
            have := hbd j (by omega)
            simp only [if_pos (show j < F.length by omega)]; omega
          · rw [win_last hCC hk w1, decide_eq_true_eq] at w2
            simp only [if_pos w1]; omega
        · refine .inl ⟨rfl, rfl, fun j hj => ?_⟩
          have := winO_nospec hn j hj
          rw [win_last hCC hk hj, decide_eq_false_iff_not] at this
          have := hbd j hj
          simp only [if_pos hj]; omega
      · have := Window_good m F fv (1 + v0 % m.k) hours W h hCC hk (inB_iff.2 ⟨by omega, by omega⟩)
        rw [hw] at this; exact this
      · have := Goes_good m F _ fv pv W hCC (stdTo_plan2 (by omega) (by omega)) hS hP
        rcases hc with ⟨-, hs⟩ | ⟨h7, -, -⟩
        · have p3 := (window_plain hCC (winO_spec hs).2.1).2
          rw [goesHour, goesErr, if_pos p3, if_pos p3] at this
          exact this.mono fun e w' ⟨h1, h2⟩ => ⟨_, h1, h2⟩
        · omega
  obtain ⟨r0, su, po, HR0, ⟨s1, s2⟩, hsp, HLA, HWN⟩ := HL
  obtain ⟨i0, hi, hz0, hz1, hz2⟩ := info_parts info3
  have HI := Lib.hid hi; have HZ0 := Lib.hid hz0; have HZ1 := Lib.hid hz1; have HZ2 := Lib.hid hz2
  have hby : i0.bytes * F.length ≤ 281474976710656 := by rw [hz2]; omega
  have hml : F.length ≤ maxLen := by unfold maxLen; omega
  have HBY := Lib.hid hby; have HML := Lib.hid hml
  have HSP := Lib.hid hsp
  have HP2 := Lib.hid hP2
  clear hi hz0 hz1 hz2 hby hml hsp hok hP2
  obtain ⟨kk, t, bl, bh, h, nl, nh⟩ := m
  dsimp only at k1 k2 HR0 s2
  simp only [encMl] at HLA HWN
  clear hCC hm
  obtain ⟨sl, sh, wl, wh, tu, st, fu, ha⟩ := c
  simp only [stcells, tuF] at *
  obtain ⟨w0, hw0⟩ : ∃ W : World, (w.alloc (.cells (fyCells b) 26)).alloc (.cells #[u8 m0, u8 m1, u8 m2, u8 m3, u8 m4, fv] 30) = W := ⟨_, rfl⟩
  have HB0 : Hid (Below w.heap.size w w0) := by rw [← hw0]; exact (by repeat (first | exact Below.refl _ _ | refine Below.drew ?_ | refine bpush ?_ _ | refine bput ?_ (by simp) _ | (refine bstep ?_ (by assumption))))
  have HR0A : Hid (w0.heap[w.heap.size]? = some (.cells (fyCells b) 26 (0, 0))) := by
    rw [← hw0]; exact (Below.heap_alloc _ _ _ (by simp)).trans (heap_new _ _ _)
  have HR1 : Hid (w0.heap[w.heap.size + 1]? = some (.cells #[u8 m0, u8 m1, u8 m2, u8 m3, u8 m4, fv] 30 (0, 0))) := by rw [← hw0]; exact heapA (by simp)
  have HF0 := Lib.hid (SliceU.below hf HB0.out)
  have l0 : w0.cell? ⟨w.heap.size, 0, none⟩ = some (Ytgoncgbbgodliaa.u8 (b 0)) := by rw [cell_of_row _ _ _ _ _ _ HR0A.out]; rfl
  have l1 : w0.cell? ⟨w.heap.size, 1, none⟩ = some (Ytgoncgbbgodliaa.u8 (b 1)) := by rw [cell_of_row _ _ _ _ _ _ HR0A.out]; rfl
  have l2 : w0.cell? ⟨w.heap.size, 2, none⟩ = some (Ytgoncgbbgodliaa.u8 (b 2)) := by rw [cell_of_row _ _ _ _ _ _ HR0A.out]; rfl
  have l3 : w0.cell? ⟨w.heap.size, 3, none⟩ = some (Ytgoncgbbgodliaa.u8 (b 3)) := by rw [cell_of_row _ _ _ _ _ _ HR0A.out]; rfl
  have l4 : w0.cell? ⟨w.heap.size, 4, none⟩ = some (Ytgoncgbbgodliaa.u8 (b 4)) := by rw [cell_of_row _ _ _ _ _ _ HR0A.out]; rfl
  have l5 : w0.cell? ⟨w.heap.size, 5, none⟩ = some (Ytgoncgbbgodliaa.u8 (b 5)) := by rw [cell_of_row _ _ _ _ _ _ HR0A.out]; rfl
  have l6 : w0.cell? ⟨w.heap.size, 6, none⟩ = some (Ytgoncgbbgodliaa.u8 (b 6)) := by rw [cell_of_row _ _ _ _ _ _ HR0A.out]; rfl
  have l7 : w0.cell? ⟨w.heap.size, 7, none⟩ = some (Ytgoncgbbgodliaa.u8 (b 7)) := by rw [cell_of_row _ _ _ _ _ _ HR0A.out]; rfl
  have l8 : w0.cell? ⟨w.heap.size, 8, none⟩ = some (Ytgoncgbbgodliaa.u8 (b 8)) := by rw [cell_of_row _ _ _ _ _ _ HR0A.out]; rfl
  have l9 : w0.cell? ⟨w.heap.size, 9, none⟩ = some (Ytgoncgbbgodliaa.u8 (b 9)) := by rw [cell_of_row _ _ _ _ _ _ HR0A.out]; rfl
  have l10 : w0.cell? ⟨w.heap.size, 10, none⟩ = some (Ytgoncgbbgodliaa.u8 (b 10)) := by rw [cell_of_row _ _ _ _ _ _ HR0A.out]; rfl
  have l11 : w0.cell? ⟨w.heap.size, 11, none⟩ = some (Ytgoncgbbgodliaa.u8 (b 11)) := by rw [cell_of_row _ _ _ _ _ _ HR0A.out]; rfl
  simp only [fyCells] at hw0 HFE ⊢
  clear hf h0 h1 h2 h3 h4
  go_enter Try.func3, Try.ntmps3
  go_wp2_with fail
  clear hw0
  refine (HFE.out _).mono ?_
  rintro e w1 ⟨pg, pc, rfl, hs, hb1⟩
  have HS1 := Lib.hid hs
  have HPG := Lib.hid (SliceOf.lt hs (by have := HP2.out; omega) (fun x => by rw [encS_len]; omega))
  have HB1 := Lib.hid (bstep HB0.out hb1)
  have HR11 := Lib.hid (bblk hb1 HR1.out)
  have HF1 := Lib.hid (SliceU.below HF0.out hb1)
  clear hs hb1 l0 l1 l2 l3 l4 l5 l6 l7 l8 l9 l10 l11
  have hz1 : w.heap.size + 1 < w1.heap.size := (Array.getElem?_eq_some_iff.1 HR11.out).1
  have n0 : w1.cell? ⟨w.heap.size + 1, 0, none⟩ = some (Ytgoncgbbgodliaa.u8 m0) := by rw [cell_of_row _ _ _ _ _ _ HR11.out]; rfl
  have n1 : w1.cell? ⟨w.heap.size + 1, 1, none⟩ = some (Ytgoncgbbgodliaa.u8 m1) := by rw [cell_of_row _ _ _ _ _ _ HR11.out]; rfl
  have n2 : w1.cell? ⟨w.heap.size + 1, 2, none⟩ = some (Ytgoncgbbgodliaa.u8 m2) := by rw [cell_of_row _ _ _ _ _ _ HR11.out]; rfl
  have n3 : w1.cell? ⟨w.heap.size + 1, 3, none⟩ = some (Ytgoncgbbgodliaa.u8 m3) := by rw [cell_of_row _ _ _ _ _ _ HR11.out]; rfl
  have n4 : w1.cell? ⟨w.heap.size + 1, 4, none⟩ = some (Ytgoncgbbgodliaa.u8 m4) := by rw [cell_of_row _ _ _ _ _ _ HR11.out]; rfl
  have n5 : w1.cell? ⟨w.heap.size + 1, 5, none⟩ = some (fv) := by rw [cell_of_row _ _ _ _ _ _ HR11.out]; rfl
  go_wp2_with fail
  obtain ⟨W2, hW2⟩ : ∃ W : World, w1.alloc (.cells #[.slice (some ⟨pg, 0, none⟩) 2 pc, iv sl, iv sh, iv wl, iv wh, iv tu, iv st, iv fu, iv ha, .slice none 0 0] 36) = W := ⟨_, rfl⟩
  have hbp : Below w1.heap.size w1 W2 := by rw [← hW2]; exact bpush (Below.refl _ _) _
  have HRC : Hid (W2.heap[w1.heap.size]? = some (.cells #[.slice (some ⟨pg, 0, none⟩) 2 pc, iv sl, iv sh, iv wl, iv wh, iv tu, iv st, iv fu, iv ha, .slice none 0 0] 36 (0, 0))) := by rw [← hW2]; exact heap_new _ _ _
  have HB2 := Lib.hid (bstep HB1.out hbp)
  have HS2 := Lib.hid (HS1.out.below hbp)
  have HF2 := Lib.hid (SliceU.below HF1.out hbp)
  clear hbp n0 n1 n2 n3 n4 n5
  have HZ2W : Hid (w1.heap.size < W2.heap.size) := by rw [← hW2]; simp [Hid]
  rw [hW2]
  clear hW2
  refine (HFB.out _ HF2.out).mono ?_
  rintro e w3 ⟨lv, rfl, ho3, hb3⟩
  obtain ⟨lg, lc, rfl⟩ := owns_addr ho3 hl0
  simp only [encMl]
  have HSL := Lib.hid (Owns.slice ho3 encS_len (by omega))
  have HLG : Hid (w1.heap.size < lg) := Nat.lt_of_lt_of_le HZ2W.out (ho3.lt lg rfl).1
  have HB3 := Lib.hid (bstep HB2.out hb3)
  have HS3 := Lib.hid (HS2.out.below hb3)
  have HRC3 := Lib.hid (bblk hb3 HRC.out)
  clear ho3 hb3
  have hz3 : w1.heap.size < w3.heap.size := (Array.getElem?_eq_some_iff.1 HRC3.out).1
  have t0 : v0.tmod kk = r0 := by rw [HR0.out]; exact Int.tmod_eq_emod_of_nonneg hv0.1
  have f0 : IntKind.i64.wrap v0 = v0 := IntWalk.i64_in _ ⟨by omega, by omega⟩
  have f2 : IntKind.i64.wrap (1 + r0) = 1 + r0 := IntWalk.i64_in _ ⟨by omega, by omega⟩
  have f3 : ¬ (kk = 0) := by omega
  have f5 : (kk == 0) = false := by simpa using f3
  have f7 : IntKind.i64.wrap r0 = r0 := IntWalk.i64_in _ ⟨by omega, by omega⟩
  obtain ⟨W4, hW4⟩ : ∃ W : World, w3.alloc (.cells #[iv kk, iv t, iv bl, iv bh, iv h, iv nl, iv nh] 40) = W := ⟨_, rfl⟩
  have hbp : Below w3.heap.size w3 W4 := by rw [← hW4]; exact bpush (Below.refl _ _) _
  have HRM : Hid (W4.heap[w3.heap.size]? = some (.cells #[iv kk, iv t, iv bl, iv bh, iv h, iv nl, iv nh] 40 (0, 0))) := by rw [← hW4]; exact heap_new _ _ _
  have HB4 := Lib.hid (bstep HB3.out hbp)
  have HS4 := Lib.hid (HS3.out.below hbp)
  have HL4 := Lib.hid (HSL.out.below hbp)
  have HRC4 := Lib.hid (bblk hbp HRC3.out)
  have d0 : W4.cell? ⟨w3.heap.size, 0, none⟩ = some (iv kk) := by rw [cell_of_row _ _ _ _ _ _ HRM.out]; rfl
  clear hbp
  have c0 : W4.cell? ⟨w1.heap.size, 0, none⟩ = some (.slice (some ⟨pg, 0, none⟩) 2 pc) := by rw [cell_of_row _ _ _ _ _ _ HRC4.out]; rfl
  have c1 : W4.cell? ⟨w1.heap.size, 1, none⟩ = some (iv sl) := by rw [cell_of_row _ _ _ _ _ _ HRC4.out]; rfl
  have c2 : W4.cell? ⟨w1.heap.size, 2, none⟩ = some (iv sh) := by rw [cell_of_row _ _ _ _ _ _ HRC4.out]; rfl
  have c3 : W4.cell? ⟨w1.heap.size, 3, none⟩ = some (iv wl) := by rw [cell_of_row _ _ _ _ _ _ HRC4.out]; rfl
  have c4 : W4.cell? ⟨w1.heap.size, 4, none⟩ = some (iv wh) := by rw [cell_of_row _ _ _ _ _ _ HRC4.out]; rfl
  have c5 : W4.cell? ⟨w1.heap.size, 5, none⟩ = some (iv tu) := by rw [cell_of_row _ _ _ _ _ _ HRC4.out]; rfl
  have c6 : W4.cell? ⟨w1.heap.size, 6, none⟩ = some (iv st) := by rw [cell_of_row _ _ _ _ _ _ HRC4.out]; rfl
  have c7 : W4.cell? ⟨w1.heap.size, 7, none⟩ = some (iv fu) := by rw [cell_of_row _ _ _ _ _ _ HRC4.out]; rfl
  have c8 : W4.cell? ⟨w1.heap.size, 8, none⟩ = some (iv ha) := by rw [cell_of_row _ _ _ _ _ _ HRC4.out]; rfl
  have c9 : W4.cell? ⟨w1.heap.size, 9, none⟩ = some (.slice none 0 0) := by rw [cell_of_row _ _ _ _ _ _ HRC4.out]; rfl
  go_wp2_with fail
  clear hW4
  refine (HTS.out _ _ _ HS4.out).mono ?_
  rintro e w5 ⟨g1, k1, g2, k2, rfl, hs5, hb5⟩
  have HS5c := Lib.hid hs5
  have HB5 := Lib.hid (bstep HB4.out hb5)
  have HS5 := Lib.hid (HS4.out.below hb5)
  have HL5 := Lib.hid (HL4.out.below hb5)
  have HRC5 := Lib.hid (bblk hb5 HRC4.out)
  have HRM5 := Lib.hid (bblk hb5 HRM.out)
  clear hs5 hb5 c0 c1 c2 c3 c4 c5 c6 c7 c8 c9 d0 t0 f0 f2 f3 f5 f7
  go_wp2_with fail
  refine (HTU.out _ _ _ _ _ HS5c.out).mono ?_
  rintro e w6 ⟨hcase, hb6⟩
  have HB6 := Lib.hid (bstep HB5.out hb6)
  have HS6 := Lib.hid (HS5.out.below hb6)
  have HL6 := Lib.hid (HL5.out.below hb6)
  have HRC6 := Lib.hid (bblk hb6 HRC5.out)
  have HRM6 := Lib.hid (bblk hb6 HRM5.out)
  clear hb6
  rcases hcase with ⟨tn, hn, t1, t2, t3, t4, rfl⟩ | rfl
  case inr =>
    go_wp2_with fail
    refine (elmFulled_any _).mono ?_
    rintro e w8 ⟨rfl, hb8⟩
    go_wp2_with fail
    refine (elmWater_any _).mono ?_
    rintro e w9 ⟨rfl, hb9⟩
    go_wp2_with fail
    go_ret
    exact ⟨rfl, bstep (bstep (HB6.out) hb8) hb9⟩
  have T4 := Lib.hid t4
  clear t4
  have a1 : decide ((tn : Int) < 1) = false := decide_eq_false (by omega)
  have a2 : decide (12 < (tn : Int)) = false := decide_eq_false (by omega)
  have a3 : decide ((hn : Int) < 0) = false := decide_eq_false (by omega)
  have a4 : decide (36 < (hn : Int)) = false := decide_eq_false (by omega)
  have a5 : decide (12 < tn) = false := decide_eq_false (by omega)
  have a6 : decide (36 < hn) = false := decide_eq_false (by omega)
  have a7 : decide (tn < 1) = false := decide_eq_false (by omega)
  have c0 : w6.cell? ⟨w1.heap.size, 0, none⟩ = some (.slice (some ⟨pg, 0, none⟩) 2 pc) := by rw [cell_of_row _ _ _ _ _ _ HRC6.out]; rfl
  have c1 : w6.cell? ⟨w1.heap.size, 1, none⟩ = some (iv sl) := by rw [cell_of_row _ _ _ _ _ _ HRC6.out]; rfl
  have c2 : w6.cell? ⟨w1.heap.size, 2, none⟩ = some (iv sh) := by rw [cell_of_row _ _ _ _ _ _ HRC6.out]; rfl
  have c3 : w6.cell? ⟨w1.heap.size, 3, none⟩ = some (iv wl) := by rw [cell_of_row _ _ _ _ _ _ HRC6.out]; rfl
  have c4 : w6.cell? ⟨w1.heap.size, 4, none⟩ = some (iv wh) := by rw [cell_of_row _ _ _ _ _ _ HRC6.out]; rfl
  have c5 : w6.cell? ⟨w1.heap.size, 5, none⟩ = some (iv tu) := by rw [cell_of_row _ _ _ _ _ _ HRC6.out]; rfl
  have c6 : w6.cell? ⟨w1.heap.size, 6, none⟩ = some (iv st) := by rw [cell_of_row _ _ _ _ _ _ HRC6.out]; rfl
  have c7 : w6.cell? ⟨w1.heap.size, 7, none⟩ = some (iv fu) := by rw [cell_of_row _ _ _ _ _ _ HRC6.out]; rfl
  have c8 : w6.cell? ⟨w1.heap.size, 8, none⟩ = some (iv ha) := by rw [cell_of_row _ _ _ _ _ _ HRC6.out]; rfl
  have c9 : w6.cell? ⟨w1.heap.size, 9, none⟩ = some (.slice none 0 0) := by rw [cell_of_row _ _ _ _ _ _ HRC6.out]; rfl
  have y5 : w6.frozen? ⟨w1.heap.size, 5, none⟩ = false := frozen_of_row _ _ _ _ _ HRC6.out
  go_wp2_with fail
  obtain ⟨W7, hW7⟩ : ∃ W : World, w6.setCell ⟨w1.heap.size, 5, none⟩ (.int .i64 tn) = W := ⟨_, rfl⟩
  have HB7 : Hid (Below w.heap.size w W7) := by rw [← hW7]; exact bput HB6.out (by show w.heap.size ≤ w1.heap.size; omega) _
  have hsame : ∀ g o, g ≠ w1.heap.size → W7.cell? ⟨g, o, none⟩ = w6.cell? ⟨g, o, none⟩ := fun g o hne => by rw [← hW7]; exact World.cell?_of_block (Below.heap_setCell _ _ _ _ hne)
  have HS7 : Hid (SliceOf encS 2 W7 (.slice (some ⟨pg, 0, none⟩) 2 pc) P) := SliceOf.at_block HS6.out (fun o u hu => (hsame pg o (by have := HPG.out; omega)).trans hu)
  have HL7 : Hid (SliceOf encS 2 W7 (.slice (some ⟨lg, 0, none⟩) F.length lc) F) := SliceOf.at_block HL6.out (fun o u hu => (hsame lg o (by have := HLG.out; omega)).trans hu)
  have HRM7 : Hid (W7.heap[w3.heap.size]? = some (.cells #[iv kk, iv t, iv bl, iv bh, iv h, iv nl, iv nh] 40 (0, 0))) := by rw [← hW7]; exact (Below.heap_setCell _ _ _ _ (by show w3.heap.size ≠ w1.heap.size; omega)).trans HRM6.out
  rw [hW7]
  clear hW7 hsame c0 c1 c2 c3 c4 c5 c6 c7 c8 c9 y5 a1 a2 a3 a4 a5 a6 a7
  refine (HOU.out tn hn t1 t2 T4.out _ _ _ HS7.out).mono ?_
  rintro e w8 ⟨rfl, hb8⟩
  have HB8 := Lib.hid (bstep HB7.out hb8)
  have HL8 := Lib.hid (HL7.out.below hb8)
  have HRM8 := Lib.hid (bblk hb8 HRM7.out)
  clear hb8 HS1 HS2 HS3 HS4 HS5 HS5c HS6 HS7 HB1 HB2 HB3 HB4 HB5 HB6 HB7 HF0 HF1 HF2 HL4 HL5 HL6 HL7 HRM HRM5 HRM6 HRM7 HRC HRC3 HRC4 HRC5 HRC6 HR0A HR1 HR11 HFE HFB HTS HTU HOU T4
  have hhh : ((hn : Int) == (hn : Int)) = true := by simp
  by_cases hz : hn = 0
  · subst hz
    go_wp2_with fail
    refine (elmFulled_any _).mono ?_
    rintro e w8 ⟨rfl, hb8⟩
    go_wp2_with fail
    refine (elmWater_any _).mono ?_
    rintro e w9 ⟨rfl, hb9⟩
    go_wp2_with fail
    go_ret
    exact ⟨rfl, bstep (bstep (HB8.out) hb8) hb9⟩
  have b1 : decide ((hn : Int) = 0) = false := decide_eq_false (by omega)
  have b2 : decide (hn = 0) = false := decide_eq_false (by omega)
  have b3 : ((hn : Int) == 0) = false := by rw [beq_eq_false_iff_ne]; omega
  by_cases hg : F.length < hn
  · have b4 : decide ((F.length : Int) < (hn : Int)) = true := decide_eq_true (by omega)
    have b5 : decide (F.length < hn) = true := decide_eq_true hg
    go_wp2_with fail
    refine (elmFulled_any _).mono ?_
    rintro e w8 ⟨rfl, hb8⟩
    go_wp2_with fail
    refine (elmWater_any _).mono ?_
    rintro e w9 ⟨rfl, hb9⟩
    go_wp2_with fail
    go_ret
    exact ⟨rfl, bstep (bstep (HB8.out) hb8) hb9⟩
  have b4 : decide ((F.length : Int) < (hn : Int)) = false := decide_eq_false (by omega)
  have b5 : decide (F.length < hn) = false := decide_eq_false hg
  obtain ⟨a, er, HWF, HWI, HGO⟩ := HWN.out hn (by omega) (by omega)
  clear HWN
  have d0 : w8.cell? ⟨w3.heap.size, 0, none⟩ = some (iv kk) := by rw [cell_of_row _ _ _ _ _ _ HRM8.out]; rfl
  have d1 : w8.cell? ⟨w3.heap.size, 1, none⟩ = some (iv t) := by rw [cell_of_row _ _ _ _ _ _ HRM8.out]; rfl
  have d2 : w8.cell? ⟨w3.heap.size, 2, none⟩ = some (iv bl) := by rw [cell_of_row _ _ _ _ _ _ HRM8.out]; rfl
  have d3 : w8.cell? ⟨w3.heap.size, 3, none⟩ = some (iv bh) := by rw [cell_of_row _ _ _ _ _ _ HRM8.out]; rfl
  have d4 : w8.cell? ⟨w3.heap.size, 4, none⟩ = some (iv h) := by rw [cell_of_row _ _ _ _ _ _ HRM8.out]; rfl
  have d5 : w8.cell? ⟨w3.heap.size, 5, none⟩ = some (iv nl) := by rw [cell_of_row _ _ _ _ _ _ HRM8.out]; rfl
  have d6 : w8.cell? ⟨w3.heap.size, 6, none⟩ = some (iv nh) := by rw [cell_of_row _ _ _ _ _ _ HRM8.out]; rfl
  have hL8 := HL8.out
  have hb8 : Below w8.heap.size w8 w8 := Below.refl _ _
  have hfm : F.length ≤ 1000000 := by omega
  have hfm2 : F.length ≤ 140737488355328 := by omega
  have HFO := Lib.hid (fun (W : World) (h : SliceOf encS 2 W (.slice (some ⟨lg, 0, none⟩) F.length lc) F) => elmSpans_any F ⟨lg, 0, none⟩ lc W hfm h)
  go_wp2_with fail
  go_region_held3 (fun w' => w'.cell? ⟨w3.heap.size, 0, none⟩ = some (iv kk) ∧ w'.cell? ⟨w3.heap.size, 1, none⟩ = some (iv t) ∧ w'.cell? ⟨w3.heap.size, 2, none⟩ = some (iv bl) ∧ w'.cell? ⟨w3.heap.size, 3, none⟩ = some (iv bh) ∧ w'.cell? ⟨w3.heap.size, 4, none⟩ = some (iv h) ∧ w'.cell? ⟨w3.heap.size, 5, none⟩ = some (iv nl) ∧ w'.cell? ⟨w3.heap.size, 6, none⟩ = some (iv nh) ∧ SliceOf encS 2 w' (.slice (some ⟨lg, 0, none⟩) F.length lc) F ∧ Below w8.heap.size w8 w')
    (first | (go_split_ands; refine ⟨?_, ?_, ?_, ?_, ?_, ?_, ?_, ?_, ?_⟩ <;> first | assumption | exact kcell hbK (by assumption) | exact kfrozen hbK (by assumption) (by assumption) | exact bstep (by assumption) hbK | exact SliceOf.below (by assumption) hbK) | (refine ⟨?_, ?_, ?_, ?_, ?_, ?_, ?_, ?_, ?_⟩ <;> first | exact Below.drew (by assumption) | exact SliceOf.below (by assumption) ((Below.refl _ _).drew) | assumption))
    (first | (go_split_ands; (with_reducible refine (HFO.out _ (by assumption)).mono ?_); rintro e wO ⟨vo, rfl, hoO, hbK⟩; have hSO := Owns.slice hoO encS_len hfm2) | ((with_reducible refine (HWI.out _ _ (by assumption)).mono ?_); rintro e wM ⟨rfl, hbK⟩))
  rename_i hHeld
  have hb9 : Below w8.heap.size w8 wM := hHeld.2.2.2.2.2.2.2.2
  have HB9 := Lib.hid (bstep HB8.out hb9)
  have HL9 := Lib.hid (HL8.out.below hb9)
  have HRM9 := Lib.hid (bblk hb9 HRM8.out)
  clear hHeld hb8 hb9 hbK hSO hoO d0 d1 d2 d3 d4 d5 d6 hL8
  rcases HWF with ⟨rfl, rfl, hw⟩ | ⟨rfl, hah, hwl, hwg⟩
  · have HW := Lib.hid hw
    clear hw
    rw [show ((0 : Nat) : Int) = 0 from rfl]
    go_wp2_with fail
    go_loopw [20] (fun i wr => ∃ j : Nat, j ≤ F.length ∧ i = iv j ∧ Hid (Below wM.heap.size wM wr)) (fun i _ => F.length - (intOf i).toNat)
    case atStart => exact ⟨0, Nat.zero_le _, rfl, Below.refl _ _⟩
    case round =>
      obtain ⟨j, hj, rfl, HBR⟩ := hrel
      have HLR := Lib.hid (HL9.out.below HBR.out)
      have HRMR := Lib.hid (bblk HBR.out HRM9.out)
      by_cases hlt : j < F.length
      · have y1 : decide ((j : Int) < (F.length : Int)) = true := decide_eq_true (by omega)
        have y2 : decide (j < F.length) = true := decide_eq_true hlt
        have HLJ := Lib.hid (HLA.out j hlt)
        have d0 : wr.cell? ⟨w3.heap.size, 0, none⟩ = some (iv kk) := by rw [cell_of_row _ _ _ _ _ _ HRMR.out]; rfl
        have d1 : wr.cell? ⟨w3.heap.size, 1, none⟩ = some (iv t) := by rw [cell_of_row _ _ _ _ _ _ HRMR.out]; rfl
        have d2 : wr.cell? ⟨w3.heap.size, 2, none⟩ = some (iv bl) := by rw [cell_of_row _ _ _ _ _ _ HRMR.out]; rfl
        have d3 : wr.cell? ⟨w3.heap.size, 3, none⟩ = some (iv bh) := by rw [cell_of_row _ _ _ _ _ _ HRMR.out]; rfl
        have d4 : wr.cell? ⟨w3.heap.size, 4, none⟩ = some (iv h) := by rw [cell_of_row _ _ _ _ _ _ HRMR.out]; rfl
        have d5 : wr.cell? ⟨w3.heap.size, 5, none⟩ = some (iv nl) := by rw [cell_of_row _ _ _ _ _ _ HRMR.out]; rfl
        have d6 : wr.cell? ⟨w3.heap.size, 6, none⟩ = some (iv nh) := by rw [cell_of_row _ _ _ _ _ _ HRMR.out]; rfl
        have hLr := HLR.out
        have hbr : Below wr.heap.size wr wr := Below.refl _ _
        go_wp2_with fail
        go_region_held3 (fun w' => w'.cell? ⟨w3.heap.size, 0, none⟩ = some (iv kk) ∧ w'.cell? ⟨w3.heap.size, 1, none⟩ = some (iv t) ∧ w'.cell? ⟨w3.heap.size, 2, none⟩ = some (iv bl) ∧ w'.cell? ⟨w3.heap.size, 3, none⟩ = some (iv bh) ∧ w'.cell? ⟨w3.heap.size, 4, none⟩ = some (iv h) ∧ w'.cell? ⟨w3.heap.size, 5, none⟩ = some (iv nl) ∧ w'.cell? ⟨w3.heap.size, 6, none⟩ = some (iv nh) ∧ SliceOf encS 2 w' (.slice (some ⟨lg, 0, none⟩) F.length lc) F ∧ Below wr.heap.size wr w')
          (first | (go_split_ands; refine ⟨?_, ?_, ?_, ?_, ?_, ?_, ?_, ?_, ?_⟩ <;> first | assumption | exact kcell hbK (by assumption) | exact kfrozen hbK (by assumption) (by assumption) | exact bstep (by assumption) hbK | exact SliceOf.below (by assumption) hbK) | (refine ⟨?_, ?_, ?_, ?_, ?_, ?_, ?_, ?_, ?_⟩ <;> first | exact Below.drew (by assumption) | exact SliceOf.below (by assumption) ((Below.refl _ _).drew) | assumption))
          (first | (go_split_ands; (with_reducible refine (HFO.out _ (by assumption)).mono ?_); rintro e wO ⟨vo, rfl, hoO, hbK⟩; have hSO := Owns.slice hoO encS_len hfm2) | ((with_reducible refine (HLJ.out _ _ (by assumption)).mono ?_); rintro e wN ⟨rfl, hbK⟩))
        rename_i hHeld
        have HBG := Lib.hid (bstep HBR.out hHeld.2.2.2.2.2.2.2.2)
        clear hHeld hbr hbK hSO hoO d0 d1 d2 d3 d4 d5 d6 hLr y1 y2
        have e1 : su j < hn := HW.out j hlt
        generalize su j = sj at *
        generalize po j = pj at *
        have e2 : decide ((hn : Int) ≤ (sj : Int)) = false := decide_eq_false (by omega)
        have e3 : decide (hn ≤ sj) = false := decide_eq_false (by omega)
        go_wp2_with fail
        go_roundw
        case rel => exact ⟨j + 1, by omega, by go_num, HBG⟩
        case measure => simp [intOf]; omega
      · obtain rfl : j = F.length := by omega
        go_wp2_with fail
        refine (elmFulled_any _).mono ?_
        rintro e w8 ⟨rfl, hb8⟩
        go_wp2_with fail
        refine (elmWater_any _).mono ?_
        rintro e w9 ⟨rfl, hb9⟩
        go_wp2_with fail
        go_ret
        exact ⟨rfl, bstep (bstep (bstep HB9.out HBR.out) hb8) hb9⟩
  · have HWL := Lib.hid hwl
    have HGO := Lib.hid (fun (_ : True) => HGO.out rfl)
    clear hwl
    have g1 : decide ((a : Int) < 0) = false := decide_eq_false (by omega)
    have g2 : IntKind.i64.wrap ((a : Int) + (hn : Int)) = (a : Int) + (hn : Int) := IntWalk.i64_in _ ⟨by omega, by omega⟩
    have g3 : decide ((F.length : Int) < (a : Int) + (hn : Int)) = false := decide_eq_false (by omega)
    have g4 : decide (F.length < a + hn) = false := decide_eq_false (by omega)
    go_wp2_with fail
    clear g1 g3 g4
    go_loopw [20] (fun i wr => ∃ j : Nat, j ≤ F.length ∧ i = iv j ∧ Hid (Below wM.heap.size wM wr)) (fun i _ => F.length - (intOf i).toNat)
    case atStart => exact ⟨0, Nat.zero_le _, rfl, Below.refl _ _⟩
    case round =>
      obtain ⟨j, hj, rfl, HBR⟩ := hrel
      have HLR := Lib.hid (HL9.out.below HBR.out)
      have HRMR := Lib.hid (bblk HBR.out HRM9.out)
      by_cases hlt : j < F.length
      · have y1 : decide ((j : Int) < (F.length : Int)) = true := decide_eq_true (by omega)
        have y2 : decide (j < F.length) = true := decide_eq_true hlt
        have HLJ := Lib.hid (HLA.out j hlt)
        have d0 : wr.cell? ⟨w3.heap.size, 0, none⟩ = some (iv kk) := by rw [cell_of_row _ _ _ _ _ _ HRMR.out]; rfl
        have d1 : wr.cell? ⟨w3.heap.size, 1, none⟩ = some (iv t) := by rw [cell_of_row _ _ _ _ _ _ HRMR.out]; rfl
        have d2 : wr.cell? ⟨w3.heap.size, 2, none⟩ = some (iv bl) := by rw [cell_of_row _ _ _ _ _ _ HRMR.out]; rfl
        have d3 : wr.cell? ⟨w3.heap.size, 3, none⟩ = some (iv bh) := by rw [cell_of_row _ _ _ _ _ _ HRMR.out]; rfl
        have d4 : wr.cell? ⟨w3.heap.size, 4, none⟩ = some (iv h) := by rw [cell_of_row _ _ _ _ _ _ HRMR.out]; rfl
        have d5 : wr.cell? ⟨w3.heap.size, 5, none⟩ = some (iv nl) := by rw [cell_of_row _ _ _ _ _ _ HRMR.out]; rfl
        have d6 : wr.cell? ⟨w3.heap.size, 6, none⟩ = some (iv nh) := by rw [cell_of_row _ _ _ _ _ _ HRMR.out]; rfl
        have hLr := HLR.out
        have hbr : Below wr.heap.size wr wr := Below.refl _ _
        go_wp2_with fail
        go_region_held3 (fun w' => w'.cell? ⟨w3.heap.size, 0, none⟩ = some (iv kk) ∧ w'.cell? ⟨w3.heap.size, 1, none⟩ = some (iv t) ∧ w'.cell? ⟨w3.heap.size, 2, none⟩ = some (iv bl) ∧ w'.cell? ⟨w3.heap.size, 3, none⟩ = some (iv bh) ∧ w'.cell? ⟨w3.heap.size, 4, none⟩ = some (iv h) ∧ w'.cell? ⟨w3.heap.size, 5, none⟩ = some (iv nl) ∧ w'.cell? ⟨w3.heap.size, 6, none⟩ = some (iv nh) ∧ SliceOf encS 2 w' (.slice (some ⟨lg, 0, none⟩) F.length lc) F ∧ Below wr.heap.size wr w')
          (first | (go_split_ands; refine ⟨?_, ?_, ?_, ?_, ?_, ?_, ?_, ?_, ?_⟩ <;> first | assumption | exact kcell hbK (by assumption) | exact kfrozen hbK (by assumption) (by assumption) | exact bstep (by assumption) hbK | exact SliceOf.below (by assumption) hbK) | (refine ⟨?_, ?_, ?_, ?_, ?_, ?_, ?_, ?_, ?_⟩ <;> first | exact Below.drew (by assumption) | exact SliceOf.below (by assumption) ((Below.refl _ _).drew) | assumption))
          (first | (go_split_ands; (with_reducible refine (HFO.out _ (by assumption)).mono ?_); rintro e wO ⟨vo, rfl, hoO, hbK⟩; have hSO := Owns.slice hoO encS_len hfm2) | ((with_reducible refine (HLJ.out _ _ (by assumption)).mono ?_); rintro e wN ⟨rfl, hbK⟩))
        rename_i hHeld
        have HBG := Lib.hid (bstep HBR.out hHeld.2.2.2.2.2.2.2.2)
        clear hHeld hbr hbK hSO hoO d0 d1 d2 d3 d4 d5 d6 hLr y1 y2
        have e1 : j < a → su j < hn := HWL.out j
        have e1' : j = a → hn ≤ su j := fun h => h ▸ hwg
        generalize su j = sj at *
        generalize po j = pj at *
        rcases Nat.lt_trichotomy j a with hja | hja | hja
        · have e0 := e1 hja
          have x1 : decide ((j : Int) < (a : Int)) = true := decide_eq_true (by omega)
          have x2 : decide (j < a) = true := decide_eq_true hja
          have x3 : decide ((hn : Int) ≤ (sj : Int)) = false := decide_eq_false (by omega)
          have x4 : decide (hn ≤ sj) = false := decide_eq_false (by omega)
          have x5 : decide ((j : Int) = (a : Int)) = false := decide_eq_false (by omega)
          have x6 : decide (j = a) = false := decide_eq_false (by omega)
          have x7 : ((j : Int) == (a : Int)) = false := by rw [beq_eq_false_iff_ne]; omega
          go_wp2_with fail
          go_roundw
          case rel => exact ⟨j + 1, by omega, by go_num, HBG⟩
          case measure => simp [intOf]; omega
        · have e0 := e1' hja
          have x1 : decide ((j : Int) < (a : Int)) = false := decide_eq_false (by omega)
          have x2 : decide (j < a) = false := decide_eq_false (by omega)
          have x3 : decide ((sj : Int) < (hn : Int)) = false := decide_eq_false (by omega)
          have x4 : decide (sj < hn) = false := decide_eq_false (by omega)
          have x5 : decide ((j : Int) = (a : Int)) = true := decide_eq_true (by omega)
          have x6 : decide (j = a) = true := decide_eq_true (by omega)
          have x7 : ((j : Int) == (a : Int)) = true := by rw [beq_iff_eq]; omega
          go_wp2_with fail
          go_roundw
          case rel => exact ⟨j + 1, by omega, by go_num, HBG⟩
          case measure => simp [intOf]; omega
        · have x1 : decide ((j : Int) < (a : Int)) = false := decide_eq_false (by omega)
          have x2 : decide (j < a) = false := decide_eq_false (by omega)
          have x5 : decide ((j : Int) = (a : Int)) = false := decide_eq_false (by omega)
          have x6 : decide (j = a) = false := decide_eq_false (by omega)
          have x7 : ((j : Int) == (a : Int)) = false := by rw [beq_eq_false_iff_ne]; omega
          go_wp2_with fail
          go_roundw
          case rel => exact ⟨j + 1, by omega, by go_num, HBG⟩
          case measure => simp [intOf]; omega
      · obtain rfl : j = F.length := by omega
        have HLR0 := HLR
        clear HLR
        go_wp2_with (with_reducible change wpList _ _ _ (Oper.mk _ (Op.makeSlice 53 _ _) _ _ _ _ :: _) _ _; refine wpList_make_full _ rfl _ _ 53 rfl wr.heap.size 3 i0 (.int .i64 0) 1 Try.underlying53 HI.out HZ0.out HZ1.out .i64 .i64 F.length F.length F.length rfl rfl rfl rfl HBY.out HML.out (Nat.le_refl _) ?_; intro wp hown hgrow)
        have hown0 : wp.ownsRow wr.heap.size 3 1 (.slice (some ⟨wr.heap.size, 0, none⟩) F.length F.length) F.length ((stdTo F.length (1 + r0) (a : Int) a).map iv) := by
          rw [stdTo_start2, stdTo_zero]
          have := toList_madeCells_one (.int .i64 0) F.length
          rw [← this]
          rw [Nat.mul_one] at hown
          exact hown
        have hbp : Below wr.heap.size wr wp := ⟨hgrow.os, hgrow.tape, hgrow.output, hgrow.size, fun q hq => hgrow.block q hq (by simp)⟩
        have HOW := Lib.hid hown0
        have HBP := Lib.hid hbp
        clear hown hgrow hown0 hbp
        go_wp2_with fail
        go_loopw [25] (fun i wz => ∃ j : Nat, a ≤ j ∧ j ≤ a + hn ∧ i = iv j ∧ Hid (wz.ownsRow wr.heap.size 3 1 (.slice (some ⟨wr.heap.size, 0, none⟩) F.length F.length) F.length ((stdTo F.length (1 + r0) (a : Int) j).map iv)) ∧ Hid (Below wr.heap.size wr wz)) (fun i _ => a + hn - (intOf i).toNat)
        case atStart => exact ⟨a, Nat.le_refl _, by omega, rfl, HOW.out, HBP.out⟩
        case round =>
          rename World => WZ
          obtain ⟨j, hj1, hj2, rfl, HOJ, HBJ⟩ := hrel
          by_cases hlj : j < a + hn
          · have y1 : decide ((j : Int) < (a : Int) + (hn : Int)) = true := decide_eq_true (by omega)
            have y2 : decide (j < a + hn) = true := decide_eq_true hlj
            have hown := HOJ.out
            have hc : WZ.cell? ⟨wr.heap.size, j, none⟩ = some (((stdTo F.length (1 + r0) (a : Int) j).map iv).getD j undef) := by
              rw [World.ownsRow.cellAt hown j (by omega)]
              have : j < ((stdTo F.length (1 + r0) (a : Int) j).map iv).length := by rw [List.length_map, stdTo_len]; omega
              rw [List.getD_eq_getElem?_getD, List.getElem?_eq_getElem this]; rfl
            have hfz := World.ownsRow.frozenAt hown j
            have q0 : (0 : Int) ≤ (j : Int) := by omega
            have q1 : (j : Int) < (F.length : Int) := by omega
            generalize ((stdTo F.length (1 + r0) (a : Int) j).map iv).getD j undef = old at *
            clear hown
            go_wp2_with fail
            go_roundw
            case rel => exact ⟨j + 1, by omega, by omega, by go_num, by rw [stdTo_yes (by omega)]; exact (World.ownsRow.stored HOJ.out j (iv (1 + r0))).1, bput HBJ.out (Nat.le_refl _) _⟩
            case measure => simp [intOf]; omega
          · obtain rfl : j = a + hn := by omega
            have HLZ := Lib.hid (HLR0.out.below HBJ.out)
            have HRZ := Lib.hid (bblk HBJ.out HRMR.out)
            have HBZ := Lib.hid (bstep HBR.out HBJ.out)
            have HPI : Hid (Ints WZ (.slice (some ⟨wr.heap.size, 0, none⟩) F.length F.length) (stdTo F.length (1 + r0) (a : Int) (a + hn))) := by
              have hl : (stdTo F.length (1 + r0) (a : Int) (a + hn)).length = F.length := stdTo_len _ _ _ _
              have ho : Owns encI 1 3 wr.heap.size WZ (.slice (some ⟨wr.heap.size, 0, none⟩) F.length F.length) (stdTo F.length (1 + r0) (a : Int) (a + hn)) := by
                unfold Owns; rw [hl, flatI]; exact HOJ.out
              exact Owns.slice ho encI_len (by omega)
            have y1 : decide (((a + hn : Nat) : Int) < (a : Int) + (hn : Int)) = false := decide_eq_false (by omega)
            have y2 : decide (a + hn < a + hn) = false := decide_eq_false (by omega)
            have d0 : WZ.cell? ⟨w3.heap.size, 0, none⟩ = some (iv kk) := by rw [cell_of_row _ _ _ _ _ _ HRZ.out]; rfl
            have d1 : WZ.cell? ⟨w3.heap.size, 1, none⟩ = some (iv t) := by rw [cell_of_row _ _ _ _ _ _ HRZ.out]; rfl
            have d2 : WZ.cell? ⟨w3.heap.size, 2, none⟩ = some (iv bl) := by rw [cell_of_row _ _ _ _ _ _ HRZ.out]; rfl
            have d3 : WZ.cell? ⟨w3.heap.size, 3, none⟩ = some (iv bh) := by rw [cell_of_row _ _ _ _ _ _ HRZ.out]; rfl
            have d4 : WZ.cell? ⟨w3.heap.size, 4, none⟩ = some (iv h) := by rw [cell_of_row _ _ _ _ _ _ HRZ.out]; rfl
            have d5 : WZ.cell? ⟨w3.heap.size, 5, none⟩ = some (iv nl) := by rw [cell_of_row _ _ _ _ _ _ HRZ.out]; rfl
            have d6 : WZ.cell? ⟨w3.heap.size, 6, none⟩ = some (iv nh) := by rw [cell_of_row _ _ _ _ _ _ HRZ.out]; rfl
            clear HOJ HBJ HOW HBP
            go_wp2_with fail
            refine (HGO.out trivial _ _ _ HLZ.out HPI.out).mono ?_
            rintro e wG ⟨q, rfl, hbG⟩
            clear d0 d1 d2 d3 d4 d5 d6
            go_wp2_with fail
            refine (elmFulled_any _).mono ?_
            rintro e w8 ⟨rfl, hb8⟩
            go_wp2_with fail
            refine (elmWater_any _).mono ?_
            rintro e w9 ⟨rfl, hb9⟩
            go_wp2_with fail
            go_ret
            exact ⟨rfl, bstep (bstep (bstep (bstep HB9.out HBZ.out) hbG) hb8) hb9⟩
end Go.Proofs.Ytgoncgbbgodliaa
