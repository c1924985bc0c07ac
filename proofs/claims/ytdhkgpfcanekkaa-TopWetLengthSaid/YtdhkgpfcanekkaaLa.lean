/- A cloth made of bytes: ElmBolt.made. -/
import Derived.Test.YtdhkgpfcanekkaaKz
import Derived.Deep.RegionHeld3
namespace Go.Proofs.Ytdhkgpfcanekkaa
open Go Go.RowKit Go.Shelf
attribute [local go_sem ↓] Go.wp_at_zero Go.wp_at_succ

/-- What holds of memory after k rounds. -/
structure EbInv (b : Nat → Int) (w : World) (k : Nat) (tv : Value) (wr : World) : Prop where
  B : Below w.heap.size w wr
  S : w.heap.size + 3 ≤ wr.heap.size
  h0 : wr.heap[w.heap.size]? = some (.cells (fyCells b) 25 (0, 0))
  h1 : wr.heap[w.heap.size + 1]? = some (.cells #[.slice none 0 0, .slice none 0 0] 33 (0, 0))
  h2 : wr.heap[w.heap.size + 1 + 1]? = some (.cells #[tv, .slice none 0 0] 33 (0, 0))
  O : Owns encT 4 53 (w.heap.size + 3) wr tv ((List.range k).map (ebT b))
def EbNext (b : Nat → Int) (w : World) (k : Nat) (wr : World) : Prop := ∃ tv, EbInv b w k tv wr
theorem eb_done {b : Nat → Int} {w wr w3 : World} {k g' n cap : Nat} {tv : Value} {tk : Tk} (h : EbInv b w k tv wr) (hT : (List.range (k + 1)).map (ebT b) = (List.range k).map (ebT b) ++ [tk])
    (hO3 : Owns encT 4 53 (w.heap.size + 3) w3 (.slice (some ⟨g', 0, none⟩) n cap) ((List.range k).map (ebT b) ++ [tk])) (n4 : Below (w.heap.size + 2) wr w3)
    (n7 : w3.heap[w.heap.size + 1 + 1]? = some (.cells #[tv, .slice none 0 0] 33 (0, 0))) : EbNext b w (k + 1) (w3.setCell ⟨w.heap.size + 1 + 1, 0, none⟩ (.slice (some ⟨g', 0, none⟩) n cap)) := by
  have hs := h.S
  have HN4 := n4.setCell (p := ⟨w.heap.size + 1 + 1, 0, none⟩) (Nat.le_refl _) (.slice (some ⟨g', 0, none⟩) n cap)
  refine ⟨_, h.B.trans (HN4.mono (by omega)), Nat.le_trans h.S HN4.size, (HN4.block w.heap.size (by omega)).trans h.h0, (HN4.block (w.heap.size + 1) (by omega)).trans h.h1, heap_setA n7, ?_⟩
  rw [hT]
  refine World.ownsRow.kept hO3 (grown_setA _ _ _) (.inr (fun e => ?_))
  have := (World.ownsRow.lt hO3 g' rfl).1
  simp only [Value.ownBlock, Option.some.injEq] at e; omega

theorem cellGN {W wA : World} {b o : Nat} {u : Value} {ob : Option Nat} (hG : W.grownBy wA ob) (hne : ob ≠ some b) (h : W.cell? ⟨b, o, none⟩ = some u) : wA.cell? ⟨b, o, none⟩ = some u :=
  (World.cell?_of_block (hG.block _ (lt_of_cell h) (by first | exact hne | exact fun e => hne e.symm))).trans h
theorem cset1 {W : World} {g b i : Nat} {x v : Value} (hne : b ≠ g) (h : W.cell? ⟨b, i, none⟩ = some v) : (W.setCell ⟨g, 0, none⟩ x).cell? ⟨b, i, none⟩ = some v :=
  (World.cell?_of_block (Below.heap_setCell _ _ _ _ hne)).trans h

set_option maxRecDepth 20000 in
set_option maxHeartbeats 25600000 in
theorem ebMade_any (b : Nat → Int) (w : World) (hb : ∀ i, 0 ≤ b i ∧ b i ≤ 255) :
    Calls Try.prog 5 #[.agg (fyCells b)] w fun e w' => ∃ tv, e = .returned (.agg #[tv, .slice none 0 0]) ∧ Owns encT 4 53 w.heap.size w' tv [ebT b 0, ebT b 1, ebT b 2] ∧ Below w.heap.size w w' := by
  obtain ⟨i0, hi, hz0, hz1, hz2⟩ := info_parts info71
  have HI := Lib.hid hi; have HZ0 := Lib.hid hz0; have HZ1 := Lib.hid hz1; have HZ2 := Lib.hid hz2
  clear hi hz0 hz1 hz2
  have HBN := Lib.hid hb; clear hb
  obtain ⟨Wn, hWn⟩ : ∃ Wn : World, ((w.alloc (.cells (fyCells b) 25)).alloc (.cells #[.slice none 0 0, .slice none 0 0] 33)).alloc (.cells #[.slice none 0 0, .slice none 0 0] 33) = Wn := ⟨_, rfl⟩
  have hBw : Below w.heap.size w Wn := by rw [← hWn]; exact (by repeat (first | exact Below.refl _ _ | refine Below.drew ?_ | refine bpush ?_ _ | refine bput ?_ (by simp) _ | (refine bstep ?_ (by assumption))))
  have hsz : Wn.heap.size = w.heap.size + 3 := by rw [← hWn]; simp
  have hr0 : Wn.heap[w.heap.size]? = some (.cells (fyCells b) 25 (0, 0)) := by
    rw [← hWn, Below.heap_alloc _ _ _ (by simp; omega), Below.heap_alloc _ _ _ (by simp)]; exact heap_new _ _ _
  have hr1 : Wn.heap[w.heap.size + 1]? = some (.cells #[.slice none 0 0, .slice none 0 0] 33 (0, 0)) := by
    rw [← hWn, Below.heap_alloc _ _ _ (by simp)]; exact heapA (by simp)
  have hr2 : Wn.heap[w.heap.size + 1 + 1]? = some (.cells #[.slice none 0 0, .slice none 0 0] 33 (0, 0)) := by
    rw [← hWn]; exact heapA (by simp)
  have HBw := Lib.hid hBw; have HSZ := Lib.hid hsz; have HR0 := Lib.hid hr0; have HR1 := Lib.hid hr1; have HR2 := Lib.hid hr2
  clear hBw hsz hr0 hr1 hr2
  simp only [fyCells] at hWn ⊢
  have HWn := Lib.hid hWn; clear hWn
  go_enter Try.func5, Try.ntmps5
  go_wp2_with fail
  rw [HWn.out]
  clear HWn
  go_loopw [4] (fun i wr => ∃ (k : Nat) (tv : Value), k ≤ 3 ∧ i = iv k ∧ Hid (EbInv b w k tv wr)) (fun i _ => 3 - (intOf i).toNat)
  case atStart => exact ⟨0, .slice none 0 0, by omega, rfl, HBw.out, (by rw [HSZ.out]; omega), HR0.out, HR1.out, HR2.out, Owns.nil _ _ _ _ _⟩
  case round =>
    obtain ⟨k, tv, hk, rfl, HV⟩ := hrel
    have HS := Lib.hid HV.out.S; have H0 := Lib.hid HV.out.h0; have H1 := Lib.hid HV.out.h1; have H2 := Lib.hid HV.out.h2; have HO := Lib.hid HV.out.O
    by_cases hlt : k < 3
    · go_upto_block 1 with (fail)
      go_cut [] (fun wx => EbNext b w (k + 1) wx)
      case first =>
        have l0 : wr.cell? ⟨w.heap.size, 0, none⟩ = some (Ytdhkgpfcanekkaa.u8 (b 0)) := by rw [cell_of_row _ _ _ _ _ _ H0.out]; rfl
        have l1 : wr.cell? ⟨w.heap.size, 1, none⟩ = some (Ytdhkgpfcanekkaa.u8 (b 1)) := by rw [cell_of_row _ _ _ _ _ _ H0.out]; rfl
        have l2 : wr.cell? ⟨w.heap.size, 2, none⟩ = some (Ytdhkgpfcanekkaa.u8 (b 2)) := by rw [cell_of_row _ _ _ _ _ _ H0.out]; rfl
        have l3 : wr.cell? ⟨w.heap.size, 3, none⟩ = some (Ytdhkgpfcanekkaa.u8 (b 3)) := by rw [cell_of_row _ _ _ _ _ _ H0.out]; rfl
        have l4 : wr.cell? ⟨w.heap.size, 4, none⟩ = some (Ytdhkgpfcanekkaa.u8 (b 4)) := by rw [cell_of_row _ _ _ _ _ _ H0.out]; rfl
        have l5 : wr.cell? ⟨w.heap.size, 5, none⟩ = some (Ytdhkgpfcanekkaa.u8 (b 5)) := by rw [cell_of_row _ _ _ _ _ _ H0.out]; rfl
        have l6 : wr.cell? ⟨w.heap.size, 6, none⟩ = some (Ytdhkgpfcanekkaa.u8 (b 6)) := by rw [cell_of_row _ _ _ _ _ _ H0.out]; rfl
        have l7 : wr.cell? ⟨w.heap.size, 7, none⟩ = some (Ytdhkgpfcanekkaa.u8 (b 7)) := by rw [cell_of_row _ _ _ _ _ _ H0.out]; rfl
        have l8 : wr.cell? ⟨w.heap.size, 8, none⟩ = some (Ytdhkgpfcanekkaa.u8 (b 8)) := by rw [cell_of_row _ _ _ _ _ _ H0.out]; rfl
        have l9 : wr.cell? ⟨w.heap.size, 9, none⟩ = some (Ytdhkgpfcanekkaa.u8 (b 9)) := by rw [cell_of_row _ _ _ _ _ _ H0.out]; rfl
        have l10 : wr.cell? ⟨w.heap.size, 10, none⟩ = some (Ytdhkgpfcanekkaa.u8 (b 10)) := by rw [cell_of_row _ _ _ _ _ _ H0.out]; rfl
        have l11 : wr.cell? ⟨w.heap.size, 11, none⟩ = some (Ytdhkgpfcanekkaa.u8 (b 11)) := by rw [cell_of_row _ _ _ _ _ _ H0.out]; rfl
        go_wp2_with fail
        refine (elmTruth_any b k _ HBN.out hlt).mono ?_
        rintro e w1 ⟨rfl, hb1⟩
        clear l0 l1 l2 l3 l4 l5 l6 l7 l8 l9 l10 l11
        have h01 := bblk hb1 H0.out
        have H21 := Lib.hid (bblk hb1 H2.out)
        have hO1 := Lib.hid (Owns.kept HO.out hb1)
        have hz1 := hb1.size
        have HB1 := Lib.hid hb1; clear hb1
        have x0 : w1.cell? ⟨w.heap.size, k * 4, none⟩ = some (u8 (b (4 * k))) := by
          rw [cell_of_row _ _ _ _ _ _ h01]; obtain rfl | rfl | rfl : k = 0 ∨ k = 1 ∨ k = 2 := by omega
          all_goals rfl
        have x1 : w1.cell? ⟨w.heap.size, k * 4 + 1, none⟩ = some (u8 (b (4 * k + 1))) := by
          rw [cell_of_row _ _ _ _ _ _ h01]; obtain rfl | rfl | rfl : k = 0 ∨ k = 1 ∨ k = 2 := by omega
          all_goals rfl
        have x2 : w1.cell? ⟨w.heap.size, k * 4 + 2, none⟩ = some (u8 (b (4 * k + 2))) := by
          rw [cell_of_row _ _ _ _ _ _ h01]; obtain rfl | rfl | rfl : k = 0 ∨ k = 1 ∨ k = 2 := by omega
          all_goals rfl
        have x3 : w1.cell? ⟨w.heap.size, k * 4 + 3, none⟩ = some (u8 (b (4 * k + 3))) := by
          rw [cell_of_row _ _ _ _ _ _ h01]; obtain rfl | rfl | rfl : k = 0 ∨ k = 1 ∨ k = 2 := by omega
          all_goals rfl
        obtain ⟨f0, f0'⟩ := HBN.out (4 * k); obtain ⟨p1, p1'⟩ := HBN.out (4 * k + 1); obtain ⟨p2, p2'⟩ := HBN.out (4 * k + 2); obtain ⟨p3, p3'⟩ := HBN.out (4 * k + 3)
        have HTk : Hid ((List.range (k + 1)).map (ebT b) = (List.range k).map (ebT b) ++ [⟨ebF b k - b (4 * k + 2) % 9, ebF b k + b (4 * k + 2) / 16 % 9, ebR b k - b (4 * k + 3) % 3, ebR b k + b (4 * k + 3) / 16 % 4⟩]) := by simp [Hid, List.range_succ, ebT]
        have hF0 : 60 ≤ ebF b k ∧ ebF b k ≤ 315 := by simp only [ebF]; omega
        have hR0 : 2 ≤ ebR b k ∧ ebR b k ≤ 41 := by simp only [ebR]; omega
        have i0 : (0 : Int) ≤ (k : Int) := by omega
        have i1 : (k : Int) < 3 := by omega
        clear h01
        generalize ebF b k = F at *
        generalize ebR b k = R at *
        generalize b (4 * k) = q0 at *
        generalize b (4 * k + 1) = q1 at *
        generalize b (4 * k + 2) = q2 at *
        generalize b (4 * k + 3) = q3 at *
        go_wp2_with fail
        obtain ⟨W7, hW7⟩ : ∃ W : World, w1.alloc (.cells #[.int .u8 q0, .int .u8 q1, .int .u8 q2, .int .u8 q3] 22) = W := ⟨_, rfl⟩
        have hc2 : W7.cell? ⟨w1.heap.size, 2, none⟩ = some (u8 q2) := by subst hW7; go_simp
        have hc3 : W7.cell? ⟨w1.heap.size, 3, none⟩ = some (u8 q3) := by subst hW7; go_simp
        have hB7 : Below w1.heap.size w1 W7 := by rw [← hW7]; exact bpush (Below.refl _ _) _
        have hs2 := HS.out
        have H27 := Lib.hid ((hB7.block (w.heap.size + 1 + 1) (by omega)).trans H21.out)
        have d0 : W7.cell? ⟨w.heap.size + 1 + 1, 0, none⟩ = some tv := by rw [cell_of_row _ _ _ _ _ _ H27.out]; rfl
        have d1 : W7.frozen? ⟨w.heap.size + 1 + 1, 0, none⟩ = false := by unfold World.frozen?; rw [H27.out]; rfl
        have hB8 : Below wr.heap.size wr W7 := HB1.out.trans (hB7.mono hz1)
        have hO7 : Hid (Owns encT 4 53 (w.heap.size + 3) W7.drew tv ((List.range k).map (ebT b))) := Owns.kept HO.out hB8.drew
        have z0 : W7.drew.cell? ⟨w.heap.size + 1 + 1, 0, none⟩ = some tv := d0
        have z1 : W7.drew.frozen? ⟨w.heap.size + 1 + 1, 0, none⟩ = false := d1
        have z2 : W7.drew.cell? ⟨w1.heap.size, 2, none⟩ = some (u8 q2) := hc2
        have z3 : W7.drew.cell? ⟨w1.heap.size, 3, none⟩ = some (u8 q3) := hc3
        have z4 : Below (w.heap.size + 2) wr W7.drew := hB8.drew.mono (by omega)
        have z6 : w.heap.size + 3 ≤ W7.drew.heap.size := Nat.le_trans hs2 hB8.size
        have z8 : w.heap.size + 1 + 1 < W7.heap.size := z6
        have z7 : Hid (W7.drew.heap[w.heap.size + 1 + 1]? = some (.cells #[tv, .slice none 0 0] 33 (0, 0))) := H27.out
        rw [hW7]
        clear d0 d1 hc2 hc3 x0 x1 x2 x3 hB7 hB8 hW7 H27
        have t2 : q2.tmod 9 = q2 % 9 := Int.tmod_eq_emod_of_nonneg p2
        have t3 : q3.tmod 3 = q3 % 3 := Int.tmod_eq_emod_of_nonneg p3
        have e2 : q2.tdiv 16 = q2 / 16 := Int.tdiv_eq_ediv_of_nonneg p2
        have e3 : q3.tdiv 16 = q3 / 16 := Int.tdiv_eq_ediv_of_nonneg p3
        have t4 : (q2 / 16).tmod 9 = q2 / 16 % 9 := Int.tmod_eq_emod_of_nonneg (by omega)
        have t5 : (q3 / 16).tmod 4 = q3 / 16 % 4 := Int.tmod_eq_emod_of_nonneg (by omega)
        have g2 : IntKind.i64.wrap q2 = q2 := IntWalk.i64_in _ ⟨by omega, by omega⟩
        have g3 : IntKind.i64.wrap q3 = q3 := IntWalk.i64_in _ ⟨by omega, by omega⟩
        have g4 : IntKind.i64.wrap (q2 / 16) = q2 / 16 := IntWalk.i64_in _ ⟨by omega, by omega⟩
        have g5 : IntKind.i64.wrap (q3 / 16) = q3 / 16 := IntWalk.i64_in _ ⟨by omega, by omega⟩
        have g6 : IntKind.i64.wrap (F - q2 % 9) = F - q2 % 9 := IntWalk.i64_in _ ⟨by omega, by omega⟩
        have g7 : IntKind.i64.wrap (F + q2 / 16 % 9) = F + q2 / 16 % 9 := IntWalk.i64_in _ ⟨by omega, by omega⟩
        have g8 : IntKind.i64.wrap (R - q3 % 3) = R - q3 % 3 := IntWalk.i64_in _ ⟨by omega, by omega⟩
        have g9 : IntKind.i64.wrap (R + q3 / 16 % 4) = R + q3 / 16 % 4 := IntWalk.i64_in _ ⟨by omega, by omega⟩
        generalize q2 / 16 % 9 = y2 at *
        generalize q3 / 16 % 4 = y3 at *
        generalize q2 / 16 = o2 at *
        generalize q3 / 16 = o3 at *
        generalize q2 % 9 = s2 at *
        generalize q3 % 3 = s3 at *
        have hbb2 : Hid (((List.range k).map (ebT b)).length + 1 ≤ maxLen ∧ (((List.range k).map (ebT b)).length + 1) * 32 ≤ 140737488355328) := by simp [Hid]; unfold maxLen; omega
        have HT := HTk
        have HLk : Hid (((List.range k).map (ebT b)).length = k) := by simp [Hid]
        have HVV := HV
        have HNE : Hid (tv.ownBlock ≠ some w1.heap.size) := fun e => by have := (World.ownsRow.lt HO.out _ e).2; omega
        have hNB : w1.heap.size ≠ w.heap.size + 1 + 1 := by omega
        clear H0 H1 H2 H21 hO1 HO HTk HSZ HR0 HR1 HR2 HBw HBN HB1 HV hF0 hR0 f0 f0' p1 p1' p2 p2' p3 p3' hs2 HS
        have hS0 : W7.drew.cell? ⟨w1.heap.size, 2, none⟩ = some (u8 q2) ∧ W7.drew.cell? ⟨w1.heap.size, 3, none⟩ = some (u8 q3) := ⟨z2, z3⟩
        refine wp_region_held_drew (S := fun w' => w'.cell? ⟨w1.heap.size, 2, none⟩ = some (u8 q2) ∧ w'.cell? ⟨w1.heap.size, 3, none⟩ = some (u8 q3)) (by kernel_rfl) hS0 (fun hHeld => ?_)
        clear hS0 z2 z3
        refine wpAnyH_take (i := 0) (v := ?_) rfl (by kernel_rfl) (by kernel_rfl) (by kernel_rfl) (fun _ _ _ h => h) (Or.inl ⟨by kernel_rfl, ?_⟩) (by assumption) ?_
        rotate_left
        · (intro W hS; obtain ⟨hS1, hS2⟩ := hS; go_simp; try (with_reducible rfl))
        refine (show wpAnyH Try.prog Region.Mode.any _ _ _ _ _ (Act.mk (Array.setIfInBounds (List.toArray _) _ _) _) _ from ?_)
        simp only [List.setIfInBounds_toArray, List.set_cons_zero, List.set_cons_succ]
        refine wpAnyH_take (i := 2) (v := ?_) rfl (by kernel_rfl) (by kernel_rfl) (by kernel_rfl) (fun _ _ _ h => h) (Or.inl ⟨by kernel_rfl, ?_⟩) (by assumption) ?_
        rotate_left
        · (intro W hS; obtain ⟨hS1, hS2⟩ := hS; go_simp; try (with_reducible rfl))
        refine (show wpAnyH Try.prog Region.Mode.any _ _ _ _ _ (Act.mk (Array.setIfInBounds (List.toArray _) _ _) _) _ from ?_)
        simp only [List.setIfInBounds_toArray, List.set_cons_zero, List.set_cons_succ]
        refine wpAnyH_take (i := 3) (v := ?_) rfl (by kernel_rfl) (by kernel_rfl) (by kernel_rfl) (fun _ _ _ h => h) (Or.inl ⟨by kernel_rfl, ?_⟩) (by assumption) ?_
        rotate_left
        · (intro W hS; obtain ⟨hS1, hS2⟩ := hS; go_simp; try (with_reducible rfl))
        refine (show wpAnyH Try.prog Region.Mode.any _ _ _ _ _ (Act.mk (Array.setIfInBounds (List.toArray _) _ _) _) _ from ?_)
        simp only [List.setIfInBounds_toArray, List.set_cons_zero, List.set_cons_succ]
        refine wpAnyH_take (i := 4) (v := ?_) rfl (by kernel_rfl) (by kernel_rfl) (by kernel_rfl) (fun _ _ _ h => h) (Or.inl ⟨by kernel_rfl, ?_⟩) (by assumption) ?_
        rotate_left
        · (intro W hS; obtain ⟨hS1, hS2⟩ := hS; go_simp; try (with_reducible rfl))
        refine (show wpAnyH Try.prog Region.Mode.any _ _ _ _ _ (Act.mk (Array.setIfInBounds (List.toArray _) _ _) _) _ from ?_)
        simp only [List.setIfInBounds_toArray, List.set_cons_zero, List.set_cons_succ]
        refine wpAnyH_take (i := 5) (v := ?_) rfl (by kernel_rfl) (by kernel_rfl) (by kernel_rfl) (fun _ _ _ h => h) (Or.inl ⟨by kernel_rfl, ?_⟩) (by assumption) ?_
        rotate_left
        · (intro W hS; obtain ⟨hS1, hS2⟩ := hS; go_simp; try (with_reducible rfl))
        refine (show wpAnyH Try.prog Region.Mode.any _ _ _ _ _ (Act.mk (Array.setIfInBounds (List.toArray _) _ _) _) _ from ?_)
        simp only [List.setIfInBounds_toArray, List.set_cons_zero, List.set_cons_succ]
        refine wpAnyH_take (i := 6) (v := ?_) rfl (by kernel_rfl) (by kernel_rfl) (by kernel_rfl) (fun _ _ _ h => h) (Or.inl ⟨by kernel_rfl, ?_⟩) (by assumption) ?_
        rotate_left
        · (intro W hS; obtain ⟨hS1, hS2⟩ := hS; go_simp; try (with_reducible rfl))
        refine (show wpAnyH Try.prog Region.Mode.any _ _ _ _ _ (Act.mk (Array.setIfInBounds (List.toArray _) _ _) _) _ from ?_)
        simp only [List.setIfInBounds_toArray, List.set_cons_zero, List.set_cons_succ]
        refine wpAnyH_take (i := 7) (v := ?_) rfl (by kernel_rfl) (by kernel_rfl) (by kernel_rfl) (fun _ _ _ h => h) (Or.inl ⟨by kernel_rfl, ?_⟩) (by assumption) ?_
        rotate_left
        · (intro W hS; obtain ⟨hS1, hS2⟩ := hS; go_simp; try (with_reducible rfl))
        refine (show wpAnyH Try.prog Region.Mode.any _ _ _ _ _ (Act.mk (Array.setIfInBounds (List.toArray _) _ _) _) _ from ?_)
        simp only [List.setIfInBounds_toArray, List.set_cons_zero, List.set_cons_succ]
        refine wpAnyH_take (i := 8) (v := ?_) rfl (by kernel_rfl) (by kernel_rfl) (by kernel_rfl) (fun _ _ _ h => h) (Or.inl ⟨by kernel_rfl, ?_⟩) (by assumption) ?_
        rotate_left
        · (intro W hS; obtain ⟨hS1, hS2⟩ := hS; go_simp; try (with_reducible rfl))
        refine (show wpAnyH Try.prog Region.Mode.any _ _ _ _ _ (Act.mk (Array.setIfInBounds (List.toArray _) _ _) _) _ from ?_)
        simp only [List.setIfInBounds_toArray, List.set_cons_zero, List.set_cons_succ]
        refine wpAnyH_take (i := 9) (v := ?_) rfl (by kernel_rfl) (by kernel_rfl) (by kernel_rfl) (fun _ _ _ h => h) (Or.inl ⟨by kernel_rfl, ?_⟩) (by assumption) ?_
        rotate_left
        · (intro W hS; obtain ⟨hS1, hS2⟩ := hS; go_simp; try (with_reducible rfl))
        refine (show wpAnyH Try.prog Region.Mode.any _ _ _ _ _ (Act.mk (Array.setIfInBounds (List.toArray _) _ _) _) _ from ?_)
        simp only [List.setIfInBounds_toArray, List.set_cons_zero, List.set_cons_succ]
        refine wpAnyH_take (i := 10) (v := ?_) rfl (by kernel_rfl) (by kernel_rfl) (by kernel_rfl) (fun _ _ _ h => h) (Or.inl ⟨by kernel_rfl, ?_⟩) (by assumption) ?_
        rotate_left
        · (intro W hS; obtain ⟨hS1, hS2⟩ := hS; go_simp; try (with_reducible rfl))
        refine (show wpAnyH Try.prog Region.Mode.any _ _ _ _ _ (Act.mk (Array.setIfInBounds (List.toArray _) _ _) _) _ from ?_)
        simp only [List.setIfInBounds_toArray, List.set_cons_zero, List.set_cons_succ]
        refine wpAnyH_take (i := 11) (v := ?_) rfl (by kernel_rfl) (by kernel_rfl) (by kernel_rfl) (fun _ _ _ h => h) (Or.inl ⟨by kernel_rfl, ?_⟩) (by assumption) ?_
        rotate_left
        · (intro W hS; obtain ⟨hS1, hS2⟩ := hS; go_simp; try (with_reducible rfl))
        refine (show wpAnyH Try.prog Region.Mode.any _ _ _ _ _ (Act.mk (Array.setIfInBounds (List.toArray _) _ _) _) _ from ?_)
        simp only [List.setIfInBounds_toArray, List.set_cons_zero, List.set_cons_succ]
        refine wpAnyH_take (i := 12) (v := ?_) rfl (by kernel_rfl) (by kernel_rfl) (by kernel_rfl) (fun _ _ _ h => h) (Or.inl ⟨by kernel_rfl, ?_⟩) (by assumption) ?_
        rotate_left
        · (intro W hS; obtain ⟨hS1, hS2⟩ := hS; go_simp; try (with_reducible rfl))
        refine (show wpAnyH Try.prog Region.Mode.any _ _ _ _ _ (Act.mk (Array.setIfInBounds (List.toArray _) _ _) _) _ from ?_)
        simp only [List.setIfInBounds_toArray, List.set_cons_zero, List.set_cons_succ]
        refine wpAnyH_take (i := 13) (v := ?_) rfl (by kernel_rfl) (by kernel_rfl) (by kernel_rfl) (fun _ _ _ h => h) (Or.inl ⟨by kernel_rfl, ?_⟩) (by assumption) ?_
        rotate_left
        · (intro W hS; obtain ⟨hS1, hS2⟩ := hS; go_simp; try (with_reducible rfl))
        refine (show wpAnyH Try.prog Region.Mode.any _ _ _ _ _ (Act.mk (Array.setIfInBounds (List.toArray _) _ _) _) _ from ?_)
        simp only [List.setIfInBounds_toArray, List.set_cons_zero, List.set_cons_succ]
        refine wpAnyH_take (i := 14) (v := ?_) rfl (by kernel_rfl) (by kernel_rfl) (by kernel_rfl) (fun _ _ _ h => h) (Or.inl ⟨by kernel_rfl, ?_⟩) (by assumption) ?_
        rotate_left
        · (intro W hS; obtain ⟨hS1, hS2⟩ := hS; go_simp; try (with_reducible rfl))
        refine (show wpAnyH Try.prog Region.Mode.any _ _ _ _ _ (Act.mk (Array.setIfInBounds (List.toArray _) _ _) _) _ from ?_)
        simp only [List.setIfInBounds_toArray, List.set_cons_zero, List.set_cons_succ]
        refine wpAnyH_take (i := 16) (v := ?_) rfl (by kernel_rfl) (by kernel_rfl) (by kernel_rfl) (fun _ _ _ h => h) (Or.inl ⟨by kernel_rfl, ?_⟩) (by assumption) ?_
        rotate_left
        · (intro W hS; obtain ⟨hS1, hS2⟩ := hS; go_simp; try (with_reducible rfl))
        refine (show wpAnyH Try.prog Region.Mode.any _ _ _ _ _ (Act.mk (Array.setIfInBounds (List.toArray _) _ _) _) _ from ?_)
        simp only [List.setIfInBounds_toArray, List.set_cons_zero, List.set_cons_succ]
        refine wpAnyH_take (i := 17) (v := ?_) rfl (by kernel_rfl) (by kernel_rfl) (by kernel_rfl) (fun _ _ _ h => h) (Or.inl ⟨by kernel_rfl, ?_⟩) (by assumption) ?_
        rotate_left
        · (intro W hS; obtain ⟨hS1, hS2⟩ := hS; go_simp; try (with_reducible rfl))
        refine (show wpAnyH Try.prog Region.Mode.any _ _ _ _ _ (Act.mk (Array.setIfInBounds (List.toArray _) _ _) _) _ from ?_)
        simp only [List.setIfInBounds_toArray, List.set_cons_zero, List.set_cons_succ]
        refine wpAnyH_take (i := 18) (v := ?_) rfl (by kernel_rfl) (by kernel_rfl) (by kernel_rfl) (fun _ _ _ h => h) (Or.inl ⟨by kernel_rfl, ?_⟩) (by assumption) ?_
        rotate_left
        · (intro W hS; obtain ⟨hS1, hS2⟩ := hS; go_simp; try (with_reducible rfl))
        refine (show wpAnyH Try.prog Region.Mode.any _ _ _ _ _ (Act.mk (Array.setIfInBounds (List.toArray _) _ _) _) _ from ?_)
        simp only [List.setIfInBounds_toArray, List.set_cons_zero, List.set_cons_succ]
        refine wpAnyH_take (i := 19) (v := ?_) rfl (by kernel_rfl) (by kernel_rfl) (by kernel_rfl) (fun _ _ _ h => h) (Or.inl ⟨by kernel_rfl, ?_⟩) (by assumption) ?_
        rotate_left
        · (intro W hS; obtain ⟨hS1, hS2⟩ := hS; go_simp; try (with_reducible rfl))
        refine (show wpAnyH Try.prog Region.Mode.any _ _ _ _ _ (Act.mk (Array.setIfInBounds (List.toArray _) _ _) _) _ from ?_)
        simp only [List.setIfInBounds_toArray, List.set_cons_zero, List.set_cons_succ]
        refine wpAnyH_take (i := 20) (v := ?_) rfl (by kernel_rfl) (by kernel_rfl) (by kernel_rfl) (fun _ _ _ h => h) (Or.inl ⟨by kernel_rfl, ?_⟩) (by assumption) ?_
        rotate_left
        · (intro W hS; obtain ⟨hS1, hS2⟩ := hS; go_simp; try (with_reducible rfl))
        refine (show wpAnyH Try.prog Region.Mode.any _ _ _ _ _ (Act.mk (Array.setIfInBounds (List.toArray _) _ _) _) _ from ?_)
        simp only [List.setIfInBounds_toArray, List.set_cons_zero, List.set_cons_succ]
        refine wpAnyH_take (i := 21) (v := ?_) rfl (by kernel_rfl) (by kernel_rfl) (by kernel_rfl) (fun _ _ _ h => h) (Or.inl ⟨by kernel_rfl, ?_⟩) (by assumption) ?_
        rotate_left
        · (intro W hS; obtain ⟨hS1, hS2⟩ := hS; go_simp; try (with_reducible rfl))
        refine (show wpAnyH Try.prog Region.Mode.any _ _ _ _ _ (Act.mk (Array.setIfInBounds (List.toArray _) _ _) _) _ from ?_)
        simp only [List.setIfInBounds_toArray, List.set_cons_zero, List.set_cons_succ]
        refine wpAnyH_take (i := 22) (v := ?_) rfl (by kernel_rfl) (by kernel_rfl) (by kernel_rfl) (fun _ _ _ h => h) (Or.inl ⟨by kernel_rfl, ?_⟩) (by assumption) ?_
        rotate_left
        · (intro W hS; obtain ⟨hS1, hS2⟩ := hS; go_simp; try (with_reducible rfl))
        refine (show wpAnyH Try.prog Region.Mode.any _ _ _ _ _ (Act.mk (Array.setIfInBounds (List.toArray _) _ _) _) _ from ?_)
        simp only [List.setIfInBounds_toArray, List.set_cons_zero, List.set_cons_succ]
        refine wpAnyH_take (i := 23) (v := ?_) rfl (by kernel_rfl) (by kernel_rfl) (by kernel_rfl) (fun _ _ _ h => h) (Or.inl ⟨by kernel_rfl, ?_⟩) (by assumption) ?_
        rotate_left
        · (intro W hS; obtain ⟨hS1, hS2⟩ := hS; go_simp; try (with_reducible rfl))
        refine (show wpAnyH Try.prog Region.Mode.any _ _ _ _ _ (Act.mk (Array.setIfInBounds (List.toArray _) _ _) _) _ from ?_)
        simp only [List.setIfInBounds_toArray, List.set_cons_zero, List.set_cons_succ]
        refine wpAnyH_take (i := 24) (v := ?_) rfl (by kernel_rfl) (by kernel_rfl) (by kernel_rfl) (fun _ _ _ h => h) (Or.inl ⟨by kernel_rfl, ?_⟩) (by assumption) ?_
        rotate_left
        · (intro W hS; obtain ⟨hS1, hS2⟩ := hS; go_simp; try (with_reducible rfl))
        refine (show wpAnyH Try.prog Region.Mode.any _ _ _ _ _ (Act.mk (Array.setIfInBounds (List.toArray _) _ _) _) _ from ?_)
        simp only [List.setIfInBounds_toArray, List.set_cons_zero, List.set_cons_succ]
        refine wpAnyH_take (i := 25) (v := ?_) rfl (by kernel_rfl) (by kernel_rfl) (by kernel_rfl) (fun _ _ _ h => h) (Or.inl ⟨by kernel_rfl, ?_⟩) (by assumption) ?_
        rotate_left
        · (intro W hS; obtain ⟨hS1, hS2⟩ := hS; go_simp; try (with_reducible rfl))
        refine (show wpAnyH Try.prog Region.Mode.any _ _ _ _ _ (Act.mk (Array.setIfInBounds (List.toArray _) _ _) _) _ from ?_)
        simp only [List.setIfInBounds_toArray, List.set_cons_zero, List.set_cons_succ]
        refine wpAnyH_take (i := 26) (v := ?_) rfl (by kernel_rfl) (by kernel_rfl) (by kernel_rfl) (fun _ _ _ h => h) (Or.inl ⟨by kernel_rfl, ?_⟩) (by assumption) ?_
        rotate_left
        · (intro W hS; obtain ⟨hS1, hS2⟩ := hS; go_simp; try (with_reducible rfl))
        refine (show wpAnyH Try.prog Region.Mode.any _ _ _ _ _ (Act.mk (Array.setIfInBounds (List.toArray _) _ _) _) _ from ?_)
        simp only [List.setIfInBounds_toArray, List.set_cons_zero, List.set_cons_succ]
        refine wpAnyH_take (i := 27) (v := ?_) rfl (by kernel_rfl) (by kernel_rfl) (by kernel_rfl) (fun _ _ _ h => h) (Or.inl ⟨by kernel_rfl, ?_⟩) (by assumption) ?_
        rotate_left
        · (intro W hS; obtain ⟨hS1, hS2⟩ := hS; go_simp; try (with_reducible rfl))
        refine (show wpAnyH Try.prog Region.Mode.any _ _ _ _ _ (Act.mk (Array.setIfInBounds (List.toArray _) _ _) _) _ from ?_)
        simp only [List.setIfInBounds_toArray, List.set_cons_zero, List.set_cons_succ]
        refine wpAnyH_take (i := 28) (v := ?_) rfl (by kernel_rfl) (by kernel_rfl) (by kernel_rfl) (fun _ _ _ h => h) (Or.inl ⟨by kernel_rfl, ?_⟩) (by assumption) ?_
        rotate_left
        · (intro W hS; obtain ⟨hS1, hS2⟩ := hS; go_simp; try (with_reducible rfl))
        refine (show wpAnyH Try.prog Region.Mode.any _ _ _ _ _ (Act.mk (Array.setIfInBounds (List.toArray _) _ _) _) _ from ?_)
        simp only [List.setIfInBounds_toArray, List.set_cons_zero, List.set_cons_succ]
        refine wpAnyH_ready (rs := [1, 15]) (by kernel_rfl) (by simp) (AllReadyH.cons rfl (fun K hK => ?_) (AllReadyH.cons rfl (fun K hK => ?_) AllReadyH.nil))
        · go_simp
          refine hK.out _ _ hHeld (fun hHeld => ?_)
          clear hK K
          refine wpAnyH_ready (rs := [15]) (by kernel_rfl) (by simp) (AllReadyH.cons rfl (fun K hK => ?_) AllReadyH.nil)
          go_simp
          refine (elmSpan_any _ _ _).mono ?_
          rintro e w1' ⟨rfl, hbK⟩
          have m0 : w1'.cell? ⟨w.heap.size + 1 + 1, 0, none⟩ = some tv := kcell hbK (by assumption)
          have m1 : w1'.frozen? ⟨w.heap.size + 1 + 1, 0, none⟩ = false := kfrozen hbK (v := tv) (by assumption) (by assumption)
          have m4 : Below (w.heap.size + 2) wr w1' := bstep2 (by assumption) (by assumption) hbK
          have m6 : w.heap.size + 3 ≤ w1'.heap.size := Nat.le_trans (by assumption) hbK.size
          have m8 : w.heap.size + 1 + 1 < w1'.heap.size := m6
          have m7 : Hid (w1'.heap[w.heap.size + 1 + 1]? = some (.cells #[tv, .slice none 0 0] 33 (0, 0))) := bblk hbK (Hid.out (by assumption))
          have m5 : Hid (Owns encT 4 53 (w.heap.size + 3) w1' tv ((List.range k).map (ebT b))) := Owns.kept (Hid.out (by assumption)) hbK
          go_wp2_with fail
          refine hK.out _ _ ⟨kcell hbK hHeld.1, kcell hbK hHeld.2⟩ (fun hHeld => ?_)
          clear hK K
          refine wpAnyH_ready (rs := [29]) (by kernel_rfl) (by simp) (AllReadyH.cons rfl (fun K hK => ?_) AllReadyH.nil)
          go_simp
          refine (elmSpan_any _ _ _).mono ?_
          rintro e w1' ⟨rfl, hbK⟩
          have m0 : w1'.cell? ⟨w.heap.size + 1 + 1, 0, none⟩ = some tv := kcell hbK (by assumption)
          have m1 : w1'.frozen? ⟨w.heap.size + 1 + 1, 0, none⟩ = false := kfrozen hbK (v := tv) (by assumption) (by assumption)
          have m4 : Below (w.heap.size + 2) wr w1' := bstep2 (by assumption) (by assumption) hbK
          have m6 : w.heap.size + 3 ≤ w1'.heap.size := Nat.le_trans (by assumption) hbK.size
          have m8 : w.heap.size + 1 + 1 < w1'.heap.size := m6
          have m7 : Hid (w1'.heap[w.heap.size + 1 + 1]? = some (.cells #[tv, .slice none 0 0] 33 (0, 0))) := bblk hbK (Hid.out (by assumption))
          have m5 : Hid (Owns encT 4 53 (w.heap.size + 3) w1' tv ((List.range k).map (ebT b))) := Owns.kept (Hid.out (by assumption)) hbK
          go_wp2_with fail
          refine hK.out _ _ ⟨kcell hbK hHeld.1, kcell hbK hHeld.2⟩ (fun hHeld => ?_)
          clear hK K
          refine wpAnyH_take (i := 30) (v := ?_) rfl (by kernel_rfl) (by kernel_rfl) (by kernel_rfl) (fun _ _ _ h => h) (Or.inl ⟨by kernel_rfl, ?_⟩) (by assumption) ?_
          rotate_left
          · (intro W hS; obtain ⟨hS1, hS2⟩ := hS; go_simp; try (with_reducible rfl))
          refine (show wpAnyH Try.prog Region.Mode.any _ _ _ _ _ (Act.mk (Array.setIfInBounds (List.toArray _) _ _) _) _ from ?_)
          simp only [List.setIfInBounds_toArray, List.set_cons_zero, List.set_cons_succ]
          refine wpAnyH_ready (rs := [31]) (by kernel_rfl) (by simp) (AllReadyH.cons rfl (fun K hK => ?_) AllReadyH.nil)
          go_simp
          refine hK.out _ _ ⟨kcell (bpush (Below.refl _ _) _) hHeld.1, kcell (bpush (Below.refl _ _) _) hHeld.2⟩ (fun hHeld => ?_)
          clear hK K
          refine wpAnyH_ready (rs := [32]) (by kernel_rfl) (by simp) (AllReadyH.cons rfl (fun K hK => ?_) AllReadyH.nil)
          refine S_append1 (enc := encT) (sz := 4) (e := 53) (base := w.heap.size + 3) (⟨F - s2, F + y2, R - s3, R + y3⟩ : Tk) (by rfl) _ _ 30 (by rfl) Try.underlying30 HI.out HZ0.out HZ1.out HZ2.out rfl Nat.four_pos' encT_len (encT_one _) (by rfl) (by rfl) ?_ ?_ hbb2.out ?_ ?_
          · exact Owns.kept (Hid.out (by assumption)) (bpush (Below.refl _ _) _)
          · exact encT_cell (heap_new _ _ _)
          · exact Nat.le_trans (by assumption) (bpush (Below.refl _ _) _).size
          intro g' cap w3 hown hbe hG
          have n0 : w3.cell? ⟨w.heap.size + 1 + 1, 0, none⟩ = some tv := (hbe.cell (p := ⟨w.heap.size + 1 + 1, 0, none⟩) (Nat.lt_succ_self _)).trans (kcell (bpush (Below.refl _ _) _) (by assumption))
          have n1 : w3.frozen? ⟨w.heap.size + 1 + 1, 0, none⟩ = false := (hbe.frozen (p := ⟨w.heap.size + 1 + 1, 0, none⟩) (Nat.lt_succ_self _)).trans (kfrozen (bpush (Below.refl _ _) _) (v := tv) (by assumption) (by assumption))
          have n4 : Below (w.heap.size + 2) wr w3 := (bstep3 (by assumption) (by assumption) _).trans (hbe.mono (Nat.le_succ _))
          have n7 : Hid (w3.heap[w.heap.size + 1 + 1]? = some (.cells #[tv, .slice none 0 0] 33 (0, 0))) := (hbe.block (w.heap.size + 1 + 1) (Nat.lt_succ_self _)).trans (bblk (bpush (Below.refl _ _) _) (Hid.out (by assumption)))
          refine hK.out _ _ ⟨cellGN hG HNE.out hHeld.1, cellGN hG HNE.out hHeld.2⟩ (fun hHeld => ?_)
          clear hK K
          refine (show wpAnyH Try.prog Region.Mode.any _ _ _ _ _ (Act.mk (Array.setIfInBounds (List.toArray _) _ _) _) _ from ?_)
          simp only [List.setIfInBounds_toArray, List.set_cons_zero, List.set_cons_succ]
          refine wpAnyH_take (i := 33) (v := ?_) rfl (by kernel_rfl) (by kernel_rfl) (by kernel_rfl) (fun _ _ _ h => h) (Or.inl ⟨by kernel_rfl, ?_⟩) (by assumption) ?_
          rotate_left
          · (intro W hS; obtain ⟨hS1, hS2⟩ := hS; go_simp; try (with_reducible rfl))
          refine (show wpAnyH Try.prog Region.Mode.any _ _ _ _ _ (Act.mk (Array.setIfInBounds (List.toArray _) _ _) _) _ from ?_)
          simp only [List.setIfInBounds_toArray, List.set_cons_zero, List.set_cons_succ]
          refine wpAnyH_ready (rs := [34]) (by kernel_rfl) (by simp) (AllReadyH.cons rfl (fun K hK => ?_) AllReadyH.nil)
          go_simp
          refine hK.out _ _ ⟨cset1 hNB hHeld.1, cset1 hNB hHeld.2⟩ (fun hHeld => ?_)
          clear hK K
          refine wpAnyH_done (by kernel_rfl) ?_ _
          go_wp2_with fail
          go_meet
          have hown2 := hown
          rw [HLk.out] at hown2
          exact eb_done HVV.out HT.out hown2 n4 n7.out
        · go_simp
          refine (elmSpan_any _ _ _).mono ?_
          rintro e w1' ⟨rfl, hbK⟩
          have m0 : w1'.cell? ⟨w.heap.size + 1 + 1, 0, none⟩ = some tv := kcell hbK (by assumption)
          have m1 : w1'.frozen? ⟨w.heap.size + 1 + 1, 0, none⟩ = false := kfrozen hbK (v := tv) (by assumption) (by assumption)
          have m4 : Below (w.heap.size + 2) wr w1' := bstep2 (by assumption) (by assumption) hbK
          have m6 : w.heap.size + 3 ≤ w1'.heap.size := Nat.le_trans (by assumption) hbK.size
          have m8 : w.heap.size + 1 + 1 < w1'.heap.size := m6
          have m7 : Hid (w1'.heap[w.heap.size + 1 + 1]? = some (.cells #[tv, .slice none 0 0] 33 (0, 0))) := bblk hbK (Hid.out (by assumption))
          have m5 : Hid (Owns encT 4 53 (w.heap.size + 3) w1' tv ((List.range k).map (ebT b))) := Owns.kept (Hid.out (by assumption)) hbK
          go_wp2_with fail
          refine hK.out _ _ ⟨kcell hbK hHeld.1, kcell hbK hHeld.2⟩ (fun hHeld => ?_)
          clear hK K
          refine wpAnyH_ready (rs := [1, 29]) (by kernel_rfl) (by simp) (AllReadyH.cons rfl (fun K hK => ?_) (AllReadyH.cons rfl (fun K hK => ?_) AllReadyH.nil))
          · go_simp
            refine hK.out _ _ hHeld (fun hHeld => ?_)
            clear hK K
            refine wpAnyH_ready (rs := [29]) (by kernel_rfl) (by simp) (AllReadyH.cons rfl (fun K hK => ?_) AllReadyH.nil)
            go_simp
            refine (elmSpan_any _ _ _).mono ?_
            rintro e w1' ⟨rfl, hbK⟩
            have m0 : w1'.cell? ⟨w.heap.size + 1 + 1, 0, none⟩ = some tv := kcell hbK (by assumption)
            have m1 : w1'.frozen? ⟨w.heap.size + 1 + 1, 0, none⟩ = false := kfrozen hbK (v := tv) (by assumption) (by assumption)
            have m4 : Below (w.heap.size + 2) wr w1' := bstep2 (by assumption) (by assumption) hbK
            have m6 : w.heap.size + 3 ≤ w1'.heap.size := Nat.le_trans (by assumption) hbK.size
            have m8 : w.heap.size + 1 + 1 < w1'.heap.size := m6
            have m7 : Hid (w1'.heap[w.heap.size + 1 + 1]? = some (.cells #[tv, .slice none 0 0] 33 (0, 0))) := bblk hbK (Hid.out (by assumption))
            have m5 : Hid (Owns encT 4 53 (w.heap.size + 3) w1' tv ((List.range k).map (ebT b))) := Owns.kept (Hid.out (by assumption)) hbK
            go_wp2_with fail
            refine hK.out _ _ ⟨kcell hbK hHeld.1, kcell hbK hHeld.2⟩ (fun hHeld => ?_)
            clear hK K
            refine wpAnyH_take (i := 30) (v := ?_) rfl (by kernel_rfl) (by kernel_rfl) (by kernel_rfl) (fun _ _ _ h => h) (Or.inl ⟨by kernel_rfl, ?_⟩) (by assumption) ?_
            rotate_left
            · (intro W hS; obtain ⟨hS1, hS2⟩ := hS; go_simp; try (with_reducible rfl))
            refine (show wpAnyH Try.prog Region.Mode.any _ _ _ _ _ (Act.mk (Array.setIfInBounds (List.toArray _) _ _) _) _ from ?_)
            simp only [List.setIfInBounds_toArray, List.set_cons_zero, List.set_cons_succ]
            refine wpAnyH_ready (rs := [31]) (by kernel_rfl) (by simp) (AllReadyH.cons rfl (fun K hK => ?_) AllReadyH.nil)
            go_simp
            refine hK.out _ _ ⟨kcell (bpush (Below.refl _ _) _) hHeld.1, kcell (bpush (Below.refl _ _) _) hHeld.2⟩ (fun hHeld => ?_)
            clear hK K
            refine wpAnyH_ready (rs := [32]) (by kernel_rfl) (by simp) (AllReadyH.cons rfl (fun K hK => ?_) AllReadyH.nil)
            refine S_append1 (enc := encT) (sz := 4) (e := 53) (base := w.heap.size + 3) (⟨F - s2, F + y2, R - s3, R + y3⟩ : Tk) (by rfl) _ _ 30 (by rfl) Try.underlying30 HI.out HZ0.out HZ1.out HZ2.out rfl Nat.four_pos' encT_len (encT_one _) (by rfl) (by rfl) ?_ ?_ hbb2.out ?_ ?_
            · exact Owns.kept (Hid.out (by assumption)) (bpush (Below.refl _ _) _)
            · exact encT_cell (heap_new _ _ _)
            · exact Nat.le_trans (by assumption) (bpush (Below.refl _ _) _).size
            intro g' cap w3 hown hbe hG
            have n0 : w3.cell? ⟨w.heap.size + 1 + 1, 0, none⟩ = some tv := (hbe.cell (p := ⟨w.heap.size + 1 + 1, 0, none⟩) (Nat.lt_succ_self _)).trans (kcell (bpush (Below.refl _ _) _) (by assumption))
            have n1 : w3.frozen? ⟨w.heap.size + 1 + 1, 0, none⟩ = false := (hbe.frozen (p := ⟨w.heap.size + 1 + 1, 0, none⟩) (Nat.lt_succ_self _)).trans (kfrozen (bpush (Below.refl _ _) _) (v := tv) (by assumption) (by assumption))
            have n4 : Below (w.heap.size + 2) wr w3 := (bstep3 (by assumption) (by assumption) _).trans (hbe.mono (Nat.le_succ _))
            have n7 : Hid (w3.heap[w.heap.size + 1 + 1]? = some (.cells #[tv, .slice none 0 0] 33 (0, 0))) := (hbe.block (w.heap.size + 1 + 1) (Nat.lt_succ_self _)).trans (bblk (bpush (Below.refl _ _) _) (Hid.out (by assumption)))
            refine hK.out _ _ ⟨cellGN hG HNE.out hHeld.1, cellGN hG HNE.out hHeld.2⟩ (fun hHeld => ?_)
            clear hK K
            refine (show wpAnyH Try.prog Region.Mode.any _ _ _ _ _ (Act.mk (Array.setIfInBounds (List.toArray _) _ _) _) _ from ?_)
            simp only [List.setIfInBounds_toArray, List.set_cons_zero, List.set_cons_succ]
            refine wpAnyH_take (i := 33) (v := ?_) rfl (by kernel_rfl) (by kernel_rfl) (by kernel_rfl) (fun _ _ _ h => h) (Or.inl ⟨by kernel_rfl, ?_⟩) (by assumption) ?_
            rotate_left
            · (intro W hS; obtain ⟨hS1, hS2⟩ := hS; go_simp; try (with_reducible rfl))
            refine (show wpAnyH Try.prog Region.Mode.any _ _ _ _ _ (Act.mk (Array.setIfInBounds (List.toArray _) _ _) _) _ from ?_)
            simp only [List.setIfInBounds_toArray, List.set_cons_zero, List.set_cons_succ]
            refine wpAnyH_ready (rs := [34]) (by kernel_rfl) (by simp) (AllReadyH.cons rfl (fun K hK => ?_) AllReadyH.nil)
            go_simp
            refine hK.out _ _ ⟨cset1 hNB hHeld.1, cset1 hNB hHeld.2⟩ (fun hHeld => ?_)
            clear hK K
            refine wpAnyH_done (by kernel_rfl) ?_ _
            go_wp2_with fail
            go_meet
            have hown2 := hown
            rw [HLk.out] at hown2
            exact eb_done HVV.out HT.out hown2 n4 n7.out
          · go_simp
            refine (elmSpan_any _ _ _).mono ?_
            rintro e w1' ⟨rfl, hbK⟩
            have m0 : w1'.cell? ⟨w.heap.size + 1 + 1, 0, none⟩ = some tv := kcell hbK (by assumption)
            have m1 : w1'.frozen? ⟨w.heap.size + 1 + 1, 0, none⟩ = false := kfrozen hbK (v := tv) (by assumption) (by assumption)
            have m4 : Below (w.heap.size + 2) wr w1' := bstep2 (by assumption) (by assumption) hbK
            have m6 : w.heap.size + 3 ≤ w1'.heap.size := Nat.le_trans (by assumption) hbK.size
            have m8 : w.heap.size + 1 + 1 < w1'.heap.size := m6
            have m7 : Hid (w1'.heap[w.heap.size + 1 + 1]? = some (.cells #[tv, .slice none 0 0] 33 (0, 0))) := bblk hbK (Hid.out (by assumption))
            have m5 : Hid (Owns encT 4 53 (w.heap.size + 3) w1' tv ((List.range k).map (ebT b))) := Owns.kept (Hid.out (by assumption)) hbK
            go_wp2_with fail
            refine hK.out _ _ ⟨kcell hbK hHeld.1, kcell hbK hHeld.2⟩ (fun hHeld => ?_)
            clear hK K
            refine wpAnyH_take (i := 30) (v := ?_) rfl (by kernel_rfl) (by kernel_rfl) (by kernel_rfl) (fun _ _ _ h => h) (Or.inl ⟨by kernel_rfl, ?_⟩) (by assumption) ?_
            rotate_left
            · (intro W hS; obtain ⟨hS1, hS2⟩ := hS; go_simp; try (with_reducible rfl))
            refine (show wpAnyH Try.prog Region.Mode.any _ _ _ _ _ (Act.mk (Array.setIfInBounds (List.toArray _) _ _) _) _ from ?_)
            simp only [List.setIfInBounds_toArray, List.set_cons_zero, List.set_cons_succ]
            refine wpAnyH_ready (rs := [1, 31]) (by kernel_rfl) (by simp) (AllReadyH.cons rfl (fun K hK => ?_) (AllReadyH.cons rfl (fun K hK => ?_) AllReadyH.nil))
            · go_simp
              refine hK.out _ _ hHeld (fun hHeld => ?_)
              clear hK K
              refine wpAnyH_ready (rs := [31]) (by kernel_rfl) (by simp) (AllReadyH.cons rfl (fun K hK => ?_) AllReadyH.nil)
              go_simp
              refine hK.out _ _ ⟨kcell (bpush (Below.refl _ _) _) hHeld.1, kcell (bpush (Below.refl _ _) _) hHeld.2⟩ (fun hHeld => ?_)
              clear hK K
              refine wpAnyH_ready (rs := [32]) (by kernel_rfl) (by simp) (AllReadyH.cons rfl (fun K hK => ?_) AllReadyH.nil)
              refine S_append1 (enc := encT) (sz := 4) (e := 53) (base := w.heap.size + 3) (⟨F - s2, F + y2, R - s3, R + y3⟩ : Tk) (by rfl) _ _ 30 (by rfl) Try.underlying30 HI.out HZ0.out HZ1.out HZ2.out rfl Nat.four_pos' encT_len (encT_one _) (by rfl) (by rfl) ?_ ?_ hbb2.out ?_ ?_
              · exact Owns.kept (Hid.out (by assumption)) (bpush (Below.refl _ _) _)
              · exact encT_cell (heap_new _ _ _)
              · exact Nat.le_trans (by assumption) (bpush (Below.refl _ _) _).size
              intro g' cap w3 hown hbe hG
              have n0 : w3.cell? ⟨w.heap.size + 1 + 1, 0, none⟩ = some tv := (hbe.cell (p := ⟨w.heap.size + 1 + 1, 0, none⟩) (Nat.lt_succ_self _)).trans (kcell (bpush (Below.refl _ _) _) (by assumption))
              have n1 : w3.frozen? ⟨w.heap.size + 1 + 1, 0, none⟩ = false := (hbe.frozen (p := ⟨w.heap.size + 1 + 1, 0, none⟩) (Nat.lt_succ_self _)).trans (kfrozen (bpush (Below.refl _ _) _) (v := tv) (by assumption) (by assumption))
              have n4 : Below (w.heap.size + 2) wr w3 := (bstep3 (by assumption) (by assumption) _).trans (hbe.mono (Nat.le_succ _))
              have n7 : Hid (w3.heap[w.heap.size + 1 + 1]? = some (.cells #[tv, .slice none 0 0] 33 (0, 0))) := (hbe.block (w.heap.size + 1 + 1) (Nat.lt_succ_self _)).trans (bblk (bpush (Below.refl _ _) _) (Hid.out (by assumption)))
              refine hK.out _ _ ⟨cellGN hG HNE.out hHeld.1, cellGN hG HNE.out hHeld.2⟩ (fun hHeld => ?_)
              clear hK K
              refine (show wpAnyH Try.prog Region.Mode.any _ _ _ _ _ (Act.mk (Array.setIfInBounds (List.toArray _) _ _) _) _ from ?_)
              simp only [List.setIfInBounds_toArray, List.set_cons_zero, List.set_cons_succ]
              refine wpAnyH_take (i := 33) (v := ?_) rfl (by kernel_rfl) (by kernel_rfl) (by kernel_rfl) (fun _ _ _ h => h) (Or.inl ⟨by kernel_rfl, ?_⟩) (by assumption) ?_
              rotate_left
              · (intro W hS; obtain ⟨hS1, hS2⟩ := hS; go_simp; try (with_reducible rfl))
              refine (show wpAnyH Try.prog Region.Mode.any _ _ _ _ _ (Act.mk (Array.setIfInBounds (List.toArray _) _ _) _) _ from ?_)
              simp only [List.setIfInBounds_toArray, List.set_cons_zero, List.set_cons_succ]
              refine wpAnyH_ready (rs := [34]) (by kernel_rfl) (by simp) (AllReadyH.cons rfl (fun K hK => ?_) AllReadyH.nil)
              go_simp
              refine hK.out _ _ ⟨cset1 hNB hHeld.1, cset1 hNB hHeld.2⟩ (fun hHeld => ?_)
              clear hK K
              refine wpAnyH_done (by kernel_rfl) ?_ _
              go_wp2_with fail
              go_meet
              have hown2 := hown
              rw [HLk.out] at hown2
              exact eb_done HVV.out HT.out hown2 n4 n7.out
            · go_simp
              refine hK.out _ _ ⟨kcell (bpush (Below.refl _ _) _) hHeld.1, kcell (bpush (Below.refl _ _) _) hHeld.2⟩ (fun hHeld => ?_)
              clear hK K
              refine wpAnyH_ready (rs := [1]) (by kernel_rfl) (by simp) (AllReadyH.cons rfl (fun K hK => ?_) AllReadyH.nil)
              go_simp
              refine hK.out _ _ hHeld (fun hHeld => ?_)
              clear hK K
              refine wpAnyH_ready (rs := [32]) (by kernel_rfl) (by simp) (AllReadyH.cons rfl (fun K hK => ?_) AllReadyH.nil)
              refine S_append1 (enc := encT) (sz := 4) (e := 53) (base := w.heap.size + 3) (⟨F - s2, F + y2, R - s3, R + y3⟩ : Tk) (by rfl) _ _ 30 (by rfl) Try.underlying30 HI.out HZ0.out HZ1.out HZ2.out rfl Nat.four_pos' encT_len (encT_one _) (by rfl) (by rfl) ?_ ?_ hbb2.out ?_ ?_
              · exact Owns.kept (Hid.out (by assumption)) (bpush (Below.refl _ _) _)
              · exact encT_cell (heap_new _ _ _)
              · exact Nat.le_trans (by assumption) (bpush (Below.refl _ _) _).size
              intro g' cap w3 hown hbe hG
              have n0 : w3.cell? ⟨w.heap.size + 1 + 1, 0, none⟩ = some tv := (hbe.cell (p := ⟨w.heap.size + 1 + 1, 0, none⟩) (Nat.lt_succ_self _)).trans (kcell (bpush (Below.refl _ _) _) (by assumption))
              have n1 : w3.frozen? ⟨w.heap.size + 1 + 1, 0, none⟩ = false := (hbe.frozen (p := ⟨w.heap.size + 1 + 1, 0, none⟩) (Nat.lt_succ_self _)).trans (kfrozen (bpush (Below.refl _ _) _) (v := tv) (by assumption) (by assumption))
              have n4 : Below (w.heap.size + 2) wr w3 := (bstep3 (by assumption) (by assumption) _).trans (hbe.mono (Nat.le_succ _))
              have n7 : Hid (w3.heap[w.heap.size + 1 + 1]? = some (.cells #[tv, .slice none 0 0] 33 (0, 0))) := (hbe.block (w.heap.size + 1 + 1) (Nat.lt_succ_self _)).trans (bblk (bpush (Below.refl _ _) _) (Hid.out (by assumption)))
              refine hK.out _ _ ⟨cellGN hG HNE.out hHeld.1, cellGN hG HNE.out hHeld.2⟩ (fun hHeld => ?_)
              clear hK K
              refine (show wpAnyH Try.prog Region.Mode.any _ _ _ _ _ (Act.mk (Array.setIfInBounds (List.toArray _) _ _) _) _ from ?_)
              simp only [List.setIfInBounds_toArray, List.set_cons_zero, List.set_cons_succ]
              refine wpAnyH_take (i := 33) (v := ?_) rfl (by kernel_rfl) (by kernel_rfl) (by kernel_rfl) (fun _ _ _ h => h) (Or.inl ⟨by kernel_rfl, ?_⟩) (by assumption) ?_
              rotate_left
              · (intro W hS; obtain ⟨hS1, hS2⟩ := hS; go_simp; try (with_reducible rfl))
              refine (show wpAnyH Try.prog Region.Mode.any _ _ _ _ _ (Act.mk (Array.setIfInBounds (List.toArray _) _ _) _) _ from ?_)
              simp only [List.setIfInBounds_toArray, List.set_cons_zero, List.set_cons_succ]
              refine wpAnyH_ready (rs := [34]) (by kernel_rfl) (by simp) (AllReadyH.cons rfl (fun K hK => ?_) AllReadyH.nil)
              go_simp
              refine hK.out _ _ ⟨cset1 hNB hHeld.1, cset1 hNB hHeld.2⟩ (fun hHeld => ?_)
              clear hK K
              refine wpAnyH_done (by kernel_rfl) ?_ _
              go_wp2_with fail
              go_meet
              have hown2 := hown
              rw [HLk.out] at hown2
              exact eb_done HVV.out HT.out hown2 n4 n7.out
      case rest =>
        obtain ⟨tv2, hv2⟩ := hcut
        have HV2 := Lib.hid hv2; clear hv2
        go_wp2_with fail
        go_roundw
        case rel => exact ⟨k + 1, tv2, by omega, by go_num, HV2.out⟩
        case measure => simp [intOf]; omega
    · obtain rfl : k = 3 := by omega
      have c0 : wr.cell? ⟨w.heap.size + 1 + 1, 0, none⟩ = some tv := by rw [cell_of_row _ _ _ _ _ _ H2.out]; rfl
      have c1 : wr.cell? ⟨w.heap.size + 1 + 1, 1, none⟩ = some (.slice none 0 0) := by rw [cell_of_row _ _ _ _ _ _ H2.out]; rfl
      have r0 := heap_set2 (u := tv) (v := .slice none 0 0) H1.out
      have HR0' := Lib.hid r0
      have hf0 : wr.frozen? ⟨w.heap.size + 1, 0, none⟩ = false := by unfold World.frozen?; rw [H1.out]; rfl
      have hf1 : wr.frozen? ⟨w.heap.size + 1, 1, none⟩ = false := by unfold World.frozen?; rw [H1.out]; rfl
      have d0 : wr.cell? ⟨w.heap.size + 1, 0, none⟩ = some (.slice none 0 0) := by rw [cell_of_row _ _ _ _ _ _ H1.out]; rfl
      have d1 : wr.cell? ⟨w.heap.size + 1, 1, none⟩ = some (.slice none 0 0) := by rw [cell_of_row _ _ _ _ _ _ H1.out]; rfl
      obtain ⟨ta, tc, rfl⟩ := HO.out.len
      clear r0
      go_wp2_with fail
      have hO := World.ownsRow.kept HO.out (grown_set2 wr (w.heap.size + 1) (.slice ta ((List.range 3).map (ebT b)).length tc) (.slice none 0 0)) (by
        cases hv : (Value.slice ta ((List.range 3).map (ebT b)).length tc).ownBlock with
        | none => exact .inl rfl
        | some q =>
          have := (World.ownsRow.lt HO.out q hv).1
          refine .inr (fun e => ?_)
          simp only [Option.some.injEq] at e; omega)
      exact bodyPost_ret (results_cell_row (fn := Try.f5) Try.results5 _ _ (w.heap.size + 1) 33 #[.slice ta ((List.range 3).map (ebT b)).length tc, .slice none 0 0] (0, 0) _ rfl HR0'.out Try.underlying33 rfl (by kernel_rfl)) rfl ⟨_, rfl, Owns.base2 hO (by omega), bput (bput HV.out.B (by simp) _) (by simp) _⟩
end Go.Proofs.Ytdhkgpfcanekkaa
