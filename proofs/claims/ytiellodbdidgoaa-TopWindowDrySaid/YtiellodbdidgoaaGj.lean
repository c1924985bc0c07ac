/- The elm functions of Top laws: spans, copies of spans, and the known examples of chapters 2 and 5. -/
import Derived.Test.YtiellodbdidgoaaGi
import Derived.Test.YtiellodbdidgoaaVa
import Derived.Test.YtiellodbdidgoaaSi
import Derived.Test.YtiellodbdidgoaaSj
namespace Go.Proofs.Ytiellodbdidgoaa
open Go Go.RowKit Go.Shelf
attribute [local go_sem ↓] Go.wp_at_zero Go.wp_at_succ

set_option maxHeartbeats 400000 in
theorem elmSpan_any (lo hi : Int) (w : World) :
    Calls Try.prog 6 #[iv lo, iv hi] w fun e w' => e = .returned (.agg #[iv lo, iv hi]) ∧ Below w.heap.size w w' := by
  go_enter Try.func6, Try.ntmps6
  go_wp2_with fail
  exact bodyPost_ret (v := .agg #[iv lo, iv hi]) (by simp [results, Try.results6, go_sem]) rfl ⟨rfl, (by repeat (first | exact Below.refl _ _ | refine Below.drew ?_ | refine bpush ?_ _ | refine bput ?_ (by simp) _ | (refine bstep ?_ (by assumption))))⟩

set_option maxRecDepth 20000 in
set_option maxHeartbeats 1600000 in
theorem elmSpans_any (F : List Sp) (ad : Addr) (c : Nat) (w : World) (hl : F.length ≤ 1000000) (hf : SliceOf encS 2 w (.slice (some ad) F.length c) F) :
    Calls Try.prog 8 #[.slice (some ad) F.length c] w fun e w' => ∃ v, e = .returned v ∧ Owns encS 2 30 w.heap.size w' v F ∧ Below w.heap.size w w' := by
  obtain ⟨i0, hi, hz0, hz1, hz2⟩ := info_parts infoSpG
  have HI := Lib.hid hi; have HZ0 := Lib.hid hz0; have HZ1 := Lib.hid hz1; have HZ2 := Lib.hid hz2
  have HF := Lib.hid (SliceOf.below hf (bpush (Below.refl _ _) (.cells #[] 30)))
  have HB2 : Hid (([] : List Sp).length + F.length ≤ maxLen ∧ (([] : List Sp).length + F.length) * 16 ≤ 140737488355328) := by simp only [Hid, List.length_nil]; unfold maxLen; omega
  have HB3 : Hid (w.heap.size ≤ (w.alloc (.cells #[] 30)).heap.size) := by simp [Hid]
  clear hi hz0 hz1 hz2 hf
  go_enter Try.func8, Try.ntmps8
  go_wp2_with (at_builtin; refine L_appendS F rfl _ _ 33 rfl Try.underlying33 HI.out HZ0.out HZ1.out HZ2.out rfl Nat.two_pos encS_len encS_one rfl rfl (owns_empty encS 2 30 w.heap.size w (Nat.le_refl _)) HF.out HB2.out HB3.out ?_; intro v' w1 hown hbe hg)
  have HO := Lib.hid hown; have HBE := Lib.hid (bpush (Below.refl w.heap.size w) (.cells #[] 30) |>.trans hbe)
  clear hown hbe hg
  go_ret
  exact ⟨_, rfl, HO.out, HBE.out⟩

theorem kWin : winO kMl kFl 2 2 = some 1 := by decide +kernel
set_option maxRecDepth 20000 in
set_option maxHeartbeats 3200000 in
theorem elmWater_any (w : World) :
    Calls Try.prog 12 #[] w fun e w' => e = .returned (.bool true) ∧ Below w.heap.size w w' := by
  have hM := fun (w : World) (fv : Value) hs => Window_good kMl kFl fv 2 2 w hs kChk (by decide) (by decide)
  rw [kWin] at hM
  have HM := Lib.hid hM; clear hM
  simp only [encMl, kMl, winV] at HM
  go_enter Try.func12, Try.ntmps12
  go_wp2_with fail
  refine (elmSpan_any 30 40 _).mono ?_
  rintro e w1 ⟨rfl, hb1⟩
  go_wp2_with fail
  refine (elmSpan_any 20 25 _).mono ?_
  rintro e w2 ⟨rfl, hb2⟩
  have hB2 := bstep hb1 hb2
  clear hb1 hb2
  obtain ⟨Wn, hWn⟩ : ∃ Wn : World, w2.alloc (.cells #[.int .i64 3, .int .i64 10, .int .i64 30, .int .i64 40, .int .i64 50, .int .i64 20, .int .i64 25] 32) = Wn := ⟨_, rfl⟩
  have hBw : Below w.heap.size w Wn := by rw [← hWn]; exact bpush hB2 _
  have c0 : Wn.cell? ⟨w2.heap.size, 0, none⟩ = some (iv 3) := by subst hWn; go_simp
  have c1 : Wn.cell? ⟨w2.heap.size, 1, none⟩ = some (iv 10) := by subst hWn; go_simp
  have c2 : Wn.cell? ⟨w2.heap.size, 2, none⟩ = some (iv 30) := by subst hWn; go_simp
  have c3 : Wn.cell? ⟨w2.heap.size, 3, none⟩ = some (iv 40) := by subst hWn; go_simp
  have c4 : Wn.cell? ⟨w2.heap.size, 4, none⟩ = some (iv 50) := by subst hWn; go_simp
  have c5 : Wn.cell? ⟨w2.heap.size, 5, none⟩ = some (iv 20) := by subst hWn; go_simp
  have c6 : Wn.cell? ⟨w2.heap.size, 6, none⟩ = some (iv 25) := by subst hWn; go_simp
  clear hB2
  go_wp2_with fail
  clear hWn
  go_region_held3 (fun w' => w'.cell? ⟨w2.heap.size, 0, none⟩ = some (iv 3) ∧ w'.cell? ⟨w2.heap.size, 1, none⟩ = some (iv 10) ∧ w'.cell? ⟨w2.heap.size, 2, none⟩ = some (iv 30) ∧ w'.cell? ⟨w2.heap.size, 3, none⟩ = some (iv 40) ∧ w'.cell? ⟨w2.heap.size, 4, none⟩ = some (iv 50) ∧ w'.cell? ⟨w2.heap.size, 5, none⟩ = some (iv 20) ∧ w'.cell? ⟨w2.heap.size, 6, none⟩ = some (iv 25) ∧ Below w.heap.size w w')
    (first | (go_split_ands; refine ⟨?_, ?_, ?_, ?_, ?_, ?_, ?_, ?_⟩ <;> first | assumption | exact kcell hbK (by assumption) | exact kfrozen hbK (by assumption) (by assumption) | exact bstep (by assumption) hbK | exact SliceOf.below (by assumption) hbK | exact kcell (bpush (Below.refl _ _) _) (by assumption) | exact kfrozen (bpush (Below.refl _ _) _) (by assumption) (by assumption) | exact bpush (by assumption) _ | exact SliceOf.below (by assumption) (bpush (Below.refl _ _) _)) | (refine ⟨?_, ?_, ?_, ?_, ?_, ?_, ?_, ?_⟩ <;> first | exact Below.drew (by assumption) | exact SliceOf.below (by assumption) ((Below.refl _ _).drew) | assumption))
    (first | ((with_reducible refine (elmSpan_any _ _ _).mono ?_); rintro e w3 ⟨rfl, hbK⟩) | ((with_reducible refine (HM.out _ _ (spans3 (heap_new _ _ _))).mono ?_); rintro e w3 ⟨rfl, hbK⟩))
  all_goals
    rename_i hHeld
    obtain ⟨-, -, -, -, -, -, -, hBB⟩ := hHeld
    have HBB := Lib.hid hBB
    clear hBB hbK c0 c1 c2 c3 c4 c5 c6 hBw
    go_wp2_with fail
    go_ret
    exact ⟨rfl, HBB.out⟩

def kTn : List Tn := [((200, 204), (0, 0))]
theorem kTnChk : fdChk ⟨kTn, [520], 0, 50⟩ = 0 := by decide +kernel
theorem kTnMap : kTn.map (lenS 50) = [(204, 210)] := by decide +kernel
theorem tn_new {w : World} {g cap : Nat} {a b c d : Int} {t : TypeId} (h : w.heap[g]? = some (.cells #[iv a, iv b, iv c, iv d] t (0, 0))) : SliceOf encN 4 w (.slice (some ⟨g, 0, none⟩) 1 cap) [((a, b), (c, d))] := by
  refine ⟨_, cap, rfl, by simp, fun i p hp => ⟨g, 0, rfl, fun j u hu => ?_⟩⟩
  rw [cell_of_row _ _ _ _ _ _ h]
  rcases i with _ | i
  · simp at hp; subst hp; rcases j with _ | _ | _ | _ | j <;> simp [encN] at hu ⊢ <;> exact hu
  · simp at hp
set_option maxRecDepth 20000 in
set_option maxHeartbeats 3200000 in
theorem elmField_any (w : World) :
    Calls Try.prog 13 #[] w fun e w' => e = .returned (.bool true) ∧ Below w.heap.size w w' := by
  have hM := fun (w : World) (ca ra : Option Addr) (cc rc : Nat) hc hr => Hangs_good kTn [520] 0 50 ca ra cc rc w hc hr kTnChk
  unfold HangsRes at hM
  rw [kTnMap] at hM
  have HM := Lib.hid hM; clear hM
  go_enter Try.func13, Try.ntmps13
  go_wp2_with fail
  refine (elmSpan_any 200 204 _).mono ?_
  rintro e w1 ⟨rfl, hb1⟩
  have HB1 := Lib.hid hb1; clear hb1
  go_wp2_with fail
  have hz1 : w1.heap.size < ((w1.alloc (.cells #[iv 200, iv 204, iv 0, iv 0] 39)).alloc (.cells #[iv 520] 3)).heap.size := by simp; omega
  have h2 := heap_new (w1.alloc (.cells #[iv 200, iv 204, iv 0, iv 0] 39)) #[iv 520] 3
  rw [World.size_alloc] at h2
  refine (HM.out _ _ _ _ _ (SliceOf.below (tn_new (heap_new w1 #[iv 200, iv 204, iv 0, iv 0] 39)) (bpush (Below.refl _ _) _)) (ints1 ((cell_of_row _ _ _ _ _ _ h2).trans rfl))).mono ?_
  rintro e w2 ⟨g, rfl, hs, hb2⟩
  have HB2 := Lib.hid (bstep HB1.out (bstep (bpush (bpush (Below.refl w1.heap.size w1) _) _) hb2))
  have hs : SliceOf encS 2 w2 (.slice (some ⟨g, 0, none⟩) 1 1) [(204, 210)] := hs
  obtain ⟨g', o', e', hj⟩ := sl_rowG (k := 0) hs rfl
  simp only [Option.some.injEq, Addr.mk.injEq, and_true] at e'
  obtain ⟨rfl, rfl⟩ := e'
  have x0 : w2.cell? ⟨g, 0, none⟩ = some (iv 204) := hj 0 _ rfl
  have x1 : w2.cell? ⟨g, 1, none⟩ = some (iv 210) := hj 1 _ rfl
  have hbz : Below w2.heap.size w2 w2 := Below.refl _ _
  have hk1 : kTn.length = 1 := rfl
  rw [hk1]
  clear hz1 h2 hb2 hs hj HM
  go_wp2_with fail
  go_region_held3 (fun w' => w'.cell? ⟨g, 0, none⟩ = some (iv 204) ∧ w'.cell? ⟨g, 1, none⟩ = some (iv 210) ∧ Below w2.heap.size w2 w')
    (first | (go_split_ands; refine ⟨?_, ?_, ?_⟩ <;> first | assumption | exact kcell hbK (by assumption) | exact kfrozen hbK (by assumption) (by assumption) | exact bstep (by assumption) hbK | exact SliceOf.below (by assumption) hbK | exact kcell (bpush (Below.refl _ _) _) (by assumption) | exact kfrozen (bpush (Below.refl _ _) _) (by assumption) (by assumption) | exact bpush (by assumption) _ | exact SliceOf.below (by assumption) (bpush (Below.refl _ _) _)) | (refine ⟨?_, ?_, ?_⟩ <;> first | exact Below.drew (by assumption) | exact SliceOf.below (by assumption) ((Below.refl _ _).drew) | assumption))
    (first | ((with_reducible refine (elmSpan_any _ _ _).mono ?_); rintro e w3 ⟨rfl, hbK⟩))
  all_goals
    rename_i hHeld
    have HBB := Lib.hid (bstep HB2.out hHeld.2.2)
    clear hHeld x0 x1 hbz
    go_wp2_with fail
    go_ret
    exact ⟨rfl, HBB.out⟩
end Go.Proofs.Ytiellodbdidgoaa
