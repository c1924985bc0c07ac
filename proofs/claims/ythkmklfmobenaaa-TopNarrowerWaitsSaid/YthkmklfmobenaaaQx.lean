/- Turns: a copy of a day. -/
import Derived.Test.YthkmklfmobenaaaQw
import Derived.Test.YthkmklfmobenaaaQk
namespace Go.Proofs.Ythkmklfmobenaaa
open Go Go.RowKit Go.Shelf
attribute [local go_sem ↓] Go.wp_at_zero Go.wp_at_succ

theorem encC_one (c : Ct) : ∀ u ∈ encC c, u.oneCell' = true := by intro u hu; simp [encC] at hu; rcases hu with rfl | rfl | rfl | rfl <;> rfl
theorem infoC : (Try.prog.info? 49).map (fun i => (i.zero, i.size, i.bytes)) = some (some (.agg #[.int .i64 0, .int .i64 0, .int .i64 0, .int .i64 0]), 4, 32) := by kernel_rfl
set_option maxRecDepth 20000 in
set_option maxHeartbeats 1600000 in
theorem firIntsN_any (L : List Int) (ad : Addr) (c : Nat) (w : World) (hl : L.length ≤ 1000000) (hf : Ints w (.slice (some ad) L.length c) L) :
    Calls Try.prog 23 #[.slice (some ad) L.length c] w fun e w' => ∃ g cp, e = .returned (.slice (some ⟨g, 0, none⟩) L.length cp) ∧ Owns encI 1 3 w.heap.size w' (.slice (some ⟨g, 0, none⟩) L.length cp) L ∧ Below w.heap.size w w' := by
  obtain ⟨i0, hi, hz0, hz1, hz2⟩ := info_parts info3
  have HI := Lib.hid hi; have HZ0 := Lib.hid hz0; have HZ1 := Lib.hid hz1; have HZ2 := Lib.hid hz2
  have HF := Lib.hid (SliceOf.below hf (bpush (Below.refl _ _) (.cells #[] 3)))
  have HB2 : Hid (([] : List Int).length + L.length ≤ maxLen ∧ (([] : List Int).length + L.length) * 8 ≤ 140737488355328) := by simp only [Hid, List.length_nil]; unfold maxLen; omega
  have HB3 : Hid (w.heap.size ≤ (w.alloc (.cells #[] 3)).heap.size) := by simp [Hid]
  have HNE : Hid ((Value.slice (some ⟨w.heap.size, 0, none⟩) 0 0) ≠ .slice none 0 0) := by intro h; cases h
  clear hi hz0 hz1 hz2 hf
  go_enter Try.func23, Try.ntmps23
  go_wp2_with (at_builtin; refine L_appendN L rfl _ _ 24 rfl Try.underlying24 HI.out HZ0.out HZ1.out HZ2.out rfl Nat.one_pos encI_len encI_one rfl rfl (owns_empty encI 1 3 w.heap.size w (Nat.le_refl _)) HNE.out HF.out HB2.out HB3.out ?_; intro g cp w1 hown hbe)
  have HO := Lib.hid hown; have HBE := Lib.hid (bpush (Below.refl w.heap.size w) (.cells #[] 3) |>.trans hbe)
  clear hown hbe
  go_ret
  exact ⟨g, cp, rfl, HO.out, HBE.out⟩

theorem keepDay {w X : World} {ca : Option Addr} {cc ra rb rc : Nat} {C : List Ct} {R : List Int} {u v : Value} (hC : SliceOf encC 4 w (.slice ca C.length cc) C) (hR : Ints w (.slice (some ⟨ra, rb, none⟩) R.length rc) R) (h : (X.cell? ⟨w.heap.size, 0, none⟩ = some (.slice ca C.length cc) ∧ X.cell? ⟨w.heap.size, 1, none⟩ = some (.slice (some ⟨ra, rb, none⟩) R.length rc) ∧ X.cell? ⟨w.heap.size + 1, 0, none⟩ = some (cv X (w.heap.size + 1) 0) ∧ X.cell? ⟨w.heap.size + 1, 1, none⟩ = some (cv X (w.heap.size + 1) 1) ∧ X.frozen? ⟨w.heap.size + 1, 0, none⟩ = false ∧ X.frozen? ⟨w.heap.size + 1, 1, none⟩ = false ∧ SliceOf encC 4 X (.slice ca C.length cc) C ∧ Ints X (.slice (some ⟨ra, rb, none⟩) R.length rc) R ∧ Below w.heap.size w X)) : (((X.setCell ⟨w.heap.size + 1, 0, none⟩ u).setCell ⟨w.heap.size + 1, 1, none⟩ v).cell? ⟨w.heap.size, 0, none⟩ = some (.slice ca C.length cc) ∧ ((X.setCell ⟨w.heap.size + 1, 0, none⟩ u).setCell ⟨w.heap.size + 1, 1, none⟩ v).cell? ⟨w.heap.size, 1, none⟩ = some (.slice (some ⟨ra, rb, none⟩) R.length rc) ∧ ((X.setCell ⟨w.heap.size + 1, 0, none⟩ u).setCell ⟨w.heap.size + 1, 1, none⟩ v).cell? ⟨w.heap.size + 1, 0, none⟩ = some (cv ((X.setCell ⟨w.heap.size + 1, 0, none⟩ u).setCell ⟨w.heap.size + 1, 1, none⟩ v) (w.heap.size + 1) 0) ∧ ((X.setCell ⟨w.heap.size + 1, 0, none⟩ u).setCell ⟨w.heap.size + 1, 1, none⟩ v).cell? ⟨w.heap.size + 1, 1, none⟩ = some (cv ((X.setCell ⟨w.heap.size + 1, 0, none⟩ u).setCell ⟨w.heap.size + 1, 1, none⟩ v) (w.heap.size + 1) 1) ∧ ((X.setCell ⟨w.heap.size + 1, 0, none⟩ u).setCell ⟨w.heap.size + 1, 1, none⟩ v).frozen? ⟨w.heap.size + 1, 0, none⟩ = false ∧ ((X.setCell ⟨w.heap.size + 1, 0, none⟩ u).setCell ⟨w.heap.size + 1, 1, none⟩ v).frozen? ⟨w.heap.size + 1, 1, none⟩ = false ∧ SliceOf encC 4 ((X.setCell ⟨w.heap.size + 1, 0, none⟩ u).setCell ⟨w.heap.size + 1, 1, none⟩ v) (.slice ca C.length cc) C ∧ Ints ((X.setCell ⟨w.heap.size + 1, 0, none⟩ u).setCell ⟨w.heap.size + 1, 1, none⟩ v) (.slice (some ⟨ra, rb, none⟩) R.length rc) R ∧ Below w.heap.size w ((X.setCell ⟨w.heap.size + 1, 0, none⟩ u).setCell ⟨w.heap.size + 1, 1, none⟩ v)) := by
  obtain ⟨h2, h3, h4, h5, h6, h7, h8, h8', h9⟩ := h
  have hb := bput2 (u := u) (v := v) h9 (Nat.le_succ w.heap.size)
  have hsame : ∀ b o, b ≠ w.heap.size + 1 → ((X.setCell ⟨w.heap.size + 1, 0, none⟩ u).setCell ⟨w.heap.size + 1, 1, none⟩ v).cell? ⟨b, o, none⟩ = X.cell? ⟨b, o, none⟩ := fun b o hne =>
    World.cell?_of_block ((Below.heap_setCell _ _ _ _ hne).trans (Below.heap_setCell _ _ _ _ hne))
  have c0 : ((X.setCell ⟨w.heap.size + 1, 0, none⟩ u).setCell ⟨w.heap.size + 1, 1, none⟩ v).cell? ⟨w.heap.size + 1, 0, none⟩ = some u := by go_simp
  have c1 : ((X.setCell ⟨w.heap.size + 1, 0, none⟩ u).setCell ⟨w.heap.size + 1, 1, none⟩ v).cell? ⟨w.heap.size + 1, 1, none⟩ = some v := by go_simp
  refine ⟨(hsame _ _ (by omega)).trans h2, (hsame _ _ (by omega)).trans h3, cv_of c0, cv_of c1, ?_, ?_, SliceOf.below hC hb, SliceOf.below hR hb, hb⟩
  · go_simp
  · go_simp

set_option maxRecDepth 20000 in
set_option maxHeartbeats 6400000 in
theorem firDay_ne (C : List Ct) (R : List Int) (hne : C ≠ []) (ad : Addr) (ra rb cc rc : Nat) (w : World) (hC : SliceOf encC 4 w (.slice (some ad) C.length cc) C) (hR : Ints w (.slice (some ⟨ra, rb, none⟩) R.length rc) R) (hlC : C.length ≤ 1000000) (hlR : R.length ≤ 1000000) :
    Calls Try.prog 9 #[.agg #[.slice (some ad) C.length cc, .slice (some ⟨ra, rb, none⟩) R.length rc]] w fun e w' => ∃ ca' cc' g rc', e = .returned (.agg #[.slice ca' C.length cc', .slice (some ⟨g, 0, none⟩) R.length rc']) ∧ SliceOf encC 4 w' (.slice ca' C.length cc') C ∧ Ints w' (.slice (some ⟨g, 0, none⟩) R.length rc') R ∧ Below w.heap.size w w' := by
  obtain ⟨i0, hi, hz0, hz1, hz2⟩ := info_parts infoC
  have HI := Lib.hid hi; have HZ0 := Lib.hid hz0; have HZ1 := Lib.hid hz1; have HZ2 := Lib.hid hz2
  have HB2 : Hid (C.length ≤ maxLen ∧ C.length * 32 ≤ 140737488355328) := by simp only [Hid]; unfold maxLen; omega
  have HFI := Lib.hid (fun (W : World) (h : Ints W (.slice (some ⟨ra, rb, none⟩) R.length rc) R) => firIntsN_any R ⟨ra, rb, none⟩ rc W hlR h)
  clear hi hz0 hz1 hz2
  obtain ⟨ca, hca⟩ : ∃ ca, ca = some ad := ⟨_, rfl⟩
  obtain ⟨Wn, hWn⟩ : ∃ Wn : World, (w.alloc (.cells #[.slice (some ad) C.length cc, .slice (some ⟨ra, rb, none⟩) R.length rc] 27)).alloc (.cells #[.slice none 0 0, .slice none 0 0] 27) = Wn := ⟨_, rfl⟩
  have hBw : Below w.heap.size w Wn := by rw [← hWn]; exact (by repeat (first | exact Below.refl _ _ | refine Below.drew ?_ | refine bpush ?_ _ | refine bput ?_ (by simp) _ | (refine bstep ?_ (by assumption))))
  have hF := SliceOf.below hC hBw
  have hG := SliceOf.below hR hBw
  have c0 : Wn.cell? ⟨w.heap.size, 0, none⟩ = some (.slice (some ad) C.length cc) := by subst hWn; go_simp
  have c1 : Wn.cell? ⟨w.heap.size, 1, none⟩ = some (.slice (some ⟨ra, rb, none⟩) R.length rc) := by subst hWn; go_simp
  have z0 : Wn.cell? ⟨w.heap.size + 1, 0, none⟩ = some (.slice none 0 0) := by subst hWn; go_simp
  have z1 : Wn.cell? ⟨w.heap.size + 1, 1, none⟩ = some (.slice none 0 0) := by subst hWn; go_simp
  have y0 : Wn.frozen? ⟨w.heap.size + 1, 0, none⟩ = false := by subst hWn; go_simp
  have y1 : Wn.frozen? ⟨w.heap.size + 1, 1, none⟩ = false := by subst hWn; go_simp
  have zz0 := cv_of z0
  have zz1 := cv_of z1
  have HZN : Hid (w.heap.size + 2 ≤ Wn.heap.size) := by unfold Hid; rw [← hWn]; simp
  have hzn : w.heap.size ≤ Wn.heap.size := hBw.size
  clear z0 z1
  subst hca
  go_enter Try.func9, Try.ntmps9
  go_wp2_with fail
  clear hWn
  go_region_held3 (fun w' => w'.cell? ⟨w.heap.size, 0, none⟩ = some (.slice (some ad) C.length cc) ∧ w'.cell? ⟨w.heap.size, 1, none⟩ = some (.slice (some ⟨ra, rb, none⟩) R.length rc) ∧ w'.cell? ⟨w.heap.size + 1, 0, none⟩ = some (cv w' (w.heap.size + 1) 0) ∧ w'.cell? ⟨w.heap.size + 1, 1, none⟩ = some (cv w' (w.heap.size + 1) 1) ∧ w'.frozen? ⟨w.heap.size + 1, 0, none⟩ = false ∧ w'.frozen? ⟨w.heap.size + 1, 1, none⟩ = false ∧ SliceOf encC 4 w' (.slice (some ad) C.length cc) C ∧ Ints w' (.slice (some ⟨ra, rb, none⟩) R.length rc) R ∧ Below w.heap.size w w')
    (first | exact keepDay hC hR (by assumption) | (go_split_ands; refine ⟨?_, ?_, ?_, ?_, ?_, ?_, ?_, ?_, ?_⟩ <;> first | assumption | exact kcellQ hbK (by assumption) | exact cv_of (kcellQ hbK (by assumption)) | exact kfrozenQ hbK (by assumption) (by assumption) | exact SliceOf.below (by assumption) hbK | exact bstep (by assumption) hbK | exact cv_of (hE.cell _ _ (by assumption)).2 | exact (hE.cell _ _ (by assumption)).2 | exact (hE.frozen _ _ (by assumption)).trans (by assumption) | exact SliceOf.cellsEq (by assumption) (fun a u hu => (hE.cell a u hu).2) | exact Below.trans (by assumption) hE.below | exact cv_of (kcellQ (bpush (Below.refl _ _) _) (by assumption)) | exact kcellQ (bpush (Below.refl _ _) _) (by assumption) | exact kfrozenQ (bpush (Below.refl _ _) _) (by assumption) (by assumption) | exact bpush (by assumption) _ | exact SliceOf.below (by assumption) (bpush (Below.refl _ _) _)) | (refine ⟨?_, ?_, ?_, ?_, ?_, ?_, ?_, ?_, ?_⟩ <;> first | exact Below.drew (by assumption) | exact SliceOf.below (by assumption) ((Below.refl _ _).drew) | assumption))
    (first | (go_split_ands; (with_reducible refine (HFI.out _ (by assumption)).mono ?_); rintro e wI ⟨gi, ci, rfl, hoI, hbK⟩) | (go_split_ands; (refine S_appendE (B := w.heap.size) C hne (by rfl) _ _ 25 (by rfl) Try.underlying25 HI.out HZ0.out HZ1.out HZ2.out rfl Nat.four_pos' encC_len encC_one (by rfl) (by rfl) ?_ ?_ HB2.out ?_ ?_); (focus (first | (refine heapA ?_; simp; done) | (refine heapB ?_; simp; done))); (focus assumption); (focus omega); intro g1 v1 w1 hE))
  all_goals
    rename_i hHeld
    obtain ⟨-, -, e0, e1, -, -, -, -, hBB⟩ := hHeld
    have e0' := set2_at0 e0
    have e1' := set2_at1 e1
    have HBB := Lib.hid hBB
    have HNE1 : Hid (w.heap.size + 1 ≠ g1) := by
      first
        | exact (hE.cell ⟨w.heap.size + 1, 0, none⟩ _ (kdrew1 zz0)).1
        | exact (hE.cell ⟨w.heap.size + 1, 0, none⟩ _ (kdrew2 zz0)).1
    have HSL := Lib.hid (hE.sl.below hbK)
    have HSI := Lib.hid (Owns.slice hoI encI_len (by omega))
    have HNE2 : Hid (w.heap.size + 1 ≠ gi) := by
      have h1 := (World.ownsRow.lt hoI gi rfl).1
      have h2 := hE.below.size
      have h3 := HZN.out
      simp at h2
      unfold Hid; omega
    clear hBB e0 e1 hE hbK hoI c0 c1 zz0 zz1 y0 y1 hF hG hBw hzn
    go_wp2_with fail
    refine bodyPost_ret (v := .agg #[.slice (some ⟨g1, 0, none⟩) C.length v1, .slice (some ⟨gi, 0, none⟩) R.length ci]) (by simp [results, Try.results9, go_sem, e0', e1']) rfl ⟨_, _, gi, ci, rfl, ?_, ?_, HBB.out⟩
    · refine SliceOf.at_block HSL.out (fun o u hu => ?_)
      rw [cell_set2_other HNE1.out]; exact hu
    · refine SliceOf.at_block HSI.out (fun o u hu => ?_)
      rw [cell_set2_other HNE2.out]; exact hu
set_option maxRecDepth 20000 in
set_option maxHeartbeats 6400000 in
theorem firDay_nil (R : List Int) (ra rb rc : Nat) (w : World) (hR : Ints w (.slice (some ⟨ra, rb, none⟩) R.length rc) R) (hlR : R.length ≤ 1000000) :
    Calls Try.prog 9 #[.agg #[.slice none 0 0, .slice (some ⟨ra, rb, none⟩) R.length rc]] w fun e w' => ∃ ca' cc' g rc', e = .returned (.agg #[.slice ca' 0 cc', .slice (some ⟨g, 0, none⟩) R.length rc']) ∧ SliceOf encC 4 w' (.slice ca' 0 cc') [] ∧ Ints w' (.slice (some ⟨g, 0, none⟩) R.length rc') R ∧ Below w.heap.size w w' := by
  obtain ⟨i0, hi, hz0, hz1, hz2⟩ := info_parts infoC
  have HI := Lib.hid hi
  have hC : SliceOf encC 4 w (.slice none 0 0) [] := SliceOf.nil _ _ _ _ _
  have HFI := Lib.hid (fun (W : World) (h : Ints W (.slice (some ⟨ra, rb, none⟩) R.length rc) R) => firIntsN_any R ⟨ra, rb, none⟩ rc W hlR h)
  clear hi hz0 hz1 hz2
  obtain ⟨Wn, hWn⟩ : ∃ Wn : World, (w.alloc (.cells #[.slice none 0 0, .slice (some ⟨ra, rb, none⟩) R.length rc] 27)).alloc (.cells #[.slice none 0 0, .slice none 0 0] 27) = Wn := ⟨_, rfl⟩
  have hBw : Below w.heap.size w Wn := by rw [← hWn]; exact (by repeat (first | exact Below.refl _ _ | refine Below.drew ?_ | refine bpush ?_ _ | refine bput ?_ (by simp) _ | (refine bstep ?_ (by assumption))))
  have hF := SliceOf.below hC hBw
  have hG := SliceOf.below hR hBw
  have c0 : Wn.cell? ⟨w.heap.size, 0, none⟩ = some (.slice none 0 0) := by subst hWn; go_simp
  have c1 : Wn.cell? ⟨w.heap.size, 1, none⟩ = some (.slice (some ⟨ra, rb, none⟩) R.length rc) := by subst hWn; go_simp
  have z0 : Wn.cell? ⟨w.heap.size + 1, 0, none⟩ = some (.slice none 0 0) := by subst hWn; go_simp
  have z1 : Wn.cell? ⟨w.heap.size + 1, 1, none⟩ = some (.slice none 0 0) := by subst hWn; go_simp
  have y0 : Wn.frozen? ⟨w.heap.size + 1, 0, none⟩ = false := by subst hWn; go_simp
  have y1 : Wn.frozen? ⟨w.heap.size + 1, 1, none⟩ = false := by subst hWn; go_simp
  have zz0 := cv_of z0
  have zz1 := cv_of z1
  have HZN : Hid (w.heap.size + 2 ≤ Wn.heap.size) := by unfold Hid; rw [← hWn]; simp
  have hzn : w.heap.size ≤ Wn.heap.size := hBw.size
  clear z0 z1
  go_enter Try.func9, Try.ntmps9
  go_wp2_with fail
  clear hWn
  go_region_held3 (fun w' => w'.cell? ⟨w.heap.size, 0, none⟩ = some (.slice none 0 0) ∧ w'.cell? ⟨w.heap.size, 1, none⟩ = some (.slice (some ⟨ra, rb, none⟩) R.length rc) ∧ w'.cell? ⟨w.heap.size + 1, 0, none⟩ = some (cv w' (w.heap.size + 1) 0) ∧ w'.cell? ⟨w.heap.size + 1, 1, none⟩ = some (cv w' (w.heap.size + 1) 1) ∧ w'.frozen? ⟨w.heap.size + 1, 0, none⟩ = false ∧ w'.frozen? ⟨w.heap.size + 1, 1, none⟩ = false ∧ SliceOf encC 4 w' (.slice none 0 0) [] ∧ Ints w' (.slice (some ⟨ra, rb, none⟩) R.length rc) R ∧ Below w.heap.size w w')
    (first | exact keepDay (C := []) hC hR (by assumption) | (go_split_ands; refine ⟨?_, ?_, ?_, ?_, ?_, ?_, ?_, ?_, ?_⟩ <;> first | assumption | exact kcellQ hbK (by assumption) | exact cv_of (kcellQ hbK (by assumption)) | exact kfrozenQ hbK (by assumption) (by assumption) | exact SliceOf.below (by assumption) hbK | exact bstep (by assumption) hbK | exact cv_of (kcellQ (bpush (Below.refl _ _) _) (by assumption)) | exact kcellQ (bpush (Below.refl _ _) _) (by assumption) | exact kfrozenQ (bpush (Below.refl _ _) _) (by assumption) (by assumption) | exact bpush (by assumption) _ | exact SliceOf.below (by assumption) (bpush (Below.refl _ _) _)) | (refine ⟨?_, ?_, ?_, ?_, ?_, ?_, ?_, ?_, ?_⟩ <;> first | exact Below.drew (by assumption) | exact SliceOf.below (by assumption) ((Below.refl _ _).drew) | assumption))
    (first | (go_split_ands; (with_reducible refine (HFI.out _ (by assumption)).mono ?_); rintro e wI ⟨gi, ci, rfl, hoI, hbK⟩) | (go_split_ands; (refine S_appendNone (base := 0) (by rfl) _ _ 25 (by rfl) Try.underlying25 HI.out (by rfl) (by rfl) (own_blk encC 4 49 0 ?_ (Nat.zero_le _)) ?_); (focus (first | (refine heapA ?_; simp; done) | (refine heapB ?_; simp; done)))))
  all_goals
    rename_i hHeld
    obtain ⟨-, -, e0, e1, -, -, -, -, hBB⟩ := hHeld
    have e0' := set2_at0 e0
    have e1' := set2_at1 e1
    have HBB := Lib.hid hBB
    have HSI := Lib.hid (Owns.slice hoI encI_len (by omega))
    have HNE2 : Hid (w.heap.size + 1 ≠ gi) := by
      have h1 := (World.ownsRow.lt hoI gi rfl).1
      have h3 := HZN.out
      simp at h1
      unfold Hid; omega
    clear hBB e0 e1 hbK hoI c0 c1 zz0 zz1 y0 y1 hF hG hBw hzn
    go_wp2_with fail
    refine bodyPost_ret (v := .agg #[.slice (some ⟨Wn.heap.size, 0, none⟩) 0 0, .slice (some ⟨gi, 0, none⟩) R.length ci]) (by simp [results, Try.results9, go_sem, e0', e1']) rfl ⟨_, _, gi, ci, rfl, SliceOf.nil _ _ _ _ _, ?_, HBB.out⟩
    refine SliceOf.at_block HSI.out (fun o u hu => ?_)
    rw [cell_set2_other HNE2.out]; exact hu
end Go.Proofs.Ythkmklfmobenaaa
