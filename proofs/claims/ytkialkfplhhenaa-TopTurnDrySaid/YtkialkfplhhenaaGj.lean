/- The elm functions of Top laws: spans, copies of spans, and the known examples of chapters 2 and 5. -/
import Derived.Test.YtkialkfplhhenaaMc
import Derived.Test.YtkialkfplhhenaaVa
import Derived.Test.YtkialkfplhhenaaMb
import Derived.Test.YtkialkfplhhenaaSj
namespace Go.Proofs.Ytkialkfplhhenaa
open Go Go.RowKit Go.Shelf
attribute [local go_sem ↓] Go.wp_at_zero Go.wp_at_succ

set_option maxHeartbeats 400000 in
theorem elmSpan_any (lo hi : Int) (w : World) :
    Calls Try.prog 5 #[iv lo, iv hi] w fun e w' => e = .returned (.agg #[iv lo, iv hi]) ∧ Below w.heap.size w w' := by
  go_enter Try.func5, Try.ntmps5
  go_wp2_with fail
  exact bodyPost_ret (v := .agg #[iv lo, iv hi]) (by simp [results, Try.results5, go_sem]) rfl ⟨rfl, (by repeat (first | exact Below.refl _ _ | refine Below.drew ?_ | refine bpush ?_ _ | refine bput ?_ (by simp) _ | (refine bstep ?_ (by assumption))))⟩

set_option maxRecDepth 20000 in
set_option maxHeartbeats 1600000 in
theorem elmSpans_any (F : List Sp) (ad : Addr) (c : Nat) (w : World) (hl : F.length ≤ 1000000) (hf : SliceOf encS 2 w (.slice (some ad) F.length c) F) :
    Calls Try.prog 11 #[.slice (some ad) F.length c] w fun e w' => ∃ v, e = .returned v ∧ Owns encS 2 36 w.heap.size w' v F ∧ Below w.heap.size w w' := by
  obtain ⟨i0, hi, hz0, hz1, hz2⟩ := info_parts infoSpG
  have HI := Lib.hid hi; have HZ0 := Lib.hid hz0; have HZ1 := Lib.hid hz1; have HZ2 := Lib.hid hz2
  have HF := Lib.hid (SliceOf.below hf (bpush (Below.refl _ _) (.cells #[] 36)))
  have HB2 : Hid (([] : List Sp).length + F.length ≤ maxLen ∧ (([] : List Sp).length + F.length) * 16 ≤ 140737488355328) := by simp only [Hid, List.length_nil]; unfold maxLen; omega
  have HB3 : Hid (w.heap.size ≤ (w.alloc (.cells #[] 36)).heap.size) := by simp [Hid]
  clear hi hz0 hz1 hz2 hf
  go_enter Try.func11, Try.ntmps11
  go_wp2_with (at_builtin; refine L_appendS F rfl _ _ 27 rfl Try.underlying27 HI.out HZ0.out HZ1.out HZ2.out rfl Nat.two_pos encS_len encS_one rfl rfl (owns_empty encS 2 36 w.heap.size w (Nat.le_refl _)) HF.out HB2.out HB3.out ?_; intro v' w1 hown hbe hg)
  have HO := Lib.hid hown; have HBE := Lib.hid (bpush (Below.refl w.heap.size w) (.cells #[] 36) |>.trans hbe)
  clear hown hbe hg
  go_ret
  exact ⟨_, rfl, HO.out, HBE.out⟩

theorem kWin : winO kMl kFl 2 2 = some 1 := by decide +kernel
def kTn : List Tn := [((200, 204), (0, 0))]
theorem kTnChk : fdChk ⟨kTn, [520], 0, 50⟩ = 0 := by decide +kernel
theorem kTnMap : kTn.map (lenS 50) = [(204, 210)] := by decide +kernel
theorem tn_new {w : World} {g cap : Nat} {a b c d : Int} {t : TypeId} (h : w.heap[g]? = some (.cells #[iv a, iv b, iv c, iv d] t (0, 0))) : SliceOf encN 4 w (.slice (some ⟨g, 0, none⟩) 1 cap) [((a, b), (c, d))] := by
  refine ⟨_, cap, rfl, by simp, fun i p hp => ⟨g, 0, rfl, fun j u hu => ?_⟩⟩
  rw [cell_of_row _ _ _ _ _ _ h]
  rcases i with _ | i
  · simp at hp; subst hp; rcases j with _ | _ | _ | _ | j <;> simp [encN] at hu ⊢ <;> exact hu
  · simp at hp
set_option maxRecDepth 20000 in
set_option maxHeartbeats 3200000 in
theorem elmField_any (w : World) :
    Calls Try.prog 14 #[] w fun e w' => e = .returned (.bool true) ∧ Below w.heap.size w w' := by
  have hM := fun (w : World) (ca ra : Option Addr) (cc rc : Nat) hc hr => Hangs_good kTn [520] 0 50 ca ra cc rc w hc hr kTnChk
  unfold HangsRes at hM
  rw [kTnMap] at hM
  have HM := Lib.hid hM; clear hM
  go_enter Try.func14, Try.ntmps14
  go_wp2_with fail
  refine (elmSpan_any 200 204 _).mono ?_
  rintro e w1 ⟨rfl, hb1⟩
  have HB1 := Lib.hid hb1; clear hb1
  go_wp2_with fail
  have hz1 : w1.heap.size < ((w1.alloc (.cells #[iv 200, iv 204, iv 0, iv 0] 41)).alloc (.cells #[iv 520] 3)).heap.size := by simp; omega
  have h2 := heap_new (w1.alloc (.cells #[iv 200, iv 204, iv 0, iv 0] 41)) #[iv 520] 3
  rw [World.size_alloc] at h2
  refine (HM.out _ _ _ _ _ (SliceOf.below (tn_new (heap_new w1 #[iv 200, iv 204, iv 0, iv 0] 41)) (bpush (Below.refl _ _) _)) (ints1 ((cell_of_row _ _ _ _ _ _ h2).trans rfl))).mono ?_
  rintro e w2 ⟨g, rfl, hs, hb2⟩
  have HB2 := Lib.hid (bstep HB1.out (bstep (bpush (bpush (Below.refl w1.heap.size w1) _) _) hb2))
  have hs : SliceOf encS 2 w2 (.slice (some ⟨g, 0, none⟩) 1 1) [(204, 210)] := hs
  obtain ⟨g', o', e', hj⟩ := sl_rowG (k := 0) hs rfl
  simp only [Option.some.injEq, Addr.mk.injEq, and_true] at e'
  obtain ⟨rfl, rfl⟩ := e'
  have x0 : w2.cell? ⟨g, 0, none⟩ = some (iv 204) := hj 0 _ rfl
  have x1 : w2.cell? ⟨g, 1, none⟩ = some (iv 210) := hj 1 _ rfl
  have hbz : Below w2.heap.size w2 w2 := Below.refl _ _
  have hk1 : kTn.length = 1 := rfl
  rw [hk1]
  clear hz1 h2 hb2 hs hj HM
  go_wp2_with fail
  go_region_held3 (fun w' => w'.cell? ⟨g, 0, none⟩ = some (iv 204) ∧ w'.cell? ⟨g, 1, none⟩ = some (iv 210) ∧ Below w2.heap.size w2 w')
    (first | (go_split_ands; refine ⟨?_, ?_, ?_⟩ <;> first | assumption | exact kcell hbK (by assumption) | exact kfrozen hbK (by assumption) (by assumption) | exact bstep (by assumption) hbK | exact SliceOf.below (by assumption) hbK | exact kcell (bpush (Below.refl _ _) _) (by assumption) | exact kfrozen (bpush (Below.refl _ _) _) (by assumption) (by assumption) | exact bpush (by assumption) _ | exact SliceOf.below (by assumption) (bpush (Below.refl _ _) _)) | (refine ⟨?_, ?_, ?_⟩ <;> first | exact Below.drew (by assumption) | exact SliceOf.below (by assumption) ((Below.refl _ _).drew) | assumption))
    (first | ((with_reducible refine (elmSpan_any _ _ _).mono ?_); rintro e w3 ⟨rfl, hbK⟩))
  all_goals
    rename_i hHeld
    have HBB := Lib.hid (bstep HB2.out hHeld.2.2)
    clear hHeld x0 x1 hbz
    go_wp2_with fail
    go_ret
    exact ⟨rfl, HBB.out⟩
end Go.Proofs.Ytkialkfplhhenaa
