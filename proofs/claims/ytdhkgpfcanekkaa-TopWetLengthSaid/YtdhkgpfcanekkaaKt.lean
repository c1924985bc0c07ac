/- The known examples of chapters 1 and 3, for the elm laws. -/
import Derived.Test.YtdhkgpfcanekkaaKs
import Derived.Test.YtdhkgpfcanekkaaMc
import Derived.Test.YtdhkgpfcanekkaaMe
namespace Go.Proofs.Ytdhkgpfcanekkaa
open Go Go.RowKit Go.Shelf
attribute [local go_sem ↓] Go.wp_at_zero Go.wp_at_succ

def kTr : List Tk := [⟨100, 100, 50, 50⟩, ⟨100, 100, 50, 50⟩, ⟨500, 520, 0, 10⟩]
def kFe : Fe := ⟨6, 7, 2, 2, 2, 0, 30, 44⟩
def kPt : List Sp := [(10, 12), (10, 10)]
theorem kTrOk : [(⟨100, 100, 50, 50⟩ : Tk), ⟨100, 100, 50, 50⟩, ⟨500, 520, 0, 10⟩].all vTrack = true := by decide +kernel
theorem kTrAt : qAt ⟨100, 100, 50, 50⟩ 3 = (87, 87) := by decide +kernel
theorem kFeOk : okFe kPt kFe = true := by decide +kernel
theorem kFeOut : (sureL kPt kFe).head? = some 6 := by decide +kernel
theorem tracks3 {w : World} {g cap : Nat} {a b c : Tk} {t : TypeId} (h : w.heap[g]? = some (.cells #[iv a.fl, iv a.fh, iv a.rl, iv a.rh, iv b.fl, iv b.fh, iv b.rl, iv b.rh, iv c.fl, iv c.fh, iv c.rl, iv c.rh] t (0, 0))) : SliceOf encT 4 w (.slice (some ⟨g, 0, none⟩) 3 cap) [a, b, c] := by
  refine ⟨_, cap, rfl, by simp, fun i p hp => ⟨g, 0, rfl, fun j u hu => ?_⟩⟩
  rw [cell_of_row _ _ _ _ _ _ h]
  rcases i with _ | _ | _ | i
  · simp at hp; subst hp
    rcases j with _ | _ | _ | _ | j <;> simp [encT] at hu ⊢ <;> exact hu
  · simp at hp; subst hp
    rcases j with _ | _ | _ | _ | j <;> simp [encT] at hu ⊢ <;> exact hu
  · simp at hp; subst hp
    rcases j with _ | _ | _ | _ | j <;> simp [encT] at hu ⊢ <;> exact hu
  · simp at hp
set_option maxRecDepth 20000 in
set_option maxHeartbeats 3200000 in
theorem elmFulled_any (w : World) :
    Calls Try.prog 11 #[] w fun e w' => e = .returned (.bool true) ∧ Below w.heap.size w w' := by
  have HAT : Hid (∀ (W : World) (tv : Value), SliceOf encT 4 W tv kTr → Calls Try.prog 4 #[.agg #[tv, .slice none 0 0], iv 3] W fun e w' => ∃ rg rc, e = .returned (.tuple #[.slice (some ⟨rg, 0, none⟩) 3 rc, iv 0]) ∧ (w'.cell? ⟨rg, 0, none⟩ = some (iv 87) ∧ w'.cell? ⟨rg, 1, none⟩ = some (iv 87)) ∧ Below W.heap.size W w') := fun W tv h => by
    refine (at3_any _ _ _ 3 kTrOk (by omega) tv (.slice none 0 0) W h (SliceOf.nil _ _ _ _ _)).mono ?_
    rintro e w' ⟨rv, rfl, ho, hb⟩
    obtain ⟨rg, rc, rfl⟩ := owns_addr ho (by simp)
    have hs := Owns.slice ho encS_len (by simp)
    have h0 := sl_cellsS (k := 0) hs rfl
    dsimp only at h0
    rw [kTrAt] at h0
    exact ⟨rg, rc, rfl, h0, hb⟩
  have HOT : Hid (∀ (W : World) (g : Nat), SliceOf encS 2 W (.slice (some ⟨g, 0, none⟩) 2 2) kPt → Calls Try.prog 25 #[.agg #[.slice (some ⟨g, 0, none⟩) 2 2, iv 6, iv 7, iv 2, iv 2, iv 2, iv 0, iv 30, iv 44, .slice none 0 0]] W fun e w' => e = .returned (.tuple #[iv 6, iv 0]) ∧ Below W.heap.size W w') := fun W g h => by
    have := Out_good kPt kFe (some ⟨g, 0, none⟩) none 2 0 W h kFeOk
    rw [kFeOut] at this
    exact this
  go_enter Try.func11, Try.ntmps11
  go_wp2_with fail
  refine (elmSpan_any 100 100 _).mono ?_
  rintro e w1 ⟨rfl, hb1⟩
  go_wp2_with fail
  refine (elmSpan_any 50 50 _).mono ?_
  rintro e w2 ⟨rfl, hb2⟩
  go_wp2_with fail
  refine (elmSpan_any 100 100 _).mono ?_
  rintro e w3 ⟨rfl, hb3⟩
  go_wp2_with fail
  refine (elmSpan_any 50 50 _).mono ?_
  rintro e w4 ⟨rfl, hb4⟩
  go_wp2_with fail
  refine (elmSpan_any 500 520 _).mono ?_
  rintro e w5 ⟨rfl, hb5⟩
  go_wp2_with fail
  refine (elmSpan_any 0 10 _).mono ?_
  rintro e w6 ⟨rfl, hb6⟩
  have HB6 := Lib.hid (bstep (bstep (bstep (bstep (bstep hb1 hb2) hb3) hb4) hb5) hb6)
  clear hb1 hb2 hb3 hb4 hb5 hb6
  go_wp2_with fail
  refine (HAT.out _ _ (tracks3 (heap_new _ _ _))).mono ?_
  rintro e w7 ⟨rg, rc, rfl, ⟨r0, r1⟩, hb7⟩
  have HB7 := Lib.hid (bstep HB6.out (bstep (bpush (Below.refl _ _) _) hb7))
  clear hb7
  go_wp2_with fail
  refine (elmSpan_any 10 12 _).mono ?_
  rintro e w8 ⟨rfl, hb8⟩
  go_wp2_with fail
  refine (elmSpan_any 10 10 _).mono ?_
  rintro e w9 ⟨rfl, hb9⟩
  have hb79 := bstep hb8 hb9
  have r0 := kcell hb79 r0; have r1 := kcell hb79 r1
  have HB9 := Lib.hid (bstep HB7.out hb79)
  clear hb8 hb9 hb79
  go_wp2_with fail
  obtain ⟨wb, hwb⟩ : ∃ W : World, w9.alloc (.cells #[iv 10, iv 12, iv 10, iv 10] 36) = W := ⟨_, rfl⟩
  rw [hwb]
  have hbb : Below w9.heap.size w9 wb := by rw [← hwb]; exact bpush (Below.refl _ _) _
  have hrb : wb.heap[w9.heap.size]? = some (.cells #[iv 10, iv 12, iv 10, iv 10] 36 (0, 0)) := by rw [← hwb]; exact heap_new _ _ _
  have hsl : SliceOf encS 2 wb (.slice (some ⟨w9.heap.size, 0, none⟩) 2 2) kPt := spans2 (by rw [cell_of_row _ _ _ _ _ _ hrb]; rfl) (by rw [cell_of_row _ _ _ _ _ _ hrb]; rfl) (by rw [cell_of_row _ _ _ _ _ _ hrb]; rfl) (by rw [cell_of_row _ _ _ _ _ _ hrb]; rfl)
  have HSL := Lib.hid hsl
  have r0 := kcell hbb r0; have r1 := kcell hbb r1
  have HBB := Lib.hid (bstep HB9.out hbb)
  clear hbb hrb hsl hwb
  refine (elmSpan_any 6 7 _).mono ?_
  rintro e wc ⟨rfl, hbc⟩
  go_wp2_with fail
  refine (elmSpan_any 2 2 _).mono ?_
  rintro e wd ⟨rfl, hbd⟩
  have hbcd := bstep hbc hbd
  have r0 := kcell hbcd r0; have r1 := kcell hbcd r1
  have HSL2 := Lib.hid (HSL.out.below hbcd)
  have HBD := Lib.hid (bstep HBB.out hbcd)
  clear hbc hbd hbcd
  go_wp2_with fail
  refine (HOT.out _ _ HSL2.out).mono ?_
  rintro e wo ⟨rfl, hbo⟩
  have r0 := kcell hbo r0; have r1 := kcell hbo r1
  have HBO := Lib.hid (bstep HBD.out hbo)
  have hbz : Below wo.heap.size wo wo := Below.refl _ _
  clear hbo
  go_wp2_with fail
  go_region_held3 (fun w' => w'.cell? ⟨rg, 0, none⟩ = some (iv 87) ∧ w'.cell? ⟨rg, 1, none⟩ = some (iv 87) ∧ Below wo.heap.size wo w')
    (first | (go_split_ands; refine ⟨?_, ?_, ?_⟩ <;> first | assumption | exact kcell hbK (by assumption) | exact kfrozen hbK (by assumption) (by assumption) | exact bstep (by assumption) hbK | exact SliceOf.below (by assumption) hbK | exact kcell (bpush (Below.refl _ _) _) (by assumption) | exact kfrozen (bpush (Below.refl _ _) _) (by assumption) (by assumption) | exact bpush (by assumption) _ | exact SliceOf.below (by assumption) (bpush (Below.refl _ _) _)) | (refine ⟨?_, ?_, ?_⟩ <;> first | exact Below.drew (by assumption) | exact SliceOf.below (by assumption) ((Below.refl _ _).drew) | assumption))
    (first | ((with_reducible refine (elmSpan_any _ _ _).mono ?_); rintro e wz ⟨rfl, hbK⟩))
  all_goals
    rename_i hHeld
    have HBE := Lib.hid (bstep HBO.out hHeld.2.2)
    clear hHeld
    go_wp2_with fail
    go_ret
    exact ⟨rfl, HBE.out⟩
end Go.Proofs.Ytdhkgpfcanekkaa
