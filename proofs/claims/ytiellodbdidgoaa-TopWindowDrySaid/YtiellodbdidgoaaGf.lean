/- Dry of package tenter. -/
import Derived.Test.YtiellodbdidgoaaGe
namespace Go.Proofs.Ytiellodbdidgoaa
open Go Go.RowKit Go.Shelf
attribute [local go_sem ↓] Go.wp_at_zero Go.wp_at_succ

/-- When a cloth is dry. -/
def dryS (S : List Sp) (fr : Nat) (c : Tn) : Sp := ((earL c S fr : Nat), (latL c S fr : Nat))
def DryRes (C : List Tn) (S : List Sp) (fr : Nat) (w : World) (e : Ending) (w' : World) : Prop :=
  ∃ g, e = .returned (.tuple #[.slice (some ⟨g, 0, none⟩) C.length C.length, iv 0]) ∧ SliceOf encS 2 w' (.slice (some ⟨g, 0, none⟩) C.length C.length) (C.map (dryS S fr)) ∧ Below w.heap.size w w'

theorem keepDry {C : List Tn} {R : List Int} {gap str : Int} {S : List Sp} {ca ra wa : Option Addr} {cc rc wc : Nat} {W0 X : World} {b : Nat} {row : Array Value} {i j : Nat} {u v : Value} (hI : FdIn C R gap str S ca ra wa cc rc wc W0) (hb : b < W0.heap.size) (hi : i < row.size) (hj : j < row.size)
    (h : X.cell? ⟨b, 0, none⟩ = some (.slice ca C.length cc) ∧ X.cell? ⟨b, 1, none⟩ = some (.slice ra R.length rc) ∧ X.cell? ⟨b, 2, none⟩ = some (iv gap) ∧ X.cell? ⟨b, 3, none⟩ = some (iv str) ∧ X.cell? ⟨b, 4, none⟩ = some (.slice wa S.length wc) ∧ FdIn C R gap str S ca ra wa cc rc wc X ∧ RowBut X W0.heap.size row 30 i j ∧ X.cell? ⟨W0.heap.size, i, none⟩ = some (cvG X W0.heap.size i) ∧ X.cell? ⟨W0.heap.size, j, none⟩ = some (cvG X W0.heap.size j) ∧ X.frozen? ⟨W0.heap.size, i, none⟩ = false ∧ X.frozen? ⟨W0.heap.size, j, none⟩ = false ∧ Below W0.heap.size W0 X) : ((X.setCell ⟨W0.heap.size, i, none⟩ u).setCell ⟨W0.heap.size, j, none⟩ v).cell? ⟨b, 0, none⟩ = some (.slice ca C.length cc) ∧ ((X.setCell ⟨W0.heap.size, i, none⟩ u).setCell ⟨W0.heap.size, j, none⟩ v).cell? ⟨b, 1, none⟩ = some (.slice ra R.length rc) ∧ ((X.setCell ⟨W0.heap.size, i, none⟩ u).setCell ⟨W0.heap.size, j, none⟩ v).cell? ⟨b, 2, none⟩ = some (iv gap) ∧ ((X.setCell ⟨W0.heap.size, i, none⟩ u).setCell ⟨W0.heap.size, j, none⟩ v).cell? ⟨b, 3, none⟩ = some (iv str) ∧ ((X.setCell ⟨W0.heap.size, i, none⟩ u).setCell ⟨W0.heap.size, j, none⟩ v).cell? ⟨b, 4, none⟩ = some (.slice wa S.length wc) ∧ FdIn C R gap str S ca ra wa cc rc wc ((X.setCell ⟨W0.heap.size, i, none⟩ u).setCell ⟨W0.heap.size, j, none⟩ v) ∧ RowBut ((X.setCell ⟨W0.heap.size, i, none⟩ u).setCell ⟨W0.heap.size, j, none⟩ v) W0.heap.size row 30 i j ∧ ((X.setCell ⟨W0.heap.size, i, none⟩ u).setCell ⟨W0.heap.size, j, none⟩ v).cell? ⟨W0.heap.size, i, none⟩ = some (cvG ((X.setCell ⟨W0.heap.size, i, none⟩ u).setCell ⟨W0.heap.size, j, none⟩ v) W0.heap.size i) ∧ ((X.setCell ⟨W0.heap.size, i, none⟩ u).setCell ⟨W0.heap.size, j, none⟩ v).cell? ⟨W0.heap.size, j, none⟩ = some (cvG ((X.setCell ⟨W0.heap.size, i, none⟩ u).setCell ⟨W0.heap.size, j, none⟩ v) W0.heap.size j) ∧ ((X.setCell ⟨W0.heap.size, i, none⟩ u).setCell ⟨W0.heap.size, j, none⟩ v).frozen? ⟨W0.heap.size, i, none⟩ = false ∧ ((X.setCell ⟨W0.heap.size, i, none⟩ u).setCell ⟨W0.heap.size, j, none⟩ v).frozen? ⟨W0.heap.size, j, none⟩ = false ∧ Below W0.heap.size W0 ((X.setCell ⟨W0.heap.size, i, none⟩ u).setCell ⟨W0.heap.size, j, none⟩ v) := by
  obtain ⟨h0, h1, h2, h3, h4, h5, h6, h7, h8, h9, h10, h11⟩ := h
  have hb2 : Below W0.heap.size W0 ((X.setCell ⟨W0.heap.size, i, none⟩ u).setCell ⟨W0.heap.size, j, none⟩ v) := bput (bput h11 (p := ⟨W0.heap.size, i, none⟩) (Nat.le_refl _) u) (p := ⟨W0.heap.size, j, none⟩) (Nat.le_refl _) v
  have hsame : ∀ o, ((X.setCell ⟨W0.heap.size, i, none⟩ u).setCell ⟨W0.heap.size, j, none⟩ v).cell? ⟨b, o, none⟩ = X.cell? ⟨b, o, none⟩ := fun o =>
    World.cell?_of_block ((Below.heap_setCell _ _ _ _ (Nat.ne_of_lt hb)).trans (Below.heap_setCell _ _ _ _ (Nat.ne_of_lt hb)))
  have hrb : RowBut ((X.setCell ⟨W0.heap.size, i, none⟩ u).setCell ⟨W0.heap.size, j, none⟩ v) W0.heap.size row 30 i j := ⟨u, v, h6.set u v⟩
  obtain ⟨⟨_, k1⟩, ⟨_, k2⟩, k3, k4⟩ := hrb.cell hi hj
  exact ⟨(hsame _).trans h0, (hsame _).trans h1, (hsame _).trans h2, (hsame _).trans h3, (hsame _).trans h4, hI.below hb2, hrb, cvG_of k1, cvG_of k2, k3, k4, hb2⟩
theorem dsx_start {C : List Tn} {R : List Int} {gap str : Int} {S : List Sp} {ca ra wa : Option Addr} {cc rc wc : Nat} {W0 X : World} {b : Nat} {f : List Int} {i j : Nat} (hI : FdIn C R gap str S ca ra wa cc rc wc W0) (hD : X.heap[b]? = some (.cells #[.slice ca C.length cc, .slice ra R.length rc, iv gap, iv str, .slice wa S.length wc] 66 (0, 0)))
    (hr : X.heap[W0.heap.size]? = some (.cells (rowI f) 30 (0, 0))) (hi : i < f.length) (hj : j < f.length) (hb : Below W0.heap.size W0 X) {row : Array Value} (hrow : row = rowI f) : X.cell? ⟨b, 0, none⟩ = some (.slice ca C.length cc) ∧ X.cell? ⟨b, 1, none⟩ = some (.slice ra R.length rc) ∧ X.cell? ⟨b, 2, none⟩ = some (iv gap) ∧ X.cell? ⟨b, 3, none⟩ = some (iv str) ∧ X.cell? ⟨b, 4, none⟩ = some (.slice wa S.length wc) ∧ FdIn C R gap str S ca ra wa cc rc wc X ∧ RowBut X W0.heap.size row 30 i j ∧ X.cell? ⟨W0.heap.size, i, none⟩ = some (cvG X W0.heap.size i) ∧ X.cell? ⟨W0.heap.size, j, none⟩ = some (cvG X W0.heap.size j) ∧ X.frozen? ⟨W0.heap.size, i, none⟩ = false ∧ X.frozen? ⟨W0.heap.size, j, none⟩ = false ∧ Below W0.heap.size W0 X := by
  subst hrow
  have hrb := RowBut.of hr hi hj
  obtain ⟨⟨_, k1⟩, ⟨_, k2⟩, k3, k4⟩ := hrb.cell (by rw [rowI_size]; exact hi) (by rw [rowI_size]; exact hj)
  refine ⟨?_, ?_, ?_, ?_, ?_, hI.below hb, hrb, cvG_of k1, cvG_of k2, k3, k4, hb⟩ <;> (rw [cell_of_row _ _ _ _ _ _ hD]; rfl)

theorem kcellG {W W1 : World} {b o : Nat} {v : Value} (hb : Below W.heap.size W W1) (h : W.cell? ⟨b, o, none⟩ = some v) : W1.cell? ⟨b, o, none⟩ = some v := (hb.cell (p := ⟨b, o, none⟩) (lt_of_cell h)).trans h
theorem kfrozenG {W W1 : World} {b o : Nat} {v : Value} (hb : Below W.heap.size W W1) (h : W.cell? ⟨b, o, none⟩ = some v) (hf : W.frozen? ⟨b, o, none⟩ = false) : W1.frozen? ⟨b, o, none⟩ = false := (hb.frozen (p := ⟨b, o, none⟩) (lt_of_cell h)).trans hf
set_option maxRecDepth 20000 in
set_option maxHeartbeats 6400000 in
theorem Dry_good (C : List Tn) (R : List Int) (gap str : Int) (S : List Sp) (ca ra wa : Option Addr) (cc rc wc fr : Nat) (w : World) (hI : FdIn C R gap str S ca ra wa cc rc wc w) (hok : FdOk C R gap str S) (hh : fr ≤ S.length) :
    Calls Try.prog 11 #[.agg #[.slice ca C.length cc, .slice ra R.length rc, iv gap, iv str], .slice wa S.length wc, iv fr] w (DryRes C S fr w) := by
  obtain ⟨i0, hi, hz0, hz1, hz2⟩ := info_parts infoSpG
  have hln : C.length ≤ 7 := hok.len
  have HIF := Lib.hid hi; have HZ0 := Lib.hid hz0; have HZ1 := Lib.hid hz1
  have HBY := Lib.hid (show i0.bytes * C.length ≤ 281474976710656 by rw [hz2]; omega)
  have HML := Lib.hid (show C.length ≤ maxLen by unfold maxLen; omega)
  have HI := Lib.hid hI
  have HO := Lib.hid (fun (W : World) (h : FdIn C R gap str S ca ra wa cc rc wc W) => fdOpen_good C R gap str S ca ra wa cc rc wc fr W h hok hh)
  have HE := Lib.hid (fun (k : Nat) (c : Tn) (hk : C[k]? = some c) (W : World) (h : FdIn C R gap str S ca ra wa cc rc wc W) => earliest_any C ca ra wa cc R.length rc wc k gap str fr S c W h.cl hk h.we hok.sv hok.sl.2 hh (hok.tn hk))
  have HL := Lib.hid (fun (k : Nat) (c : Tn) (hk : C[k]? = some c) (W : World) (h : FdIn C R gap str S ca ra wa cc rc wc W) => latest_any C ca ra wa cc R.length rc wc k gap str fr S c W h.cl hk h.we hok.sv hok.sl.2 hh (hok.tn hk))
  clear hi hz0 hz1 hz2 hI hok hh
  go_enter Try.func11, Try.ntmps11
  go_wp2_with fail
  refine (HO.out _ (HI.out.below (by repeat (first | exact Below.refl _ _ | refine Below.drew ?_ | refine bpush ?_ _ | refine bput ?_ (by simp) _ | (refine bstep ?_ (by assumption)))))).mono ?_
  rintro e w1 ⟨rfl, hb⟩
  have hbw : Below w.heap.size w w1 := bstep (by repeat (first | exact Below.refl _ _ | refine Below.drew ?_ | refine bpush ?_ _ | refine bput ?_ (by simp) _ | (refine bstep ?_ (by assumption)))) hb
  have hr1 := (hb.block w.heap.size (by simp)).trans (heap_new w #[.slice ca C.length cc, .slice ra R.length rc, iv gap, iv str] 43)
  have hz1 : w.heap.size < w1.heap.size := by have := hb.size; simp at this; omega
  obtain ⟨Wn, hWn⟩ : ∃ W : World, w1.alloc (.cells #[.slice ca C.length cc, .slice ra R.length rc, iv gap, iv str, .slice wa S.length wc] 66) = W := ⟨_, rfl⟩
  have hBn : Below w1.heap.size w1 Wn := by rw [← hWn]; exact bpush (Below.refl _ _) _
  have hdn : Wn.heap[w1.heap.size]? = some (.cells #[.slice ca C.length cc, .slice ra R.length rc, iv gap, iv str, .slice wa S.length wc] 66 (0, 0)) := by rw [← hWn]; exact heap_new _ _ _
  have hzn : Wn.heap.size = w1.heap.size + 1 := by rw [← hWn]; simp
  have hfn := (hBn.block w.heap.size hz1).trans hr1
  have HB := Lib.hid (bstep hbw hBn); have HD := Lib.hid hdn; have HFN := Lib.hid hfn; have HZ := Lib.hid hzn
  have c00 : Wn.cell? ⟨w.heap.size, 0, none⟩ = some (.slice ca C.length cc) := by rw [cell_of_row _ _ _ _ _ _ hfn]; rfl
  clear hb hbw hr1 hBn hdn hfn hzn
  go_wp2_with (
    with_reducible change wpList _ _ _ (Oper.mk _ (Op.makeSlice 33 _ _) _ _ _ _ :: _) _ _
    refine wpList_make_full _ rfl _ _ 33 rfl Wn.heap.size 30 i0 (.agg #[.int .i64 0, .int .i64 0]) 2 Try.underlying33 HIF.out HZ0.out HZ1.out .i64 .i64 C.length C.length C.length rfl rfl rfl rfl HBY.out HML.out (Nat.le_refl _) ?_
    intro w2 hown hgrow
    have hl2 := span_newG hown
    have hB2 : Below Wn.heap.size Wn w2 := ⟨hgrow.os, hgrow.tape, hgrow.output, hgrow.size, fun q hq => hgrow.block q hq (by simp)⟩
    have hd2 := (hB2.block _ (by have := HZ.out; omega)).trans HD.out
    have hf2 := (hB2.block _ (by have := HZ.out; omega)).trans HFN.out
    have HL2 := Lib.hid hl2; have HBW := Lib.hid hB2; have HD2 := Lib.hid hd2; have HF2 := Lib.hid hf2
    have c0 : w2.cell? ⟨w.heap.size, 0, none⟩ = some (.slice ca C.length cc) := by rw [cell_of_row _ _ _ _ _ _ hf2]; rfl
    clear hown hgrow hl2 hB2 hd2 hf2 hWn)
  obtain ⟨D, hD⟩ : ∃ D : List Sp, C.map (dryS S fr) = D := ⟨_, rfl⟩
  have hDl : D.length = C.length := by rw [← hD]; simp
  have HDG := Lib.hid (show ∀ (k : Nat) (c : Tn), C[k]? = some c → D[k]? = some (dryS S fr c) from fun k c hk => by rw [← hD, List.getElem?_map, hk]; rfl)
  have HDL := Lib.hid hDl
  have HIn := Lib.hid (HI.out.below HB.out)
  have hzb : w1.heap.size < Wn.heap.size := by have := HZ.out; omega
  have HBn2 := HB.out
  have HDD := Lib.hid hD
  clear hD hDl c00 HBn2
  go_loopw [29, 11] (fun i _ wr => ∃ k : Nat, k ≤ C.length ∧ i = iv k ∧ Hid (wr.heap[Wn.heap.size]? = some (.cells (rowI (flS D C.length k)) 30 (0, 0))) ∧ Hid (Below Wn.heap.size Wn wr)) (fun i _ _ => C.length - (intOf i).toNat)
  case atStart => exact ⟨0, Nat.zero_le _, rfl, by rw [flS_zero]; exact HL2.out, HBW.out⟩
  case round =>
    obtain ⟨k, hk, rfl, HRW, HBR⟩ := hrel
    clear c0
    by_cases hlt : k < C.length
    · obtain ⟨c, hc⟩ := getElem?_of_lt hlt
      have HEk := Lib.hid (HE.out k c hc); have HLk := Lib.hid (HL.out k c hc)
      have HDk := Lib.hid (HDG.out k c hc)
      obtain ⟨i, hi⟩ : ∃ i, k * 2 = i := ⟨_, rfl⟩
      obtain ⟨j, hj⟩ : ∃ j, k * 2 + 1 = j := ⟨_, rfl⟩
      obtain ⟨row, hrow⟩ : ∃ row, row = rowI (flS D C.length k) := ⟨_, rfl⟩
      have hfl := flS_len HDL.out hk
      have hrs : row.size = C.length * 2 := by rw [hrow, rowI_size, hfl]
      obtain ⟨x0, x1, x2, x3, x4, x5, x6, x7, x8, x9, x10, x11⟩ := dsx_start (b := w1.heap.size) (i := i) (j := j) HIn.out ((HBR.out.block _ hzb).trans HD.out) HRW.out (by omega) (by omega) HBR.out hrow
      obtain ⟨el, hel⟩ : ∃ n : Nat, earL c S fr = n := ⟨_, rfl⟩
      obtain ⟨la, hla⟩ : ∃ n : Nat, latL c S fr = n := ⟨_, rfl⟩
      rw [hel] at HEk
      rw [hla] at HLk
      have HDk2 : Hid (D[k]? = some ((el : Int), (la : Int))) := by rw [HDk.out]; unfold dryS; rw [hel, hla]; rfl
      have hij : i ≠ j := by omega
      have hir : i < row.size := by omega
      have hjr : j < row.size := by omega
      have HROW := Lib.hid hrow
      have HII := Lib.hid (And.intro hi hj)
      clear hc hrow hfl hel hla HE HL HDk
      subst hi hj
      go_wp2_with fail
      go_region_held3 (fun w' => w'.cell? ⟨w1.heap.size, 0, none⟩ = some (.slice ca C.length cc) ∧ w'.cell? ⟨w1.heap.size, 1, none⟩ = some (.slice ra R.length rc) ∧ w'.cell? ⟨w1.heap.size, 2, none⟩ = some (iv gap) ∧ w'.cell? ⟨w1.heap.size, 3, none⟩ = some (iv str) ∧ w'.cell? ⟨w1.heap.size, 4, none⟩ = some (.slice wa S.length wc) ∧ FdIn C R gap str S ca ra wa cc rc wc w' ∧ RowBut w' Wn.heap.size row 30 (k * 2) (k * 2 + 1) ∧ w'.cell? ⟨Wn.heap.size, k * 2, none⟩ = some (cvG w' Wn.heap.size (k * 2)) ∧ w'.cell? ⟨Wn.heap.size, k * 2 + 1, none⟩ = some (cvG w' Wn.heap.size (k * 2 + 1)) ∧ w'.frozen? ⟨Wn.heap.size, k * 2, none⟩ = false ∧ w'.frozen? ⟨Wn.heap.size, k * 2 + 1, none⟩ = false ∧ Below Wn.heap.size Wn w')
        (first | exact keepDry HIn.out hzb hir hjr (by assumption) | (go_split_ands; refine ⟨?_, ?_, ?_, ?_, ?_, ?_, ?_, ?_, ?_, ?_, ?_, ?_⟩ <;> first | exact cvG_of (kcellG hbK (by assumption)) | exact kcellG hbK (by assumption) | exact kfrozenG hbK (by assumption) (by assumption) | exact FdIn.below (by assumption) hbK | exact RowBut.below (by assumption) hbK | exact bstep (by assumption) hbK) | (refine ⟨?_, ?_, ?_, ?_, ?_, ?_, ?_, ?_, ?_, ?_, ?_, ?_⟩ <;> first | assumption | exact FdIn.below (by assumption) ((Below.refl _ _).drew) | exact RowBut.below (by assumption) ((Below.refl _ _).drew) | exact Below.drew (by assumption)))
        (first | (go_split_ands; (with_reducible refine (HEk.out _ (by assumption)).mono ?_); rintro e wO ⟨rfl, hbK⟩) | (go_split_ands; (with_reducible refine (HLk.out _ (by assumption)).mono ?_); rintro e wO ⟨rfl, hbK⟩))
      all_goals
        rename_i hHeld
        have HX := Lib.hid (RowBut.fix hij hir hjr hHeld.2.2.2.2.2.2.1)
        have HBX := Lib.hid hHeld.2.2.2.2.2.2.2.2.2.2.2
        have HST := Lib.hid (flS_succ HDL.out HDk2.out)
        clear hHeld x0 x1 x2 x3 x4 x5 x6 x7 x8 x9 x10 x11
        go_wp2_with fail
        go_roundw
        case rel => exact ⟨k + 1, by omega, by go_num, HX.out.trans (by rw [HROW.out, rowI_set, rowI_set, HST.out]), HBX.out⟩
        case measure => simp [intOf]; omega
    · obtain rfl : k = C.length := by omega
      go_wp2_with fail
      go_ret2
      exact ⟨_, rfl, by rw [HDD.out]; exact slice_flS HDL.out (by omega) HRW.out, bstep HB.out HBR.out⟩
end Go.Proofs.Ytiellodbdidgoaa
