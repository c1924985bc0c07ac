/- How thick a part of a chance is after some hours. -/
import Derived.Test.YtdhkgpfcanekkaaKf
import Derived.Test.YtdhkgpfcanekkaaMb
import Derived.Deep.DeepCutAuto
namespace Go.Proofs.Ytdhkgpfcanekkaa
open Go Go.RowKit Go.Shelf
attribute [local go_sem ↓] Go.wp_at_zero Go.wp_at_succ

def Chc.p (x : Chc) : Nat → Sp
  | 0 => (x.l0, x.h0)
  | 1 => (x.l1, x.h1)
  | _ => (x.l2, x.h2)
/-- How thick a part is after some hours. -/
def thickI (n : Nat) (c : Fe) (x : Chc) (part hour : Nat) : Sp := ((x.p part).1 + moreI n c x part hour, (x.p part).2 + moreI n c x part hour)
def okP (p : Sp) : Prop := 0 ≤ p.1 ∧ p.1 ≤ 1000 ∧ 0 ≤ p.2 ∧ p.2 ≤ 1000

theorem cswap {W : World} {o o' : Obj} {b i : Nat} {v : Value} (h : (W.alloc o).cell? ⟨b, i, none⟩ = some v) (hb : b < W.heap.size) : (W.alloc o').cell? ⟨b, i, none⟩ = some v :=
  (World.cell?_of_block ((Below.heap_alloc _ _ _ hb).trans (Below.heap_alloc _ _ _ hb).symm)).trans h
theorem fswap {W : World} {o o' : Obj} {b i : Nat} (h : (W.alloc o).frozen? ⟨b, i, none⟩ = false) (hb : b < W.heap.size) : (W.alloc o').frozen? ⟨b, i, none⟩ = false :=
  (World.frozen?_of_block ((Below.heap_alloc _ _ _ hb).trans (Below.heap_alloc _ _ _ hb).symm)).trans h
theorem cset2 {W : World} {g b i : Nat} {x y v : Value} (hne : b ≠ g) (h : W.cell? ⟨b, i, none⟩ = some v) : ((W.setCell ⟨g, 0, none⟩ x).setCell ⟨g, 1, none⟩ y).cell? ⟨b, i, none⟩ = some v :=
  (World.cell?_of_block ((Below.heap_setCell _ _ _ _ hne).trans (Below.heap_setCell _ _ _ _ hne))).trans h
theorem fset2 {W : World} {g b i : Nat} {x y : Value} (hne : b ≠ g) (h : W.frozen? ⟨b, i, none⟩ = false) : ((W.setCell ⟨g, 0, none⟩ x).setCell ⟨g, 1, none⟩ y).frozen? ⟨b, i, none⟩ = false :=
  (World.frozen?_of_block ((Below.heap_setCell _ _ _ _ hne).trans (Below.heap_setCell _ _ _ _ hne))).trans h
theorem ncell0 (W : World) (a b : Value) (t : TypeId) : (W.alloc (.cells #[a, b] t)).cell? ⟨W.heap.size, 0, none⟩ = some a := by rw [cell_of_row _ _ _ _ _ _ (heap_new W #[a, b] t)]; rfl
theorem ncell1 (W : World) (a b : Value) (t : TypeId) : (W.alloc (.cells #[a, b] t)).cell? ⟨W.heap.size, 1, none⟩ = some b := by rw [cell_of_row _ _ _ _ _ _ (heap_new W #[a, b] t)]; rfl
theorem nfroz (W : World) (a b : Value) (t : TypeId) (i : Nat) : (W.alloc (.cells #[a, b] t)).frozen? ⟨W.heap.size, i, none⟩ = false := frozen_of_row _ _ _ _ _ (heap_new W #[a, b] t)
theorem bswap {w w1 : World} {o o' : Obj} (h : Below w.heap.size w (w1.alloc o)) (hle : w.heap.size ≤ w1.heap.size) : Below w.heap.size w (w1.alloc o') :=
  ⟨h.os, h.tape, h.output, by simpa using h.size, fun k hk => by
    have := h.block k hk
    rw [Below.heap_alloc _ _ _ (by omega)] at this ⊢
    exact this⟩

set_option maxRecDepth 20000 in
set_option maxHeartbeats 3200000 in
theorem chAt_any (n : Nat) (c : Fe) (pv mv : Value) (bf : Nat) (x : Chc) (part hour : Nat) (w : World) (hp : part < 3) (hh : hour ≤ 36) (hx : okG x) (hq : okP (x.p part)) (hf : w.heap[bf]? = some (.cells (frow c pv mv n 36) 135 (0, 0))) :
    Calls Try.prog 76 #[.agg (ccells bf x).toArray, iv part, iv hour] w fun e w' => e = .returned (.agg #[iv (thickI n c x part hour).1, iv (thickI n c x part hour).2]) ∧ Below w.heap.size w w' := by
  obtain ⟨m0, m1⟩ := moreI_bd (n := n) (c := c) (part := part) hh hx
  obtain ⟨q1, q2, q3, q4⟩ := hq
  have hlt : bf < w.heap.size := (Array.getElem?_eq_some_iff.1 hf).1
  have hM := fun (W : World) (h : Below w.heap.size w W) => more_any n c pv mv bf x part hour W hp hh hx ((h.block bf hlt).trans hf)
  have HM := Lib.hid hM; clear hM
  have HA : Hid ((thickI n c x part hour).1 = (x.p part).1 + moreI n c x part hour ∧ (thickI n c x part hour).2 = (x.p part).2 + moreI n c x part hour) := ⟨rfl, rfl⟩
  generalize thickI n c x part hour = ai at *
  generalize moreI n c x part hour = mo at *
  obtain ⟨Wn, hWn⟩ : ∃ Wn : World, ((w.alloc (.cells (ccells bf x).toArray 143)).alloc (.cells #[.int .i64 0, .int .i64 0] 36)) = Wn := ⟨_, rfl⟩
  have hBw : Below w.heap.size w Wn := by rw [← hWn]; exact (by repeat (first | exact Below.refl _ _ | refine Below.drew ?_ | refine bpush ?_ _ | refine bput ?_ (by simp) _ | (refine bstep ?_ (by assumption))))
  have hsz : w.heap.size + 1 < Wn.heap.size := by rw [← hWn]; simp
  have hr : Wn.heap[w.heap.size]? = some (.cells (ccells bf x).toArray 143 (0, 0)) := by
    rw [← hWn, Below.heap_alloc _ _ _ (by simp)]; exact heap_new _ _ _
  have x0 : Wn.cell? ⟨w.heap.size, 3 + part * 2, none⟩ = some (iv (x.p part).1) := by
    rw [cell_of_row _ _ _ _ _ _ hr]
    rcases part with _ | _ | _ | part
    · rfl
    · rfl
    · rfl
    · omega
  have x1 : Wn.cell? ⟨w.heap.size, 3 + part * 2 + 1, none⟩ = some (iv (x.p part).2) := by
    rw [cell_of_row _ _ _ _ _ _ hr]
    rcases part with _ | _ | _ | part
    · rfl
    · rfl
    · rfl
    · omega
  generalize x.p part = pp at *
  clear hf hx
  obtain ⟨s, k, l0, h0, l1, h1, l2, h2⟩ := x
  simp only [ccells] at *
  have c0 : Wn.cell? ⟨w.heap.size, 0, none⟩ = some (.pointer (some ⟨bf, 0, none⟩)) := by rw [cell_of_row _ _ _ _ _ _ hr]; rfl
  have c1 : Wn.cell? ⟨w.heap.size, 1, none⟩ = some (iv s) := by rw [cell_of_row _ _ _ _ _ _ hr]; rfl
  have c2 : Wn.cell? ⟨w.heap.size, 2, none⟩ = some (iv k) := by rw [cell_of_row _ _ _ _ _ _ hr]; rfl
  have c3 : Wn.cell? ⟨w.heap.size, 3, none⟩ = some (iv l0) := by rw [cell_of_row _ _ _ _ _ _ hr]; rfl
  have c4 : Wn.cell? ⟨w.heap.size, 4, none⟩ = some (iv h0) := by rw [cell_of_row _ _ _ _ _ _ hr]; rfl
  have c5 : Wn.cell? ⟨w.heap.size, 5, none⟩ = some (iv l1) := by rw [cell_of_row _ _ _ _ _ _ hr]; rfl
  have c6 : Wn.cell? ⟨w.heap.size, 6, none⟩ = some (iv h1) := by rw [cell_of_row _ _ _ _ _ _ hr]; rfl
  have c7 : Wn.cell? ⟨w.heap.size, 7, none⟩ = some (iv l2) := by rw [cell_of_row _ _ _ _ _ _ hr]; rfl
  have c8 : Wn.cell? ⟨w.heap.size, 8, none⟩ = some (iv h2) := by rw [cell_of_row _ _ _ _ _ _ hr]; rfl
  have z0 : Wn.cell? ⟨w.heap.size + 1, 0, none⟩ = some (iv 0) := by subst hWn; go_simp
  have z1 : Wn.cell? ⟨w.heap.size + 1, 1, none⟩ = some (iv 0) := by subst hWn; go_simp
  have y0 : Wn.frozen? ⟨w.heap.size + 1, 0, none⟩ = false := by subst hWn; go_simp
  have y1 : Wn.frozen? ⟨w.heap.size + 1, 1, none⟩ = false := by subst hWn; go_simp
  have i0 : (0 : Int) ≤ (part : Int) := by omega
  have i1 : (part : Int) < 3 := by omega
  clear hr
  go_enter Try.func76, Try.ntmps76
  go_wp2_with fail
  clear hWn
  go_cut [7, 8] (fun s7 s8 wx => ∃ g, s7 = .pointer (some ⟨g, 0, none⟩) ∧ s8 = iv mo ∧ Hid (wx.cell? ⟨g, 0, none⟩ = some (iv pp.1) ∧ wx.cell? ⟨g, 1, none⟩ = some (iv pp.2)) ∧ Hid (wx.cell? ⟨w.heap.size + 1, 0, none⟩ = some (iv 0) ∧ wx.cell? ⟨w.heap.size + 1, 1, none⟩ = some (iv 0) ∧ wx.frozen? ⟨w.heap.size + 1, 0, none⟩ = false ∧ wx.frozen? ⟨w.heap.size + 1, 1, none⟩ = false) ∧ Hid (Below w.heap.size w wx))
  case first =>
    go_region_held3 (fun w' => w'.cell? ⟨w.heap.size, 0, none⟩ = some (.pointer (some ⟨bf, 0, none⟩)) ∧ w'.cell? ⟨w.heap.size, 1, none⟩ = some (iv s) ∧ w'.cell? ⟨w.heap.size, 2, none⟩ = some (iv k) ∧ w'.cell? ⟨w.heap.size, 3, none⟩ = some (iv l0) ∧ w'.cell? ⟨w.heap.size, 4, none⟩ = some (iv h0) ∧ w'.cell? ⟨w.heap.size, 5, none⟩ = some (iv l1) ∧ w'.cell? ⟨w.heap.size, 6, none⟩ = some (iv h1) ∧ w'.cell? ⟨w.heap.size, 7, none⟩ = some (iv l2) ∧ w'.cell? ⟨w.heap.size, 8, none⟩ = some (iv h2) ∧ w'.cell? ⟨w.heap.size, 3 + part * 2, none⟩ = some (iv pp.1) ∧ w'.cell? ⟨w.heap.size, 3 + part * 2 + 1, none⟩ = some (iv pp.2) ∧ w'.cell? ⟨w.heap.size + 1, 0, none⟩ = some (iv 0) ∧ w'.cell? ⟨w.heap.size + 1, 1, none⟩ = some (iv 0) ∧ w'.frozen? ⟨w.heap.size + 1, 0, none⟩ = false ∧ w'.frozen? ⟨w.heap.size + 1, 1, none⟩ = false ∧ Below w.heap.size w w')
      (first | (first | (go_split_ands; refine ⟨?_, ?_, ?_, ?_, ?_, ?_, ?_, ?_, ?_, ?_, ?_, ?_, ?_, ?_, ?_, ?_⟩ <;> first | assumption | exact kcell hbK (by assumption) | exact kfrozen hbK (by assumption) (by assumption) | exact bstep (by assumption) hbK | exact SliceOf.below (by assumption) hbK | exact kcell (bpush (Below.refl _ _) _) (by assumption) | exact kfrozen (bpush (Below.refl _ _) _) (by assumption) (by assumption) | exact bpush (by assumption) _ | exact SliceOf.below (by assumption) (bpush (Below.refl _ _) _)) | (refine ⟨?_, ?_, ?_, ?_, ?_, ?_, ?_, ?_, ?_, ?_, ?_, ?_, ?_, ?_, ?_, ?_⟩ <;> first | exact Below.drew (by assumption) | exact SliceOf.below (by assumption) ((Below.refl _ _).drew) | assumption)) | (go_split_ands; refine ⟨?_, ?_, ?_, ?_, ?_, ?_, ?_, ?_, ?_, ?_, ?_, ?_, ?_, ?_, ?_, ?_⟩ <;> first | assumption | exact kcell (bpush (Below.refl _ _) _) (by assumption) | exact kfrozen (bpush (Below.refl _ _) _) (by assumption) (by assumption) | exact cswap (by assumption) (by omega) | exact fswap (by assumption) (by omega) | exact bswap (by assumption) (by omega)) | (go_split_ands; refine ⟨?_, ?_, ?_, ?_, ?_, ?_, ?_, ?_, ?_, ?_, ?_, ?_, ?_, ?_, ?_, ?_⟩ <;> first | exact cset2 (by omega) (by assumption) | exact fset2 (by omega) (by assumption) | exact bput (p := ⟨Wn.heap.size, 1, none⟩) (bput (p := ⟨Wn.heap.size, 0, none⟩) (by assumption) (by simp only; omega) _) (by simp only; omega) _))
      (first | (go_split_ands; (with_reducible refine (HM.out _ (by assumption)).mono ?_); rintro e w1 ⟨rfl, hbK⟩; have hqK := hbK.size; (try simp at hqK); (try have t0 : w1.cell? ⟨Wn.heap.size, 0, none⟩ = some (iv 0) := kcell hbK (ncell0 _ _ _ _)); (try have t1 : w1.cell? ⟨Wn.heap.size, 1, none⟩ = some (iv 0) := kcell hbK (ncell1 _ _ _ _)); (try have t2 : w1.frozen? ⟨Wn.heap.size, 0, none⟩ = false := kfrozen hbK (ncell0 _ _ _ _) (nfroz _ _ _ _ 0)); (try have t3 : w1.frozen? ⟨Wn.heap.size, 1, none⟩ = false := kfrozen hbK (ncell1 _ _ _ _) (nfroz _ _ _ _ 1))))
    all_goals
      rename_i hHeld
      go_wp2_with fail
      go_meet
      refine ⟨_, rfl, rfl, ⟨?_, ?_⟩, ⟨hHeld.2.2.2.2.2.2.2.2.2.2.2.1, hHeld.2.2.2.2.2.2.2.2.2.2.2.2.1, hHeld.2.2.2.2.2.2.2.2.2.2.2.2.2.1, hHeld.2.2.2.2.2.2.2.2.2.2.2.2.2.2.1⟩, hHeld.2.2.2.2.2.2.2.2.2.2.2.2.2.2.2⟩
      · first | exact ncell0 _ _ _ _ | go_simp
      · first | exact ncell1 _ _ _ _ | go_simp
  case rest =>
    obtain ⟨g, rfl, rfl, HG, HZ, HB⟩ := hcut
    obtain ⟨g0, g1⟩ := HG.out
    obtain ⟨u0, u1, v0, v1⟩ := HZ.out
    clear c0 c1 c2 c3 c4 c5 c6 c7 c8 z0 z1 y0 y1 x0 x1 hBw HM
    go_wp2_with fail
    exact bodyPost_ret (v := .agg #[iv (pp.1 + mo), iv (pp.2 + mo)]) (by simp [results, Try.results76, go_sem, u0, u1]) rfl ⟨by rw [HA.out.1, HA.out.2], bput (bput HB.out (by simp) _) (by simp) _⟩
end Go.Proofs.Ytdhkgpfcanekkaa
