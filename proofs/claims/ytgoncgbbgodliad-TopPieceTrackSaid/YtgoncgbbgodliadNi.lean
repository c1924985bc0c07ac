/- Package theft: Least at valid arguments; elmStolen. -/
import Derived.Test.YtgoncgbbgodliadNh
import Derived.Test.YtgoncgbbgodliadAt
import Derived.Deep.RegionHeld3
import Derived.Deep.DrawnRows
namespace Go.Proofs.Ytgoncgbbgodliad
open Go Go.RowKit Go.Shelf
attribute [local go_sem] Oper.semAt_some
attribute [local go_sem ↓] Go.wp_at_zero Go.wp_at_succ

theorem thChk_zero {C : List Tc} {L : List Tp} (h : thChk C L = 0) : (C.length ≤ 5 ∧ L.length ≤ 6) ∧ C.all vTc = true ∧ L.all vTp = true := by
  unfold thChk at h
  split at h
  · omega
  · split at h
    · split at h
      · rename_i h1 h2 h3; exact ⟨by omega, h2, h3⟩
      · omega
    · omega
theorem cellGNn {W wA : World} {b o : Nat} {u : Value} {ob : Option Nat} (hG : W.grownBy wA ob) (hne : ob ≠ some b) (h : W.cell? ⟨b, o, none⟩ = some u) : wA.cell? ⟨b, o, none⟩ = some u :=
  (World.cell?_of_block (hG.block _ (lt_of_cell h) (fun e => hne e.symm))).trans h
theorem bstepBn {B : Nat} {w W W1 : World} (h : Below B w W) (hs : B ≤ w.heap.size) (hb : Below W.heap.size W W1) : Below B w W1 := h.trans (hb.mono (Nat.le_trans hs h.size))
theorem encI_new (W : World) (x : Int) (t : TypeId) : ∀ j u, (encI x)[j]? = some u → (W.alloc (.cells #[iv x] t)).cell? ⟨W.heap.size, j, none⟩ = some u :=
  encI_cell (by rw [cell_of_row _ _ _ _ _ _ (heap_new W #[iv x] t)]; rfl)
def lsts (L : List Tp) (c : Tc) (k : Nat) : List Int := (L.take k).map fun p => leastI p c
theorem lsts_succ {L : List Tp} {c : Tc} {k : Nat} {p : Tp} (h : L[k]? = some p) : lsts L c (k + 1) = lsts L c k ++ [leastI p c] := by
  unfold lsts; rw [List.take_add_one, h]; simp
theorem lsts_len {L : List Tp} {c : Tc} {k : Nat} (h : k ≤ L.length) : (lsts L c k).length = k := by simp [lsts]; omega
set_option maxRecDepth 20000 in
set_option maxHeartbeats 12800000 in
theorem Least_good (C : List Tc) (L : List Tp) (ca la : Option Addr) (cc lc q : Nat) (x : Tc) (w : World) (hC : SliceOf encTc 7 w (.slice ca C.length cc) C) (hL : SliceOf encTp 8 w (.slice la L.length lc) L) (aC : ∀ c ∈ C, AscC c) (aL : ∀ p ∈ L, AscP p) (hk : thChk C L = 0) (hx : C[q]? = some x) :
    Calls Try.prog 7 #[.slice ca C.length cc, .slice la L.length lc, iv q] w fun e w' => ∃ v, e = .returned (.tuple #[v, iv 0]) ∧ Ints w' v (lsts L x L.length) ∧ Below w.heap.size w w' := by
  obtain ⟨i0, hi, hz0, hz1, hz2⟩ := info_parts info3
  obtain ⟨⟨l1, l2⟩, hCv, hLv⟩ := thChk_zero hk
  have hq : q < C.length := (List.getElem?_eq_some_iff.1 hx).1
  have HCH : Hid (∀ W, Below w.heap.size w W → Calls Try.prog 15 #[.slice ca C.length cc, .slice la L.length lc] W fun e w' => e = .returned (iv 0) ∧ Below W.heap.size W w') := fun W hb => by
    have := thCheck_any C L ca la cc lc W (hC.below hb) (hL.below hb) aC aL
    rw [hk] at this; exact this
  have hxv : vTc x = true := List.all_eq_true.1 hCv x (List.mem_of_getElem? hx)
  have HLS : Hid (∀ (p : Tp) (W : World), p ∈ L → Calls Try.prog 16 #[.agg (encTp p).toArray, .agg (encTc x).toArray] W fun e w' => e = .returned (iv (leastI p x)) ∧ Below W.heap.size W w') := fun p W hp => least_any p x W (List.all_eq_true.1 hLv p hp) hxv
  have HWI : Hid (inB 0 ((C.length : Int) - 1) (q : Int) = true) := inB_iff.2 ⟨by omega, by omega⟩
  have g0 : IntKind.i64.wrap ((C.length : Int) - 1) = (C.length : Int) - 1 := IntWalk.i64_in _ ⟨by omega, by omega⟩
  have HC := Lib.hid hC; have HL := Lib.hid hL
  have HX := Lib.hid hx
  clear hC hL aC aL hk hCv hLv hxv hx
  obtain ⟨F, hF⟩ : ∃ F : Nat → List Int, F = lsts L x := ⟨_, rfl⟩
  have HF0 : Hid (F 0 = []) := by rw [hF]; rfl
  have HFS : Hid (∀ (k : Nat) (p : Tp), L[k]? = some p → F (k + 1) = F k ++ [leastI p x]) := by rw [hF]; exact fun k p h => lsts_succ h
  have HFL : Hid (∀ k, k ≤ L.length → (F k).length = k) := by rw [hF]; exact fun k h => lsts_len h
  rw [← hF]
  clear hF
  go_enter Try.func7, Try.ntmps7
  go_wp2_with fail
  refine (HCH.out _ (Below.refl _ _)).mono ?_
  rintro e w1 ⟨rfl, hb1⟩
  have HB1 := Lib.hid hb1
  clear hb1
  go_wp2_with fail
  refine (within1 0 ((C.length : Int) - 1) (q : Int) (by go_simp)).mono ?_
  rintro e w_ ⟨he, rfl⟩; rw [HWI.out] at he; subst he
  go_wp2_with fail
  have HB2 : Hid (∀ o, Below w.heap.size w (w1.alloc o)) := fun o => bpush HB1.out o
  go_loopw [29, 9] (fun i l wr => ∃ k : Nat, k ≤ L.length ∧ i = iv k ∧ Hid (Owns encI 1 3 w.heap.size wr l (F k)) ∧ Hid (Below w.heap.size w wr)) (fun i _ _ => L.length - (intOf i).toNat)
  case atStart => exact ⟨0, Nat.zero_le _, rfl, by rw [HF0.out]; exact Owns.nil _ _ _ _ _, HB2.out _⟩
  case round =>
    obtain ⟨k, hk, rfl, HO, HB⟩ := hrel
    by_cases hlt : k < L.length
    · have hs1 := HL.out.below HB.out
      obtain ⟨pb, po, rfl⟩ := slice_addrN hs1 (by omega)
      obtain ⟨p, hp⟩ := getElem?_of_lt hlt
      have hcell := slice_cellN hs1 hp
      have e0 := hcell 0 _ rfl
      have e1 := hcell 1 _ rfl
      have e2 := hcell 2 _ rfl
      have e3 := hcell 3 _ rfl
      have e4 := hcell 4 _ rfl
      have e5 := hcell 5 _ rfl
      have e6 := hcell 6 _ rfl
      have e7 := hcell 7 _ rfl
      simp only [Nat.add_zero] at e0
      have hs2 := HC.out.below HB.out
      obtain ⟨cb, co, rfl⟩ := slice_addrN hs2 (by omega)
      have hcell2 := slice_cellN hs2 HX.out
      have hcw := slice_cellN HC.out HX.out
      have hcb : cb < w.heap.size := lt_of_cell (hcw 0 _ rfl)
      have c0 := hcell2 0 _ rfl
      have c1 := hcell2 1 _ rfl
      have c2 := hcell2 2 _ rfl
      have c3 := hcell2 3 _ rfl
      have c4 := hcell2 4 _ rfl
      have c5 := hcell2 5 _ rfl
      have c6 := hcell2 6 _ rfl
      simp only [Nat.add_zero] at c0
      have HLP := Lib.hid (fun W : World => HLS.out p W (List.mem_of_getElem? hp))
      have HSU := Lib.hid (HFS.out k p hp)
      have hne1 : ∀ g, u9.ownBlock = some g → w.heap.size ≤ g ∧ g < wr.heap.size := fun g hg => World.ownsRow.lt HO.out g hg
      have HN1 : Hid (u9.ownBlock ≠ some wr.heap.size) := fun e => by have := hne1 _ e; omega
      have HN2 : Hid (u9.ownBlock ≠ some cb) := fun e => by have := hne1 _ e; omega
      have hb2 : Hid ((F k).length + 1 ≤ maxLen ∧ ((F k).length + 1) * 8 ≤ 140737488355328) := by rw [HFL.out k hk]; simp [Hid]; unfold maxLen; omega
      have HX2 := HX
      clear hs1 hs2 hcell hcell2 hcw hp hne1 HLS HX HFS
      generalize leastI p x = li at *
      obtain ⟨lo, off, th, wl, wh, pm, le, ri⟩ := p
      obtain ⟨ll, lh, rl, rh, tl, tth, cm⟩ := x
      simp only [encTp, encTc] at *
      obtain ⟨Wl, hWl⟩ : ∃ Wl : World, wr.alloc (.cells #[iv lo, iv off, iv th, iv wl, iv wh, .string pm, .string le, .string ri] 39) = Wl := ⟨_, rfl⟩
      have hBl : Below wr.heap.size wr Wl := by rw [← hWl]; exact bpush (Below.refl _ _) _
      have hrl : Wl.heap[wr.heap.size]? = some (.cells #[iv lo, iv off, iv th, iv wl, iv wh, .string pm, .string le, .string ri] 39 (0, 0)) := by rw [← hWl]; exact heap_new _ _ _
      go_wp2_with fail
      clear hWl e0 e1 e2 e3 e4 e5 e6 e7
      have d0 : Wl.cell? ⟨wr.heap.size, 0, none⟩ = some (iv lo) := by rw [cell_of_row _ _ _ _ _ _ hrl]; rfl
      have d1 : Wl.cell? ⟨wr.heap.size, 1, none⟩ = some (iv off) := by rw [cell_of_row _ _ _ _ _ _ hrl]; rfl
      have d2 : Wl.cell? ⟨wr.heap.size, 2, none⟩ = some (iv th) := by rw [cell_of_row _ _ _ _ _ _ hrl]; rfl
      have d3 : Wl.cell? ⟨wr.heap.size, 3, none⟩ = some (iv wl) := by rw [cell_of_row _ _ _ _ _ _ hrl]; rfl
      have d4 : Wl.cell? ⟨wr.heap.size, 4, none⟩ = some (iv wh) := by rw [cell_of_row _ _ _ _ _ _ hrl]; rfl
      have d5 : Wl.cell? ⟨wr.heap.size, 5, none⟩ = some (.string pm) := by rw [cell_of_row _ _ _ _ _ _ hrl]; rfl
      have d6 : Wl.cell? ⟨wr.heap.size, 6, none⟩ = some (.string le) := by rw [cell_of_row _ _ _ _ _ _ hrl]; rfl
      have d7 : Wl.cell? ⟨wr.heap.size, 7, none⟩ = some (.string ri) := by rw [cell_of_row _ _ _ _ _ _ hrl]; rfl
      have c0 := kcellN hBl c0; have c1 := kcellN hBl c1; have c2 := kcellN hBl c2; have c3 := kcellN hBl c3; have c4 := kcellN hBl c4; have c5 := kcellN hBl c5; have c6 := kcellN hBl c6
      have hBs : w.heap.size ≤ wr.heap.size := HB.out.size
      have hBB : Below w.heap.size wr Wl := hBl.mono hBs
      have HOL := Lib.hid (Owns.kept HO.out hBl)
      have hzl : wr.heap.size ≤ Wl.heap.size := hBl.size
      clear hrl hBl
      go_region_held3 (fun w' => w'.cell? ⟨cb, co + q * 7, none⟩ = some (iv ll) ∧ w'.cell? ⟨cb, co + q * 7 + 1, none⟩ = some (iv lh) ∧ w'.cell? ⟨cb, co + q * 7 + 2, none⟩ = some (iv rl) ∧ w'.cell? ⟨cb, co + q * 7 + 3, none⟩ = some (iv rh) ∧ w'.cell? ⟨cb, co + q * 7 + 4, none⟩ = some (iv tl) ∧ w'.cell? ⟨cb, co + q * 7 + 5, none⟩ = some (iv tth) ∧ w'.cell? ⟨cb, co + q * 7 + 6, none⟩ = some (.string cm) ∧ w'.cell? ⟨wr.heap.size, 0, none⟩ = some (iv lo) ∧ w'.cell? ⟨wr.heap.size, 1, none⟩ = some (iv off) ∧ w'.cell? ⟨wr.heap.size, 2, none⟩ = some (iv th) ∧ w'.cell? ⟨wr.heap.size, 3, none⟩ = some (iv wl) ∧ w'.cell? ⟨wr.heap.size, 4, none⟩ = some (iv wh) ∧ w'.cell? ⟨wr.heap.size, 5, none⟩ = some (.string pm) ∧ w'.cell? ⟨wr.heap.size, 6, none⟩ = some (.string le) ∧ w'.cell? ⟨wr.heap.size, 7, none⟩ = some (.string ri) ∧ Below w.heap.size wr w')
        (first | (go_split_ands; refine ⟨?_, ?_, ?_, ?_, ?_, ?_, ?_, ?_, ?_, ?_, ?_, ?_, ?_, ?_, ?_, ?_⟩ <;> first | exact cellGNn hG HN2.out (by assumption) | exact cellGNn hG HN1.out (by assumption) | exact Below.trans (by assumption) hBA) | (go_split_ands; refine ⟨?_, ?_, ?_, ?_, ?_, ?_, ?_, ?_, ?_, ?_, ?_, ?_, ?_, ?_, ?_, ?_⟩ <;> first | exact kcellN (bpush (Below.refl _ _) _) (by assumption) | exact bstepBn (by assumption) hBs (bpush (Below.refl _ _) _)) | (go_split_ands; refine ⟨?_, ?_, ?_, ?_, ?_, ?_, ?_, ?_, ?_, ?_, ?_, ?_, ?_, ?_, ?_, ?_⟩ <;> first | exact kcellN hbK (by assumption) | exact bstepBn (by assumption) hBs hbK) | (refine ⟨?_, ?_, ?_, ?_, ?_, ?_, ?_, ?_, ?_, ?_, ?_, ?_, ?_, ?_, ?_, ?_⟩ <;> first | exact Below.drew (by assumption) | assumption))
        (first | (go_split_ands; (with_reducible refine (HLP.out _).mono ?_); rintro e w3 ⟨rfl, hbK⟩; have hOS : Hid (Owns encI 1 3 w.heap.size w3 u9 (F k)) := Owns.kept (w := Wl.drew) HOL.out hbK; have hbs3 : w.heap.size ≤ w3.heap.size := Nat.le_trans hBs (Nat.le_trans hzl hbK.size)) | (go_split_ands; (refine S_append1 (enc := encI) (sz := 1) (e := 3) (base := w.heap.size) (li : Int) (by rfl) _ _ 40 (by rfl) Try.underlying40 hi hz0 hz1 hz2 rfl Nat.one_pos encI_len (encI_one _) (by rfl) (by rfl) ?_ ?_ hb2.out ?_ ?_); (focus exact Owns.kept hOS.out (bpush (Below.refl _ _) _)); (focus exact encI_new _ _ _); (focus exact Nat.le_trans hbs3 (bpush (Below.refl _ _) _).size); intro g' cap wA hown hBA hG))
      rename_i hHeld
      have HBA := Lib.hid (HB.out.trans hHeld.2.2.2.2.2.2.2.2.2.2.2.2.2.2.2)
      have HON : Hid (Owns encI 1 3 w.heap.size wA (.slice (some ⟨g', 0, none⟩) ((F k).length + 1) cap) (F (k + 1))) := by rw [HSU.out]; exact hown
      clear hown hBA hG hHeld c0 c1 c2 c3 c4 c5 c6 d0 d1 d2 d3 d4 d5 d6 d7
      go_wp2_with fail
      go_roundw
      case rel => exact ⟨k + 1, by omega, by go_num, HON, HBA⟩
      case measure => simp [intOf]; omega
    · obtain rfl : k = L.length := by omega
      have HI : Hid (Ints wr u9 (F L.length)) := Owns.slice HO.out encI_len (by rw [HFL.out _ (Nat.le_refl _)]; omega)
      go_wp2_with fail
      go_ret2
      exact ⟨u9, rfl, HI.out, HB.out⟩
end Go.Proofs.Ytgoncgbbgodliad
