/- TopFulled's walk. -/
import Derived.Test.YteoejhldmeompaaLa
import Derived.Test.YteoejhldmeompaaLb
import Derived.Test.YteoejhldmeompaaLc
import Derived.Deep.RegionHeld3
namespace Go.Proofs.Yteoejhldmeompaa
open Go Go.RowKit Go.Shelf
attribute [local go_sem ↓] Go.wp_at_zero Go.wp_at_succ

set_option maxRecDepth 20000 in
set_option maxHeartbeats 25600000 in
theorem fulled_any (a b : Nat → Int) (v : Int) (w : World) (ha : ∀ i, 0 ≤ a i ∧ a i ≤ 255) (hb : ∀ i, 0 ≤ b i ∧ b i ≤ 255) (hv : 0 ≤ v ∧ v ≤ 255) :
    Calls Try.prog 3 #[.agg (fyCells a), .agg (fyCells b), u8 v] w fun e w' => e = .returned (.bool true) ∧ Below w.heap.size w w' := by
  have hVT : [ebT a 0, ebT a 1, ebT a 2].all vTrack = true := by simp [ebT_valid ha]
  have hx : 60 ≤ ebF a 1 ∧ ebF a 1 ≤ 315 := by have := ha 4; show 60 ≤ 60 + a 4 ∧ 60 + a 4 ≤ 315; omega
  obtain ⟨hv0, hv1⟩ := hv
  obtain ⟨sn, pn, e1, e2, e3, q1, q2, q3, q4⟩ := below_two (lim := ebF a 1 - v % 60) hVT (by omega)
  have HBL : Hid (∀ (W : World) (tv mv : Value), SliceOf encT 4 W tv [ebT a 0, ebT a 1, ebT a 2] → SliceOf encM 4 W mv [] → Calls Try.prog 6 #[.agg #[tv, mv], iv 1, iv (ebF a 1 - v % 60)] W fun e w' => e = .returned (.tuple #[iv sn, iv pn, iv 0]) ∧ Below W.heap.size W w') := fun W tv mv ht hm => by
    have := Below_any [ebT a 0, ebT a 1, ebT a 2] [] tv mv 1 (ebF a 1 - v % 60) W ht hm
    rw [e1, e2, e3] at this; exact this
  have HQ1 : Hid (∀ n : Nat, n ≤ 36 → sn ≤ n → ebA a 1 n ≤ ebF a 1 - v % 60) := fun n h1 h2 => Int.le_trans (ebT_in ha 1 n).2 (q3 n (by omega) h2)
  have HQ2 : Hid (∀ n : Nat, n < pn → ebF a 1 - v % 60 < ebA a 1 n) := fun n h1 => Int.lt_of_lt_of_le (q4 n h1) (ebT_in ha 1 n).1
  clear e1 e2 e3 q3 q4 hVT
  have HSF : Hid (∀ n : Nat, n ∈ sureL [efP b 0, efP b 1] (efFe b) → n ≤ 36 ∧ efFit b n = true) := fun n h => sure_fit hb h
  have HFI : Hid (∀ (W : World) (pa : Option Addr) (pc : Nat), SliceOf encS 2 W (.slice pa 2 pc) [efP b 0, efP b 1] → Calls Try.prog 8 #[.agg (stcells (efFe b) (.slice pa 2 pc) (.slice none 0 0)).toArray] W fun e w' => ∃ u v, e = .returned (.tuple #[u, v, iv 0]) ∧ Ints w' u (hoursI (sureL [efP b 0, efP b 1] (efFe b))) ∧ Ints w' v (hoursI (mayL [efP b 0, efP b 1] (efFe b))) ∧ Below W.heap.size W w') := fun W pa pc h => Fit_good [efP b 0, efP b 1] (efFe b) pa none pc 0 W h (efFe_ok hb)
  have HFE : Hid (∀ W : World, Calls Try.prog 4 #[.agg (fyCells b)] W fun e w' => ∃ pg pc, e = .returned (.tuple #[.agg (stcells (efFe b) (.slice (some ⟨pg, 0, none⟩) 2 pc) (.slice none 0 0)).toArray, iv (efS b), iv (efW b)]) ∧ SliceOf encS 2 w' (.slice (some ⟨pg, 0, none⟩) 2 pc) [efP b 0, efP b 1] ∧ Below W.heap.size W w') := fun W => elmFelt_any b W hb
  have HBM : Hid (∀ W : World, Calls Try.prog 7 #[.agg (fyCells a)] W fun e w' => ∃ tv, e = .returned (.agg #[tv, .slice none 0 0]) ∧ Owns encT 4 60 W.heap.size w' tv [ebT a 0, ebT a 1, ebT a 2] ∧ Below W.heap.size W w') := fun W => ebMade_any a W ha
  have HA0 : Hid (∀ W : World, Calls Try.prog 5 #[.agg (fyCells a), iv 1, iv 0] W fun e w' => e = .returned (iv (ebF a 1)) ∧ Below W.heap.size W w') := fun W => elmAt_any a 1 0 W ha (by omega) (by omega)
  have HATN : Hid (∀ (n : Nat) (W : World), n ≤ 36 → Calls Try.prog 5 #[.agg (fyCells a), iv 1, iv n] W fun e w' => e = .returned (iv (ebA a 1 n)) ∧ Below W.heap.size W w') := fun n W h => elmAt_any a 1 n W ha (by omega) (by omega)
  have HFTN : Hid (∀ (n : Nat) (W : World), n ≤ 36 → efFit b n = true → Calls Try.prog 9 #[.agg (fyCells b), iv n] W fun e w' => e = .returned (.bool true) ∧ Below W.heap.size W w') := fun n W h h1 => by rw [← h1]; exact elmFit_any b n W hb (by omega)
  have HC : Hid ((stcells (efFe b) (.slice none 0 0) (.slice none 0 0)).length = 10) := rfl
  generalize efFe b = c at *
  generalize sureL [efP b 0, efP b 1] c = L at *
  generalize mayL [efP b 0, efP b 1] c = L2 at *
  have hr : 0 ≤ v % 60 ∧ v % 60 ≤ 59 := by omega
  have p0 : v.tmod 60 = v % 60 := Int.tmod_eq_emod_of_nonneg hv0
  generalize v % 60 = r0 at *
  obtain ⟨hr0, hr1⟩ := hr; obtain ⟨hx0, hx1⟩ := hx
  generalize ebF a 1 = X at *
  have g0 : IntKind.i64.wrap v = v := IntWalk.i64_in _ ⟨by omega, by omega⟩
  have g2 : IntKind.i64.wrap (X - r0) = X - r0 := IntWalk.i64_in _ ⟨by omega, by omega⟩
  have g3 : ¬ (X - r0 < 0) := by omega
  have g4 : 0 < X - r0 := by omega
  obtain ⟨w0, hw0⟩ : ∃ W : World, ((w.alloc (.cells (fyCells a) 25)).alloc (.cells (fyCells b) 29)) = W := ⟨_, rfl⟩
  have HB0 : Hid (Below w.heap.size w w0) := by rw [← hw0]; exact (by repeat (first | exact Below.refl _ _ | refine Below.drew ?_ | refine bpush ?_ _ | refine bput ?_ (by simp) _ | (refine bstep ?_ (by assumption))))
  have hz0 : w0.heap.size = w.heap.size + 2 := by rw [← hw0]; simp
  have HR0 : Hid (w0.heap[w.heap.size]? = some (.cells (fyCells a) 25 (0, 0))) := by rw [← hw0, Below.heap_alloc _ _ _ (by simp)]; exact heap_new _ _ _
  have HR1 : Hid (w0.heap[w.heap.size + 1]? = some (.cells (fyCells b) 29 (0, 0))) := by rw [← hw0]; exact heapA (by simp)
  have k0 : w0.cell? ⟨w.heap.size + 1, 0, none⟩ = some (Yteoejhldmeompaa.u8 (b 0)) := by rw [cell_of_row _ _ _ _ _ _ HR1.out]; rfl
  have k1 : w0.cell? ⟨w.heap.size + 1, 1, none⟩ = some (Yteoejhldmeompaa.u8 (b 1)) := by rw [cell_of_row _ _ _ _ _ _ HR1.out]; rfl
  have k2 : w0.cell? ⟨w.heap.size + 1, 2, none⟩ = some (Yteoejhldmeompaa.u8 (b 2)) := by rw [cell_of_row _ _ _ _ _ _ HR1.out]; rfl
  have k3 : w0.cell? ⟨w.heap.size + 1, 3, none⟩ = some (Yteoejhldmeompaa.u8 (b 3)) := by rw [cell_of_row _ _ _ _ _ _ HR1.out]; rfl
  have k4 : w0.cell? ⟨w.heap.size + 1, 4, none⟩ = some (Yteoejhldmeompaa.u8 (b 4)) := by rw [cell_of_row _ _ _ _ _ _ HR1.out]; rfl
  have k5 : w0.cell? ⟨w.heap.size + 1, 5, none⟩ = some (Yteoejhldmeompaa.u8 (b 5)) := by rw [cell_of_row _ _ _ _ _ _ HR1.out]; rfl
  have k6 : w0.cell? ⟨w.heap.size + 1, 6, none⟩ = some (Yteoejhldmeompaa.u8 (b 6)) := by rw [cell_of_row _ _ _ _ _ _ HR1.out]; rfl
  have k7 : w0.cell? ⟨w.heap.size + 1, 7, none⟩ = some (Yteoejhldmeompaa.u8 (b 7)) := by rw [cell_of_row _ _ _ _ _ _ HR1.out]; rfl
  have k8 : w0.cell? ⟨w.heap.size + 1, 8, none⟩ = some (Yteoejhldmeompaa.u8 (b 8)) := by rw [cell_of_row _ _ _ _ _ _ HR1.out]; rfl
  have k9 : w0.cell? ⟨w.heap.size + 1, 9, none⟩ = some (Yteoejhldmeompaa.u8 (b 9)) := by rw [cell_of_row _ _ _ _ _ _ HR1.out]; rfl
  have k10 : w0.cell? ⟨w.heap.size + 1, 10, none⟩ = some (Yteoejhldmeompaa.u8 (b 10)) := by rw [cell_of_row _ _ _ _ _ _ HR1.out]; rfl
  have k11 : w0.cell? ⟨w.heap.size + 1, 11, none⟩ = some (Yteoejhldmeompaa.u8 (b 11)) := by rw [cell_of_row _ _ _ _ _ _ HR1.out]; rfl
  simp only [fyCells] at hw0 HFE HBM HA0 HATN HFTN ⊢
  clear ha hb
  go_enter Try.func3, Try.ntmps3
  go_wp2_with fail
  clear hw0
  refine (HFE.out _).mono ?_
  rintro e w1 ⟨pg, pc, rfl, hs, hb1⟩
  have HS1 := Lib.hid hs
  have HB1 := Lib.hid (bstep HB0.out hb1)
  have HR01 := Lib.hid (bblk hb1 HR0.out)
  have HR11 := Lib.hid (bblk hb1 HR1.out)
  clear hs hb1 k0 k1 k2 k3 k4 k5 k6 k7 k8 k9 k10 k11 hz0
  have l0 : w1.cell? ⟨w.heap.size, 0, none⟩ = some (Yteoejhldmeompaa.u8 (a 0)) := by rw [cell_of_row _ _ _ _ _ _ HR01.out]; rfl
  have l1 : w1.cell? ⟨w.heap.size, 1, none⟩ = some (Yteoejhldmeompaa.u8 (a 1)) := by rw [cell_of_row _ _ _ _ _ _ HR01.out]; rfl
  have l2 : w1.cell? ⟨w.heap.size, 2, none⟩ = some (Yteoejhldmeompaa.u8 (a 2)) := by rw [cell_of_row _ _ _ _ _ _ HR01.out]; rfl
  have l3 : w1.cell? ⟨w.heap.size, 3, none⟩ = some (Yteoejhldmeompaa.u8 (a 3)) := by rw [cell_of_row _ _ _ _ _ _ HR01.out]; rfl
  have l4 : w1.cell? ⟨w.heap.size, 4, none⟩ = some (Yteoejhldmeompaa.u8 (a 4)) := by rw [cell_of_row _ _ _ _ _ _ HR01.out]; rfl
  have l5 : w1.cell? ⟨w.heap.size, 5, none⟩ = some (Yteoejhldmeompaa.u8 (a 5)) := by rw [cell_of_row _ _ _ _ _ _ HR01.out]; rfl
  have l6 : w1.cell? ⟨w.heap.size, 6, none⟩ = some (Yteoejhldmeompaa.u8 (a 6)) := by rw [cell_of_row _ _ _ _ _ _ HR01.out]; rfl
  have l7 : w1.cell? ⟨w.heap.size, 7, none⟩ = some (Yteoejhldmeompaa.u8 (a 7)) := by rw [cell_of_row _ _ _ _ _ _ HR01.out]; rfl
  have l8 : w1.cell? ⟨w.heap.size, 8, none⟩ = some (Yteoejhldmeompaa.u8 (a 8)) := by rw [cell_of_row _ _ _ _ _ _ HR01.out]; rfl
  have l9 : w1.cell? ⟨w.heap.size, 9, none⟩ = some (Yteoejhldmeompaa.u8 (a 9)) := by rw [cell_of_row _ _ _ _ _ _ HR01.out]; rfl
  have l10 : w1.cell? ⟨w.heap.size, 10, none⟩ = some (Yteoejhldmeompaa.u8 (a 10)) := by rw [cell_of_row _ _ _ _ _ _ HR01.out]; rfl
  have l11 : w1.cell? ⟨w.heap.size, 11, none⟩ = some (Yteoejhldmeompaa.u8 (a 11)) := by rw [cell_of_row _ _ _ _ _ _ HR01.out]; rfl
  have hz1 : w.heap.size < w1.heap.size := (Array.getElem?_eq_some_iff.1 HR01.out).1
  obtain ⟨sl, sh, wl, wh, tu, st, fu, ha⟩ := c
  simp only [stcells] at *
  go_wp2_with fail
  obtain ⟨W2, hW2⟩ : ∃ W : World, w1.alloc (.cells #[.slice (some ⟨pg, 0, none⟩) 2 pc, iv sl, iv sh, iv wl, iv wh, iv tu, iv st, iv fu, iv ha, .slice none 0 0] 35) = W := ⟨_, rfl⟩
  have hbp : Below w1.heap.size w1 W2 := by rw [← hW2]; exact bpush (Below.refl _ _) _
  have HRC : Hid (W2.heap[w1.heap.size]? = some (.cells #[.slice (some ⟨pg, 0, none⟩) 2 pc, iv sl, iv sh, iv wl, iv wh, iv tu, iv st, iv fu, iv ha, .slice none 0 0] 35 (0, 0))) := by rw [← hW2]; exact heap_new _ _ _
  have HB2 := Lib.hid (bstep HB1.out hbp)
  have HS2 := Lib.hid (HS1.out.below hbp)
  have HR02 := Lib.hid (bblk hbp HR01.out)
  have HR12 := Lib.hid (bblk hbp HR11.out)
  clear hbp l0 l1 l2 l3 l4 l5 l6 l7 l8 l9 l10 l11
  rw [hW2]
  clear hW2
  refine (HA0.out _).mono ?_
  rintro e w3 ⟨rfl, hb3⟩
  have HB3 := Lib.hid (bstep HB2.out hb3)
  have HS3 := Lib.hid (HS2.out.below hb3)
  have HR03 := Lib.hid (bblk hb3 HR02.out)
  have HR13 := Lib.hid (bblk hb3 HR12.out)
  have HRC3 := Lib.hid (bblk hb3 HRC.out)
  clear hb3
  have l0 : w3.cell? ⟨w.heap.size, 0, none⟩ = some (Yteoejhldmeompaa.u8 (a 0)) := by rw [cell_of_row _ _ _ _ _ _ HR03.out]; rfl
  have l1 : w3.cell? ⟨w.heap.size, 1, none⟩ = some (Yteoejhldmeompaa.u8 (a 1)) := by rw [cell_of_row _ _ _ _ _ _ HR03.out]; rfl
  have l2 : w3.cell? ⟨w.heap.size, 2, none⟩ = some (Yteoejhldmeompaa.u8 (a 2)) := by rw [cell_of_row _ _ _ _ _ _ HR03.out]; rfl
  have l3 : w3.cell? ⟨w.heap.size, 3, none⟩ = some (Yteoejhldmeompaa.u8 (a 3)) := by rw [cell_of_row _ _ _ _ _ _ HR03.out]; rfl
  have l4 : w3.cell? ⟨w.heap.size, 4, none⟩ = some (Yteoejhldmeompaa.u8 (a 4)) := by rw [cell_of_row _ _ _ _ _ _ HR03.out]; rfl
  have l5 : w3.cell? ⟨w.heap.size, 5, none⟩ = some (Yteoejhldmeompaa.u8 (a 5)) := by rw [cell_of_row _ _ _ _ _ _ HR03.out]; rfl
  have l6 : w3.cell? ⟨w.heap.size, 6, none⟩ = some (Yteoejhldmeompaa.u8 (a 6)) := by rw [cell_of_row _ _ _ _ _ _ HR03.out]; rfl
  have l7 : w3.cell? ⟨w.heap.size, 7, none⟩ = some (Yteoejhldmeompaa.u8 (a 7)) := by rw [cell_of_row _ _ _ _ _ _ HR03.out]; rfl
  have l8 : w3.cell? ⟨w.heap.size, 8, none⟩ = some (Yteoejhldmeompaa.u8 (a 8)) := by rw [cell_of_row _ _ _ _ _ _ HR03.out]; rfl
  have l9 : w3.cell? ⟨w.heap.size, 9, none⟩ = some (Yteoejhldmeompaa.u8 (a 9)) := by rw [cell_of_row _ _ _ _ _ _ HR03.out]; rfl
  have l10 : w3.cell? ⟨w.heap.size, 10, none⟩ = some (Yteoejhldmeompaa.u8 (a 10)) := by rw [cell_of_row _ _ _ _ _ _ HR03.out]; rfl
  have l11 : w3.cell? ⟨w.heap.size, 11, none⟩ = some (Yteoejhldmeompaa.u8 (a 11)) := by rw [cell_of_row _ _ _ _ _ _ HR03.out]; rfl
  go_wp2_with fail
  refine (HBM.out _).mono ?_
  rintro e w4 ⟨tv, rfl, hO, hb4⟩
  have HST := Lib.hid (Owns.slice hO encT_len (by simp))
  have HB4 := Lib.hid (bstep HB3.out hb4)
  have HS4 := Lib.hid (HS3.out.below hb4)
  have HR04 := Lib.hid (bblk hb4 HR03.out)
  have HR14 := Lib.hid (bblk hb4 HR13.out)
  have HRC4 := Lib.hid (bblk hb4 HRC3.out)
  clear hb4 hO l0 l1 l2 l3 l4 l5 l6 l7 l8 l9 l10 l11
  go_wp2_with fail
  refine (HBL.out _ _ _ HST.out (SliceOf.nil _ _ _ _ _)).mono ?_
  rintro e w5 ⟨rfl, hb5⟩
  have HB5 := Lib.hid (bstep HB4.out hb5)
  have HS5 := Lib.hid (HS4.out.below hb5)
  have HR05 := Lib.hid (bblk hb5 HR04.out)
  have HR15 := Lib.hid (bblk hb5 HR14.out)
  have HRC5 := Lib.hid (bblk hb5 HRC4.out)
  clear hb5
  have c0 : w5.cell? ⟨w1.heap.size, 0, none⟩ = some (.slice (some ⟨pg, 0, none⟩) 2 pc) := by rw [cell_of_row _ _ _ _ _ _ HRC5.out]; rfl
  have c1 : w5.cell? ⟨w1.heap.size, 1, none⟩ = some (iv sl) := by rw [cell_of_row _ _ _ _ _ _ HRC5.out]; rfl
  have c2 : w5.cell? ⟨w1.heap.size, 2, none⟩ = some (iv sh) := by rw [cell_of_row _ _ _ _ _ _ HRC5.out]; rfl
  have c3 : w5.cell? ⟨w1.heap.size, 3, none⟩ = some (iv wl) := by rw [cell_of_row _ _ _ _ _ _ HRC5.out]; rfl
  have c4 : w5.cell? ⟨w1.heap.size, 4, none⟩ = some (iv wh) := by rw [cell_of_row _ _ _ _ _ _ HRC5.out]; rfl
  have c5 : w5.cell? ⟨w1.heap.size, 5, none⟩ = some (iv tu) := by rw [cell_of_row _ _ _ _ _ _ HRC5.out]; rfl
  have c6 : w5.cell? ⟨w1.heap.size, 6, none⟩ = some (iv st) := by rw [cell_of_row _ _ _ _ _ _ HRC5.out]; rfl
  have c7 : w5.cell? ⟨w1.heap.size, 7, none⟩ = some (iv fu) := by rw [cell_of_row _ _ _ _ _ _ HRC5.out]; rfl
  have c8 : w5.cell? ⟨w1.heap.size, 8, none⟩ = some (iv ha) := by rw [cell_of_row _ _ _ _ _ _ HRC5.out]; rfl
  have c9 : w5.cell? ⟨w1.heap.size, 9, none⟩ = some (.slice none 0 0) := by rw [cell_of_row _ _ _ _ _ _ HRC5.out]; rfl
  go_wp2_with fail
  refine (HFI.out _ _ _ HS5.out).mono ?_
  rintro e w6 ⟨u, v2, rfl, hu, -, hb6⟩
  obtain ⟨ua, uc, rfl, hum, huc⟩ := hu
  have HUC := Lib.hid huc
  have HB6 := Lib.hid (bstep HB5.out hb6)
  have HR06 := Lib.hid (bblk hb6 HR05.out)
  have HR16 := Lib.hid (bblk hb6 HR15.out)
  clear hb6 huc c0 c1 c2 c3 c4 c5 c6 c7 c8 c9
  have i1 : decide ((pn : Int) < 0) = false := decide_eq_false (by omega)
  have i2 : decide ((sn : Int) < (pn : Int)) = false := decide_eq_false (by omega)
  have i3 : decide (49 < (sn : Int)) = false := decide_eq_false (by omega)
  have i4 : decide (sn < pn) = false := decide_eq_false (by omega)
  have i5 : decide (49 < sn) = false := decide_eq_false (by omega)
  go_wp2_with fail
  go_loopw [17] (fun i wr => ∃ k : Nat, k ≤ (hoursI L).length ∧ i = iv k ∧ Hid (Below w6.heap.size w6 wr)) (fun i _ => (hoursI L).length - (intOf i).toNat)
  case atStart => exact ⟨0, Nat.zero_le _, rfl, Below.refl _ _⟩
  case round =>
    obtain ⟨k, hk, rfl, HBR⟩ := hrel
    by_cases hlt : k < (hoursI L).length
    · obtain ⟨x, hx⟩ := getElem?_of_lt hlt
      obtain ⟨n, hnL, rfl⟩ := List.mem_map.1 (List.mem_of_getElem? hx)
      obtain ⟨hn36, hfit⟩ := HSF.out n hnL
      obtain ⟨gb, gof, rfl, hj⟩ := HUC.out k _ hx
      have cL6 : w6.cell? ⟨gb, gof + k, none⟩ = some (iv n) := by have := hj 0 _ rfl; simpa using this
      have hbR := HBR.out
      have HFT := Lib.hid (fun W => HFTN.out n W hn36 hfit)
      have HAT := Lib.hid (fun W => HATN.out n W hn36)
      have x0 : w6.cell? ⟨w.heap.size, 0, none⟩ = some (Yteoejhldmeompaa.u8 (a 0)) := by rw [cell_of_row _ _ _ _ _ _ HR06.out]; rfl
      have x1 : w6.cell? ⟨w.heap.size, 1, none⟩ = some (Yteoejhldmeompaa.u8 (a 1)) := by rw [cell_of_row _ _ _ _ _ _ HR06.out]; rfl
      have x2 : w6.cell? ⟨w.heap.size, 2, none⟩ = some (Yteoejhldmeompaa.u8 (a 2)) := by rw [cell_of_row _ _ _ _ _ _ HR06.out]; rfl
      have x3 : w6.cell? ⟨w.heap.size, 3, none⟩ = some (Yteoejhldmeompaa.u8 (a 3)) := by rw [cell_of_row _ _ _ _ _ _ HR06.out]; rfl
      have x4 : w6.cell? ⟨w.heap.size, 4, none⟩ = some (Yteoejhldmeompaa.u8 (a 4)) := by rw [cell_of_row _ _ _ _ _ _ HR06.out]; rfl
      have x5 : w6.cell? ⟨w.heap.size, 5, none⟩ = some (Yteoejhldmeompaa.u8 (a 5)) := by rw [cell_of_row _ _ _ _ _ _ HR06.out]; rfl
      have x6 : w6.cell? ⟨w.heap.size, 6, none⟩ = some (Yteoejhldmeompaa.u8 (a 6)) := by rw [cell_of_row _ _ _ _ _ _ HR06.out]; rfl
      have x7 : w6.cell? ⟨w.heap.size, 7, none⟩ = some (Yteoejhldmeompaa.u8 (a 7)) := by rw [cell_of_row _ _ _ _ _ _ HR06.out]; rfl
      have x8 : w6.cell? ⟨w.heap.size, 8, none⟩ = some (Yteoejhldmeompaa.u8 (a 8)) := by rw [cell_of_row _ _ _ _ _ _ HR06.out]; rfl
      have x9 : w6.cell? ⟨w.heap.size, 9, none⟩ = some (Yteoejhldmeompaa.u8 (a 9)) := by rw [cell_of_row _ _ _ _ _ _ HR06.out]; rfl
      have x10 : w6.cell? ⟨w.heap.size, 10, none⟩ = some (Yteoejhldmeompaa.u8 (a 10)) := by rw [cell_of_row _ _ _ _ _ _ HR06.out]; rfl
      have x11 : w6.cell? ⟨w.heap.size, 11, none⟩ = some (Yteoejhldmeompaa.u8 (a 11)) := by rw [cell_of_row _ _ _ _ _ _ HR06.out]; rfl
      have y0 : w6.cell? ⟨w.heap.size + 1, 0, none⟩ = some (Yteoejhldmeompaa.u8 (b 0)) := by rw [cell_of_row _ _ _ _ _ _ HR16.out]; rfl
      have y1 : w6.cell? ⟨w.heap.size + 1, 1, none⟩ = some (Yteoejhldmeompaa.u8 (b 1)) := by rw [cell_of_row _ _ _ _ _ _ HR16.out]; rfl
      have y2 : w6.cell? ⟨w.heap.size + 1, 2, none⟩ = some (Yteoejhldmeompaa.u8 (b 2)) := by rw [cell_of_row _ _ _ _ _ _ HR16.out]; rfl
      have y3 : w6.cell? ⟨w.heap.size + 1, 3, none⟩ = some (Yteoejhldmeompaa.u8 (b 3)) := by rw [cell_of_row _ _ _ _ _ _ HR16.out]; rfl
      have y4 : w6.cell? ⟨w.heap.size + 1, 4, none⟩ = some (Yteoejhldmeompaa.u8 (b 4)) := by rw [cell_of_row _ _ _ _ _ _ HR16.out]; rfl
      have y5 : w6.cell? ⟨w.heap.size + 1, 5, none⟩ = some (Yteoejhldmeompaa.u8 (b 5)) := by rw [cell_of_row _ _ _ _ _ _ HR16.out]; rfl
      have y6 : w6.cell? ⟨w.heap.size + 1, 6, none⟩ = some (Yteoejhldmeompaa.u8 (b 6)) := by rw [cell_of_row _ _ _ _ _ _ HR16.out]; rfl
      have y7 : w6.cell? ⟨w.heap.size + 1, 7, none⟩ = some (Yteoejhldmeompaa.u8 (b 7)) := by rw [cell_of_row _ _ _ _ _ _ HR16.out]; rfl
      have y8 : w6.cell? ⟨w.heap.size + 1, 8, none⟩ = some (Yteoejhldmeompaa.u8 (b 8)) := by rw [cell_of_row _ _ _ _ _ _ HR16.out]; rfl
      have y9 : w6.cell? ⟨w.heap.size + 1, 9, none⟩ = some (Yteoejhldmeompaa.u8 (b 9)) := by rw [cell_of_row _ _ _ _ _ _ HR16.out]; rfl
      have y10 : w6.cell? ⟨w.heap.size + 1, 10, none⟩ = some (Yteoejhldmeompaa.u8 (b 10)) := by rw [cell_of_row _ _ _ _ _ _ HR16.out]; rfl
      have y11 : w6.cell? ⟨w.heap.size + 1, 11, none⟩ = some (Yteoejhldmeompaa.u8 (b 11)) := by rw [cell_of_row _ _ _ _ _ _ HR16.out]; rfl
      have hQ1 := HQ1.out n hn36
      have hQ2 := HQ2.out n
      clear hj hx hnL hfit
      generalize ebA a 1 n = A at *
      have j0 : decide ((n : Int) < 0) = false := decide_eq_false (by omega)
      have j1 : decide (36 < (n : Int)) = false := decide_eq_false (by omega)
      by_cases h1 : sn ≤ n
      · have j2 : decide ((sn : Int) ≤ (n : Int)) = true := decide_eq_true (by omega)
        have j5 : decide (sn ≤ n) = true := decide_eq_true h1
        have j6 : decide (n < pn) = false := decide_eq_false (by omega)
        have j3 : decide ((n : Int) < (pn : Int)) = false := decide_eq_false (by omega)
        have j4 : decide (X - r0 < A) = false := decide_eq_false (by have := hQ1 h1; omega)
        clear hQ1 hQ2 h1 hn36
        go_wp2_with fail
        refine wp_region_held_drew (S := fun w' => Below w6.heap.size w6 w') (by kernel_rfl) (Below.drew hbR) (fun hHeld => ?_)
        refine wpAnyH_take (i := 0) (v := ?_) rfl (by kernel_rfl) (by kernel_rfl) (by kernel_rfl) (fun _ _ _ h => h) (Or.inl ⟨by kernel_rfl, ?_⟩) (by assumption) ?_
        rotate_left
        · (intro W hS;  go_simp; try (with_reducible rfl))
        refine (show wpAnyH Try.prog Region.Mode.any _ _ _ _ _ (Act.mk (Array.setIfInBounds (List.toArray _) _ _) _) _ from ?_)
        simp only [List.setIfInBounds_toArray, List.set_cons_zero, List.set_cons_succ]
        refine wpAnyH_take (i := 1) (v := ?_) rfl (by kernel_rfl) (by kernel_rfl) (by kernel_rfl) (fun _ _ _ h => h) (Or.inl ⟨by kernel_rfl, ?_⟩) (by assumption) ?_
        rotate_left
        · (intro W hS;  go_simp; try (with_reducible rfl))
        refine (show wpAnyH Try.prog Region.Mode.any _ _ _ _ _ (Act.mk (Array.setIfInBounds (List.toArray _) _ _) _) _ from ?_)
        simp only [List.setIfInBounds_toArray, List.set_cons_zero, List.set_cons_succ]
        refine wpAnyH_take (i := 2) (v := ?_) rfl (by kernel_rfl) (by kernel_rfl) (by kernel_rfl) (fun _ _ _ h => h) (Or.inl ⟨by kernel_rfl, ?_⟩) (by assumption) ?_
        rotate_left
        · (intro W hS;  go_simp; try (with_reducible rfl))
        refine (show wpAnyH Try.prog Region.Mode.any _ _ _ _ _ (Act.mk (Array.setIfInBounds (List.toArray _) _ _) _) _ from ?_)
        simp only [List.setIfInBounds_toArray, List.set_cons_zero, List.set_cons_succ]
        refine wpAnyH_take (i := 3) (v := ?_) rfl (by kernel_rfl) (by kernel_rfl) (by kernel_rfl) (fun _ _ _ h => h) (Or.inl ⟨by kernel_rfl, ?_⟩) (by assumption) ?_
        rotate_left
        · (intro W hS; have cL := kcell hS cL6; go_simp; try (with_reducible rfl))
        refine (show wpAnyH Try.prog Region.Mode.any _ _ _ _ _ (Act.mk (Array.setIfInBounds (List.toArray _) _ _) _) _ from ?_)
        simp only [List.setIfInBounds_toArray, List.set_cons_zero, List.set_cons_succ]
        refine wpAnyH_take (i := 4) (v := ?_) rfl (by kernel_rfl) (by kernel_rfl) (by kernel_rfl) (fun _ _ _ h => h) (Or.inl ⟨by kernel_rfl, ?_⟩) (by assumption) ?_
        rotate_left
        · (intro W hS;  go_simp; try (with_reducible rfl))
        refine (show wpAnyH Try.prog Region.Mode.any _ _ _ _ _ (Act.mk (Array.setIfInBounds (List.toArray _) _ _) _) _ from ?_)
        simp only [List.setIfInBounds_toArray, List.set_cons_zero, List.set_cons_succ]
        refine wpAnyH_take (i := 5) (v := ?_) rfl (by kernel_rfl) (by kernel_rfl) (by kernel_rfl) (fun _ _ _ h => h) (Or.inl ⟨by kernel_rfl, ?_⟩) (by assumption) ?_
        rotate_left
        · (intro W hS;  go_simp; try (with_reducible rfl))
        refine (show wpAnyH Try.prog Region.Mode.any _ _ _ _ _ (Act.mk (Array.setIfInBounds (List.toArray _) _ _) _) _ from ?_)
        simp only [List.setIfInBounds_toArray, List.set_cons_zero, List.set_cons_succ]
        refine wpAnyH_take (i := 6) (v := ?_) rfl (by kernel_rfl) (by kernel_rfl) (by kernel_rfl) (fun _ _ _ h => h) (Or.inl ⟨by kernel_rfl, ?_⟩) (by assumption) ?_
        rotate_left
        · (intro W hS;  go_simp; try (with_reducible rfl))
        refine (show wpAnyH Try.prog Region.Mode.any _ _ _ _ _ (Act.mk (Array.setIfInBounds (List.toArray _) _ _) _) _ from ?_)
        simp only [List.setIfInBounds_toArray, List.set_cons_zero, List.set_cons_succ]
        refine wpAnyH_take (i := 7) (v := ?_) rfl (by kernel_rfl) (by kernel_rfl) (by kernel_rfl) (fun _ _ _ h => h) (Or.inl ⟨by kernel_rfl, ?_⟩) (by assumption) ?_
        rotate_left
        · (intro W hS;  go_simp; try (with_reducible rfl))
        refine (show wpAnyH Try.prog Region.Mode.any _ _ _ _ _ (Act.mk (Array.setIfInBounds (List.toArray _) _ _) _) _ from ?_)
        simp only [List.setIfInBounds_toArray, List.set_cons_zero, List.set_cons_succ]
        refine wpAnyH_take (i := 8) (v := ?_) rfl (by kernel_rfl) (by kernel_rfl) (by kernel_rfl) (fun _ _ _ h => h) (Or.inl ⟨by kernel_rfl, ?_⟩) (by assumption) ?_
        rotate_left
        · (intro W hS;  go_simp; try (with_reducible rfl))
        refine (show wpAnyH Try.prog Region.Mode.any _ _ _ _ _ (Act.mk (Array.setIfInBounds (List.toArray _) _ _) _) _ from ?_)
        simp only [List.setIfInBounds_toArray, List.set_cons_zero, List.set_cons_succ]
        refine wpAnyH_take (i := 9) (v := ?_) rfl (by kernel_rfl) (by kernel_rfl) (by kernel_rfl) (fun _ _ _ h => h) (Or.inl ⟨by kernel_rfl, ?_⟩) (by assumption) ?_
        rotate_left
        · (intro W hS; have cL := kcell hS cL6; go_simp; try (with_reducible rfl))
        refine (show wpAnyH Try.prog Region.Mode.any _ _ _ _ _ (Act.mk (Array.setIfInBounds (List.toArray _) _ _) _) _ from ?_)
        simp only [List.setIfInBounds_toArray, List.set_cons_zero, List.set_cons_succ]
        refine wpAnyH_take (i := 10) (v := ?_) rfl (by kernel_rfl) (by kernel_rfl) (by kernel_rfl) (fun _ _ _ h => h) (Or.inl ⟨by kernel_rfl, ?_⟩) (by assumption) ?_
        rotate_left
        · (intro W hS;  go_simp; try (with_reducible rfl))
        refine (show wpAnyH Try.prog Region.Mode.any _ _ _ _ _ (Act.mk (Array.setIfInBounds (List.toArray _) _ _) _) _ from ?_)
        simp only [List.setIfInBounds_toArray, List.set_cons_zero, List.set_cons_succ]
        refine wpAnyH_take (i := 11) (v := ?_) rfl (by kernel_rfl) (by kernel_rfl) (by kernel_rfl) (fun _ _ _ h => h) (Or.inl ⟨by kernel_rfl, ?_⟩) (by assumption) ?_
        rotate_left
        · (intro W hS;  go_simp; try (with_reducible rfl))
        refine (show wpAnyH Try.prog Region.Mode.any _ _ _ _ _ (Act.mk (Array.setIfInBounds (List.toArray _) _ _) _) _ from ?_)
        simp only [List.setIfInBounds_toArray, List.set_cons_zero, List.set_cons_succ]
        refine wpAnyH_take (i := 12) (v := ?_) rfl (by kernel_rfl) (by kernel_rfl) (by kernel_rfl) (fun _ _ _ h => h) (Or.inl ⟨by kernel_rfl, ?_⟩) (by assumption) ?_
        rotate_left
        · (intro W hS;  go_simp; try (with_reducible rfl))
        refine (show wpAnyH Try.prog Region.Mode.any _ _ _ _ _ (Act.mk (Array.setIfInBounds (List.toArray _) _ _) _) _ from ?_)
        simp only [List.setIfInBounds_toArray, List.set_cons_zero, List.set_cons_succ]
        refine wpAnyH_take (i := 13) (v := ?_) rfl (by kernel_rfl) (by kernel_rfl) (by kernel_rfl) (fun _ _ _ h => h) (Or.inl ⟨by kernel_rfl, ?_⟩) (by assumption) ?_
        rotate_left
        · (intro W hS; have k0 := kcell hS y0; have k1 := kcell hS y1; have k2 := kcell hS y2; have k3 := kcell hS y3; have k4 := kcell hS y4; have k5 := kcell hS y5; have k6 := kcell hS y6; have k7 := kcell hS y7; have k8 := kcell hS y8; have k9 := kcell hS y9; have k10 := kcell hS y10; have k11 := kcell hS y11; go_simp; try (with_reducible rfl))
        refine (show wpAnyH Try.prog Region.Mode.any _ _ _ _ _ (Act.mk (Array.setIfInBounds (List.toArray _) _ _) _) _ from ?_)
        simp only [List.setIfInBounds_toArray, List.set_cons_zero, List.set_cons_succ]
        refine wpAnyH_take (i := 14) (v := ?_) rfl (by kernel_rfl) (by kernel_rfl) (by kernel_rfl) (fun _ _ _ h => h) (Or.inl ⟨by kernel_rfl, ?_⟩) (by assumption) ?_
        rotate_left
        · (intro W hS;  go_simp; try (with_reducible rfl))
        refine (show wpAnyH Try.prog Region.Mode.any _ _ _ _ _ (Act.mk (Array.setIfInBounds (List.toArray _) _ _) _) _ from ?_)
        simp only [List.setIfInBounds_toArray, List.set_cons_zero, List.set_cons_succ]
        refine wpAnyH_take (i := 15) (v := ?_) rfl (by kernel_rfl) (by kernel_rfl) (by kernel_rfl) (fun _ _ _ h => h) (Or.inl ⟨by kernel_rfl, ?_⟩) (by assumption) ?_
        rotate_left
        · (intro W hS;  go_simp; try (with_reducible rfl))
        refine (show wpAnyH Try.prog Region.Mode.any _ _ _ _ _ (Act.mk (Array.setIfInBounds (List.toArray _) _ _) _) _ from ?_)
        simp only [List.setIfInBounds_toArray, List.set_cons_zero, List.set_cons_succ]
        refine wpAnyH_take (i := 16) (v := ?_) rfl (by kernel_rfl) (by kernel_rfl) (by kernel_rfl) (fun _ _ _ h => h) (Or.inl ⟨by kernel_rfl, ?_⟩) (by assumption) ?_
        rotate_left
        · (intro W hS;  go_simp; try (with_reducible rfl))
        refine (show wpAnyH Try.prog Region.Mode.any _ _ _ _ _ (Act.mk (Array.setIfInBounds (List.toArray _) _ _) _) _ from ?_)
        simp only [List.setIfInBounds_toArray, List.set_cons_zero, List.set_cons_succ]
        refine wpAnyH_take (i := 17) (v := ?_) rfl (by kernel_rfl) (by kernel_rfl) (by kernel_rfl) (fun _ _ _ h => h) (Or.inl ⟨by kernel_rfl, ?_⟩) (by assumption) ?_
        rotate_left
        · (intro W hS; have cL := kcell hS cL6; go_simp; try (with_reducible rfl))
        refine (show wpAnyH Try.prog Region.Mode.any _ _ _ _ _ (Act.mk (Array.setIfInBounds (List.toArray _) _ _) _) _ from ?_)
        simp only [List.setIfInBounds_toArray, List.set_cons_zero, List.set_cons_succ]
        refine wpAnyH_ready (rs := [18]) (by kernel_rfl) (by simp) (AllReadyH.cons rfl (fun K hK => ?_) AllReadyH.nil)
        go_simp
        refine (HFT.out _).mono ?_
        rintro e wK ⟨rfl, hbK⟩
        go_wp2_with fail
        refine hK.out _ _ (bstep (by assumption) hbK) (fun hHeld => ?_)
        clear hK K
        refine wpAnyH_take (i := 19) (v := ?_) rfl (by kernel_rfl) (by kernel_rfl) (by kernel_rfl) (fun _ _ _ h => h) (Or.inl ⟨by kernel_rfl, ?_⟩) (by assumption) ?_
        rotate_left
        · (intro W hS;  go_simp; try (with_reducible rfl))
        refine (show wpAnyH Try.prog Region.Mode.any _ _ _ _ _ (Act.mk (Array.setIfInBounds (List.toArray _) _ _) _) _ from ?_)
        simp only [List.setIfInBounds_toArray, List.set_cons_zero, List.set_cons_succ]
        refine wpAnyH_take (i := 20) (v := ?_) rfl (by kernel_rfl) (by kernel_rfl) (by kernel_rfl) (fun _ _ _ h => h) (Or.inl ⟨by kernel_rfl, ?_⟩) (by assumption) ?_
        rotate_left
        · (intro W hS;  go_simp; try (with_reducible rfl))
        refine (show wpAnyH Try.prog Region.Mode.any _ _ _ _ _ (Act.mk (Array.setIfInBounds (List.toArray _) _ _) _) _ from ?_)
        simp only [List.setIfInBounds_toArray, List.set_cons_zero, List.set_cons_succ]
        refine wpAnyH_take (i := 21) (v := ?_) rfl (by kernel_rfl) (by kernel_rfl) (by kernel_rfl) (fun _ _ _ h => h) (Or.inl ⟨by kernel_rfl, ?_⟩) (by assumption) ?_
        rotate_left
        · (intro W hS;  go_simp; try (with_reducible rfl))
        refine (show wpAnyH Try.prog Region.Mode.any _ _ _ _ _ (Act.mk (Array.setIfInBounds (List.toArray _) _ _) _) _ from ?_)
        simp only [List.setIfInBounds_toArray, List.set_cons_zero, List.set_cons_succ]
        refine wpAnyH_take (i := 22) (v := ?_) rfl (by kernel_rfl) (by kernel_rfl) (by kernel_rfl) (fun _ _ _ h => h) (Or.inl ⟨by kernel_rfl, ?_⟩) (by assumption) ?_
        rotate_left
        · (intro W hS;  go_simp; try (with_reducible rfl))
        refine (show wpAnyH Try.prog Region.Mode.any _ _ _ _ _ (Act.mk (Array.setIfInBounds (List.toArray _) _ _) _) _ from ?_)
        simp only [List.setIfInBounds_toArray, List.set_cons_zero, List.set_cons_succ]
        refine wpAnyH_take (i := 23) (v := ?_) rfl (by kernel_rfl) (by kernel_rfl) (by kernel_rfl) (fun _ _ _ h => h) (Or.inl ⟨by kernel_rfl, ?_⟩) (by assumption) ?_
        rotate_left
        · (intro W hS;  go_simp; try (with_reducible rfl))
        refine (show wpAnyH Try.prog Region.Mode.any _ _ _ _ _ (Act.mk (Array.setIfInBounds (List.toArray _) _ _) _) _ from ?_)
        simp only [List.setIfInBounds_toArray, List.set_cons_zero, List.set_cons_succ]
        refine wpAnyH_take (i := 24) (v := ?_) rfl (by kernel_rfl) (by kernel_rfl) (by kernel_rfl) (fun _ _ _ h => h) (Or.inl ⟨by kernel_rfl, ?_⟩) (by assumption) ?_
        rotate_left
        · (intro W hS;  go_simp; try (with_reducible rfl))
        refine (show wpAnyH Try.prog Region.Mode.any _ _ _ _ _ (Act.mk (Array.setIfInBounds (List.toArray _) _ _) _) _ from ?_)
        simp only [List.setIfInBounds_toArray, List.set_cons_zero, List.set_cons_succ]
        refine wpAnyH_take (i := 25) (v := ?_) rfl (by kernel_rfl) (by kernel_rfl) (by kernel_rfl) (fun _ _ _ h => h) (Or.inl ⟨by kernel_rfl, ?_⟩) (by assumption) ?_
        rotate_left
        · (intro W hS; have cL := kcell hS cL6; go_simp; try (with_reducible rfl))
        refine (show wpAnyH Try.prog Region.Mode.any _ _ _ _ _ (Act.mk (Array.setIfInBounds (List.toArray _) _ _) _) _ from ?_)
        simp only [List.setIfInBounds_toArray, List.set_cons_zero, List.set_cons_succ]
        refine wpAnyH_take (i := 26) (v := ?_) rfl (by kernel_rfl) (by kernel_rfl) (by kernel_rfl) (fun _ _ _ h => h) (Or.inl ⟨by kernel_rfl, ?_⟩) (by assumption) ?_
        rotate_left
        · (intro W hS;  go_simp; try (with_reducible rfl))
        refine (show wpAnyH Try.prog Region.Mode.any _ _ _ _ _ (Act.mk (Array.setIfInBounds (List.toArray _) _ _) _) _ from ?_)
        simp only [List.setIfInBounds_toArray, List.set_cons_zero, List.set_cons_succ]
        refine wpAnyH_take (i := 27) (v := .bool true) rfl (by kernel_rfl) (by kernel_rfl) (by kernel_rfl) (fun _ _ _ h => h) (Or.inl ⟨by kernel_rfl, (by intro W hS; go_simp)⟩) (by assumption) ?_
        refine (show wpAnyH Try.prog Region.Mode.any _ _ _ _ _ (Act.mk (Array.setIfInBounds (List.toArray _) _ _) _) _ from ?_)
        simp only [List.setIfInBounds_toArray, List.set_cons_zero, List.set_cons_succ]
        refine wpAnyH_take (i := 28) (v := ?_) rfl (by kernel_rfl) (by kernel_rfl) (by kernel_rfl) (fun _ _ _ h => h) (Or.inl ⟨by kernel_rfl, ?_⟩) (by assumption) ?_
        rotate_left
        · (intro W hS;  go_simp; try (with_reducible rfl))
        refine (show wpAnyH Try.prog Region.Mode.any _ _ _ _ _ (Act.mk (Array.setIfInBounds (List.toArray _) _ _) _) _ from ?_)
        simp only [List.setIfInBounds_toArray, List.set_cons_zero, List.set_cons_succ]
        refine wpAnyH_take (i := 29) (v := ?_) rfl (by kernel_rfl) (by kernel_rfl) (by kernel_rfl) (fun _ _ _ h => h) (Or.inl ⟨by kernel_rfl, ?_⟩) (by assumption) ?_
        rotate_left
        · (intro W hS; have l0 := kcell hS x0; have l1 := kcell hS x1; have l2 := kcell hS x2; have l3 := kcell hS x3; have l4 := kcell hS x4; have l5 := kcell hS x5; have l6 := kcell hS x6; have l7 := kcell hS x7; have l8 := kcell hS x8; have l9 := kcell hS x9; have l10 := kcell hS x10; have l11 := kcell hS x11; go_simp; try (with_reducible rfl))
        refine (show wpAnyH Try.prog Region.Mode.any _ _ _ _ _ (Act.mk (Array.setIfInBounds (List.toArray _) _ _) _) _ from ?_)
        simp only [List.setIfInBounds_toArray, List.set_cons_zero, List.set_cons_succ]
        refine wpAnyH_take (i := 30) (v := ?_) rfl (by kernel_rfl) (by kernel_rfl) (by kernel_rfl) (fun _ _ _ h => h) (Or.inl ⟨by kernel_rfl, ?_⟩) (by assumption) ?_
        rotate_left
        · (intro W hS;  go_simp; try (with_reducible rfl))
        refine (show wpAnyH Try.prog Region.Mode.any _ _ _ _ _ (Act.mk (Array.setIfInBounds (List.toArray _) _ _) _) _ from ?_)
        simp only [List.setIfInBounds_toArray, List.set_cons_zero, List.set_cons_succ]
        refine wpAnyH_take (i := 31) (v := ?_) rfl (by kernel_rfl) (by kernel_rfl) (by kernel_rfl) (fun _ _ _ h => h) (Or.inl ⟨by kernel_rfl, ?_⟩) (by assumption) ?_
        rotate_left
        · (intro W hS;  go_simp; try (with_reducible rfl))
        refine (show wpAnyH Try.prog Region.Mode.any _ _ _ _ _ (Act.mk (Array.setIfInBounds (List.toArray _) _ _) _) _ from ?_)
        simp only [List.setIfInBounds_toArray, List.set_cons_zero, List.set_cons_succ]
        refine wpAnyH_take (i := 32) (v := ?_) rfl (by kernel_rfl) (by kernel_rfl) (by kernel_rfl) (fun _ _ _ h => h) (Or.inl ⟨by kernel_rfl, ?_⟩) (by assumption) ?_
        rotate_left
        · (intro W hS;  go_simp; try (with_reducible rfl))
        refine (show wpAnyH Try.prog Region.Mode.any _ _ _ _ _ (Act.mk (Array.setIfInBounds (List.toArray _) _ _) _) _ from ?_)
        simp only [List.setIfInBounds_toArray, List.set_cons_zero, List.set_cons_succ]
        refine wpAnyH_take (i := 33) (v := ?_) rfl (by kernel_rfl) (by kernel_rfl) (by kernel_rfl) (fun _ _ _ h => h) (Or.inl ⟨by kernel_rfl, ?_⟩) (by assumption) ?_
        rotate_left
        · (intro W hS; have cL := kcell hS cL6; go_simp; try (with_reducible rfl))
        refine (show wpAnyH Try.prog Region.Mode.any _ _ _ _ _ (Act.mk (Array.setIfInBounds (List.toArray _) _ _) _) _ from ?_)
        simp only [List.setIfInBounds_toArray, List.set_cons_zero, List.set_cons_succ]
        refine wpAnyH_take (i := 35) (v := ?_) rfl (by kernel_rfl) (by kernel_rfl) (by kernel_rfl) (fun _ _ _ h => h) (Or.inl ⟨by kernel_rfl, ?_⟩) (by assumption) ?_
        rotate_left
        · (intro W hS;  go_simp; try (with_reducible rfl))
        refine (show wpAnyH Try.prog Region.Mode.any _ _ _ _ _ (Act.mk (Array.setIfInBounds (List.toArray _) _ _) _) _ from ?_)
        simp only [List.setIfInBounds_toArray, List.set_cons_zero, List.set_cons_succ]
        refine wpAnyH_ready (rs := [34]) (by kernel_rfl) (by simp) (AllReadyH.cons rfl (fun K hK => ?_) AllReadyH.nil)
        go_simp
        refine (HAT.out _).mono ?_
        rintro e wK ⟨rfl, hbK⟩
        go_wp2_with fail
        refine hK.out _ _ (bstep (by assumption) hbK) (fun hHeld => ?_)
        clear hK K
        refine wpAnyH_take (i := 36) (v := ?_) rfl (by kernel_rfl) (by kernel_rfl) (by kernel_rfl) (fun _ _ _ h => h) (Or.inl ⟨by kernel_rfl, ?_⟩) (by assumption) ?_
        rotate_left
        · (intro W hS;  go_simp; try (with_reducible rfl))
        refine (show wpAnyH Try.prog Region.Mode.any _ _ _ _ _ (Act.mk (Array.setIfInBounds (List.toArray _) _ _) _) _ from ?_)
        simp only [List.setIfInBounds_toArray, List.set_cons_zero, List.set_cons_succ]
        refine wpAnyH_take (i := 37) (v := ?_) rfl (by kernel_rfl) (by kernel_rfl) (by kernel_rfl) (fun _ _ _ h => h) (Or.inl ⟨by kernel_rfl, ?_⟩) (by assumption) ?_
        rotate_left
        · (intro W hS;  go_simp; try (with_reducible rfl))
        refine (show wpAnyH Try.prog Region.Mode.any _ _ _ _ _ (Act.mk (Array.setIfInBounds (List.toArray _) _ _) _) _ from ?_)
        simp only [List.setIfInBounds_toArray, List.set_cons_zero, List.set_cons_succ]
        refine wpAnyH_take (i := 38) (v := ?_) rfl (by kernel_rfl) (by kernel_rfl) (by kernel_rfl) (fun _ _ _ h => h) (Or.inl ⟨by kernel_rfl, ?_⟩) (by assumption) ?_
        rotate_left
        · (intro W hS;  go_simp; try (with_reducible rfl))
        refine (show wpAnyH Try.prog Region.Mode.any _ _ _ _ _ (Act.mk (Array.setIfInBounds (List.toArray _) _ _) _) _ from ?_)
        simp only [List.setIfInBounds_toArray, List.set_cons_zero, List.set_cons_succ]
        refine wpAnyH_take (i := 39) (v := ?_) rfl (by kernel_rfl) (by kernel_rfl) (by kernel_rfl) (fun _ _ _ h => h) (Or.inl ⟨by kernel_rfl, ?_⟩) (by assumption) ?_
        rotate_left
        · (intro W hS;  go_simp; try (with_reducible rfl))
        refine (show wpAnyH Try.prog Region.Mode.any _ _ _ _ _ (Act.mk (Array.setIfInBounds (List.toArray _) _ _) _) _ from ?_)
        simp only [List.setIfInBounds_toArray, List.set_cons_zero, List.set_cons_succ]
        refine wpAnyH_take (i := 40) (v := ?_) rfl (by kernel_rfl) (by kernel_rfl) (by kernel_rfl) (fun _ _ _ h => h) (Or.inl ⟨by kernel_rfl, ?_⟩) (by assumption) ?_
        rotate_left
        · (intro W hS;  go_simp; try (with_reducible rfl))
        refine (show wpAnyH Try.prog Region.Mode.any _ _ _ _ _ (Act.mk (Array.setIfInBounds (List.toArray _) _ _) _) _ from ?_)
        simp only [List.setIfInBounds_toArray, List.set_cons_zero, List.set_cons_succ]
        refine wpAnyH_take (i := 41) (v := ?_) rfl (by kernel_rfl) (by kernel_rfl) (by kernel_rfl) (fun _ _ _ h => h) (Or.inl ⟨by kernel_rfl, ?_⟩) (by assumption) ?_
        rotate_left
        · (intro W hS;  go_simp; try (with_reducible rfl))
        refine (show wpAnyH Try.prog Region.Mode.any _ _ _ _ _ (Act.mk (Array.setIfInBounds (List.toArray _) _ _) _) _ from ?_)
        simp only [List.setIfInBounds_toArray, List.set_cons_zero, List.set_cons_succ]
        refine wpAnyH_take (i := 42) (v := ?_) rfl (by kernel_rfl) (by kernel_rfl) (by kernel_rfl) (fun _ _ _ h => h) (Or.inl ⟨by kernel_rfl, ?_⟩) (by assumption) ?_
        rotate_left
        · (intro W hS;  go_simp; try (with_reducible rfl))
        refine (show wpAnyH Try.prog Region.Mode.any _ _ _ _ _ (Act.mk (Array.setIfInBounds (List.toArray _) _ _) _) _ from ?_)
        simp only [List.setIfInBounds_toArray, List.set_cons_zero, List.set_cons_succ]
        refine wpAnyH_take (i := 43) (v := ?_) rfl (by kernel_rfl) (by kernel_rfl) (by kernel_rfl) (fun _ _ _ h => h) (Or.inl ⟨by kernel_rfl, ?_⟩) (by assumption) ?_
        rotate_left
        · (intro W hS; have cL := kcell hS cL6; go_simp; try (with_reducible rfl))
        refine (show wpAnyH Try.prog Region.Mode.any _ _ _ _ _ (Act.mk (Array.setIfInBounds (List.toArray _) _ _) _) _ from ?_)
        simp only [List.setIfInBounds_toArray, List.set_cons_zero, List.set_cons_succ]
        refine wpAnyH_take (i := 44) (v := ?_) rfl (by kernel_rfl) (by kernel_rfl) (by kernel_rfl) (fun _ _ _ h => h) (Or.inl ⟨by kernel_rfl, ?_⟩) (by assumption) ?_
        rotate_left
        · (intro W hS;  go_simp; try (with_reducible rfl))
        refine (show wpAnyH Try.prog Region.Mode.any _ _ _ _ _ (Act.mk (Array.setIfInBounds (List.toArray _) _ _) _) _ from ?_)
        simp only [List.setIfInBounds_toArray, List.set_cons_zero, List.set_cons_succ]
        refine wpAnyH_take (i := 45) (v := .bool false) rfl (by kernel_rfl) (by kernel_rfl) (by kernel_rfl) (fun _ _ _ h => h) (Or.inl ⟨by kernel_rfl, (by intro W hS; go_simp)⟩) (by assumption) ?_
        refine (show wpAnyH Try.prog Region.Mode.any _ _ _ _ _ (Act.mk (Array.setIfInBounds (List.toArray _) _ _) _) _ from ?_)
        simp only [List.setIfInBounds_toArray, List.set_cons_zero, List.set_cons_succ]
        refine wpAnyH_take (i := 46) (v := ?_) rfl (by kernel_rfl) (by kernel_rfl) (by kernel_rfl) (fun _ _ _ h => h) (Or.inl ⟨by kernel_rfl, ?_⟩) (by assumption) ?_
        rotate_left
        · (intro W hS;  go_simp; try (with_reducible rfl))
        refine (show wpAnyH Try.prog Region.Mode.any _ _ _ _ _ (Act.mk (Array.setIfInBounds (List.toArray _) _ _) _) _ from ?_)
        simp only [List.setIfInBounds_toArray, List.set_cons_zero, List.set_cons_succ]
        refine wpAnyH_take (i := 47) (v := undef) rfl (by kernel_rfl) (by kernel_rfl) (by kernel_rfl) (fun _ _ _ h => h) (Or.inr ⟨by kernel_rfl, rfl⟩) (by assumption) ?_
        refine (show wpAnyH Try.prog Region.Mode.any _ _ _ _ _ (Act.mk (Array.setIfInBounds (List.toArray _) _ _) _) _ from ?_)
        simp only [List.setIfInBounds_toArray, List.set_cons_zero, List.set_cons_succ]
        refine wpAnyH_take (i := 48) (v := undef) rfl (by kernel_rfl) (by kernel_rfl) (by kernel_rfl) (fun _ _ _ h => h) (Or.inr ⟨by kernel_rfl, rfl⟩) (by assumption) ?_
        refine (show wpAnyH Try.prog Region.Mode.any _ _ _ _ _ (Act.mk (Array.setIfInBounds (List.toArray _) _ _) _) _ from ?_)
        simp only [List.setIfInBounds_toArray, List.set_cons_zero, List.set_cons_succ]
        refine wpAnyH_take (i := 49) (v := undef) rfl (by kernel_rfl) (by kernel_rfl) (by kernel_rfl) (fun _ _ _ h => h) (Or.inr ⟨by kernel_rfl, rfl⟩) (by assumption) ?_
        refine (show wpAnyH Try.prog Region.Mode.any _ _ _ _ _ (Act.mk (Array.setIfInBounds (List.toArray _) _ _) _) _ from ?_)
        simp only [List.setIfInBounds_toArray, List.set_cons_zero, List.set_cons_succ]
        refine wpAnyH_take (i := 50) (v := undef) rfl (by kernel_rfl) (by kernel_rfl) (by kernel_rfl) (fun _ _ _ h => h) (Or.inr ⟨by kernel_rfl, rfl⟩) (by assumption) ?_
        refine (show wpAnyH Try.prog Region.Mode.any _ _ _ _ _ (Act.mk (Array.setIfInBounds (List.toArray _) _ _) _) _ from ?_)
        simp only [List.setIfInBounds_toArray, List.set_cons_zero, List.set_cons_succ]
        refine wpAnyH_take (i := 51) (v := undef) rfl (by kernel_rfl) (by kernel_rfl) (by kernel_rfl) (fun _ _ _ h => h) (Or.inr ⟨by kernel_rfl, rfl⟩) (by assumption) ?_
        refine (show wpAnyH Try.prog Region.Mode.any _ _ _ _ _ (Act.mk (Array.setIfInBounds (List.toArray _) _ _) _) _ from ?_)
        simp only [List.setIfInBounds_toArray, List.set_cons_zero, List.set_cons_succ]
        refine wpAnyH_take (i := 52) (v := undef) rfl (by kernel_rfl) (by kernel_rfl) (by kernel_rfl) (fun _ _ _ h => h) (Or.inr ⟨by kernel_rfl, rfl⟩) (by assumption) ?_
        refine (show wpAnyH Try.prog Region.Mode.any _ _ _ _ _ (Act.mk (Array.setIfInBounds (List.toArray _) _ _) _) _ from ?_)
        simp only [List.setIfInBounds_toArray, List.set_cons_zero, List.set_cons_succ]
        refine wpAnyH_take (i := 53) (v := undef) rfl (by kernel_rfl) (by kernel_rfl) (by kernel_rfl) (fun _ _ _ h => h) (Or.inr ⟨by kernel_rfl, rfl⟩) (by assumption) ?_
        refine (show wpAnyH Try.prog Region.Mode.any _ _ _ _ _ (Act.mk (Array.setIfInBounds (List.toArray _) _ _) _) _ from ?_)
        simp only [List.setIfInBounds_toArray, List.set_cons_zero, List.set_cons_succ]
        refine wpAnyH_take (i := 54) (v := undef) rfl (by kernel_rfl) (by kernel_rfl) (by kernel_rfl) (fun _ _ _ h => h) (Or.inr ⟨by kernel_rfl, rfl⟩) (by assumption) ?_
        refine (show wpAnyH Try.prog Region.Mode.any _ _ _ _ _ (Act.mk (Array.setIfInBounds (List.toArray _) _ _) _) _ from ?_)
        simp only [List.setIfInBounds_toArray, List.set_cons_zero, List.set_cons_succ]
        refine wpAnyH_take (i := 55) (v := ?_) rfl (by kernel_rfl) (by kernel_rfl) (by kernel_rfl) (fun _ _ _ h => h) (Or.inl ⟨by kernel_rfl, ?_⟩) (by assumption) ?_
        rotate_left
        · (intro W hS;  go_simp; try (with_reducible rfl))
        refine (show wpAnyH Try.prog Region.Mode.any _ _ _ _ _ (Act.mk (Array.setIfInBounds (List.toArray _) _ _) _) _ from ?_)
        simp only [List.setIfInBounds_toArray, List.set_cons_zero, List.set_cons_succ]
        refine wpAnyH_take (i := 56) (v := ?_) rfl (by kernel_rfl) (by kernel_rfl) (by kernel_rfl) (fun _ _ _ h => h) (Or.inl ⟨by kernel_rfl, ?_⟩) (by assumption) ?_
        rotate_left
        · (intro W hS;  go_simp; try (with_reducible rfl))
        refine (show wpAnyH Try.prog Region.Mode.any _ _ _ _ _ (Act.mk (Array.setIfInBounds (List.toArray _) _ _) _) _ from ?_)
        simp only [List.setIfInBounds_toArray, List.set_cons_zero, List.set_cons_succ]
        refine wpAnyH_done (by kernel_rfl) ?_ _
        have HBE := Lib.hid hHeld
        go_wp2_with fail
        go_roundw
        case rel => exact ⟨k + 1, by omega, by go_num, HBE⟩
        case measure => simp [intOf]; omega
      · have j2 : decide ((sn : Int) ≤ (n : Int)) = false := decide_eq_false (by omega)
        have j5 : decide (sn ≤ n) = false := decide_eq_false h1
        by_cases h2 : n < pn
        · have j3 : decide ((n : Int) < (pn : Int)) = true := decide_eq_true (by omega)
          have j6 : decide (n < pn) = true := decide_eq_true h2
          have j4 : decide (A ≤ X - r0) = false := decide_eq_false (by have := hQ2 h2; omega)
          clear hQ1 hQ2 h1 h2 hn36
          go_wp2_with fail
          refine wp_region_held_drew (S := fun w' => Below w6.heap.size w6 w') (by kernel_rfl) (Below.drew hbR) (fun hHeld => ?_)
          refine wpAnyH_take (i := 0) (v := ?_) rfl (by kernel_rfl) (by kernel_rfl) (by kernel_rfl) (fun _ _ _ h => h) (Or.inl ⟨by kernel_rfl, ?_⟩) (by assumption) ?_
          rotate_left
          · (intro W hS;  go_simp; try (with_reducible rfl))
          refine (show wpAnyH Try.prog Region.Mode.any _ _ _ _ _ (Act.mk (Array.setIfInBounds (List.toArray _) _ _) _) _ from ?_)
          simp only [List.setIfInBounds_toArray, List.set_cons_zero, List.set_cons_succ]
          refine wpAnyH_take (i := 1) (v := ?_) rfl (by kernel_rfl) (by kernel_rfl) (by kernel_rfl) (fun _ _ _ h => h) (Or.inl ⟨by kernel_rfl, ?_⟩) (by assumption) ?_
          rotate_left
          · (intro W hS;  go_simp; try (with_reducible rfl))
          refine (show wpAnyH Try.prog Region.Mode.any _ _ _ _ _ (Act.mk (Array.setIfInBounds (List.toArray _) _ _) _) _ from ?_)
          simp only [List.setIfInBounds_toArray, List.set_cons_zero, List.set_cons_succ]
          refine wpAnyH_take (i := 2) (v := ?_) rfl (by kernel_rfl) (by kernel_rfl) (by kernel_rfl) (fun _ _ _ h => h) (Or.inl ⟨by kernel_rfl, ?_⟩) (by assumption) ?_
          rotate_left
          · (intro W hS;  go_simp; try (with_reducible rfl))
          refine (show wpAnyH Try.prog Region.Mode.any _ _ _ _ _ (Act.mk (Array.setIfInBounds (List.toArray _) _ _) _) _ from ?_)
          simp only [List.setIfInBounds_toArray, List.set_cons_zero, List.set_cons_succ]
          refine wpAnyH_take (i := 3) (v := ?_) rfl (by kernel_rfl) (by kernel_rfl) (by kernel_rfl) (fun _ _ _ h => h) (Or.inl ⟨by kernel_rfl, ?_⟩) (by assumption) ?_
          rotate_left
          · (intro W hS; have cL := kcell hS cL6; go_simp; try (with_reducible rfl))
          refine (show wpAnyH Try.prog Region.Mode.any _ _ _ _ _ (Act.mk (Array.setIfInBounds (List.toArray _) _ _) _) _ from ?_)
          simp only [List.setIfInBounds_toArray, List.set_cons_zero, List.set_cons_succ]
          refine wpAnyH_take (i := 4) (v := ?_) rfl (by kernel_rfl) (by kernel_rfl) (by kernel_rfl) (fun _ _ _ h => h) (Or.inl ⟨by kernel_rfl, ?_⟩) (by assumption) ?_
          rotate_left
          · (intro W hS;  go_simp; try (with_reducible rfl))
          refine (show wpAnyH Try.prog Region.Mode.any _ _ _ _ _ (Act.mk (Array.setIfInBounds (List.toArray _) _ _) _) _ from ?_)
          simp only [List.setIfInBounds_toArray, List.set_cons_zero, List.set_cons_succ]
          refine wpAnyH_take (i := 5) (v := ?_) rfl (by kernel_rfl) (by kernel_rfl) (by kernel_rfl) (fun _ _ _ h => h) (Or.inl ⟨by kernel_rfl, ?_⟩) (by assumption) ?_
          rotate_left
          · (intro W hS;  go_simp; try (with_reducible rfl))
          refine (show wpAnyH Try.prog Region.Mode.any _ _ _ _ _ (Act.mk (Array.setIfInBounds (List.toArray _) _ _) _) _ from ?_)
          simp only [List.setIfInBounds_toArray, List.set_cons_zero, List.set_cons_succ]
          refine wpAnyH_take (i := 6) (v := ?_) rfl (by kernel_rfl) (by kernel_rfl) (by kernel_rfl) (fun _ _ _ h => h) (Or.inl ⟨by kernel_rfl, ?_⟩) (by assumption) ?_
          rotate_left
          · (intro W hS;  go_simp; try (with_reducible rfl))
          refine (show wpAnyH Try.prog Region.Mode.any _ _ _ _ _ (Act.mk (Array.setIfInBounds (List.toArray _) _ _) _) _ from ?_)
          simp only [List.setIfInBounds_toArray, List.set_cons_zero, List.set_cons_succ]
          refine wpAnyH_take (i := 7) (v := ?_) rfl (by kernel_rfl) (by kernel_rfl) (by kernel_rfl) (fun _ _ _ h => h) (Or.inl ⟨by kernel_rfl, ?_⟩) (by assumption) ?_
          rotate_left
          · (intro W hS;  go_simp; try (with_reducible rfl))
          refine (show wpAnyH Try.prog Region.Mode.any _ _ _ _ _ (Act.mk (Array.setIfInBounds (List.toArray _) _ _) _) _ from ?_)
          simp only [List.setIfInBounds_toArray, List.set_cons_zero, List.set_cons_succ]
          refine wpAnyH_take (i := 8) (v := ?_) rfl (by kernel_rfl) (by kernel_rfl) (by kernel_rfl) (fun _ _ _ h => h) (Or.inl ⟨by kernel_rfl, ?_⟩) (by assumption) ?_
          rotate_left
          · (intro W hS;  go_simp; try (with_reducible rfl))
          refine (show wpAnyH Try.prog Region.Mode.any _ _ _ _ _ (Act.mk (Array.setIfInBounds (List.toArray _) _ _) _) _ from ?_)
          simp only [List.setIfInBounds_toArray, List.set_cons_zero, List.set_cons_succ]
          refine wpAnyH_take (i := 9) (v := ?_) rfl (by kernel_rfl) (by kernel_rfl) (by kernel_rfl) (fun _ _ _ h => h) (Or.inl ⟨by kernel_rfl, ?_⟩) (by assumption) ?_
          rotate_left
          · (intro W hS; have cL := kcell hS cL6; go_simp; try (with_reducible rfl))
          refine (show wpAnyH Try.prog Region.Mode.any _ _ _ _ _ (Act.mk (Array.setIfInBounds (List.toArray _) _ _) _) _ from ?_)
          simp only [List.setIfInBounds_toArray, List.set_cons_zero, List.set_cons_succ]
          refine wpAnyH_take (i := 10) (v := ?_) rfl (by kernel_rfl) (by kernel_rfl) (by kernel_rfl) (fun _ _ _ h => h) (Or.inl ⟨by kernel_rfl, ?_⟩) (by assumption) ?_
          rotate_left
          · (intro W hS;  go_simp; try (with_reducible rfl))
          refine (show wpAnyH Try.prog Region.Mode.any _ _ _ _ _ (Act.mk (Array.setIfInBounds (List.toArray _) _ _) _) _ from ?_)
          simp only [List.setIfInBounds_toArray, List.set_cons_zero, List.set_cons_succ]
          refine wpAnyH_take (i := 11) (v := ?_) rfl (by kernel_rfl) (by kernel_rfl) (by kernel_rfl) (fun _ _ _ h => h) (Or.inl ⟨by kernel_rfl, ?_⟩) (by assumption) ?_
          rotate_left
          · (intro W hS;  go_simp; try (with_reducible rfl))
          refine (show wpAnyH Try.prog Region.Mode.any _ _ _ _ _ (Act.mk (Array.setIfInBounds (List.toArray _) _ _) _) _ from ?_)
          simp only [List.setIfInBounds_toArray, List.set_cons_zero, List.set_cons_succ]
          refine wpAnyH_take (i := 12) (v := ?_) rfl (by kernel_rfl) (by kernel_rfl) (by kernel_rfl) (fun _ _ _ h => h) (Or.inl ⟨by kernel_rfl, ?_⟩) (by assumption) ?_
          rotate_left
          · (intro W hS;  go_simp; try (with_reducible rfl))
          refine (show wpAnyH Try.prog Region.Mode.any _ _ _ _ _ (Act.mk (Array.setIfInBounds (List.toArray _) _ _) _) _ from ?_)
          simp only [List.setIfInBounds_toArray, List.set_cons_zero, List.set_cons_succ]
          refine wpAnyH_take (i := 13) (v := ?_) rfl (by kernel_rfl) (by kernel_rfl) (by kernel_rfl) (fun _ _ _ h => h) (Or.inl ⟨by kernel_rfl, ?_⟩) (by assumption) ?_
          rotate_left
          · (intro W hS; have k0 := kcell hS y0; have k1 := kcell hS y1; have k2 := kcell hS y2; have k3 := kcell hS y3; have k4 := kcell hS y4; have k5 := kcell hS y5; have k6 := kcell hS y6; have k7 := kcell hS y7; have k8 := kcell hS y8; have k9 := kcell hS y9; have k10 := kcell hS y10; have k11 := kcell hS y11; go_simp; try (with_reducible rfl))
          refine (show wpAnyH Try.prog Region.Mode.any _ _ _ _ _ (Act.mk (Array.setIfInBounds (List.toArray _) _ _) _) _ from ?_)
          simp only [List.setIfInBounds_toArray, List.set_cons_zero, List.set_cons_succ]
          refine wpAnyH_take (i := 14) (v := ?_) rfl (by kernel_rfl) (by kernel_rfl) (by kernel_rfl) (fun _ _ _ h => h) (Or.inl ⟨by kernel_rfl, ?_⟩) (by assumption) ?_
          rotate_left
          · (intro W hS;  go_simp; try (with_reducible rfl))
          refine (show wpAnyH Try.prog Region.Mode.any _ _ _ _ _ (Act.mk (Array.setIfInBounds (List.toArray _) _ _) _) _ from ?_)
          simp only [List.setIfInBounds_toArray, List.set_cons_zero, List.set_cons_succ]
          refine wpAnyH_take (i := 15) (v := ?_) rfl (by kernel_rfl) (by kernel_rfl) (by kernel_rfl) (fun _ _ _ h => h) (Or.inl ⟨by kernel_rfl, ?_⟩) (by assumption) ?_
          rotate_left
          · (intro W hS;  go_simp; try (with_reducible rfl))
          refine (show wpAnyH Try.prog Region.Mode.any _ _ _ _ _ (Act.mk (Array.setIfInBounds (List.toArray _) _ _) _) _ from ?_)
          simp only [List.setIfInBounds_toArray, List.set_cons_zero, List.set_cons_succ]
          refine wpAnyH_take (i := 16) (v := ?_) rfl (by kernel_rfl) (by kernel_rfl) (by kernel_rfl) (fun _ _ _ h => h) (Or.inl ⟨by kernel_rfl, ?_⟩) (by assumption) ?_
          rotate_left
          · (intro W hS;  go_simp; try (with_reducible rfl))
          refine (show wpAnyH Try.prog Region.Mode.any _ _ _ _ _ (Act.mk (Array.setIfInBounds (List.toArray _) _ _) _) _ from ?_)
          simp only [List.setIfInBounds_toArray, List.set_cons_zero, List.set_cons_succ]
          refine wpAnyH_take (i := 17) (v := ?_) rfl (by kernel_rfl) (by kernel_rfl) (by kernel_rfl) (fun _ _ _ h => h) (Or.inl ⟨by kernel_rfl, ?_⟩) (by assumption) ?_
          rotate_left
          · (intro W hS; have cL := kcell hS cL6; go_simp; try (with_reducible rfl))
          refine (show wpAnyH Try.prog Region.Mode.any _ _ _ _ _ (Act.mk (Array.setIfInBounds (List.toArray _) _ _) _) _ from ?_)
          simp only [List.setIfInBounds_toArray, List.set_cons_zero, List.set_cons_succ]
          refine wpAnyH_ready (rs := [18]) (by kernel_rfl) (by simp) (AllReadyH.cons rfl (fun K hK => ?_) AllReadyH.nil)
          go_simp
          refine (HFT.out _).mono ?_
          rintro e wK ⟨rfl, hbK⟩
          go_wp2_with fail
          refine hK.out _ _ (bstep (by assumption) hbK) (fun hHeld => ?_)
          clear hK K
          refine wpAnyH_take (i := 19) (v := ?_) rfl (by kernel_rfl) (by kernel_rfl) (by kernel_rfl) (fun _ _ _ h => h) (Or.inl ⟨by kernel_rfl, ?_⟩) (by assumption) ?_
          rotate_left
          · (intro W hS;  go_simp; try (with_reducible rfl))
          refine (show wpAnyH Try.prog Region.Mode.any _ _ _ _ _ (Act.mk (Array.setIfInBounds (List.toArray _) _ _) _) _ from ?_)
          simp only [List.setIfInBounds_toArray, List.set_cons_zero, List.set_cons_succ]
          refine wpAnyH_take (i := 20) (v := ?_) rfl (by kernel_rfl) (by kernel_rfl) (by kernel_rfl) (fun _ _ _ h => h) (Or.inl ⟨by kernel_rfl, ?_⟩) (by assumption) ?_
          rotate_left
          · (intro W hS;  go_simp; try (with_reducible rfl))
          refine (show wpAnyH Try.prog Region.Mode.any _ _ _ _ _ (Act.mk (Array.setIfInBounds (List.toArray _) _ _) _) _ from ?_)
          simp only [List.setIfInBounds_toArray, List.set_cons_zero, List.set_cons_succ]
          refine wpAnyH_take (i := 21) (v := ?_) rfl (by kernel_rfl) (by kernel_rfl) (by kernel_rfl) (fun _ _ _ h => h) (Or.inl ⟨by kernel_rfl, ?_⟩) (by assumption) ?_
          rotate_left
          · (intro W hS;  go_simp; try (with_reducible rfl))
          refine (show wpAnyH Try.prog Region.Mode.any _ _ _ _ _ (Act.mk (Array.setIfInBounds (List.toArray _) _ _) _) _ from ?_)
          simp only [List.setIfInBounds_toArray, List.set_cons_zero, List.set_cons_succ]
          refine wpAnyH_take (i := 22) (v := ?_) rfl (by kernel_rfl) (by kernel_rfl) (by kernel_rfl) (fun _ _ _ h => h) (Or.inl ⟨by kernel_rfl, ?_⟩) (by assumption) ?_
          rotate_left
          · (intro W hS;  go_simp; try (with_reducible rfl))
          refine (show wpAnyH Try.prog Region.Mode.any _ _ _ _ _ (Act.mk (Array.setIfInBounds (List.toArray _) _ _) _) _ from ?_)
          simp only [List.setIfInBounds_toArray, List.set_cons_zero, List.set_cons_succ]
          refine wpAnyH_take (i := 23) (v := ?_) rfl (by kernel_rfl) (by kernel_rfl) (by kernel_rfl) (fun _ _ _ h => h) (Or.inl ⟨by kernel_rfl, ?_⟩) (by assumption) ?_
          rotate_left
          · (intro W hS;  go_simp; try (with_reducible rfl))
          refine (show wpAnyH Try.prog Region.Mode.any _ _ _ _ _ (Act.mk (Array.setIfInBounds (List.toArray _) _ _) _) _ from ?_)
          simp only [List.setIfInBounds_toArray, List.set_cons_zero, List.set_cons_succ]
          refine wpAnyH_take (i := 24) (v := ?_) rfl (by kernel_rfl) (by kernel_rfl) (by kernel_rfl) (fun _ _ _ h => h) (Or.inl ⟨by kernel_rfl, ?_⟩) (by assumption) ?_
          rotate_left
          · (intro W hS;  go_simp; try (with_reducible rfl))
          refine (show wpAnyH Try.prog Region.Mode.any _ _ _ _ _ (Act.mk (Array.setIfInBounds (List.toArray _) _ _) _) _ from ?_)
          simp only [List.setIfInBounds_toArray, List.set_cons_zero, List.set_cons_succ]
          refine wpAnyH_take (i := 25) (v := ?_) rfl (by kernel_rfl) (by kernel_rfl) (by kernel_rfl) (fun _ _ _ h => h) (Or.inl ⟨by kernel_rfl, ?_⟩) (by assumption) ?_
          rotate_left
          · (intro W hS; have cL := kcell hS cL6; go_simp; try (with_reducible rfl))
          refine (show wpAnyH Try.prog Region.Mode.any _ _ _ _ _ (Act.mk (Array.setIfInBounds (List.toArray _) _ _) _) _ from ?_)
          simp only [List.setIfInBounds_toArray, List.set_cons_zero, List.set_cons_succ]
          refine wpAnyH_take (i := 26) (v := ?_) rfl (by kernel_rfl) (by kernel_rfl) (by kernel_rfl) (fun _ _ _ h => h) (Or.inl ⟨by kernel_rfl, ?_⟩) (by assumption) ?_
          rotate_left
          · (intro W hS;  go_simp; try (with_reducible rfl))
          refine (show wpAnyH Try.prog Region.Mode.any _ _ _ _ _ (Act.mk (Array.setIfInBounds (List.toArray _) _ _) _) _ from ?_)
          simp only [List.setIfInBounds_toArray, List.set_cons_zero, List.set_cons_succ]
          refine wpAnyH_take (i := 27) (v := .bool false) rfl (by kernel_rfl) (by kernel_rfl) (by kernel_rfl) (fun _ _ _ h => h) (Or.inl ⟨by kernel_rfl, (by intro W hS; go_simp)⟩) (by assumption) ?_
          refine (show wpAnyH Try.prog Region.Mode.any _ _ _ _ _ (Act.mk (Array.setIfInBounds (List.toArray _) _ _) _) _ from ?_)
          simp only [List.setIfInBounds_toArray, List.set_cons_zero, List.set_cons_succ]
          refine wpAnyH_take (i := 28) (v := ?_) rfl (by kernel_rfl) (by kernel_rfl) (by kernel_rfl) (fun _ _ _ h => h) (Or.inl ⟨by kernel_rfl, ?_⟩) (by assumption) ?_
          rotate_left
          · (intro W hS;  go_simp; try (with_reducible rfl))
          refine (show wpAnyH Try.prog Region.Mode.any _ _ _ _ _ (Act.mk (Array.setIfInBounds (List.toArray _) _ _) _) _ from ?_)
          simp only [List.setIfInBounds_toArray, List.set_cons_zero, List.set_cons_succ]
          refine wpAnyH_take (i := 29) (v := undef) rfl (by kernel_rfl) (by kernel_rfl) (by kernel_rfl) (fun _ _ _ h => h) (Or.inr ⟨by kernel_rfl, rfl⟩) (by assumption) ?_
          refine (show wpAnyH Try.prog Region.Mode.any _ _ _ _ _ (Act.mk (Array.setIfInBounds (List.toArray _) _ _) _) _ from ?_)
          simp only [List.setIfInBounds_toArray, List.set_cons_zero, List.set_cons_succ]
          refine wpAnyH_take (i := 30) (v := undef) rfl (by kernel_rfl) (by kernel_rfl) (by kernel_rfl) (fun _ _ _ h => h) (Or.inr ⟨by kernel_rfl, rfl⟩) (by assumption) ?_
          refine (show wpAnyH Try.prog Region.Mode.any _ _ _ _ _ (Act.mk (Array.setIfInBounds (List.toArray _) _ _) _) _ from ?_)
          simp only [List.setIfInBounds_toArray, List.set_cons_zero, List.set_cons_succ]
          refine wpAnyH_take (i := 31) (v := undef) rfl (by kernel_rfl) (by kernel_rfl) (by kernel_rfl) (fun _ _ _ h => h) (Or.inr ⟨by kernel_rfl, rfl⟩) (by assumption) ?_
          refine (show wpAnyH Try.prog Region.Mode.any _ _ _ _ _ (Act.mk (Array.setIfInBounds (List.toArray _) _ _) _) _ from ?_)
          simp only [List.setIfInBounds_toArray, List.set_cons_zero, List.set_cons_succ]
          refine wpAnyH_take (i := 32) (v := undef) rfl (by kernel_rfl) (by kernel_rfl) (by kernel_rfl) (fun _ _ _ h => h) (Or.inr ⟨by kernel_rfl, rfl⟩) (by assumption) ?_
          refine (show wpAnyH Try.prog Region.Mode.any _ _ _ _ _ (Act.mk (Array.setIfInBounds (List.toArray _) _ _) _) _ from ?_)
          simp only [List.setIfInBounds_toArray, List.set_cons_zero, List.set_cons_succ]
          refine wpAnyH_take (i := 33) (v := undef) rfl (by kernel_rfl) (by kernel_rfl) (by kernel_rfl) (fun _ _ _ h => h) (Or.inr ⟨by kernel_rfl, rfl⟩) (by assumption) ?_
          refine (show wpAnyH Try.prog Region.Mode.any _ _ _ _ _ (Act.mk (Array.setIfInBounds (List.toArray _) _ _) _) _ from ?_)
          simp only [List.setIfInBounds_toArray, List.set_cons_zero, List.set_cons_succ]
          refine wpAnyH_take (i := 34) (v := undef) rfl (by kernel_rfl) (by kernel_rfl) (by kernel_rfl) (fun _ _ _ h => h) (Or.inr ⟨by kernel_rfl, rfl⟩) (by assumption) ?_
          refine (show wpAnyH Try.prog Region.Mode.any _ _ _ _ _ (Act.mk (Array.setIfInBounds (List.toArray _) _ _) _) _ from ?_)
          simp only [List.setIfInBounds_toArray, List.set_cons_zero, List.set_cons_succ]
          refine wpAnyH_take (i := 35) (v := undef) rfl (by kernel_rfl) (by kernel_rfl) (by kernel_rfl) (fun _ _ _ h => h) (Or.inr ⟨by kernel_rfl, rfl⟩) (by assumption) ?_
          refine (show wpAnyH Try.prog Region.Mode.any _ _ _ _ _ (Act.mk (Array.setIfInBounds (List.toArray _) _ _) _) _ from ?_)
          simp only [List.setIfInBounds_toArray, List.set_cons_zero, List.set_cons_succ]
          refine wpAnyH_take (i := 36) (v := undef) rfl (by kernel_rfl) (by kernel_rfl) (by kernel_rfl) (fun _ _ _ h => h) (Or.inr ⟨by kernel_rfl, rfl⟩) (by assumption) ?_
          refine (show wpAnyH Try.prog Region.Mode.any _ _ _ _ _ (Act.mk (Array.setIfInBounds (List.toArray _) _ _) _) _ from ?_)
          simp only [List.setIfInBounds_toArray, List.set_cons_zero, List.set_cons_succ]
          refine wpAnyH_take (i := 37) (v := ?_) rfl (by kernel_rfl) (by kernel_rfl) (by kernel_rfl) (fun _ _ _ h => h) (Or.inl ⟨by kernel_rfl, ?_⟩) (by assumption) ?_
          rotate_left
          · (intro W hS;  go_simp; try (with_reducible rfl))
          refine (show wpAnyH Try.prog Region.Mode.any _ _ _ _ _ (Act.mk (Array.setIfInBounds (List.toArray _) _ _) _) _ from ?_)
          simp only [List.setIfInBounds_toArray, List.set_cons_zero, List.set_cons_succ]
          refine wpAnyH_take (i := 38) (v := ?_) rfl (by kernel_rfl) (by kernel_rfl) (by kernel_rfl) (fun _ _ _ h => h) (Or.inl ⟨by kernel_rfl, ?_⟩) (by assumption) ?_
          rotate_left
          · (intro W hS;  go_simp; try (with_reducible rfl))
          refine (show wpAnyH Try.prog Region.Mode.any _ _ _ _ _ (Act.mk (Array.setIfInBounds (List.toArray _) _ _) _) _ from ?_)
          simp only [List.setIfInBounds_toArray, List.set_cons_zero, List.set_cons_succ]
          refine wpAnyH_take (i := 39) (v := ?_) rfl (by kernel_rfl) (by kernel_rfl) (by kernel_rfl) (fun _ _ _ h => h) (Or.inl ⟨by kernel_rfl, ?_⟩) (by assumption) ?_
          rotate_left
          · (intro W hS;  go_simp; try (with_reducible rfl))
          refine (show wpAnyH Try.prog Region.Mode.any _ _ _ _ _ (Act.mk (Array.setIfInBounds (List.toArray _) _ _) _) _ from ?_)
          simp only [List.setIfInBounds_toArray, List.set_cons_zero, List.set_cons_succ]
          refine wpAnyH_take (i := 40) (v := ?_) rfl (by kernel_rfl) (by kernel_rfl) (by kernel_rfl) (fun _ _ _ h => h) (Or.inl ⟨by kernel_rfl, ?_⟩) (by assumption) ?_
          rotate_left
          · (intro W hS;  go_simp; try (with_reducible rfl))
          refine (show wpAnyH Try.prog Region.Mode.any _ _ _ _ _ (Act.mk (Array.setIfInBounds (List.toArray _) _ _) _) _ from ?_)
          simp only [List.setIfInBounds_toArray, List.set_cons_zero, List.set_cons_succ]
          refine wpAnyH_take (i := 41) (v := ?_) rfl (by kernel_rfl) (by kernel_rfl) (by kernel_rfl) (fun _ _ _ h => h) (Or.inl ⟨by kernel_rfl, ?_⟩) (by assumption) ?_
          rotate_left
          · (intro W hS;  go_simp; try (with_reducible rfl))
          refine (show wpAnyH Try.prog Region.Mode.any _ _ _ _ _ (Act.mk (Array.setIfInBounds (List.toArray _) _ _) _) _ from ?_)
          simp only [List.setIfInBounds_toArray, List.set_cons_zero, List.set_cons_succ]
          refine wpAnyH_take (i := 42) (v := ?_) rfl (by kernel_rfl) (by kernel_rfl) (by kernel_rfl) (fun _ _ _ h => h) (Or.inl ⟨by kernel_rfl, ?_⟩) (by assumption) ?_
          rotate_left
          · (intro W hS;  go_simp; try (with_reducible rfl))
          refine (show wpAnyH Try.prog Region.Mode.any _ _ _ _ _ (Act.mk (Array.setIfInBounds (List.toArray _) _ _) _) _ from ?_)
          simp only [List.setIfInBounds_toArray, List.set_cons_zero, List.set_cons_succ]
          refine wpAnyH_take (i := 43) (v := ?_) rfl (by kernel_rfl) (by kernel_rfl) (by kernel_rfl) (fun _ _ _ h => h) (Or.inl ⟨by kernel_rfl, ?_⟩) (by assumption) ?_
          rotate_left
          · (intro W hS; have cL := kcell hS cL6; go_simp; try (with_reducible rfl))
          refine (show wpAnyH Try.prog Region.Mode.any _ _ _ _ _ (Act.mk (Array.setIfInBounds (List.toArray _) _ _) _) _ from ?_)
          simp only [List.setIfInBounds_toArray, List.set_cons_zero, List.set_cons_succ]
          refine wpAnyH_take (i := 44) (v := ?_) rfl (by kernel_rfl) (by kernel_rfl) (by kernel_rfl) (fun _ _ _ h => h) (Or.inl ⟨by kernel_rfl, ?_⟩) (by assumption) ?_
          rotate_left
          · (intro W hS;  go_simp; try (with_reducible rfl))
          refine (show wpAnyH Try.prog Region.Mode.any _ _ _ _ _ (Act.mk (Array.setIfInBounds (List.toArray _) _ _) _) _ from ?_)
          simp only [List.setIfInBounds_toArray, List.set_cons_zero, List.set_cons_succ]
          refine wpAnyH_take (i := 45) (v := .bool true) rfl (by kernel_rfl) (by kernel_rfl) (by kernel_rfl) (fun _ _ _ h => h) (Or.inl ⟨by kernel_rfl, (by intro W hS; go_simp)⟩) (by assumption) ?_
          refine (show wpAnyH Try.prog Region.Mode.any _ _ _ _ _ (Act.mk (Array.setIfInBounds (List.toArray _) _ _) _) _ from ?_)
          simp only [List.setIfInBounds_toArray, List.set_cons_zero, List.set_cons_succ]
          refine wpAnyH_take (i := 46) (v := ?_) rfl (by kernel_rfl) (by kernel_rfl) (by kernel_rfl) (fun _ _ _ h => h) (Or.inl ⟨by kernel_rfl, ?_⟩) (by assumption) ?_
          rotate_left
          · (intro W hS;  go_simp; try (with_reducible rfl))
          refine (show wpAnyH Try.prog Region.Mode.any _ _ _ _ _ (Act.mk (Array.setIfInBounds (List.toArray _) _ _) _) _ from ?_)
          simp only [List.setIfInBounds_toArray, List.set_cons_zero, List.set_cons_succ]
          refine wpAnyH_take (i := 47) (v := ?_) rfl (by kernel_rfl) (by kernel_rfl) (by kernel_rfl) (fun _ _ _ h => h) (Or.inl ⟨by kernel_rfl, ?_⟩) (by assumption) ?_
          rotate_left
          · (intro W hS; have l0 := kcell hS x0; have l1 := kcell hS x1; have l2 := kcell hS x2; have l3 := kcell hS x3; have l4 := kcell hS x4; have l5 := kcell hS x5; have l6 := kcell hS x6; have l7 := kcell hS x7; have l8 := kcell hS x8; have l9 := kcell hS x9; have l10 := kcell hS x10; have l11 := kcell hS x11; go_simp; try (with_reducible rfl))
          refine (show wpAnyH Try.prog Region.Mode.any _ _ _ _ _ (Act.mk (Array.setIfInBounds (List.toArray _) _ _) _) _ from ?_)
          simp only [List.setIfInBounds_toArray, List.set_cons_zero, List.set_cons_succ]
          refine wpAnyH_take (i := 48) (v := ?_) rfl (by kernel_rfl) (by kernel_rfl) (by kernel_rfl) (fun _ _ _ h => h) (Or.inl ⟨by kernel_rfl, ?_⟩) (by assumption) ?_
          rotate_left
          · (intro W hS;  go_simp; try (with_reducible rfl))
          refine (show wpAnyH Try.prog Region.Mode.any _ _ _ _ _ (Act.mk (Array.setIfInBounds (List.toArray _) _ _) _) _ from ?_)
          simp only [List.setIfInBounds_toArray, List.set_cons_zero, List.set_cons_succ]
          refine wpAnyH_take (i := 49) (v := ?_) rfl (by kernel_rfl) (by kernel_rfl) (by kernel_rfl) (fun _ _ _ h => h) (Or.inl ⟨by kernel_rfl, ?_⟩) (by assumption) ?_
          rotate_left
          · (intro W hS;  go_simp; try (with_reducible rfl))
          refine (show wpAnyH Try.prog Region.Mode.any _ _ _ _ _ (Act.mk (Array.setIfInBounds (List.toArray _) _ _) _) _ from ?_)
          simp only [List.setIfInBounds_toArray, List.set_cons_zero, List.set_cons_succ]
          refine wpAnyH_take (i := 50) (v := ?_) rfl (by kernel_rfl) (by kernel_rfl) (by kernel_rfl) (fun _ _ _ h => h) (Or.inl ⟨by kernel_rfl, ?_⟩) (by assumption) ?_
          rotate_left
          · (intro W hS;  go_simp; try (with_reducible rfl))
          refine (show wpAnyH Try.prog Region.Mode.any _ _ _ _ _ (Act.mk (Array.setIfInBounds (List.toArray _) _ _) _) _ from ?_)
          simp only [List.setIfInBounds_toArray, List.set_cons_zero, List.set_cons_succ]
          refine wpAnyH_take (i := 51) (v := ?_) rfl (by kernel_rfl) (by kernel_rfl) (by kernel_rfl) (fun _ _ _ h => h) (Or.inl ⟨by kernel_rfl, ?_⟩) (by assumption) ?_
          rotate_left
          · (intro W hS; have cL := kcell hS cL6; go_simp; try (with_reducible rfl))
          refine (show wpAnyH Try.prog Region.Mode.any _ _ _ _ _ (Act.mk (Array.setIfInBounds (List.toArray _) _ _) _) _ from ?_)
          simp only [List.setIfInBounds_toArray, List.set_cons_zero, List.set_cons_succ]
          refine wpAnyH_take (i := 53) (v := ?_) rfl (by kernel_rfl) (by kernel_rfl) (by kernel_rfl) (fun _ _ _ h => h) (Or.inl ⟨by kernel_rfl, ?_⟩) (by assumption) ?_
          rotate_left
          · (intro W hS;  go_simp; try (with_reducible rfl))
          refine (show wpAnyH Try.prog Region.Mode.any _ _ _ _ _ (Act.mk (Array.setIfInBounds (List.toArray _) _ _) _) _ from ?_)
          simp only [List.setIfInBounds_toArray, List.set_cons_zero, List.set_cons_succ]
          refine wpAnyH_ready (rs := [52]) (by kernel_rfl) (by simp) (AllReadyH.cons rfl (fun K hK => ?_) AllReadyH.nil)
          go_simp
          refine (HAT.out _).mono ?_
          rintro e wK ⟨rfl, hbK⟩
          go_wp2_with fail
          refine hK.out _ _ (bstep (by assumption) hbK) (fun hHeld => ?_)
          clear hK K
          refine wpAnyH_take (i := 54) (v := ?_) rfl (by kernel_rfl) (by kernel_rfl) (by kernel_rfl) (fun _ _ _ h => h) (Or.inl ⟨by kernel_rfl, ?_⟩) (by assumption) ?_
          rotate_left
          · (intro W hS;  go_simp; try (with_reducible rfl))
          refine (show wpAnyH Try.prog Region.Mode.any _ _ _ _ _ (Act.mk (Array.setIfInBounds (List.toArray _) _ _) _) _ from ?_)
          simp only [List.setIfInBounds_toArray, List.set_cons_zero, List.set_cons_succ]
          refine wpAnyH_take (i := 55) (v := ?_) rfl (by kernel_rfl) (by kernel_rfl) (by kernel_rfl) (fun _ _ _ h => h) (Or.inl ⟨by kernel_rfl, ?_⟩) (by assumption) ?_
          rotate_left
          · (intro W hS;  go_simp; try (with_reducible rfl))
          refine (show wpAnyH Try.prog Region.Mode.any _ _ _ _ _ (Act.mk (Array.setIfInBounds (List.toArray _) _ _) _) _ from ?_)
          simp only [List.setIfInBounds_toArray, List.set_cons_zero, List.set_cons_succ]
          refine wpAnyH_take (i := 56) (v := ?_) rfl (by kernel_rfl) (by kernel_rfl) (by kernel_rfl) (fun _ _ _ h => h) (Or.inl ⟨by kernel_rfl, ?_⟩) (by assumption) ?_
          rotate_left
          · (intro W hS;  go_simp; try (with_reducible rfl))
          refine (show wpAnyH Try.prog Region.Mode.any _ _ _ _ _ (Act.mk (Array.setIfInBounds (List.toArray _) _ _) _) _ from ?_)
          simp only [List.setIfInBounds_toArray, List.set_cons_zero, List.set_cons_succ]
          refine wpAnyH_done (by kernel_rfl) ?_ _
          have HBE := Lib.hid hHeld
          go_wp2_with fail
          go_roundw
          case rel => exact ⟨k + 1, by omega, by go_num, HBE⟩
          case measure => simp [intOf]; omega
        · have j3 : decide ((n : Int) < (pn : Int)) = false := decide_eq_false (by omega)
          have j6 : decide (n < pn) = false := decide_eq_false h2
          clear hQ1 hQ2 h1 h2 hn36
          go_wp2_with fail
          refine wp_region_held_drew (S := fun w' => Below w6.heap.size w6 w') (by kernel_rfl) (Below.drew hbR) (fun hHeld => ?_)
          refine wpAnyH_take (i := 0) (v := ?_) rfl (by kernel_rfl) (by kernel_rfl) (by kernel_rfl) (fun _ _ _ h => h) (Or.inl ⟨by kernel_rfl, ?_⟩) (by assumption) ?_
          rotate_left
          · (intro W hS;  go_simp; try (with_reducible rfl))
          refine (show wpAnyH Try.prog Region.Mode.any _ _ _ _ _ (Act.mk (Array.setIfInBounds (List.toArray _) _ _) _) _ from ?_)
          simp only [List.setIfInBounds_toArray, List.set_cons_zero, List.set_cons_succ]
          refine wpAnyH_take (i := 1) (v := ?_) rfl (by kernel_rfl) (by kernel_rfl) (by kernel_rfl) (fun _ _ _ h => h) (Or.inl ⟨by kernel_rfl, ?_⟩) (by assumption) ?_
          rotate_left
          · (intro W hS;  go_simp; try (with_reducible rfl))
          refine (show wpAnyH Try.prog Region.Mode.any _ _ _ _ _ (Act.mk (Array.setIfInBounds (List.toArray _) _ _) _) _ from ?_)
          simp only [List.setIfInBounds_toArray, List.set_cons_zero, List.set_cons_succ]
          refine wpAnyH_take (i := 2) (v := ?_) rfl (by kernel_rfl) (by kernel_rfl) (by kernel_rfl) (fun _ _ _ h => h) (Or.inl ⟨by kernel_rfl, ?_⟩) (by assumption) ?_
          rotate_left
          · (intro W hS;  go_simp; try (with_reducible rfl))
          refine (show wpAnyH Try.prog Region.Mode.any _ _ _ _ _ (Act.mk (Array.setIfInBounds (List.toArray _) _ _) _) _ from ?_)
          simp only [List.setIfInBounds_toArray, List.set_cons_zero, List.set_cons_succ]
          refine wpAnyH_take (i := 3) (v := ?_) rfl (by kernel_rfl) (by kernel_rfl) (by kernel_rfl) (fun _ _ _ h => h) (Or.inl ⟨by kernel_rfl, ?_⟩) (by assumption) ?_
          rotate_left
          · (intro W hS; have cL := kcell hS cL6; go_simp; try (with_reducible rfl))
          refine (show wpAnyH Try.prog Region.Mode.any _ _ _ _ _ (Act.mk (Array.setIfInBounds (List.toArray _) _ _) _) _ from ?_)
          simp only [List.setIfInBounds_toArray, List.set_cons_zero, List.set_cons_succ]
          refine wpAnyH_take (i := 4) (v := ?_) rfl (by kernel_rfl) (by kernel_rfl) (by kernel_rfl) (fun _ _ _ h => h) (Or.inl ⟨by kernel_rfl, ?_⟩) (by assumption) ?_
          rotate_left
          · (intro W hS;  go_simp; try (with_reducible rfl))
          refine (show wpAnyH Try.prog Region.Mode.any _ _ _ _ _ (Act.mk (Array.setIfInBounds (List.toArray _) _ _) _) _ from ?_)
          simp only [List.setIfInBounds_toArray, List.set_cons_zero, List.set_cons_succ]
          refine wpAnyH_take (i := 5) (v := ?_) rfl (by kernel_rfl) (by kernel_rfl) (by kernel_rfl) (fun _ _ _ h => h) (Or.inl ⟨by kernel_rfl, ?_⟩) (by assumption) ?_
          rotate_left
          · (intro W hS;  go_simp; try (with_reducible rfl))
          refine (show wpAnyH Try.prog Region.Mode.any _ _ _ _ _ (Act.mk (Array.setIfInBounds (List.toArray _) _ _) _) _ from ?_)
          simp only [List.setIfInBounds_toArray, List.set_cons_zero, List.set_cons_succ]
          refine wpAnyH_take (i := 6) (v := ?_) rfl (by kernel_rfl) (by kernel_rfl) (by kernel_rfl) (fun _ _ _ h => h) (Or.inl ⟨by kernel_rfl, ?_⟩) (by assumption) ?_
          rotate_left
          · (intro W hS;  go_simp; try (with_reducible rfl))
          refine (show wpAnyH Try.prog Region.Mode.any _ _ _ _ _ (Act.mk (Array.setIfInBounds (List.toArray _) _ _) _) _ from ?_)
          simp only [List.setIfInBounds_toArray, List.set_cons_zero, List.set_cons_succ]
          refine wpAnyH_take (i := 7) (v := ?_) rfl (by kernel_rfl) (by kernel_rfl) (by kernel_rfl) (fun _ _ _ h => h) (Or.inl ⟨by kernel_rfl, ?_⟩) (by assumption) ?_
          rotate_left
          · (intro W hS;  go_simp; try (with_reducible rfl))
          refine (show wpAnyH Try.prog Region.Mode.any _ _ _ _ _ (Act.mk (Array.setIfInBounds (List.toArray _) _ _) _) _ from ?_)
          simp only [List.setIfInBounds_toArray, List.set_cons_zero, List.set_cons_succ]
          refine wpAnyH_take (i := 8) (v := ?_) rfl (by kernel_rfl) (by kernel_rfl) (by kernel_rfl) (fun _ _ _ h => h) (Or.inl ⟨by kernel_rfl, ?_⟩) (by assumption) ?_
          rotate_left
          · (intro W hS;  go_simp; try (with_reducible rfl))
          refine (show wpAnyH Try.prog Region.Mode.any _ _ _ _ _ (Act.mk (Array.setIfInBounds (List.toArray _) _ _) _) _ from ?_)
          simp only [List.setIfInBounds_toArray, List.set_cons_zero, List.set_cons_succ]
          refine wpAnyH_take (i := 9) (v := ?_) rfl (by kernel_rfl) (by kernel_rfl) (by kernel_rfl) (fun _ _ _ h => h) (Or.inl ⟨by kernel_rfl, ?_⟩) (by assumption) ?_
          rotate_left
          · (intro W hS; have cL := kcell hS cL6; go_simp; try (with_reducible rfl))
          refine (show wpAnyH Try.prog Region.Mode.any _ _ _ _ _ (Act.mk (Array.setIfInBounds (List.toArray _) _ _) _) _ from ?_)
          simp only [List.setIfInBounds_toArray, List.set_cons_zero, List.set_cons_succ]
          refine wpAnyH_take (i := 10) (v := ?_) rfl (by kernel_rfl) (by kernel_rfl) (by kernel_rfl) (fun _ _ _ h => h) (Or.inl ⟨by kernel_rfl, ?_⟩) (by assumption) ?_
          rotate_left
          · (intro W hS;  go_simp; try (with_reducible rfl))
          refine (show wpAnyH Try.prog Region.Mode.any _ _ _ _ _ (Act.mk (Array.setIfInBounds (List.toArray _) _ _) _) _ from ?_)
          simp only [List.setIfInBounds_toArray, List.set_cons_zero, List.set_cons_succ]
          refine wpAnyH_take (i := 11) (v := ?_) rfl (by kernel_rfl) (by kernel_rfl) (by kernel_rfl) (fun _ _ _ h => h) (Or.inl ⟨by kernel_rfl, ?_⟩) (by assumption) ?_
          rotate_left
          · (intro W hS;  go_simp; try (with_reducible rfl))
          refine (show wpAnyH Try.prog Region.Mode.any _ _ _ _ _ (Act.mk (Array.setIfInBounds (List.toArray _) _ _) _) _ from ?_)
          simp only [List.setIfInBounds_toArray, List.set_cons_zero, List.set_cons_succ]
          refine wpAnyH_take (i := 12) (v := ?_) rfl (by kernel_rfl) (by kernel_rfl) (by kernel_rfl) (fun _ _ _ h => h) (Or.inl ⟨by kernel_rfl, ?_⟩) (by assumption) ?_
          rotate_left
          · (intro W hS;  go_simp; try (with_reducible rfl))
          refine (show wpAnyH Try.prog Region.Mode.any _ _ _ _ _ (Act.mk (Array.setIfInBounds (List.toArray _) _ _) _) _ from ?_)
          simp only [List.setIfInBounds_toArray, List.set_cons_zero, List.set_cons_succ]
          refine wpAnyH_take (i := 13) (v := ?_) rfl (by kernel_rfl) (by kernel_rfl) (by kernel_rfl) (fun _ _ _ h => h) (Or.inl ⟨by kernel_rfl, ?_⟩) (by assumption) ?_
          rotate_left
          · (intro W hS; have k0 := kcell hS y0; have k1 := kcell hS y1; have k2 := kcell hS y2; have k3 := kcell hS y3; have k4 := kcell hS y4; have k5 := kcell hS y5; have k6 := kcell hS y6; have k7 := kcell hS y7; have k8 := kcell hS y8; have k9 := kcell hS y9; have k10 := kcell hS y10; have k11 := kcell hS y11; go_simp; try (with_reducible rfl))
          refine (show wpAnyH Try.prog Region.Mode.any _ _ _ _ _ (Act.mk (Array.setIfInBounds (List.toArray _) _ _) _) _ from ?_)
          simp only [List.setIfInBounds_toArray, List.set_cons_zero, List.set_cons_succ]
          refine wpAnyH_take (i := 14) (v := ?_) rfl (by kernel_rfl) (by kernel_rfl) (by kernel_rfl) (fun _ _ _ h => h) (Or.inl ⟨by kernel_rfl, ?_⟩) (by assumption) ?_
          rotate_left
          · (intro W hS;  go_simp; try (with_reducible rfl))
          refine (show wpAnyH Try.prog Region.Mode.any _ _ _ _ _ (Act.mk (Array.setIfInBounds (List.toArray _) _ _) _) _ from ?_)
          simp only [List.setIfInBounds_toArray, List.set_cons_zero, List.set_cons_succ]
          refine wpAnyH_take (i := 15) (v := ?_) rfl (by kernel_rfl) (by kernel_rfl) (by kernel_rfl) (fun _ _ _ h => h) (Or.inl ⟨by kernel_rfl, ?_⟩) (by assumption) ?_
          rotate_left
          · (intro W hS;  go_simp; try (with_reducible rfl))
          refine (show wpAnyH Try.prog Region.Mode.any _ _ _ _ _ (Act.mk (Array.setIfInBounds (List.toArray _) _ _) _) _ from ?_)
          simp only [List.setIfInBounds_toArray, List.set_cons_zero, List.set_cons_succ]
          refine wpAnyH_take (i := 16) (v := ?_) rfl (by kernel_rfl) (by kernel_rfl) (by kernel_rfl) (fun _ _ _ h => h) (Or.inl ⟨by kernel_rfl, ?_⟩) (by assumption) ?_
          rotate_left
          · (intro W hS;  go_simp; try (with_reducible rfl))
          refine (show wpAnyH Try.prog Region.Mode.any _ _ _ _ _ (Act.mk (Array.setIfInBounds (List.toArray _) _ _) _) _ from ?_)
          simp only [List.setIfInBounds_toArray, List.set_cons_zero, List.set_cons_succ]
          refine wpAnyH_take (i := 17) (v := ?_) rfl (by kernel_rfl) (by kernel_rfl) (by kernel_rfl) (fun _ _ _ h => h) (Or.inl ⟨by kernel_rfl, ?_⟩) (by assumption) ?_
          rotate_left
          · (intro W hS; have cL := kcell hS cL6; go_simp; try (with_reducible rfl))
          refine (show wpAnyH Try.prog Region.Mode.any _ _ _ _ _ (Act.mk (Array.setIfInBounds (List.toArray _) _ _) _) _ from ?_)
          simp only [List.setIfInBounds_toArray, List.set_cons_zero, List.set_cons_succ]
          refine wpAnyH_ready (rs := [18]) (by kernel_rfl) (by simp) (AllReadyH.cons rfl (fun K hK => ?_) AllReadyH.nil)
          go_simp
          refine (HFT.out _).mono ?_
          rintro e wK ⟨rfl, hbK⟩
          go_wp2_with fail
          refine hK.out _ _ (bstep (by assumption) hbK) (fun hHeld => ?_)
          clear hK K
          refine wpAnyH_take (i := 19) (v := ?_) rfl (by kernel_rfl) (by kernel_rfl) (by kernel_rfl) (fun _ _ _ h => h) (Or.inl ⟨by kernel_rfl, ?_⟩) (by assumption) ?_
          rotate_left
          · (intro W hS;  go_simp; try (with_reducible rfl))
          refine (show wpAnyH Try.prog Region.Mode.any _ _ _ _ _ (Act.mk (Array.setIfInBounds (List.toArray _) _ _) _) _ from ?_)
          simp only [List.setIfInBounds_toArray, List.set_cons_zero, List.set_cons_succ]
          refine wpAnyH_take (i := 20) (v := ?_) rfl (by kernel_rfl) (by kernel_rfl) (by kernel_rfl) (fun _ _ _ h => h) (Or.inl ⟨by kernel_rfl, ?_⟩) (by assumption) ?_
          rotate_left
          · (intro W hS;  go_simp; try (with_reducible rfl))
          refine (show wpAnyH Try.prog Region.Mode.any _ _ _ _ _ (Act.mk (Array.setIfInBounds (List.toArray _) _ _) _) _ from ?_)
          simp only [List.setIfInBounds_toArray, List.set_cons_zero, List.set_cons_succ]
          refine wpAnyH_take (i := 21) (v := ?_) rfl (by kernel_rfl) (by kernel_rfl) (by kernel_rfl) (fun _ _ _ h => h) (Or.inl ⟨by kernel_rfl, ?_⟩) (by assumption) ?_
          rotate_left
          · (intro W hS;  go_simp; try (with_reducible rfl))
          refine (show wpAnyH Try.prog Region.Mode.any _ _ _ _ _ (Act.mk (Array.setIfInBounds (List.toArray _) _ _) _) _ from ?_)
          simp only [List.setIfInBounds_toArray, List.set_cons_zero, List.set_cons_succ]
          refine wpAnyH_take (i := 22) (v := ?_) rfl (by kernel_rfl) (by kernel_rfl) (by kernel_rfl) (fun _ _ _ h => h) (Or.inl ⟨by kernel_rfl, ?_⟩) (by assumption) ?_
          rotate_left
          · (intro W hS;  go_simp; try (with_reducible rfl))
          refine (show wpAnyH Try.prog Region.Mode.any _ _ _ _ _ (Act.mk (Array.setIfInBounds (List.toArray _) _ _) _) _ from ?_)
          simp only [List.setIfInBounds_toArray, List.set_cons_zero, List.set_cons_succ]
          refine wpAnyH_take (i := 23) (v := ?_) rfl (by kernel_rfl) (by kernel_rfl) (by kernel_rfl) (fun _ _ _ h => h) (Or.inl ⟨by kernel_rfl, ?_⟩) (by assumption) ?_
          rotate_left
          · (intro W hS;  go_simp; try (with_reducible rfl))
          refine (show wpAnyH Try.prog Region.Mode.any _ _ _ _ _ (Act.mk (Array.setIfInBounds (List.toArray _) _ _) _) _ from ?_)
          simp only [List.setIfInBounds_toArray, List.set_cons_zero, List.set_cons_succ]
          refine wpAnyH_take (i := 24) (v := ?_) rfl (by kernel_rfl) (by kernel_rfl) (by kernel_rfl) (fun _ _ _ h => h) (Or.inl ⟨by kernel_rfl, ?_⟩) (by assumption) ?_
          rotate_left
          · (intro W hS;  go_simp; try (with_reducible rfl))
          refine (show wpAnyH Try.prog Region.Mode.any _ _ _ _ _ (Act.mk (Array.setIfInBounds (List.toArray _) _ _) _) _ from ?_)
          simp only [List.setIfInBounds_toArray, List.set_cons_zero, List.set_cons_succ]
          refine wpAnyH_take (i := 25) (v := ?_) rfl (by kernel_rfl) (by kernel_rfl) (by kernel_rfl) (fun _ _ _ h => h) (Or.inl ⟨by kernel_rfl, ?_⟩) (by assumption) ?_
          rotate_left
          · (intro W hS; have cL := kcell hS cL6; go_simp; try (with_reducible rfl))
          refine (show wpAnyH Try.prog Region.Mode.any _ _ _ _ _ (Act.mk (Array.setIfInBounds (List.toArray _) _ _) _) _ from ?_)
          simp only [List.setIfInBounds_toArray, List.set_cons_zero, List.set_cons_succ]
          refine wpAnyH_take (i := 26) (v := ?_) rfl (by kernel_rfl) (by kernel_rfl) (by kernel_rfl) (fun _ _ _ h => h) (Or.inl ⟨by kernel_rfl, ?_⟩) (by assumption) ?_
          rotate_left
          · (intro W hS;  go_simp; try (with_reducible rfl))
          refine (show wpAnyH Try.prog Region.Mode.any _ _ _ _ _ (Act.mk (Array.setIfInBounds (List.toArray _) _ _) _) _ from ?_)
          simp only [List.setIfInBounds_toArray, List.set_cons_zero, List.set_cons_succ]
          refine wpAnyH_take (i := 27) (v := .bool false) rfl (by kernel_rfl) (by kernel_rfl) (by kernel_rfl) (fun _ _ _ h => h) (Or.inl ⟨by kernel_rfl, (by intro W hS; go_simp)⟩) (by assumption) ?_
          refine (show wpAnyH Try.prog Region.Mode.any _ _ _ _ _ (Act.mk (Array.setIfInBounds (List.toArray _) _ _) _) _ from ?_)
          simp only [List.setIfInBounds_toArray, List.set_cons_zero, List.set_cons_succ]
          refine wpAnyH_take (i := 28) (v := ?_) rfl (by kernel_rfl) (by kernel_rfl) (by kernel_rfl) (fun _ _ _ h => h) (Or.inl ⟨by kernel_rfl, ?_⟩) (by assumption) ?_
          rotate_left
          · (intro W hS;  go_simp; try (with_reducible rfl))
          refine (show wpAnyH Try.prog Region.Mode.any _ _ _ _ _ (Act.mk (Array.setIfInBounds (List.toArray _) _ _) _) _ from ?_)
          simp only [List.setIfInBounds_toArray, List.set_cons_zero, List.set_cons_succ]
          refine wpAnyH_take (i := 29) (v := undef) rfl (by kernel_rfl) (by kernel_rfl) (by kernel_rfl) (fun _ _ _ h => h) (Or.inr ⟨by kernel_rfl, rfl⟩) (by assumption) ?_
          refine (show wpAnyH Try.prog Region.Mode.any _ _ _ _ _ (Act.mk (Array.setIfInBounds (List.toArray _) _ _) _) _ from ?_)
          simp only [List.setIfInBounds_toArray, List.set_cons_zero, List.set_cons_succ]
          refine wpAnyH_take (i := 30) (v := undef) rfl (by kernel_rfl) (by kernel_rfl) (by kernel_rfl) (fun _ _ _ h => h) (Or.inr ⟨by kernel_rfl, rfl⟩) (by assumption) ?_
          refine (show wpAnyH Try.prog Region.Mode.any _ _ _ _ _ (Act.mk (Array.setIfInBounds (List.toArray _) _ _) _) _ from ?_)
          simp only [List.setIfInBounds_toArray, List.set_cons_zero, List.set_cons_succ]
          refine wpAnyH_take (i := 31) (v := undef) rfl (by kernel_rfl) (by kernel_rfl) (by kernel_rfl) (fun _ _ _ h => h) (Or.inr ⟨by kernel_rfl, rfl⟩) (by assumption) ?_
          refine (show wpAnyH Try.prog Region.Mode.any _ _ _ _ _ (Act.mk (Array.setIfInBounds (List.toArray _) _ _) _) _ from ?_)
          simp only [List.setIfInBounds_toArray, List.set_cons_zero, List.set_cons_succ]
          refine wpAnyH_take (i := 32) (v := undef) rfl (by kernel_rfl) (by kernel_rfl) (by kernel_rfl) (fun _ _ _ h => h) (Or.inr ⟨by kernel_rfl, rfl⟩) (by assumption) ?_
          refine (show wpAnyH Try.prog Region.Mode.any _ _ _ _ _ (Act.mk (Array.setIfInBounds (List.toArray _) _ _) _) _ from ?_)
          simp only [List.setIfInBounds_toArray, List.set_cons_zero, List.set_cons_succ]
          refine wpAnyH_take (i := 33) (v := undef) rfl (by kernel_rfl) (by kernel_rfl) (by kernel_rfl) (fun _ _ _ h => h) (Or.inr ⟨by kernel_rfl, rfl⟩) (by assumption) ?_
          refine (show wpAnyH Try.prog Region.Mode.any _ _ _ _ _ (Act.mk (Array.setIfInBounds (List.toArray _) _ _) _) _ from ?_)
          simp only [List.setIfInBounds_toArray, List.set_cons_zero, List.set_cons_succ]
          refine wpAnyH_take (i := 34) (v := undef) rfl (by kernel_rfl) (by kernel_rfl) (by kernel_rfl) (fun _ _ _ h => h) (Or.inr ⟨by kernel_rfl, rfl⟩) (by assumption) ?_
          refine (show wpAnyH Try.prog Region.Mode.any _ _ _ _ _ (Act.mk (Array.setIfInBounds (List.toArray _) _ _) _) _ from ?_)
          simp only [List.setIfInBounds_toArray, List.set_cons_zero, List.set_cons_succ]
          refine wpAnyH_take (i := 35) (v := undef) rfl (by kernel_rfl) (by kernel_rfl) (by kernel_rfl) (fun _ _ _ h => h) (Or.inr ⟨by kernel_rfl, rfl⟩) (by assumption) ?_
          refine (show wpAnyH Try.prog Region.Mode.any _ _ _ _ _ (Act.mk (Array.setIfInBounds (List.toArray _) _ _) _) _ from ?_)
          simp only [List.setIfInBounds_toArray, List.set_cons_zero, List.set_cons_succ]
          refine wpAnyH_take (i := 36) (v := undef) rfl (by kernel_rfl) (by kernel_rfl) (by kernel_rfl) (fun _ _ _ h => h) (Or.inr ⟨by kernel_rfl, rfl⟩) (by assumption) ?_
          refine (show wpAnyH Try.prog Region.Mode.any _ _ _ _ _ (Act.mk (Array.setIfInBounds (List.toArray _) _ _) _) _ from ?_)
          simp only [List.setIfInBounds_toArray, List.set_cons_zero, List.set_cons_succ]
          refine wpAnyH_take (i := 37) (v := ?_) rfl (by kernel_rfl) (by kernel_rfl) (by kernel_rfl) (fun _ _ _ h => h) (Or.inl ⟨by kernel_rfl, ?_⟩) (by assumption) ?_
          rotate_left
          · (intro W hS;  go_simp; try (with_reducible rfl))
          refine (show wpAnyH Try.prog Region.Mode.any _ _ _ _ _ (Act.mk (Array.setIfInBounds (List.toArray _) _ _) _) _ from ?_)
          simp only [List.setIfInBounds_toArray, List.set_cons_zero, List.set_cons_succ]
          refine wpAnyH_take (i := 38) (v := ?_) rfl (by kernel_rfl) (by kernel_rfl) (by kernel_rfl) (fun _ _ _ h => h) (Or.inl ⟨by kernel_rfl, ?_⟩) (by assumption) ?_
          rotate_left
          · (intro W hS;  go_simp; try (with_reducible rfl))
          refine (show wpAnyH Try.prog Region.Mode.any _ _ _ _ _ (Act.mk (Array.setIfInBounds (List.toArray _) _ _) _) _ from ?_)
          simp only [List.setIfInBounds_toArray, List.set_cons_zero, List.set_cons_succ]
          refine wpAnyH_take (i := 39) (v := ?_) rfl (by kernel_rfl) (by kernel_rfl) (by kernel_rfl) (fun _ _ _ h => h) (Or.inl ⟨by kernel_rfl, ?_⟩) (by assumption) ?_
          rotate_left
          · (intro W hS;  go_simp; try (with_reducible rfl))
          refine (show wpAnyH Try.prog Region.Mode.any _ _ _ _ _ (Act.mk (Array.setIfInBounds (List.toArray _) _ _) _) _ from ?_)
          simp only [List.setIfInBounds_toArray, List.set_cons_zero, List.set_cons_succ]
          refine wpAnyH_take (i := 40) (v := ?_) rfl (by kernel_rfl) (by kernel_rfl) (by kernel_rfl) (fun _ _ _ h => h) (Or.inl ⟨by kernel_rfl, ?_⟩) (by assumption) ?_
          rotate_left
          · (intro W hS;  go_simp; try (with_reducible rfl))
          refine (show wpAnyH Try.prog Region.Mode.any _ _ _ _ _ (Act.mk (Array.setIfInBounds (List.toArray _) _ _) _) _ from ?_)
          simp only [List.setIfInBounds_toArray, List.set_cons_zero, List.set_cons_succ]
          refine wpAnyH_take (i := 41) (v := ?_) rfl (by kernel_rfl) (by kernel_rfl) (by kernel_rfl) (fun _ _ _ h => h) (Or.inl ⟨by kernel_rfl, ?_⟩) (by assumption) ?_
          rotate_left
          · (intro W hS;  go_simp; try (with_reducible rfl))
          refine (show wpAnyH Try.prog Region.Mode.any _ _ _ _ _ (Act.mk (Array.setIfInBounds (List.toArray _) _ _) _) _ from ?_)
          simp only [List.setIfInBounds_toArray, List.set_cons_zero, List.set_cons_succ]
          refine wpAnyH_take (i := 42) (v := ?_) rfl (by kernel_rfl) (by kernel_rfl) (by kernel_rfl) (fun _ _ _ h => h) (Or.inl ⟨by kernel_rfl, ?_⟩) (by assumption) ?_
          rotate_left
          · (intro W hS;  go_simp; try (with_reducible rfl))
          refine (show wpAnyH Try.prog Region.Mode.any _ _ _ _ _ (Act.mk (Array.setIfInBounds (List.toArray _) _ _) _) _ from ?_)
          simp only [List.setIfInBounds_toArray, List.set_cons_zero, List.set_cons_succ]
          refine wpAnyH_take (i := 43) (v := ?_) rfl (by kernel_rfl) (by kernel_rfl) (by kernel_rfl) (fun _ _ _ h => h) (Or.inl ⟨by kernel_rfl, ?_⟩) (by assumption) ?_
          rotate_left
          · (intro W hS; have cL := kcell hS cL6; go_simp; try (with_reducible rfl))
          refine (show wpAnyH Try.prog Region.Mode.any _ _ _ _ _ (Act.mk (Array.setIfInBounds (List.toArray _) _ _) _) _ from ?_)
          simp only [List.setIfInBounds_toArray, List.set_cons_zero, List.set_cons_succ]
          refine wpAnyH_take (i := 44) (v := ?_) rfl (by kernel_rfl) (by kernel_rfl) (by kernel_rfl) (fun _ _ _ h => h) (Or.inl ⟨by kernel_rfl, ?_⟩) (by assumption) ?_
          rotate_left
          · (intro W hS;  go_simp; try (with_reducible rfl))
          refine (show wpAnyH Try.prog Region.Mode.any _ _ _ _ _ (Act.mk (Array.setIfInBounds (List.toArray _) _ _) _) _ from ?_)
          simp only [List.setIfInBounds_toArray, List.set_cons_zero, List.set_cons_succ]
          refine wpAnyH_take (i := 45) (v := .bool false) rfl (by kernel_rfl) (by kernel_rfl) (by kernel_rfl) (fun _ _ _ h => h) (Or.inl ⟨by kernel_rfl, (by intro W hS; go_simp)⟩) (by assumption) ?_
          refine (show wpAnyH Try.prog Region.Mode.any _ _ _ _ _ (Act.mk (Array.setIfInBounds (List.toArray _) _ _) _) _ from ?_)
          simp only [List.setIfInBounds_toArray, List.set_cons_zero, List.set_cons_succ]
          refine wpAnyH_take (i := 46) (v := ?_) rfl (by kernel_rfl) (by kernel_rfl) (by kernel_rfl) (fun _ _ _ h => h) (Or.inl ⟨by kernel_rfl, ?_⟩) (by assumption) ?_
          rotate_left
          · (intro W hS;  go_simp; try (with_reducible rfl))
          refine (show wpAnyH Try.prog Region.Mode.any _ _ _ _ _ (Act.mk (Array.setIfInBounds (List.toArray _) _ _) _) _ from ?_)
          simp only [List.setIfInBounds_toArray, List.set_cons_zero, List.set_cons_succ]
          refine wpAnyH_take (i := 47) (v := undef) rfl (by kernel_rfl) (by kernel_rfl) (by kernel_rfl) (fun _ _ _ h => h) (Or.inr ⟨by kernel_rfl, rfl⟩) (by assumption) ?_
          refine (show wpAnyH Try.prog Region.Mode.any _ _ _ _ _ (Act.mk (Array.setIfInBounds (List.toArray _) _ _) _) _ from ?_)
          simp only [List.setIfInBounds_toArray, List.set_cons_zero, List.set_cons_succ]
          refine wpAnyH_take (i := 48) (v := undef) rfl (by kernel_rfl) (by kernel_rfl) (by kernel_rfl) (fun _ _ _ h => h) (Or.inr ⟨by kernel_rfl, rfl⟩) (by assumption) ?_
          refine (show wpAnyH Try.prog Region.Mode.any _ _ _ _ _ (Act.mk (Array.setIfInBounds (List.toArray _) _ _) _) _ from ?_)
          simp only [List.setIfInBounds_toArray, List.set_cons_zero, List.set_cons_succ]
          refine wpAnyH_take (i := 49) (v := undef) rfl (by kernel_rfl) (by kernel_rfl) (by kernel_rfl) (fun _ _ _ h => h) (Or.inr ⟨by kernel_rfl, rfl⟩) (by assumption) ?_
          refine (show wpAnyH Try.prog Region.Mode.any _ _ _ _ _ (Act.mk (Array.setIfInBounds (List.toArray _) _ _) _) _ from ?_)
          simp only [List.setIfInBounds_toArray, List.set_cons_zero, List.set_cons_succ]
          refine wpAnyH_take (i := 50) (v := undef) rfl (by kernel_rfl) (by kernel_rfl) (by kernel_rfl) (fun _ _ _ h => h) (Or.inr ⟨by kernel_rfl, rfl⟩) (by assumption) ?_
          refine (show wpAnyH Try.prog Region.Mode.any _ _ _ _ _ (Act.mk (Array.setIfInBounds (List.toArray _) _ _) _) _ from ?_)
          simp only [List.setIfInBounds_toArray, List.set_cons_zero, List.set_cons_succ]
          refine wpAnyH_take (i := 51) (v := undef) rfl (by kernel_rfl) (by kernel_rfl) (by kernel_rfl) (fun _ _ _ h => h) (Or.inr ⟨by kernel_rfl, rfl⟩) (by assumption) ?_
          refine (show wpAnyH Try.prog Region.Mode.any _ _ _ _ _ (Act.mk (Array.setIfInBounds (List.toArray _) _ _) _) _ from ?_)
          simp only [List.setIfInBounds_toArray, List.set_cons_zero, List.set_cons_succ]
          refine wpAnyH_take (i := 52) (v := undef) rfl (by kernel_rfl) (by kernel_rfl) (by kernel_rfl) (fun _ _ _ h => h) (Or.inr ⟨by kernel_rfl, rfl⟩) (by assumption) ?_
          refine (show wpAnyH Try.prog Region.Mode.any _ _ _ _ _ (Act.mk (Array.setIfInBounds (List.toArray _) _ _) _) _ from ?_)
          simp only [List.setIfInBounds_toArray, List.set_cons_zero, List.set_cons_succ]
          refine wpAnyH_take (i := 53) (v := undef) rfl (by kernel_rfl) (by kernel_rfl) (by kernel_rfl) (fun _ _ _ h => h) (Or.inr ⟨by kernel_rfl, rfl⟩) (by assumption) ?_
          refine (show wpAnyH Try.prog Region.Mode.any _ _ _ _ _ (Act.mk (Array.setIfInBounds (List.toArray _) _ _) _) _ from ?_)
          simp only [List.setIfInBounds_toArray, List.set_cons_zero, List.set_cons_succ]
          refine wpAnyH_take (i := 54) (v := undef) rfl (by kernel_rfl) (by kernel_rfl) (by kernel_rfl) (fun _ _ _ h => h) (Or.inr ⟨by kernel_rfl, rfl⟩) (by assumption) ?_
          refine (show wpAnyH Try.prog Region.Mode.any _ _ _ _ _ (Act.mk (Array.setIfInBounds (List.toArray _) _ _) _) _ from ?_)
          simp only [List.setIfInBounds_toArray, List.set_cons_zero, List.set_cons_succ]
          refine wpAnyH_take (i := 55) (v := ?_) rfl (by kernel_rfl) (by kernel_rfl) (by kernel_rfl) (fun _ _ _ h => h) (Or.inl ⟨by kernel_rfl, ?_⟩) (by assumption) ?_
          rotate_left
          · (intro W hS;  go_simp; try (with_reducible rfl))
          refine (show wpAnyH Try.prog Region.Mode.any _ _ _ _ _ (Act.mk (Array.setIfInBounds (List.toArray _) _ _) _) _ from ?_)
          simp only [List.setIfInBounds_toArray, List.set_cons_zero, List.set_cons_succ]
          refine wpAnyH_take (i := 56) (v := ?_) rfl (by kernel_rfl) (by kernel_rfl) (by kernel_rfl) (fun _ _ _ h => h) (Or.inl ⟨by kernel_rfl, ?_⟩) (by assumption) ?_
          rotate_left
          · (intro W hS;  go_simp; try (with_reducible rfl))
          refine (show wpAnyH Try.prog Region.Mode.any _ _ _ _ _ (Act.mk (Array.setIfInBounds (List.toArray _) _ _) _) _ from ?_)
          simp only [List.setIfInBounds_toArray, List.set_cons_zero, List.set_cons_succ]
          refine wpAnyH_done (by kernel_rfl) ?_ _
          have HBE := Lib.hid hHeld
          go_wp2_with fail
          go_roundw
          case rel => exact ⟨k + 1, by omega, by go_num, HBE⟩
          case measure => simp [intOf]; omega
    · obtain rfl : k = (hoursI L).length := by omega
      go_wp2_with fail
      refine (elmFulled_any _).mono ?_
      rintro e w7 ⟨rfl, hb7⟩
      go_wp2_with fail
      go_ret
      exact ⟨rfl, bstep (bstep HB6.out HBR.out) hb7⟩
end Go.Proofs.Yteoejhldmeompaa
