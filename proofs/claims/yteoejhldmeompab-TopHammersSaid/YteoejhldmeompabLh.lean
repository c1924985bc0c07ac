/- TopHammers' walk. -/
import Derived.Test.YteoejhldmeompabLc
import Derived.Test.YteoejhldmeompabLf
import Derived.Test.YteoejhldmeompabLg
import Derived.Test.YteoejhldmeompabGn
import Derived.Test.YteoejhldmeompabKt
namespace Go.Proofs.Yteoejhldmeompab
open Go Go.RowKit Go.Shelf
attribute [local go_sem ↓] Go.wp_at_zero Go.wp_at_succ

theorem stdTo_start (n : Nat) (k : Int) (fr : Nat) : stdTo n k (fr : Int) fr = stdTo n k (fr : Int) 0 := by
  unfold stdTo
  refine List.map_congr_left (fun i _ => ?_)
  rw [if_neg (by omega), if_neg (by omega)]
theorem stdTo_plan {n : Nat} {k K fr : Int} {j : Nat} (h1 : 1 ≤ k) (h2 : k ≤ K) : vPlan K (stdTo n k fr j) n n = true := by
  rw [vPlan_iff, stdTo_len]
  refine ⟨by omega, List.all_eq_true.2 fun x hx => ?_⟩
  unfold stdTo at hx
  obtain ⟨i, -, rfl⟩ := List.mem_map.1 hx
  rw [inB_iff]; split <;> omega
/-- What Out says of a felt made of bytes. -/
theorem out_fit {b : Nat → Int} (hb : ∀ i, 0 ≤ b i ∧ b i ≤ 255) : ∃ on : Nat, ∃ oe : Int, ((sureL [efP b 0, efP b 1] (efFe b)).head?.getD 0 = on ∧ (if (sureL [efP b 0, efP b 1] (efFe b)).head?.isSome then (0 : Int) else 7) = oe) ∧ ((oe = 7 ∧ on = 0) ∨ (oe = 0 ∧ on ≤ 36 ∧ efFit b on = true)) := by
  cases h : sureL [efP b 0, efP b 1] (efFe b) with
  | nil => exact ⟨0, 7, ⟨rfl, rfl⟩, .inl ⟨rfl, rfl⟩⟩
  | cons n l =>
    have := sure_fit hb (n := n) (by rw [h]; exact List.mem_cons_self)
    exact ⟨n, 0, ⟨rfl, rfl⟩, .inr ⟨rfl, this.1, this.2⟩⟩

set_option maxRecDepth 20000 in
set_option maxHeartbeats 25600000 in
theorem hammers_walk (b : Nat → Int) (m0 m1 m2 m3 m4 v0 v1 : Int) (fv : Value) (V : List (Int × Int)) (w : World) (hb : ∀ i, 0 ≤ b i ∧ b i ≤ 255) (h0 : 0 ≤ m0 ∧ m0 ≤ 255) (h1 : 0 ≤ m1 ∧ m1 ≤ 255) (h2 : 0 ≤ m2 ∧ m2 ≤ 255) (h3 : 0 ≤ m3 ∧ m3 ≤ 255) (h4 : 0 ≤ m4 ∧ m4 ≤ 255) (hV : ∀ p ∈ V, (0 ≤ p.1 ∧ p.1 ≤ 255) ∧ (0 ≤ p.2 ∧ p.2 ≤ 255)) (hf : SliceU enc2 2 w fv V) (hv0 : 0 ≤ v0 ∧ v0 ≤ 255) (hv1 : 0 ≤ v1 ∧ v1 ≤ 255) :
    Calls Try.prog 3 #[.agg (fyCells b), .agg #[u8 m0, u8 m1, u8 m2, u8 m3, u8 m4, fv], .agg #[u8 v0, u8 v1]] w fun e w' => e = .returned (.bool true) ∧ Below w.heap.size w w' := by
  obtain ⟨on, oe, ⟨ho1, ho2⟩, HOO⟩ := out_fit hb
  have hCC := em_chk (m0 := m0) (m1 := m1) (m4 := m4) h2 h3 hV
  have hFF := fun W (h : SliceU enc2 2 W fv V) => emMade_any m0 m1 m2 m3 m4 fv V W h0 h1 h2 h3 h4 hV h
  generalize emMl m0 m1 m2 m3 m4 = m at *
  generalize emL V (emN V) = F at *
  have HFB := Lib.hid hFF; clear hFF
  obtain ⟨hm, hl24, hl0, hFv⟩ := sChk_zero hCC
  obtain ⟨k1, k2⟩ := (vMill_iff.1 hm).1
  have HOU : Hid (∀ (W : World) (pa : Option Addr) (pc : Nat), SliceOf encS 2 W (.slice pa 2 pc) [efP b 0, efP b 1] → Calls Try.prog 8 #[.agg (stcells (efFe b) (.slice pa 2 pc) (.slice none 0 0)).toArray] W fun e w' => e = .returned (.tuple #[iv on, iv oe]) ∧ Below W.heap.size W w') := fun W pa pc h => by
    have := Out_good [efP b 0, efP b 1] (efFe b) pa none pc 0 W h (efFe_ok hb)
    rw [ho1, ho2] at this; exact this
  have HFE : Hid (∀ W : World, Calls Try.prog 4 #[.agg (fyCells b)] W fun e w' => ∃ pg pc, e = .returned (.tuple #[.agg (stcells (efFe b) (.slice (some ⟨pg, 0, none⟩) 2 pc) (.slice none 0 0)).toArray, iv (efS b), iv (efW b)]) ∧ SliceOf encS 2 w' (.slice (some ⟨pg, 0, none⟩) 2 pc) [efP b 0, efP b 1] ∧ Below W.heap.size W w') := fun W => elmFelt_any b W hb
  have HFT : Hid (efFit b on = true → on ≤ 36 → ∀ W : World, Calls Try.prog 10 #[.agg (fyCells b), iv on] W fun e w' => e = .returned (.bool true) ∧ Below W.heap.size W w') := fun h h' W => by rw [← h]; exact elmFit_any b on W hb (by omega)
  have HL : ∃ (r0 : Int) (rn sn pn : Nat), Hid (r0 = v0 % m.k) ∧ Hid ((rn : Int) = v1 % (F.length : Int)) ∧ (0 ≤ r0 ∧ r0 < m.k) ∧ (sn ≤ pn ∧ rn < F.length ∧ rn + pn ≤ F.length) ∧ Hid (∀ (W : World) (fv : Value), SliceOf encS 2 W fv F → Calls Try.prog 6 #[.agg (encMl m).toArray, fv, iv (1 + r0), iv rn] W fun e w' => e = .returned (.tuple #[iv sn, iv pn, iv 0]) ∧ Below W.heap.size W w') ∧
      Hid (∀ (j : Nat) (W : World) (fv pv : Value), SliceOf encS 2 W fv F → Ints W pv (stdTo F.length (1 + r0) rn j) → (j = rn + sn → Calls Try.prog 9 #[.agg (encMl m).toArray, fv, pv] W fun e w' => ∃ q, e = .returned (.tuple #[iv 0, .bool q, iv 7]) ∧ Below W.heap.size W w') ∧ (j = rn + sn + 1 → rn + sn < F.length → Calls Try.prog 9 #[.agg (encMl m).toArray, fv, pv] W fun e w' => ∃ q, e = .returned (.tuple #[iv ((rn : Int) + sn), .bool q, iv 0]) ∧ Below W.heap.size W w')) := by
    have a1 : 0 ≤ v0 % m.k := Int.emod_nonneg _ (by omega)
    have a2 : v0 % m.k < m.k := Int.emod_lt_of_pos _ (by omega)
    have a3 : 0 ≤ v1 % (F.length : Int) := Int.emod_nonneg _ (by omega)
    have a4 : v1 % (F.length : Int) < F.length := Int.emod_lt_of_pos _ (by omega)
    have hk : inB 1 m.k (1 + v0 % m.k) = true := inB_iff.2 ⟨by omega, by omega⟩
    have hr : inB 0 ((F.length : Int) - 1) (v1 % (F.length : Int)) = true := inB_iff.2 ⟨by omega, by omega⟩
    obtain ⟨e1, e2, e3, e4⟩ := last_bd hCC hk hr
    obtain ⟨N, p1, p2, p3, p4, -⟩ := hammers_plain hCC hk hr
    have hLA := fun (W : World) (fv : Value) (h : SliceOf encS 2 W fv F) => Lasts_any m F fv (1 + v0 % m.k) (v1 % (F.length : Int)) W h
    simp only [e1] at hLA
    have hpo : v1 % (F.length : Int) + lastOf Prod.snd m F (1 + v0 % m.k) (v1 % (F.length : Int)) ≤ F.length := by
      have h5 := lvOf_len Prod.snd m F (stdy F.length (1 + v0 % m.k) (v1 % (F.length : Int)))
      rw [show (stdy F.length (1 + v0 % m.k) (v1 % (F.length : Int))).length = F.length from stdTo_len _ _ _ _] at h5
      rw [lastOf, if_pos e1]; omega
    generalize lastOf Prod.fst m F (1 + v0 % m.k) (v1 % (F.length : Int)) = su at *
    generalize lastOf Prod.snd m F (1 + v0 % m.k) (v1 % (F.length : Int)) = po at *
    obtain ⟨rn, hrn⟩ := Int.eq_ofNat_of_zero_le a3
    obtain ⟨sn, rfl⟩ := Int.eq_ofNat_of_zero_le e2
    obtain ⟨pn, rfl⟩ := Int.eq_ofNat_of_zero_le (Int.le_trans e2 e3)
    rw [hrn] at hLA p1 p3 p4 hpo a4
    obtain rfl : N = rn + sn := by omega
    refine ⟨_, rn, sn, pn, rfl, hrn.symm, ⟨a1, a2⟩, ⟨by omega, by omega, by omega⟩, hLA, fun j W fv pv hS hP => ⟨fun hj => ?_, fun hj hlt => ?_⟩⟩
    · have := Goes_good m F _ fv pv W hCC (stdTo_plan (by omega) (by omega)) hS hP
      rw [hj, goesHour, goesErr, if_pos p3, if_pos p3] at this
      exact this.mono fun e w' ⟨h1, h2⟩ => ⟨_, h1, h2⟩
    · have := Goes_good m F _ fv pv W hCC (stdTo_plan (by omega) (by omega)) hS hP
      obtain ⟨p5, p6⟩ := p4 hlt
      rw [hj, goesHour, goesErr, if_neg (by rw [p5]; simp), if_neg (by rw [p5]; simp), p6] at this
      exact this.mono fun e w' ⟨h1, h2⟩ => ⟨goesSure m F (stdTo F.length (1 + v0 % m.k) (rn : Int) (rn + sn + 1)), by rw [h1, Int.natCast_add], h2⟩
  obtain ⟨r0, rn, sn, pn, HR0, HRV, ⟨s1, s2⟩, ⟨s3, s4, s5⟩, HLA, HGO⟩ := HL
  obtain ⟨i0, hi, hz0, hz1, hz2⟩ := info_parts info3
  have HI := Lib.hid hi; have HZ0 := Lib.hid hz0; have HZ1 := Lib.hid hz1; have HZ2 := Lib.hid hz2
  have hby : i0.bytes * F.length ≤ 281474976710656 := by rw [hz2]; omega
  have hml : F.length ≤ maxLen := by unfold maxLen; omega
  have HBY := Lib.hid hby; have HML := Lib.hid hml
  clear hi hz0 hz1 hz2 hby hml
  obtain ⟨kk, t, bl, bh, h, nl, nh⟩ := m
  dsimp only at k1 k2 HR0 s2
  simp only [encMl] at HLA HGO
  have HCV := Lib.hid hCC
  clear hCC hm ho1 ho2
  obtain ⟨w0, hw0⟩ : ∃ W : World, ((w.alloc (.cells (fyCells b) 26)).alloc (.cells #[u8 m0, u8 m1, u8 m2, u8 m3, u8 m4, fv] 30)).alloc (.cells #[u8 v0, u8 v1] 22) = W := ⟨_, rfl⟩
  have HB0 : Hid (Below w.heap.size w w0) := by rw [← hw0]; exact (by repeat (first | exact Below.refl _ _ | refine Below.drew ?_ | refine bpush ?_ _ | refine bput ?_ (by simp) _ | (refine bstep ?_ (by assumption))))
  have hz0 : w0.heap.size = w.heap.size + 3 := by rw [← hw0]; simp
  have HR0A : Hid (w0.heap[w.heap.size]? = some (.cells (fyCells b) 26 (0, 0))) := by
    rw [← hw0]; exact (Below.heap_alloc _ _ _ (by simp; omega)).trans ((Below.heap_alloc _ _ _ (by simp)).trans (heap_new _ _ _))
  have HR1 : Hid (w0.heap[w.heap.size + 1]? = some (.cells #[u8 m0, u8 m1, u8 m2, u8 m3, u8 m4, fv] 30 (0, 0))) := by rw [← hw0]; exact heapC (by simp)
  have HR2 : Hid (w0.heap[w.heap.size + 1 + 1]? = some (.cells #[u8 v0, u8 v1] 22 (0, 0))) := by rw [← hw0]; exact heapA (by simp)
  have HF0 := Lib.hid (SliceU.below hf HB0.out)
  have l0 : w0.cell? ⟨w.heap.size, 0, none⟩ = some (Yteoejhldmeompab.u8 (b 0)) := by rw [cell_of_row _ _ _ _ _ _ HR0A.out]; rfl
  have l1 : w0.cell? ⟨w.heap.size, 1, none⟩ = some (Yteoejhldmeompab.u8 (b 1)) := by rw [cell_of_row _ _ _ _ _ _ HR0A.out]; rfl
  have l2 : w0.cell? ⟨w.heap.size, 2, none⟩ = some (Yteoejhldmeompab.u8 (b 2)) := by rw [cell_of_row _ _ _ _ _ _ HR0A.out]; rfl
  have l3 : w0.cell? ⟨w.heap.size, 3, none⟩ = some (Yteoejhldmeompab.u8 (b 3)) := by rw [cell_of_row _ _ _ _ _ _ HR0A.out]; rfl
  have l4 : w0.cell? ⟨w.heap.size, 4, none⟩ = some (Yteoejhldmeompab.u8 (b 4)) := by rw [cell_of_row _ _ _ _ _ _ HR0A.out]; rfl
  have l5 : w0.cell? ⟨w.heap.size, 5, none⟩ = some (Yteoejhldmeompab.u8 (b 5)) := by rw [cell_of_row _ _ _ _ _ _ HR0A.out]; rfl
  have l6 : w0.cell? ⟨w.heap.size, 6, none⟩ = some (Yteoejhldmeompab.u8 (b 6)) := by rw [cell_of_row _ _ _ _ _ _ HR0A.out]; rfl
  have l7 : w0.cell? ⟨w.heap.size, 7, none⟩ = some (Yteoejhldmeompab.u8 (b 7)) := by rw [cell_of_row _ _ _ _ _ _ HR0A.out]; rfl
  have l8 : w0.cell? ⟨w.heap.size, 8, none⟩ = some (Yteoejhldmeompab.u8 (b 8)) := by rw [cell_of_row _ _ _ _ _ _ HR0A.out]; rfl
  have l9 : w0.cell? ⟨w.heap.size, 9, none⟩ = some (Yteoejhldmeompab.u8 (b 9)) := by rw [cell_of_row _ _ _ _ _ _ HR0A.out]; rfl
  have l10 : w0.cell? ⟨w.heap.size, 10, none⟩ = some (Yteoejhldmeompab.u8 (b 10)) := by rw [cell_of_row _ _ _ _ _ _ HR0A.out]; rfl
  have l11 : w0.cell? ⟨w.heap.size, 11, none⟩ = some (Yteoejhldmeompab.u8 (b 11)) := by rw [cell_of_row _ _ _ _ _ _ HR0A.out]; rfl
  simp only [fyCells] at hw0 HFE HFT ⊢
  clear hb hf hz0 h0 h1 h2 h3 h4
  go_enter Try.func3, Try.ntmps3
  go_wp2_with fail
  clear hw0
  refine (HFE.out _).mono ?_
  rintro e w1 ⟨pg, pc, rfl, hs, hb1⟩
  have HS1 := Lib.hid hs
  have HB1 := Lib.hid (bstep HB0.out hb1)
  have HR01 := Lib.hid (bblk hb1 HR0A.out)
  have HR11 := Lib.hid (bblk hb1 HR1.out)
  have HR21 := Lib.hid (bblk hb1 HR2.out)
  have HF1 := Lib.hid (SliceU.below HF0.out hb1)
  clear hs hb1 l0 l1 l2 l3 l4 l5 l6 l7 l8 l9 l10 l11
  have hz1 : w.heap.size + 1 + 1 < w1.heap.size := (Array.getElem?_eq_some_iff.1 HR21.out).1
  have n0 : w1.cell? ⟨w.heap.size + 1, 0, none⟩ = some (Yteoejhldmeompab.u8 m0) := by rw [cell_of_row _ _ _ _ _ _ HR11.out]; rfl
  have n1 : w1.cell? ⟨w.heap.size + 1, 1, none⟩ = some (Yteoejhldmeompab.u8 m1) := by rw [cell_of_row _ _ _ _ _ _ HR11.out]; rfl
  have n2 : w1.cell? ⟨w.heap.size + 1, 2, none⟩ = some (Yteoejhldmeompab.u8 m2) := by rw [cell_of_row _ _ _ _ _ _ HR11.out]; rfl
  have n3 : w1.cell? ⟨w.heap.size + 1, 3, none⟩ = some (Yteoejhldmeompab.u8 m3) := by rw [cell_of_row _ _ _ _ _ _ HR11.out]; rfl
  have n4 : w1.cell? ⟨w.heap.size + 1, 4, none⟩ = some (Yteoejhldmeompab.u8 m4) := by rw [cell_of_row _ _ _ _ _ _ HR11.out]; rfl
  have n5 : w1.cell? ⟨w.heap.size + 1, 5, none⟩ = some (fv) := by rw [cell_of_row _ _ _ _ _ _ HR11.out]; rfl
  have hz1' : w.heap.size + 1 < w1.heap.size := by omega
  generalize hce : efFe b = c at *
  obtain ⟨sl, sh, wl, wh, tu, st, fu, ha⟩ := c
  simp only [stcells] at *
  go_wp2_with fail
  obtain ⟨W2, hW2⟩ : ∃ W : World, w1.alloc (.cells #[.slice (some ⟨pg, 0, none⟩) 2 pc, iv sl, iv sh, iv wl, iv wh, iv tu, iv st, iv fu, iv ha, .slice none 0 0] 36) = W := ⟨_, rfl⟩
  have hbp : Below w1.heap.size w1 W2 := by rw [← hW2]; exact bpush (Below.refl _ _) _
  have HRC : Hid (W2.heap[w1.heap.size]? = some (.cells #[.slice (some ⟨pg, 0, none⟩) 2 pc, iv sl, iv sh, iv wl, iv wh, iv tu, iv st, iv fu, iv ha, .slice none 0 0] 36 (0, 0))) := by rw [← hW2]; exact heap_new _ _ _
  have HB2 := Lib.hid (bstep HB1.out hbp)
  have HS2 := Lib.hid (HS1.out.below hbp)
  have HF2 := Lib.hid (SliceU.below HF1.out hbp)
  have HR02 := Lib.hid (bblk hbp HR01.out)
  have HR22 := Lib.hid (bblk hbp HR21.out)
  clear hbp n0 n1 n2 n3 n4 n5
  rw [hW2]
  clear hW2
  refine (HFB.out _ HF2.out).mono ?_
  rintro e w3 ⟨lv, rfl, ho3, hb3⟩
  obtain ⟨lg, lc, rfl⟩ := owns_addr ho3 hl0
  simp only [encMl]
  have HSL := Lib.hid (Owns.slice ho3 encS_len (by omega))
  have HB3 := Lib.hid (bstep HB2.out hb3)
  have HS3 := Lib.hid (HS2.out.below hb3)
  have HR03 := Lib.hid (bblk hb3 HR02.out)
  have HR23 := Lib.hid (bblk hb3 HR22.out)
  have HRC3 := Lib.hid (bblk hb3 HRC.out)
  clear ho3 hb3
  have hz3 : w.heap.size + 1 + 1 < w3.heap.size := (Array.getElem?_eq_some_iff.1 HR23.out).1
  have y0 : w3.cell? ⟨w.heap.size + 1 + 1, 0, none⟩ = some (Yteoejhldmeompab.u8 v0) := by rw [cell_of_row _ _ _ _ _ _ HR23.out]; rfl
  have y1 : w3.cell? ⟨w.heap.size + 1 + 1, 1, none⟩ = some (Yteoejhldmeompab.u8 v1) := by rw [cell_of_row _ _ _ _ _ _ HR23.out]; rfl
  have t0 : v0.tmod kk = r0 := by rw [HR0.out]; exact Int.tmod_eq_emod_of_nonneg hv0.1
  have t1 : v1.tmod (F.length : Int) = (rn : Int) := by rw [HRV.out]; exact Int.tmod_eq_emod_of_nonneg hv1.1
  have f0 : IntKind.i64.wrap v0 = v0 := IntWalk.i64_in _ ⟨by omega, by omega⟩
  have f1 : IntKind.i64.wrap v1 = v1 := IntWalk.i64_in _ ⟨by omega, by omega⟩
  have f2 : IntKind.i64.wrap (1 + r0) = 1 + r0 := IntWalk.i64_in _ ⟨by omega, by omega⟩
  have f3 : ¬ (kk = 0) := by omega
  have f4 : ¬ ((F.length : Int) = 0) := by omega
  have f5 : (kk == 0) = false := by simpa using f3
  have f6 : ((F.length : Int) == 0) = false := by simpa using f4
  have f7 : IntKind.i64.wrap r0 = r0 := IntWalk.i64_in _ ⟨by omega, by omega⟩
  have f8 : IntKind.i64.wrap (rn : Int) = (rn : Int) := IntWalk.i64_in _ ⟨by omega, by omega⟩
  go_wp2_with fail
  obtain ⟨W4, hW4⟩ : ∃ W : World, w3.alloc (.cells #[iv kk, iv t, iv bl, iv bh, iv h, iv nl, iv nh] 40) = W := ⟨_, rfl⟩
  have hbp : Below w3.heap.size w3 W4 := by rw [← hW4]; exact bpush (Below.refl _ _) _
  have hrm : W4.heap[w3.heap.size]? = some (.cells #[iv kk, iv t, iv bl, iv bh, iv h, iv nl, iv nh] 40 (0, 0)) := by rw [← hW4]; exact heap_new _ _ _
  have HRM := Lib.hid hrm
  have d0 : W4.cell? ⟨w3.heap.size, 0, none⟩ = some (iv kk) := by rw [cell_of_row _ _ _ _ _ _ hrm]; rfl
  have y0 := kcell hbp y0
  have y1 := kcell hbp y1
  have HB4 := Lib.hid (bstep HB3.out hbp)
  have HS4 := Lib.hid (HS3.out.below hbp)
  have HL4 := Lib.hid (HSL.out.below hbp)
  have HR04 := Lib.hid (bblk hbp HR03.out)
  have HRC4 := Lib.hid (bblk hbp HRC3.out)
  clear hrm hbp
  rw [hW4]
  clear hW4
  go_quiet (fail)
  go_wp2_with fail
  have HB5 : Hid (Below w.heap.size w (W4.drewN nq)) := bdrewK HB4.out nq
  have HS5 : Hid (SliceOf encS 2 (W4.drewN nq) (.slice (some ⟨pg, 0, none⟩) 2 pc) [efP b 0, efP b 1]) := HS4.out
  have hL5 : SliceOf encS 2 (W4.drewN nq) (.slice (some ⟨lg, 0, none⟩) F.length lc) F := HL4.out
  have HR05 : Hid ((W4.drewN nq).heap[w.heap.size]? = some (.cells (fyCells b) 26 (0, 0))) := HR04.out
  have HRC5 : Hid ((W4.drewN nq).heap[w1.heap.size]? = some (.cells #[.slice (some ⟨pg, 0, none⟩) 2 pc, iv sl, iv sh, iv wl, iv wh, iv tu, iv st, iv fu, iv ha, .slice none 0 0] 36 (0, 0))) := HRC4.out
  have HRM5 : Hid ((W4.drewN nq).heap[w3.heap.size]? = some (.cells #[iv kk, iv t, iv bl, iv bh, iv h, iv nl, iv nh] 40 (0, 0))) := HRM.out
  clear d0 y0 y1 t0 t1 f0 f1 f2 f3 f4 f5 f6 f7 f8
  generalize W4.drewN nq = W5 at *
  have d0 : W5.cell? ⟨w3.heap.size, 0, none⟩ = some (iv kk) := by rw [cell_of_row _ _ _ _ _ _ HRM5.out]; rfl
  have d1 : W5.cell? ⟨w3.heap.size, 1, none⟩ = some (iv t) := by rw [cell_of_row _ _ _ _ _ _ HRM5.out]; rfl
  have d2 : W5.cell? ⟨w3.heap.size, 2, none⟩ = some (iv bl) := by rw [cell_of_row _ _ _ _ _ _ HRM5.out]; rfl
  have d3 : W5.cell? ⟨w3.heap.size, 3, none⟩ = some (iv bh) := by rw [cell_of_row _ _ _ _ _ _ HRM5.out]; rfl
  have d4 : W5.cell? ⟨w3.heap.size, 4, none⟩ = some (iv h) := by rw [cell_of_row _ _ _ _ _ _ HRM5.out]; rfl
  have d5 : W5.cell? ⟨w3.heap.size, 5, none⟩ = some (iv nl) := by rw [cell_of_row _ _ _ _ _ _ HRM5.out]; rfl
  have d6 : W5.cell? ⟨w3.heap.size, 6, none⟩ = some (iv nh) := by rw [cell_of_row _ _ _ _ _ _ HRM5.out]; rfl
  have HL5 := Lib.hid hL5
  have hb5 : Below W5.heap.size W5 W5 := Below.refl _ _
  have hfm : F.length ≤ 1000000 := by omega
  have hfm2 : F.length ≤ 140737488355328 := by omega
  have HFO := Lib.hid (fun (W : World) (h : SliceOf encS 2 W (.slice (some ⟨lg, 0, none⟩) F.length lc) F) => elmSpans_any F ⟨lg, 0, none⟩ lc W hfm h)
  go_region_held3 (fun w' => w'.cell? ⟨w3.heap.size, 0, none⟩ = some (iv kk) ∧ w'.cell? ⟨w3.heap.size, 1, none⟩ = some (iv t) ∧ w'.cell? ⟨w3.heap.size, 2, none⟩ = some (iv bl) ∧ w'.cell? ⟨w3.heap.size, 3, none⟩ = some (iv bh) ∧ w'.cell? ⟨w3.heap.size, 4, none⟩ = some (iv h) ∧ w'.cell? ⟨w3.heap.size, 5, none⟩ = some (iv nl) ∧ w'.cell? ⟨w3.heap.size, 6, none⟩ = some (iv nh) ∧ SliceOf encS 2 w' (.slice (some ⟨lg, 0, none⟩) F.length lc) F ∧ Below W5.heap.size W5 w')
    (first | (go_split_ands; refine ⟨?_, ?_, ?_, ?_, ?_, ?_, ?_, ?_, ?_⟩ <;> first | assumption | exact kcell hbK (by assumption) | exact kfrozen hbK (by assumption) (by assumption) | exact bstep (by assumption) hbK | exact SliceOf.below (by assumption) hbK) | (refine ⟨?_, ?_, ?_, ?_, ?_, ?_, ?_, ?_, ?_⟩ <;> first | exact Below.drew (by assumption) | exact SliceOf.below (by assumption) ((Below.refl _ _).drew) | assumption))
    (first | (go_split_ands; (with_reducible refine (HFO.out _ (by assumption)).mono ?_); rintro e wO ⟨vo, rfl, hoO, hbK⟩; have hSO := Owns.slice hoO encS_len hfm2) | ((with_reducible refine (HLA.out _ _ (by assumption)).mono ?_); rintro e wM ⟨rfl, hbK⟩))
  rename_i hHeld
  have hb6 : Below W5.heap.size W5 wM := hHeld.2.2.2.2.2.2.2.2
  have HB6 := Lib.hid (bstep HB5.out hb6)
  have HS6 := Lib.hid (HS5.out.below hb6)
  have HL6 := Lib.hid (HL5.out.below hb6)
  have HR06 := Lib.hid (bblk hb6 HR05.out)
  have HRC6 := Lib.hid (bblk hb6 HRC5.out)
  have HRM6 := Lib.hid (bblk hb6 HRM5.out)
  clear hHeld hb5 hb6 hbK hSO hoO d0 d1 d2 d3 d4 d5 d6 hL5
  have c0 : wM.cell? ⟨w1.heap.size, 0, none⟩ = some (.slice (some ⟨pg, 0, none⟩) 2 pc) := by rw [cell_of_row _ _ _ _ _ _ HRC6.out]; rfl
  have c1 : wM.cell? ⟨w1.heap.size, 1, none⟩ = some (iv sl) := by rw [cell_of_row _ _ _ _ _ _ HRC6.out]; rfl
  have c2 : wM.cell? ⟨w1.heap.size, 2, none⟩ = some (iv sh) := by rw [cell_of_row _ _ _ _ _ _ HRC6.out]; rfl
  have c3 : wM.cell? ⟨w1.heap.size, 3, none⟩ = some (iv wl) := by rw [cell_of_row _ _ _ _ _ _ HRC6.out]; rfl
  have c4 : wM.cell? ⟨w1.heap.size, 4, none⟩ = some (iv wh) := by rw [cell_of_row _ _ _ _ _ _ HRC6.out]; rfl
  have c5 : wM.cell? ⟨w1.heap.size, 5, none⟩ = some (iv tu) := by rw [cell_of_row _ _ _ _ _ _ HRC6.out]; rfl
  have c6 : wM.cell? ⟨w1.heap.size, 6, none⟩ = some (iv st) := by rw [cell_of_row _ _ _ _ _ _ HRC6.out]; rfl
  have c7 : wM.cell? ⟨w1.heap.size, 7, none⟩ = some (iv fu) := by rw [cell_of_row _ _ _ _ _ _ HRC6.out]; rfl
  have c8 : wM.cell? ⟨w1.heap.size, 8, none⟩ = some (iv ha) := by rw [cell_of_row _ _ _ _ _ _ HRC6.out]; rfl
  have c9 : wM.cell? ⟨w1.heap.size, 9, none⟩ = some (.slice none 0 0) := by rw [cell_of_row _ _ _ _ _ _ HRC6.out]; rfl
  go_wp2_with fail
  refine (HOU.out _ _ _ HS6.out).mono ?_
  rintro e w7 ⟨rfl, hb7⟩
  have HB7 := Lib.hid (bstep HB6.out hb7)
  have HL7 := Lib.hid (HL6.out.below hb7)
  have HR07 := Lib.hid (bblk hb7 HR06.out)
  have HRM7 := Lib.hid (bblk hb7 HRM6.out)
  clear hb7 c0 c1 c2 c3 c4 c5 c6 c7 c8 c9
  have a1 : decide ((sn : Int) < 0) = false := decide_eq_false (by omega)
  have a2 : decide ((pn : Int) < (sn : Int)) = false := decide_eq_false (by omega)
  have a3 : decide (pn < sn) = false := decide_eq_false (by omega)
  have a4 : IntKind.i64.wrap ((rn : Int) + (pn : Int)) = (rn : Int) + (pn : Int) := IntWalk.i64_in _ ⟨by omega, by omega⟩
  have a5 : decide ((F.length : Int) < (rn : Int) + (pn : Int)) = false := decide_eq_false (by omega)
  have a6 : decide (F.length < rn + pn) = false := decide_eq_false (by omega)
  rcases HOO with ⟨rfl, rfl⟩ | ⟨rfl, hon, hfit⟩
  · go_wp2_with fail
    clear a1 a2 a3 a4 a5 a6
    have a4 : IntKind.i64.wrap ((rn : Int) + (sn : Int)) = (rn : Int) + (sn : Int) := IntWalk.i64_in _ ⟨by omega, by omega⟩
    go_loopw [19] (fun i wr => ∃ k : Nat, k ≤ 2 ∧ i = iv k ∧ Hid (Below w7.heap.size w7 wr)) (fun i _ => 2 - (intOf i).toNat)
    case atStart => exact ⟨0, by omega, rfl, Below.refl _ _⟩
    case round =>
      obtain ⟨k, hk, rfl, HBR⟩ := hrel
      rename World => WR
      have HLR := Lib.hid (HL7.out.below HBR.out)
      have HRMR := Lib.hid (bblk HBR.out HRM7.out)
      by_cases hlt : k < 2
      · obtain rfl | rfl : k = 0 ∨ k = 1 := by omega
        · go_wp2_with (with_reducible change wpList _ _ _ (Oper.mk _ (Op.makeSlice 49 _ _) _ _ _ _ :: _) _ _; refine wpList_make_full _ rfl _ _ 49 rfl WR.heap.size 3 i0 (.int .i64 0) 1 Try.underlying49 HI.out HZ0.out HZ1.out .i64 .i64 F.length F.length F.length rfl rfl rfl rfl HBY.out HML.out (Nat.le_refl _) ?_; intro wp hown hgrow)
          have hown0 : wp.ownsRow WR.heap.size 3 1 (.slice (some ⟨WR.heap.size, 0, none⟩) F.length F.length) F.length ((stdTo F.length (1 + r0) (rn : Int) rn).map iv) := by
            rw [stdTo_start, stdTo_zero]
            have := toList_madeCells_one (.int .i64 0) F.length
            rw [← this]
            rw [Nat.mul_one] at hown
            exact hown
          have hbp : Below WR.heap.size WR wp := ⟨hgrow.os, hgrow.tape, hgrow.output, hgrow.size, fun q hq => hgrow.block q hq (by simp)⟩
          have HOW := Lib.hid hown0
          have HBP := Lib.hid hbp
          clear hown hgrow hown0 hbp
          go_wp2_with fail
          go_loopw [21] (fun i wr => ∃ j : Nat, rn ≤ j ∧ j ≤ rn + sn ∧ i = iv j ∧ Hid (wr.ownsRow WR.heap.size 3 1 (.slice (some ⟨WR.heap.size, 0, none⟩) F.length F.length) F.length ((stdTo F.length (1 + r0) (rn : Int) j).map iv)) ∧ Hid (Below WR.heap.size WR wr)) (fun i _ => rn + sn - (intOf i).toNat)
          case atStart => exact ⟨rn, Nat.le_refl _, by omega, rfl, HOW.out, HBP.out⟩
          case round =>
            obtain ⟨j, hj1, hj2, rfl, HOJ, HBJ⟩ := hrel
            have HLI := Lib.hid (HLR.out.below HBJ.out)
            have HRMI := Lib.hid (bblk HBJ.out HRMR.out)
            by_cases hlj : j < rn + sn
            · have b1 : decide ((j : Int) < (F.length : Int)) = true := decide_eq_true (by omega)
              have b2 : decide (j < F.length) = true := decide_eq_true (by omega)
              have b3 : decide ((j : Int) < (rn : Int) + (sn : Int)) = true := decide_eq_true (by omega)
              have b4 : decide (j < rn + sn) = true := decide_eq_true (by omega)
              have hown := HOJ.out
              have hc : wr.cell? ⟨WR.heap.size, j, none⟩ = some (((stdTo F.length (1 + r0) (rn : Int) j).map iv).getD j undef) := by
                rw [World.ownsRow.cellAt hown j (by omega)]
                have : j < ((stdTo F.length (1 + r0) (rn : Int) j).map iv).length := by rw [List.length_map, stdTo_len]; omega
                rw [List.getD_eq_getElem?_getD, List.getElem?_eq_getElem this]; rfl
              have hfz := World.ownsRow.frozenAt hown j
              have q0 : (0 : Int) ≤ (j : Int) := by omega
              have q1 : (j : Int) < (F.length : Int) := by omega
              generalize ((stdTo F.length (1 + r0) (rn : Int) j).map iv).getD j undef = old at *
              clear hown
              go_wp2_with fail
              go_roundw
              case rel => exact ⟨j + 1, by omega, by omega, by go_num, by rw [stdTo_yes (by omega)]; exact (World.ownsRow.stored HOJ.out j (iv (1 + r0))).1, bput HBJ.out (Nat.le_refl _) _⟩
              case measure => simp [intOf]; omega
            · obtain rfl : j = rn + sn := by omega
              have HPI : Hid (Ints wr (.slice (some ⟨WR.heap.size, 0, none⟩) F.length F.length) (stdTo F.length (1 + r0) (rn : Int) (rn + sn))) := by
                have hl : (stdTo F.length (1 + r0) (rn : Int) (rn + sn)).length = F.length := stdTo_len _ _ _ _
                have ho : Owns encI 1 3 WR.heap.size wr (.slice (some ⟨WR.heap.size, 0, none⟩) F.length F.length) (stdTo F.length (1 + r0) (rn : Int) (rn + sn)) := by
                  unfold Owns; rw [hl, flatI]; exact HOJ.out
                exact Owns.slice ho encI_len (by omega)
              have HG := Lib.hid (fun (W : World) (fv pv : Value) h1 h2 => (HGO.out (rn + sn) W fv pv h1 h2).1 rfl)
              generalize stdTo F.length (1 + r0) (rn : Int) (rn + sn) = PP at *
              have b3 : decide (((rn + sn : Nat) : Int) < (rn : Int) + (sn : Int)) = false := decide_eq_false (by omega)
              have b4 : decide (rn + sn < rn + sn) = false := decide_eq_false (by omega)
              have b5 : decide ((rn : Int) + (sn : Int) < (rn : Int) + (sn : Int)) = false := decide_eq_false (by omega)
              by_cases hJ : rn + sn < F.length
              · have b1 : decide (((rn + sn : Nat) : Int) < (F.length : Int)) = true := decide_eq_true (by omega)
                have b2 : decide (rn + sn < F.length) = true := decide_eq_true hJ
                have b8 : decide ((rn : Int) + (sn : Int) + 0 < (F.length : Int)) = true := decide_eq_true (by omega)
                go_wp2_with fail
                have d0 : wr.cell? ⟨w3.heap.size, 0, none⟩ = some (iv kk) := by rw [cell_of_row _ _ _ _ _ _ HRMI.out]; rfl
                have d1 : wr.cell? ⟨w3.heap.size, 1, none⟩ = some (iv t) := by rw [cell_of_row _ _ _ _ _ _ HRMI.out]; rfl
                have d2 : wr.cell? ⟨w3.heap.size, 2, none⟩ = some (iv bl) := by rw [cell_of_row _ _ _ _ _ _ HRMI.out]; rfl
                have d3 : wr.cell? ⟨w3.heap.size, 3, none⟩ = some (iv bh) := by rw [cell_of_row _ _ _ _ _ _ HRMI.out]; rfl
                have d4 : wr.cell? ⟨w3.heap.size, 4, none⟩ = some (iv h) := by rw [cell_of_row _ _ _ _ _ _ HRMI.out]; rfl
                have d5 : wr.cell? ⟨w3.heap.size, 5, none⟩ = some (iv nl) := by rw [cell_of_row _ _ _ _ _ _ HRMI.out]; rfl
                have d6 : wr.cell? ⟨w3.heap.size, 6, none⟩ = some (iv nh) := by rw [cell_of_row _ _ _ _ _ _ HRMI.out]; rfl
                have hLi := HLI.out
                have hPi := HPI.out
                have hbi : Below wr.heap.size wr wr := Below.refl _ _
                go_region_held3 (fun w' => w'.cell? ⟨w3.heap.size, 0, none⟩ = some (iv kk) ∧ w'.cell? ⟨w3.heap.size, 1, none⟩ = some (iv t) ∧ w'.cell? ⟨w3.heap.size, 2, none⟩ = some (iv bl) ∧ w'.cell? ⟨w3.heap.size, 3, none⟩ = some (iv bh) ∧ w'.cell? ⟨w3.heap.size, 4, none⟩ = some (iv h) ∧ w'.cell? ⟨w3.heap.size, 5, none⟩ = some (iv nl) ∧ w'.cell? ⟨w3.heap.size, 6, none⟩ = some (iv nh) ∧ SliceOf encS 2 w' (.slice (some ⟨lg, 0, none⟩) F.length lc) F ∧ Ints w' (.slice (some ⟨WR.heap.size, 0, none⟩) F.length F.length) PP ∧ Below wr.heap.size wr w')
                  (first | (go_split_ands; refine ⟨?_, ?_, ?_, ?_, ?_, ?_, ?_, ?_, ?_, ?_⟩ <;> first | assumption | exact kcell hbK (by assumption) | exact kfrozen hbK (by assumption) (by assumption) | exact bstep (by assumption) hbK | exact SliceOf.below (by assumption) hbK) | (refine ⟨?_, ?_, ?_, ?_, ?_, ?_, ?_, ?_, ?_, ?_⟩ <;> first | exact Below.drew (by assumption) | exact SliceOf.below (by assumption) ((Below.refl _ _).drew) | assumption))
                  (first | (go_split_ands; (with_reducible refine (HFO.out _ (by assumption)).mono ?_); rintro e wO ⟨vo, rfl, hoO, hbK⟩; have hSO := Owns.slice hoO encS_len hfm2) | (go_split_ands; (with_reducible refine (HG.out _ _ _ (by assumption) (by assumption)).mono ?_); rintro e wM2 ⟨q, rfl, hbK⟩))
                rename_i hHeld
                have HBG := Lib.hid (bstep (bstep HBR.out HBJ.out) hHeld.2.2.2.2.2.2.2.2.2)
                clear hHeld hbi hbK hSO hoO d0 d1 d2 d3 d4 d5 d6 hLi hPi
                go_wp2_with fail
                all_goals
                  go_roundw
                  case rel => exact ⟨0 + 1, by omega, by go_num, HBG⟩
                  case measure => simp [intOf]
              · have b1 : decide (((rn + sn : Nat) : Int) < (F.length : Int)) = false := decide_eq_false (by omega)
                have b2 : decide (rn + sn < F.length) = false := decide_eq_false hJ
                have b8 : decide ((rn : Int) + (sn : Int) + 0 < (F.length : Int)) = false := decide_eq_false (by omega)
                go_wp2_with fail
                have d0 : wr.cell? ⟨w3.heap.size, 0, none⟩ = some (iv kk) := by rw [cell_of_row _ _ _ _ _ _ HRMI.out]; rfl
                have d1 : wr.cell? ⟨w3.heap.size, 1, none⟩ = some (iv t) := by rw [cell_of_row _ _ _ _ _ _ HRMI.out]; rfl
                have d2 : wr.cell? ⟨w3.heap.size, 2, none⟩ = some (iv bl) := by rw [cell_of_row _ _ _ _ _ _ HRMI.out]; rfl
                have d3 : wr.cell? ⟨w3.heap.size, 3, none⟩ = some (iv bh) := by rw [cell_of_row _ _ _ _ _ _ HRMI.out]; rfl
                have d4 : wr.cell? ⟨w3.heap.size, 4, none⟩ = some (iv h) := by rw [cell_of_row _ _ _ _ _ _ HRMI.out]; rfl
                have d5 : wr.cell? ⟨w3.heap.size, 5, none⟩ = some (iv nl) := by rw [cell_of_row _ _ _ _ _ _ HRMI.out]; rfl
                have d6 : wr.cell? ⟨w3.heap.size, 6, none⟩ = some (iv nh) := by rw [cell_of_row _ _ _ _ _ _ HRMI.out]; rfl
                have hLi := HLI.out
                have hPi := HPI.out
                have hbi : Below wr.heap.size wr wr := Below.refl _ _
                go_region_held3 (fun w' => w'.cell? ⟨w3.heap.size, 0, none⟩ = some (iv kk) ∧ w'.cell? ⟨w3.heap.size, 1, none⟩ = some (iv t) ∧ w'.cell? ⟨w3.heap.size, 2, none⟩ = some (iv bl) ∧ w'.cell? ⟨w3.heap.size, 3, none⟩ = some (iv bh) ∧ w'.cell? ⟨w3.heap.size, 4, none⟩ = some (iv h) ∧ w'.cell? ⟨w3.heap.size, 5, none⟩ = some (iv nl) ∧ w'.cell? ⟨w3.heap.size, 6, none⟩ = some (iv nh) ∧ SliceOf encS 2 w' (.slice (some ⟨lg, 0, none⟩) F.length lc) F ∧ Ints w' (.slice (some ⟨WR.heap.size, 0, none⟩) F.length F.length) PP ∧ Below wr.heap.size wr w')
                  (first | (go_split_ands; refine ⟨?_, ?_, ?_, ?_, ?_, ?_, ?_, ?_, ?_, ?_⟩ <;> first | assumption | exact kcell hbK (by assumption) | exact kfrozen hbK (by assumption) (by assumption) | exact bstep (by assumption) hbK | exact SliceOf.below (by assumption) hbK) | (refine ⟨?_, ?_, ?_, ?_, ?_, ?_, ?_, ?_, ?_, ?_⟩ <;> first | exact Below.drew (by assumption) | exact SliceOf.below (by assumption) ((Below.refl _ _).drew) | assumption))
                  (first | (go_split_ands; (with_reducible refine (HFO.out _ (by assumption)).mono ?_); rintro e wO ⟨vo, rfl, hoO, hbK⟩; have hSO := Owns.slice hoO encS_len hfm2) | (go_split_ands; (with_reducible refine (HG.out _ _ _ (by assumption) (by assumption)).mono ?_); rintro e wM2 ⟨q, rfl, hbK⟩))
                rename_i hHeld
                have HBG := Lib.hid (bstep (bstep HBR.out HBJ.out) hHeld.2.2.2.2.2.2.2.2.2)
                clear hHeld hbi hbK hSO hoO d0 d1 d2 d3 d4 d5 d6 hLi hPi
                go_wp2_with fail
                all_goals
                  go_roundw
                  case rel => exact ⟨0 + 1, by omega, by go_num, HBG⟩
                  case measure => simp [intOf]
        · by_cases hN : rn + sn = F.length
          · go_wp2_with (with_reducible change wpList _ _ _ (Oper.mk _ (Op.makeSlice 49 _ _) _ _ _ _ :: _) _ _; refine wpList_make_full _ rfl _ _ 49 rfl WR.heap.size 3 i0 (.int .i64 0) 1 Try.underlying49 HI.out HZ0.out HZ1.out .i64 .i64 F.length F.length F.length rfl rfl rfl rfl HBY.out HML.out (Nat.le_refl _) ?_; intro wp hown hgrow)
            have hown0 : wp.ownsRow WR.heap.size 3 1 (.slice (some ⟨WR.heap.size, 0, none⟩) F.length F.length) F.length ((stdTo F.length (1 + r0) (rn : Int) rn).map iv) := by
              rw [stdTo_start, stdTo_zero]
              have := toList_madeCells_one (.int .i64 0) F.length
              rw [← this]
              rw [Nat.mul_one] at hown
              exact hown
            have hbp : Below WR.heap.size WR wp := ⟨hgrow.os, hgrow.tape, hgrow.output, hgrow.size, fun q hq => hgrow.block q hq (by simp)⟩
            have HOW := Lib.hid hown0
            have HBP := Lib.hid hbp
            clear hown hgrow hown0 hbp
            go_wp2_with fail
            go_loopw [21] (fun i wr => ∃ j : Nat, rn ≤ j ∧ j ≤ rn + sn ∧ i = iv j ∧ Hid (wr.ownsRow WR.heap.size 3 1 (.slice (some ⟨WR.heap.size, 0, none⟩) F.length F.length) F.length ((stdTo F.length (1 + r0) (rn : Int) j).map iv)) ∧ Hid (Below WR.heap.size WR wr)) (fun i _ => rn + sn - (intOf i).toNat)
            case atStart => exact ⟨rn, Nat.le_refl _, by omega, rfl, HOW.out, HBP.out⟩
            case round =>
              obtain ⟨j, hj1, hj2, rfl, HOJ, HBJ⟩ := hrel
              have HLI := Lib.hid (HLR.out.below HBJ.out)
              have HRMI := Lib.hid (bblk HBJ.out HRMR.out)
              by_cases hlj : j < rn + sn
              · have b1 : decide ((j : Int) < (F.length : Int)) = true := decide_eq_true (by omega)
                have b2 : decide (j < F.length) = true := decide_eq_true (by omega)
                have a7 : IntKind.i64.wrap ((rn : Int) + (sn : Int) + 1) = (rn : Int) + (sn : Int) + 1 := IntWalk.i64_in _ ⟨by omega, by omega⟩
                have b3 : decide ((j : Int) < (rn : Int) + (sn : Int) + 1) = true := decide_eq_true (by omega)
                have b4 : decide (j < rn + sn + 1) = true := decide_eq_true (by omega)
                have b5 : decide ((j : Int) ≤ (rn : Int) + (sn : Int)) = true := decide_eq_true (by omega)
                have b6 : decide (j ≤ rn + sn) = true := decide_eq_true (by omega)
                have hown := HOJ.out
                have hc : wr.cell? ⟨WR.heap.size, j, none⟩ = some (((stdTo F.length (1 + r0) (rn : Int) j).map iv).getD j undef) := by
                  rw [World.ownsRow.cellAt hown j (by omega)]
                  have : j < ((stdTo F.length (1 + r0) (rn : Int) j).map iv).length := by rw [List.length_map, stdTo_len]; omega
                  rw [List.getD_eq_getElem?_getD, List.getElem?_eq_getElem this]; rfl
                have hfz := World.ownsRow.frozenAt hown j
                have q0 : (0 : Int) ≤ (j : Int) := by omega
                have q1 : (j : Int) < (F.length : Int) := by omega
                generalize ((stdTo F.length (1 + r0) (rn : Int) j).map iv).getD j undef = old at *
                clear hown
                go_wp2_with fail
                go_roundw
                case rel => exact ⟨j + 1, by omega, by omega, by go_num, by rw [stdTo_yes (by omega)]; exact (World.ownsRow.stored HOJ.out j (iv (1 + r0))).1, bput HBJ.out (Nat.le_refl _) _⟩
                case measure => simp [intOf]; omega
              · obtain rfl : j = rn + sn := by omega
                have HPI : Hid (Ints wr (.slice (some ⟨WR.heap.size, 0, none⟩) F.length F.length) (stdTo F.length (1 + r0) (rn : Int) (rn + sn))) := by
                  have hl : (stdTo F.length (1 + r0) (rn : Int) (rn + sn)).length = F.length := stdTo_len _ _ _ _
                  have ho : Owns encI 1 3 WR.heap.size wr (.slice (some ⟨WR.heap.size, 0, none⟩) F.length F.length) (stdTo F.length (1 + r0) (rn : Int) (rn + sn)) := by
                    unfold Owns; rw [hl, flatI]; exact HOJ.out
                  exact Owns.slice ho encI_len (by omega)
                have HG := Lib.hid (fun (W : World) (fv pv : Value) h1 h2 => (HGO.out (rn + sn) W fv pv h1 h2).1 rfl)
                generalize stdTo F.length (1 + r0) (rn : Int) (rn + sn) = PP at *
                have a7 : IntKind.i64.wrap ((rn : Int) + (sn : Int) + 1) = (rn : Int) + (sn : Int) + 1 := IntWalk.i64_in _ ⟨by omega, by omega⟩
                have b3 : decide (((rn + sn : Nat) : Int) < (rn : Int) + (sn : Int) + 1) = true := decide_eq_true (by omega)
                have b4 : decide (rn + sn < rn + sn + 1) = true := decide_eq_true (by omega)
                have e1 : decide ((rn : Int) + (sn : Int) = (F.length : Int)) = true := decide_eq_true (by omega)
                have e2 : decide (rn + sn = F.length) = true := decide_eq_true (by omega)
                by_cases hJ : rn + sn < F.length
                · have b1 : decide (((rn + sn : Nat) : Int) < (F.length : Int)) = true := decide_eq_true (by omega)
                  have b2 : decide (rn + sn < F.length) = true := decide_eq_true hJ
                  have b8 : decide ((rn : Int) + (sn : Int) + 1 < (F.length : Int)) = true := decide_eq_true (by omega)
                  go_wp2_with fail
                  have d0 : wr.cell? ⟨w3.heap.size, 0, none⟩ = some (iv kk) := by rw [cell_of_row _ _ _ _ _ _ HRMI.out]; rfl
                  have d1 : wr.cell? ⟨w3.heap.size, 1, none⟩ = some (iv t) := by rw [cell_of_row _ _ _ _ _ _ HRMI.out]; rfl
                  have d2 : wr.cell? ⟨w3.heap.size, 2, none⟩ = some (iv bl) := by rw [cell_of_row _ _ _ _ _ _ HRMI.out]; rfl
                  have d3 : wr.cell? ⟨w3.heap.size, 3, none⟩ = some (iv bh) := by rw [cell_of_row _ _ _ _ _ _ HRMI.out]; rfl
                  have d4 : wr.cell? ⟨w3.heap.size, 4, none⟩ = some (iv h) := by rw [cell_of_row _ _ _ _ _ _ HRMI.out]; rfl
                  have d5 : wr.cell? ⟨w3.heap.size, 5, none⟩ = some (iv nl) := by rw [cell_of_row _ _ _ _ _ _ HRMI.out]; rfl
                  have d6 : wr.cell? ⟨w3.heap.size, 6, none⟩ = some (iv nh) := by rw [cell_of_row _ _ _ _ _ _ HRMI.out]; rfl
                  have hLi := HLI.out
                  have hPi := HPI.out
                  have hbi : Below wr.heap.size wr wr := Below.refl _ _
                  go_region_held3 (fun w' => w'.cell? ⟨w3.heap.size, 0, none⟩ = some (iv kk) ∧ w'.cell? ⟨w3.heap.size, 1, none⟩ = some (iv t) ∧ w'.cell? ⟨w3.heap.size, 2, none⟩ = some (iv bl) ∧ w'.cell? ⟨w3.heap.size, 3, none⟩ = some (iv bh) ∧ w'.cell? ⟨w3.heap.size, 4, none⟩ = some (iv h) ∧ w'.cell? ⟨w3.heap.size, 5, none⟩ = some (iv nl) ∧ w'.cell? ⟨w3.heap.size, 6, none⟩ = some (iv nh) ∧ SliceOf encS 2 w' (.slice (some ⟨lg, 0, none⟩) F.length lc) F ∧ Ints w' (.slice (some ⟨WR.heap.size, 0, none⟩) F.length F.length) PP ∧ Below wr.heap.size wr w')
                    (first | (go_split_ands; refine ⟨?_, ?_, ?_, ?_, ?_, ?_, ?_, ?_, ?_, ?_⟩ <;> first | assumption | exact kcell hbK (by assumption) | exact kfrozen hbK (by assumption) (by assumption) | exact bstep (by assumption) hbK | exact SliceOf.below (by assumption) hbK) | (refine ⟨?_, ?_, ?_, ?_, ?_, ?_, ?_, ?_, ?_, ?_⟩ <;> first | exact Below.drew (by assumption) | exact SliceOf.below (by assumption) ((Below.refl _ _).drew) | assumption))
                    (first | (go_split_ands; (with_reducible refine (HFO.out _ (by assumption)).mono ?_); rintro e wO ⟨vo, rfl, hoO, hbK⟩; have hSO := Owns.slice hoO encS_len hfm2) | (go_split_ands; (with_reducible refine (HG.out _ _ _ (by assumption) (by assumption)).mono ?_); rintro e wM2 ⟨q, rfl, hbK⟩))
                  rename_i hHeld
                  have HBG := Lib.hid (bstep (bstep HBR.out HBJ.out) hHeld.2.2.2.2.2.2.2.2.2)
                  clear hHeld hbi hbK hSO hoO d0 d1 d2 d3 d4 d5 d6 hLi hPi
                  go_wp2_with fail
                  all_goals
                    go_roundw
                    case rel => exact ⟨1 + 1, by omega, by go_num, HBG⟩
                    case measure => simp [intOf]
                · have b1 : decide (((rn + sn : Nat) : Int) < (F.length : Int)) = false := decide_eq_false (by omega)
                  have b2 : decide (rn + sn < F.length) = false := decide_eq_false hJ
                  have b8 : decide ((rn : Int) + (sn : Int) + 1 < (F.length : Int)) = false := decide_eq_false (by omega)
                  go_wp2_with fail
                  have d0 : wr.cell? ⟨w3.heap.size, 0, none⟩ = some (iv kk) := by rw [cell_of_row _ _ _ _ _ _ HRMI.out]; rfl
                  have d1 : wr.cell? ⟨w3.heap.size, 1, none⟩ = some (iv t) := by rw [cell_of_row _ _ _ _ _ _ HRMI.out]; rfl
                  have d2 : wr.cell? ⟨w3.heap.size, 2, none⟩ = some (iv bl) := by rw [cell_of_row _ _ _ _ _ _ HRMI.out]; rfl
                  have d3 : wr.cell? ⟨w3.heap.size, 3, none⟩ = some (iv bh) := by rw [cell_of_row _ _ _ _ _ _ HRMI.out]; rfl
                  have d4 : wr.cell? ⟨w3.heap.size, 4, none⟩ = some (iv h) := by rw [cell_of_row _ _ _ _ _ _ HRMI.out]; rfl
                  have d5 : wr.cell? ⟨w3.heap.size, 5, none⟩ = some (iv nl) := by rw [cell_of_row _ _ _ _ _ _ HRMI.out]; rfl
                  have d6 : wr.cell? ⟨w3.heap.size, 6, none⟩ = some (iv nh) := by rw [cell_of_row _ _ _ _ _ _ HRMI.out]; rfl
                  have hLi := HLI.out
                  have hPi := HPI.out
                  have hbi : Below wr.heap.size wr wr := Below.refl _ _
                  go_region_held3 (fun w' => w'.cell? ⟨w3.heap.size, 0, none⟩ = some (iv kk) ∧ w'.cell? ⟨w3.heap.size, 1, none⟩ = some (iv t) ∧ w'.cell? ⟨w3.heap.size, 2, none⟩ = some (iv bl) ∧ w'.cell? ⟨w3.heap.size, 3, none⟩ = some (iv bh) ∧ w'.cell? ⟨w3.heap.size, 4, none⟩ = some (iv h) ∧ w'.cell? ⟨w3.heap.size, 5, none⟩ = some (iv nl) ∧ w'.cell? ⟨w3.heap.size, 6, none⟩ = some (iv nh) ∧ SliceOf encS 2 w' (.slice (some ⟨lg, 0, none⟩) F.length lc) F ∧ Ints w' (.slice (some ⟨WR.heap.size, 0, none⟩) F.length F.length) PP ∧ Below wr.heap.size wr w')
                    (first | (go_split_ands; refine ⟨?_, ?_, ?_, ?_, ?_, ?_, ?_, ?_, ?_, ?_⟩ <;> first | assumption | exact kcell hbK (by assumption) | exact kfrozen hbK (by assumption) (by assumption) | exact bstep (by assumption) hbK | exact SliceOf.below (by assumption) hbK) | (refine ⟨?_, ?_, ?_, ?_, ?_, ?_, ?_, ?_, ?_, ?_⟩ <;> first | exact Below.drew (by assumption) | exact SliceOf.below (by assumption) ((Below.refl _ _).drew) | assumption))
                    (first | (go_split_ands; (with_reducible refine (HFO.out _ (by assumption)).mono ?_); rintro e wO ⟨vo, rfl, hoO, hbK⟩; have hSO := Owns.slice hoO encS_len hfm2) | (go_split_ands; (with_reducible refine (HG.out _ _ _ (by assumption) (by assumption)).mono ?_); rintro e wM2 ⟨q, rfl, hbK⟩))
                  rename_i hHeld
                  have HBG := Lib.hid (bstep (bstep HBR.out HBJ.out) hHeld.2.2.2.2.2.2.2.2.2)
                  clear hHeld hbi hbK hSO hoO d0 d1 d2 d3 d4 d5 d6 hLi hPi
                  go_wp2_with fail
                  all_goals
                    go_roundw
                    case rel => exact ⟨1 + 1, by omega, by go_num, HBG⟩
                    case measure => simp [intOf]
          · go_wp2_with (with_reducible change wpList _ _ _ (Oper.mk _ (Op.makeSlice 49 _ _) _ _ _ _ :: _) _ _; refine wpList_make_full _ rfl _ _ 49 rfl WR.heap.size 3 i0 (.int .i64 0) 1 Try.underlying49 HI.out HZ0.out HZ1.out .i64 .i64 F.length F.length F.length rfl rfl rfl rfl HBY.out HML.out (Nat.le_refl _) ?_; intro wp hown hgrow)
            have hown0 : wp.ownsRow WR.heap.size 3 1 (.slice (some ⟨WR.heap.size, 0, none⟩) F.length F.length) F.length ((stdTo F.length (1 + r0) (rn : Int) rn).map iv) := by
              rw [stdTo_start, stdTo_zero]
              have := toList_madeCells_one (.int .i64 0) F.length
              rw [← this]
              rw [Nat.mul_one] at hown
              exact hown
            have hbp : Below WR.heap.size WR wp := ⟨hgrow.os, hgrow.tape, hgrow.output, hgrow.size, fun q hq => hgrow.block q hq (by simp)⟩
            have HOW := Lib.hid hown0
            have HBP := Lib.hid hbp
            clear hown hgrow hown0 hbp
            go_wp2_with fail
            go_loopw [21] (fun i wr => ∃ j : Nat, rn ≤ j ∧ j ≤ rn + sn + 1 ∧ i = iv j ∧ Hid (wr.ownsRow WR.heap.size 3 1 (.slice (some ⟨WR.heap.size, 0, none⟩) F.length F.length) F.length ((stdTo F.length (1 + r0) (rn : Int) j).map iv)) ∧ Hid (Below WR.heap.size WR wr)) (fun i _ => rn + sn + 1 - (intOf i).toNat)
            case atStart => exact ⟨rn, Nat.le_refl _, by omega, rfl, HOW.out, HBP.out⟩
            case round =>
              obtain ⟨j, hj1, hj2, rfl, HOJ, HBJ⟩ := hrel
              have HLI := Lib.hid (HLR.out.below HBJ.out)
              have HRMI := Lib.hid (bblk HBJ.out HRMR.out)
              by_cases hlj : j < rn + sn + 1
              · have b1 : decide ((j : Int) < (F.length : Int)) = true := decide_eq_true (by omega)
                have b2 : decide (j < F.length) = true := decide_eq_true (by omega)
                have a7 : IntKind.i64.wrap ((rn : Int) + (sn : Int) + 1) = (rn : Int) + (sn : Int) + 1 := IntWalk.i64_in _ ⟨by omega, by omega⟩
                have b3 : decide ((j : Int) < (rn : Int) + (sn : Int) + 1) = true := decide_eq_true (by omega)
                have b4 : decide (j < rn + sn + 1) = true := decide_eq_true (by omega)
                have b5 : decide ((j : Int) ≤ (rn : Int) + (sn : Int)) = true := decide_eq_true (by omega)
                have b6 : decide (j ≤ rn + sn) = true := decide_eq_true (by omega)
                have hown := HOJ.out
                have hc : wr.cell? ⟨WR.heap.size, j, none⟩ = some (((stdTo F.length (1 + r0) (rn : Int) j).map iv).getD j undef) := by
                  rw [World.ownsRow.cellAt hown j (by omega)]
                  have : j < ((stdTo F.length (1 + r0) (rn : Int) j).map iv).length := by rw [List.length_map, stdTo_len]; omega
                  rw [List.getD_eq_getElem?_getD, List.getElem?_eq_getElem this]; rfl
                have hfz := World.ownsRow.frozenAt hown j
                have q0 : (0 : Int) ≤ (j : Int) := by omega
                have q1 : (j : Int) < (F.length : Int) := by omega
                generalize ((stdTo F.length (1 + r0) (rn : Int) j).map iv).getD j undef = old at *
                clear hown
                go_wp2_with fail
                go_roundw
                case rel => exact ⟨j + 1, by omega, by omega, by go_num, by rw [stdTo_yes (by omega)]; exact (World.ownsRow.stored HOJ.out j (iv (1 + r0))).1, bput HBJ.out (Nat.le_refl _) _⟩
                case measure => simp [intOf]; omega
              · obtain rfl : j = rn + sn + 1 := by omega
                have HPI : Hid (Ints wr (.slice (some ⟨WR.heap.size, 0, none⟩) F.length F.length) (stdTo F.length (1 + r0) (rn : Int) (rn + sn + 1))) := by
                  have hl : (stdTo F.length (1 + r0) (rn : Int) (rn + sn + 1)).length = F.length := stdTo_len _ _ _ _
                  have ho : Owns encI 1 3 WR.heap.size wr (.slice (some ⟨WR.heap.size, 0, none⟩) F.length F.length) (stdTo F.length (1 + r0) (rn : Int) (rn + sn + 1)) := by
                    unfold Owns; rw [hl, flatI]; exact HOJ.out
                  exact Owns.slice ho encI_len (by omega)
                have HG := Lib.hid (fun (W : World) (fv pv : Value) h1 h2 => (HGO.out (rn + sn + 1) W fv pv h1 h2).2 rfl (by omega))
                generalize stdTo F.length (1 + r0) (rn : Int) (rn + sn + 1) = PP at *
                have a7 : IntKind.i64.wrap ((rn : Int) + (sn : Int) + 1) = (rn : Int) + (sn : Int) + 1 := IntWalk.i64_in _ ⟨by omega, by omega⟩
                have b3 : decide (((rn + sn + 1 : Nat) : Int) < (rn : Int) + (sn : Int) + 1) = false := decide_eq_false (by omega)
                have b4 : decide (rn + sn + 1 < rn + sn + 1) = false := decide_eq_false (by omega)
                have b5 : decide ((rn : Int) + (sn : Int) + 1 < (rn : Int) + (sn : Int) + 1) = false := decide_eq_false (by omega)
                have e1 : decide ((rn : Int) + (sn : Int) = (F.length : Int)) = false := decide_eq_false (by omega)
                have e2 : decide (rn + sn = F.length) = false := decide_eq_false (by omega)
                by_cases hJ : rn + sn + 1 < F.length
                · have b1 : decide (((rn + sn + 1 : Nat) : Int) < (F.length : Int)) = true := decide_eq_true (by omega)
                  have b2 : decide (rn + sn + 1 < F.length) = true := decide_eq_true hJ
                  have b8 : decide ((rn : Int) + (sn : Int) + 1 < (F.length : Int)) = true := decide_eq_true (by omega)
                  go_wp2_with fail
                  have d0 : wr.cell? ⟨w3.heap.size, 0, none⟩ = some (iv kk) := by rw [cell_of_row _ _ _ _ _ _ HRMI.out]; rfl
                  have d1 : wr.cell? ⟨w3.heap.size, 1, none⟩ = some (iv t) := by rw [cell_of_row _ _ _ _ _ _ HRMI.out]; rfl
                  have d2 : wr.cell? ⟨w3.heap.size, 2, none⟩ = some (iv bl) := by rw [cell_of_row _ _ _ _ _ _ HRMI.out]; rfl
                  have d3 : wr.cell? ⟨w3.heap.size, 3, none⟩ = some (iv bh) := by rw [cell_of_row _ _ _ _ _ _ HRMI.out]; rfl
                  have d4 : wr.cell? ⟨w3.heap.size, 4, none⟩ = some (iv h) := by rw [cell_of_row _ _ _ _ _ _ HRMI.out]; rfl
                  have d5 : wr.cell? ⟨w3.heap.size, 5, none⟩ = some (iv nl) := by rw [cell_of_row _ _ _ _ _ _ HRMI.out]; rfl
                  have d6 : wr.cell? ⟨w3.heap.size, 6, none⟩ = some (iv nh) := by rw [cell_of_row _ _ _ _ _ _ HRMI.out]; rfl
                  have hLi := HLI.out
                  have hPi := HPI.out
                  have hbi : Below wr.heap.size wr wr := Below.refl _ _
                  go_region_held3 (fun w' => w'.cell? ⟨w3.heap.size, 0, none⟩ = some (iv kk) ∧ w'.cell? ⟨w3.heap.size, 1, none⟩ = some (iv t) ∧ w'.cell? ⟨w3.heap.size, 2, none⟩ = some (iv bl) ∧ w'.cell? ⟨w3.heap.size, 3, none⟩ = some (iv bh) ∧ w'.cell? ⟨w3.heap.size, 4, none⟩ = some (iv h) ∧ w'.cell? ⟨w3.heap.size, 5, none⟩ = some (iv nl) ∧ w'.cell? ⟨w3.heap.size, 6, none⟩ = some (iv nh) ∧ SliceOf encS 2 w' (.slice (some ⟨lg, 0, none⟩) F.length lc) F ∧ Ints w' (.slice (some ⟨WR.heap.size, 0, none⟩) F.length F.length) PP ∧ Below wr.heap.size wr w')
                    (first | (go_split_ands; refine ⟨?_, ?_, ?_, ?_, ?_, ?_, ?_, ?_, ?_, ?_⟩ <;> first | assumption | exact kcell hbK (by assumption) | exact kfrozen hbK (by assumption) (by assumption) | exact bstep (by assumption) hbK | exact SliceOf.below (by assumption) hbK) | (refine ⟨?_, ?_, ?_, ?_, ?_, ?_, ?_, ?_, ?_, ?_⟩ <;> first | exact Below.drew (by assumption) | exact SliceOf.below (by assumption) ((Below.refl _ _).drew) | assumption))
                    (first | (go_split_ands; (with_reducible refine (HFO.out _ (by assumption)).mono ?_); rintro e wO ⟨vo, rfl, hoO, hbK⟩; have hSO := Owns.slice hoO encS_len hfm2) | (go_split_ands; (with_reducible refine (HG.out _ _ _ (by assumption) (by assumption)).mono ?_); rintro e wM2 ⟨q, rfl, hbK⟩))
                  rename_i hHeld
                  have HBG := Lib.hid (bstep (bstep HBR.out HBJ.out) hHeld.2.2.2.2.2.2.2.2.2)
                  clear hHeld hbi hbK hSO hoO d0 d1 d2 d3 d4 d5 d6 hLi hPi
                  go_wp2_with fail
                  all_goals
                    go_roundw
                    case rel => exact ⟨1 + 1, by omega, by go_num, HBG⟩
                    case measure => simp [intOf]
                · have b1 : decide (((rn + sn + 1 : Nat) : Int) < (F.length : Int)) = false := decide_eq_false (by omega)
                  have b2 : decide (rn + sn + 1 < F.length) = false := decide_eq_false hJ
                  have b8 : decide ((rn : Int) + (sn : Int) + 1 < (F.length : Int)) = false := decide_eq_false (by omega)
                  go_wp2_with fail
                  have d0 : wr.cell? ⟨w3.heap.size, 0, none⟩ = some (iv kk) := by rw [cell_of_row _ _ _ _ _ _ HRMI.out]; rfl
                  have d1 : wr.cell? ⟨w3.heap.size, 1, none⟩ = some (iv t) := by rw [cell_of_row _ _ _ _ _ _ HRMI.out]; rfl
                  have d2 : wr.cell? ⟨w3.heap.size, 2, none⟩ = some (iv bl) := by rw [cell_of_row _ _ _ _ _ _ HRMI.out]; rfl
                  have d3 : wr.cell? ⟨w3.heap.size, 3, none⟩ = some (iv bh) := by rw [cell_of_row _ _ _ _ _ _ HRMI.out]; rfl
                  have d4 : wr.cell? ⟨w3.heap.size, 4, none⟩ = some (iv h) := by rw [cell_of_row _ _ _ _ _ _ HRMI.out]; rfl
                  have d5 : wr.cell? ⟨w3.heap.size, 5, none⟩ = some (iv nl) := by rw [cell_of_row _ _ _ _ _ _ HRMI.out]; rfl
                  have d6 : wr.cell? ⟨w3.heap.size, 6, none⟩ = some (iv nh) := by rw [cell_of_row _ _ _ _ _ _ HRMI.out]; rfl
                  have hLi := HLI.out
                  have hPi := HPI.out
                  have hbi : Below wr.heap.size wr wr := Below.refl _ _
                  go_region_held3 (fun w' => w'.cell? ⟨w3.heap.size, 0, none⟩ = some (iv kk) ∧ w'.cell? ⟨w3.heap.size, 1, none⟩ = some (iv t) ∧ w'.cell? ⟨w3.heap.size, 2, none⟩ = some (iv bl) ∧ w'.cell? ⟨w3.heap.size, 3, none⟩ = some (iv bh) ∧ w'.cell? ⟨w3.heap.size, 4, none⟩ = some (iv h) ∧ w'.cell? ⟨w3.heap.size, 5, none⟩ = some (iv nl) ∧ w'.cell? ⟨w3.heap.size, 6, none⟩ = some (iv nh) ∧ SliceOf encS 2 w' (.slice (some ⟨lg, 0, none⟩) F.length lc) F ∧ Ints w' (.slice (some ⟨WR.heap.size, 0, none⟩) F.length F.length) PP ∧ Below wr.heap.size wr w')
                    (first | (go_split_ands; refine ⟨?_, ?_, ?_, ?_, ?_, ?_, ?_, ?_, ?_, ?_⟩ <;> first | assumption | exact kcell hbK (by assumption) | exact kfrozen hbK (by assumption) (by assumption) | exact bstep (by assumption) hbK | exact SliceOf.below (by assumption) hbK) | (refine ⟨?_, ?_, ?_, ?_, ?_, ?_, ?_, ?_, ?_, ?_⟩ <;> first | exact Below.drew (by assumption) | exact SliceOf.below (by assumption) ((Below.refl _ _).drew) | assumption))
                    (first | (go_split_ands; (with_reducible refine (HFO.out _ (by assumption)).mono ?_); rintro e wO ⟨vo, rfl, hoO, hbK⟩; have hSO := Owns.slice hoO encS_len hfm2) | (go_split_ands; (with_reducible refine (HG.out _ _ _ (by assumption) (by assumption)).mono ?_); rintro e wM2 ⟨q, rfl, hbK⟩))
                  rename_i hHeld
                  have HBG := Lib.hid (bstep (bstep HBR.out HBJ.out) hHeld.2.2.2.2.2.2.2.2.2)
                  clear hHeld hbi hbK hSO hoO d0 d1 d2 d3 d4 d5 d6 hLi hPi
                  go_wp2_with fail
                  all_goals
                    go_roundw
                    case rel => exact ⟨1 + 1, by omega, by go_num, HBG⟩
                    case measure => simp [intOf]
      · obtain rfl : k = 2 := by omega
        go_wp2_with fail
        refine (elmFulled_any _).mono ?_
        rintro e w8 ⟨rfl, hb8⟩
        go_wp2_with fail
        refine (elmWater_any _).mono ?_
        rintro e w9 ⟨rfl, hb9⟩
        go_wp2_with fail
        go_ret
        exact ⟨rfl, bstep (bstep (bstep HB7.out HBR.out) hb8) hb9⟩
  · go_wp2_with fail
    clear a1 a2 a3 a4 a5 a6
    have a4 : IntKind.i64.wrap ((rn : Int) + (sn : Int)) = (rn : Int) + (sn : Int) := IntWalk.i64_in _ ⟨by omega, by omega⟩
    go_loopw [19] (fun i wr => ∃ k : Nat, k ≤ 2 ∧ i = iv k ∧ Hid (Below w7.heap.size w7 wr)) (fun i _ => 2 - (intOf i).toNat)
    case atStart => exact ⟨0, by omega, rfl, Below.refl _ _⟩
    case round =>
      obtain ⟨k, hk, rfl, HBR⟩ := hrel
      rename World => WR
      have HLR := Lib.hid (HL7.out.below HBR.out)
      have HRMR := Lib.hid (bblk HBR.out HRM7.out)
      by_cases hlt : k < 2
      · obtain rfl | rfl : k = 0 ∨ k = 1 := by omega
        · go_wp2_with (with_reducible change wpList _ _ _ (Oper.mk _ (Op.makeSlice 49 _ _) _ _ _ _ :: _) _ _; refine wpList_make_full _ rfl _ _ 49 rfl WR.heap.size 3 i0 (.int .i64 0) 1 Try.underlying49 HI.out HZ0.out HZ1.out .i64 .i64 F.length F.length F.length rfl rfl rfl rfl HBY.out HML.out (Nat.le_refl _) ?_; intro wp hown hgrow)
          have hown0 : wp.ownsRow WR.heap.size 3 1 (.slice (some ⟨WR.heap.size, 0, none⟩) F.length F.length) F.length ((stdTo F.length (1 + r0) (rn : Int) rn).map iv) := by
            rw [stdTo_start, stdTo_zero]
            have := toList_madeCells_one (.int .i64 0) F.length
            rw [← this]
            rw [Nat.mul_one] at hown
            exact hown
          have hbp : Below WR.heap.size WR wp := ⟨hgrow.os, hgrow.tape, hgrow.output, hgrow.size, fun q hq => hgrow.block q hq (by simp)⟩
          have HOW := Lib.hid hown0
          have HBP := Lib.hid hbp
          clear hown hgrow hown0 hbp
          go_wp2_with fail
          go_loopw [21] (fun i wr => ∃ j : Nat, rn ≤ j ∧ j ≤ rn + sn ∧ i = iv j ∧ Hid (wr.ownsRow WR.heap.size 3 1 (.slice (some ⟨WR.heap.size, 0, none⟩) F.length F.length) F.length ((stdTo F.length (1 + r0) (rn : Int) j).map iv)) ∧ Hid (Below WR.heap.size WR wr)) (fun i _ => rn + sn - (intOf i).toNat)
          case atStart => exact ⟨rn, Nat.le_refl _, by omega, rfl, HOW.out, HBP.out⟩
          case round =>
            obtain ⟨j, hj1, hj2, rfl, HOJ, HBJ⟩ := hrel
            have HLI := Lib.hid (HLR.out.below HBJ.out)
            have HRMI := Lib.hid (bblk HBJ.out HRMR.out)
            by_cases hlj : j < rn + sn
            · have b1 : decide ((j : Int) < (F.length : Int)) = true := decide_eq_true (by omega)
              have b2 : decide (j < F.length) = true := decide_eq_true (by omega)
              have b3 : decide ((j : Int) < (rn : Int) + (sn : Int)) = true := decide_eq_true (by omega)
              have b4 : decide (j < rn + sn) = true := decide_eq_true (by omega)
              have hown := HOJ.out
              have hc : wr.cell? ⟨WR.heap.size, j, none⟩ = some (((stdTo F.length (1 + r0) (rn : Int) j).map iv).getD j undef) := by
                rw [World.ownsRow.cellAt hown j (by omega)]
                have : j < ((stdTo F.length (1 + r0) (rn : Int) j).map iv).length := by rw [List.length_map, stdTo_len]; omega
                rw [List.getD_eq_getElem?_getD, List.getElem?_eq_getElem this]; rfl
              have hfz := World.ownsRow.frozenAt hown j
              have q0 : (0 : Int) ≤ (j : Int) := by omega
              have q1 : (j : Int) < (F.length : Int) := by omega
              generalize ((stdTo F.length (1 + r0) (rn : Int) j).map iv).getD j undef = old at *
              clear hown
              go_wp2_with fail
              go_roundw
              case rel => exact ⟨j + 1, by omega, by omega, by go_num, by rw [stdTo_yes (by omega)]; exact (World.ownsRow.stored HOJ.out j (iv (1 + r0))).1, bput HBJ.out (Nat.le_refl _) _⟩
              case measure => simp [intOf]; omega
            · obtain rfl : j = rn + sn := by omega
              have HPI : Hid (Ints wr (.slice (some ⟨WR.heap.size, 0, none⟩) F.length F.length) (stdTo F.length (1 + r0) (rn : Int) (rn + sn))) := by
                have hl : (stdTo F.length (1 + r0) (rn : Int) (rn + sn)).length = F.length := stdTo_len _ _ _ _
                have ho : Owns encI 1 3 WR.heap.size wr (.slice (some ⟨WR.heap.size, 0, none⟩) F.length F.length) (stdTo F.length (1 + r0) (rn : Int) (rn + sn)) := by
                  unfold Owns; rw [hl, flatI]; exact HOJ.out
                exact Owns.slice ho encI_len (by omega)
              have HG := Lib.hid (fun (W : World) (fv pv : Value) h1 h2 => (HGO.out (rn + sn) W fv pv h1 h2).1 rfl)
              generalize stdTo F.length (1 + r0) (rn : Int) (rn + sn) = PP at *
              have b3 : decide (((rn + sn : Nat) : Int) < (rn : Int) + (sn : Int)) = false := decide_eq_false (by omega)
              have b4 : decide (rn + sn < rn + sn) = false := decide_eq_false (by omega)
              have b5 : decide ((rn : Int) + (sn : Int) < (rn : Int) + (sn : Int)) = false := decide_eq_false (by omega)
              by_cases hJ : rn + sn < F.length
              · have b1 : decide (((rn + sn : Nat) : Int) < (F.length : Int)) = true := decide_eq_true (by omega)
                have b2 : decide (rn + sn < F.length) = true := decide_eq_true hJ
                have b8 : decide ((rn : Int) + (sn : Int) + 0 < (F.length : Int)) = true := decide_eq_true (by omega)
                go_wp2_with fail
                have d0 : wr.cell? ⟨w3.heap.size, 0, none⟩ = some (iv kk) := by rw [cell_of_row _ _ _ _ _ _ HRMI.out]; rfl
                have d1 : wr.cell? ⟨w3.heap.size, 1, none⟩ = some (iv t) := by rw [cell_of_row _ _ _ _ _ _ HRMI.out]; rfl
                have d2 : wr.cell? ⟨w3.heap.size, 2, none⟩ = some (iv bl) := by rw [cell_of_row _ _ _ _ _ _ HRMI.out]; rfl
                have d3 : wr.cell? ⟨w3.heap.size, 3, none⟩ = some (iv bh) := by rw [cell_of_row _ _ _ _ _ _ HRMI.out]; rfl
                have d4 : wr.cell? ⟨w3.heap.size, 4, none⟩ = some (iv h) := by rw [cell_of_row _ _ _ _ _ _ HRMI.out]; rfl
                have d5 : wr.cell? ⟨w3.heap.size, 5, none⟩ = some (iv nl) := by rw [cell_of_row _ _ _ _ _ _ HRMI.out]; rfl
                have d6 : wr.cell? ⟨w3.heap.size, 6, none⟩ = some (iv nh) := by rw [cell_of_row _ _ _ _ _ _ HRMI.out]; rfl
                have hLi := HLI.out
                have hPi := HPI.out
                have hbi : Below wr.heap.size wr wr := Below.refl _ _
                go_region_held3 (fun w' => w'.cell? ⟨w3.heap.size, 0, none⟩ = some (iv kk) ∧ w'.cell? ⟨w3.heap.size, 1, none⟩ = some (iv t) ∧ w'.cell? ⟨w3.heap.size, 2, none⟩ = some (iv bl) ∧ w'.cell? ⟨w3.heap.size, 3, none⟩ = some (iv bh) ∧ w'.cell? ⟨w3.heap.size, 4, none⟩ = some (iv h) ∧ w'.cell? ⟨w3.heap.size, 5, none⟩ = some (iv nl) ∧ w'.cell? ⟨w3.heap.size, 6, none⟩ = some (iv nh) ∧ SliceOf encS 2 w' (.slice (some ⟨lg, 0, none⟩) F.length lc) F ∧ Ints w' (.slice (some ⟨WR.heap.size, 0, none⟩) F.length F.length) PP ∧ Below wr.heap.size wr w')
                  (first | (go_split_ands; refine ⟨?_, ?_, ?_, ?_, ?_, ?_, ?_, ?_, ?_, ?_⟩ <;> first | assumption | exact kcell hbK (by assumption) | exact kfrozen hbK (by assumption) (by assumption) | exact bstep (by assumption) hbK | exact SliceOf.below (by assumption) hbK) | (refine ⟨?_, ?_, ?_, ?_, ?_, ?_, ?_, ?_, ?_, ?_⟩ <;> first | exact Below.drew (by assumption) | exact SliceOf.below (by assumption) ((Below.refl _ _).drew) | assumption))
                  (first | (go_split_ands; (with_reducible refine (HFO.out _ (by assumption)).mono ?_); rintro e wO ⟨vo, rfl, hoO, hbK⟩; have hSO := Owns.slice hoO encS_len hfm2) | (go_split_ands; (with_reducible refine (HG.out _ _ _ (by assumption) (by assumption)).mono ?_); rintro e wM2 ⟨q, rfl, hbK⟩))
                rename_i hHeld
                have HBG := Lib.hid (bstep (bstep HBR.out HBJ.out) hHeld.2.2.2.2.2.2.2.2.2)
                clear hHeld hbi hbK hSO hoO d0 d1 d2 d3 d4 d5 d6 hLi hPi
                go_wp2_with fail
                all_goals
                  go_roundw
                  case rel => exact ⟨0 + 1, by omega, by go_num, HBG⟩
                  case measure => simp [intOf]
              · have b1 : decide (((rn + sn : Nat) : Int) < (F.length : Int)) = false := decide_eq_false (by omega)
                have b2 : decide (rn + sn < F.length) = false := decide_eq_false hJ
                have b8 : decide ((rn : Int) + (sn : Int) + 0 < (F.length : Int)) = false := decide_eq_false (by omega)
                go_wp2_with fail
                have d0 : wr.cell? ⟨w3.heap.size, 0, none⟩ = some (iv kk) := by rw [cell_of_row _ _ _ _ _ _ HRMI.out]; rfl
                have d1 : wr.cell? ⟨w3.heap.size, 1, none⟩ = some (iv t) := by rw [cell_of_row _ _ _ _ _ _ HRMI.out]; rfl
                have d2 : wr.cell? ⟨w3.heap.size, 2, none⟩ = some (iv bl) := by rw [cell_of_row _ _ _ _ _ _ HRMI.out]; rfl
                have d3 : wr.cell? ⟨w3.heap.size, 3, none⟩ = some (iv bh) := by rw [cell_of_row _ _ _ _ _ _ HRMI.out]; rfl
                have d4 : wr.cell? ⟨w3.heap.size, 4, none⟩ = some (iv h) := by rw [cell_of_row _ _ _ _ _ _ HRMI.out]; rfl
                have d5 : wr.cell? ⟨w3.heap.size, 5, none⟩ = some (iv nl) := by rw [cell_of_row _ _ _ _ _ _ HRMI.out]; rfl
                have d6 : wr.cell? ⟨w3.heap.size, 6, none⟩ = some (iv nh) := by rw [cell_of_row _ _ _ _ _ _ HRMI.out]; rfl
                have hLi := HLI.out
                have hPi := HPI.out
                have hbi : Below wr.heap.size wr wr := Below.refl _ _
                go_region_held3 (fun w' => w'.cell? ⟨w3.heap.size, 0, none⟩ = some (iv kk) ∧ w'.cell? ⟨w3.heap.size, 1, none⟩ = some (iv t) ∧ w'.cell? ⟨w3.heap.size, 2, none⟩ = some (iv bl) ∧ w'.cell? ⟨w3.heap.size, 3, none⟩ = some (iv bh) ∧ w'.cell? ⟨w3.heap.size, 4, none⟩ = some (iv h) ∧ w'.cell? ⟨w3.heap.size, 5, none⟩ = some (iv nl) ∧ w'.cell? ⟨w3.heap.size, 6, none⟩ = some (iv nh) ∧ SliceOf encS 2 w' (.slice (some ⟨lg, 0, none⟩) F.length lc) F ∧ Ints w' (.slice (some ⟨WR.heap.size, 0, none⟩) F.length F.length) PP ∧ Below wr.heap.size wr w')
                  (first | (go_split_ands; refine ⟨?_, ?_, ?_, ?_, ?_, ?_, ?_, ?_, ?_, ?_⟩ <;> first | assumption | exact kcell hbK (by assumption) | exact kfrozen hbK (by assumption) (by assumption) | exact bstep (by assumption) hbK | exact SliceOf.below (by assumption) hbK) | (refine ⟨?_, ?_, ?_, ?_, ?_, ?_, ?_, ?_, ?_, ?_⟩ <;> first | exact Below.drew (by assumption) | exact SliceOf.below (by assumption) ((Below.refl _ _).drew) | assumption))
                  (first | (go_split_ands; (with_reducible refine (HFO.out _ (by assumption)).mono ?_); rintro e wO ⟨vo, rfl, hoO, hbK⟩; have hSO := Owns.slice hoO encS_len hfm2) | (go_split_ands; (with_reducible refine (HG.out _ _ _ (by assumption) (by assumption)).mono ?_); rintro e wM2 ⟨q, rfl, hbK⟩))
                rename_i hHeld
                have HBG := Lib.hid (bstep (bstep HBR.out HBJ.out) hHeld.2.2.2.2.2.2.2.2.2)
                clear hHeld hbi hbK hSO hoO d0 d1 d2 d3 d4 d5 d6 hLi hPi
                go_wp2_with fail
                all_goals
                  go_roundw
                  case rel => exact ⟨0 + 1, by omega, by go_num, HBG⟩
                  case measure => simp [intOf]
        · by_cases hN : rn + sn = F.length
          · go_wp2_with (with_reducible change wpList _ _ _ (Oper.mk _ (Op.makeSlice 49 _ _) _ _ _ _ :: _) _ _; refine wpList_make_full _ rfl _ _ 49 rfl WR.heap.size 3 i0 (.int .i64 0) 1 Try.underlying49 HI.out HZ0.out HZ1.out .i64 .i64 F.length F.length F.length rfl rfl rfl rfl HBY.out HML.out (Nat.le_refl _) ?_; intro wp hown hgrow)
            have hown0 : wp.ownsRow WR.heap.size 3 1 (.slice (some ⟨WR.heap.size, 0, none⟩) F.length F.length) F.length ((stdTo F.length (1 + r0) (rn : Int) rn).map iv) := by
              rw [stdTo_start, stdTo_zero]
              have := toList_madeCells_one (.int .i64 0) F.length
              rw [← this]
              rw [Nat.mul_one] at hown
              exact hown
            have hbp : Below WR.heap.size WR wp := ⟨hgrow.os, hgrow.tape, hgrow.output, hgrow.size, fun q hq => hgrow.block q hq (by simp)⟩
            have HOW := Lib.hid hown0
            have HBP := Lib.hid hbp
            clear hown hgrow hown0 hbp
            go_wp2_with fail
            go_loopw [21] (fun i wr => ∃ j : Nat, rn ≤ j ∧ j ≤ rn + sn ∧ i = iv j ∧ Hid (wr.ownsRow WR.heap.size 3 1 (.slice (some ⟨WR.heap.size, 0, none⟩) F.length F.length) F.length ((stdTo F.length (1 + r0) (rn : Int) j).map iv)) ∧ Hid (Below WR.heap.size WR wr)) (fun i _ => rn + sn - (intOf i).toNat)
            case atStart => exact ⟨rn, Nat.le_refl _, by omega, rfl, HOW.out, HBP.out⟩
            case round =>
              obtain ⟨j, hj1, hj2, rfl, HOJ, HBJ⟩ := hrel
              have HLI := Lib.hid (HLR.out.below HBJ.out)
              have HRMI := Lib.hid (bblk HBJ.out HRMR.out)
              by_cases hlj : j < rn + sn
              · have b1 : decide ((j : Int) < (F.length : Int)) = true := decide_eq_true (by omega)
                have b2 : decide (j < F.length) = true := decide_eq_true (by omega)
                have a7 : IntKind.i64.wrap ((rn : Int) + (sn : Int) + 1) = (rn : Int) + (sn : Int) + 1 := IntWalk.i64_in _ ⟨by omega, by omega⟩
                have b3 : decide ((j : Int) < (rn : Int) + (sn : Int) + 1) = true := decide_eq_true (by omega)
                have b4 : decide (j < rn + sn + 1) = true := decide_eq_true (by omega)
                have b5 : decide ((j : Int) ≤ (rn : Int) + (sn : Int)) = true := decide_eq_true (by omega)
                have b6 : decide (j ≤ rn + sn) = true := decide_eq_true (by omega)
                have hown := HOJ.out
                have hc : wr.cell? ⟨WR.heap.size, j, none⟩ = some (((stdTo F.length (1 + r0) (rn : Int) j).map iv).getD j undef) := by
                  rw [World.ownsRow.cellAt hown j (by omega)]
                  have : j < ((stdTo F.length (1 + r0) (rn : Int) j).map iv).length := by rw [List.length_map, stdTo_len]; omega
                  rw [List.getD_eq_getElem?_getD, List.getElem?_eq_getElem this]; rfl
                have hfz := World.ownsRow.frozenAt hown j
                have q0 : (0 : Int) ≤ (j : Int) := by omega
                have q1 : (j : Int) < (F.length : Int) := by omega
                generalize ((stdTo F.length (1 + r0) (rn : Int) j).map iv).getD j undef = old at *
                clear hown
                go_wp2_with fail
                go_roundw
                case rel => exact ⟨j + 1, by omega, by omega, by go_num, by rw [stdTo_yes (by omega)]; exact (World.ownsRow.stored HOJ.out j (iv (1 + r0))).1, bput HBJ.out (Nat.le_refl _) _⟩
                case measure => simp [intOf]; omega
              · obtain rfl : j = rn + sn := by omega
                have HPI : Hid (Ints wr (.slice (some ⟨WR.heap.size, 0, none⟩) F.length F.length) (stdTo F.length (1 + r0) (rn : Int) (rn + sn))) := by
                  have hl : (stdTo F.length (1 + r0) (rn : Int) (rn + sn)).length = F.length := stdTo_len _ _ _ _
                  have ho : Owns encI 1 3 WR.heap.size wr (.slice (some ⟨WR.heap.size, 0, none⟩) F.length F.length) (stdTo F.length (1 + r0) (rn : Int) (rn + sn)) := by
                    unfold Owns; rw [hl, flatI]; exact HOJ.out
                  exact Owns.slice ho encI_len (by omega)
                have HG := Lib.hid (fun (W : World) (fv pv : Value) h1 h2 => (HGO.out (rn + sn) W fv pv h1 h2).1 rfl)
                generalize stdTo F.length (1 + r0) (rn : Int) (rn + sn) = PP at *
                have a7 : IntKind.i64.wrap ((rn : Int) + (sn : Int) + 1) = (rn : Int) + (sn : Int) + 1 := IntWalk.i64_in _ ⟨by omega, by omega⟩
                have b3 : decide (((rn + sn : Nat) : Int) < (rn : Int) + (sn : Int) + 1) = true := decide_eq_true (by omega)
                have b4 : decide (rn + sn < rn + sn + 1) = true := decide_eq_true (by omega)
                have e1 : decide ((rn : Int) + (sn : Int) = (F.length : Int)) = true := decide_eq_true (by omega)
                have e2 : decide (rn + sn = F.length) = true := decide_eq_true (by omega)
                by_cases hJ : rn + sn < F.length
                · have b1 : decide (((rn + sn : Nat) : Int) < (F.length : Int)) = true := decide_eq_true (by omega)
                  have b2 : decide (rn + sn < F.length) = true := decide_eq_true hJ
                  have b8 : decide ((rn : Int) + (sn : Int) + 1 < (F.length : Int)) = true := decide_eq_true (by omega)
                  go_wp2_with fail
                  have d0 : wr.cell? ⟨w3.heap.size, 0, none⟩ = some (iv kk) := by rw [cell_of_row _ _ _ _ _ _ HRMI.out]; rfl
                  have d1 : wr.cell? ⟨w3.heap.size, 1, none⟩ = some (iv t) := by rw [cell_of_row _ _ _ _ _ _ HRMI.out]; rfl
                  have d2 : wr.cell? ⟨w3.heap.size, 2, none⟩ = some (iv bl) := by rw [cell_of_row _ _ _ _ _ _ HRMI.out]; rfl
                  have d3 : wr.cell? ⟨w3.heap.size, 3, none⟩ = some (iv bh) := by rw [cell_of_row _ _ _ _ _ _ HRMI.out]; rfl
                  have d4 : wr.cell? ⟨w3.heap.size, 4, none⟩ = some (iv h) := by rw [cell_of_row _ _ _ _ _ _ HRMI.out]; rfl
                  have d5 : wr.cell? ⟨w3.heap.size, 5, none⟩ = some (iv nl) := by rw [cell_of_row _ _ _ _ _ _ HRMI.out]; rfl
                  have d6 : wr.cell? ⟨w3.heap.size, 6, none⟩ = some (iv nh) := by rw [cell_of_row _ _ _ _ _ _ HRMI.out]; rfl
                  have hLi := HLI.out
                  have hPi := HPI.out
                  have hbi : Below wr.heap.size wr wr := Below.refl _ _
                  go_region_held3 (fun w' => w'.cell? ⟨w3.heap.size, 0, none⟩ = some (iv kk) ∧ w'.cell? ⟨w3.heap.size, 1, none⟩ = some (iv t) ∧ w'.cell? ⟨w3.heap.size, 2, none⟩ = some (iv bl) ∧ w'.cell? ⟨w3.heap.size, 3, none⟩ = some (iv bh) ∧ w'.cell? ⟨w3.heap.size, 4, none⟩ = some (iv h) ∧ w'.cell? ⟨w3.heap.size, 5, none⟩ = some (iv nl) ∧ w'.cell? ⟨w3.heap.size, 6, none⟩ = some (iv nh) ∧ SliceOf encS 2 w' (.slice (some ⟨lg, 0, none⟩) F.length lc) F ∧ Ints w' (.slice (some ⟨WR.heap.size, 0, none⟩) F.length F.length) PP ∧ Below wr.heap.size wr w')
                    (first | (go_split_ands; refine ⟨?_, ?_, ?_, ?_, ?_, ?_, ?_, ?_, ?_, ?_⟩ <;> first | assumption | exact kcell hbK (by assumption) | exact kfrozen hbK (by assumption) (by assumption) | exact bstep (by assumption) hbK | exact SliceOf.below (by assumption) hbK) | (refine ⟨?_, ?_, ?_, ?_, ?_, ?_, ?_, ?_, ?_, ?_⟩ <;> first | exact Below.drew (by assumption) | exact SliceOf.below (by assumption) ((Below.refl _ _).drew) | assumption))
                    (first | (go_split_ands; (with_reducible refine (HFO.out _ (by assumption)).mono ?_); rintro e wO ⟨vo, rfl, hoO, hbK⟩; have hSO := Owns.slice hoO encS_len hfm2) | (go_split_ands; (with_reducible refine (HG.out _ _ _ (by assumption) (by assumption)).mono ?_); rintro e wM2 ⟨q, rfl, hbK⟩))
                  rename_i hHeld
                  have HBG := Lib.hid (bstep (bstep HBR.out HBJ.out) hHeld.2.2.2.2.2.2.2.2.2)
                  clear hHeld hbi hbK hSO hoO d0 d1 d2 d3 d4 d5 d6 hLi hPi
                  go_wp2_with fail
                  all_goals
                    go_roundw
                    case rel => exact ⟨1 + 1, by omega, by go_num, HBG⟩
                    case measure => simp [intOf]
                · have b1 : decide (((rn + sn : Nat) : Int) < (F.length : Int)) = false := decide_eq_false (by omega)
                  have b2 : decide (rn + sn < F.length) = false := decide_eq_false hJ
                  have b8 : decide ((rn : Int) + (sn : Int) + 1 < (F.length : Int)) = false := decide_eq_false (by omega)
                  go_wp2_with fail
                  have d0 : wr.cell? ⟨w3.heap.size, 0, none⟩ = some (iv kk) := by rw [cell_of_row _ _ _ _ _ _ HRMI.out]; rfl
                  have d1 : wr.cell? ⟨w3.heap.size, 1, none⟩ = some (iv t) := by rw [cell_of_row _ _ _ _ _ _ HRMI.out]; rfl
                  have d2 : wr.cell? ⟨w3.heap.size, 2, none⟩ = some (iv bl) := by rw [cell_of_row _ _ _ _ _ _ HRMI.out]; rfl
                  have d3 : wr.cell? ⟨w3.heap.size, 3, none⟩ = some (iv bh) := by rw [cell_of_row _ _ _ _ _ _ HRMI.out]; rfl
                  have d4 : wr.cell? ⟨w3.heap.size, 4, none⟩ = some (iv h) := by rw [cell_of_row _ _ _ _ _ _ HRMI.out]; rfl
                  have d5 : wr.cell? ⟨w3.heap.size, 5, none⟩ = some (iv nl) := by rw [cell_of_row _ _ _ _ _ _ HRMI.out]; rfl
                  have d6 : wr.cell? ⟨w3.heap.size, 6, none⟩ = some (iv nh) := by rw [cell_of_row _ _ _ _ _ _ HRMI.out]; rfl
                  have hLi := HLI.out
                  have hPi := HPI.out
                  have hbi : Below wr.heap.size wr wr := Below.refl _ _
                  go_region_held3 (fun w' => w'.cell? ⟨w3.heap.size, 0, none⟩ = some (iv kk) ∧ w'.cell? ⟨w3.heap.size, 1, none⟩ = some (iv t) ∧ w'.cell? ⟨w3.heap.size, 2, none⟩ = some (iv bl) ∧ w'.cell? ⟨w3.heap.size, 3, none⟩ = some (iv bh) ∧ w'.cell? ⟨w3.heap.size, 4, none⟩ = some (iv h) ∧ w'.cell? ⟨w3.heap.size, 5, none⟩ = some (iv nl) ∧ w'.cell? ⟨w3.heap.size, 6, none⟩ = some (iv nh) ∧ SliceOf encS 2 w' (.slice (some ⟨lg, 0, none⟩) F.length lc) F ∧ Ints w' (.slice (some ⟨WR.heap.size, 0, none⟩) F.length F.length) PP ∧ Below wr.heap.size wr w')
                    (first | (go_split_ands; refine ⟨?_, ?_, ?_, ?_, ?_, ?_, ?_, ?_, ?_, ?_⟩ <;> first | assumption | exact kcell hbK (by assumption) | exact kfrozen hbK (by assumption) (by assumption) | exact bstep (by assumption) hbK | exact SliceOf.below (by assumption) hbK) | (refine ⟨?_, ?_, ?_, ?_, ?_, ?_, ?_, ?_, ?_, ?_⟩ <;> first | exact Below.drew (by assumption) | exact SliceOf.below (by assumption) ((Below.refl _ _).drew) | assumption))
                    (first | (go_split_ands; (with_reducible refine (HFO.out _ (by assumption)).mono ?_); rintro e wO ⟨vo, rfl, hoO, hbK⟩; have hSO := Owns.slice hoO encS_len hfm2) | (go_split_ands; (with_reducible refine (HG.out _ _ _ (by assumption) (by assumption)).mono ?_); rintro e wM2 ⟨q, rfl, hbK⟩))
                  rename_i hHeld
                  have HBG := Lib.hid (bstep (bstep HBR.out HBJ.out) hHeld.2.2.2.2.2.2.2.2.2)
                  clear hHeld hbi hbK hSO hoO d0 d1 d2 d3 d4 d5 d6 hLi hPi
                  go_wp2_with fail
                  all_goals
                    go_roundw
                    case rel => exact ⟨1 + 1, by omega, by go_num, HBG⟩
                    case measure => simp [intOf]
          · go_wp2_with (with_reducible change wpList _ _ _ (Oper.mk _ (Op.makeSlice 49 _ _) _ _ _ _ :: _) _ _; refine wpList_make_full _ rfl _ _ 49 rfl WR.heap.size 3 i0 (.int .i64 0) 1 Try.underlying49 HI.out HZ0.out HZ1.out .i64 .i64 F.length F.length F.length rfl rfl rfl rfl HBY.out HML.out (Nat.le_refl _) ?_; intro wp hown hgrow)
            have hown0 : wp.ownsRow WR.heap.size 3 1 (.slice (some ⟨WR.heap.size, 0, none⟩) F.length F.length) F.length ((stdTo F.length (1 + r0) (rn : Int) rn).map iv) := by
              rw [stdTo_start, stdTo_zero]
              have := toList_madeCells_one (.int .i64 0) F.length
              rw [← this]
              rw [Nat.mul_one] at hown
              exact hown
            have hbp : Below WR.heap.size WR wp := ⟨hgrow.os, hgrow.tape, hgrow.output, hgrow.size, fun q hq => hgrow.block q hq (by simp)⟩
            have HOW := Lib.hid hown0
            have HBP := Lib.hid hbp
            clear hown hgrow hown0 hbp
            go_wp2_with fail
            go_loopw [21] (fun i wr => ∃ j : Nat, rn ≤ j ∧ j ≤ rn + sn + 1 ∧ i = iv j ∧ Hid (wr.ownsRow WR.heap.size 3 1 (.slice (some ⟨WR.heap.size, 0, none⟩) F.length F.length) F.length ((stdTo F.length (1 + r0) (rn : Int) j).map iv)) ∧ Hid (Below WR.heap.size WR wr)) (fun i _ => rn + sn + 1 - (intOf i).toNat)
            case atStart => exact ⟨rn, Nat.le_refl _, by omega, rfl, HOW.out, HBP.out⟩
            case round =>
              obtain ⟨j, hj1, hj2, rfl, HOJ, HBJ⟩ := hrel
              have HLI := Lib.hid (HLR.out.below HBJ.out)
              have HRMI := Lib.hid (bblk HBJ.out HRMR.out)
              by_cases hlj : j < rn + sn + 1
              · have b1 : decide ((j : Int) < (F.length : Int)) = true := decide_eq_true (by omega)
                have b2 : decide (j < F.length) = true := decide_eq_true (by omega)
                have a7 : IntKind.i64.wrap ((rn : Int) + (sn : Int) + 1) = (rn : Int) + (sn : Int) + 1 := IntWalk.i64_in _ ⟨by omega, by omega⟩
                have b3 : decide ((j : Int) < (rn : Int) + (sn : Int) + 1) = true := decide_eq_true (by omega)
                have b4 : decide (j < rn + sn + 1) = true := decide_eq_true (by omega)
                have b5 : decide ((j : Int) ≤ (rn : Int) + (sn : Int)) = true := decide_eq_true (by omega)
                have b6 : decide (j ≤ rn + sn) = true := decide_eq_true (by omega)
                have hown := HOJ.out
                have hc : wr.cell? ⟨WR.heap.size, j, none⟩ = some (((stdTo F.length (1 + r0) (rn : Int) j).map iv).getD j undef) := by
                  rw [World.ownsRow.cellAt hown j (by omega)]
                  have : j < ((stdTo F.length (1 + r0) (rn : Int) j).map iv).length := by rw [List.length_map, stdTo_len]; omega
                  rw [List.getD_eq_getElem?_getD, List.getElem?_eq_getElem this]; rfl
                have hfz := World.ownsRow.frozenAt hown j
                have q0 : (0 : Int) ≤ (j : Int) := by omega
                have q1 : (j : Int) < (F.length : Int) := by omega
                generalize ((stdTo F.length (1 + r0) (rn : Int) j).map iv).getD j undef = old at *
                clear hown
                go_wp2_with fail
                go_roundw
                case rel => exact ⟨j + 1, by omega, by omega, by go_num, by rw [stdTo_yes (by omega)]; exact (World.ownsRow.stored HOJ.out j (iv (1 + r0))).1, bput HBJ.out (Nat.le_refl _) _⟩
                case measure => simp [intOf]; omega
              · obtain rfl : j = rn + sn + 1 := by omega
                have HPI : Hid (Ints wr (.slice (some ⟨WR.heap.size, 0, none⟩) F.length F.length) (stdTo F.length (1 + r0) (rn : Int) (rn + sn + 1))) := by
                  have hl : (stdTo F.length (1 + r0) (rn : Int) (rn + sn + 1)).length = F.length := stdTo_len _ _ _ _
                  have ho : Owns encI 1 3 WR.heap.size wr (.slice (some ⟨WR.heap.size, 0, none⟩) F.length F.length) (stdTo F.length (1 + r0) (rn : Int) (rn + sn + 1)) := by
                    unfold Owns; rw [hl, flatI]; exact HOJ.out
                  exact Owns.slice ho encI_len (by omega)
                have HG := Lib.hid (fun (W : World) (fv pv : Value) h1 h2 => (HGO.out (rn + sn + 1) W fv pv h1 h2).2 rfl (by omega))
                generalize stdTo F.length (1 + r0) (rn : Int) (rn + sn + 1) = PP at *
                have a7 : IntKind.i64.wrap ((rn : Int) + (sn : Int) + 1) = (rn : Int) + (sn : Int) + 1 := IntWalk.i64_in _ ⟨by omega, by omega⟩
                have b3 : decide (((rn + sn + 1 : Nat) : Int) < (rn : Int) + (sn : Int) + 1) = false := decide_eq_false (by omega)
                have b4 : decide (rn + sn + 1 < rn + sn + 1) = false := decide_eq_false (by omega)
                have b5 : decide ((rn : Int) + (sn : Int) + 1 < (rn : Int) + (sn : Int) + 1) = false := decide_eq_false (by omega)
                have e1 : decide ((rn : Int) + (sn : Int) = (F.length : Int)) = false := decide_eq_false (by omega)
                have e2 : decide (rn + sn = F.length) = false := decide_eq_false (by omega)
                by_cases hJ : rn + sn + 1 < F.length
                · have b1 : decide (((rn + sn + 1 : Nat) : Int) < (F.length : Int)) = true := decide_eq_true (by omega)
                  have b2 : decide (rn + sn + 1 < F.length) = true := decide_eq_true hJ
                  have b8 : decide ((rn : Int) + (sn : Int) + 1 < (F.length : Int)) = true := decide_eq_true (by omega)
                  go_wp2_with fail
                  have d0 : wr.cell? ⟨w3.heap.size, 0, none⟩ = some (iv kk) := by rw [cell_of_row _ _ _ _ _ _ HRMI.out]; rfl
                  have d1 : wr.cell? ⟨w3.heap.size, 1, none⟩ = some (iv t) := by rw [cell_of_row _ _ _ _ _ _ HRMI.out]; rfl
                  have d2 : wr.cell? ⟨w3.heap.size, 2, none⟩ = some (iv bl) := by rw [cell_of_row _ _ _ _ _ _ HRMI.out]; rfl
                  have d3 : wr.cell? ⟨w3.heap.size, 3, none⟩ = some (iv bh) := by rw [cell_of_row _ _ _ _ _ _ HRMI.out]; rfl
                  have d4 : wr.cell? ⟨w3.heap.size, 4, none⟩ = some (iv h) := by rw [cell_of_row _ _ _ _ _ _ HRMI.out]; rfl
                  have d5 : wr.cell? ⟨w3.heap.size, 5, none⟩ = some (iv nl) := by rw [cell_of_row _ _ _ _ _ _ HRMI.out]; rfl
                  have d6 : wr.cell? ⟨w3.heap.size, 6, none⟩ = some (iv nh) := by rw [cell_of_row _ _ _ _ _ _ HRMI.out]; rfl
                  have hLi := HLI.out
                  have hPi := HPI.out
                  have hbi : Below wr.heap.size wr wr := Below.refl _ _
                  go_region_held3 (fun w' => w'.cell? ⟨w3.heap.size, 0, none⟩ = some (iv kk) ∧ w'.cell? ⟨w3.heap.size, 1, none⟩ = some (iv t) ∧ w'.cell? ⟨w3.heap.size, 2, none⟩ = some (iv bl) ∧ w'.cell? ⟨w3.heap.size, 3, none⟩ = some (iv bh) ∧ w'.cell? ⟨w3.heap.size, 4, none⟩ = some (iv h) ∧ w'.cell? ⟨w3.heap.size, 5, none⟩ = some (iv nl) ∧ w'.cell? ⟨w3.heap.size, 6, none⟩ = some (iv nh) ∧ SliceOf encS 2 w' (.slice (some ⟨lg, 0, none⟩) F.length lc) F ∧ Ints w' (.slice (some ⟨WR.heap.size, 0, none⟩) F.length F.length) PP ∧ Below wr.heap.size wr w')
                    (first | (go_split_ands; refine ⟨?_, ?_, ?_, ?_, ?_, ?_, ?_, ?_, ?_, ?_⟩ <;> first | assumption | exact kcell hbK (by assumption) | exact kfrozen hbK (by assumption) (by assumption) | exact bstep (by assumption) hbK | exact SliceOf.below (by assumption) hbK) | (refine ⟨?_, ?_, ?_, ?_, ?_, ?_, ?_, ?_, ?_, ?_⟩ <;> first | exact Below.drew (by assumption) | exact SliceOf.below (by assumption) ((Below.refl _ _).drew) | assumption))
                    (first | (go_split_ands; (with_reducible refine (HFO.out _ (by assumption)).mono ?_); rintro e wO ⟨vo, rfl, hoO, hbK⟩; have hSO := Owns.slice hoO encS_len hfm2) | (go_split_ands; (with_reducible refine (HG.out _ _ _ (by assumption) (by assumption)).mono ?_); rintro e wM2 ⟨q, rfl, hbK⟩))
                  rename_i hHeld
                  have HBG := Lib.hid (bstep (bstep HBR.out HBJ.out) hHeld.2.2.2.2.2.2.2.2.2)
                  clear hHeld hbi hbK hSO hoO d0 d1 d2 d3 d4 d5 d6 hLi hPi
                  go_wp2_with fail
                  all_goals
                    go_roundw
                    case rel => exact ⟨1 + 1, by omega, by go_num, HBG⟩
                    case measure => simp [intOf]
                · have b1 : decide (((rn + sn + 1 : Nat) : Int) < (F.length : Int)) = false := decide_eq_false (by omega)
                  have b2 : decide (rn + sn + 1 < F.length) = false := decide_eq_false hJ
                  have b8 : decide ((rn : Int) + (sn : Int) + 1 < (F.length : Int)) = false := decide_eq_false (by omega)
                  go_wp2_with fail
                  have d0 : wr.cell? ⟨w3.heap.size, 0, none⟩ = some (iv kk) := by rw [cell_of_row _ _ _ _ _ _ HRMI.out]; rfl
                  have d1 : wr.cell? ⟨w3.heap.size, 1, none⟩ = some (iv t) := by rw [cell_of_row _ _ _ _ _ _ HRMI.out]; rfl
                  have d2 : wr.cell? ⟨w3.heap.size, 2, none⟩ = some (iv bl) := by rw [cell_of_row _ _ _ _ _ _ HRMI.out]; rfl
                  have d3 : wr.cell? ⟨w3.heap.size, 3, none⟩ = some (iv bh) := by rw [cell_of_row _ _ _ _ _ _ HRMI.out]; rfl
                  have d4 : wr.cell? ⟨w3.heap.size, 4, none⟩ = some (iv h) := by rw [cell_of_row _ _ _ _ _ _ HRMI.out]; rfl
                  have d5 : wr.cell? ⟨w3.heap.size, 5, none⟩ = some (iv nl) := by rw [cell_of_row _ _ _ _ _ _ HRMI.out]; rfl
                  have d6 : wr.cell? ⟨w3.heap.size, 6, none⟩ = some (iv nh) := by rw [cell_of_row _ _ _ _ _ _ HRMI.out]; rfl
                  have hLi := HLI.out
                  have hPi := HPI.out
                  have hbi : Below wr.heap.size wr wr := Below.refl _ _
                  go_region_held3 (fun w' => w'.cell? ⟨w3.heap.size, 0, none⟩ = some (iv kk) ∧ w'.cell? ⟨w3.heap.size, 1, none⟩ = some (iv t) ∧ w'.cell? ⟨w3.heap.size, 2, none⟩ = some (iv bl) ∧ w'.cell? ⟨w3.heap.size, 3, none⟩ = some (iv bh) ∧ w'.cell? ⟨w3.heap.size, 4, none⟩ = some (iv h) ∧ w'.cell? ⟨w3.heap.size, 5, none⟩ = some (iv nl) ∧ w'.cell? ⟨w3.heap.size, 6, none⟩ = some (iv nh) ∧ SliceOf encS 2 w' (.slice (some ⟨lg, 0, none⟩) F.length lc) F ∧ Ints w' (.slice (some ⟨WR.heap.size, 0, none⟩) F.length F.length) PP ∧ Below wr.heap.size wr w')
                    (first | (go_split_ands; refine ⟨?_, ?_, ?_, ?_, ?_, ?_, ?_, ?_, ?_, ?_⟩ <;> first | assumption | exact kcell hbK (by assumption) | exact kfrozen hbK (by assumption) (by assumption) | exact bstep (by assumption) hbK | exact SliceOf.below (by assumption) hbK) | (refine ⟨?_, ?_, ?_, ?_, ?_, ?_, ?_, ?_, ?_, ?_⟩ <;> first | exact Below.drew (by assumption) | exact SliceOf.below (by assumption) ((Below.refl _ _).drew) | assumption))
                    (first | (go_split_ands; (with_reducible refine (HFO.out _ (by assumption)).mono ?_); rintro e wO ⟨vo, rfl, hoO, hbK⟩; have hSO := Owns.slice hoO encS_len hfm2) | (go_split_ands; (with_reducible refine (HG.out _ _ _ (by assumption) (by assumption)).mono ?_); rintro e wM2 ⟨q, rfl, hbK⟩))
                  rename_i hHeld
                  have HBG := Lib.hid (bstep (bstep HBR.out HBJ.out) hHeld.2.2.2.2.2.2.2.2.2)
                  clear hHeld hbi hbK hSO hoO d0 d1 d2 d3 d4 d5 d6 hLi hPi
                  go_wp2_with fail
                  all_goals
                    go_roundw
                    case rel => exact ⟨1 + 1, by omega, by go_num, HBG⟩
                    case measure => simp [intOf]
      · obtain rfl : k = 2 := by omega
        have hr0 := bblk HBR.out HR07.out
        have l0 : WR.cell? ⟨w.heap.size, 0, none⟩ = some (Yteoejhldmeompab.u8 (b 0)) := by rw [cell_of_row _ _ _ _ _ _ hr0]; rfl
        have l1 : WR.cell? ⟨w.heap.size, 1, none⟩ = some (Yteoejhldmeompab.u8 (b 1)) := by rw [cell_of_row _ _ _ _ _ _ hr0]; rfl
        have l2 : WR.cell? ⟨w.heap.size, 2, none⟩ = some (Yteoejhldmeompab.u8 (b 2)) := by rw [cell_of_row _ _ _ _ _ _ hr0]; rfl
        have l3 : WR.cell? ⟨w.heap.size, 3, none⟩ = some (Yteoejhldmeompab.u8 (b 3)) := by rw [cell_of_row _ _ _ _ _ _ hr0]; rfl
        have l4 : WR.cell? ⟨w.heap.size, 4, none⟩ = some (Yteoejhldmeompab.u8 (b 4)) := by rw [cell_of_row _ _ _ _ _ _ hr0]; rfl
        have l5 : WR.cell? ⟨w.heap.size, 5, none⟩ = some (Yteoejhldmeompab.u8 (b 5)) := by rw [cell_of_row _ _ _ _ _ _ hr0]; rfl
        have l6 : WR.cell? ⟨w.heap.size, 6, none⟩ = some (Yteoejhldmeompab.u8 (b 6)) := by rw [cell_of_row _ _ _ _ _ _ hr0]; rfl
        have l7 : WR.cell? ⟨w.heap.size, 7, none⟩ = some (Yteoejhldmeompab.u8 (b 7)) := by rw [cell_of_row _ _ _ _ _ _ hr0]; rfl
        have l8 : WR.cell? ⟨w.heap.size, 8, none⟩ = some (Yteoejhldmeompab.u8 (b 8)) := by rw [cell_of_row _ _ _ _ _ _ hr0]; rfl
        have l9 : WR.cell? ⟨w.heap.size, 9, none⟩ = some (Yteoejhldmeompab.u8 (b 9)) := by rw [cell_of_row _ _ _ _ _ _ hr0]; rfl
        have l10 : WR.cell? ⟨w.heap.size, 10, none⟩ = some (Yteoejhldmeompab.u8 (b 10)) := by rw [cell_of_row _ _ _ _ _ _ hr0]; rfl
        have l11 : WR.cell? ⟨w.heap.size, 11, none⟩ = some (Yteoejhldmeompab.u8 (b 11)) := by rw [cell_of_row _ _ _ _ _ _ hr0]; rfl
        by_cases hos : on ≤ sn
        · have c1 : decide ((on : Int) ≤ (sn : Int)) = true := decide_eq_true (by omega)
          have c2 : decide (on ≤ sn) = true := decide_eq_true hos
          go_wp2_with fail
          refine (HFT.out hfit hon _).mono ?_
          rintro e wF ⟨rfl, hbF⟩
          clear hr0 l0 l1 l2 l3 l4 l5 l6 l7 l8 l9 l10 l11
          go_wp2_with fail
          refine (elmFulled_any _).mono ?_
          rintro e w8 ⟨rfl, hb8⟩
          go_wp2_with fail
          refine (elmWater_any _).mono ?_
          rintro e w9 ⟨rfl, hb9⟩
          go_wp2_with fail
          go_ret
          exact ⟨rfl, bstep (bstep (bstep (bstep HB7.out HBR.out) hbF) hb8) hb9⟩
        · have c1 : decide ((on : Int) ≤ (sn : Int)) = false := decide_eq_false (by omega)
          have c2 : decide (on ≤ sn) = false := decide_eq_false hos
          clear hr0 l0 l1 l2 l3 l4 l5 l6 l7 l8 l9 l10 l11
          go_wp2_with fail
          refine (elmFulled_any _).mono ?_
          rintro e w8 ⟨rfl, hb8⟩
          go_wp2_with fail
          refine (elmWater_any _).mono ?_
          rintro e w9 ⟨rfl, hb9⟩
          go_wp2_with fail
          go_ret
          exact ⟨rfl, bstep (bstep (bstep HB7.out HBR.out) hb8) hb9⟩
end Go.Proofs.Yteoejhldmeompab
