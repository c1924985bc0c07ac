/- Below of package cloth. -/
import Derived.Test.YteoejhldmeompaaFhr
namespace Go.Proofs.Yteoejhldmeompaa
open Go Go.RowKit Go.Shelf

theorem qs_lit (a b c : Tk) (mv : Value) : qs a b c mv = #[iv a.fl, iv a.fh, iv a.rl, iv a.rh, iv 0, mv, iv b.fl, iv b.fh, iv b.rl, iv b.rh, iv 1, mv, iv c.fl, iv c.fh, iv c.rl, iv c.rh, iv 2, mv] := by kernel_rfl
theorem qs_get (a b c : Tk) (ma : Option Addr) (mn mc : Nat) {k : Nat} (hk : k < 3) {j : Nat} (hj : j < 6) : (qs a b c (.slice ma mn mc))[k * 6 + j]? = (qcells (tk3 a b c k) (k : Int) (.slice ma mn mc))[j]? := by
  have hk' : k = 0 ∨ k = 1 ∨ k = 2 := by omega
  have hj' : j = 0 ∨ j = 1 ∨ j = 2 ∨ j = 3 ∨ j = 4 ∨ j = 5 := by omega
  rw [qs_lit]
  rcases hk' with rfl | rfl | rfl <;> rcases hj' with rfl | rfl | rfl | rfl | rfl | rfl <;> simp [qcells, tk3]
/-- The truths of quantity number k of a cloth of three tracks. -/
def trsT (T : List Tk) (M : List Ms) (k : Nat) : List (Int × Int) := match T with
  | [a, b, c] => trs (tk3 a b c k) (k : Int) M
  | _ => []
def belowErr (T : List Tk) (M : List Ms) (what limit : Int) : Int :=
  if opn T M ≠ 0 then opn T M else if inB 0 2 what = true then (if inB 0 2000 limit = true then 0 else 3) else 7
def belowS (T : List Tk) (M : List Ms) (what limit : Int) : Int := if belowErr T M what limit = 0 then firstHr (fun h => decide ((hourStr (trsT T M what.toNat) h).h ≤ limit)) else 0
def belowP (T : List Tk) (M : List Ms) (what limit : Int) : Int := if belowErr T M what limit = 0 then firstHr (fun h => decide ((hourStr (trsT T M what.toNat) h).l ≤ limit)) else 0

set_option maxRecDepth 20000 in
set_option maxHeartbeats 6400000 in
theorem Below_any (T : List Tk) (M : List Ms) (tv mv : Value) (what limit : Int) (w : World) (ht : SliceOf encT 4 w tv T) (hm : SliceOf encM 4 w mv M) :
    Calls Try.prog 6 #[.agg #[tv, mv], iv what, iv limit] w fun e w' => e = .returned (.tuple #[iv (belowS T M what limit), iv (belowP T M what limit), iv (belowErr T M what limit)]) ∧ Below w.heap.size w w' := by
  have ht' := Lib.hid ht
  have hm' := Lib.hid hm
  obtain ⟨ta, tc, rfl, -, -⟩ := ht
  obtain ⟨ma, mc, rfl, -, -⟩ := hm
  by_cases ho : opn T M = 0
  · obtain ⟨a, b, c, rfl, h1, h2, h3, h4⟩ := opn_zero ho
    have HQ : Hid (openQ [a, b, c] M (.slice ma M.length mc) = qs a b c (.slice ma M.length mc)) := by simp [Hid, openQ, ho]
    cases hw : inB 0 2 what
    · have HE : Hid (belowErr [a, b, c] M what limit = 7) := by simp [Hid, belowErr, ho, hw]
      have HS : Hid (belowS [a, b, c] M what limit = 0) := by simp [Hid, belowS, HE.out]
      have HP : Hid (belowP [a, b, c] M what limit = 0) := by simp [Hid, belowP, HE.out]
      have HO := Lib.hid ho; have HH := Lib.hid hw
      clear ho h1 h3 h4 hw
      go_enter Try.func6, Try.ntmps6
      go_wp2_with fail
      refine (open_any [a, b, c] M _ _ _ (ht'.out.below (by repeat (first | exact Below.refl _ _ | refine Below.drew ?_ | refine bpush ?_ _ | refine bput ?_ (by simp) _ | (refine bstep ?_ (by assumption))))) (hm'.out.below (by repeat (first | exact Below.refl _ _ | refine Below.drew ?_ | refine bpush ?_ _ | refine bput ?_ (by simp) _ | (refine bstep ?_ (by assumption)))))).mono ?_
      rintro e w1 ⟨rfl, hb1⟩
      rw [HO.out, HQ.out]
      have HB1 := Lib.hid (show Below w.heap.size w w1 from bstep (by repeat (first | exact Below.refl _ _ | refine Below.drew ?_ | refine bpush ?_ _ | refine bput ?_ (by simp) _ | (refine bstep ?_ (by assumption)))) hb1)
      clear hb1
      go_wp2_with (first | (with_reducible change wpList _ _ _ (Oper.mk _ (Op.alloc 64) _ _ _ _ :: _) _ _; refine L_val rfl (run_alloc_row 64 zqs zinfo113 rfl) ?_) | (with_reducible change wpList _ _ _ (Oper.mk _ (Op.store 64 _ _) _ _ _ _ :: _) _ _; refine L_skip rfl (run_store_row 64 _ _ rfl w1.heap.size rfl (qs a b c (.slice ma M.length mc)) rfl 64 zqs (heap_new _ _ _) (sinfoS _ _ _ _ _) (zqs_size _ _ _ _ _) (sp_one _ _ _ _ _ _ _)) ?_))
      refine (validWhat_any what _).mono ?_
      rintro e w2 ⟨he, hb2⟩
      rw [HH.out] at he; subst he
      have HB2 := Lib.hid (bstep (bpush HB1.out _) hb2); clear hb2
      go_wp2_with fail
      go_ret3
      exact ⟨by rw [HE.out, HS.out, HP.out]; rfl, HB2.out⟩
    · obtain ⟨k, rfl⟩ := Int.eq_ofNat_of_zero_le (inB_iff.1 hw).1
      have hk : k < 3 := by have := (inB_iff.1 hw).2; omega
      cases hh : inB 0 2000 limit
      · have HE : Hid (belowErr [a, b, c] M (k : Int) limit = 3) := by simp [Hid, belowErr, ho, hw, hh]
        have HS : Hid (belowS [a, b, c] M (k : Int) limit = 0) := by simp [Hid, belowS, HE.out]
        have HP : Hid (belowP [a, b, c] M (k : Int) limit = 0) := by simp [Hid, belowP, HE.out]
        have HO := Lib.hid ho; have HW := Lib.hid hw; have HH := Lib.hid hh
        clear ho h1 h3 h4 hw hh
        go_enter Try.func6, Try.ntmps6
        go_wp2_with fail
        refine (open_any [a, b, c] M _ _ _ (ht'.out.below (by repeat (first | exact Below.refl _ _ | refine Below.drew ?_ | refine bpush ?_ _ | refine bput ?_ (by simp) _ | (refine bstep ?_ (by assumption))))) (hm'.out.below (by repeat (first | exact Below.refl _ _ | refine Below.drew ?_ | refine bpush ?_ _ | refine bput ?_ (by simp) _ | (refine bstep ?_ (by assumption)))))).mono ?_
        rintro e w1 ⟨rfl, hb1⟩
        rw [HO.out, HQ.out]
        have hc5 : w1.cell? ⟨w.heap.size + 1, 0, none⟩ = some (iv limit) := (hb1.cell (p := ⟨w.heap.size + 1, 0, none⟩) (by simp)).trans (by go_simp)
        have HB1 := Lib.hid (show Below w.heap.size w w1 from bstep (by repeat (first | exact Below.refl _ _ | refine Below.drew ?_ | refine bpush ?_ _ | refine bput ?_ (by simp) _ | (refine bstep ?_ (by assumption)))) hb1)
        clear hb1
        have hlt5 : w.heap.size + 1 < w1.heap.size := lt_of_cell hc5
        go_wp2_with (first | (with_reducible change wpList _ _ _ (Oper.mk _ (Op.alloc 64) _ _ _ _ :: _) _ _; refine L_val rfl (run_alloc_row 64 zqs zinfo113 rfl) ?_) | (with_reducible change wpList _ _ _ (Oper.mk _ (Op.store 64 _ _) _ _ _ _ :: _) _ _; refine L_skip rfl (run_store_row 64 _ _ rfl w1.heap.size rfl (qs a b c (.slice ma M.length mc)) rfl 64 zqs (heap_new _ _ _) (sinfoS _ _ _ _ _) (zqs_size _ _ _ _ _) (sp_one _ _ _ _ _ _ _)) ?_))
        refine (validWhat_any (k : Int) _).mono ?_
        rintro e w2 ⟨he, hb2⟩
        rw [HW.out] at he; subst he
        have hc6 : w2.cell? ⟨w.heap.size + 1, 0, none⟩ = some (iv limit) := (hb2.cell (p := ⟨w.heap.size + 1, 0, none⟩) (by simp; omega)).trans ((World.cell?_alloc_lt _ _ _ (by simpa using hlt5)).trans hc5)
        have HB2 := Lib.hid (bstep (bpush HB1.out _) hb2); clear hb2
        go_wp2_with fail
        refine (within1 0 2000 limit (by go_simp)).mono ?_
        rintro e w3 ⟨he, rfl⟩
        rw [HH.out] at he; subst he
        go_wp2_with fail
        go_ret3
        exact ⟨by rw [HE.out, HS.out, HP.out]; rfl, bpush HB2.out _⟩
      · have HE : Hid (belowErr [a, b, c] M (k : Int) limit = 0) := by simp [Hid, belowErr, ho, hw, hh]
        have HS : Hid (belowS [a, b, c] M (k : Int) limit = firstHr (fun h => decide ((hourStr (trs (tk3 a b c k) (k : Int) M) h).h ≤ limit))) := by show belowS _ _ _ _ = _; rw [belowS, if_pos HE.out]; rfl
        have HP : Hid (belowP [a, b, c] M (k : Int) limit = firstHr (fun h => decide ((hourStr (trs (tk3 a b c k) (k : Int) M) h).l ≤ limit))) := by show belowP _ _ _ _ = _; rw [belowP, if_pos HE.out]; rfl
        have HO := Lib.hid ho; have HW := Lib.hid hw; have HH := Lib.hid hh
        have HOK := Lib.hid (show QOk (tk3 a b c k) (k : Int) (.slice ma M.length mc) M w from ⟨tk3_ok h1 k, h3, by omega, hm'.out⟩)
        have HG := Lib.hid (fun j (hj : j < 6) => qs_get a b c ma M.length mc hk hj)
        clear ho h1 h3 h4 hw hh
        go_enter Try.func6, Try.ntmps6
        go_wp2_with fail
        refine (open_any [a, b, c] M _ _ _ (ht'.out.below (by repeat (first | exact Below.refl _ _ | refine Below.drew ?_ | refine bpush ?_ _ | refine bput ?_ (by simp) _ | (refine bstep ?_ (by assumption))))) (hm'.out.below (by repeat (first | exact Below.refl _ _ | refine Below.drew ?_ | refine bpush ?_ _ | refine bput ?_ (by simp) _ | (refine bstep ?_ (by assumption)))))).mono ?_
        rintro e w1 ⟨rfl, hb1⟩
        rw [HO.out, HQ.out]
        have hc5 : w1.cell? ⟨w.heap.size + 1, 0, none⟩ = some (iv limit) := (hb1.cell (p := ⟨w.heap.size + 1, 0, none⟩) (by simp)).trans (by go_simp)
        have HB1 := Lib.hid (show Below w.heap.size w w1 from bstep (by repeat (first | exact Below.refl _ _ | refine Below.drew ?_ | refine bpush ?_ _ | refine bput ?_ (by simp) _ | (refine bstep ?_ (by assumption)))) hb1)
        clear hb1
        have hlt5 : w.heap.size + 1 < w1.heap.size := lt_of_cell hc5
        go_wp2_with (first | (with_reducible change wpList _ _ _ (Oper.mk _ (Op.alloc 64) _ _ _ _ :: _) _ _; refine L_val rfl (run_alloc_row 64 zqs zinfo113 rfl) ?_) | (with_reducible change wpList _ _ _ (Oper.mk _ (Op.store 64 _ _) _ _ _ _ :: _) _ _; refine L_skip rfl (run_store_row 64 _ _ rfl w1.heap.size rfl (qs a b c (.slice ma M.length mc)) rfl 64 zqs (heap_new _ _ _) (sinfoS _ _ _ _ _) (zqs_size _ _ _ _ _) (sp_one _ _ _ _ _ _ _)) ?_))
        refine (validWhat_any (k : Int) _).mono ?_
        rintro e w2 ⟨he, hb2⟩
        rw [HW.out] at he; subst he
        have hc6 : w2.cell? ⟨w.heap.size + 1, 0, none⟩ = some (iv limit) := (hb2.cell (p := ⟨w.heap.size + 1, 0, none⟩) (by simp; omega)).trans ((World.cell?_alloc_lt _ _ _ (by simpa using hlt5)).trans hc5)
        have hrow := (hb2.block w1.heap.size (by simp)).trans (heap_new w1 (qs a b c (.slice ma M.length mc)) 64)
        have HB2 := Lib.hid (bstep (bpush HB1.out _) hb2); clear hb2 hc5
        have hlt6 : w1.heap.size < w2.heap.size := (Array.getElem?_eq_some_iff.1 hrow).1
        have hlt7 : w.heap.size + 1 < w2.heap.size := lt_of_cell hc6
        generalize htk : tk3 a b c k = tt at *
        have d0 : w2.cell? ⟨w1.heap.size, k * 6, none⟩ = some (iv tt.fl) := by rw [cell_of_row _ _ _ _ _ _ hrow]; exact (HG.out 0 (by omega)).trans rfl
        have d1 : w2.cell? ⟨w1.heap.size, k * 6 + 1, none⟩ = some (iv tt.fh) := by rw [cell_of_row _ _ _ _ _ _ hrow]; exact (HG.out 1 (by omega)).trans rfl
        have d2 : w2.cell? ⟨w1.heap.size, k * 6 + 2, none⟩ = some (iv tt.rl) := by rw [cell_of_row _ _ _ _ _ _ hrow]; exact (HG.out 2 (by omega)).trans rfl
        have d3 : w2.cell? ⟨w1.heap.size, k * 6 + 3, none⟩ = some (iv tt.rh) := by rw [cell_of_row _ _ _ _ _ _ hrow]; exact (HG.out 3 (by omega)).trans rfl
        have d4 : w2.cell? ⟨w1.heap.size, k * 6 + 4, none⟩ = some (iv k) := by rw [cell_of_row _ _ _ _ _ _ hrow]; exact (HG.out 4 (by omega)).trans rfl
        have d5 : w2.cell? ⟨w1.heap.size, k * 6 + 5, none⟩ = some (.slice ma M.length mc) := by rw [cell_of_row _ _ _ _ _ _ hrow]; exact (HG.out 5 (by omega)).trans rfl
        clear hrow htk HG
        have hk3 : (k : Int) < 3 := by omega
        go_wp2_with fail
        refine (within1 0 2000 limit (by go_simp)).mono ?_
        rintro e w3 ⟨he, rfl⟩
        rw [HH.out] at he; subst he
        go_wp2_with fail
        refine (byHour_any tt (k : Int) (.slice ma M.length mc) M _ (HOK.out.below (bpush HB2.out _))).mono ?_
        rintro e w4 ⟨rfl, hb4⟩
        have hc7 := Lib.hid ((hb4.cell (p := ⟨w.heap.size + 1, 0, none⟩) (by simp; omega)).trans ((World.cell?_alloc_lt _ _ _ (by simpa using hlt7)).trans hc6))
        have HB4 := Lib.hid (bstep (bpush HB2.out _) hb4); clear hb4
        have hlt8 : w.heap.size + 1 < w4.heap.size := lt_of_cell hc7.out
        clear d0 d1 d2 d3 d4 d5 hc6
        go_wp2_with (first | (with_reducible change wpList _ _ _ (Oper.mk _ (Op.alloc 71) _ _ _ _ :: _) _ _; refine L_val rfl (run_alloc_row 71 (brow (fun _ => ⟨0, 0, 0⟩)) zinfo128 rfl) ?_) | (with_reducible change wpList _ _ _ (Oper.mk _ (Op.store 71 _ _) _ _ _ _ :: _) _ _; refine L_skip rfl (run_store_row 71 _ _ rfl _ rfl (brow (hourStr (trs tt (k : Int) M))) rfl 71 _ (heap_new _ _ _) (sinfo128 _) (brow_sz _ _) (brow_one _)) ?_))
        refine (firstHigh_any (hourStr (trs tt (k : Int) M)) limit w4.heap.size (w.heap.size + 1) _ (heap_new _ _ _) ((World.cell?_alloc_lt _ _ _ (by simpa using hlt8)).trans hc7.out)).mono ?_
        rintro e w5 ⟨rfl, hb5⟩
        have hr5 := Lib.hid ((hb5.block w4.heap.size (by simp)).trans (heap_new w4 (brow (hourStr (trs tt (k : Int) M))) 71))
        have hc8 := Lib.hid ((hb5.cell (p := ⟨w.heap.size + 1, 0, none⟩) (by simp; omega)).trans ((World.cell?_alloc_lt _ _ _ (by simpa using hlt8)).trans hc7.out))
        have HB5 := Lib.hid (bstep (bpush HB4.out _) hb5); clear hb5
        go_wp2_with fail
        refine (firstLow_any (hourStr (trs tt (k : Int) M)) limit w4.heap.size (w.heap.size + 1) _ hr5.out hc8.out).mono ?_
        rintro e w6 ⟨rfl, hb6⟩
        have HB6 := Lib.hid (bstep HB5.out hb6); clear hb6
        go_wp2_with fail
        go_ret3
        exact ⟨by rw [HE.out, HS.out, HP.out]; rfl, HB6.out⟩
  · have HE : Hid (belowErr T M what limit = opn T M) := by simp [Hid, belowErr, ho]
    have HS : Hid (belowS T M what limit = 0) := by simp [Hid, belowS, HE.out, ho]
    have HP : Hid (belowP T M what limit = 0) := by simp [Hid, belowP, HE.out, ho]
    have HQ : Hid (openQ T M (.slice ma M.length mc) = zqs) := openQ_bad _ ho
    have e1 : (opn T M != 0) = true := by simpa using ho
    clear ho
    go_enter Try.func6, Try.ntmps6
    go_wp2_with fail
    refine (open_any T M _ _ _ (ht'.out.below (by repeat (first | exact Below.refl _ _ | refine Below.drew ?_ | refine bpush ?_ _ | refine bput ?_ (by simp) _ | (refine bstep ?_ (by assumption))))) (hm'.out.below (by repeat (first | exact Below.refl _ _ | refine Below.drew ?_ | refine bpush ?_ _ | refine bput ?_ (by simp) _ | (refine bstep ?_ (by assumption)))))).mono ?_
    rintro e w1 ⟨rfl, hb1⟩
    rw [HQ.out]
    have HB1 := Lib.hid (show Below w.heap.size w w1 from bstep (by repeat (first | exact Below.refl _ _ | refine Below.drew ?_ | refine bpush ?_ _ | refine bput ?_ (by simp) _ | (refine bstep ?_ (by assumption)))) hb1)
    clear hb1
    go_wp2_with (first | (with_reducible change wpList _ _ _ (Oper.mk _ (Op.alloc 64) _ _ _ _ :: _) _ _; refine L_val rfl (run_alloc_row 64 zqs zinfo113 rfl) ?_) | (with_reducible change wpList _ _ _ (Oper.mk _ (Op.store 64 _ _) _ _ _ _ :: _) _ _; refine L_skip rfl (run_store_row 64 _ _ rfl w1.heap.size rfl zqs rfl 64 zqs (heap_new _ _ _) sinfoZ rfl zqs_one) ?_))
    go_ret3
    exact ⟨by rw [HE.out, HS.out, HP.out]; rfl, bpush HB1.out _⟩
end Go.Proofs.Yteoejhldmeompaa
