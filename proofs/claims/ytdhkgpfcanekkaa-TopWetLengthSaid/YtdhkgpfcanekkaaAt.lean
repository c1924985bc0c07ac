/- At and Rates of package cloth. -/
import Derived.Test.YtdhkgpfcanekkaaMb
namespace Go.Proofs.Ytdhkgpfcanekkaa
open Go Go.RowKit Go.Shelf

def hasAllT (T : List Tk) (M : List Ms) : Bool := match T with
  | [a, b, c] => hasAll a b c M
  | _ => false
/-- The error of a cloth, also if it has no truth. -/
def opn (T : List Tk) (M : List Ms) : Int := if check T M ≠ 0 then check T M else if hasAllT T M = true then 0 else 9
def openQ (T : List Tk) (M : List Ms) (mv : Value) : Array Value := match T with
  | [a, b, c] => if opn T M = 0 then qs a b c mv else zqs
  | _ => zqs
theorem openQ_bad {T : List Tk} {M : List Ms} (mv : Value) (h : opn T M ≠ 0) : openQ T M mv = zqs := by
  unfold openQ; split
  · rw [if_neg h]
  · rfl
theorem open_any (T : List Tk) (M : List Ms) (tv mv : Value) (w : World) (ht : SliceOf encT 4 w tv T) (hm : SliceOf encM 4 w mv M) :
    Calls Try.prog 13 #[.agg #[tv, mv]] w fun e w' => e = .returned (.tuple #[.agg (openQ T M mv), iv (opn T M)]) ∧ Below w.heap.size w w' := by
  by_cases hc : check T M = 0
  · obtain ⟨a, b, c, rfl, _⟩ := check_zero hc
    refine (open_good a b c M tv mv w ht hm hc).mono ?_
    rintro e w' ⟨rfl, hb⟩
    refine ⟨?_, hb⟩
    cases hh : hasAll a b c M
    · have ho : opn [a, b, c] M = 9 := by simp [opn, hc, hasAllT, hh]
      simp [openRes, hh, ho, openQ]
    · have ho : opn [a, b, c] M = 0 := by simp [opn, hc, hasAllT, hh]
      simp [openRes, hh, ho, openQ]
  · refine (open_bad T M tv mv w ht hm hc).mono ?_
    rintro e w' ⟨rfl, hb⟩
    have ho : opn T M = check T M := by simp [opn, hc]
    exact ⟨by rw [ho, openQ_bad mv (by rw [ho]; exact hc)], hb⟩
theorem opn_zero {T : List Tk} {M : List Ms} (h : opn T M = 0) : ∃ a b c, T = [a, b, c] ∧ T.all vTrack = true ∧ M.length ≤ 8 ∧ M.all vMeas = true ∧ hasAll a b c M = true := by
  unfold opn at h
  split at h
  · omega
  · rename_i hc
    obtain ⟨a, b, c, rfl, h1, h2, h3⟩ := check_zero (show check T M = 0 by simpa using hc)
    split at h
    · rename_i h4; exact ⟨a, b, c, rfl, h1, h2, h3, h4⟩
    · omega
def spansL (f : Int × Int → Int) (T : List Tk) (M : List Ms) : List Sp := match T with
  | [a, b, c] => spansTo f a b c M 3
  | _ => []
def atErr (T : List Tk) (M : List Ms) (hour : Int) : Int := if opn T M ≠ 0 then opn T M else if inB 0 48 hour = true then 0 else 3
def atL (T : List Tk) (M : List Ms) (hour : Int) : List Sp := if atErr T M hour = 0 then spansL (fun p => aft p.1 p.2 hour.toNat) T M else []
def ratesL (T : List Tk) (M : List Ms) : List Sp := if opn T M = 0 then spansL (fun p => p.2) T M else []
/-- A list of spans, and an error. -/
def SpansRes (L : List Sp) (err : Int) (w : World) (e : Ending) (w' : World) : Prop := ∃ v, e = .returned (.tuple #[v, iv err]) ∧ Owns encS 2 36 w.heap.size w' v L ∧ Below w.heap.size w w'
theorem Owns.base {α : Type} {enc : α → List Value} {sz e base base' : Nat} {w : World} {v : Value} {xs : List α} (h : Owns enc sz e base w v xs) (hb : base' ≤ base) : Owns enc sz e base' w v xs := by
  refine ⟨h.1, ?_⟩
  rcases h.2 with h0 | ⟨g, cap, cur, h1, h2, h3⟩
  · exact .inl h0
  · exact .inr ⟨g, cap, cur, h1, Nat.le_trans hb h2, h3⟩

set_option maxRecDepth 20000 in
set_option maxHeartbeats 3200000 in
theorem At_any (T : List Tk) (M : List Ms) (tv mv : Value) (hour : Int) (w : World) (ht : SliceOf encT 4 w tv T) (hm : SliceOf encM 4 w mv M) :
    Calls Try.prog 4 #[.agg #[tv, mv], iv hour] w (SpansRes (atL T M hour) (atErr T M hour) w) := by
  have ht' := Lib.hid ht
  have hm' := Lib.hid hm
  obtain ⟨ta, tc, rfl, -, -⟩ := ht
  obtain ⟨ma, mc, rfl, -, -⟩ := hm
  by_cases ho : opn T M = 0
  · obtain ⟨a, b, c, rfl, h1, h2, h3, h4⟩ := opn_zero ho
    have HQ : Hid (openQ [a, b, c] M (.slice ma M.length mc) = qs a b c (.slice ma M.length mc)) := by simp [Hid, openQ, ho]
    cases hh : inB 0 48 hour
    · have HE : Hid (atErr [a, b, c] M hour = 3) := by simp [Hid, atErr, ho, hh]
      have HL : Hid (atL [a, b, c] M hour = []) := by simp [Hid, atL, HE.out]
      have HO := Lib.hid ho; have HH := Lib.hid hh
      clear ho h1 h3 h4 hh
      go_enter Try.func4, Try.ntmps4
      go_wp2_with fail
      refine (open_any [a, b, c] M _ _ _ (ht'.out.below (by repeat (first | exact Below.refl _ _ | refine Below.drew ?_ | refine bpush ?_ _ | refine bput ?_ (by simp) _ | (refine bstep ?_ (by assumption))))) (hm'.out.below (by repeat (first | exact Below.refl _ _ | refine Below.drew ?_ | refine bpush ?_ _ | refine bput ?_ (by simp) _ | (refine bstep ?_ (by assumption)))))).mono ?_
      rintro e w1 ⟨rfl, hb1⟩
      rw [HO.out, HQ.out]
      have hc3 : w1.cell? ⟨w.heap.size + 1, 0, none⟩ = some (iv hour) := (hb1.cell (p := ⟨w.heap.size + 1, 0, none⟩) (by simp)).trans (by go_simp)
      have hlt3 : w.heap.size + 1 < w1.heap.size := lt_of_cell hc3
      have HB1 := Lib.hid (show Below w.heap.size w w1 from bstep (by repeat (first | exact Below.refl _ _ | refine Below.drew ?_ | refine bpush ?_ _ | refine bput ?_ (by simp) _ | (refine bstep ?_ (by assumption)))) hb1)
      clear hb1
      go_wp2_with (first | (with_reducible change wpList _ _ _ (Oper.mk _ (Op.alloc 58) _ _ _ _ :: _) _ _; refine L_val rfl (run_alloc_row 58 zqs zinfo113 rfl) ?_) | (with_reducible change wpList _ _ _ (Oper.mk _ (Op.store 58 _ _) _ _ _ _ :: _) _ _; refine L_skip rfl (run_store_row 58 _ _ rfl w1.heap.size rfl (qs a b c (.slice ma M.length mc)) rfl 58 zqs (heap_new _ _ _) (sinfoS _ _ _ _ _) (zqs_size _ _ _ _ _) (sp_one _ _ _ _ _ _ _)) ?_))
      refine (within1 0 48 hour (by go_simp)).mono ?_
      rintro e w2 ⟨he, rfl⟩
      rw [HH.out] at he; subst he
      go_wp2_with fail
      go_ret2
      exact ⟨_, by rw [HE.out]; rfl, by rw [HL.out]; exact Owns.nil _ _ _ _ _, bpush (bpush HB1.out _) _⟩
    · have HE : Hid (atErr [a, b, c] M hour = 0) := by simp [Hid, atErr, ho, hh]
      obtain ⟨n, rfl⟩ := Int.eq_ofNat_of_zero_le (inB_iff.1 hh).1
      have hn : n ≤ 48 := by have := (inB_iff.1 hh).2; omega
      have HL : Hid (atL [a, b, c] M (n : Int) = spansTo (fun p => aft p.1 p.2 n) a b c M 3) := by simp [Hid, atL, HE.out, spansL]
      have HO := Lib.hid ho; have HH := Lib.hid hh; have H1 := Lib.hid h1; have H3 := Lib.hid h3
      clear ho h1 h3 h4 hh
      go_enter Try.func4, Try.ntmps4
      go_wp2_with fail
      refine (open_any [a, b, c] M _ _ _ (ht'.out.below (by repeat (first | exact Below.refl _ _ | refine Below.drew ?_ | refine bpush ?_ _ | refine bput ?_ (by simp) _ | (refine bstep ?_ (by assumption))))) (hm'.out.below (by repeat (first | exact Below.refl _ _ | refine Below.drew ?_ | refine bpush ?_ _ | refine bput ?_ (by simp) _ | (refine bstep ?_ (by assumption)))))).mono ?_
      rintro e w1 ⟨rfl, hb1⟩
      rw [HO.out, HQ.out]
      have hc3 : w1.cell? ⟨w.heap.size + 1, 0, none⟩ = some (iv n) := (hb1.cell (p := ⟨w.heap.size + 1, 0, none⟩) (by simp)).trans (by go_simp)
      have hlt3 : w.heap.size + 1 < w1.heap.size := lt_of_cell hc3
      have HB1 := Lib.hid (show Below w.heap.size w w1 from bstep (by repeat (first | exact Below.refl _ _ | refine Below.drew ?_ | refine bpush ?_ _ | refine bput ?_ (by simp) _ | (refine bstep ?_ (by assumption)))) hb1)
      clear hb1
      go_wp2_with (first | (with_reducible change wpList _ _ _ (Oper.mk _ (Op.alloc 58) _ _ _ _ :: _) _ _; refine L_val rfl (run_alloc_row 58 zqs zinfo113 rfl) ?_) | (with_reducible change wpList _ _ _ (Oper.mk _ (Op.store 58 _ _) _ _ _ _ :: _) _ _; refine L_skip rfl (run_store_row 58 _ _ rfl w1.heap.size rfl (qs a b c (.slice ma M.length mc)) rfl 58 zqs (heap_new _ _ _) (sinfoS _ _ _ _ _) (zqs_size _ _ _ _ _) (sp_one _ _ _ _ _ _ _)) ?_))
      refine (within1 0 48 (n : Int) (by go_simp)).mono ?_
      rintro e w2 ⟨he, rfl⟩
      rw [HH.out] at he; subst he
      go_wp2_with (first | (with_reducible change wpList _ _ _ (Oper.mk _ (Op.load 58 _) _ _ _ _ :: _) _ _; refine L_val rfl (run_load_row 58 _ rfl _ rfl 58 (qs a b c (.slice ma M.length mc)) _ ((Below.heap_alloc _ _ _ (World.size_alloc _ _ ▸ Nat.lt_succ_self _)).trans (heap_new _ _ _)) Try.underlying58 rfl (sinfoS a b c (.slice ma M.length mc) 3)) ?_))
      refine (spansAt_any a b c ma M.length mc M (w.heap.size + 1) n _ hn (by rw [World.cell?_alloc_lt _ _ _ (by simp; omega), World.cell?_alloc_lt _ _ _ (by simpa using hlt3)]; exact hc3) H1.out H3.out (by omega) (hm'.out.below (bpush (bpush HB1.out _) _))).mono ?_
      rintro e w2 ⟨v, rfl, hown, hb2⟩
      have HOW := Lib.hid hown; clear hown
      have HB2 := Lib.hid (bstep (bpush (bpush HB1.out _) _) hb2); clear hb2
      go_wp2_with fail
      go_ret2
      exact ⟨v, by rw [HE.out]; rfl, by rw [HL.out]; exact HOW.out.base (by have := HB1.out.size; simp; omega), HB2.out⟩
  · have HE : Hid (atErr T M hour = opn T M) := by simp [Hid, atErr, ho]
    have HL : Hid (atL T M hour = []) := by simp [Hid, atL, HE.out, ho]
    have HQ : Hid (openQ T M (.slice ma M.length mc) = zqs) := openQ_bad _ ho
    have e1 : (opn T M != 0) = true := by simpa using ho
    clear ho
    go_enter Try.func4, Try.ntmps4
    go_wp2_with fail
    refine (open_any T M _ _ _ (ht'.out.below (by repeat (first | exact Below.refl _ _ | refine Below.drew ?_ | refine bpush ?_ _ | refine bput ?_ (by simp) _ | (refine bstep ?_ (by assumption))))) (hm'.out.below (by repeat (first | exact Below.refl _ _ | refine Below.drew ?_ | refine bpush ?_ _ | refine bput ?_ (by simp) _ | (refine bstep ?_ (by assumption)))))).mono ?_
    rintro e w1 ⟨rfl, hb1⟩
    rw [HQ.out]
    have HB1 := Lib.hid (show Below w.heap.size w w1 from bstep (by repeat (first | exact Below.refl _ _ | refine Below.drew ?_ | refine bpush ?_ _ | refine bput ?_ (by simp) _ | (refine bstep ?_ (by assumption)))) hb1)
    clear hb1
    go_wp2_with (first | (with_reducible change wpList _ _ _ (Oper.mk _ (Op.alloc 58) _ _ _ _ :: _) _ _; refine L_val rfl (run_alloc_row 58 zqs zinfo113 rfl) ?_) | (with_reducible change wpList _ _ _ (Oper.mk _ (Op.store 58 _ _) _ _ _ _ :: _) _ _; refine L_skip rfl (run_store_row 58 _ _ rfl w1.heap.size rfl zqs rfl 58 zqs (heap_new _ _ _) sinfoZ rfl zqs_one) ?_))
    go_ret2
    exact ⟨_, by rw [HE.out]; rfl, by rw [HL.out]; exact Owns.nil _ _ _ _ _, bpush HB1.out _⟩
end Go.Proofs.Ytdhkgpfcanekkaa
