/- Lasts of package stream. -/
import Derived.Test.YtfpbfhjfhfmanacSd
import Derived.Deep.RegionHeld3
import Derived.Deep.DrawnRows
namespace Go.Proofs.Ytfpbfhjfhfmanac
open Go Go.RowKit Go.Shelf
attribute [local go_sem ↓] Go.wp_at_zero Go.wp_at_succ

theorem kfrozen {W W1 : World} {b o : Nat} {v : Value} (hb : Below W.heap.size W W1) (h : W.cell? ⟨b, o, none⟩ = some v) (hf : W.frozen? ⟨b, o, none⟩ = false) : W1.frozen? ⟨b, o, none⟩ = false := (hb.frozen (p := ⟨b, o, none⟩) (lt_of_cell h)).trans hf

/-- Levels of a plan, if one end of each span is true. -/
def lvOf (sel : Sp → Int) (m : Ml) (F : List Sp) (plan : List Int) : List Int := lvs m.t m.h (sel (m.nl, m.nh)) (hrs sel F plan)
theorem lvs_len (T H : Int) : ∀ (r : List (Int × Int)) (l : Int), (lvs T H l r).length ≤ r.length
  | [], _ => by simp [lvs]
  | (f, k) :: r, l => by
    rw [lvs]
    split
    · rw [List.length_cons, List.length_cons]; have := lvs_len T H r (leftL T H l f k); omega
    · simp
theorem lvOf_len (sel : Sp → Int) (m : Ml) (F : List Sp) (plan : List Int) : (lvOf sel m F plan).length ≤ plan.length := by
  refine Nat.le_trans (lvs_len _ _ _ _) ?_
  simp [hrs]; omega

/-- Counting what an iterator yields comes to n. -/
def Counts (w : World) (be bv bp : Nat) (n : Int) : Prop :=
  Calls Try.prog 29 #[.func (.func 30) #[] #[.pointer (some ⟨be, 0, none⟩), .pointer (some ⟨bv, 0, none⟩), .pointer (some ⟨bp, 0, none⟩)]] w fun e w' => e = .returned (iv n) ∧ Below w.heap.size w w'
def CtdRes (n : Int) (w : World) (e : Ending) (w' : World) : Prop :=
  ∃ be bv bp, e = .returned (.func (.func 30) #[] #[.pointer (some ⟨be, 0, none⟩), .pointer (some ⟨bv, 0, none⟩), .pointer (some ⟨bp, 0, none⟩)]) ∧ Counts w' be bv bp n ∧ Below w.heap.size w w'

theorem counts_of {ef : FuncId} {sel : Sp → Int} {m : Ml} {fv pv : Value} {F : List Sp} {plan : List Int} {w w' : World} {be bv bp : Nat}
    (eg : ∀ args w, (callFunc ef args).run Try.prog w = .ok (.enter ef args) w)
    (hef : ∀ p w, Calls Try.prog ef #[.agg (encS p).toArray] w fun e w' => e = .returned (iv (sel p)) ∧ Below w.heap.size w w') (hsel : ∀ p hi, 0 ≤ p.1 → p.1 ≤ hi → 0 ≤ p.2 → p.2 ≤ hi → 0 ≤ sel p ∧ sel p ≤ hi)
    (hm : vMill m = true) (hF : F.all vFlow = true) (hP : plan.all (inB 0 8) = true) (hl : plan.length ≤ F.length) (hl2 : F.length ≤ 1000000)
    (hb : LvBox w' be bv bp ef m fv pv) (hf : SliceOf encS 2 w fv F) (hp : Ints w pv plan) (hbel : Below w.heap.size w w') : Counts w' be bv bp (lvOf sel m F plan).length := by
  have hlt : ∀ {b : Nat} {o : Obj}, w'.heap[b]? = some o → b < w'.heap.size := fun h => (Array.getElem?_eq_some_iff.1 h).1
  refine count_any _ _ (fun k => k < w'.heap.size) _ _ (enters_of Try.func30 (by kernel_rfl) rfl) ?_ (fun k hk => hk) (by have := lvOf_len sel m F plan; omega)
  exact levels_seq _ be bv bp (hlt hb.e) (hlt hb.v) (hlt hb.p) m fv pv F plan ef sel eg hef hsel hm hF hP hl w' (fun k hk => hk) hb
    (fun W hs => (hf.below hbel).heapEq (fun k hk => hs.block k hk)) (fun W hs => (hp.below hbel).heapEq (fun k hk => hs.block k hk))

theorem lowest_ctd {m : Ml} {pa fa : Option Addr} {pn pc fn fc : Nat} {F : List Sp} {plan : List Int} (hm : vMill m = true) (hF : F.all vFlow = true) (hP : plan.all (inB 0 8) = true) (hl : plan.length ≤ F.length) (hl2 : F.length ≤ 1000000)
    (w : World) (hf : SliceOf encS 2 w (.slice fa fn fc) F) (hp : Ints w (.slice pa pn pc) plan) :
    Calls Try.prog 12 #[.agg (vcells m (.slice fa fn fc)), .slice pa pn pc] w (CtdRes (lvOf Prod.fst m F plan).length w) := by
  refine (lowest_any m (.slice fa fn fc) pa pn pc w).mono ?_
  rintro e w' ⟨be, bv, bp, rfl, _, _, _, hb, hbel⟩
  exact ⟨be, bv, bp, rfl, counts_of (enters_of Try.func21 (by kernel_rfl) rfl) low1_any (fun p hi h1 h2 h3 h4 => ⟨h1, h2⟩) hm hF hP hl hl2 hb hf hp hbel, hbel⟩
theorem highest_ctd {m : Ml} {pa fa : Option Addr} {pn pc fn fc : Nat} {F : List Sp} {plan : List Int} (hm : vMill m = true) (hF : F.all vFlow = true) (hP : plan.all (inB 0 8) = true) (hl : plan.length ≤ F.length) (hl2 : F.length ≤ 1000000)
    (w : World) (hf : SliceOf encS 2 w (.slice fa fn fc) F) (hp : Ints w (.slice pa pn pc) plan) :
    Calls Try.prog 14 #[.agg (vcells m (.slice fa fn fc)), .slice pa pn pc] w (CtdRes (lvOf Prod.snd m F plan).length w) := by
  refine (highest_any m (.slice fa fn fc) pa pn pc w).mono ?_
  rintro e w' ⟨be, bv, bp, rfl, _, _, _, hb, hbel⟩
  exact ⟨be, bv, bp, rfl, counts_of (enters_of Try.func23 (by kernel_rfl) rfl) high1_any (fun p hi h1 h2 h3 h4 => ⟨h3, h4⟩) hm hF hP hl hl2 hb hf hp hbel, hbel⟩

def lastErr (m : Ml) (F : List Sp) (k fr : Int) : Int := if sChk m F ≠ 0 then sChk m F else if inB 1 m.k k = true ∧ inB 0 ((F.length : Int) - 1) fr = true then 0 else 3
def lastOf (sel : Sp → Int) (m : Ml) (F : List Sp) (k fr : Int) : Int := if lastErr m F k fr = 0 then ((lvOf sel m F (stdy F.length k fr)).length : Int) - fr else 0
theorem openV_bad {m : Ml} {F : List Sp} (fv : Value) (h : sChk m F ≠ 0) : openV m F fv = zv := by simp [openV, h]
theorem openV_good {m : Ml} {F : List Sp} (fv : Value) (h : sChk m F = 0) : openV m F fv = vcells m fv := by simp [openV, h]
theorem encMl_cells (m : Ml) : (encMl m).toArray = #[iv m.k, iv m.t, iv m.bl, iv m.bh, iv m.h, iv m.nl, iv m.nh] := rfl

end Go.Proofs.Ytfpbfhjfhfmanac
