/- fewest and Most of package stream. -/
import Derived.Test.YtompkdhhhlgbdaaSf
namespace Go.Proofs.Ytompkdhhhlgbdaa
open Go Go.RowKit Go.Shelf
attribute [local go_sem ↓] Go.wp_at_zero Go.wp_at_succ

def Totals (w : World) (bf bv : Nat) (s : Int) : Prop :=
  Calls Try.prog 47 #[.func (.func 61) #[] #[.pointer (some ⟨bf, 0, none⟩), .pointer (some ⟨bv, 0, none⟩)]] w fun e w' => e = .returned (iv s) ∧ Below w.heap.size w w'
def TotRes (s : Int) (w : World) (e : Ending) (w' : World) : Prop :=
  ∃ bf bv, e = .returned (.func (.func 61) #[] #[.pointer (some ⟨bf, 0, none⟩), .pointer (some ⟨bv, 0, none⟩)]) ∧ Totals w' bf bv s ∧ Below w.heap.size w w'
theorem busy_all {m : Ml} (hm : vMill m = true) : ∀ (r : List Sp) (l : Int), 0 ≤ l → r.all vFlow = true → (busy m l r).length = r.length ∧ ∀ x ∈ busy m l r, 0 ≤ x ∧ x ≤ 8
  | [], l, _, _ => by simp [busy]
  | p :: r, l, hl, hr => by
    rw [List.all_cons, Bool.and_eq_true] at hr
    obtain ⟨a1, a2, a3, a4, a5⟩ := okSpan_iff.1 hr.1
    obtain ⟨o1, o2, o3, o4⟩ := mostOf_bd (l := l) (f := p.1) hm hl a1
    have hk := (vMill_iff.1 hm).1.2
    obtain ⟨h1, h2⟩ := busy_all hm r _ o3 hr.2
    refine ⟨by simp [busy, h1], ?_⟩
    intro x hx
    rw [busy, List.mem_cons] at hx
    rcases hx with rfl | hx
    · omega
    · exact h2 x hx
theorem sum_bd : ∀ (l : List Int), (∀ x ∈ l, 0 ≤ x ∧ x ≤ 8) → 0 ≤ l.sum ∧ l.sum ≤ 8 * (l.length : Int)
  | [], _ => by simp
  | a :: l, h => by
    have h1 := h a (by simp)
    have h2 := sum_bd l (fun x hx => h x (by simp [hx]))
    rw [List.sum_cons, List.length_cons]; omega
theorem drop_all {α : Type} {p : α → Bool} {l : List α} (h : l.all p = true) (n : Nat) : (l.drop n).all p = true := by
  rw [List.all_eq_true] at *; intro x hx; exact h x (List.mem_of_mem_drop hx)

theorem busiest_tot {m : Ml} {fa : Option Addr} {fc : Nat} {F : List Sp} (hm : vMill m = true) (hF : F.all vFlow = true) (hl24 : F.length ≤ 1000000) (hr : Nat) (level : Int) (hhr : hr ≤ F.length) (l1 : 0 ≤ level) (l2 : level ≤ 500)
    (w : World) (hf : SliceOf encS 2 w (.slice fa F.length fc) F) :
    Calls Try.prog 38 #[.agg (vcells m (.slice fa F.length fc)), .agg #[iv hr, iv level]] w (TotRes (busy m level (F.drop hr)).sum w) := by
  refine (busiest_any m (.slice fa F.length fc) hr level w).mono ?_
  rintro e w' ⟨bf, bv, rfl, hb, hbel⟩
  have hlt : ∀ {b : Nat} {o : Obj}, w'.heap[b]? = some o → b < w'.heap.size := fun h => (Array.getElem?_eq_some_iff.1 h).1
  refine ⟨bf, bv, rfl, ?_, hbel⟩
  refine total_any _ _ (fun k => k < w'.heap.size) _ _ (enters_of Try.func61 (by kernel_rfl) rfl) ?_ (fun k hk => hk) ?_
  · exact busy_seq _ bf bv (hlt hb.f) (hlt hb.v) m fa fc F hm hF hl24 hr level hhr l1 l2 w' (fun k hk => hk) hb (fun W hs => (hf.below hbel).heapEq (fun k hk => hs.block k hk))
  · intro pre hpre
    obtain ⟨h1, h2⟩ := busy_all hm (F.drop hr) level l1 (drop_all hF hr)
    have h3 := sum_bd pre (fun x hx => h2 x (hpre.subset hx))
    have h4 : pre.length ≤ F.length := by
      have := hpre.length_le; rw [h1, List.length_drop] at this; omega
    omega

/-- Whether one hammer more must go in an hour. -/
def fewC (m : Ml) (level : Int) (p : Sp) (r : List Sp) (x : Int) : Bool := decide (x + (busy m (leftL m.t m.h level p.1 x) r).sum < (busy m level (p :: r)).sum)
def leastF (c : Int → Bool) : Nat → Nat → Nat
  | 0, k => k
  | f + 1, k => if c (k : Int) = true then leastF c f (k + 1) else k
def few (m : Ml) (level : Int) (p : Sp) (r : List Sp) : Nat := leastF (fewC m level p r) (mostOf m level p.1).toNat 0
theorem fewC_most {m : Ml} {level : Int} {p : Sp} {r : List Sp} : fewC m level p r (mostOf m level p.1) = false := by
  simp [fewC, busy]

set_option maxRecDepth 20000 in
set_option maxHeartbeats 6400000 in
theorem fewest_any (m : Ml) (fa : Option Addr) (fc : Nat) (F : List Sp) (hr : Nat) (p : Sp) (level : Int) (w : World) (hm : vMill m = true) (hF : F.all vFlow = true) (hl24 : F.length ≤ 1000000) (hp : F[hr]? = some p) (l1 : 0 ≤ level) (l2 : level ≤ 500) (hf : SliceOf encS 2 w (.slice fa F.length fc) F) :
    Calls Try.prog 40 #[.agg (vcells m (.slice fa F.length fc)), .agg #[iv hr, iv level]] w fun e w' => e = .returned (iv (few m level p (F.drop (hr + 1)))) ∧ Below w.heap.size w w' := by
  have hFv := okSpan_iff.1 (List.all_eq_true.1 hF p (List.mem_of_getElem? hp))
  obtain ⟨a1, a2, a3, a4, a5⟩ := hFv
  have hlt : hr < F.length := (List.getElem?_eq_some_iff.1 hp).1
  have hdr : F.drop hr = p :: F.drop (hr + 1) := by
    obtain ⟨hk', he⟩ := List.getElem?_eq_some_iff.1 hp
    rw [List.drop_eq_getElem_cons hk', he]
  obtain ⟨o1, o2, o3, o4⟩ := mostOf_bd (l := level) (f := p.1) hm l1 a1
  have hk8 := (vMill_iff.1 hm).1.2
  have hh5 := (vMill_iff.1 hm).2.2.2.1.2
  have ht0 := (vMill_iff.1 hm).2.1.1
  have hlx : Hid (∀ x : Int, 0 ≤ x → x ≤ mostOf m level p.1 → 0 ≤ leftL m.t m.h level p.1 x ∧ leftL m.t m.h level p.1 x ≤ 500) := fun x h1 h2 => by
    have e1 : x * m.t ≤ mostOf m level p.1 * m.t := Int.mul_le_mul_of_nonneg_right h2 ht0
    have e2 : 0 ≤ x * m.t := Int.mul_nonneg h1 ht0
    have e3 := (fillL_bd (H := m.h) (l := level) (f := p.1) (by omega) l1 a1).2
    unfold leftL at o3 ⊢; omega
  have hsb : Hid (∀ (lev : Int) (n : Nat), 0 ≤ lev → 0 ≤ (busy m lev (F.drop n)).sum ∧ (busy m lev (F.drop n)).sum ≤ 8000000) := fun lev n hlv => by
    obtain ⟨h1, h2⟩ := busy_all hm (F.drop n) lev hlv (drop_all hF n)
    have h3 := sum_bd _ h2
    rw [h1, List.length_drop] at h3; omega
  have hN : Hid (∀ (x : Int) (w : World), 0 ≤ x → x ≤ mostOf m level p.1 → SliceOf encS 2 w (.slice fa F.length fc) F → Calls Try.prog 41 #[.agg (vcells m (.slice fa F.length fc)), .agg #[iv hr, iv level], iv x] w fun e w' => e = .returned (.agg #[iv ((hr : Int) + 1), iv (leftL m.t m.h level p.1 x)]) ∧ Below w.heap.size w w') :=
    fun x w h1 h2 hs => next_any m fa fc F hr p level x w hm hF hl24 hp l1 l2 h1 (by omega) hs
  have hB0 : Hid (∀ (w : World), SliceOf encS 2 w (.slice fa F.length fc) F → Calls Try.prog 38 #[.agg (vcells m (.slice fa F.length fc)), .agg #[iv hr, iv level]] w (TotRes (busy m level (p :: F.drop (hr + 1))).sum w)) :=
    fun w hs => by rw [← hdr]; exact busiest_tot hm hF hl24 hr level (by omega) l1 l2 w hs
  have hB1 : Hid (∀ (lev : Int) (w : World), 0 ≤ lev → lev ≤ 500 → SliceOf encS 2 w (.slice fa F.length fc) F → Calls Try.prog 38 #[.agg (vcells m (.slice fa F.length fc)), .agg #[iv ((hr : Int) + 1), iv lev]] w (TotRes (busy m lev (F.drop (hr + 1))).sum w)) :=
    fun lev w h1 h2 hs => busiest_tot hm hF hl24 (hr + 1) lev (by omega) h1 h2 w hs
  have hsm := hsb.out level hr l1
  rw [hdr] at hsm
  have HFS := Lib.hid hf
  have HFM : Hid (fewC m level p (F.drop (hr + 1)) (mostOf m level p.1) = false) := fewC_most
  have HFC : Hid (∀ x, fewC m level p (F.drop (hr + 1)) x = decide (x + (busy m (leftL m.t m.h level p.1 x) (F.drop (hr + 1))).sum < (busy m level (p :: F.drop (hr + 1))).sum)) := fun _ => rfl
  have HFW : Hid (few m level p (F.drop (hr + 1)) = leastF (fewC m level p (F.drop (hr + 1))) (mostOf m level p.1).toNat 0) := rfl
  clear hF hm hp hf hdr
  obtain ⟨kk, t, bl, bh, h, nl, nh⟩ := m
  generalize mostOf ⟨kk, t, bl, bh, h, nl, nh⟩ level p.1 = mo at *
  generalize (busy ⟨kk, t, bl, bh, h, nl, nh⟩ level (p :: F.drop (hr + 1))).sum = ms at *
  generalize few ⟨kk, t, bl, bh, h, nl, nh⟩ level p (F.drop (hr + 1)) = fw at *
  generalize fewC ⟨kk, t, bl, bh, h, nl, nh⟩ level p (F.drop (hr + 1)) = cnd at *
  simp only [vcells] at *
  obtain ⟨Wn, hWn⟩ : ∃ Wn : World, ((w.alloc (.cells #[iv kk, iv t, iv bl, iv bh, iv h, iv nl, iv nh, .slice fa F.length fc] 73)).alloc (.cells #[iv hr, iv level] 103)) = Wn := ⟨_, rfl⟩
  have hBw : Below w.heap.size w Wn := by rw [← hWn]; exact (by repeat (first | exact Below.refl _ _ | refine Below.drew ?_ | refine bpush ?_ _ | refine bput ?_ (by simp) _ | (refine bstep ?_ (by assumption))))
  have c0 : Wn.cell? ⟨w.heap.size, 0, none⟩ = some (iv kk) := by subst hWn; go_simp
  have c1 : Wn.cell? ⟨w.heap.size, 1, none⟩ = some (iv t) := by subst hWn; go_simp
  have c2 : Wn.cell? ⟨w.heap.size, 2, none⟩ = some (iv bl) := by subst hWn; go_simp
  have c3 : Wn.cell? ⟨w.heap.size, 3, none⟩ = some (iv bh) := by subst hWn; go_simp
  have c4 : Wn.cell? ⟨w.heap.size, 4, none⟩ = some (iv h) := by subst hWn; go_simp
  have c5 : Wn.cell? ⟨w.heap.size, 5, none⟩ = some (iv nl) := by subst hWn; go_simp
  have c6 : Wn.cell? ⟨w.heap.size, 6, none⟩ = some (iv nh) := by subst hWn; go_simp
  have c7 : Wn.cell? ⟨w.heap.size, 7, none⟩ = some (.slice fa F.length fc) := by subst hWn; go_simp
  have d0 : Wn.cell? ⟨w.heap.size + 1, 0, none⟩ = some (iv hr) := by subst hWn; go_simp
  have d1 : Wn.cell? ⟨w.heap.size + 1, 1, none⟩ = some (iv level) := by subst hWn; go_simp
  have hFn := HFS.out.below hBw
  go_enter Try.func40, Try.ntmps40
  go_wp2_with fail
  clear hWn
  refine (hB0.out _ hFn).mono ?_
  rintro e w1 ⟨bf, bv, rfl, hcT, hbB⟩
  unfold Totals at hcT
  have HcT := Lib.hid hcT; clear hcT
  go_wp2_with fail
  refine (HcT.out).mono ?_
  rintro e w2 ⟨rfl, hbT⟩
  have HI2 : Hid (w2.cell? ⟨w.heap.size, 0, none⟩ = some (iv kk) ∧ w2.cell? ⟨w.heap.size, 1, none⟩ = some (iv t) ∧ w2.cell? ⟨w.heap.size, 2, none⟩ = some (iv bl) ∧ w2.cell? ⟨w.heap.size, 3, none⟩ = some (iv bh) ∧ w2.cell? ⟨w.heap.size, 4, none⟩ = some (iv h) ∧ w2.cell? ⟨w.heap.size, 5, none⟩ = some (iv nl) ∧ w2.cell? ⟨w.heap.size, 6, none⟩ = some (iv nh) ∧ w2.cell? ⟨w.heap.size, 7, none⟩ = some (.slice fa F.length fc) ∧ w2.cell? ⟨w.heap.size + 1, 0, none⟩ = some (iv hr) ∧ w2.cell? ⟨w.heap.size + 1, 1, none⟩ = some (iv level) ∧ SliceOf encS 2 w2 (.slice fa F.length fc) F ∧ Below w.heap.size w w2) :=
    ⟨kcell hbT (kcell hbB c0), kcell hbT (kcell hbB c1), kcell hbT (kcell hbB c2), kcell hbT (kcell hbB c3), kcell hbT (kcell hbB c4), kcell hbT (kcell hbB c5), kcell hbT (kcell hbB c6), kcell hbT (kcell hbB c7), kcell hbT (kcell hbB d0), kcell hbT (kcell hbB d1), (hFn.below hbB).below hbT, bstep (bstep hBw hbB) hbT⟩
  clear hbT hbB c0 c1 c2 c3 c4 c5 c6 c7 d0 d1 hFn hBw
  go_wp2_with fail
  go_loopw [6] (fun i wr => ∃ k : Nat, (k : Int) ≤ mo ∧ i = iv k ∧ Hid (fw = leastF cnd (mo.toNat - k) k) ∧ Hid (wr.cell? ⟨w.heap.size, 0, none⟩ = some (iv kk) ∧ wr.cell? ⟨w.heap.size, 1, none⟩ = some (iv t) ∧ wr.cell? ⟨w.heap.size, 2, none⟩ = some (iv bl) ∧ wr.cell? ⟨w.heap.size, 3, none⟩ = some (iv bh) ∧ wr.cell? ⟨w.heap.size, 4, none⟩ = some (iv h) ∧ wr.cell? ⟨w.heap.size, 5, none⟩ = some (iv nl) ∧ wr.cell? ⟨w.heap.size, 6, none⟩ = some (iv nh) ∧ wr.cell? ⟨w.heap.size, 7, none⟩ = some (.slice fa F.length fc) ∧ wr.cell? ⟨w.heap.size + 1, 0, none⟩ = some (iv hr) ∧ wr.cell? ⟨w.heap.size + 1, 1, none⟩ = some (iv level) ∧ SliceOf encS 2 wr (.slice fa F.length fc) F ∧ Below w.heap.size w wr)) (fun i _ => mo.toNat - (intOf i).toNat)
  case atStart => exact ⟨0, by omega, rfl, HFW.out, HI2⟩
  case round =>
    obtain ⟨k, hk, rfl, HL, HI⟩ := hrel
    obtain ⟨x1, x2⟩ := hlx.out k (by omega) hk
    obtain ⟨y1, y2⟩ := hsb.out _ (hr + 1) x1
    have HCK := Lib.hid (HFC.out (k : Int))
    have HNk := Lib.hid (fun (w : World) hs => hN.out (k : Int) w (by omega) hk hs)
    have HBk := Lib.hid (fun (w : World) hs => hB1.out _ w x1 x2 hs)
    generalize leftL t h level p.1 (k : Int) = lev2 at *
    generalize (busy ⟨kk, t, bl, bh, h, nl, nh⟩ lev2 (F.drop (hr + 1))).sum = s2 at *
    obtain ⟨c0, c1, c2, c3, c4, c5, c6, c7, d0, d1, hFr, hBr⟩ := HI.out
    have e1 : IntKind.i64.wrap ((k : Int) + s2) = (k : Int) + s2 := IntWalk.i64_in _ ⟨by omega, by omega⟩
    clear HI HI2
    go_wp2_with fail
    go_region_held3 (fun w' => w'.cell? ⟨w.heap.size, 0, none⟩ = some (iv kk) ∧ w'.cell? ⟨w.heap.size, 1, none⟩ = some (iv t) ∧ w'.cell? ⟨w.heap.size, 2, none⟩ = some (iv bl) ∧ w'.cell? ⟨w.heap.size, 3, none⟩ = some (iv bh) ∧ w'.cell? ⟨w.heap.size, 4, none⟩ = some (iv h) ∧ w'.cell? ⟨w.heap.size, 5, none⟩ = some (iv nl) ∧ w'.cell? ⟨w.heap.size, 6, none⟩ = some (iv nh) ∧ w'.cell? ⟨w.heap.size, 7, none⟩ = some (.slice fa F.length fc) ∧ w'.cell? ⟨w.heap.size + 1, 0, none⟩ = some (iv hr) ∧ w'.cell? ⟨w.heap.size + 1, 1, none⟩ = some (iv level) ∧ SliceOf encS 2 w' (.slice fa F.length fc) F ∧ Below w.heap.size w w')
      (first | (go_split_ands; refine ⟨?_, ?_, ?_, ?_, ?_, ?_, ?_, ?_, ?_, ?_, ?_, ?_⟩ <;> first | assumption | exact kcell hbT (by assumption) | exact SliceOf.below (by assumption) hbT | exact bstep (by assumption) hbT | exact kcell hbB (by assumption) | exact SliceOf.below (by assumption) hbB | exact bstep (by assumption) hbB | exact kcell hbK (by assumption) | exact SliceOf.below (by assumption) hbK | exact bstep (by assumption) hbK) | (refine ⟨?_, ?_, ?_, ?_, ?_, ?_, ?_, ?_, ?_, ?_, ?_, ?_⟩ <;> first | exact Below.drew (by assumption) | exact SliceOf.below (by assumption) ((Below.refl _ _).drew) | assumption))
      (first | ((with_reducible refine (HcU.out).mono ?_); rintro e w5 ⟨rfl, hbT⟩) | (go_split_ands; (with_reducible refine (HNk.out _ (by assumption)).mono ?_); rintro e w3 ⟨rfl, hbK⟩) | (go_split_ands; (with_reducible refine (HBk.out _ (by assumption)).mono ?_); rintro e w4 ⟨cf, cv, rfl, hcU, hbB⟩; unfold Totals at hcU; have HcU := Lib.hid hcU; clear hcU))
    rename_i hHeld
    have HI5 := Lib.hid hHeld
    clear hHeld hbT hbB hbK e1 c0 c1 c2 c3 c4 c5 c6 c7 d0 d1 hFr hBr
    by_cases hc : (k : Int) + s2 < ms
    · have hck : cnd (k : Int) = true := by rw [HCK.out]; simpa using hc
      have hkm : (k : Int) < mo := by
        by_cases e : (k : Int) = mo
        · rw [e, HFM.out] at hck; cases hck
        · omega
      have HL2 : Hid (fw = leastF cnd (mo.toNat - (k + 1)) (k + 1)) := by
        have := HL.out
        rw [show mo.toNat - k = (mo.toNat - (k + 1)) + 1 by omega, leastF, if_pos hck] at this
        exact this
      clear hck
      go_wp2_with fail
      go_roundw
      case rel => exact ⟨k + 1, by omega, by go_num, HL2, HI5⟩
      case measure => simp [intOf]; omega
    · have hck : cnd (k : Int) = false := by rw [HCK.out]; simpa using hc
      have HL2 : Hid (fw = k) := by
        have := HL.out
        cases hn : mo.toNat - k with
        | zero => rw [hn] at this; exact this
        | succ n => rw [hn, leastF, hck] at this; simpa [Hid] using this
      clear hck
      obtain ⟨-, -, -, -, -, -, -, -, -, -, -, hB5⟩ := HI5.out
      have HB5 := Lib.hid hB5; clear hB5
      go_wp2_with fail
      go_ret
      exact ⟨by rw [HL2.out]; rfl, HB5.out⟩

/-- The plan with the most hammers, the smallest list. -/
def mostP (m : Ml) : Int → List Sp → List Int
  | _, [] => []
  | l, p :: r => (few m l p r : Int) :: mostP m (leftL m.t m.h l p.1 (few m l p r)) r
theorem leastF_le (c : Int → Bool) : ∀ (f k : Nat), leastF c f k ≤ k + f
  | 0, k => by simp [leastF]
  | f + 1, k => by
    rw [leastF]; split
    · have := leastF_le c f (k + 1); omega
    · omega
theorem few_bd {m : Ml} {l : Int} {p : Sp} {r : List Sp} (hm : vMill m = true) (h1 : 0 ≤ l) (h2 : 0 ≤ p.1) : (few m l p r : Int) ≤ mostOf m l p.1 ∧ 0 ≤ leftL m.t m.h l p.1 (few m l p r) ∧ leftL m.t m.h l p.1 (few m l p r) ≤ 500 := by
  obtain ⟨o1, o2, o3, o4⟩ := mostOf_bd (l := l) (f := p.1) hm h1 h2
  have h3 := leastF_le (fewC m l p r) (mostOf m l p.1).toNat 0
  have h4 : (few m l p r : Int) ≤ mostOf m l p.1 := by unfold few; omega
  have ht0 := (vMill_iff.1 hm).2.1.1
  have hh5 := (vMill_iff.1 hm).2.2.2.1
  have e1 : (few m l p r : Int) * m.t ≤ mostOf m l p.1 * m.t := Int.mul_le_mul_of_nonneg_right h4 ht0
  have e2 : 0 ≤ (few m l p r : Int) * m.t := Int.mul_nonneg (by omega) ht0
  have e3 := (fillL_bd (H := m.h) (l := l) (f := p.1) (by omega) h1 h2).2
  refine ⟨h4, ?_⟩
  unfold leftL at o3 ⊢; omega
end Go.Proofs.Ytompkdhhhlgbdaa
