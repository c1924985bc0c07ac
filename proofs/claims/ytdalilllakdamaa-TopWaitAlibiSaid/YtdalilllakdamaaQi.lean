/- Turns: how two cloths are compared. -/
import Derived.Test.YtdalilllakdamaaMe
import Derived.Test.YtdalilllakdamaaCmp
import Derived.StillTailTactics
import Derived.Deep.DeepCutAuto
namespace Go.Proofs.Ytdalilllakdamaa
open Go Go.RowKit Go.Shelf
attribute [local go_sem] Oper.semAt_some
attribute [local go_sem ↓] Go.wp_at_zero Go.wp_at_succ

/-- The world has only grown. -/
def Grn (w w' : World) : Prop := Below w.heap.size w w' ∧ w.drawn ≤ w'.drawn
theorem Grn.refl (w : World) : Grn w w := ⟨Below.refl _ _, Nat.le_refl _⟩
theorem Grn.drew {w w' : World} (h : Grn w w') : Grn w w'.drew := ⟨h.1.drew, Nat.le_succ_of_le h.2⟩
theorem Grn.push {w w' : World} (h : Grn w w') (o : Obj) : Grn w (w'.alloc o) := ⟨bpush h.1 o, h.2⟩
theorem Grn.put {w w' : World} (h : Grn w w') {p : Addr} (hp : w.heap.size ≤ p.block) (v : Value) : Grn w (w'.setCell p v) := ⟨bput h.1 hp v, h.2⟩
theorem Grn.trans {a b c : World} (h : Grn a b) (k : Grn b c) : Grn a c := ⟨bstep h.1 k.1, Nat.le_trans h.2 k.2⟩


/-- How two cloths are compared. -/
def cfK (C : List Ct) (R z : List Int) (a b : Nat) : Int := orL [cmpI (ctAt C a).co (ctAt C b).co, cmpI (z.getD a 0) (z.getD b 0), cmpI (rkC C R a) (rkC C R b)]
theorem ints3Q {w : World} {b off cap : Nat} {x y u : Int} (h : w.cell? ⟨b, off, none⟩ = some (iv x)) (h' : w.cell? ⟨b, off + 1, none⟩ = some (iv y)) (h'' : w.cell? ⟨b, off + 2, none⟩ = some (iv u)) : Ints w (.slice (some ⟨b, off, none⟩) 3 cap) [x, y, u] := by
  refine ⟨_, cap, rfl, by simp, fun i z hz => ⟨b, off, rfl, fun j v hv => ?_⟩⟩
  rcases j with _ | j
  · simp [encI] at hv; subst hv
    rcases i with _ | _ | _ | i
    · simp at hz; subst hz; simpa using h
    · simp at hz; subst hz; simpa using h'
    · simp at hz; subst hz; simpa using h''
    · simp at hz
  · simp [encI] at hv

set_option maxRecDepth 20000 in
set_option maxHeartbeats 6400000 in
theorem line1_any (bd bt tb ra rb a b : Nat) (ca : Option Addr) (cc rc : Nat) (C : List Ct) (R z : List Int) (W : World) (ha : a < C.length) (hb : b < C.length) (hz : z.length = C.length) (hwa : 0 ≤ (ctAt C a).we ∧ (ctAt C a).we < R.length) (hwb : 0 ≤ (ctAt C b).we ∧ (ctAt C b).we < R.length)
    (hd : W.cell? ⟨bd, 0, none⟩ = some (.slice ca C.length cc)) (hd1 : W.cell? ⟨bd, 1, none⟩ = some (.slice (some ⟨ra, rb, none⟩) R.length rc)) (hC : SliceOf encC 4 W (.slice ca C.length cc) C)
    (ht : W.cell? ⟨bt, 0, none⟩ = some (.slice (some ⟨tb, 0, none⟩) C.length C.length)) (htr : W.heap[tb]? = some (.cells (rowI z) 3 (0, 0))) (hR : Ints W (.slice (some ⟨ra, rb, none⟩) R.length rc) R) :
    Calls Try.prog 42 #[iv a, iv b, .pointer (some ⟨bd, 0, none⟩), .pointer (some ⟨bt, 0, none⟩)] W fun e w' => e = .returned (iv (cfK C R z a b)) ∧ Grn W w' := by
  obtain ⟨cb, cof, rfl⟩ := slice_addr hC (by omega)
  obtain ⟨y0, y1, y2, y3⟩ := cloth_cells hC ha
  obtain ⟨z0, z1, z2, z3⟩ := cloth_cells hC hb
  have l1 := lt_of_cell hd
  have l2 := lt_of_cell y0
  have l3 := lt_of_cell ht
  have i0 : (0 : Int) ≤ (a : Int) := by omega
  have i1 : (a : Int) < (C.length : Int) := by omega
  have i2 : (0 : Int) ≤ (b : Int) := by omega
  have i3 : (b : Int) < (C.length : Int) := by omega
  have HC := Lib.hid hC; have HT := Lib.hid htr; have HR := Lib.hid hR
  clear hC htr hR
  go_enter Try.func42, Try.ntmps42
  go_wp2_with fail
  go_cut [7, 8] (fun s7 s8 wx => ∃ g h, s7 = .pointer (some ⟨g, 0, none⟩) ∧ s8 = .pointer (some ⟨h, 0, none⟩) ∧ Hid (wx.cell? ⟨g, 0, none⟩ = some (iv (ctAt C a).we) ∧ wx.cell? ⟨g, 1, none⟩ = some (iv (ctAt C a).co) ∧ wx.cell? ⟨g, 2, none⟩ = some (iv (ctAt C a).lo) ∧ wx.cell? ⟨g, 3, none⟩ = some (iv (ctAt C a).hi)) ∧ Hid (wx.cell? ⟨h, 0, none⟩ = some (iv (ctAt C b).we) ∧ wx.cell? ⟨h, 1, none⟩ = some (iv (ctAt C b).co) ∧ wx.cell? ⟨h, 2, none⟩ = some (iv (ctAt C b).lo) ∧ wx.cell? ⟨h, 3, none⟩ = some (iv (ctAt C b).hi)) ∧ Hid (Grn W wx))
  case first =>
    go_region
    all_goals
      go_wp2_with fail
      go_meet
      refine ⟨_, _, rfl, rfl, ⟨?_, ?_, ?_, ?_⟩, ⟨?_, ?_, ?_, ?_⟩, ?_⟩
      · go_simp
      · go_simp
      · go_simp
      · go_simp
      · go_simp
      · go_simp
      · go_simp
      · go_simp
      · exact (((Grn.refl _).push _).push _).drew
  case rest =>
    obtain ⟨g, h, rfl, rfl, HGa, HGb, HG⟩ := hcut
    obtain ⟨g0, g1, g2, g3⟩ := HGa.out
    obtain ⟨h0, h1, h2, h3⟩ := HGb.out
    have hb := HG.out.1
    have htc := (hb.block tb (Array.getElem?_eq_some_iff.1 HT.out).1).trans HT.out
    have t0 : wc.cell? ⟨tb, a, none⟩ = some (iv (z.getD a 0)) := cell_rowI htc (by omega)
    have t1 : wc.cell? ⟨tb, b, none⟩ = some (iv (z.getD b 0)) := cell_rowI htc (by omega)
    have t2 := kcellQ hb ht
    have d1 := kcellQ hb hd1
    have hRc := HR.out.below hb
    obtain ⟨na, hna⟩ := Int.eq_ofNat_of_zero_le hwa.1
    obtain ⟨nb, hnb⟩ := Int.eq_ofNat_of_zero_le hwb.1
    have HV : Hid (cfK C R z a b = orL [cmpI (ctAt C a).co (ctAt C b).co, cmpI (z.getD a 0) (z.getD b 0), cmpI (R.getD na 0) (R.getD nb 0)]) := by
      unfold Hid cfK rkC; rw [hna, hnb]; rfl
    rw [hna] at g0 hwa
    rw [hnb] at h0 hwb
    have r0 : wc.cell? ⟨ra, rb + na, none⟩ = some (iv (R.getD na 0)) := int_cell hRc (by rw [List.getD_eq_getElem?_getD, List.getElem?_eq_getElem (by omega)]; rfl)
    have r1 : wc.cell? ⟨ra, rb + nb, none⟩ = some (iv (R.getD nb 0)) := int_cell hRc (by rw [List.getD_eq_getElem?_getD, List.getElem?_eq_getElem (by omega)]; rfl)
    have j0 : (0 : Int) ≤ (na : Int) := by omega
    have j1 : (na : Int) < (R.length : Int) := by omega
    have j2 : (0 : Int) ≤ (nb : Int) := by omega
    have j3 : (nb : Int) < (R.length : Int) := by omega
    clear hna hnb hb htc hRc y0 y1 y2 y3 z0 z1 z2 z3 l1 l2 l3 hd hd1 ht g2 g3 h2 h3
    generalize (ctAt C a).co = coa at *
    generalize (ctAt C b).co = cob at *
    generalize z.getD a 0 = za at *
    generalize z.getD b 0 = zb at *
    generalize R.getD na 0 = ka at *
    generalize R.getD nb 0 = kb at *
    go_wp2_with fail
    refine wp_region_still_tail 27 (by kernel_rfl) (by kernel_rfl) ?_
    simp only [List.take_succ_cons, List.take_zero, List.drop_succ_cons, List.drop_zero]
    repeat still_step
    still_call (compare_any _ _ _)
    repeat still_step
    still_call (compare_any _ _ _)
    repeat still_step
    still_call (compare_any _ _ _)
    refine wpStill_nil ?_
    change wpList _ _ _ _ _ wc.drew
    go_wp2_with fail
    refine (or_any [cmpI coa cob, cmpI za zb, cmpI ka kb] _ _ (ints3Q (by go_simp) (by go_simp) (by go_simp))).mono ?_
    rintro e w5 ⟨rfl, rfl⟩
    go_wp2_with fail
    go_ret
    exact ⟨by rw [HV.out]; rfl, (HG.out.push _).drew⟩
end Go.Proofs.Ytdalilllakdamaa
