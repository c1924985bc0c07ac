/- A yard: at which lengths cloths can be hung. -/
import Derived.Test.YtiellodbdidgoaaGf
import Derived.Carry
import Derived.Deep.DeepCutAuto
namespace Go.Proofs.Ytiellodbdidgoaa
open Go Go.RowKit Go.Shelf
attribute [local go_sem ↓] Go.wp_at_zero Go.wp_at_succ

/-- At which length a cloth may hang at most. -/
def permI (str own : Int) : Int := own * (1000 + str) / 1000
def lenS (str : Int) (c : Tn) : Sp := if permI str c.1.1 < c.1.2 then (1, 0) else (c.1.2, permI str c.1.1)

set_option maxRecDepth 20000 in
set_option maxHeartbeats 1600000 in
theorem permitted_any (ca ra ha : Option Addr) (cn cc rn rc hn hc : Nat) (gap str own : Int) (w : World) (h0 : 0 ≤ own ∧ own ≤ 2000) (h1 : 0 ≤ str ∧ str ≤ 200) :
    Calls Try.prog 42 #[.agg #[.slice ca cn cc, .slice ra rn rc, iv gap, iv str, .slice ha hn hc], iv own] w fun e w' => e = .returned (iv (permI str own)) ∧ Below w.heap.size w w' := by
  have hm0 : 0 ≤ own * (1000 + str) := Int.mul_nonneg h0.1 (by omega)
  have hm1 : own * (1000 + str) ≤ 2000 * 1200 := Int.mul_le_mul h0.2 (by omega) (by omega) (by omega)
  have e1 : IntKind.i64.wrap (1000 + str) = 1000 + str := IntWalk.i64_in _ ⟨by omega, by omega⟩
  have e2 : IntKind.i64.wrap (own * (1000 + str)) = own * (1000 + str) := IntWalk.i64_in _ ⟨by omega, by omega⟩
  have e3 : (own * (1000 + str)).tdiv 1000 = permI str own := Int.tdiv_eq_ediv_of_nonneg hm0
  have e4 : IntKind.i64.wrap (permI str own) = permI str own := IntWalk.i64_in _ ⟨by unfold permI; omega, by unfold permI; omega⟩
  generalize permI str own = pp at *
  clear hm0 hm1 h0 h1
  go_enter Try.func42, Try.ntmps42
  go_wp2_with fail
  go_ret
  exact ⟨rfl, (by repeat (first | exact Below.refl _ _ | refine Below.drew ?_ | refine bpush ?_ _ | refine bput ?_ (by simp) _ | (refine bstep ?_ (by assumption))))⟩

theorem lenKeep {X Y W3 : World} {q0 q1 q2 q3 q4 q5 q6 : Addr} {v0 v1 v2 v3 v4 v5 v6 : Value} (hb : Below X.heap.size X Y) (h : X.cell? q0 = some v0 ∧ X.cell? q1 = some v1 ∧ X.cell? q2 = some v2 ∧ X.cell? q3 = some v3 ∧ X.cell? q4 = some v4 ∧ X.cell? q5 = some v5 ∧ X.cell? q6 = some v6 ∧ Below W3.heap.size W3 X) :
    Hid (Y.cell? q0 = some v0 ∧ Y.cell? q1 = some v1 ∧ Y.cell? q2 = some v2 ∧ Y.cell? q3 = some v3 ∧ Y.cell? q4 = some v4 ∧ Y.cell? q5 = some v5 ∧ Y.cell? q6 = some v6) := by
  obtain ⟨h0, h1, h2, h3, h4, h5, h6, -⟩ := h
  have key : ∀ {q : Addr} {v : Value}, X.cell? q = some v → Y.cell? q = some v := fun {q v} h => (hb.cell (p := q) (World.block_lt_of_cell? X _ h)).trans h
  exact ⟨key h0, key h1, key h2, key h3, key h4, key h5, key h6⟩
theorem cset2G {W : World} {g b o : Nat} {v0 v1 : Value} (hg : b ≠ g) : ((W.setCell ⟨g, 0, none⟩ v0).setCell ⟨g, 1, none⟩ v1).cell? ⟨b, o, none⟩ = W.cell? ⟨b, o, none⟩ :=
  World.cell?_of_block ((Below.heap_setCell _ _ _ _ hg).trans (Below.heap_setCell _ _ _ _ hg))
theorem bset2G {w W : World} {g : Nat} {v0 v1 : Value} (h : Below w.heap.size w W) (hg : w.heap.size ≤ g) : Below w.heap.size w ((W.setCell ⟨g, 0, none⟩ v0).setCell ⟨g, 1, none⟩ v1) :=
  bput (p := ⟨g, 1, none⟩) (bput (p := ⟨g, 0, none⟩) h hg v0) hg v1
/-- A span lies at p. -/
def LenCut (W3 : World) (l2 pp : Int) (p : Value) (wx : World) : Prop := ∃ g, p = .pointer (some ⟨g, 0, none⟩) ∧ Below W3.heap.size W3 wx ∧ wx.cell? ⟨g, 0, none⟩ = some (iv l2) ∧ wx.cell? ⟨g, 1, none⟩ = some (iv pp)
theorem lenA {W3 w3 : World} {l2 pp : Int} {t : TypeId} (h : Below W3.heap.size W3 w3) : LenCut W3 l2 pp (.pointer (some ⟨w3.heap.size, 0, none⟩)) (w3.alloc (.cells #[iv l2, iv pp] t)) := by
  have hr := heap_new w3 #[iv l2, iv pp] t
  refine ⟨_, rfl, bpush h _, ?_, ?_⟩ <;> (rw [cell_of_row _ _ _ _ _ _ hr]; rfl)
theorem lenB {W3 w3 : World} {l2 pp : Int} {g : Nat} (h : Below W3.heap.size W3 w3) (hg : W3.heap.size ≤ g) (k0 : w3.cell? ⟨g, 0, none⟩ = some (iv 0)) (k1 : w3.cell? ⟨g, 1, none⟩ = some (iv 0)) :
    LenCut W3 l2 pp (.pointer (some ⟨g, 0, none⟩)) ((w3.setCell ⟨g, 0, none⟩ (iv l2)).setCell ⟨g, 1, none⟩ (iv pp)) := by
  refine ⟨g, rfl, bset2G h hg, ?_, ?_⟩
  all_goals go_simp
theorem kdrewG {X : World} {a : Addr} {v : Value} (h : X.cell? a = some v) : X.drew.cell? a = some v := h
theorem kpushG {X : World} {a : Addr} {v : Value} {o : Obj} (h : X.cell? a = some v) : (X.alloc o).cell? a = some v := (World.cell?_alloc_lt _ _ _ (World.block_lt_of_cell? X _ h)).trans h
set_option maxRecDepth 20000 in
set_option maxHeartbeats 3200000 in
theorem lengths_any (C : List Tn) (ca ra ha : Option Addr) (cc rn rc hn hc k : Nat) (gap str : Int) (c : Tn) (w : World) (hC : SliceOf encN 4 w (.slice ca C.length cc) C) (hk : C[k]? = some c) (hv : vTn c = true) (h1 : 0 ≤ str ∧ str ≤ 200) :
    Calls Try.prog 35 #[.agg #[.slice ca C.length cc, .slice ra rn rc, iv gap, iv str, .slice ha hn hc], iv k] w fun e w' => e = .returned (.agg #[iv (lenS str c).1, iv (lenS str c).2]) ∧ Below w.heap.size w w' := by
  obtain ⟨Wb, hWb⟩ : ∃ W : World, (w.alloc (.cells #[.slice ca C.length cc, .slice ra rn rc, iv gap, iv str, .slice ha hn hc] 83)).alloc (.cells #[.int .i64 0, .int .i64 0] 30) = W := ⟨_, rfl⟩
  have hBb : Below w.heap.size w Wb := by rw [← hWb]; exact bpush (bpush (Below.refl _ _) _) _
  have hRb : Wb.heap[w.heap.size]? = some (.cells #[.slice ca C.length cc, .slice ra rn rc, iv gap, iv str, .slice ha hn hc] 83 (0, 0)) := by rw [← hWb, Below.heap_alloc _ _ _ (by simp)]; exact heap_new _ _ _
  have hRc : Wb.heap[w.heap.size + 1]? = some (.cells #[.int .i64 0, .int .i64 0] 30 (0, 0)) := by
    rw [← hWb]
    have := heap_new (w.alloc (.cells #[.slice ca C.length cc, .slice ra rn rc, iv gap, iv str, .slice ha hn hc] 83)) #[.int .i64 0, .int .i64 0] 30
    rwa [World.size_alloc] at this
  have hzb : Wb.heap.size = w.heap.size + 2 := by rw [← hWb]; simp
  have HB := Lib.hid hBb; have HR := Lib.hid hRb; have HRc := Lib.hid hRc
  obtain ⟨b, off, rfl, hj⟩ := sl_rowG (hC.below hBb) hk
  have hkl := (List.getElem?_eq_some_iff.1 hk).1
  simp only [vTn, Bool.and_eq_true] at hv
  obtain ⟨p1, p2, p3, p4, p5⟩ := okSpan_iff.1 hv.1
  obtain ⟨⟨l1, l2⟩, m1, m2⟩ := c
  have p1 : 1 ≤ l1 := p1; have p2 : l1 ≤ 2000 := p2
  have HP := Lib.hid (fun (W : World) => permitted_any (some ⟨b, off, none⟩) ra ha C.length cc rn rc hn hc gap str l1 W ⟨by omega, p2⟩ h1)
  have HL : Hid (lenS str ((l1, l2), (m1, m2)) = if permI str l1 < l2 then (1, 0) else (l2, permI str l1)) := rfl
  generalize permI str l1 = pp at *
  have x0 : Wb.cell? ⟨b, off + k * 4, none⟩ = some (iv l1) := hj 0 _ rfl
  have x1 : Wb.cell? ⟨b, off + k * 4 + 1, none⟩ = some (iv l2) := hj 1 _ rfl
  have c0 : Wb.cell? ⟨w.heap.size, 0, none⟩ = some (.slice (some ⟨b, off, none⟩) C.length cc) := by rw [cell_of_row _ _ _ _ _ _ hRb]; rfl
  clear hBb hRb hRc hj hk hC hv p1 p2 p3 p4 p5 h1
  go_enter Try.func35, Try.ntmps35
  go_wp2_with fail
  obtain ⟨W3, hW3⟩ : ∃ W : World, Wb.alloc (.cells #[.int .i64 l1, .int .i64 l2] 30) = W := ⟨_, rfl⟩
  have hB3 : Below Wb.heap.size Wb W3 := by rw [← hW3]; exact bpush (Below.refl _ _) _
  have hR3 : W3.heap[w.heap.size + 2]? = some (.cells #[.int .i64 l1, .int .i64 l2] 30 (0, 0)) := by
    rw [← hW3]
    have := heap_new Wb #[.int .i64 l1, .int .i64 l2] 30
    rwa [hzb] at this
  have hRb3 := bblkG hB3 HR.out
  have hRc3 := bblkG hB3 HRc.out
  rw [hW3]
  have o0 : W3.cell? ⟨w.heap.size + 2, 0, none⟩ = some (iv l1) := by rw [cell_of_row _ _ _ _ _ _ hR3]; rfl
  have o1 : W3.cell? ⟨w.heap.size + 2, 1, none⟩ = some (iv l2) := by rw [cell_of_row _ _ _ _ _ _ hR3]; rfl
  have d0 : W3.cell? ⟨w.heap.size, 0, none⟩ = some (.slice (some ⟨b, off, none⟩) C.length cc) := by rw [cell_of_row _ _ _ _ _ _ hRb3]; rfl
  have d1 : W3.cell? ⟨w.heap.size, 1, none⟩ = some (.slice ra rn rc) := by rw [cell_of_row _ _ _ _ _ _ hRb3]; rfl
  have d2 : W3.cell? ⟨w.heap.size, 2, none⟩ = some (iv gap) := by rw [cell_of_row _ _ _ _ _ _ hRb3]; rfl
  have d3 : W3.cell? ⟨w.heap.size, 3, none⟩ = some (iv str) := by rw [cell_of_row _ _ _ _ _ _ hRb3]; rfl
  have d4 : W3.cell? ⟨w.heap.size, 4, none⟩ = some (.slice ha hn hc) := by rw [cell_of_row _ _ _ _ _ _ hRb3]; rfl
  have hbz : Below W3.heap.size W3 W3 := Below.refl _ _
  have HB3 := Lib.hid (bstep HB.out hB3)
  have HRC3 := Lib.hid hRc3
  have hzc : w.heap.size + 1 < W3.heap.size := (Array.getElem?_eq_some_iff.1 hRc3).1
  have hze : w.heap.size + 2 < W3.heap.size := (Array.getElem?_eq_some_iff.1 hR3).1
  clear hWb hW3 hB3 hR3 hRb3 hRc3 c0 x0 x1 hzb HB HR HRc
  go_cut [6] (fun p wx => LenCut W3 l2 pp p wx)
  case first =>
    go_region_held3 (fun w' => w'.cell? ⟨w.heap.size, 0, none⟩ = some (.slice (some ⟨b, off, none⟩) C.length cc) ∧ w'.cell? ⟨w.heap.size, 1, none⟩ = some (.slice ra rn rc) ∧ w'.cell? ⟨w.heap.size, 2, none⟩ = some (iv gap) ∧ w'.cell? ⟨w.heap.size, 3, none⟩ = some (iv str) ∧ w'.cell? ⟨w.heap.size, 4, none⟩ = some (.slice ha hn hc) ∧ w'.cell? ⟨w.heap.size + 2, 0, none⟩ = some (iv l1) ∧ w'.cell? ⟨w.heap.size + 2, 1, none⟩ = some (iv l2) ∧ Below W3.heap.size W3 w')
      (first | (with_reducible exact ⟨kpushG hS0.out.1, kpushG hS0.out.2.1, kpushG hS0.out.2.2.1, kpushG hS0.out.2.2.2.1, kpushG hS0.out.2.2.2.2.1, kpushG hS0.out.2.2.2.2.2.1, kpushG hS0.out.2.2.2.2.2.2, bpush hSt _⟩) | ((with_reducible refine ⟨(cset2G ?_).trans hS0.out.1, (cset2G ?_).trans hS0.out.2.1, (cset2G ?_).trans hS0.out.2.2.1, (cset2G ?_).trans hS0.out.2.2.2.1, (cset2G ?_).trans hS0.out.2.2.2.2.1, (cset2G ?_).trans hS0.out.2.2.2.2.2.1, (cset2G ?_).trans hS0.out.2.2.2.2.2.2, bset2G hSt ?_⟩) <;> omega) | (with_reducible exact ⟨hS0.out.1, hS0.out.2.1, hS0.out.2.2.1, hS0.out.2.2.2.1, hS0.out.2.2.2.2.1, hS0.out.2.2.2.2.2.1, hS0.out.2.2.2.2.2.2, hSt⟩) | (refine ⟨?_, ?_, ?_, ?_, ?_, ?_, ?_, ?_⟩ <;> first | exact Below.drew (by assumption) | assumption) | (go_split_ands; refine ⟨?_, ?_, ?_, ?_, ?_, ?_, ?_, ?_⟩ <;> first | assumption | exact kcell (bpush (Below.refl _ _) _) (by assumption) | exact bpush (by assumption) _))
      (first | ((with_reducible refine (HP.out _).mono ?_); rintro e wO ⟨rfl, hbK⟩; have hSt : Below W3.heap.size W3 wO := bstep (And.right (And.right (And.right (And.right (And.right (And.right (And.right (by assumption)))))))) hbK; have hS0 := lenKeep hbK (by assumption); obtain ⟨hKc, hKf⟩ := bcell hbK; have hKz := hbK.size; (try simp [Nat.add_one_le_iff] at hKz); have hSz := hSt.size))
    all_goals
      go_wp2_with fail
      go_meet
      first
        | (with_reducible exact lenA hSt)
        | (refine lenB hSt (by omega) ?_ ?_ <;> (go_simp; done))
  case rest =>
    obtain ⟨g, rfl, hBC, k0, k1⟩ := hcut
    have hrc := (hBC.block (w.heap.size + 1) hzc).trans HRC3.out
    have y0 : wc.cell? ⟨w.heap.size + 1, 0, none⟩ = some (.int .i64 0) := by rw [cell_of_row _ _ _ _ _ _ hrc]; rfl
    have y1 : wc.cell? ⟨w.heap.size + 1, 1, none⟩ = some (.int .i64 0) := by rw [cell_of_row _ _ _ _ _ _ hrc]; rfl
    have z0 : wc.frozen? ⟨w.heap.size + 1, 0, none⟩ = false := by unfold World.frozen?; rw [hrc]; rfl
    have z1 : wc.frozen? ⟨w.heap.size + 1, 1, none⟩ = false := by unfold World.frozen?; rw [hrc]; rfl
    have HBC := Lib.hid (bstep HB3.out hBC)
    have HRC := Lib.hid hrc
    clear hBC hrc o0 o1 d0 d1 d2 d3 d4 hbz
    by_cases hlt : pp < l2
    · have HV : Hid (lenS str ((l1, l2), (m1, m2)) = (1, 0)) := by rw [HL.out, if_pos hlt]; rfl
      go_wp2_with fail
      have e0 : ((wc.setCell ⟨w.heap.size + 1, 0, none⟩ (iv 1)).setCell ⟨w.heap.size + 1, 1, none⟩ (iv 0)).cell? ⟨w.heap.size + 1, 0, none⟩ = some (iv 1) := by go_simp
      have e1 : ((wc.setCell ⟨w.heap.size + 1, 0, none⟩ (iv 1)).setCell ⟨w.heap.size + 1, 1, none⟩ (iv 0)).cell? ⟨w.heap.size + 1, 1, none⟩ = some (iv 0) := by go_simp
      exact bodyPost_ret (v := .agg #[iv 1, iv 0]) (by simp [results, Try.results35, go_sem, e0, e1]) rfl ⟨by rw [HV.out], bput (p := ⟨w.heap.size + 1, 1, none⟩) (bput (p := ⟨w.heap.size + 1, 0, none⟩) HBC.out (Nat.le_succ _) _) (Nat.le_succ _) _⟩
    · have HV : Hid (lenS str ((l1, l2), (m1, m2)) = (l2, pp)) := by rw [HL.out, if_neg hlt]; rfl
      go_wp2_with fail
      have e0 : ((wc.setCell ⟨w.heap.size + 1, 0, none⟩ (iv l2)).setCell ⟨w.heap.size + 1, 1, none⟩ (iv pp)).cell? ⟨w.heap.size + 1, 0, none⟩ = some (iv l2) := by go_simp
      have e1 : ((wc.setCell ⟨w.heap.size + 1, 0, none⟩ (iv l2)).setCell ⟨w.heap.size + 1, 1, none⟩ (iv pp)).cell? ⟨w.heap.size + 1, 1, none⟩ = some (iv pp) := by go_simp
      exact bodyPost_ret (v := .agg #[iv l2, iv pp]) (by simp [results, Try.results35, go_sem, e0, e1]) rfl ⟨by rw [HV.out], bput (p := ⟨w.heap.size + 1, 1, none⟩) (bput (p := ⟨w.heap.size + 1, 0, none⟩) HBC.out (Nat.le_succ _) _) (Nat.le_succ _) _⟩
end Go.Proofs.Ytiellodbdidgoaa
