/- The first and the last hour at which a cloth can be dry; how late it can be hung. -/
import Derived.Test.YtiellodbdidgoaaGb
namespace Go.Proofs.Ytiellodbdidgoaa
open Go Go.RowKit Go.Shelf
attribute [local go_sem ↓] Go.wp_at_zero Go.wp_at_succ

/-- The first hour at which a cloth can be dry, and the last one. -/
def earL (c : Tn) (S : List Sp) (fr : Nat) : Nat := dryL ((S.map Prod.snd).drop fr) c.2.1 fr
def latL (c : Tn) (S : List Sp) (fr : Nat) : Nat := dryL ((S.map Prod.fst).drop fr) c.2.2 fr
theorem vTn_water {c : Tn} (h : vTn c = true) : (0 ≤ c.2.1 ∧ c.2.1 ≤ 500) ∧ (0 ≤ c.2.2 ∧ c.2.2 ≤ 500) ∧ c.2.1 ≤ c.2.2 := by
  simp only [vTn, Bool.and_eq_true] at h
  obtain ⟨p1, p2, p3, p4, p5⟩ := okSpan_iff.1 h.2
  omega

set_option maxRecDepth 20000 in
set_option maxHeartbeats 3200000 in
theorem earliest_any (C : List Tn) (ca ra wa : Option Addr) (cc rn rc wc k : Nat) (gap str : Int) (fr : Nat) (S : List Sp) (c : Tn) (w : World) (hC : SliceOf encN 4 w (.slice ca C.length cc) C) (hk : C[k]? = some c) (hs : SliceOf encS 2 w (.slice wa S.length wc) S) (hv : S.all vWth = true) (hl : S.length ≤ 24) (hfr : fr ≤ S.length) (hc : vTn c = true) :
    Calls Try.prog 22 #[.agg #[.slice ca C.length cc, .slice ra rn rc, iv gap, iv str, .slice wa S.length wc], iv k, iv fr] w fun e w' => e = .returned (iv (earL c S fr)) ∧ Below w.heap.size w w' := by
  obtain ⟨Wb, hWb⟩ : ∃ W : World, w.alloc (.cells #[.slice ca C.length cc, .slice ra rn rc, iv gap, iv str, .slice wa S.length wc] 66) = W := ⟨_, rfl⟩
  have hBb : Below w.heap.size w Wb := by rw [← hWb]; exact bpush (Below.refl _ _) _
  have hRb : Wb.heap[w.heap.size]? = some (.cells #[.slice ca C.length cc, .slice ra rn rc, iv gap, iv str, .slice wa S.length wc] 66 (0, 0)) := by rw [← hWb]; exact heap_new _ _ _
  have HB := Lib.hid hBb; have HW := Lib.hid hWb
  have hsb := hs.below hBb
  obtain ⟨b, off, rfl, hj⟩ := sl_rowG (hC.below hBb) hk
  have hkl := (List.getElem?_eq_some_iff.1 hk).1
  obtain ⟨hw1, hw2, -⟩ := vTn_water hc
  obtain ⟨⟨l1, l2⟩, m1, m2⟩ := c
  have hw1 : 0 ≤ m1 ∧ m1 ≤ 500 := hw1
  have hw2 : 0 ≤ m2 ∧ m2 ≤ 500 := hw2
  have HD := Lib.hid (fun (W : World) (h : SliceOf encS 2 W (.slice wa S.length wc) S) => dryE_any (some ⟨b, off, none⟩) ra wa C.length cc rn rc wc gap str m1 fr S W h hv hl hfr (by omega))
  have x0 : Wb.cell? ⟨b, off + k * 4 + 2, none⟩ = some (iv m1) := hj 2 _ rfl
  have c0 : Wb.cell? ⟨w.heap.size, 0, none⟩ = some (.slice (some ⟨b, off, none⟩) C.length cc) := by rw [cell_of_row _ _ _ _ _ _ hRb]; rfl
  have c1 : Wb.cell? ⟨w.heap.size, 1, none⟩ = some (.slice ra rn rc) := by rw [cell_of_row _ _ _ _ _ _ hRb]; rfl
  have c2 : Wb.cell? ⟨w.heap.size, 2, none⟩ = some (iv gap) := by rw [cell_of_row _ _ _ _ _ _ hRb]; rfl
  have c3 : Wb.cell? ⟨w.heap.size, 3, none⟩ = some (iv str) := by rw [cell_of_row _ _ _ _ _ _ hRb]; rfl
  have c4 : Wb.cell? ⟨w.heap.size, 4, none⟩ = some (.slice wa S.length wc) := by rw [cell_of_row _ _ _ _ _ _ hRb]; rfl
  have hbz : Below Wb.heap.size Wb Wb := Below.refl _ _
  clear hBb hRb hWb hs hv hj hk hC hw1 hw2 hc
  go_enter Try.func22, Try.ntmps22
  go_wp2_with fail
  rw [HW.out]
  go_region_held3 (fun w' => w'.cell? ⟨w.heap.size, 0, none⟩ = some (.slice (some ⟨b, off, none⟩) C.length cc) ∧ w'.cell? ⟨w.heap.size, 1, none⟩ = some (.slice ra rn rc) ∧ w'.cell? ⟨w.heap.size, 2, none⟩ = some (iv gap) ∧ w'.cell? ⟨w.heap.size, 3, none⟩ = some (iv str) ∧ w'.cell? ⟨w.heap.size, 4, none⟩ = some (.slice wa S.length wc) ∧ w'.cell? ⟨b, off + k * 4 + 2, none⟩ = some (iv m1) ∧ SliceOf encS 2 w' (.slice wa S.length wc) S ∧ Below Wb.heap.size Wb w')
    (first | (go_split_ands; refine ⟨?_, ?_, ?_, ?_, ?_, ?_, ?_, ?_⟩ <;> first | assumption | exact kcell hbK (by assumption) | exact kfrozen hbK (by assumption) (by assumption) | exact bstep (by assumption) hbK | exact SliceOf.below (by assumption) hbK) | (refine ⟨?_, ?_, ?_, ?_, ?_, ?_, ?_, ?_⟩ <;> first | exact Below.drew (by assumption) | exact SliceOf.below (by assumption) ((Below.refl _ _).drew) | assumption))
    (first | (go_split_ands; (with_reducible refine (HD.out _ (by assumption)).mono ?_); rintro e wO ⟨rfl, hbK⟩))
  rename_i hHeld
  have HBH := Lib.hid hHeld.2.2.2.2.2.2.2
  clear hHeld
  go_wp2_with fail
  go_ret
  exact ⟨rfl, bstep HB.out HBH.out⟩

set_option maxRecDepth 20000 in
set_option maxHeartbeats 3200000 in
theorem latest_any (C : List Tn) (ca ra wa : Option Addr) (cc rn rc wc k : Nat) (gap str : Int) (fr : Nat) (S : List Sp) (c : Tn) (w : World) (hC : SliceOf encN 4 w (.slice ca C.length cc) C) (hk : C[k]? = some c) (hs : SliceOf encS 2 w (.slice wa S.length wc) S) (hv : S.all vWth = true) (hl : S.length ≤ 24) (hfr : fr ≤ S.length) (hc : vTn c = true) :
    Calls Try.prog 23 #[.agg #[.slice ca C.length cc, .slice ra rn rc, iv gap, iv str, .slice wa S.length wc], iv k, iv fr] w fun e w' => e = .returned (iv (latL c S fr)) ∧ Below w.heap.size w w' := by
  obtain ⟨Wb, hWb⟩ : ∃ W : World, w.alloc (.cells #[.slice ca C.length cc, .slice ra rn rc, iv gap, iv str, .slice wa S.length wc] 66) = W := ⟨_, rfl⟩
  have hBb : Below w.heap.size w Wb := by rw [← hWb]; exact bpush (Below.refl _ _) _
  have hRb : Wb.heap[w.heap.size]? = some (.cells #[.slice ca C.length cc, .slice ra rn rc, iv gap, iv str, .slice wa S.length wc] 66 (0, 0)) := by rw [← hWb]; exact heap_new _ _ _
  have HB := Lib.hid hBb; have HW := Lib.hid hWb
  have hsb := hs.below hBb
  obtain ⟨b, off, rfl, hj⟩ := sl_rowG (hC.below hBb) hk
  have hkl := (List.getElem?_eq_some_iff.1 hk).1
  obtain ⟨hw1, hw2, -⟩ := vTn_water hc
  obtain ⟨⟨l1, l2⟩, m1, m2⟩ := c
  have hw1 : 0 ≤ m1 ∧ m1 ≤ 500 := hw1
  have hw2 : 0 ≤ m2 ∧ m2 ≤ 500 := hw2
  have HD := Lib.hid (fun (W : World) (h : SliceOf encS 2 W (.slice wa S.length wc) S) => dryL_any (some ⟨b, off, none⟩) ra wa C.length cc rn rc wc gap str m2 fr S W h hv hl hfr (by omega))
  have x0 : Wb.cell? ⟨b, off + k * 4 + 3, none⟩ = some (iv m2) := hj 3 _ rfl
  have c0 : Wb.cell? ⟨w.heap.size, 0, none⟩ = some (.slice (some ⟨b, off, none⟩) C.length cc) := by rw [cell_of_row _ _ _ _ _ _ hRb]; rfl
  have c1 : Wb.cell? ⟨w.heap.size, 1, none⟩ = some (.slice ra rn rc) := by rw [cell_of_row _ _ _ _ _ _ hRb]; rfl
  have c2 : Wb.cell? ⟨w.heap.size, 2, none⟩ = some (iv gap) := by rw [cell_of_row _ _ _ _ _ _ hRb]; rfl
  have c3 : Wb.cell? ⟨w.heap.size, 3, none⟩ = some (iv str) := by rw [cell_of_row _ _ _ _ _ _ hRb]; rfl
  have c4 : Wb.cell? ⟨w.heap.size, 4, none⟩ = some (.slice wa S.length wc) := by rw [cell_of_row _ _ _ _ _ _ hRb]; rfl
  have hbz : Below Wb.heap.size Wb Wb := Below.refl _ _
  clear hBb hRb hWb hs hv hj hk hC hw1 hw2 hc
  go_enter Try.func23, Try.ntmps23
  go_wp2_with fail
  rw [HW.out]
  go_region_held3 (fun w' => w'.cell? ⟨w.heap.size, 0, none⟩ = some (.slice (some ⟨b, off, none⟩) C.length cc) ∧ w'.cell? ⟨w.heap.size, 1, none⟩ = some (.slice ra rn rc) ∧ w'.cell? ⟨w.heap.size, 2, none⟩ = some (iv gap) ∧ w'.cell? ⟨w.heap.size, 3, none⟩ = some (iv str) ∧ w'.cell? ⟨w.heap.size, 4, none⟩ = some (.slice wa S.length wc) ∧ w'.cell? ⟨b, off + k * 4 + 3, none⟩ = some (iv m2) ∧ SliceOf encS 2 w' (.slice wa S.length wc) S ∧ Below Wb.heap.size Wb w')
    (first | (go_split_ands; refine ⟨?_, ?_, ?_, ?_, ?_, ?_, ?_, ?_⟩ <;> first | assumption | exact kcell hbK (by assumption) | exact kfrozen hbK (by assumption) (by assumption) | exact bstep (by assumption) hbK | exact SliceOf.below (by assumption) hbK) | (refine ⟨?_, ?_, ?_, ?_, ?_, ?_, ?_, ?_⟩ <;> first | exact Below.drew (by assumption) | exact SliceOf.below (by assumption) ((Below.refl _ _).drew) | assumption))
    (first | (go_split_ands; (with_reducible refine (HD.out _ (by assumption)).mono ?_); rintro e wO ⟨rfl, hbK⟩))
  rename_i hHeld
  have HBH := Lib.hid hHeld.2.2.2.2.2.2.2
  clear hHeld
  go_wp2_with fail
  go_ret
  exact ⟨rfl, bstep HB.out HBH.out⟩

/-- The latest hour, up to so many hours, at which something can be hung. -/
def lateTo (lt : Nat → Nat) (rain : Nat) : Nat → Option Nat
  | 0 => none
  | k + 1 => if lt k ≤ rain then some k else lateTo lt rain k
def lateO (c : Tn) (S : List Sp) (rain : Nat) : Option Nat := lateTo (latL c S) rain (rain + 1)
theorem lateTo_some {lt : Nat → Nat} {rain : Nat} : ∀ {n k : Nat}, lateTo lt rain n = some k → k < n ∧ lt k ≤ rain ∧ ∀ j, k < j → j < n → rain < lt j
  | 0, _, h => by simp [lateTo] at h
  | n + 1, k, h => by
    unfold lateTo at h
    split at h
    · obtain rfl := Option.some.inj h
      exact ⟨Nat.lt_succ_self _, by assumption, fun j h1 h2 => by omega⟩
    · obtain ⟨h1, h2, h3⟩ := lateTo_some h
      refine ⟨by omega, h2, fun j h4 h5 => ?_⟩
      by_cases e : j = n
      · subst e; omega
      · exact h3 j h4 (by omega)
theorem lateTo_none {lt : Nat → Nat} {rain : Nat} : ∀ {n : Nat}, lateTo lt rain n = none → ∀ j, j < n → rain < lt j
  | 0, _, j, hj => by omega
  | n + 1, h, j, hj => by
    unfold lateTo at h
    split at h
    · cases h
    · by_cases e : j = n
      · subst e; omega
      · exact lateTo_none h j (by omega)
def foundV : Option Nat → Value
  | some h => .tuple #[iv h, .bool true]
  | none => .tuple #[iv 0, .bool false]

set_option maxRecDepth 20000 in
set_option maxHeartbeats 3200000 in
theorem late_any (C : List Tn) (ca ra wa : Option Addr) (cc rn rc wc k : Nat) (gap str : Int) (rain : Nat) (S : List Sp) (c : Tn) (w : World) (hC : SliceOf encN 4 w (.slice ca C.length cc) C) (hk : C[k]? = some c) (hs : SliceOf encS 2 w (.slice wa S.length wc) S) (hv : S.all vWth = true) (hl : S.length ≤ 24) (hr : rain ≤ S.length) (hc : vTn c = true) :
    Calls Try.prog 21 #[.agg #[.slice ca C.length cc, .slice ra rn rc, iv gap, iv str, .slice wa S.length wc], iv k, iv rain] w fun e w' => e = .returned (foundV (lateO c S rain)) ∧ Below w.heap.size w w' := by
  obtain ⟨Wb, hWb⟩ : ∃ W : World, w.alloc (.cells #[.slice ca C.length cc, .slice ra rn rc, iv gap, iv str, .slice wa S.length wc] 66) = W := ⟨_, rfl⟩
  have hBb : Below w.heap.size w Wb := by rw [← hWb]; exact bpush (Below.refl _ _) _
  have hRb : Wb.heap[w.heap.size]? = some (.cells #[.slice ca C.length cc, .slice ra rn rc, iv gap, iv str, .slice wa S.length wc] 66 (0, 0)) := by rw [← hWb]; exact heap_new _ _ _
  have HB := Lib.hid hBb; have HR := Lib.hid hRb; have HW := Lib.hid hWb
  have HL := Lib.hid (fun (fr : Nat) (W : World) (hb : Below Wb.heap.size Wb W) (hf : fr ≤ S.length) => latest_any C ca ra wa cc rn rc wc k gap str fr S c W ((hC.below hBb).below hb) hk ((hs.below hBb).below hb) hv hl hf hc)
  clear hBb hRb hWb hC hk hs hv hc
  go_enter Try.func21, Try.ntmps21
  go_wp2_with fail
  rw [HW.out]
  go_loopw [6] (fun i wr => ∃ n : Nat, n ≤ rain + 1 ∧ i = iv ((n : Int) - 1) ∧ Hid (lateTo (latL c S) rain n = lateO c S rain) ∧ Hid (Below Wb.heap.size Wb wr)) (fun i _ => (intOf i + 1).toNat)
  case atStart => exact ⟨rain + 1, Nat.le_refl _, by go_num, rfl, Below.refl _ _⟩
  case round =>
    obtain ⟨n, hn, rfl, HE, HBw⟩ := hrel
    have hrr := bblkG HBw.out HR.out
    have c0 : wr.cell? ⟨w.heap.size, 0, none⟩ = some (.slice ca C.length cc) := by rw [cell_of_row _ _ _ _ _ _ hrr]; rfl
    have c1 : wr.cell? ⟨w.heap.size, 1, none⟩ = some (.slice ra rn rc) := by rw [cell_of_row _ _ _ _ _ _ hrr]; rfl
    have c2 : wr.cell? ⟨w.heap.size, 2, none⟩ = some (iv gap) := by rw [cell_of_row _ _ _ _ _ _ hrr]; rfl
    have c3 : wr.cell? ⟨w.heap.size, 3, none⟩ = some (iv str) := by rw [cell_of_row _ _ _ _ _ _ hrr]; rfl
    have c4 : wr.cell? ⟨w.heap.size, 4, none⟩ = some (.slice wa S.length wc) := by rw [cell_of_row _ _ _ _ _ _ hrr]; rfl
    clear hrr
    rcases n with _ | n
    · have HF : Hid (lateO c S rain = none) := HE.out.symm
      go_wp2_with fail
      go_ret2
      exact ⟨by rw [HF.out]; rfl, bstep HB.out HBw.out⟩
    · obtain ⟨m, hm⟩ : ∃ m : Nat, latL c S n = m := ⟨_, rfl⟩
      have hi : ((n + 1 : Nat) : Int) - 1 = (n : Int) := by omega
      have hi0 : (0 : Int) ≤ (n : Int) := by omega
      have HM : Hid (lateO c S rain = if m ≤ rain then some n else lateTo (latL c S) rain n) := by rw [← HE.out]; simp only [Hid, lateTo, hm]
      have HLn := Lib.hid (fun (W : World) (hb : Below Wb.heap.size Wb W) => by have := HL.out n W hb (by omega); rw [hm] at this; exact this)
      rw [hi]
      clear hm hi
      by_cases hle : m ≤ rain
      · have hle' : (m : Int) ≤ (rain : Int) := by omega
        have HF : Hid (lateO c S rain = some n) := by rw [HM.out, if_pos hle]; rfl
        go_wp2_with fail
        refine (HLn.out _ HBw.out).mono ?_
        rintro e w1 ⟨rfl, hb1⟩
        have HB1 := Lib.hid (bstep HBw.out hb1)
        clear hb1
        go_wp2_with fail
        go_ret2
        exact ⟨by rw [HF.out]; rfl, bstep HB.out HB1.out⟩
      · have hle' : ¬ (m : Int) ≤ (rain : Int) := by omega
        have HF : Hid (lateTo (latL c S) rain n = lateO c S rain) := by rw [HM.out, if_neg hle]; rfl
        go_wp2_with fail
        refine (HLn.out _ HBw.out).mono ?_
        rintro e w1 ⟨rfl, hb1⟩
        have HB1 := Lib.hid (bstep HBw.out hb1)
        clear hb1
        go_wp2_with fail
        go_roundw
        case rel => exact ⟨n, by omega, by first | rfl | go_num, HF.out, HB1.out⟩
        case measure => simp [intOf]
end Go.Proofs.Ytiellodbdidgoaa
