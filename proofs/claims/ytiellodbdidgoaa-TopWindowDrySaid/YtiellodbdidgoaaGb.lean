/- When a cloth is dry. -/
import Derived.Test.YtiellodbdidgoaaGa
import Derived.Test.YtiellodbdidgoaaSe
namespace Go.Proofs.Ytiellodbdidgoaa
open Go Go.RowKit Go.Shelf
attribute [local go_sem ↓] Go.wp_at_zero Go.wp_at_succ

/-- At which hour something with so much water is dry, that hangs from an hour on, after which the hours dry so much. -/
def dryL : List Int → Int → Nat → Nat
  | [], wt, h => if 0 < wt then h + 1 else h
  | x :: xs, wt, h => if 0 < wt then dryL xs (wt - x) (h + 1) else h
theorem dryL_done {wt : Int} (h : ¬ 0 < wt) (l : List Int) (n : Nat) : dryL l wt n = n := by cases l <;> simp [dryL, h]
theorem dryL_step {S : List Sp} {side : Sp → Int} {wt : Int} {k : Nat} {p : Sp} (h0 : 0 < wt) (hp : S[k]? = some p) : dryL ((S.map side).drop k) wt k = dryL ((S.map side).drop (k + 1)) (wt - side p) (k + 1) := by
  have hk := (List.getElem?_eq_some_iff.1 hp).1
  have : (S.map side).drop k = side p :: (S.map side).drop (k + 1) := by
    rw [List.drop_eq_getElem_cons (by simpa using hk)]
    congr 1
    have := (List.getElem?_eq_some_iff.1 hp).2
    simp [this]
  rw [this, dryL, if_pos h0]
theorem dryL_end {S : List Sp} {side : Sp → Int} {wt : Int} (h0 : 0 < wt) : dryL ((S.map side).drop S.length) wt S.length = S.length + 1 := by
  rw [List.drop_of_length_le (by simp), dryL, if_pos h0]
theorem dryL_le {S : List Sp} {side : Sp → Int} : ∀ (d k : Nat) (wt : Int), k + d = S.length → dryL ((S.map side).drop k) wt k ≤ S.length + 1 ∧ k ≤ dryL ((S.map side).drop k) wt k := by
  intro d
  induction d with
  | zero =>
    intro k wt hk
    obtain rfl : k = S.length := by omega
    by_cases h : 0 < wt
    · rw [dryL_end h]; omega
    · rw [dryL_done h]; omega
  | succ d ih =>
    intro k wt hk
    by_cases h : 0 < wt
    · obtain ⟨p, hp⟩ := getElem?_of_lt (show k < S.length by omega)
      rw [dryL_step h hp]
      have := ih (k + 1) (wt - side p) (by omega)
      omega
    · rw [dryL_done h]; omega

set_option maxHeartbeats 400000 in
theorem earlier_any (p : Sp) (w : World) : Calls Try.prog 32 #[.agg #[iv p.1, iv p.2]] w fun e w' => e = .returned (iv p.2) ∧ Below w.heap.size w w' := by
  obtain ⟨l, h⟩ := p
  go_enter Try.func32, Try.ntmps32
  go_wp2_with fail
  go_ret
  exact ⟨rfl, (by repeat (first | exact Below.refl _ _ | refine Below.drew ?_ | refine bpush ?_ _ | refine bput ?_ (by simp) _ | (refine bstep ?_ (by assumption))))⟩
set_option maxHeartbeats 400000 in
theorem later_any (p : Sp) (w : World) : Calls Try.prog 33 #[.agg #[iv p.1, iv p.2]] w fun e w' => e = .returned (iv p.1) ∧ Below w.heap.size w w' := by
  obtain ⟨l, h⟩ := p
  go_enter Try.func33, Try.ntmps33
  go_wp2_with fail
  go_ret
  exact ⟨rfl, (by repeat (first | exact Below.refl _ _ | refine Below.drew ?_ | refine bpush ?_ _ | refine bput ?_ (by simp) _ | (refine bstep ?_ (by assumption))))⟩

theorem bblkG {W W1 : World} {k : Nat} {o : Obj} (hb : Below W.heap.size W W1) (h : W.heap[k]? = some o) : W1.heap[k]? = some o := (hb.block k (Array.getElem?_eq_some_iff.1 h).1).trans h
theorem sl_rowG {α : Type} {enc : α → List Value} {sz : Nat} {w : World} {a : Option Addr} {n c k : Nat} {L : List α} {p : α} (h : SliceOf enc sz w (.slice a n c) L) (hk : L[k]? = some p) :
    ∃ b off, a = some ⟨b, off, none⟩ ∧ ∀ j u, (enc p)[j]? = some u → w.cell? ⟨b, off + k * sz + j, none⟩ = some u := by
  obtain ⟨a', c', hv, _, hc⟩ := h
  simp only [Value.slice.injEq] at hv
  obtain ⟨rfl, rfl, rfl⟩ := hv
  exact hc k p hk

set_option maxRecDepth 20000 in
set_option maxHeartbeats 3200000 in
theorem dryE_any (ca ra wa : Option Addr) (cn cc rn rc wc : Nat) (gap str wt0 : Int) (fr : Nat) (S : List Sp) (w : World) (hs : SliceOf encS 2 w (.slice wa S.length wc) S) (hv : S.all vWth = true) (hl : S.length ≤ 24) (hfr : fr ≤ S.length) (hw0 : 0 ≤ wt0 ∧ wt0 ≤ 500) :
    Calls Try.prog 31 #[.agg #[.slice ca cn cc, .slice ra rn rc, iv gap, iv str, .slice wa S.length wc], iv wt0, iv fr, .func (.func 32) #[] #[]] w fun e w' => e = .returned (iv (dryL ((S.map Prod.snd).drop fr) wt0 fr)) ∧ Below w.heap.size w w' := by
  obtain ⟨Wb, hWb⟩ : ∃ W : World, w.alloc (.cells #[.slice ca cn cc, .slice ra rn rc, iv gap, iv str, .slice wa S.length wc] 66) = W := ⟨_, rfl⟩
  have hBb : Below w.heap.size w Wb := by rw [← hWb]; exact bpush (Below.refl _ _) _
  have hRb : Wb.heap[w.heap.size]? = some (.cells #[.slice ca cn cc, .slice ra rn rc, iv gap, iv str, .slice wa S.length wc] 66 (0, 0)) := by rw [← hWb]; exact heap_new _ _ _
  have HB := Lib.hid hBb; have HR := Lib.hid hRb; have HW := Lib.hid hWb
  have HS := Lib.hid (hs.below hBb)
  have HV := Lib.hid hv
  clear hBb hRb hWb hs hv
  go_enter Try.func31, Try.ntmps31
  go_wp2_with fail
  rw [HW.out]
  go_loopw [1, 9] (fun wv i wr => ∃ (h : Nat) (wt : Int), h ≤ S.length ∧ i = iv h ∧ wv = iv wt ∧ -100 ≤ wt ∧ wt ≤ 500 ∧ Hid (dryL ((S.map Prod.snd).drop h) wt h = dryL ((S.map Prod.snd).drop fr) wt0 fr) ∧ Hid (Below Wb.heap.size Wb wr)) (fun _ i _ => S.length - (intOf i).toNat)
  case atStart => exact ⟨fr, wt0, hfr, rfl, rfl, by omega, by omega, rfl, Below.refl _ _⟩
  case round =>
    obtain ⟨h, wt, hh, rfl, rfl, hl0, hl1, HE, HBw⟩ := hrel
    have hrr := bblkG HBw.out HR.out
    have c4 : wr.cell? ⟨w.heap.size, 4, none⟩ = some (.slice wa S.length wc) := by rw [cell_of_row _ _ _ _ _ _ hrr]; rfl
    clear hrr
    by_cases hpos : 0 < wt
    · by_cases hlt : h < S.length
      · obtain ⟨p, hp⟩ := getElem?_of_lt hlt
        have hpv := List.all_eq_true.1 HV.out p (List.mem_of_getElem? hp)
        obtain ⟨p1, p2, p3, p4, p5⟩ := okSpan_iff.1 hpv
        have HP := Lib.hid (dryL_step (side := Prod.snd) hpos hp)
        obtain ⟨b, off, rfl, hj⟩ := sl_rowG (HS.out.below HBw.out) hp
        have x0 : wr.cell? ⟨b, off + h * 2, none⟩ = some (iv p.1) := hj 0 _ rfl
        have x1 : wr.cell? ⟨b, off + h * 2 + 1, none⟩ = some (iv p.2) := hj 1 _ rfl
        have hwr : IntKind.i64.wrap (wt - Prod.snd p) = wt - Prod.snd p := IntWalk.i64_in _ ⟨by omega, by omega⟩
        clear hj hp hpv
        go_wp2_with fail
        refine (earlier_any p _).mono ?_
        rintro e w1 ⟨rfl, hb1⟩
        have HB1 := Lib.hid (bstep HBw.out hb1)
        clear hb1
        go_wp2_with fail
        go_roundw
        case rel => exact ⟨h + 1, wt - Prod.snd p, by omega, by go_num, rfl, by omega, by omega, HP.out.symm.trans HE.out, HB1.out⟩
        case measure => simp [intOf]; omega
      · obtain rfl : h = S.length := by omega
        have HF := Lib.hid ((dryL_end (side := Prod.snd) (S := S) hpos).symm.trans HE.out)
        go_wp2_with fail
        go_ret
        exact ⟨by rw [← HF.out]; go_num, bstep HB.out HBw.out⟩
    · have HF := Lib.hid ((dryL_done hpos _ _).symm.trans HE.out)
      go_wp2_with fail
      go_ret
      exact ⟨by rw [← HF.out]; rfl, bstep HB.out HBw.out⟩

set_option maxRecDepth 20000 in
set_option maxHeartbeats 3200000 in
theorem dryL_any (ca ra wa : Option Addr) (cn cc rn rc wc : Nat) (gap str wt0 : Int) (fr : Nat) (S : List Sp) (w : World) (hs : SliceOf encS 2 w (.slice wa S.length wc) S) (hv : S.all vWth = true) (hl : S.length ≤ 24) (hfr : fr ≤ S.length) (hw0 : 0 ≤ wt0 ∧ wt0 ≤ 500) :
    Calls Try.prog 31 #[.agg #[.slice ca cn cc, .slice ra rn rc, iv gap, iv str, .slice wa S.length wc], iv wt0, iv fr, .func (.func 33) #[] #[]] w fun e w' => e = .returned (iv (dryL ((S.map Prod.fst).drop fr) wt0 fr)) ∧ Below w.heap.size w w' := by
  obtain ⟨Wb, hWb⟩ : ∃ W : World, w.alloc (.cells #[.slice ca cn cc, .slice ra rn rc, iv gap, iv str, .slice wa S.length wc] 66) = W := ⟨_, rfl⟩
  have hBb : Below w.heap.size w Wb := by rw [← hWb]; exact bpush (Below.refl _ _) _
  have hRb : Wb.heap[w.heap.size]? = some (.cells #[.slice ca cn cc, .slice ra rn rc, iv gap, iv str, .slice wa S.length wc] 66 (0, 0)) := by rw [← hWb]; exact heap_new _ _ _
  have HB := Lib.hid hBb; have HR := Lib.hid hRb; have HW := Lib.hid hWb
  have HS := Lib.hid (hs.below hBb)
  have HV := Lib.hid hv
  clear hBb hRb hWb hs hv
  go_enter Try.func31, Try.ntmps31
  go_wp2_with fail
  rw [HW.out]
  go_loopw [1, 9] (fun wv i wr => ∃ (h : Nat) (wt : Int), h ≤ S.length ∧ i = iv h ∧ wv = iv wt ∧ -100 ≤ wt ∧ wt ≤ 500 ∧ Hid (dryL ((S.map Prod.fst).drop h) wt h = dryL ((S.map Prod.fst).drop fr) wt0 fr) ∧ Hid (Below Wb.heap.size Wb wr)) (fun _ i _ => S.length - (intOf i).toNat)
  case atStart => exact ⟨fr, wt0, hfr, rfl, rfl, by omega, by omega, rfl, Below.refl _ _⟩
  case round =>
    obtain ⟨h, wt, hh, rfl, rfl, hl0, hl1, HE, HBw⟩ := hrel
    have hrr := bblkG HBw.out HR.out
    have c4 : wr.cell? ⟨w.heap.size, 4, none⟩ = some (.slice wa S.length wc) := by rw [cell_of_row _ _ _ _ _ _ hrr]; rfl
    clear hrr
    by_cases hpos : 0 < wt
    · by_cases hlt : h < S.length
      · obtain ⟨p, hp⟩ := getElem?_of_lt hlt
        have hpv := List.all_eq_true.1 HV.out p (List.mem_of_getElem? hp)
        obtain ⟨p1, p2, p3, p4, p5⟩ := okSpan_iff.1 hpv
        have HP := Lib.hid (dryL_step (side := Prod.fst) hpos hp)
        obtain ⟨b, off, rfl, hj⟩ := sl_rowG (HS.out.below HBw.out) hp
        have x0 : wr.cell? ⟨b, off + h * 2, none⟩ = some (iv p.1) := hj 0 _ rfl
        have x1 : wr.cell? ⟨b, off + h * 2 + 1, none⟩ = some (iv p.2) := hj 1 _ rfl
        have hwr : IntKind.i64.wrap (wt - Prod.fst p) = wt - Prod.fst p := IntWalk.i64_in _ ⟨by omega, by omega⟩
        clear hj hp hpv
        go_wp2_with fail
        refine (later_any p _).mono ?_
        rintro e w1 ⟨rfl, hb1⟩
        have HB1 := Lib.hid (bstep HBw.out hb1)
        clear hb1
        go_wp2_with fail
        go_roundw
        case rel => exact ⟨h + 1, wt - Prod.fst p, by omega, by go_num, rfl, by omega, by omega, HP.out.symm.trans HE.out, HB1.out⟩
        case measure => simp [intOf]; omega
      · obtain rfl : h = S.length := by omega
        have HF := Lib.hid ((dryL_end (side := Prod.fst) (S := S) hpos).symm.trans HE.out)
        go_wp2_with fail
        go_ret
        exact ⟨by rw [← HF.out]; go_num, bstep HB.out HBw.out⟩
    · have HF := Lib.hid ((dryL_done hpos _ _).symm.trans HE.out)
      go_wp2_with fail
      go_ret
      exact ⟨by rw [← HF.out]; rfl, bstep HB.out HBw.out⟩
end Go.Proofs.Ytiellodbdidgoaa
