/- elmInts; the example of the chapter of turns, in the elm laws, is so. -/
import Derived.Test.YtkialkfplhhenaaQv
import Derived.Test.YtkialkfplhhenaaGj
import Derived.BigQuiet
namespace Go.Proofs.Ytkialkfplhhenaa
open Go Go.RowKit Go.Shelf
attribute [local go_sem] Oper.semAt_some
attribute [local go_sem ↓] Go.wp_at_zero Go.wp_at_succ

theorem slice_cellN {α : Type} {enc : α → List Value} {sz b off n c k : Nat} {w : World} {xs : List α} {x : α} (h : SliceOf enc sz w (.slice (some ⟨b, off, none⟩) n c) xs) (hx : xs[k]? = some x) : ∀ j u, (enc x)[j]? = some u → w.cell? ⟨b, off + k * sz + j, none⟩ = some u := by
  obtain ⟨a, cap', he, -, hc⟩ := h
  simp only [Value.slice.injEq] at he
  obtain ⟨rfl, -, -⟩ := he
  obtain ⟨b', off', he, hj⟩ := hc k x hx
  simp only [Option.some.injEq, Addr.mk.injEq] at he
  obtain ⟨rfl, rfl, -⟩ := he
  exact hj
theorem slice_addrN {α : Type} {enc : α → List Value} {sz : Nat} {w : World} {a : Option Addr} {n c : Nat} {xs : List α} (h : SliceOf enc sz w (.slice a n c) xs) (hx : 0 < xs.length) : ∃ b off, a = some ⟨b, off, none⟩ := by
  obtain ⟨a', cap', he, -, hc⟩ := h
  simp only [Value.slice.injEq] at he
  obtain ⟨rfl, -, -⟩ := he
  obtain ⟨x, hx'⟩ := getElem?_of_lt hx
  obtain ⟨b', off', he, -⟩ := hc 0 x hx'
  exact ⟨_, _, he⟩
theorem intcellN {w : World} {b off n cap i : Nat} {xs : List Int} {x : Int} (h : Ints w (.slice (some ⟨b, off, none⟩) n cap) xs) (hx : xs[i]? = some x) : w.cell? ⟨b, off + i, none⟩ = some (iv x) := by
  have := slice_cellN h hx 0 _ rfl
  simpa using this
theorem bdrewNn {B : Nat} {w w1 : World} (h : Below B w w1) (n : Nat) : Below B w (w1.drewN n) := ⟨h.os, h.tape, h.output, h.size, h.block⟩
set_option maxRecDepth 20000 in
set_option maxHeartbeats 6400000 in
theorem elmInts_any (xs ys : List Int) (v u : Value) (w : World) (hx : Ints w v xs) (hy : Ints w u ys) :
    Calls Try.prog 26 #[v, u] w fun e w' => e = .returned (.bool (decide (xs = ys))) ∧ Below w.heap.size w w' := by
  have HX := Lib.hid hx; have HY := Lib.hid hy
  obtain ⟨xa, xc, rfl, hxl, -⟩ := hx
  obtain ⟨ya, yc, rfl, hyl, -⟩ := hy
  by_cases hl : xs.length = ys.length
  case neg =>
    have a1 : decide ((xs.length : Int) = (ys.length : Int)) = false := decide_eq_false (by omega)
    have a2 : decide (xs.length = ys.length) = false := decide_eq_false hl
    have a3 : ((xs.length : Int) == (ys.length : Int)) = false := by rw [beq_eq_false_iff_ne]; omega
    have HV : Hid (decide (xs = ys) = false) := decide_eq_false (fun e => hl (by rw [e]))
    go_enter Try.func26, Try.ntmps26
    go_wp2_with fail
    go_ret
    exact ⟨by rw [HV.out]; rfl, Below.refl _ _⟩
  case pos =>
    have HL := Lib.hid hl
    have a1 : decide ((xs.length : Int) = (ys.length : Int)) = true := decide_eq_true (by omega)
    have a3 : ((xs.length : Int) == (ys.length : Int)) = true := by rw [beq_iff_eq]; omega
    have a2 : decide (xs.length = ys.length) = true := decide_eq_true hl
    clear hl
    go_enter Try.func26, Try.ntmps26
    go_wp2_with fail
    clear a1 a2 a3
    go_loopw [5] (fun i wr => ∃ k : Nat, k ≤ xs.length ∧ i = iv k ∧ Hid (xs.take k = ys.take k) ∧ Hid (Below w.heap.size w wr)) (fun i _ => xs.length - (intOf i).toNat)
    case atStart => exact ⟨0, Nat.zero_le _, rfl, rfl, Below.refl _ _⟩
    case round =>
      obtain ⟨k, hk, rfl, HT, HB⟩ := hrel
      by_cases hlt : k < xs.length
      · have y1 : decide ((k : Int) < (xs.length : Int)) = true := decide_eq_true (by omega)
        have y2 : decide (k < xs.length) = true := decide_eq_true hlt
        have hx1 := HX.out.below HB.out
        have hy1 := HY.out.below HB.out
        have hlt2 : k < ys.length := by rw [← HL.out]; exact hlt
        obtain ⟨xb, xo, rfl⟩ := slice_addrN hx1 (by omega)
        obtain ⟨yb, yo, rfl⟩ := slice_addrN hy1 (by omega)
        obtain ⟨x, hx⟩ := getElem?_of_lt hlt
        obtain ⟨y, hy⟩ := getElem?_of_lt hlt2
        have c0 := intcellN hx1 hx
        have c1 := intcellN hy1 hy
        have q0 : (0 : Int) ≤ (k : Int) := by omega
        have q1 : (k : Int) < (xs.length : Int) := by omega
        have q2 : (k : Int) < (ys.length : Int) := by omega
        have HXK := Lib.hid hx; have HYK := Lib.hid hy
        clear hx1 hy1 hx hy
        by_cases he : x = y
        · subst he
          have e1 : (x == x) = true := by simp
          have HT2 : Hid (xs.take (k + 1) = ys.take (k + 1)) := by simp only [Hid]; rw [List.take_add_one, List.take_add_one, HXK.out, HYK.out, HT.out]
          go_wp2_with fail
          go_quiet (fail)
          go_wp2_with fail
          go_roundw
          case rel => exact ⟨k + 1, by omega, by go_num, HT2, bdrewNn HB.out _⟩
          case measure => simp [intOf]; omega
        · have e1 : (x == y) = false := by simpa using he
          have HV : Hid (decide (xs = ys) = false) := decide_eq_false (fun e => by
            have h1 := HXK.out; have h2 := HYK.out
            rw [e, h2] at h1; exact he (Option.some.inj h1).symm)
          go_wp2_with fail
          go_quiet (fail)
          go_wp2_with fail
          go_ret
          exact ⟨by rw [HV.out]; rfl, bdrewNn HB.out _⟩
      · obtain rfl : k = xs.length := by omega
        have y1 : decide ((xs.length : Int) < (xs.length : Int)) = false := decide_eq_false (by omega)
        have HV : Hid (decide (xs = ys) = true) := decide_eq_true (by
          have := HT.out
          rw [List.take_length] at this
          rw [HL.out, List.take_length] at this; exact this)
        go_wp2_with fail
        go_ret
        exact ⟨by rw [HV.out]; rfl, HB.out⟩

theorem slice_row {α : Type} {enc : α → List Value} {sz : Nat} (he : ∀ x, (enc x).length = sz) {w : World} {g c n : Nat} {t : TypeId} {xs : List α} (h : w.heap[g]? = some (.cells (xs.flatMap enc).toArray t (0, 0))) (hn : n = xs.length) (hl : xs.length ≤ 1000000) : SliceOf enc sz w (.slice (some ⟨g, 0, none⟩) n c) xs := by
  subst hn
  refine ⟨_, c, rfl, by omega, fun i x hx => ⟨g, 0, rfl, fun j u hu => ?_⟩⟩
  rw [cell_of_row _ _ _ _ _ _ h, Nat.zero_add, List.getElem?_toArray]
  exact flatMap_get he xs i x hx j u hu

set_option maxRecDepth 20000 in
set_option maxHeartbeats 6400000 in
theorem elmTurns_any (w : World) : Calls Try.prog 13 #[] w fun e w' => e = .returned (.bool true) ∧ Below w.heap.size w w' := by
  have HO := Lib.hid (fun (W : World) (g h : Nat) (hC : SliceOf encC 4 W (.slice (some ⟨g, 0, none⟩) 4 4) k4C) (hR : Ints W (.slice (some ⟨h, 0, none⟩) 2 2) k4R) => Order_good k4C k4R (some ⟨g, 0, none⟩) h 0 4 2 W hC hR k4Chk)
  go_enter Try.func13, Try.ntmps13
  go_wp2_with fail
  refine (elmSpan_any 4 6 _).mono ?_
  rintro e w1 ⟨rfl, hb1⟩
  have HB1 := Lib.hid (show Below w.heap.size w w1 from bstep (by repeat (first | exact Below.refl _ _ | refine Below.drew ?_ | refine bpush ?_ _ | refine bput ?_ (by simp) _ | (refine bstep ?_ (by assumption)))) hb1)
  have HR1 := Lib.hid ((hb1.block w.heap.size (by simp)).trans (heap_new w #[.int .i64 1, .int .i64 0] 3))
  clear hb1
  go_wp2_with fail
  refine (elmSpan_any 3 3 _).mono ?_
  rintro e w2 ⟨rfl, hb2⟩
  have HR2 := Lib.hid ((hb2.block w.heap.size (Array.getElem?_eq_some_iff.1 HR1.out).1).trans HR1.out)
  have HB2 := Lib.hid (bstep HB1.out hb2)
  clear hb2
  go_wp2_with fail
  refine (elmSpan_any 5 8 _).mono ?_
  rintro e w3 ⟨rfl, hb3⟩
  have HR3 := Lib.hid ((hb3.block w.heap.size (Array.getElem?_eq_some_iff.1 HR2.out).1).trans HR2.out)
  have HB3 := Lib.hid (bstep HB2.out hb3)
  clear hb3
  go_wp2_with fail
  refine (elmSpan_any 2 4 _).mono ?_
  rintro e w4 ⟨rfl, hb4⟩
  have HR4 := Lib.hid ((hb4.block w.heap.size (Array.getElem?_eq_some_iff.1 HR3.out).1).trans HR3.out)
  have HB4 := Lib.hid (bstep HB3.out hb4)
  clear hb4
  go_wp2_with fail
  have hz4 := (Array.getElem?_eq_some_iff.1 HR4.out).1
  refine (HO.out _ w4.heap.size w.heap.size (slice_row (enc := encC) (xs := k4C) (fun _ => rfl) (heap_new _ _ _) rfl (by decide)) (slice_row (enc := encI) (xs := k4R) (fun _ => rfl) ((Below.heap_alloc _ _ _ hz4).trans HR4.out) rfl (by decide))).mono ?_
  rintro e w5 ⟨o, g, oc, rfl, hord, ho5, hb5⟩
  have heq : o = [2, 0, 1, 3] := OrdC.one hord k4Ord k4Rk (day_we k4Chk) (fun x hx => List.mem_range.1 hx) List.nodup_range
  subst heq
  have HS5 := Lib.hid (Owns.slice ho5 encI_len (by decide))
  have HB5 := Lib.hid (bstep HB4.out (bstep (bpush (Below.refl _ _) _) hb5))
  clear ho5 hb5 hord hz4
  go_wp2_with fail
  refine (elmInts_any [2, 0, 1, 3] [2, 0, 1, 3] _ _ _ (HS5.out.below (bpush (Below.refl _ _) _)) (slice_row (enc := encI) (xs := [2, 0, 1, 3]) (fun _ => rfl) (heap_new _ _ _) rfl (by decide))).mono ?_
  rintro e w6 ⟨rfl, hb6⟩
  have HB6 := Lib.hid (bstep (bpush HB5.out _) hb6)
  clear hb6
  go_wp2_with fail
  go_ret
  exact ⟨rfl, HB6.out⟩
end Go.Proofs.Ytkialkfplhhenaa
