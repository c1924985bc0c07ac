/- elmInts: lists of integers that are compared; elmThief: the known example of chapter 9. -/
import Derived.Test.YtdalilllakdamaaNd
import Derived.Test.YtdalilllakdamaaGj
import Derived.BigQuiet
namespace Go.Proofs.Ytdalilllakdamaa
open Go Go.RowKit Go.Shelf
attribute [local go_sem ↓] Go.wp_at_zero Go.wp_at_succ

theorem intcellN {w : World} {b off n cap i : Nat} {xs : List Int} {x : Int} (h : Ints w (.slice (some ⟨b, off, none⟩) n cap) xs) (hx : xs[i]? = some x) : w.cell? ⟨b, off + i, none⟩ = some (iv x) := by
  have := slice_cellN h hx 0 _ rfl
  simpa using this
theorem bdrewNn {B : Nat} {w w1 : World} (h : Below B w w1) (n : Nat) : Below B w (w1.drewN n) := ⟨h.os, h.tape, h.output, h.size, h.block⟩
set_option maxRecDepth 20000 in
set_option maxHeartbeats 6400000 in
theorem elmInts_any (xs ys : List Int) (v u : Value) (w : World) (hx : Ints w v xs) (hy : Ints w u ys) :
    Calls Try.prog 17 #[v, u] w fun e w' => e = .returned (.bool (decide (xs = ys))) ∧ Below w.heap.size w w' := by
  have HX := Lib.hid hx; have HY := Lib.hid hy
  obtain ⟨xa, xc, rfl, hxl, -⟩ := hx
  obtain ⟨ya, yc, rfl, hyl, -⟩ := hy
  by_cases hl : xs.length = ys.length
  case neg =>
    have a1 : decide ((xs.length : Int) = (ys.length : Int)) = false := decide_eq_false (by omega)
    have a2 : decide (xs.length = ys.length) = false := decide_eq_false hl
    have a3 : ((xs.length : Int) == (ys.length : Int)) = false := by rw [beq_eq_false_iff_ne]; omega
    have HV : Hid (decide (xs = ys) = false) := decide_eq_false (fun e => hl (by rw [e]))
    go_enter Try.func17, Try.ntmps17
    go_wp2_with fail
    go_ret
    exact ⟨by rw [HV.out]; rfl, Below.refl _ _⟩
  case pos =>
    have HL := Lib.hid hl
    have a1 : decide ((xs.length : Int) = (ys.length : Int)) = true := decide_eq_true (by omega)
    have a3 : ((xs.length : Int) == (ys.length : Int)) = true := by rw [beq_iff_eq]; omega
    have a2 : decide (xs.length = ys.length) = true := decide_eq_true hl
    clear hl
    go_enter Try.func17, Try.ntmps17
    go_wp2_with fail
    clear a1 a2 a3
    go_loopw [5] (fun i wr => ∃ k : Nat, k ≤ xs.length ∧ i = iv k ∧ Hid (xs.take k = ys.take k) ∧ Hid (Below w.heap.size w wr)) (fun i _ => xs.length - (intOf i).toNat)
    case atStart => exact ⟨0, Nat.zero_le _, rfl, rfl, Below.refl _ _⟩
    case round =>
      obtain ⟨k, hk, rfl, HT, HB⟩ := hrel
      by_cases hlt : k < xs.length
      · have y1 : decide ((k : Int) < (xs.length : Int)) = true := decide_eq_true (by omega)
        have y2 : decide (k < xs.length) = true := decide_eq_true hlt
        have hx1 := HX.out.below HB.out
        have hy1 := HY.out.below HB.out
        have hlt2 : k < ys.length := by rw [← HL.out]; exact hlt
        obtain ⟨xb, xo, rfl⟩ := slice_addrN hx1 (by omega)
        obtain ⟨yb, yo, rfl⟩ := slice_addrN hy1 (by omega)
        obtain ⟨x, hx⟩ := getElem?_of_lt hlt
        obtain ⟨y, hy⟩ := getElem?_of_lt hlt2
        have c0 := intcellN hx1 hx
        have c1 := intcellN hy1 hy
        have q0 : (0 : Int) ≤ (k : Int) := by omega
        have q1 : (k : Int) < (xs.length : Int) := by omega
        have q2 : (k : Int) < (ys.length : Int) := by omega
        have HXK := Lib.hid hx; have HYK := Lib.hid hy
        clear hx1 hy1 hx hy
        by_cases he : x = y
        · subst he
          have e1 : (x == x) = true := by simp
          have HT2 : Hid (xs.take (k + 1) = ys.take (k + 1)) := by simp only [Hid]; rw [List.take_add_one, List.take_add_one, HXK.out, HYK.out, HT.out]
          go_wp2_with fail
          go_quiet (fail)
          go_wp2_with fail
          go_roundw
          case rel => exact ⟨k + 1, by omega, by go_num, HT2, bdrewNn HB.out _⟩
          case measure => simp [intOf]; omega
        · have e1 : (x == y) = false := by simpa using he
          have HV : Hid (decide (xs = ys) = false) := decide_eq_false (fun e => by
            have h1 := HXK.out; have h2 := HYK.out
            rw [e, h2] at h1; exact he (Option.some.inj h1).symm)
          go_wp2_with fail
          go_quiet (fail)
          go_wp2_with fail
          go_ret
          exact ⟨by rw [HV.out]; rfl, bdrewNn HB.out _⟩
      · obtain rfl : k = xs.length := by omega
        have y1 : decide ((xs.length : Int) < (xs.length : Int)) = false := decide_eq_false (by omega)
        have HV : Hid (decide (xs = ys) = true) := decide_eq_true (by
          have := HT.out
          rw [List.take_length] at this
          rw [HL.out, List.take_length] at this; exact this)
        go_wp2_with fail
        go_ret
        exact ⟨by rw [HV.out]; rfl, HB.out⟩

def kSg : List Sg := [⟨0, 90, 15⟩, ⟨0, 130, 30⟩, ⟨1, 60, 45⟩]
theorem kSgOk : WtOk 2 100 110 kSg := ⟨by decide, by decide +kernel, by decide, by decide +kernel⟩
theorem kSgTh : natI (thTo kSg 100 110 2) = [1] := by decide +kernel
theorem sights3 {w : World} {g cap : Nat} {a b c : Sg} {t : TypeId} (h : w.heap[g]? = some (.cells #[iv a.p, iv a.m, iv a.a, iv b.p, iv b.m, iv b.a, iv c.p, iv c.m, iv c.a] t (0, 0))) : SliceOf encSg 3 w (.slice (some ⟨g, 0, none⟩) 3 cap) [a, b, c] := by
  refine ⟨_, cap, rfl, by simp, fun i p hp => ⟨g, 0, rfl, fun j u hu => ?_⟩⟩
  rw [cell_of_row _ _ _ _ _ _ h]
  rcases i with _ | _ | _ | i
  · simp at hp; subst hp
    rcases j with _ | _ | _ | j <;> simp [encSg] at hu ⊢ <;> exact hu
  · simp at hp; subst hp
    rcases j with _ | _ | _ | j <;> simp [encSg] at hu ⊢ <;> exact hu
  · simp at hp; subst hp
    rcases j with _ | _ | _ | j <;> simp [encSg] at hu ⊢ <;> exact hu
  · simp at hp
set_option maxRecDepth 20000 in
set_option maxHeartbeats 6400000 in
theorem elmThief_any (w : World) :
    Calls Try.prog 9 #[] w fun e w' => e = .returned (.bool true) ∧ Below w.heap.size w w' := by
  have HT : Hid (∀ (W : World) (g c : Nat), SliceOf encSg 3 W (.slice (some ⟨g, 0, none⟩) 3 c) kSg → Calls Try.prog 6 #[iv 2, .slice (some ⟨g, 0, none⟩) 3 c, .agg #[iv 100, iv 110]] W fun e w' => ∃ v, e = .returned (.tuple #[v, iv 0]) ∧ Ints w' v [1] ∧ Below W.heap.size W w') := fun W g c h => by
    have := Thieves_good 2 100 110 kSg (some ⟨g, 0, none⟩) c W h kSgOk
    rw [kSgTh] at this
    exact this
  have HI : Hid (∀ (W : World) (v u : Value), Ints W v [1] → Ints W u [1] → Calls Try.prog 17 #[v, u] W fun e w' => e = .returned (.bool true) ∧ Below W.heap.size W w') := fun W v u h1 h2 => elmInts_any [1] [1] v u W h1 h2
  go_enter Try.func9, Try.ntmps9
  go_wp2_with fail
  refine (elmSpan_any 100 110 _).mono ?_
  rintro e w1 ⟨rfl, hb1⟩
  have hr := (hb1.block w.heap.size (by simp)).trans (heap_new w _ _)
  have HS := Lib.hid (sights3 (a := ⟨0, 90, 15⟩) (b := ⟨0, 130, 30⟩) (c := ⟨1, 60, 45⟩) (cap := 3) hr)
  have HB1 := Lib.hid (show Below w.heap.size w w1 from bstep (by repeat (first | exact Below.refl _ _ | refine Below.drew ?_ | refine bpush ?_ _ | refine bput ?_ (by simp) _ | (refine bstep ?_ (by assumption)))) hb1)
  clear hb1 hr
  go_wp2_with fail
  refine (HT.out _ _ _ HS.out).mono ?_
  rintro e w2 ⟨v, rfl, hv, hb2⟩
  have HV := Lib.hid hv
  have HB2 := Lib.hid (bstep HB1.out hb2)
  clear hv hb2
  go_wp2_with fail
  refine (HI.out _ _ _ (HV.out.below (bpush (Below.refl _ _) _)) (ints1 (by go_simp))).mono ?_
  rintro e w3 ⟨rfl, hb3⟩
  have HB3 := Lib.hid (bstep (bpush HB2.out _) hb3)
  clear hb3
  go_wp2_with fail
  go_ret
  exact ⟨rfl, HB3.out⟩
end Go.Proofs.Ytdalilllakdamaa
