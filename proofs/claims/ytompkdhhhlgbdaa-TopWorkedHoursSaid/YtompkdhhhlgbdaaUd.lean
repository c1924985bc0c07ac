/- Values, Blows of package stream; copies of numbers. -/
import Derived.Test.YtompkdhhhlgbdaaUc
namespace Go.Proofs.Ytompkdhhhlgbdaa
open Go Go.RowKit Go.Shelf
attribute [local go_sem] Oper.semAt_some
attribute [local go_sem ↓] Go.wp_at_zero Go.wp_at_succ

set_option maxRecDepth 20000 in
set_option maxHeartbeats 3200000 in
theorem values_seq (S : Nat → Prop) (bs : Nat) (hSb : S bs) (sa : Option Addr) (sc : Nat) (xs : List Int) (hl : xs.length ≤ 1000000) (w0 : World) (hS : ∀ k, S k → k < w0.heap.size) (hb : w0.heap[bs]? = some (.cells #[.slice sa xs.length sc] 57 (0, 0))) (hx : ∀ W, SameOn S w0 W → Ints W (.slice sa xs.length sc) xs) :
    SeqL Try.prog 67 #[.pointer (some ⟨bs, 0, none⟩)] (fun (x : Int) => #[iv x]) S xs w0 := by
  intro n l J Jx W hW hJ hJx hY h0
  have hC : Hid (∀ (wr : World), SameOn S W wr → wr.heap[bs]? = some (.cells #[.slice sa xs.length sc] 57 (0, 0))) := fun wr hs => ((hW.trans hs).block bs hSb).trans hb
  have HXV : Hid (∀ wr, SameOn S W wr → Ints wr (.slice sa xs.length sc) xs) := fun wr hs => hx wr (hW.trans hs)
  have HW := Lib.hid (show ∀ k, S k → k < W.heap.size from fun k hk => Nat.lt_of_lt_of_le (hS k hk) hW.size)
  have HY := Lib.hid hY
  have HJ := Lib.hid hJ
  have HX := Lib.hid hJx
  clear hx hb hY hJ hJx hS hW
  have b0 : W.cell? ⟨bs, 0, none⟩ = some (.slice sa xs.length sc) := by rw [cell_of_row _ _ _ _ _ _ (hC.out W (SameOn.refl _ _))]; rfl
  refine callsIn_of_wp Try.func67 rfl trivial ?_ rfl
  simp only [Try.ntmps67, List.size_toArray, List.length_cons, List.length_nil, Nat.reduceAdd, Nat.reduceSub, Array.replicate_succ, Array.replicate_zero, List.push_toArray, List.append_toArray, List.nil_append, List.cons_append]
  gi_wp2_with fail
  clear b0
  gi_loopw [7] (fun i wr => ∃ (k : Nat), k ≤ xs.length ∧ i = iv k ∧ SameOn S W wr ∧ J noBlock (xs.take k) wr) (fun i _ => xs.length - (intOf i).toNat)
  case atStart => exact ⟨0, Nat.zero_le _, rfl, SameOn.refl _ _, h0⟩
  case round =>
    obtain ⟨k, hk, rfl, hsr, hjr⟩ := hrel
    have HSr := Lib.hid hsr; clear hsr
    have HJr := Lib.hid hjr; clear hjr
    have hsw : W.heap.size ≤ wr.heap.size := HSr.out.size
    by_cases hlt : k < xs.length
    · obtain ⟨x, hxk⟩ := getElem?_of_lt hlt
      obtain ⟨sa', sc', hse, -, hsc⟩ := HXV.out wr HSr.out
      obtain ⟨sb, so, hsa, hsj⟩ := hsc k x hxk
      have hcx := hsj 0 (iv x) rfl
      simp only [Nat.mul_one, Nat.add_zero] at hcx
      simp only [Value.slice.injEq] at hse
      obtain ⟨rfl, -, -⟩ := hse
      subst hsa
      have HT : Hid (xs.take (k + 1) = xs.take k ++ [x]) := by rw [Hid, List.take_add_one, hxk]; rfl
      have hpre : (xs.take k ++ [x]) <+: xs := by rw [← HT.out]; exact List.take_prefix _ _
      have i0 : (0 : Int) ≤ (k : Int) := by omega
      have i1 : (k : Int) < (xs.length : Int) := by omega
      obtain ⟨fn, tmps, assign, body, hy, hR⟩ := HY.out noBlock _ x wr (fun _ h => h.elim) hpre HJr.out hsw (fun _ h => h.elim)
      have HR := Lib.hid hR
      clear hR hpre hsc hsj hxk
      try dsimp only at hy
      gi_wp2_with fail
      refine HR.out.mono ?_
      rintro e w4 (⟨rfl, hj4, hk4⟩ | ⟨rfl, hx4, hk4⟩)
      · have HJ4 := Lib.hid hj4; clear hj4
        have HS4 := Lib.hid (HSr.out.trans (hk4.mono (fun _ h => .inl h))); clear hk4
        gi_wp2_with fail
        go_roundw
        case rel => exact ⟨k + 1, by omega, by go_num, HS4.out, by rw [HT.out]; exact HJ4.out⟩
        case measure => simp [intOf]; omega
      · have HX2 := Lib.hid hx4; clear hx4
        have HZ2 := Lib.hid (show W.heap.size ≤ w4.heap.size from Nat.le_trans hsw hk4.size); clear hk4
        gi_wp2_with fail
        refine bodyPost_ret (results_none rfl _ _ _) rfl ?_
        exact ⟨⟨_, rfl⟩, HZ2.out, .inr HX2.out⟩
    · obtain rfl : k = xs.length := by omega
      gi_wp2_with fail
      go_end0
      exact ⟨⟨_, rfl⟩, hsw, .inl (by have := HJr.out; rwa [List.take_length] at this)⟩

/-- An iterator over the elements of a list, made behind w. -/
def VsRes (sv : Value) (w : World) (e : Ending) (w' : World) : Prop := ∃ bs, e = .returned (.func (.func 67) #[] #[.pointer (some ⟨bs, 0, none⟩)]) ∧ w'.heap[bs]? = some (.cells #[sv] 57 (0, 0)) ∧ Below w.heap.size w w'
set_option maxRecDepth 20000 in
set_option maxHeartbeats 1600000 in
theorem values_any (sa : Option Addr) (sn sc : Nat) (w : World) :
    Calls Try.prog 48 #[.slice sa sn sc] w (VsRes (.slice sa sn sc) w) := by
  go_enter Try.func48, Try.ntmps48
  go_wp2_with fail
  go_ret
  exact ⟨_, rfl, heap_new _ _ _, (by repeat (first | exact Below.refl _ _ | refine Below.drew ?_ | refine bpush ?_ _ | refine bput ?_ (by simp) _ | (refine bstep ?_ (by assumption))))⟩

set_option maxRecDepth 20000 in
set_option maxHeartbeats 1600000 in
theorem firInts_any (L : List Int) (ad : Addr) (c : Nat) (w : World) (hl : L.length ≤ 1000000) (hf : Ints w (.slice (some ad) L.length c) L) :
    Calls Try.prog 18 #[.slice (some ad) L.length c] w fun e w' => ∃ v, e = .returned v ∧ Owns encI 1 3 w.heap.size w' v L ∧ Below w.heap.size w w' := by
  obtain ⟨i0, hi, hz0, hz1, hz2⟩ := info_parts info3
  have HI := Lib.hid hi; have HZ0 := Lib.hid hz0; have HZ1 := Lib.hid hz1; have HZ2 := Lib.hid hz2
  have HF := Lib.hid (SliceOf.below hf (bpush (Below.refl _ _) (.cells #[] 3)))
  have HB2 : Hid (([] : List Int).length + L.length ≤ maxLen ∧ (([] : List Int).length + L.length) * 8 ≤ 140737488355328) := by simp only [Hid, List.length_nil]; unfold maxLen; omega
  have HB3 : Hid (w.heap.size ≤ (w.alloc (.cells #[] 3)).heap.size) := by simp [Hid]
  clear hi hz0 hz1 hz2 hf
  go_enter Try.func18, Try.ntmps18
  go_wp2_with (at_builtin; refine L_appendS L rfl _ _ 57 rfl Try.underlying57 HI.out HZ0.out HZ1.out HZ2.out rfl Nat.one_pos encI_len encI_one rfl rfl (owns_empty encI 1 3 w.heap.size w (Nat.le_refl _)) HF.out HB2.out HB3.out ?_; intro v' w1 hown hbe hg)
  have HO := Lib.hid hown; have HBE := Lib.hid (bpush (Below.refl w.heap.size w) (.cells #[] 3) |>.trans hbe)
  clear hown hbe hg
  go_ret
  exact ⟨_, rfl, HO.out, HBE.out⟩

set_option maxRecDepth 20000 in
set_option maxHeartbeats 3200000 in
theorem Blows_good (m : Ml) (plan : List Int) (pv : Value) (w : World) (hm : vMill m = true) (hpl : vPlan m.k plan 1 24 = true) (hp : Ints w pv plan) :
    Calls Try.prog 20 #[.agg (encMl m).toArray, pv] w fun e w' => e = .returned (.tuple #[.agg #[iv (plan.sum * m.bl), iv (plan.sum * m.bh)], iv 0]) ∧ Below w.heap.size w w' := by
  have HP := Lib.hid hp
  obtain ⟨pa, pc, rfl, hpl2, -⟩ := hp
  obtain ⟨⟨q1, q2⟩, hP⟩ := vPlan_iff.1 hpl
  have hP8 := plan8 (vMill_iff.1 hm).1.2 hP
  have hbd := fun (l : List Int) (hl : l <+: plan) => sum_bd l (fun x hx => inB_iff.1 (List.all_eq_true.1 hP8 x (hl.subset hx)))
  have HPF : Hid (∀ pre, pre <+: plan → -1000000000 ≤ pre.sum ∧ pre.sum ≤ 1000000000) := fun pre hpre => by
    have h1 := hbd pre hpre; have h2 := hpre.length_le; omega
  have hs := hbd plan (List.prefix_refl _)
  have hs2 : 0 ≤ plan.sum ∧ plan.sum ≤ 192 := by omega
  obtain ⟨b1, b2, b3, b4, b5⟩ := okSpan_iff.1 (vMill_iff.1 hm).2.2.1
  have HV := Lib.hid (fun w (h : Ints w (.slice pa plan.length pc) plan) => validPlan_any m plan (.slice pa plan.length pc) 1 24 w h)
  rw [hpl] at HV
  have HM := Lib.hid (validMill_any m)
  rw [hm] at HM
  clear hm hpl hP hP8 hbd hs
  obtain ⟨kk, t, bl, bh, h, nl, nh⟩ := m
  simp only [encMl] at *
  have m1 : 0 ≤ plan.sum * bl ∧ plan.sum * bl ≤ 960000 := by
    have e1 : 0 ≤ plan.sum * bl := Int.mul_nonneg hs2.1 b1
    have e2 : plan.sum * bl ≤ 192 * 5000 := Int.mul_le_mul hs2.2 b2 b1 (by omega)
    omega
  have m2 : 0 ≤ plan.sum * bh ∧ plan.sum * bh ≤ 960000 := by
    have e1 : 0 ≤ plan.sum * bh := Int.mul_nonneg hs2.1 b3
    have e2 : plan.sum * bh ≤ 192 * 5000 := Int.mul_le_mul hs2.2 b4 b3 (by omega)
    omega
  have g1 : IntKind.i64.wrap (plan.sum * bl) = plan.sum * bl := IntWalk.i64_in _ ⟨by omega, by omega⟩
  have g2 : IntKind.i64.wrap (plan.sum * bh) = plan.sum * bh := IntWalk.i64_in _ ⟨by omega, by omega⟩
  obtain ⟨s, hs⟩ : ∃ s, s = plan.sum := ⟨_, rfl⟩
  rw [← hs] at g1 g2 ⊢
  have HSM := Lib.hid hs; clear hs m1 m2 hs2
  go_enter Try.func20, Try.ntmps20
  go_wp2_with fail
  refine (HM.out _).mono ?_
  rintro e w1 ⟨rfl, hb⟩
  have hrm := Lib.hid ((hb.block w.heap.size (by simp; omega)).trans (show _ = some (.cells #[iv kk, iv t, iv bl, iv bh, iv h, iv nl, iv nh] 38 (0, 0)) from heapC rfl))
  have hrr := Lib.hid ((hb.block (w.heap.size + 1) (by simp)).trans (show _ = some (.cells #[iv 0, iv 0] 36 (0, 0)) from heapA (by simp)))
  have HB := Lib.hid (show Below w.heap.size w w1 from bstep (by repeat (first | exact Below.refl _ _ | refine Below.drew ?_ | refine bpush ?_ _ | refine bput ?_ (by simp) _ | (refine bstep ?_ (by assumption)))) hb)
  clear hb
  have c0 : w1.cell? ⟨w.heap.size, 0, none⟩ = some (iv kk) := by rw [cell_of_row _ _ _ _ _ _ hrm.out]; rfl
  have c1 : w1.cell? ⟨w.heap.size, 1, none⟩ = some (iv t) := by rw [cell_of_row _ _ _ _ _ _ hrm.out]; rfl
  have c2 : w1.cell? ⟨w.heap.size, 2, none⟩ = some (iv bl) := by rw [cell_of_row _ _ _ _ _ _ hrm.out]; rfl
  have c3 : w1.cell? ⟨w.heap.size, 3, none⟩ = some (iv bh) := by rw [cell_of_row _ _ _ _ _ _ hrm.out]; rfl
  have c4 : w1.cell? ⟨w.heap.size, 4, none⟩ = some (iv h) := by rw [cell_of_row _ _ _ _ _ _ hrm.out]; rfl
  have c5 : w1.cell? ⟨w.heap.size, 5, none⟩ = some (iv nl) := by rw [cell_of_row _ _ _ _ _ _ hrm.out]; rfl
  have c6 : w1.cell? ⟨w.heap.size, 6, none⟩ = some (iv nh) := by rw [cell_of_row _ _ _ _ _ _ hrm.out]; rfl
  go_wp2_with fail
  refine (HV.out _ (HP.out.below HB.out)).mono ?_
  rintro e w2 ⟨rfl, hb2⟩
  have hrm2 := Lib.hid ((hb2.block w.heap.size (Array.getElem?_eq_some_iff.1 hrm.out).1).trans hrm.out)
  have hrr2 := Lib.hid ((hb2.block (w.heap.size + 1) (Array.getElem?_eq_some_iff.1 hrr.out).1).trans hrr.out)
  have HB2 := Lib.hid (bstep HB.out hb2)
  clear hb2 c0 c1 c2 c3 c4 c5 c6
  go_wp2_with fail
  refine (values_any pa plan.length pc _).mono ?_
  rintro e w3 ⟨bs, rfl, hbs, hb3⟩
  have hlbs : bs < w3.heap.size := (Array.getElem?_eq_some_iff.1 hbs).1
  have HSQ := Lib.hid (values_seq (fun k => k < w3.heap.size) bs hlbs pa pc plan (by omega) w3 (fun k hk => hk) hbs (fun W' hs => SliceOf.heapEq (HP.out.below (bstep HB2.out hb3)) (fun k hk => hs.block k hk)))
  have hrm3 := Lib.hid ((hb3.block w.heap.size (Array.getElem?_eq_some_iff.1 hrm2.out).1).trans hrm2.out)
  have hrr3 := Lib.hid ((hb3.block (w.heap.size + 1) (Array.getElem?_eq_some_iff.1 hrr2.out).1).trans hrr2.out)
  have HB3 := Lib.hid (bstep HB2.out hb3)
  clear hb3 hbs
  go_wp2_with fail
  refine (total_any _ _ (fun k => k < w3.heap.size) plan w3 (enters_of Try.func67 (by kernel_rfl) rfl) HSQ.out (fun k hk => hk) HPF.out).mono ?_
  rintro e w4 ⟨rfl, hb4⟩
  rw [← HSM.out]
  have hrm4 := Lib.hid ((hb4.block w.heap.size (Array.getElem?_eq_some_iff.1 hrm3.out).1).trans hrm3.out)
  have hrr4 := Lib.hid ((hb4.block (w.heap.size + 1) (Array.getElem?_eq_some_iff.1 hrr3.out).1).trans hrr3.out)
  have HB4 := Lib.hid (bstep HB3.out hb4)
  clear hb4
  have d0 : w4.cell? ⟨w.heap.size, 0, none⟩ = some (iv kk) := by rw [cell_of_row _ _ _ _ _ _ hrm4.out]; rfl
  have d1 : w4.cell? ⟨w.heap.size, 1, none⟩ = some (iv t) := by rw [cell_of_row _ _ _ _ _ _ hrm4.out]; rfl
  have d2 : w4.cell? ⟨w.heap.size, 2, none⟩ = some (iv bl) := by rw [cell_of_row _ _ _ _ _ _ hrm4.out]; rfl
  have d3 : w4.cell? ⟨w.heap.size, 3, none⟩ = some (iv bh) := by rw [cell_of_row _ _ _ _ _ _ hrm4.out]; rfl
  have d4 : w4.cell? ⟨w.heap.size, 4, none⟩ = some (iv h) := by rw [cell_of_row _ _ _ _ _ _ hrm4.out]; rfl
  have d5 : w4.cell? ⟨w.heap.size, 5, none⟩ = some (iv nl) := by rw [cell_of_row _ _ _ _ _ _ hrm4.out]; rfl
  have d6 : w4.cell? ⟨w.heap.size, 6, none⟩ = some (iv nh) := by rw [cell_of_row _ _ _ _ _ _ hrm4.out]; rfl
  have r0 : w4.cell? ⟨w.heap.size + 1, 0, none⟩ = some (iv 0) := by rw [cell_of_row _ _ _ _ _ _ hrr4.out]; rfl
  have r1 : w4.cell? ⟨w.heap.size + 1, 1, none⟩ = some (iv 0) := by rw [cell_of_row _ _ _ _ _ _ hrr4.out]; rfl
  have r2 : w4.frozen? ⟨w.heap.size + 1, 0, none⟩ = false := by unfold World.frozen?; rw [hrr4.out]; rfl
  have r3 : w4.frozen? ⟨w.heap.size + 1, 1, none⟩ = false := by unfold World.frozen?; rw [hrr4.out]; rfl
  go_wp2_with fail
  exact bodyPost_ret (results_row_tmp (fn := Try.f20) Try.results20 _ rfl (heap_set2 (u := iv (s * bl)) (v := iv (s * bh)) hrr4.out) Try.underlying36 rfl (by kernel_rfl)) rfl ⟨rfl, bput (bput HB4.out (by simp) _) (by simp) _⟩
end Go.Proofs.Ytompkdhhhlgbdaa
