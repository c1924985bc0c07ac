/- Turns: which cloths are chosen; how many of its weaver's stand before each. -/
import Derived.Test.YthkmklfmobenaaaQf
namespace Go.Proofs.Ythkmklfmobenaaa
open Go Go.RowKit Go.Shelf
attribute [local go_sem] Oper.semAt_some

theorem ordI_len (o : List Nat) : (ordI o).length = o.length := by simp [ordI]
theorem filter_take {p : Nat → Bool} {xs : List Nat} {k x : Nat} (hx : xs[k]? = some x) : (xs.take (k + 1)).filter p = (xs.take k).filter p ++ if p x then [x] else [] := by
  rw [List.take_add_one, hx]; simp [List.filter_append, List.filter_cons]

set_option maxRecDepth 20000 in
set_option maxHeartbeats 3200000 in
theorem chosen_any (gf : FuncId) (cb : Array Value) (p : Nat → Bool) (xs : List Nat) (la : Option Addr) (lc : Nat) (w : World) (eg : ∀ args w, (callFunc gf args).run Try.prog w = .ok (.enter gf args) w)
    (hf : ∀ x ∈ xs, ∀ W, Below w.heap.size w W → Calls Try.prog gf (#[iv (x : Int)] ++ cb) W fun e w' => e = .returned (.bool (p x)) ∧ Below W.heap.size W w') (hs : Ints w (.slice la xs.length lc) (ordI xs)) (hl : xs.length ≤ 1000000) :
    Calls Try.prog 69 #[.slice la xs.length lc, .func (.func gf) #[] cb] w fun e w' => ∃ v, e = .returned v ∧ Owns encI 1 3 w.heap.size w' v (ordI (xs.filter p)) ∧ Below w.heap.size w w' := by
  obtain ⟨i0, hi, hz0, hz1, hz2⟩ := info_parts info3
  have HF := Lib.hid hf; have HS := Lib.hid hs
  clear hf hs
  go_enter Try.func69, Try.ntmps69
  go_wp2_with fail
  go_loopw [10, 5] (fun i l wr => ∃ k : Nat, k ≤ xs.length ∧ i = iv k ∧ Owns encI 1 3 w.heap.size wr l (ordI ((xs.take k).filter p)) ∧ Below w.heap.size w wr) (fun i _ _ => xs.length - (intOf i).toNat)
  case atStart => exact ⟨0, Nat.zero_le _, rfl, Owns.nil _ _ _ _ _, Below.refl _ _⟩
  case round =>
    obtain ⟨k, hk, rfl, hown, hbw⟩ := hrel
    have HO := Lib.hid hown; have HB := Lib.hid hbw
    clear hown hbw
    by_cases hlt : k < xs.length
    · obtain ⟨x, hx⟩ := getElem?_of_lt hlt
      have hs1 := HS.out.below HB.out
      obtain ⟨b, off, rfl⟩ := slice_addr hs1 (by rw [ordI_len]; omega)
      have c0 : wr.cell? ⟨b, off + k, none⟩ = some (iv x) := int_cell hs1 (by simp [ordI, hx])
      have HC := Lib.hid (HF.out x (List.mem_of_getElem? hx) wr HB.out)
      have HT := Lib.hid (filter_take (p := p) hx)
      have hfl : ((xs.take k).filter p).length ≤ 1000000 := by have := List.length_filter_le p (xs.take k); simp at this; omega
      clear hs1 hx
      cases hp : p x
      · rw [hp] at HC HT
        go_wp2_with fail
        refine HC.out.mono ?_
        rintro e w1 ⟨rfl, hb1⟩
        have HO1 := Lib.hid (Owns.kept HO.out hb1)
        have HB1 := Lib.hid (bstep HB.out hb1)
        clear hb1
        go_wp2_with fail
        go_roundw
        case rel => exact ⟨k + 1, by omega, by go_num, by rw [HT.out]; simpa using HO1.out, HB1.out⟩
        case measure => simp [intOf]; omega
      · rw [hp] at HC HT
        go_wp2_with fail
        refine HC.out.mono ?_
        rintro e w1 ⟨rfl, hb1⟩
        have HO1 := Lib.hid (Owns.kept HO.out hb1)
        have HB1 := Lib.hid (bstep HB.out hb1)
        clear hb1
        have hb2 : (ordI ((xs.take k).filter p)).length + 1 ≤ maxLen ∧ ((ordI ((xs.take k).filter p)).length + 1) * 8 ≤ 140737488355328 := by rw [ordI_len]; unfold maxLen; omega
        have hb3 : w.heap.size ≤ (w1.alloc (.cells #[iv x] 3)).heap.size := by have := HB1.out.size; simp; omega
        go_wp2_with (at_builtin; refine L_append1 (x : Int) rfl _ _ 24 rfl Try.underlying24 hi hz0 hz1 hz2 rfl Nat.one_pos encI_len (encI_one _) rfl rfl (Owns.kept HO1.out (bpush (Below.refl _ _) _)) (encI_cell ?_) hb2 hb3 ?_; go_simp; intro v' w2 hown2 hbe2 hg2)
        go_roundw
        case rel => exact ⟨k + 1, by omega, by go_num, by rw [HT.out]; simpa [ordI] using hown2, (bpush HB1.out _).trans hbe2⟩
        case measure => simp [intOf]; omega
    · obtain rfl : k = xs.length := by omega
      go_wp2_with fail
      go_ret
      exact ⟨_, rfl, by have := HO.out; rwa [List.take_length] at this, HB.out⟩

set_option maxRecDepth 20000 in
set_option maxHeartbeats 3200000 in
theorem rounds1_any (bd ba bc a b : Nat) (ca : Option Addr) (cc : Nat) (C : List Ct) (W : World) (hb : b < C.length) (hd : W.cell? ⟨bd, 0, none⟩ = some (.slice ca C.length cc)) (hC : SliceOf encC 4 W (.slice ca C.length cc) C)
    (ha : W.cell? ⟨ba, 0, none⟩ = some (iv a)) (h0 : W.cell? ⟨bc, 0, none⟩ = some (iv (ctAt C a).we)) (h1 : W.cell? ⟨bc, 1, none⟩ = some (iv (ctAt C a).co)) :
    Calls Try.prog 70 #[iv b, .pointer (some ⟨bd, 0, none⟩), .pointer (some ⟨ba, 0, none⟩), .pointer (some ⟨bc, 0, none⟩)] W fun e w' => e = .returned (.bool (befC C a b)) ∧ Below W.heap.size W w' := by
  obtain ⟨cb, cof, rfl⟩ := slice_addr hC (by omega)
  obtain ⟨y0, y1, y2, y3⟩ := cloth_cells hC hb
  have l1 := lt_of_cell ha
  have l2 := lt_of_cell h0
  clear hC
  by_cases e1 : b < a
  · by_cases e2 : (ctAt C b).we = (ctAt C a).we
    · by_cases e3 : (ctAt C b).co = (ctAt C a).co
      · have HV : Hid (befC C a b = true) := by simp [Hid, befC, sameC, e1, e2, e3]
        have e2' : ((ctAt C b).we == (ctAt C a).we) = true := by simp [e2]
        have e3' : ((ctAt C b).co == (ctAt C a).co) = true := by simp [e3]
        clear e2 e3
        generalize (ctAt C b).we = p0 at *; generalize (ctAt C b).co = p1 at *; generalize (ctAt C a).we = q0 at *; generalize (ctAt C a).co = q1 at *
        go_enter Try.func70, Try.ntmps70
        go_wp2_with fail
        go_ret
        exact ⟨by rw [HV.out]; rfl, (by repeat (first | exact Below.refl _ _ | refine Below.drew ?_ | refine bpush ?_ _ | refine bput ?_ (by simp) _ | (refine bstep ?_ (by assumption))))⟩
      · have HV : Hid (befC C a b = false) := by simp [Hid, befC, sameC, e3]
        have e2' : ((ctAt C b).we == (ctAt C a).we) = true := by simp [e2]
        have e3' : ((ctAt C b).co == (ctAt C a).co) = false := by simp [e3]
        clear e2 e3
        generalize (ctAt C b).we = p0 at *; generalize (ctAt C b).co = p1 at *; generalize (ctAt C a).we = q0 at *; generalize (ctAt C a).co = q1 at *
        go_enter Try.func70, Try.ntmps70
        go_wp2_with fail
        go_ret
        exact ⟨by rw [HV.out]; rfl, (by repeat (first | exact Below.refl _ _ | refine Below.drew ?_ | refine bpush ?_ _ | refine bput ?_ (by simp) _ | (refine bstep ?_ (by assumption))))⟩
    · have HV : Hid (befC C a b = false) := by simp [Hid, befC, sameC, e2]
      have e2' : ((ctAt C b).we == (ctAt C a).we) = false := by simp [e2]
      clear e2
      generalize (ctAt C b).we = p0 at *; generalize (ctAt C b).co = p1 at *; generalize (ctAt C a).we = q0 at *; generalize (ctAt C a).co = q1 at *
      go_enter Try.func70, Try.ntmps70
      go_wp2_with fail
      go_ret
      exact ⟨by rw [HV.out]; rfl, (by repeat (first | exact Below.refl _ _ | refine Below.drew ?_ | refine bpush ?_ _ | refine bput ?_ (by simp) _ | (refine bstep ?_ (by assumption))))⟩
  · have HV : Hid (befC C a b = false) := by simp [Hid, befC, e1]
    generalize (ctAt C b).we = p0 at *; generalize (ctAt C b).co = p1 at *; generalize (ctAt C a).we = q0 at *; generalize (ctAt C a).co = q1 at *
    go_enter Try.func70, Try.ntmps70
    go_wp2_with fail
    go_ret
    exact ⟨by rw [HV.out]; rfl, (by repeat (first | exact Below.refl _ _ | refine Below.drew ?_ | refine bpush ?_ _ | refine bput ?_ (by simp) _ | (refine bstep ?_ (by assumption))))⟩
end Go.Proofs.Ythkmklfmobenaaa
