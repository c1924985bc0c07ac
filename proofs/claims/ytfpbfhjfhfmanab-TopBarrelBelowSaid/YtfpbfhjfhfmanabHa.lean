/- Package soap: barrels. -/
import Derived.Test.YtfpbfhjfhfmanabPc
import Derived.Test.YtfpbfhjfhfmanabPd
import Derived.Deep.Cut
import Derived.Deep.CutRange
namespace Go.Proofs.Ytfpbfhjfhfmanab
open Go Go.RowKit Go.Shelf
attribute [local go_sem ↓] Go.wp_at_zero Go.wp_at_succ

/-- A barrel: what it says, gross, off, the wood. -/
structure Br where
  (sa gr off tl th : Int)
def encBr (b : Br) : List Value := [iv b.sa, iv b.gr, iv b.off, iv b.tl, iv b.th]
def vBr (b : Br) : Bool := inB 1 400 b.sa && (inB 0 10000 b.gr && (inB 0 50 b.off && okSpan b.tl b.th 0 2000))
set_option maxRecDepth 20000 in
set_option maxHeartbeats 3200000 in
theorem validBarrel_any (b : Br) (w : World) :
    Calls Try.prog 21 #[.agg (encBr b).toArray] w fun e w' => e = .returned (.bool (vBr b)) ∧ Below w.heap.size w w' := by
  obtain ⟨sa, gr, off, tl, th⟩ := b
  simp only [encBr]
  cases h1 : inB 1 400 sa
  · go_enter Try.func21, Try.ntmps21
    go_wp2_with fail
    refine (within1 1 400 sa (by go_simp)).mono ?_
    rintro e w_ ⟨rfl, rfl⟩
    go_wp2_with fail
    go_wp2_with fail
    go_ret
    exact ⟨by simp [vBr, h1], (by repeat (first | exact Below.refl _ _ | refine Below.drew ?_ | refine bpush ?_ _ | refine bput ?_ (by simp) _ | (refine bstep ?_ (by assumption))))⟩
  cases h2 : inB 0 10000 gr
  · go_enter Try.func21, Try.ntmps21
    go_wp2_with fail
    refine (within1 1 400 sa (by go_simp)).mono ?_
    rintro e w_ ⟨rfl, rfl⟩
    go_wp2_with fail
    refine (within1 0 10000 gr (by go_simp)).mono ?_
    rintro e w_ ⟨rfl, rfl⟩
    go_wp2_with fail
    go_wp2_with fail
    go_ret
    exact ⟨by simp [vBr, h1, h2], (by repeat (first | exact Below.refl _ _ | refine Below.drew ?_ | refine bpush ?_ _ | refine bput ?_ (by simp) _ | (refine bstep ?_ (by assumption))))⟩
  cases h3 : inB 0 50 off
  · go_enter Try.func21, Try.ntmps21
    go_wp2_with fail
    refine (within1 1 400 sa (by go_simp)).mono ?_
    rintro e w_ ⟨rfl, rfl⟩
    go_wp2_with fail
    refine (within1 0 10000 gr (by go_simp)).mono ?_
    rintro e w_ ⟨rfl, rfl⟩
    go_wp2_with fail
    refine (within1 0 50 off (by go_simp)).mono ?_
    rintro e w_ ⟨rfl, rfl⟩
    go_wp2_with fail
    go_wp2_with fail
    go_ret
    exact ⟨by simp [vBr, h1, h2, h3], (by repeat (first | exact Below.refl _ _ | refine Below.drew ?_ | refine bpush ?_ _ | refine bput ?_ (by simp) _ | (refine bstep ?_ (by assumption))))⟩
  · go_enter Try.func21, Try.ntmps21
    go_wp2_with fail
    refine (within1 1 400 sa (by go_simp)).mono ?_
    rintro e w_ ⟨rfl, rfl⟩
    go_wp2_with fail
    refine (within1 0 10000 gr (by go_simp)).mono ?_
    rintro e w_ ⟨rfl, rfl⟩
    go_wp2_with fail
    refine (within1 0 50 off (by go_simp)).mono ?_
    rintro e w_ ⟨rfl, rfl⟩
    go_wp2_with fail
    refine (okSpan_any tl th 0 2000 _).mono ?_
    rintro e w1 ⟨rfl, hb⟩
    go_wp2_with fail
    go_ret
    exact ⟨by simp [vBr, h1, h2, h3], (by repeat (first | exact Below.refl _ _ | refine Below.drew ?_ | refine bpush ?_ _ | refine bput ?_ (by simp) _ | (refine bstep ?_ (by assumption))))⟩
set_option maxHeartbeats 1600000 in
theorem allBr_any (xs : List Br) (v : Value) (w : World) (hs : SliceOf encBr 5 w v xs) :
    Calls Try.prog 20 #[.func (.func 21) #[] #[], v] w fun e w' => e = .returned (.bool (xs.all vBr)) ∧ Below w.heap.size w w' := by
  obtain ⟨a, cap, rfl, hm, hc⟩ := hs
  go_enter Try.func20, Try.ntmps20
  go_wp2
  go_loopw [9, 6] (fun i _ wr => ∃ k : Nat, k ≤ xs.length ∧ i = iv k ∧ (xs.take k).all vBr = true ∧ Below w.heap.size w wr) (fun i _ _ => xs.length - (intOf i).toNat)
  case atStart => exact ⟨0, Nat.zero_le _, rfl, by simp, Below.refl _ _⟩
  case round =>
    obtain ⟨k, hk, rfl, hall, hbw⟩ := hrel
    have HA := Lib.hid hall; clear hall
    by_cases hlt : k < xs.length
    · obtain ⟨x, hx⟩ := getElem?_of_lt hlt
      obtain ⟨b, off, rfl, hj⟩ := hc k x hx
      have hcell : ∀ j u, (encBr x)[j]? = some u → wr.cell? ⟨b, off + k * 5 + j, none⟩ = some u := fun j u hu => (hbw.cell (p := ⟨b, _, none⟩) (lt_of_cell (hj j u hu))).trans (hj j u hu)
      have HX := Lib.hid hx; clear hx hj hc
      have c0 := hcell 0 _ rfl
      have c1 := hcell 1 _ rfl
      have c2 := hcell 2 _ rfl
      have c3 := hcell 3 _ rfl
      have c4 := hcell 4 _ rfl
      simp only [Nat.add_zero] at c0
      clear hcell
      cases hp : vBr x
      · have HP := Lib.hid hp; clear hp
        go_wp2_with fail
        refine (validBarrel_any x _).mono ?_
        rintro e w1 ⟨he, hb⟩
        rw [HP.out] at he; subst he
        go_wp2_with fail
        go_ret
        exact ⟨by rw [all_false_of _ HX.out HP.out]; rfl, bstep (bpush hbw _) hb⟩
      · have HP := Lib.hid hp; clear hp
        go_wp2_with fail
        refine (validBarrel_any x _).mono ?_
        rintro e w1 ⟨he, hb⟩
        rw [HP.out] at he; subst he
        go_wp2_with fail
        go_roundw
        case rel => exact ⟨k + 1, by omega, by go_num, all_take_succ _ HX.out HA.out HP.out, bstep (bpush hbw _) hb⟩
        case measure => simp [intOf]; omega
    · obtain rfl : k = xs.length := by omega
      have HT : Hid (xs.all vBr = true) := by have := HA.out; rwa [List.take_of_length_le (Nat.le_refl _)] at this
      clear hc
      go_wp2
      go_ret
      exact ⟨by rw [HT.out]; rfl, hbw⟩
theorem vBr_iff {b : Br} : vBr b = true ↔ (1 ≤ b.sa ∧ b.sa ≤ 400) ∧ (0 ≤ b.gr ∧ b.gr ≤ 10000) ∧ (0 ≤ b.off ∧ b.off ≤ 50) ∧ (0 ≤ b.tl ∧ b.tl ≤ 2000 ∧ 0 ≤ b.th ∧ b.th ≤ 2000 ∧ b.tl ≤ b.th) := by
  simp only [vBr, Bool.and_eq_true, inB_iff, okSpan_iff]
/-- How many ounces more than it says are in a barrel. -/
def brLo (b : Br) : Int := b.gr - 16 * b.sa - b.off - b.th
def brHi (b : Br) : Int := b.gr - 16 * b.sa + b.off - b.tl
set_option maxHeartbeats 1600000 in
theorem overweight_any (b : Br) (w : World) (hv : vBr b = true) :
    Calls Try.prog 22 #[.agg (encBr b).toArray] w fun e w' => e = .returned (.agg #[iv (brLo b), iv (brHi b)]) ∧ Below w.heap.size w w' := by
  have hv' := vBr_iff.1 hv
  obtain ⟨sa, gr, off, tl, th⟩ := b
  simp only [encBr, brLo, brHi] at *
  have e1 : IntKind.i64.wrap (16 * sa) = 16 * sa := IntWalk.i64_in _ ⟨by omega, by omega⟩
  have e2 : IntKind.i64.wrap (gr - 16 * sa) = gr - 16 * sa := IntWalk.i64_in _ ⟨by omega, by omega⟩
  have e3 : IntKind.i64.wrap (gr - 16 * sa - off) = gr - 16 * sa - off := IntWalk.i64_in _ ⟨by omega, by omega⟩
  have e4 : IntKind.i64.wrap (gr - 16 * sa - off - th) = gr - 16 * sa - off - th := IntWalk.i64_in _ ⟨by omega, by omega⟩
  have e5 : IntKind.i64.wrap (gr - 16 * sa + off) = gr - 16 * sa + off := IntWalk.i64_in _ ⟨by omega, by omega⟩
  have e6 : IntKind.i64.wrap (gr - 16 * sa + off - tl) = gr - 16 * sa + off - tl := IntWalk.i64_in _ ⟨by omega, by omega⟩
  clear hv hv'
  go_enter Try.func22, Try.ntmps22
  go_wp2_with fail
  exact bodyPost_ret (v := .agg #[iv (gr - 16 * sa - off - th), iv (gr - 16 * sa + off - tl)]) (by simp [results, Try.results22, go_sem]) rfl ⟨rfl, (by repeat (first | exact Below.refl _ _ | refine Below.drew ?_ | refine bpush ?_ _ | refine bput ?_ (by simp) _ | (refine bstep ?_ (by assumption))))⟩

/-- The places of which something is so, below n. -/
def brS (f : Br → Int) (L : List Br) (n : Nat) : List Int := ((List.range n).filter fun i => decide (f (L.getD i ⟨0, 0, 0, 0, 0⟩) < 0)).map fun i : Nat => (i : Int)
theorem brS_succ (f : Br → Int) {L : List Br} {n : Nat} {b : Br} (h : L[n]? = some b) : brS f L (n + 1) = brS f L n ++ if f b < 0 then [(n : Int)] else [] := by
  have hb : L.getD n ⟨0, 0, 0, 0, 0⟩ = b := by rw [List.getD_eq_getElem?_getD, h]; rfl
  unfold brS
  rw [List.range_succ, List.filter_append, List.map_append]
  congr 1
  by_cases hf : f b < 0
  · rw [if_pos hf, List.filter_cons_of_pos (by rw [hb]; simpa using hf)]; rfl
  · rw [if_neg hf, List.filter_cons_of_neg (by rw [hb]; simpa using hf)]; rfl
theorem brS_len (f : Br → Int) (L : List Br) (n : Nat) : (brS f L n).length ≤ n := by
  unfold brS
  rw [List.length_map]
  exact Nat.le_trans (List.length_filter_le _ _) (by simp)
def ShortRes (L : List Br) (w : World) (e : Ending) (w' : World) : Prop :=
  ∃ v2 v3, e = .returned (.tuple #[v2, v3, iv 0]) ∧ Owns encI 1 3 w.heap.size w' v2 (brS brHi L L.length) ∧ Owns encI 1 3 w.heap.size w' v3 (brS brLo L L.length) ∧ Below w.heap.size w w'
abbrev TwoH (A B : List Int) (w : World) (lv pv : Value) (wr : World) : Prop := TwoL encI 1 3 encI 1 3 A B w lv pv wr
theorem keepH {wa w2 w4 : World} {base e : Nat} {v : Value} {xs : List Int} {o : Obj} (ho : Owns encI 1 e base w2 v xs) (hg : wa.grownBy w4 v.ownBlock) (hc : wa.heap[w2.heap.size]? = some o) : w4.heap[w2.heap.size]? = some o := by
  refine (hg.block _ (Array.getElem?_eq_some_iff.1 hc).1 (fun e2 => ?_)).trans hc
  have := (World.ownsRow.lt ho _ e2.symm).2
  omega
set_option maxRecDepth 20000 in
set_option maxHeartbeats 6400000 in
theorem Short_good (L : List Br) (la : Option Addr) (lc : Nat) (w : World) (hv : L.all vBr = true) (hl : L.length ≤ 12) (hs : SliceOf encBr 5 w (.slice la L.length lc) L) :
    Calls Try.prog 9 #[.slice la L.length lc] w (ShortRes L w) := by
  obtain ⟨i0, hi, hz0, hz1, hz2⟩ := info_parts info3
  have HI0 := Lib.hid hi; have HZ0 := Lib.hid hz0; have HZ1 := Lib.hid hz1; have HZ2 := Lib.hid hz2
  have HS := Lib.hid hs
  have HAL := Lib.hid (fun W (h : SliceOf encBr 5 W (.slice la L.length lc) L) => allBr_any L _ W h)
  rw [hv] at HAL
  have HOV := Lib.hid (fun (k : Nat) (b : Br) (hk : L[k]? = some b) (W : World) => overweight_any b W (List.all_eq_true.1 hv b (List.mem_of_getElem? hk)))
  have n1 : ¬ (12 < (L.length : Int)) := by omega
  clear hi hz0 hz1 hz2 hs hv
  go_enter Try.func9, Try.ntmps9
  go_wp2_with fail
  refine (HAL.out _ HS.out).mono ?_
  rintro e w1 ⟨rfl, hb1⟩
  have HB1 := Lib.hid hb1; clear hb1
  go_wp2_with fail
  go_loopw [18, 2, 3, 5, 6, 7] (fun i p q _ _ _ wr => ∃ k : Nat, k ≤ L.length ∧ i = iv k ∧ Hid (TwoH (brS brHi L k) (brS brLo L k) w p q wr)) (fun i _ _ _ _ _ _ => L.length - (intOf i).toNat)
  case atStart => exact ⟨0, Nat.zero_le _, rfl, HB1.out, Owns.nil _ _ _ _ _, Owns.nil _ _ _ _ _, by simp [Value.ownBlock]⟩
  case round =>
    obtain ⟨k, hk, rfl, HT⟩ := hrel
    by_cases hlt : k < L.length
    · obtain ⟨b, hb⟩ := getElem?_of_lt hlt
      have HOB := Lib.hid (HOV.out k b hb)
      have HS1 := Lib.hid (brS_succ brHi hb); have HS2 := Lib.hid (brS_succ brLo hb)
      have hl1 := brS_len brHi L k; have hl2 := brS_len brLo L k
      obtain ⟨ab, ao, rfl, hj⟩ : ∃ ab ao, la = some ⟨ab, ao, none⟩ ∧ ∀ j u, (encBr b)[j]? = some u → wr.cell? ⟨ab, ao + k * 5 + j, none⟩ = some u := by
        obtain ⟨a', c', hv, -, hcs⟩ := HS.out.below HT.out.b
        obtain ⟨ab, ao, ha, hj⟩ := hcs k b hb
        simp only [Value.slice.injEq] at hv
        exact ⟨ab, ao, hv.1.trans ha, hj⟩
      have c0 := hj 0 _ rfl
      have c1 := hj 1 _ rfl
      have c2 := hj 2 _ rfl
      have c3 := hj 3 _ rfl
      have c4 := hj 4 _ rfl
      simp only [Nat.add_zero] at c0
      have i0 : (0 : Int) ≤ (k : Int) := by omega
      have i1 : (k : Int) < (L.length : Int) := by omega
      have HBB2 : Hid ((brS brHi L k).length + 1 ≤ maxLen ∧ ((brS brHi L k).length + 1) * 8 ≤ 140737488355328) := by simp only [Hid]; unfold maxLen; omega
      have HBB3 : Hid ((brS brLo L k).length + 1 ≤ maxLen ∧ ((brS brLo L k).length + 1) * 8 ≤ 140737488355328) := by simp only [Hid]; unfold maxLen; omega
      clear hb hj hl1 hl2 HOV
      generalize brLo b = bl at *
      generalize brHi b = bh at *
      obtain ⟨sa, gr, off, tl, th⟩ := b
      simp only [encBr] at HOB
      go_wp2_with fail
      refine (HOB.out _).mono ?_
      rintro e w2 ⟨rfl, hb2⟩
      have HT2 := Lib.hid (HT.out.below (bstep (bpush (Below.refl _ _) (.cells #[iv sa, iv gr, iv off, iv tl, iv th] 43)) hb2))
      clear hb2 c0 c1 c2 c3 c4
      obtain ⟨w3, hw3⟩ : ∃ W : World, (w2.alloc (.cells #[iv bl, iv bh] 40)) = W := ⟨_, rfl⟩
      have HC : Hid (w3.heap[w2.heap.size]? = some (.cells #[iv bl, iv bh] 40 (0, 0))) := by rw [← hw3]; exact heap_new _ _ _
      have HT3 : Hid (TwoH (brS brHi L k) (brS brLo L k) w u2 u3 w3) := by rw [← hw3]; exact HT2.out.below (bpush (Below.refl _ _) _)
      have d1 : w3.cell? ⟨w2.heap.size, 1, none⟩ = some (iv bh) := by rw [cell_of_row _ _ _ _ _ _ HC.out]; rfl
      go_upto_if 27 with (fail)
      clear hw3 d1
      go_cut [2] (fun p wx => Hid (TwoH (brS brHi L (k + 1)) (brS brLo L k) w p u3 wx) ∧ Hid (wx.heap[w2.heap.size]? = some (.cells #[iv bl, iv bh] 40 (0, 0))))
      case first =>
        by_cases hbh : bh < 0
        · have HE := HS1.out
          rw [if_pos hbh] at HE
          have HE1 := Lib.hid HE
          have HT4 := Lib.hid (HT3.out.below (bpush (Below.refl _ _) (.cells #[iv k] 3)))
          have HC4 := Lib.hid ((bpush (Below.refl w3.heap.size w3) (.cells #[iv k] 3)).block _ (Array.getElem?_eq_some_iff.1 HC.out).1 |>.trans HC.out)
          clear HE
          go_wp2_with (at_builtin; refine L_append2 (k : Int) rfl _ _ 44 rfl Try.underlying44 HI0.out HZ0.out HZ1.out HZ2.out rfl Nat.one_pos encI_len (encI_one _) rfl rfl HT4.out.o1 (encI_cell ?_) HBB2.out HT4.out.b.size ?_; go_simp; intro g4 c4 w4 hown4 hbe4 hg4 hl4)
          go_meet
          rw [HE1.out]
          exact ⟨HT4.out.more hown4 hbe4 hg4 hl4, keepH HT2.out.o1 hg4 HC4.out⟩
        · have HE := HS1.out
          rw [if_neg hbh, List.append_nil] at HE
          have HE1 := Lib.hid HE
          clear HE
          go_wp2_with fail
          go_meet
          rw [HE1.out]
          exact ⟨HT3.out, HC.out⟩
      case rest =>
        obtain ⟨HT5, HC5⟩ := hcut
        have d0 : wc.cell? ⟨w2.heap.size, 0, none⟩ = some (iv bl) := by rw [cell_of_row _ _ _ _ _ _ HC5.out]; rfl
        go_upto_if 34 with (fail)
        clear d0
        by_cases hbl : bl < 0
        · have HE := HS2.out
          rw [if_pos hbl] at HE
          have HE1 := Lib.hid HE
          have HT6 := Lib.hid (HT5.out.below (bpush (Below.refl _ _) (.cells #[iv k] 3)))
          clear HE
          go_wp2_with (at_builtin; refine L_append2 (k : Int) rfl _ _ 44 rfl Try.underlying44 HI0.out HZ0.out HZ1.out HZ2.out rfl Nat.one_pos encI_len (encI_one _) rfl rfl HT6.out.o2 (encI_cell ?_) HBB3.out HT6.out.b.size ?_; go_simp; intro g4 c4 w4 hown4 hbe4 hg4 hl4; have HT7 := Lib.hid (HT6.out.swap.more hown4 hbe4 hg4 hl4).swap; clear hown4 hbe4 hg4 hl4)
          go_roundw
          case rel => exact ⟨k + 1, by omega, by go_num, by rw [HE1.out]; exact HT7.out⟩
          case measure => simp [intOf]; omega
        · have HE := HS2.out
          rw [if_neg hbl, List.append_nil] at HE
          have HE1 := Lib.hid HE
          clear HE
          go_wp2_with fail
          go_roundw
          case rel => exact ⟨k + 1, by omega, by go_num, by rw [HE1.out]; exact HT5.out⟩
          case measure => simp [intOf]; omega
    · obtain rfl : k = L.length := by omega
      go_wp2_with fail
      go_ret3
      exact ⟨_, _, rfl, HT.out.o1, HT.out.o2, HT.out.b⟩
end Go.Proofs.Ytfpbfhjfhfmanab
