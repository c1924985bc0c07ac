/- Package theft: cloths and pieces; Check. -/
import Derived.Test.YtgoncgbbgodliadNf
namespace Go.Proofs.Ytgoncgbbgodliad
open Go Go.RowKit Go.Shelf
attribute [local go_sem] Oper.semAt_some
attribute [local go_sem ↓] Go.wp_at_zero Go.wp_at_succ

/-- A cloth: long, rate, threads, mark. -/
structure Tc where
  (ll lh rl rh tl th : Int)
  mark : ByteArray
/-- A piece. -/
structure Tp where
  (lo off th wl wh : Int)
  (mark le ri : ByteArray)
def encTc (c : Tc) : List Value := [iv c.ll, iv c.lh, iv c.rl, iv c.rh, iv c.tl, iv c.th, .string c.mark]
def encTp (p : Tp) : List Value := [iv p.lo, iv p.off, iv p.th, iv p.wl, iv p.wh, .string p.mark, .string p.le, .string p.ri]
theorem encTc_len (c : Tc) : (encTc c).length = 7 := rfl
theorem encTp_len (c : Tp) : (encTp c).length = 8 := rfl
def AscC (c : Tc) : Prop := Asc c.mark
structure AscP (p : Tp) : Prop where
  mark : Asc p.mark
  le : Asc p.le
  ri : Asc p.ri
def vTc (c : Tc) : Bool := okSpan c.ll c.lh 1 600 && (vSpan c.rl c.rh 0 100 20 && (okSpan c.tl c.th 1 99 && onlyB c.mark 1 8 97 122 []))
def vEdge (s : ByteArray) : Bool := onlyB s 0 6 48 57 [63]
def vTp (p : Tp) : Bool := inB 1 600 p.lo && (inB 0 20 p.off && (inB 1 99 p.th && (okSpan p.wl p.wh 0 5 && (onlyB p.mark 0 8 97 122 [63] && [p.le, p.ri].all vEdge))))
theorem rnil (w : World) : SliceOf encR 1 w (.slice none 0 0) [] := SliceOf.nil _ _ _ _ _
theorem rone {w : World} {b cap : Nat} {x : Int} (h : w.cell? ⟨b, 0, none⟩ = some (rv x)) : SliceOf encR 1 w (.slice (some ⟨b, 0, none⟩) 1 cap) [x] := by
  refine ⟨_, cap, rfl, by simp, fun i y hy => ⟨b, 0, rfl, fun j u hu => ?_⟩⟩
  rcases i with _ | i
  · simp at hy; subst hy
    rcases j with _ | j
    · simp [encR] at hu; subst hu; simpa using h
    · simp [encR] at hu
  · simp at hy
set_option maxRecDepth 20000 in
set_option maxHeartbeats 6400000 in
theorem validTc_any (c : Tc) (w : World) (ha : AscC c) :
    Calls Try.prog 26 #[.agg (encTc c).toArray] w fun e w' => e = .returned (.bool (vTc c)) ∧ Below w.heap.size w w' := by
  obtain ⟨ll, lh, rl, rh, tl, th, mk⟩ := c
  have HM := Lib.hid (fun W : World => only_any mk 1 8 97 122 [] (.slice none 0 0) W ha (rnil W))
  have HV : Hid (vTc ⟨ll, lh, rl, rh, tl, th, mk⟩ = (okSpan ll lh 1 600 && (vSpan rl rh 0 100 20 && (okSpan tl th 1 99 && onlyB mk 1 8 97 122 [])))) := rfl
  have H1 := Lib.hid (fun W : World => okSpan_any ll lh 1 600 W)
  have H2 := Lib.hid (fun W : World => validSpan_any rl rh 0 100 20 W (by omega) (by omega))
  have H3 := Lib.hid (fun W : World => okSpan_any tl th 1 99 W)
  obtain ⟨w0, hw0⟩ : ∃ W : World, w.alloc (.cells #[iv ll, iv lh, iv rl, iv rh, iv tl, iv th, .string mk] 44) = W := ⟨_, rfl⟩
  have HB0 : Hid (Below w.heap.size w w0) := by rw [← hw0]; exact bpush (Below.refl _ _) _
  have hr0 : w0.heap[w.heap.size]? = some (.cells #[iv ll, iv lh, iv rl, iv rh, iv tl, iv th, .string mk] 44 (0, 0)) := by rw [← hw0]; exact heap_new _ _ _
  have c0 : w0.cell? ⟨w.heap.size, 0, none⟩ = some (iv ll) := by rw [cell_of_row _ _ _ _ _ _ hr0]; rfl
  have c1 : w0.cell? ⟨w.heap.size, 1, none⟩ = some (iv lh) := by rw [cell_of_row _ _ _ _ _ _ hr0]; rfl
  have c2 : w0.cell? ⟨w.heap.size, 2, none⟩ = some (iv rl) := by rw [cell_of_row _ _ _ _ _ _ hr0]; rfl
  have c3 : w0.cell? ⟨w.heap.size, 3, none⟩ = some (iv rh) := by rw [cell_of_row _ _ _ _ _ _ hr0]; rfl
  have c4 : w0.cell? ⟨w.heap.size, 4, none⟩ = some (iv tl) := by rw [cell_of_row _ _ _ _ _ _ hr0]; rfl
  have c5 : w0.cell? ⟨w.heap.size, 5, none⟩ = some (iv th) := by rw [cell_of_row _ _ _ _ _ _ hr0]; rfl
  have c6 : w0.cell? ⟨w.heap.size, 6, none⟩ = some (.string mk) := by rw [cell_of_row _ _ _ _ _ _ hr0]; rfl
  clear hr0
  simp only [encTc]
  generalize okSpan ll lh 1 600 = v1 at *
  generalize vSpan rl rh 0 100 20 = v2 at *
  generalize okSpan tl th 1 99 = v3 at *
  generalize onlyB mk 1 8 97 122 [] = v4 at *
  go_enter Try.func26, Try.ntmps26
  go_wp2_with fail
  clear hw0
  refine (H1.out _).mono ?_
  rintro e w1 ⟨rfl, hb1⟩
  have c2 := kcellN hb1 c2; have c3 := kcellN hb1 c3; have c4 := kcellN hb1 c4; have c5 := kcellN hb1 c5; have c6 := kcellN hb1 c6
  have HB1 := Lib.hid (bstep HB0.out hb1)
  clear hb1 c0 c1
  cases v1
  · go_wp2_with fail
    go_ret
    exact ⟨by rw [HV.out]; rfl, HB1.out⟩
  go_wp2_with fail
  refine (H2.out _).mono ?_
  rintro e w2 ⟨rfl, hb1⟩
  have c4 := kcellN hb1 c4; have c5 := kcellN hb1 c5; have c6 := kcellN hb1 c6
  have HB2 := Lib.hid (bstep HB1.out hb1)
  clear hb1 c2 c3
  cases v2
  · go_wp2_with fail
    go_ret
    exact ⟨by rw [HV.out]; rfl, HB2.out⟩
  go_wp2_with fail
  refine (H3.out _).mono ?_
  rintro e w3 ⟨rfl, hb1⟩
  have c6 := kcellN hb1 c6
  have HB3 := Lib.hid (bstep HB2.out hb1)
  clear hb1 c4 c5
  cases v3
  · go_wp2_with fail
    go_ret
    exact ⟨by rw [HV.out]; rfl, HB3.out⟩
  go_wp2_with fail
  refine (HM.out _).mono ?_
  rintro e w4 ⟨rfl, hb1⟩
  have HB4 := Lib.hid (bstep HB3.out hb1)
  clear hb1 c6
  go_wp2_with fail
  go_ret
  exact ⟨by rw [HV.out]; rfl, HB4.out⟩

set_option maxRecDepth 20000 in
set_option maxHeartbeats 3200000 in
theorem validEdge_any (s : ByteArray) (w : World) (hs : Asc s) :
    Calls Try.prog 46 #[.string s] w fun e w' => e = .returned (.bool (vEdge s)) ∧ Below w.heap.size w w' := by
  have HM := Lib.hid (fun (W : World) (v : Value) (h : SliceOf encR 1 W v [63]) => only_any s 0 6 48 57 [63] v W hs h)
  have HV : Hid (vEdge s = onlyB s 0 6 48 57 [63]) := rfl
  clear hs
  go_enter Try.func46, Try.ntmps46
  go_wp2_with fail
  refine (HM.out _ _ (rone (by go_simp))).mono ?_
  rintro e w1 ⟨rfl, hb1⟩
  go_wp2_with fail
  go_ret
  exact ⟨by rw [HV.out]; rfl, bstep (by repeat (first | exact Below.refl _ _ | refine Below.drew ?_ | refine bpush ?_ _ | refine bput ?_ (by simp) _ | (refine bstep ?_ (by assumption)))) hb1⟩
def encStr (s : ByteArray) : List Value := [.string s]
theorem strs2 {w : World} {b cap : Nat} {x y : ByteArray} (h : w.cell? ⟨b, 0, none⟩ = some (.string x)) (h' : w.cell? ⟨b, 1, none⟩ = some (.string y)) : SliceOf encStr 1 w (.slice (some ⟨b, 0, none⟩) 2 cap) [x, y] := by
  refine ⟨_, cap, rfl, by simp, fun i z hz => ⟨b, 0, rfl, fun j u hu => ?_⟩⟩
  rcases j with _ | j
  · simp [encStr] at hu; subst hu
    rcases i with _ | _ | i
    · simp at hz; subst hz; simpa using h
    · simp at hz; subst hz; simpa using h'
    · simp at hz
  · simp [encStr] at hu
set_option maxRecDepth 20000 in
set_option maxHeartbeats 3200000 in
theorem allStr_any (xs : List ByteArray) (la : Option Addr) (lc : Nat) (w : World) (hf : ∀ x ∈ xs, ∀ W, Calls Try.prog 46 #[.string x] W fun e w' => e = .returned (.bool (vEdge x)) ∧ Below W.heap.size W w') (hs : SliceOf encStr 1 w (.slice la xs.length lc) xs) :
    Calls Try.prog 45 #[.func (.func 46) #[] #[], .slice la xs.length lc] w fun e w' => e = .returned (.bool (xs.all vEdge)) ∧ Below w.heap.size w w' := by
  have HF := Lib.hid hf; have HS := Lib.hid hs
  have hlen := hs.len
  clear hf hs
  go_enter Try.func45, Try.ntmps45
  go_wp2_with fail
  go_loopw [9] (fun i wr => ∃ k : Nat, k ≤ xs.length ∧ i = iv k ∧ Hid ((xs.take k).all vEdge = true) ∧ Below w.heap.size w wr) (fun i _ => xs.length - (intOf i).toNat)
  case atStart => exact ⟨0, Nat.zero_le _, rfl, by simp [Hid], Below.refl _ _⟩
  case round =>
    obtain ⟨k, hk, rfl, HA, hbw⟩ := hrel
    have HB := Lib.hid hbw
    clear hbw
    by_cases hlt : k < xs.length
    · have hs1 := HS.out.below HB.out
      obtain ⟨b, off, rfl⟩ := slice_addrN hs1 (by omega)
      obtain ⟨x, hx⟩ := getElem?_of_lt hlt
      have hcell := slice_cellN hs1 hx
      have c0 := hcell 0 _ rfl
      simp only [Nat.add_zero, Nat.mul_one] at c0
      have HC := Lib.hid (HF.out x (List.mem_of_getElem? hx))
      have HX := Lib.hid hx
      clear hs1 hx hcell
      obtain ⟨vp, hvp⟩ : ∃ vp, vp = vEdge x := ⟨_, rfl⟩
      have HP := Lib.hid hvp
      rw [← hvp] at HC
      clear hvp
      skip
      cases vp
      · go_wp2_with fail
        refine (HC.out _).mono ?_
        rintro e w1 ⟨rfl, hb1⟩
        have HB1 := Lib.hid (bstep (HB.out.trans (by first | exact Below.refl _ _ | exact (Below.refl _ _).alloc HB.out.size _)) hb1)
        clear hb1
        go_wp2_with fail
        go_ret
        exact ⟨by rw [all_false_of _ HX.out HP.out.symm]; rfl, HB1.out⟩
      · go_wp2_with fail
        refine (HC.out _).mono ?_
        rintro e w1 ⟨rfl, hb1⟩
        have HB1 := Lib.hid (bstep (HB.out.trans (by first | exact Below.refl _ _ | exact (Below.refl _ _).alloc HB.out.size _)) hb1)
        clear hb1
        go_wp2_with fail
        go_roundw
        case rel => exact ⟨k + 1, by omega, by go_num, all_take_succ _ HX.out HA.out HP.out.symm, HB1.out⟩
        case measure => simp [intOf]; omega
    · obtain rfl : k = xs.length := by omega
      have HT : Hid (xs.all vEdge = true) := by have := HA.out; rwa [List.take_length] at this
      go_wp2_with fail
      go_ret
      exact ⟨by rw [HT.out]; rfl, HB.out⟩
set_option maxRecDepth 20000 in
set_option maxHeartbeats 3200000 in
theorem allTc_any (xs : List Tc) (la : Option Addr) (lc : Nat) (w : World) (hf : ∀ x ∈ xs, ∀ W, Calls Try.prog 26 #[.agg (encTc x).toArray] W fun e w' => e = .returned (.bool (vTc x)) ∧ Below W.heap.size W w') (hs : SliceOf encTc 7 w (.slice la xs.length lc) xs) :
    Calls Try.prog 25 #[.func (.func 26) #[] #[], .slice la xs.length lc] w fun e w' => e = .returned (.bool (xs.all vTc)) ∧ Below w.heap.size w w' := by
  have HF := Lib.hid hf; have HS := Lib.hid hs
  have hlen := hs.len
  clear hf hs
  go_enter Try.func25, Try.ntmps25
  go_wp2_with fail
  go_loopw [9] (fun i wr => ∃ k : Nat, k ≤ xs.length ∧ i = iv k ∧ Hid ((xs.take k).all vTc = true) ∧ Below w.heap.size w wr) (fun i _ => xs.length - (intOf i).toNat)
  case atStart => exact ⟨0, Nat.zero_le _, rfl, by simp [Hid], Below.refl _ _⟩
  case round =>
    obtain ⟨k, hk, rfl, HA, hbw⟩ := hrel
    have HB := Lib.hid hbw
    clear hbw
    by_cases hlt : k < xs.length
    · have hs1 := HS.out.below HB.out
      obtain ⟨b, off, rfl⟩ := slice_addrN hs1 (by omega)
      obtain ⟨x, hx⟩ := getElem?_of_lt hlt
      have hcell := slice_cellN hs1 hx
      have c0 := hcell 0 _ rfl
      have c1 := hcell 1 _ rfl
      have c2 := hcell 2 _ rfl
      have c3 := hcell 3 _ rfl
      have c4 := hcell 4 _ rfl
      have c5 := hcell 5 _ rfl
      have c6 := hcell 6 _ rfl
      simp only [Nat.add_zero] at c0
      have HC := Lib.hid (HF.out x (List.mem_of_getElem? hx))
      have HX := Lib.hid hx
      clear hs1 hx hcell
      obtain ⟨vp, hvp⟩ : ∃ vp, vp = vTc x := ⟨_, rfl⟩
      have HP := Lib.hid hvp
      rw [← hvp] at HC
      clear hvp
      obtain ⟨ll, lh, rl, rh, tl, th, mk⟩ := x
      simp only [encTc] at *
      cases vp
      · go_wp2_with fail
        refine (HC.out _).mono ?_
        rintro e w1 ⟨rfl, hb1⟩
        have HB1 := Lib.hid (bstep (HB.out.trans (by first | exact Below.refl _ _ | exact (Below.refl _ _).alloc HB.out.size _)) hb1)
        clear hb1
        go_wp2_with fail
        go_ret
        exact ⟨by rw [all_false_of _ HX.out HP.out.symm]; rfl, HB1.out⟩
      · go_wp2_with fail
        refine (HC.out _).mono ?_
        rintro e w1 ⟨rfl, hb1⟩
        have HB1 := Lib.hid (bstep (HB.out.trans (by first | exact Below.refl _ _ | exact (Below.refl _ _).alloc HB.out.size _)) hb1)
        clear hb1
        go_wp2_with fail
        go_roundw
        case rel => exact ⟨k + 1, by omega, by go_num, all_take_succ _ HX.out HA.out HP.out.symm, HB1.out⟩
        case measure => simp [intOf]; omega
    · obtain rfl : k = xs.length := by omega
      have HT : Hid (xs.all vTc = true) := by have := HA.out; rwa [List.take_length] at this
      go_wp2_with fail
      go_ret
      exact ⟨by rw [HT.out]; rfl, HB.out⟩
set_option maxRecDepth 20000 in
set_option maxHeartbeats 3200000 in
theorem allTp_any (xs : List Tp) (la : Option Addr) (lc : Nat) (w : World) (hf : ∀ x ∈ xs, ∀ W, Calls Try.prog 28 #[.agg (encTp x).toArray] W fun e w' => e = .returned (.bool (vTp x)) ∧ Below W.heap.size W w') (hs : SliceOf encTp 8 w (.slice la xs.length lc) xs) :
    Calls Try.prog 27 #[.func (.func 28) #[] #[], .slice la xs.length lc] w fun e w' => e = .returned (.bool (xs.all vTp)) ∧ Below w.heap.size w w' := by
  have HF := Lib.hid hf; have HS := Lib.hid hs
  have hlen := hs.len
  clear hf hs
  go_enter Try.func27, Try.ntmps27
  go_wp2_with fail
  go_loopw [9] (fun i wr => ∃ k : Nat, k ≤ xs.length ∧ i = iv k ∧ Hid ((xs.take k).all vTp = true) ∧ Below w.heap.size w wr) (fun i _ => xs.length - (intOf i).toNat)
  case atStart => exact ⟨0, Nat.zero_le _, rfl, by simp [Hid], Below.refl _ _⟩
  case round =>
    obtain ⟨k, hk, rfl, HA, hbw⟩ := hrel
    have HB := Lib.hid hbw
    clear hbw
    by_cases hlt : k < xs.length
    · have hs1 := HS.out.below HB.out
      obtain ⟨b, off, rfl⟩ := slice_addrN hs1 (by omega)
      obtain ⟨x, hx⟩ := getElem?_of_lt hlt
      have hcell := slice_cellN hs1 hx
      have c0 := hcell 0 _ rfl
      have c1 := hcell 1 _ rfl
      have c2 := hcell 2 _ rfl
      have c3 := hcell 3 _ rfl
      have c4 := hcell 4 _ rfl
      have c5 := hcell 5 _ rfl
      have c6 := hcell 6 _ rfl
      have c7 := hcell 7 _ rfl
      simp only [Nat.add_zero] at c0
      have HC := Lib.hid (HF.out x (List.mem_of_getElem? hx))
      have HX := Lib.hid hx
      clear hs1 hx hcell
      obtain ⟨vp, hvp⟩ : ∃ vp, vp = vTp x := ⟨_, rfl⟩
      have HP := Lib.hid hvp
      rw [← hvp] at HC
      clear hvp
      obtain ⟨lo, off, th, wl, wh, mk, le, ri⟩ := x
      simp only [encTp] at *
      cases vp
      · go_wp2_with fail
        refine (HC.out _).mono ?_
        rintro e w1 ⟨rfl, hb1⟩
        have HB1 := Lib.hid (bstep (HB.out.trans (by first | exact Below.refl _ _ | exact (Below.refl _ _).alloc HB.out.size _)) hb1)
        clear hb1
        go_wp2_with fail
        go_ret
        exact ⟨by rw [all_false_of _ HX.out HP.out.symm]; rfl, HB1.out⟩
      · go_wp2_with fail
        refine (HC.out _).mono ?_
        rintro e w1 ⟨rfl, hb1⟩
        have HB1 := Lib.hid (bstep (HB.out.trans (by first | exact Below.refl _ _ | exact (Below.refl _ _).alloc HB.out.size _)) hb1)
        clear hb1
        go_wp2_with fail
        go_roundw
        case rel => exact ⟨k + 1, by omega, by go_num, all_take_succ _ HX.out HA.out HP.out.symm, HB1.out⟩
        case measure => simp [intOf]; omega
    · obtain rfl : k = xs.length := by omega
      have HT : Hid (xs.all vTp = true) := by have := HA.out; rwa [List.take_length] at this
      go_wp2_with fail
      go_ret
      exact ⟨by rw [HT.out]; rfl, HB.out⟩
set_option maxRecDepth 20000 in
set_option maxHeartbeats 6400000 in
theorem validTp_any (p : Tp) (w : World) (ha : AscP p) :
    Calls Try.prog 28 #[.agg (encTp p).toArray] w fun e w' => e = .returned (.bool (vTp p)) ∧ Below w.heap.size w w' := by
  obtain ⟨lo, off, th, wl, wh, mk, le, ri⟩ := p
  obtain ⟨a1, a2, a3⟩ := ha
  have HM := Lib.hid (fun (W : World) (v : Value) (h : SliceOf encR 1 W v [63]) => only_any mk 0 8 97 122 [63] v W a1 h)
  have HE : Hid (∀ (W : World) (b : Nat), SliceOf encStr 1 W (.slice (some ⟨b, 0, none⟩) 2 2) [le, ri] → Calls Try.prog 45 #[.func (.func 46) #[] #[], .slice (some ⟨b, 0, none⟩) 2 2] W fun e w' => e = .returned (.bool ([le, ri].all vEdge)) ∧ Below W.heap.size W w') := fun W b h => allStr_any [le, ri] (some ⟨b, 0, none⟩) 2 W (fun x hx W1 => validEdge_any x W1 (by
    simp only [List.mem_cons, List.not_mem_nil, or_false] at hx
    rcases hx with rfl | rfl
    · exact a2
    · exact a3)) h
  have HV : Hid (vTp ⟨lo, off, th, wl, wh, mk, le, ri⟩ = (inB 1 600 lo && (inB 0 20 off && (inB 1 99 th && (okSpan wl wh 0 5 && (onlyB mk 0 8 97 122 [63] && [le, ri].all vEdge)))))) := rfl
  have H4 := Lib.hid (fun W : World => okSpan_any wl wh 0 5 W)
  clear a1 a2 a3
  obtain ⟨w0, hw0⟩ : ∃ W : World, w.alloc (.cells #[iv lo, iv off, iv th, iv wl, iv wh, .string mk, .string le, .string ri] 39) = W := ⟨_, rfl⟩
  have HB0 : Hid (Below w.heap.size w w0) := by rw [← hw0]; exact bpush (Below.refl _ _) _
  have hr0 : w0.heap[w.heap.size]? = some (.cells #[iv lo, iv off, iv th, iv wl, iv wh, .string mk, .string le, .string ri] 39 (0, 0)) := by rw [← hw0]; exact heap_new _ _ _
  have c0 : w0.cell? ⟨w.heap.size, 0, none⟩ = some (iv lo) := by rw [cell_of_row _ _ _ _ _ _ hr0]; rfl
  have c1 : w0.cell? ⟨w.heap.size, 1, none⟩ = some (iv off) := by rw [cell_of_row _ _ _ _ _ _ hr0]; rfl
  have c2 : w0.cell? ⟨w.heap.size, 2, none⟩ = some (iv th) := by rw [cell_of_row _ _ _ _ _ _ hr0]; rfl
  have c3 : w0.cell? ⟨w.heap.size, 3, none⟩ = some (iv wl) := by rw [cell_of_row _ _ _ _ _ _ hr0]; rfl
  have c4 : w0.cell? ⟨w.heap.size, 4, none⟩ = some (iv wh) := by rw [cell_of_row _ _ _ _ _ _ hr0]; rfl
  have c5 : w0.cell? ⟨w.heap.size, 5, none⟩ = some (.string mk) := by rw [cell_of_row _ _ _ _ _ _ hr0]; rfl
  have c6 : w0.cell? ⟨w.heap.size, 6, none⟩ = some (.string le) := by rw [cell_of_row _ _ _ _ _ _ hr0]; rfl
  have c7 : w0.cell? ⟨w.heap.size, 7, none⟩ = some (.string ri) := by rw [cell_of_row _ _ _ _ _ _ hr0]; rfl
  have hz0 : w.heap.size < w0.heap.size := (Array.getElem?_eq_some_iff.1 hr0).1
  have hz1 : w.heap.size < w0.heap.size + 1 := by omega
  have hz2 : w.heap.size < w0.heap.size + 1 + 1 := by omega
  clear hr0
  simp only [encTp]
  have HI1 := Lib.hid (fun (W : World) (b c : Nat) (h : W.cell? ⟨b, 0, none⟩ = some (iv lo)) => within1 (b := b) (off := 0) (cap := c) (w := W) 1 600 lo h)
  have HI2 := Lib.hid (fun (W : World) (b c : Nat) (h : W.cell? ⟨b, 0, none⟩ = some (iv off)) => within1 (b := b) (off := 0) (cap := c) (w := W) 0 20 off h)
  have HI3 := Lib.hid (fun (W : World) (b c : Nat) (h : W.cell? ⟨b, 0, none⟩ = some (iv th)) => within1 (b := b) (off := 0) (cap := c) (w := W) 1 99 th h)
  generalize inB 1 600 lo = v1 at *
  generalize inB 0 20 off = v2 at *
  generalize inB 1 99 th = v3 at *
  generalize okSpan wl wh 0 5 = v4 at *
  generalize onlyB mk 0 8 97 122 [63] = v5 at *
  generalize [le, ri].all vEdge = v6 at *
  go_enter Try.func28, Try.ntmps28
  go_wp2_with fail
  clear hw0
  refine (HI1.out _ _ _ (by go_simp)).mono ?_
  rintro e w1 ⟨rfl, rfl⟩
  cases v1
  · go_wp2_with fail
    go_ret
    exact ⟨by rw [HV.out]; rfl, bstep HB0.out (by repeat (first | exact Below.refl _ _ | refine Below.drew ?_ | refine bpush ?_ _ | refine bput ?_ (by simp) _ | (refine bstep ?_ (by assumption))))⟩
  go_wp2_with fail
  refine (HI2.out _ _ _ (by go_simp)).mono ?_
  rintro e w2 ⟨rfl, rfl⟩
  cases v2
  · go_wp2_with fail
    go_ret
    exact ⟨by rw [HV.out]; rfl, bstep HB0.out (by repeat (first | exact Below.refl _ _ | refine Below.drew ?_ | refine bpush ?_ _ | refine bput ?_ (by simp) _ | (refine bstep ?_ (by assumption))))⟩
  go_wp2_with fail
  refine (HI3.out _ _ _ (by go_simp)).mono ?_
  rintro e w3 ⟨rfl, rfl⟩
  cases v3
  · go_wp2_with fail
    go_ret
    exact ⟨by rw [HV.out]; rfl, bstep HB0.out (by repeat (first | exact Below.refl _ _ | refine Below.drew ?_ | refine bpush ?_ _ | refine bput ?_ (by simp) _ | (refine bstep ?_ (by assumption))))⟩
  go_wp2_with fail
  refine (H4.out _).mono ?_
  rintro e w4 ⟨rfl, hb1⟩
  have HB4 := Lib.hid (show Below w0.heap.size w0 w4 from bstep (by repeat (first | exact Below.refl _ _ | refine Below.drew ?_ | refine bpush ?_ _ | refine bput ?_ (by simp) _ | (refine bstep ?_ (by assumption)))) hb1)
  clear hb1
  have c5 := kcellN HB4.out c5; have c6 := kcellN HB4.out c6; have c7 := kcellN HB4.out c7
  clear c0 c1 c2 c3 c4
  cases v4
  · go_wp2_with fail
    go_ret
    exact ⟨by rw [HV.out]; rfl, bstep HB0.out HB4.out⟩
  go_wp2_with fail
  refine (HM.out _ _ (rone (by go_simp))).mono ?_
  rintro e w5 ⟨rfl, hb1⟩
  have HB5 := Lib.hid (show Below w4.heap.size w4 w5 from bstep (by repeat (first | exact Below.refl _ _ | refine Below.drew ?_ | refine bpush ?_ _ | refine bput ?_ (by simp) _ | (refine bstep ?_ (by assumption)))) hb1)
  have hz5 : w.heap.size < w5.heap.size := by have := HB4.out.size; have := HB5.out.size; omega
  clear hb1
  have c6 := kcellN HB5.out c6; have c7 := kcellN HB5.out c7
  clear c5
  cases v5
  · go_wp2_with fail
    go_ret
    exact ⟨by rw [HV.out]; rfl, bstep HB0.out (bstep HB4.out HB5.out)⟩
  go_wp2_with fail
  refine (HE.out _ _ (strs2 (by go_simp) (by go_simp))).mono ?_
  rintro e w6 ⟨rfl, hb1⟩
  have HB6 := Lib.hid (show Below w5.heap.size w5 w6 from bstep (by repeat (first | exact Below.refl _ _ | refine Below.drew ?_ | refine bpush ?_ _ | refine bput ?_ (by simp) _ | (refine bstep ?_ (by assumption)))) hb1)
  clear hb1
  go_wp2_with fail
  go_ret
  exact ⟨by rw [HV.out]; rfl, bstep HB0.out (bstep HB4.out (bstep HB5.out HB6.out))⟩
/-- The error of cloths and pieces. -/
def thChk (C : List Tc) (L : List Tp) : Int := if 5 < C.length ∨ 6 < L.length then 5 else if C.all vTc = true then (if L.all vTp = true then 0 else 4) else 2
set_option maxRecDepth 20000 in
set_option maxHeartbeats 6400000 in
theorem thCheck_any (C : List Tc) (L : List Tp) (ca la : Option Addr) (cc lc : Nat) (w : World) (hC : SliceOf encTc 7 w (.slice ca C.length cc) C) (hL : SliceOf encTp 8 w (.slice la L.length lc) L) (aC : ∀ c ∈ C, AscC c) (aL : ∀ p ∈ L, AscP p) :
    Calls Try.prog 15 #[.slice ca C.length cc, .slice la L.length lc] w fun e w' => e = .returned (iv (thChk C L)) ∧ Below w.heap.size w w' := by
  have HC := Lib.hid (fun (W : World) (hb : Below w.heap.size w W) => allTc_any C ca cc W (fun x hx W1 => validTc_any x W1 (aC x hx)) (hC.below hb))
  have HL := Lib.hid (fun (W : World) (hb : Below w.heap.size w W) => allTp_any L la lc W (fun x hx W1 => validTp_any x W1 (aL x hx)) (hL.below hb))
  have l1 := hC.len
  have l2 := hL.len
  clear hC hL aC aL
  by_cases h1 : 5 < C.length
  · have HV : Hid (thChk C L = 5) := if_pos (.inl h1)
    have e1 : decide ((5 : Int) < (C.length : Int)) = true := decide_eq_true (by omega)
    go_enter Try.func15, Try.ntmps15
    go_wp2_with fail
    go_ret
    exact ⟨by rw [HV.out]; rfl, Below.refl _ _⟩
  by_cases h2 : 6 < L.length
  · have HV : Hid (thChk C L = 5) := if_pos (.inr h2)
    have e1 : decide ((6 : Int) < (L.length : Int)) = true := decide_eq_true (by omega)
    have e2 : decide ((5 : Int) < (C.length : Int)) = false := decide_eq_false (by omega)
    go_enter Try.func15, Try.ntmps15
    go_wp2_with fail
    go_ret
    exact ⟨by rw [HV.out]; rfl, Below.refl _ _⟩
  have HV : Hid (thChk C L = if C.all vTc = true then (if L.all vTp = true then 0 else 4) else 2) := if_neg (by omega)
  have e1 : decide ((6 : Int) < (L.length : Int)) = false := decide_eq_false (by omega)
  have e2 : decide ((5 : Int) < (C.length : Int)) = false := decide_eq_false (by omega)
  generalize C.all vTc = v1 at *
  generalize L.all vTp = v2 at *
  go_enter Try.func15, Try.ntmps15
  go_wp2_with fail
  refine (HC.out _ (Below.refl _ _)).mono ?_
  rintro e w1 ⟨rfl, hb1⟩
  have HB1 := Lib.hid hb1
  clear hb1 e1 e2
  cases v1
  · go_wp2_with fail
    go_ret
    exact ⟨by rw [HV.out]; rfl, HB1.out⟩
  go_wp2_with fail
  refine (HL.out _ HB1.out).mono ?_
  rintro e w2 ⟨rfl, hb1⟩
  have HB2 := Lib.hid (bstep HB1.out hb1)
  clear hb1
  cases v2
  · go_wp2_with fail
    go_ret
    exact ⟨by rw [HV.out]; rfl, HB2.out⟩
  go_wp2_with fail
  go_ret
  exact ⟨by rw [HV.out]; rfl, HB2.out⟩
end Go.Proofs.Ytgoncgbbgodliad
