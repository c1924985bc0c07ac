import Derived.Test.YtdalilllakdamaaMd
import Derived.Test.YtdalilllakdamaaRnd
/- Turns: how long each cloth waits, one after another. -/
namespace Go.Proofs.Ytdalilllakdamaa
open Go Go.RowKit Go.Shelf
attribute [local go_sem] Oper.semAt_some

/-- How long a visit was waited for. -/
def waitV (C : List Ct) (v : Nat × Int × Int) : Nat × Int := (v.1, v.2.1 - coOf C v.1)
def waitL (C : List Ct) (k : Nat) (o : List Nat) : List (Nat × Int) := (visL (coOf C) (hiOf C) (List.replicate k 0) o).map (waitV C)
def encW (p : Nat × Int) : Array Value := #[iv (p.1 : Int), iv p.2]
theorem prefix_map {α β : Type} (g : α → β) {pre xs : List α} {x : α} (h : (pre ++ [x]) <+: xs) : (pre.map g ++ [g x]) <+: xs.map g := by
  have := h.map g
  simpa using this

end Go.Proofs.Ytdalilllakdamaa

/- Turns: whether nobody waits for too long. -/
namespace Go.Proofs.Ytdalilllakdamaa
open Go Go.RowKit Go.Shelf
attribute [local go_sem] Oper.semAt_some

def patW (limit : Int) (l : List (Nat × Int)) : Bool := l.all fun p => decide (p.2 ≤ limit)
theorem patL_wait (C : List Ct) (limit : Int) (l : List (Nat × Int × Int)) : patL (coOf C) limit l = patW limit (l.map (waitV C)) := by
  simp only [patL, patW, List.all_map]; rfl

end Go.Proofs.Ytdalilllakdamaa

/- Turns: which cloths are chosen; how many of its weaver's stand before each. -/
namespace Go.Proofs.Ytdalilllakdamaa
open Go Go.RowKit Go.Shelf
attribute [local go_sem] Oper.semAt_some

theorem ordI_len (o : List Nat) : (ordI o).length = o.length := by simp [ordI]
theorem filter_take {p : Nat → Bool} {xs : List Nat} {k x : Nat} (hx : xs[k]? = some x) : (xs.take (k + 1)).filter p = (xs.take k).filter p ++ if p x then [x] else [] := by
  rw [List.take_add_one, hx]; simp [List.filter_append, List.filter_cons]

set_option maxRecDepth 20000 in
set_option maxHeartbeats 3200000 in
theorem chosen_any (gf : FuncId) (cb : Array Value) (p : Nat → Bool) (xs : List Nat) (la : Option Addr) (lc : Nat) (w : World) (eg : ∀ args w, (callFunc gf args).run Try.prog w = .ok (.enter gf args) w)
    (hf : ∀ x ∈ xs, ∀ W, Below w.heap.size w W → Calls Try.prog gf (#[iv (x : Int)] ++ cb) W fun e w' => e = .returned (.bool (p x)) ∧ Below W.heap.size W w') (hs : Ints w (.slice la xs.length lc) (ordI xs)) (hl : xs.length ≤ 1000000) :
    Calls Try.prog 49 #[.slice la xs.length lc, .func (.func gf) #[] cb] w fun e w' => ∃ v, e = .returned v ∧ Owns encI 1 3 w.heap.size w' v (ordI (xs.filter p)) ∧ Below w.heap.size w w' := by
  obtain ⟨i0, hi, hz0, hz1, hz2⟩ := info_parts info3
  have HF := Lib.hid hf; have HS := Lib.hid hs
  clear hf hs
  go_enter Try.func49, Try.ntmps49
  go_wp2_with fail
  go_loopw [10, 5] (fun i l wr => ∃ k : Nat, k ≤ xs.length ∧ i = iv k ∧ Owns encI 1 3 w.heap.size wr l (ordI ((xs.take k).filter p)) ∧ Below w.heap.size w wr) (fun i _ _ => xs.length - (intOf i).toNat)
  case atStart => exact ⟨0, Nat.zero_le _, rfl, Owns.nil _ _ _ _ _, Below.refl _ _⟩
  case round =>
    obtain ⟨k, hk, rfl, hown, hbw⟩ := hrel
    have HO := Lib.hid hown; have HB := Lib.hid hbw
    clear hown hbw
    by_cases hlt : k < xs.length
    · obtain ⟨x, hx⟩ := getElem?_of_lt hlt
      have hs1 := HS.out.below HB.out
      obtain ⟨b, off, rfl⟩ := slice_addr hs1 (by rw [ordI_len]; omega)
      have c0 : wr.cell? ⟨b, off + k, none⟩ = some (iv x) := int_cell hs1 (by simp [ordI, hx])
      have HC := Lib.hid (HF.out x (List.mem_of_getElem? hx) wr HB.out)
      have HT := Lib.hid (filter_take (p := p) hx)
      have hfl : ((xs.take k).filter p).length ≤ 1000000 := by have := List.length_filter_le p (xs.take k); simp at this; omega
      clear hs1 hx
      cases hp : p x
      · rw [hp] at HC HT
        go_wp2_with fail
        refine HC.out.mono ?_
        rintro e w1 ⟨rfl, hb1⟩
        have HO1 := Lib.hid (Owns.kept HO.out hb1)
        have HB1 := Lib.hid (bstep HB.out hb1)
        clear hb1
        go_wp2_with fail
        go_roundw
        case rel => exact ⟨k + 1, by omega, by go_num, by rw [HT.out]; simpa using HO1.out, HB1.out⟩
        case measure => simp [intOf]; omega
      · rw [hp] at HC HT
        go_wp2_with fail
        refine HC.out.mono ?_
        rintro e w1 ⟨rfl, hb1⟩
        have HO1 := Lib.hid (Owns.kept HO.out hb1)
        have HB1 := Lib.hid (bstep HB.out hb1)
        clear hb1
        have hb2 : (ordI ((xs.take k).filter p)).length + 1 ≤ maxLen ∧ ((ordI ((xs.take k).filter p)).length + 1) * 8 ≤ 140737488355328 := by rw [ordI_len]; unfold maxLen; omega
        have hb3 : w.heap.size ≤ (w1.alloc (.cells #[iv x] 3)).heap.size := by have := HB1.out.size; simp; omega
        go_wp2_with (at_builtin; refine L_append1 (x : Int) rfl _ _ 24 rfl Try.underlying24 hi hz0 hz1 hz2 rfl Nat.one_pos encI_len (encI_one _) rfl rfl (Owns.kept HO1.out (bpush (Below.refl _ _) _)) (encI_cell ?_) hb2 hb3 ?_; go_simp; intro v' w2 hown2 hbe2 hg2)
        go_roundw
        case rel => exact ⟨k + 1, by omega, by go_num, by rw [HT.out]; simpa [ordI] using hown2, (bpush HB1.out _).trans hbe2⟩
        case measure => simp [intOf]; omega
    · obtain rfl : k = xs.length := by omega
      go_wp2_with fail
      go_ret
      exact ⟨_, rfl, by have := HO.out; rwa [List.take_length] at this, HB.out⟩

set_option maxRecDepth 20000 in
set_option maxHeartbeats 3200000 in
theorem rounds1_any (bd ba bc a b : Nat) (ca : Option Addr) (cc : Nat) (C : List Ct) (W : World) (hb : b < C.length) (hd : W.cell? ⟨bd, 0, none⟩ = some (.slice ca C.length cc)) (hC : SliceOf encC 4 W (.slice ca C.length cc) C)
    (ha : W.cell? ⟨ba, 0, none⟩ = some (iv a)) (h0 : W.cell? ⟨bc, 0, none⟩ = some (iv (ctAt C a).we)) (h1 : W.cell? ⟨bc, 1, none⟩ = some (iv (ctAt C a).co)) :
    Calls Try.prog 50 #[iv b, .pointer (some ⟨bd, 0, none⟩), .pointer (some ⟨ba, 0, none⟩), .pointer (some ⟨bc, 0, none⟩)] W fun e w' => e = .returned (.bool (befC C a b)) ∧ Below W.heap.size W w' := by
  obtain ⟨cb, cof, rfl⟩ := slice_addr hC (by omega)
  obtain ⟨y0, y1, y2, y3⟩ := cloth_cells hC hb
  have l1 := lt_of_cell ha
  have l2 := lt_of_cell h0
  clear hC
  by_cases e1 : b < a
  · by_cases e2 : (ctAt C b).we = (ctAt C a).we
    · by_cases e3 : (ctAt C b).co = (ctAt C a).co
      · have HV : Hid (befC C a b = true) := by simp [Hid, befC, sameC, e1, e2, e3]
        have e2' : ((ctAt C b).we == (ctAt C a).we) = true := by simp [e2]
        have e3' : ((ctAt C b).co == (ctAt C a).co) = true := by simp [e3]
        clear e2 e3
        generalize (ctAt C b).we = p0 at *; generalize (ctAt C b).co = p1 at *; generalize (ctAt C a).we = q0 at *; generalize (ctAt C a).co = q1 at *
        go_enter Try.func50, Try.ntmps50
        go_wp2_with fail
        go_ret
        exact ⟨by rw [HV.out]; rfl, (by repeat (first | exact Below.refl _ _ | refine Below.drew ?_ | refine bpush ?_ _ | refine bput ?_ (by simp) _ | (refine bstep ?_ (by assumption))))⟩
      · have HV : Hid (befC C a b = false) := by simp [Hid, befC, sameC, e3]
        have e2' : ((ctAt C b).we == (ctAt C a).we) = true := by simp [e2]
        have e3' : ((ctAt C b).co == (ctAt C a).co) = false := by simp [e3]
        clear e2 e3
        generalize (ctAt C b).we = p0 at *; generalize (ctAt C b).co = p1 at *; generalize (ctAt C a).we = q0 at *; generalize (ctAt C a).co = q1 at *
        go_enter Try.func50, Try.ntmps50
        go_wp2_with fail
        go_ret
        exact ⟨by rw [HV.out]; rfl, (by repeat (first | exact Below.refl _ _ | refine Below.drew ?_ | refine bpush ?_ _ | refine bput ?_ (by simp) _ | (refine bstep ?_ (by assumption))))⟩
    · have HV : Hid (befC C a b = false) := by simp [Hid, befC, sameC, e2]
      have e2' : ((ctAt C b).we == (ctAt C a).we) = false := by simp [e2]
      clear e2
      generalize (ctAt C b).we = p0 at *; generalize (ctAt C b).co = p1 at *; generalize (ctAt C a).we = q0 at *; generalize (ctAt C a).co = q1 at *
      go_enter Try.func50, Try.ntmps50
      go_wp2_with fail
      go_ret
      exact ⟨by rw [HV.out]; rfl, (by repeat (first | exact Below.refl _ _ | refine Below.drew ?_ | refine bpush ?_ _ | refine bput ?_ (by simp) _ | (refine bstep ?_ (by assumption))))⟩
  · have HV : Hid (befC C a b = false) := by simp [Hid, befC, e1]
    generalize (ctAt C b).we = p0 at *; generalize (ctAt C b).co = p1 at *; generalize (ctAt C a).we = q0 at *; generalize (ctAt C a).co = q1 at *
    go_enter Try.func50, Try.ntmps50
    go_wp2_with fail
    go_ret
    exact ⟨by rw [HV.out]; rfl, (by repeat (first | exact Below.refl _ _ | refine Below.drew ?_ | refine bpush ?_ _ | refine bput ?_ (by simp) _ | (refine bstep ?_ (by assumption))))⟩
end Go.Proofs.Ytdalilllakdamaa

/- Turns: how many of its weaver's cloths stand before each. -/
namespace Go.Proofs.Ytdalilllakdamaa
open Go Go.RowKit Go.Shelf
attribute [local go_sem] Oper.semAt_some
attribute [local go_sem ↓] Go.wp_at_zero Go.wp_at_succ

theorem below_undrew {W W1 : World} (h : Below W.drew.heap.size W.drew W1) : Below W.heap.size W W1 := ⟨h.os, h.tape, h.output, h.size, h.block⟩
def rndTo (C : List Ct) (xs l : List Nat) : List Int := l.foldl (fun z a => z.set a (rnd C xs a : Int)) (List.replicate C.length 0)
def rndL (C : List Ct) (xs : List Nat) : List Int := rndTo C xs xs
theorem rndTo_len (C : List Ct) (xs l : List Nat) : (rndTo C xs l).length = C.length := by
  unfold rndTo
  suffices h : ∀ (l : List Nat) (z : List Int), (l.foldl (fun z a => z.set a (rnd C xs a : Int)) z).length = z.length by rw [h]; simp
  intro l
  induction l with
  | nil => intro z; rfl
  | cons a l ih => intro z; rw [List.foldl_cons, ih]; simp
theorem rndTo_snoc (C : List Ct) (xs l : List Nat) (a : Nat) : rndTo C xs (l ++ [a]) = (rndTo C xs l).set a (rnd C xs a : Int) := by simp [rndTo, List.foldl_append]
theorem rndTo_get {C : List Ct} {xs : List Nat} : ∀ (l : List Nat) (a : Nat), a ∈ l → a < C.length → (rndTo C xs l).getD a 0 = (rnd C xs a : Int) := by
  intro l
  suffices h : ∀ (l : List Nat) (z : List Int) (a : Nat), a < z.length → (a ∈ l ∨ z.getD a 0 = (rnd C xs a : Int)) → (l.foldl (fun z a => z.set a (rnd C xs a : Int)) z).getD a 0 = (rnd C xs a : Int) from fun a ha hc => h l _ a (by simpa using hc) (.inl ha)
  intro l
  induction l with
  | nil => intro z a _ h; exact h.resolve_left (by simp)
  | cons b l ih =>
    intro z a hl h
    rw [List.foldl_cons]
    refine ih _ a (by simpa using hl) ?_
    rw [List.mem_cons] at h
    by_cases e : b = a
    · subst e; exact .inr (by simp [List.getD_eq_getElem?_getD, hl])
    · rcases h with (h | h) | h
      · exact absurd h.symm e
      · exact .inl h
      · refine .inr ?_
        simp only [List.getD_eq_getElem?_getD, List.getElem?_set, if_neg e] at h ⊢
        exact h

set_option maxRecDepth 20000 in
set_option maxHeartbeats 6400000 in
theorem rounds_any (C : List Ct) (xs : List Nat) (ca la : Option Addr) (cc lc : Nat) (rv : Value) (w : World) (hC : SliceOf encC 4 w (.slice ca C.length cc) C) (hs : Ints w (.slice la xs.length lc) (ordI xs))
    (hx : ∀ x ∈ xs, x < C.length) (hl : xs.length ≤ 1000) (hlC : C.length ≤ 1000000) :
    Calls Try.prog 40 #[.agg #[.slice ca C.length cc, rv], .slice la xs.length lc] w fun e w' => e = .returned (.slice (some ⟨w.heap.size + 1, 0, none⟩) C.length C.length) ∧ w'.heap[w.heap.size + 1]? = some (.cells (rowI (rndL C xs)) 3 (0, 0)) ∧ Below w.heap.size w w' := by
  obtain ⟨i0, hi, hz0, hz1, hz2⟩ := info_parts info3
  have HI := Lib.hid hi; have HZ0 := Lib.hid hz0; have HZ1 := Lib.hid hz1
  have HBY := Lib.hid (show i0.bytes * C.length ≤ 281474976710656 by rw [hz2]; omega)
  have HML := Lib.hid (show C.length ≤ maxLen by unfold maxLen; omega)
  have HC := Lib.hid hC; have HS := Lib.hid hs; have HX := Lib.hid hx
  clear hi hz0 hz1 hz2 hC hs hx
  go_enter Try.func40, Try.ntmps40
  go_wp2_with (with_reducible change wpList _ _ _ (Oper.mk _ (Op.makeSlice 24 _ _) _ _ _ _ :: _) _ _; refine wpList_make_full _ rfl _ _ 24 rfl (w.heap.size + 1) 3 i0 (.int .i64 0) 1 Try.underlying24 HI.out HZ0.out HZ1.out .i64 .i64 C.length C.length C.length rfl rfl rfl rfl HBY.out HML.out (by simp) ?_; rw [World.size_alloc]; intro w1 hown hgrow)
  have HR : Hid (w1.heap[w.heap.size + 1]? = some (.cells (rowI (rndTo C xs [])) 3 (0, 0))) := by
    have := heap_ownsI hown
    rw [made_row] at this
    exact this
  have HD : Hid (w1.heap[w.heap.size]? = some (.cells #[.slice ca C.length cc, rv] 27 (0, 0))) := (hgrow.block w.heap.size (by simp) (by simp)).trans (heap_new _ _ _)
  have HB : Hid (Below w.heap.size w w1) := (bpush (Below.refl _ _) _).trans ⟨hgrow.os, hgrow.tape, hgrow.output, hgrow.size, fun q hq => hgrow.block q (by simp; omega) (by simp)⟩
  clear hown hgrow
  go_wp2_with fail
  go_loopw [15] (fun i wr => ∃ j : Nat, j ≤ xs.length ∧ i = iv j ∧ wr.heap[w.heap.size + 1]? = some (.cells (rowI (rndTo C xs (xs.take j))) 3 (0, 0)) ∧ wr.heap[w.heap.size]? = some (.cells #[.slice ca C.length cc, rv] 27 (0, 0)) ∧ Below w.heap.size w wr) (fun i _ => xs.length - (intOf i).toNat)
  case atStart => exact ⟨0, Nat.zero_le _, rfl, HR.out, HD.out, HB.out⟩
  case round =>
    obtain ⟨j, hj, rfl, hr, hd, hb⟩ := hrel
    have HRr := Lib.hid hr; have HDr := Lib.hid hd; have HBr := Lib.hid hb
    have hz1 : w.heap.size + 1 < wr.heap.size := (Array.getElem?_eq_some_iff.1 hr).1
    clear hr hd hb
    by_cases hlt : j < xs.length
    · obtain ⟨a, ha⟩ := getElem?_of_lt hlt
      have haC := HX.out a (List.mem_of_getElem? ha)
      have hC1 := HC.out.below HBr.out
      have hS1 := HS.out.below HBr.out
      obtain ⟨sb, so, rfl⟩ := slice_addr hS1 (by rw [ordI_len]; omega)
      have x0 : wr.cell? ⟨sb, so + j, none⟩ = some (iv a) := int_cell hS1 (by simp [ordI, ha])
      obtain ⟨cb, cof, rfl⟩ := slice_addr hC1 (by omega)
      obtain ⟨y0, y1, y2, y3⟩ := cloth_cells hC1 haC
      have v0 : wr.cell? ⟨w.heap.size, 0, none⟩ = some (.slice (some ⟨cb, cof, none⟩) C.length cc) := by rw [cell_of_row _ _ _ _ _ _ HDr.out]; rfl
      have hz0 : w.heap.size < wr.heap.size := by omega
      have hcb := lt_of_cell y0
      obtain ⟨Wn, hWn⟩ : ∃ Wn : World, (wr.alloc (.cells #[iv a] 3)).alloc (.cells #[iv (ctAt C a).we, iv (ctAt C a).co, iv (ctAt C a).lo, iv (ctAt C a).hi] 32) = Wn := ⟨_, rfl⟩
      have hBn : Below wr.heap.size wr Wn := by rw [← hWn]; exact bpush (bpush (Below.refl _ _) _) _
      have hn1 : Wn.cell? ⟨wr.heap.size, 0, none⟩ = some (iv a) := by subst hWn; go_simp
      have hn2 : Wn.cell? ⟨wr.heap.size + 1, 0, none⟩ = some (iv (ctAt C a).we) := by subst hWn; go_simp
      have hn3 : Wn.cell? ⟨wr.heap.size + 1, 1, none⟩ = some (iv (ctAt C a).co) := by subst hWn; go_simp
      have hn0 : Wn.cell? ⟨w.heap.size, 0, none⟩ = some (.slice (some ⟨cb, cof, none⟩) C.length cc) := kcellQ hBn v0
      have hCn := hC1.below hBn
      have hSn := hS1.below hBn
      have hrn : Wn.heap[w.heap.size + 1]? = some (.cells (rowI (rndTo C xs (xs.take j))) 3 (0, 0)) := (hBn.block _ hz1).trans HRr.out
      have hdn : Wn.heap[w.heap.size]? = some (.cells #[.slice (some ⟨cb, cof, none⟩) C.length cc, rv] 27 (0, 0)) := (hBn.block _ hz0).trans HDr.out
      have hch := chosen_any 50 #[.pointer (some ⟨w.heap.size, 0, none⟩), .pointer (some ⟨wr.heap.size, 0, none⟩), .pointer (some ⟨wr.heap.size + 1, 0, none⟩)] (befC C a) xs (some ⟨sb, so, none⟩) lc Wn.drew (enters_of Try.func50 (by kernel_rfl) rfl)
        (fun x hx W hW => rounds1_any w.heap.size wr.heap.size (wr.heap.size + 1) a x (some ⟨cb, cof, none⟩) cc C W (HX.out x hx) (kcellQ (W := Wn) (below_undrew hW) hn0) (SliceOf.below (w := Wn) hCn (below_undrew hW)) (kcellQ (W := Wn) (below_undrew hW) hn1) (kcellQ (W := Wn) (below_undrew hW) hn2) (kcellQ (W := Wn) (below_undrew hW) hn3)) (hSn.below (Below.refl _ _).drew) (by omega)
      have HCH := Lib.hid hch
      have HBn := Lib.hid hBn; have HRn := Lib.hid hrn; have HDn := Lib.hid hdn
      have HSN : Hid (rndTo C xs (xs.take (j + 1)) = (rndTo C xs (xs.take j)).set a (rnd C xs a : Int)) := by
        unfold Hid; rw [List.take_add_one, ha]; exact rndTo_snoc _ _ _ _
      have hlen := rndTo_len C xs (xs.take j)
      have hcnt : (xs.filter (befC C a)).length = rnd C xs a := by rw [rnd, List.countP_eq_length_filter]
      have hzn : wr.heap.size + 2 = Wn.heap.size := by rw [← hWn]; simp
      clear hch hBn hrn hdn hCn hSn hC1 hS1 ha
      go_wp2_with fail
      have hnr : Wn.cell? ⟨w.heap.size + 1, a, none⟩ = some (iv ((rndTo C xs (xs.take j)).getD a 0)) := cell_rowI HRn.out (by rw [hlen]; exact haC)
      have hz1n : w.heap.size + 1 < Wn.heap.size := lt_of_cell hnr
      clear x0 y0 y1 y2 y3 v0 hn0 hn2 hn3 hWn
      go_region_with (first | ((with_reducible refine HCH.out.mono ?_); rintro e w3 ⟨vv, rfl, ho3, hb3⟩; obtain ⟨va, vc, rfl⟩ := ho3.len; have hb3 := below_undrew hb3; have hA3 := kcellQ hb3 hn1; have hR3 := (hb3.block _ hz1n).trans HRn.out; have hc3 := kcellQ hb3 hnr; have hf3 : w3.frozen? ⟨w.heap.size + 1, a, none⟩ = false := frozen_of_row _ _ _ _ _ hR3))
      all_goals
        have HB3 := Lib.hid hb3; have HR3 := Lib.hid hR3
        have hlf : (ordI (xs.filter (befC C a))).length = rnd C xs a := by rw [ordI_len, hcnt]
        rw [hlf]
        clear hb3 hR3 hc3 hf3 hA3 ho3 hlf hcnt hn1 hnr
        go_wp2_with fail
        go_roundw
        case rel =>
          refine ⟨j + 1, by omega, by go_num, ?_, ?_, ?_⟩
          · rw [heap_setCell_same _ _ _ _ _ _ HR3.out, rowI_set, HSN.out]
          · rw [heap_setCell_other _ _ _ _ (by simp)]; exact (HB3.out.block _ (by omega)).trans HDn.out
          · exact bput (bstep HBr.out (bstep HBn.out HB3.out)) (by simp) _
        case measure => simp [intOf]; omega
    · obtain rfl : j = xs.length := by omega
      go_wp2_with fail
      go_ret
      exact ⟨rfl, by have := HRr.out; rwa [List.take_length] at this, HBr.out⟩
end Go.Proofs.Ytdalilllakdamaa
