/- Turns: the visits of cloths to stocks, one after another. -/
import Derived.Test.YthkmklfmobenaaaQb
import Derived.Test.YthkmklfmobenaaaTrs
namespace Go.Proofs.Ythkmklfmobenaaa
open Go Go.RowKit Go.Shelf
attribute [local go_sem] Oper.semAt_some
attribute [local go_sem ↓] Go.wp_at_zero Go.wp_at_succ

theorem kcellQ {W W1 : World} {b o : Nat} {v : Value} (hb : Below W.heap.size W W1) (h : W.cell? ⟨b, o, none⟩ = some v) : W1.cell? ⟨b, o, none⟩ = some v := (hb.cell (p := ⟨b, o, none⟩) (lt_of_cell h)).trans h
theorem kfrozenQ {W W1 : World} {b o : Nat} {v : Value} (hb : Below W.heap.size W W1) (h : W.cell? ⟨b, o, none⟩ = some v) (hf : W.frozen? ⟨b, o, none⟩ = false) : W1.frozen? ⟨b, o, none⟩ = false := (hb.frozen (p := ⟨b, o, none⟩) (lt_of_cell h)).trans hf
theorem turn_setQ {T : Nat → Prop} {W : World} {b : Nat} (hb : T b) (o : Nat) (v : Value) : Turn T W (W.setCell ⟨b, o, none⟩ v) :=
  ⟨rfl, rfl, rfl, by simp [World.setCell], fun k _ hk => Below.heap_setCell _ _ _ _ (fun e => hk (e ▸ hb))⟩
theorem encC_len (c : Ct) : (encC c).length = 4 := rfl
/-- What the numbers of cloths say. -/
def ordI (o : List Nat) : List Int := o.map fun x : Nat => (x : Int)
def coOf (C : List Ct) (a : Nat) : Int := (ctAt C a).co
def loOf (C : List Ct) (a : Nat) : Int := (ctAt C a).lo
def hiOf (C : List Ct) (a : Nat) : Int := (ctAt C a).hi
/-- Cloths whose numbers are not too great. -/
def CtOk (C : List Ct) : Prop := ∀ a, a < C.length → 0 ≤ (ctAt C a).we ∧ (ctAt C a).we ≤ 1000 ∧ 0 ≤ (ctAt C a).co ∧ (ctAt C a).co ≤ 1000 ∧ 0 ≤ (ctAt C a).lo ∧ (ctAt C a).lo ≤ 1000 ∧ 0 ≤ (ctAt C a).hi ∧ (ctAt C a).hi ≤ 1000
def FrOk (f : List Int) (i : Nat) : Prop := ∀ j, j < f.length → 0 ≤ f.getD j 0 ∧ f.getD j 0 ≤ 1000 + 1000 * (i : Int)
theorem FrOk.zero (k : Nat) : FrOk (List.replicate k 0) 0 := by
  intro j hj
  have hj' : j < k := by simpa using hj
  simp [List.getD_eq_getElem?_getD, hj']
theorem FrOk.step {f : List Int} {i : Nat} {c s : Int} (h : FrOk f i) (hf : 0 < f.length) (hc : 0 ≤ c ∧ c ≤ 1000) (hs : 0 ≤ s ∧ s ≤ 1000) : 0 ≤ takeAt f c ∧ takeAt f c ≤ 1000 + 1000 * (i : Int) ∧ FrOk (stepF f c s) (i + 1) := by
  have hb := h _ (best_lt hf)
  have h1 : 0 ≤ takeAt f c ∧ takeAt f c ≤ 1000 + 1000 * (i : Int) := by unfold takeAt; omega
  refine ⟨h1.1, h1.2, fun j hj => ?_⟩
  rw [stepF_len] at hj
  have hj2 := h j hj
  unfold stepF
  simp only [List.getD_eq_getElem?_getD, List.getElem?_set] at hj2 ⊢
  split
  · split
    · simp only [Option.getD_some]; omega
    · simp; omega
  · omega
theorem ctAt_get {C : List Ct} {a : Nat} (h : a < C.length) : C[a]? = some (ctAt C a) := by
  simp [ctAt, List.getD_eq_getElem?_getD, List.getElem?_eq_getElem h]
/-- The cells of a cloth of a slice. -/
theorem cloth_cells {w : World} {b off n cap x : Nat} {C : List Ct} (h : SliceOf encC 4 w (.slice (some ⟨b, off, none⟩) n cap) C) (hx : x < C.length) :
    w.cell? ⟨b, off + x * 4, none⟩ = some (iv (ctAt C x).we) ∧ w.cell? ⟨b, off + x * 4 + 1, none⟩ = some (iv (ctAt C x).co) ∧ w.cell? ⟨b, off + x * 4 + 2, none⟩ = some (iv (ctAt C x).lo) ∧ w.cell? ⟨b, off + x * 4 + 3, none⟩ = some (iv (ctAt C x).hi) := by
  obtain ⟨a, cap', he, -, hc⟩ := h
  simp only [Value.slice.injEq] at he
  obtain ⟨rfl, -, -⟩ := he
  obtain ⟨b', off', he, hj⟩ := hc x _ (ctAt_get hx)
  simp only [Option.some.injEq, Addr.mk.injEq] at he
  obtain ⟨rfl, rfl, -⟩ := he
  exact ⟨hj 0 _ rfl, hj 1 _ rfl, hj 2 _ rfl, hj 3 _ rfl⟩
theorem int_cell {w : World} {b off n cap i : Nat} {xs : List Int} {x : Int} (h : Ints w (.slice (some ⟨b, off, none⟩) n cap) xs) (hx : xs[i]? = some x) : w.cell? ⟨b, off + i, none⟩ = some (iv x) := by
  obtain ⟨a, cap', he, -, hc⟩ := h
  simp only [Value.slice.injEq] at he
  obtain ⟨rfl, -, -⟩ := he
  obtain ⟨b', off', he, hj⟩ := hc i _ hx
  simp only [Option.some.injEq, Addr.mk.injEq] at he
  obtain ⟨rfl, rfl, -⟩ := he
  have := hj 0 _ rfl
  rwa [Nat.mul_one, Nat.add_zero] at this
theorem slice_addr {α : Type} {enc : α → List Value} {sz : Nat} {w : World} {a : Option Addr} {n c : Nat} {xs : List α} (h : SliceOf enc sz w (.slice a n c) xs) (hx : 0 < xs.length) : ∃ b off, a = some ⟨b, off, none⟩ := by
  obtain ⟨a', cap', he, -, hc⟩ := h
  simp only [Value.slice.injEq] at he
  obtain ⟨rfl, -, -⟩ := he
  obtain ⟨x, hx'⟩ := getElem?_of_lt hx
  obtain ⟨b', off', he, -⟩ := hc 0 x hx'
  exact ⟨_, _, he⟩

def encV (v : Nat × Int × Int) : Array Value := #[.agg #[iv (v.1 : Int), iv v.2.1, iv v.2.2]]
def qrow (cv rv : Value) (k : Int) (ov : Value) : Array Value := #[cv, rv, iv k, ov]

set_option maxHeartbeats 800000 in
theorem visits_any (cv rv ov : Value) (k : Int) (g : FuncId) (w : World) :
    Calls Try.prog 20 #[qv cv rv k ov, .func (.func g) #[] #[]] w fun e w' => e = .returned (.func (.func 36) #[] #[.pointer (some ⟨w.heap.size, 0, none⟩), .pointer (some ⟨w.heap.size + 1, 0, none⟩)]) ∧ (w.alloc (.cells #[cv, rv, iv k, ov] 73)).alloc (.cells #[.func (.func g) #[] #[]] 97) = w' := by
  go_enter Try.func20, Try.ntmps20
  go_wp2_with fail
  go_ret
  exact ⟨rfl, rfl⟩

set_option maxRecDepth 20000 in
set_option maxHeartbeats 12800000 in
theorem visitsLo_seq (S : Nat → Prop) (bq bs : Nat) (hSq : S bq) (hSs : S bs) (C : List Ct) (o : List Nat) (ca oa : Option Addr) (cc oc k : Nat) (rv : Value) (w0 : World) (hS : ∀ j, S j → j < w0.heap.size)
    (hq : w0.heap[bq]? = some (.cells #[.slice ca C.length cc, rv, iv k, .slice oa o.length oc] 73 (0, 0))) (hs : w0.heap[bs]? = some (.cells #[.func (.func 21) #[] #[]] 97 (0, 0)))
    (hC : ∀ W, SameOn S w0 W → SliceOf encC 4 W (.slice ca C.length cc) C) (hO : ∀ W, SameOn S w0 W → Ints W (.slice oa o.length oc) (ordI o)) (ho : ∀ x ∈ o, x < C.length) (hk : 1 ≤ k ∧ k ≤ 1000) (hl : o.length ≤ 1000) (hok : CtOk C) :
    SeqL Try.prog 36 #[.pointer (some ⟨bq, 0, none⟩), .pointer (some ⟨bs, 0, none⟩)] encV S (visL (coOf C) (loOf C) (List.replicate k 0) o) w0 := by
  intro n l J Jx W hW hJ hJx hY h0
  have HC : Hid (∀ wr, SameOn S W wr → SliceOf encC 4 wr (.slice ca C.length cc) C) := fun wr h => hC wr (hW.trans h)
  have HO : Hid (∀ wr, SameOn S W wr → Ints wr (.slice oa o.length oc) (ordI o)) := fun wr h => hO wr (hW.trans h)
  have HQ : Hid (∀ wr, SameOn S W wr → wr.heap[bq]? = some (.cells #[.slice ca C.length cc, rv, iv k, .slice oa o.length oc] 73 (0, 0))) := fun wr h => ((hW.trans h).block bq hSq).trans hq
  have HF : Hid (∀ wr, SameOn S W wr → wr.heap[bs]? = some (.cells #[.func (.func 21) #[] #[]] 97 (0, 0))) := fun wr h => ((hW.trans h).block bs hSs).trans hs
  have HW := Lib.hid (show ∀ j, S j → j < W.heap.size from fun j hj => Nat.lt_of_lt_of_le (hS j hj) hW.size)
  have HY := Lib.hid hY; have HJ := Lib.hid hJ; have HX := Lib.hid hJx; have HJ0 := Lib.hid h0
  have HX0 := Lib.hid ho; have HK := Lib.hid hok
  have HBS : Hid (bq < W.heap.size ∧ bs < W.heap.size) := ⟨HW.out bq hSq, HW.out bs hSs⟩
  clear hC hO hq hs hS hW hSq hSs hY hJ hJx h0 ho hok
  obtain ⟨xs, hxs⟩ : ∃ xs, xs = visL (coOf C) (loOf C) (List.replicate k 0) o := ⟨_, rfl⟩
  rw [← hxs] at HY ⊢
  have HXS := Lib.hid hxs; clear hxs
  obtain ⟨i0, hi, hz0, hz1, hz2⟩ := info_parts info3
  have HI := Lib.hid hi; have HZ0 := Lib.hid hz0; have HZ1 := Lib.hid hz1
  have HBY := Lib.hid (show i0.bytes * k ≤ 281474976710656 by rw [hz2]; omega)
  have HML := Lib.hid (show k ≤ maxLen by unfold maxLen; omega)
  clear hi hz0 hz1 hz2
  have q0 := HQ.out W (SameOn.refl _ _)
  have v0 : W.cell? ⟨bq, 0, none⟩ = some (.slice ca C.length cc) := by rw [cell_of_row _ _ _ _ _ _ q0]; rfl
  have v2 : W.cell? ⟨bq, 2, none⟩ = some (iv k) := by rw [cell_of_row _ _ _ _ _ _ q0]; rfl
  have v3 : W.cell? ⟨bq, 3, none⟩ = some (.slice oa o.length oc) := by rw [cell_of_row _ _ _ _ _ _ q0]; rfl
  clear q0
  refine callsIn_of_wp Try.func36 rfl trivial ?_ rfl
  simp only [Try.ntmps36, List.size_toArray, List.length_cons, List.length_nil, Nat.reduceAdd, Nat.reduceSub, Array.replicate_succ, Array.replicate_zero, List.push_toArray, List.append_toArray, List.nil_append, List.cons_append]
  refine wpIn_seq ?_
  refine wpIn_wide.2 ?_
  go_wp2_with (with_reducible change wpList _ _ _ (Oper.mk _ (Op.makeSlice 24 _ _) _ _ _ _ :: _) _ _; refine wpList_make_full _ rfl _ _ 24 rfl W.heap.size 3 i0 (.int .i64 0) 1 Try.underlying24 HI.out HZ0.out HZ1.out .i64 .i64 k k k rfl rfl rfl rfl HBY.out HML.out (Nat.le_refl _) ?_; intro w1 hown hgrow)
  have hg0 : w1.heap[W.heap.size]? = some (.cells (rowI (List.replicate k 0)) 3 (0, 0)) := by
    have := heap_ownsI hown
    rw [made_row] at this
    exact this
  have hB1 : Below W.heap.size W w1 := ⟨hgrow.os, hgrow.tape, hgrow.output, hgrow.size, fun q hq => hgrow.block q hq (by simp)⟩
  clear hown hgrow v0 v2 v3
  obtain ⟨T, hT⟩ : ∃ T : Nat → Prop, T = fun q => q = W.heap.size := ⟨_, rfl⟩
  have hTg : T W.heap.size := by rw [hT]
  have HT : Hid (∀ q, T q → q = W.heap.size) := by intro q hq; rwa [hT] at hq
  clear hT
  have HJ1 : Hid (J T [] w1) := (HJ.out _).turn _ _ _ (fun q hq => by have := HT.out q hq; omega) (Nat.le_refl _) ((HJ.out _).ext _ _ _ HJ0.out (fun q hq => .inr (by have := HT.out q hq; omega))) (Turn.of_below hB1)
  have HS1 : Hid (SameOn S W w1) := SameOn.of_below hB1 HW.out
  have HG1 := Lib.hid hg0
  have q0 := HQ.out w1 HS1.out
  have v3 : w1.cell? ⟨bq, 3, none⟩ = some (.slice oa o.length oc) := by rw [cell_of_row _ _ _ _ _ _ q0]; rfl
  clear q0 hg0 hB1
  gi_wp2_with fail
  clear v3
  gi_loopw [16] (fun x wr => ∃ (i : Nat) (f : List Int) (pre : List (Nat × Int × Int)), i ≤ o.length ∧ x = iv i ∧ Hid (xs = pre ++ visL (coOf C) (loOf C) f (o.drop i)) ∧ f.length = k ∧ FrOk f i ∧ SameOn S W wr ∧ J T pre wr ∧ wr.heap[W.heap.size]? = some (.cells (rowI f) 3 (0, 0))) (fun x _ => o.length - (intOf x).toNat)
  case atStart => exact ⟨0, _, [], Nat.zero_le _, rfl, HXS.out, by simp, FrOk.zero k, HS1.out, HJ1.out, HG1.out⟩
  case round =>
    obtain ⟨i, f, pre, hi, rfl, HXK, hfl, hfr, hsr, hjr, hgr⟩ := hrel
    have HSr := Lib.hid hsr; have HJr := Lib.hid hjr; have HGr := Lib.hid hgr; have HFr := Lib.hid hfr
    clear hsr hjr hgr hfr
    subst hfl
    have hsw : W.heap.size ≤ wr.heap.size := HSr.out.size
    have hgl : W.heap.size < wr.heap.size := (Array.getElem?_eq_some_iff.1 HGr.out).1
    by_cases hlt : i < o.length
    · obtain ⟨c, hc⟩ := getElem?_of_lt hlt
      have hcC := HX0.out c (List.mem_of_getElem? hc)
      obtain ⟨k1, k2, k3, k4, k5, k6, k7, k8⟩ := HK.out c hcC
      have HXC : Hid (xs = (pre ++ [(c, takeAt f (coOf C c), takeAt f (coOf C c) + loOf C c)]) ++ visL (coOf C) (loOf C) (stepF f (coOf C c) (loOf C c)) (o.drop (i + 1))) := by
        have := HXK.out
        obtain ⟨hk', he⟩ := List.getElem?_eq_some_iff.1 hc
        rw [List.drop_eq_getElem_cons hk', he] at this
        rw [this]; simp [Hid, visL]
      obtain ⟨t1, t2, HF2⟩ := HFr.out.step (c := coOf C c) (s := loOf C c) (by omega) ⟨by unfold coOf; omega, by unfold coOf; omega⟩ ⟨by unfold loOf; omega, by unfold loOf; omega⟩
      have hbl := best_lt (f := f) (by omega)
      have hbv := HFr.out _ hbl
      have htk : Hid (takeAt f (coOf C c) = if coOf C c < f.getD (best f) 0 then f.getD (best f) 0 else coOf C c) := by
        unfold Hid takeAt; split <;> omega
      have HSF : Hid (stepF f (coOf C c) (loOf C c) = f.set (best f) (takeAt f (coOf C c) + loOf C c)) := rfl
      have hsl : (stepF f (coOf C c) (loOf C c)).length = f.length := stepF_len _ _ _
      have hO1 := HO.out wr HSr.out
      obtain ⟨ob, oo, rfl⟩ := slice_addr hO1 (by simp [ordI]; omega)
      have x0 : wr.cell? ⟨ob, oo + i, none⟩ = some (iv c) := int_cell hO1 (by simp [ordI, hc])
      have hC1 := HC.out wr HSr.out
      obtain ⟨cb, co, rfl⟩ := slice_addr hC1 (by omega)
      obtain ⟨y0, y1, y2, y3⟩ := cloth_cells hC1 hcC
      have q0 := HQ.out wr HSr.out
      have v0 : wr.cell? ⟨bq, 0, none⟩ = some (.slice (some ⟨cb, co, none⟩) C.length cc) := by rw [cell_of_row _ _ _ _ _ _ q0]; rfl
      have v1 : wr.cell? ⟨bq, 1, none⟩ = some rv := by rw [cell_of_row _ _ _ _ _ _ q0]; rfl
      have v2 : wr.cell? ⟨bq, 2, none⟩ = some (iv f.length) := by rw [cell_of_row _ _ _ _ _ _ q0]; rfl
      have v3 : wr.cell? ⟨bq, 3, none⟩ = some (.slice (some ⟨ob, oo, none⟩) o.length oc) := by rw [cell_of_row _ _ _ _ _ _ q0]; rfl
      clear hO1 hC1 q0
      have hbq : bq < wr.heap.size := Nat.lt_of_lt_of_le HBS.out.1 hsw
      obtain ⟨Wn, hWn⟩ : ∃ Wn : World, wr.alloc (.cells #[iv (ctAt C c).we, iv (ctAt C c).co, iv (ctAt C c).lo, iv (ctAt C c).hi] 49) = Wn := ⟨_, rfl⟩
      have hBn : Below wr.heap.size wr Wn := by rw [← hWn]; exact bpush (Below.refl _ _) _
      have hzn : Wn.heap.size = wr.heap.size + 1 := by rw [← hWn]; simp
      have hcn : Wn.heap[wr.heap.size]? = some (.cells #[iv (ctAt C c).we, iv (ctAt C c).co, iv (ctAt C c).lo, iv (ctAt C c).hi] 49 (0, 0)) := by rw [← hWn]; exact heap_new _ _ _
      have hgn : Wn.heap[W.heap.size]? = some (.cells (rowI f) 3 (0, 0)) := (hBn.block _ hgl).trans HGr.out
      have z0 := kcellQ hBn v0
      have z1 := kcellQ hBn v1
      have z2 := kcellQ hBn v2
      have z3 := kcellQ hBn v3
      have HBn := Lib.hid hBn; have HZn := Lib.hid hzn; have HCn := Lib.hid hcn; have HGn := Lib.hid hgn
      clear hBn hzn hcn hgn
      gi_wp2_with fail
      clear x0 y0 y1 y2 y3 v0 v1 v2 v3 z0 z1 z2 z3 hWn
      refine (callsIn_wide.2 (first_any _ _ _ f _ _ _ (by omega) HGn.out)).mono ?_
      rintro e w2 ⟨rfl, hb2⟩
      have hb3 : Below wr.heap.size wr w2 := bstep HBn.out hb2
      have hs2 : SameOn S W w2 := HSr.out.trans (SameOn.of_below hb3 (fun q hq => Nat.lt_of_lt_of_le (HW.out q hq) hsw))
      have hc2 := (hb2.block wr.heap.size (by have := HZn.out; omega)).trans HCn.out
      have hg2 := (hb3.block _ hgl).trans HGr.out
      have hj2 := (HJ.out _).turn _ _ _ (fun q hq => by have := HT.out q hq; omega) hsw HJr.out (Turn.of_below hb3)
      have HS2 := Lib.hid hs2; have HC2 := Lib.hid hc2; have HG2 := Lib.hid hg2; have HJ2 := Lib.hid hj2
      have hf2 := HF.out w2 hs2
      have c0 : w2.cell? ⟨wr.heap.size, 0, none⟩ = some (iv (ctAt C c).we) := by rw [cell_of_row _ _ _ _ _ _ hc2]; rfl
      have c1 : w2.cell? ⟨wr.heap.size, 1, none⟩ = some (iv (coOf C c)) := by rw [cell_of_row _ _ _ _ _ _ hc2]; rfl
      have c2 : w2.cell? ⟨wr.heap.size, 2, none⟩ = some (iv (ctAt C c).lo) := by rw [cell_of_row _ _ _ _ _ _ hc2]; rfl
      have c3 : w2.cell? ⟨wr.heap.size, 3, none⟩ = some (iv (ctAt C c).hi) := by rw [cell_of_row _ _ _ _ _ _ hc2]; rfl
      have g2 : w2.cell? ⟨W.heap.size, best f, none⟩ = some (iv (f.getD (best f) 0)) := cell_rowI hg2 hbl
      have h2 : w2.frozen? ⟨W.heap.size, best f, none⟩ = false := frozen_of_row _ _ _ _ _ hg2
      have s2 : w2.cell? ⟨bs, 0, none⟩ = some (.func (.func 21) #[] #[]) := by rw [cell_of_row _ _ _ _ _ _ hf2]; rfl
      clear hb2 hb3 hs2 hc2 hg2 hj2 hf2
      generalize f.getD (best f) 0 = fb at *
      generalize takeAt f (coOf C c) = tk at *
      generalize stepF f (coOf C c) (loOf C c) = sf at *
      have hsz2 : W.heap.size < w2.heap.size := lt_of_cell g2
      gi_wp2_with fail
      refine wpIn_wide.2 ?_
      go_region
      rw [← htk.out]
      gi_wp2_with fail
      refine (callsIn_wide.2 (briefly_any (ctAt C c) _)).mono ?_
      rintro e w3 ⟨rfl, hb3⟩
      have hb3 : Below w2.heap.size w2 w3 := (Below.refl _ _).drew.trans hb3
      have hs3 := HS2.out.trans (SameOn.of_below hb3 (fun q hq => by have := HW.out q hq; omega))
      have hg3 := (hb3.block _ hsz2).trans HG2.out
      have hj3 := (HJ.out _).turn _ _ _ (fun q hq => by have := HT.out q hq; omega) (by omega) HJ2.out (Turn.of_below hb3)
      have g3 : w3.cell? ⟨W.heap.size, best f, none⟩ = some (iv fb) := kcellQ hb3 g2
      have h3 : w3.frozen? ⟨W.heap.size, best f, none⟩ = false := frozen_of_row _ _ _ _ _ hg3
      have hsz3 : W.heap.size < w3.heap.size := lt_of_cell g3
      obtain ⟨W4, hW4⟩ : ∃ W4 : World, w3.setCell ⟨W.heap.size, best f, none⟩ (iv (tk + (ctAt C c).lo)) = W4 := ⟨_, rfl⟩
      have ht4 : Turn T w3 W4 := by rw [← hW4]; exact turn_setQ hTg _ _
      have hg4 : W4.heap[W.heap.size]? = some (.cells (rowI sf) 3 (0, 0)) := by rw [← hW4, heap_setCell_same _ _ _ _ _ _ hg3, rowI_set, HSF.out]; rfl
      have hs4 : SameOn S W W4 := by
        rw [← hW4]; exact hs3.setCell (p := ⟨W.heap.size, best f, none⟩) (fun h => by have := HW.out _ h; simp at this) _
      have hj4 := (HJ.out _).turn _ _ _ (fun q hq => by have := HT.out q hq; omega) (by omega) hj3 ht4
      have hz4 : W4.heap.size = w3.heap.size := by rw [← hW4]; simp [World.setCell]
      have g4 : W4.cell? ⟨W.heap.size, best f, none⟩ = some (iv (tk + (ctAt C c).lo)) := by rw [← hW4]; exact World.cell?_setCell_same' _ _ _ (by rw [g3]; rfl)
      have HS4 := Lib.hid hs4; have HG4 := Lib.hid hg4; have HZ4 := Lib.hid hz4
      have hpre : (pre ++ [(c, tk, tk + loOf C c)]) <+: xs := ⟨_, HXC.out.symm⟩
      obtain ⟨fn, tmps, assign, body, hy, hR⟩ := HY.out T _ _ W4 (fun q hq => by have := HT.out q hq; omega) hpre hj4 (by omega) (fun q hq => by have := HT.out q hq; omega)
      have HR := Lib.hid hR
      unfold encV loOf at hy
      dsimp only at hy
      clear hb3 hs3 hg3 hj3 ht4 hg4 hs4 hj4 hz4 hR hpre g2 h2 c0 c1 c2 c3 s2
      gi_wp2_with fail
      refine HR.out.mono ?_
      rintro e w5 (⟨rfl, hj5, hk5⟩ | ⟨rfl, hx5, hk5⟩)
      · have HJ5 := Lib.hid hj5
        have HS5 := Lib.hid (HS4.out.trans (hk5.mono (fun _ h => .inl h)))
        have HG5 := Lib.hid ((hk5.block W.heap.size (.inr hTg)).trans HG4.out)
        clear hj5 hk5 hy hW4 g4 g3 h3
        gi_wp2_with fail
        go_roundw
        case rel => exact ⟨i + 1, sf, _, by omega, by go_num, HXC.out, hsl, HF2, HS5.out, HJ5.out, HG5.out⟩
        case measure => simp [intOf]; omega
      · have HX5 := Lib.hid hx5
        have HZ5 := Lib.hid (show W.heap.size ≤ w5.heap.size from by have := hk5.size; have := HZ4.out; omega)
        clear hx5 hk5 hy hW4 g4 g3 h3
        gi_wp2_with fail
        refine bodyPost_ret (results_none rfl _ _ _) rfl ?_
        exact ⟨⟨_, rfl⟩, HZ5.out, .inr (HX.out.ext _ _ _ HX5.out (fun _ h => h.elim))⟩
    · obtain rfl : i = o.length := by omega
      have HXE : Hid (xs = pre) := by have := HXK.out; rw [List.drop_length] at this; simpa [Hid, visL] using this
      gi_wp2_with fail
      go_end0
      exact ⟨⟨_, rfl⟩, hsw, .inl (by rw [HXE.out]; exact (HJ.out _).ext _ _ _ HJr.out (fun _ h => h.elim))⟩
set_option maxRecDepth 20000 in
set_option maxHeartbeats 12800000 in
theorem visitsHi_seq (S : Nat → Prop) (bq bs : Nat) (hSq : S bq) (hSs : S bs) (C : List Ct) (o : List Nat) (ca oa : Option Addr) (cc oc k : Nat) (rv : Value) (w0 : World) (hS : ∀ j, S j → j < w0.heap.size)
    (hq : w0.heap[bq]? = some (.cells #[.slice ca C.length cc, rv, iv k, .slice oa o.length oc] 73 (0, 0))) (hs : w0.heap[bs]? = some (.cells #[.func (.func 22) #[] #[]] 97 (0, 0)))
    (hC : ∀ W, SameOn S w0 W → SliceOf encC 4 W (.slice ca C.length cc) C) (hO : ∀ W, SameOn S w0 W → Ints W (.slice oa o.length oc) (ordI o)) (ho : ∀ x ∈ o, x < C.length) (hk : 1 ≤ k ∧ k ≤ 1000) (hl : o.length ≤ 1000) (hok : CtOk C) :
    SeqL Try.prog 36 #[.pointer (some ⟨bq, 0, none⟩), .pointer (some ⟨bs, 0, none⟩)] encV S (visL (coOf C) (hiOf C) (List.replicate k 0) o) w0 := by
  intro n l J Jx W hW hJ hJx hY h0
  have HC : Hid (∀ wr, SameOn S W wr → SliceOf encC 4 wr (.slice ca C.length cc) C) := fun wr h => hC wr (hW.trans h)
  have HO : Hid (∀ wr, SameOn S W wr → Ints wr (.slice oa o.length oc) (ordI o)) := fun wr h => hO wr (hW.trans h)
  have HQ : Hid (∀ wr, SameOn S W wr → wr.heap[bq]? = some (.cells #[.slice ca C.length cc, rv, iv k, .slice oa o.length oc] 73 (0, 0))) := fun wr h => ((hW.trans h).block bq hSq).trans hq
  have HF : Hid (∀ wr, SameOn S W wr → wr.heap[bs]? = some (.cells #[.func (.func 22) #[] #[]] 97 (0, 0))) := fun wr h => ((hW.trans h).block bs hSs).trans hs
  have HW := Lib.hid (show ∀ j, S j → j < W.heap.size from fun j hj => Nat.lt_of_lt_of_le (hS j hj) hW.size)
  have HY := Lib.hid hY; have HJ := Lib.hid hJ; have HX := Lib.hid hJx; have HJ0 := Lib.hid h0
  have HX0 := Lib.hid ho; have HK := Lib.hid hok
  have HBS : Hid (bq < W.heap.size ∧ bs < W.heap.size) := ⟨HW.out bq hSq, HW.out bs hSs⟩
  clear hC hO hq hs hS hW hSq hSs hY hJ hJx h0 ho hok
  obtain ⟨xs, hxs⟩ : ∃ xs, xs = visL (coOf C) (hiOf C) (List.replicate k 0) o := ⟨_, rfl⟩
  rw [← hxs] at HY ⊢
  have HXS := Lib.hid hxs; clear hxs
  obtain ⟨i0, hi, hz0, hz1, hz2⟩ := info_parts info3
  have HI := Lib.hid hi; have HZ0 := Lib.hid hz0; have HZ1 := Lib.hid hz1
  have HBY := Lib.hid (show i0.bytes * k ≤ 281474976710656 by rw [hz2]; omega)
  have HML := Lib.hid (show k ≤ maxLen by unfold maxLen; omega)
  clear hi hz0 hz1 hz2
  have q0 := HQ.out W (SameOn.refl _ _)
  have v0 : W.cell? ⟨bq, 0, none⟩ = some (.slice ca C.length cc) := by rw [cell_of_row _ _ _ _ _ _ q0]; rfl
  have v2 : W.cell? ⟨bq, 2, none⟩ = some (iv k) := by rw [cell_of_row _ _ _ _ _ _ q0]; rfl
  have v3 : W.cell? ⟨bq, 3, none⟩ = some (.slice oa o.length oc) := by rw [cell_of_row _ _ _ _ _ _ q0]; rfl
  clear q0
  refine callsIn_of_wp Try.func36 rfl trivial ?_ rfl
  simp only [Try.ntmps36, List.size_toArray, List.length_cons, List.length_nil, Nat.reduceAdd, Nat.reduceSub, Array.replicate_succ, Array.replicate_zero, List.push_toArray, List.append_toArray, List.nil_append, List.cons_append]
  refine wpIn_seq ?_
  refine wpIn_wide.2 ?_
  go_wp2_with (with_reducible change wpList _ _ _ (Oper.mk _ (Op.makeSlice 24 _ _) _ _ _ _ :: _) _ _; refine wpList_make_full _ rfl _ _ 24 rfl W.heap.size 3 i0 (.int .i64 0) 1 Try.underlying24 HI.out HZ0.out HZ1.out .i64 .i64 k k k rfl rfl rfl rfl HBY.out HML.out (Nat.le_refl _) ?_; intro w1 hown hgrow)
  have hg0 : w1.heap[W.heap.size]? = some (.cells (rowI (List.replicate k 0)) 3 (0, 0)) := by
    have := heap_ownsI hown
    rw [made_row] at this
    exact this
  have hB1 : Below W.heap.size W w1 := ⟨hgrow.os, hgrow.tape, hgrow.output, hgrow.size, fun q hq => hgrow.block q hq (by simp)⟩
  clear hown hgrow v0 v2 v3
  obtain ⟨T, hT⟩ : ∃ T : Nat → Prop, T = fun q => q = W.heap.size := ⟨_, rfl⟩
  have hTg : T W.heap.size := by rw [hT]
  have HT : Hid (∀ q, T q → q = W.heap.size) := by intro q hq; rwa [hT] at hq
  clear hT
  have HJ1 : Hid (J T [] w1) := (HJ.out _).turn _ _ _ (fun q hq => by have := HT.out q hq; omega) (Nat.le_refl _) ((HJ.out _).ext _ _ _ HJ0.out (fun q hq => .inr (by have := HT.out q hq; omega))) (Turn.of_below hB1)
  have HS1 : Hid (SameOn S W w1) := SameOn.of_below hB1 HW.out
  have HG1 := Lib.hid hg0
  have q0 := HQ.out w1 HS1.out
  have v3 : w1.cell? ⟨bq, 3, none⟩ = some (.slice oa o.length oc) := by rw [cell_of_row _ _ _ _ _ _ q0]; rfl
  clear q0 hg0 hB1
  gi_wp2_with fail
  clear v3
  gi_loopw [16] (fun x wr => ∃ (i : Nat) (f : List Int) (pre : List (Nat × Int × Int)), i ≤ o.length ∧ x = iv i ∧ Hid (xs = pre ++ visL (coOf C) (hiOf C) f (o.drop i)) ∧ f.length = k ∧ FrOk f i ∧ SameOn S W wr ∧ J T pre wr ∧ wr.heap[W.heap.size]? = some (.cells (rowI f) 3 (0, 0))) (fun x _ => o.length - (intOf x).toNat)
  case atStart => exact ⟨0, _, [], Nat.zero_le _, rfl, HXS.out, by simp, FrOk.zero k, HS1.out, HJ1.out, HG1.out⟩
  case round =>
    obtain ⟨i, f, pre, hi, rfl, HXK, hfl, hfr, hsr, hjr, hgr⟩ := hrel
    have HSr := Lib.hid hsr; have HJr := Lib.hid hjr; have HGr := Lib.hid hgr; have HFr := Lib.hid hfr
    clear hsr hjr hgr hfr
    subst hfl
    have hsw : W.heap.size ≤ wr.heap.size := HSr.out.size
    have hgl : W.heap.size < wr.heap.size := (Array.getElem?_eq_some_iff.1 HGr.out).1
    by_cases hlt : i < o.length
    · obtain ⟨c, hc⟩ := getElem?_of_lt hlt
      have hcC := HX0.out c (List.mem_of_getElem? hc)
      obtain ⟨k1, k2, k3, k4, k5, k6, k7, k8⟩ := HK.out c hcC
      have HXC : Hid (xs = (pre ++ [(c, takeAt f (coOf C c), takeAt f (coOf C c) + hiOf C c)]) ++ visL (coOf C) (hiOf C) (stepF f (coOf C c) (hiOf C c)) (o.drop (i + 1))) := by
        have := HXK.out
        obtain ⟨hk', he⟩ := List.getElem?_eq_some_iff.1 hc
        rw [List.drop_eq_getElem_cons hk', he] at this
        rw [this]; simp [Hid, visL]
      obtain ⟨t1, t2, HF2⟩ := HFr.out.step (c := coOf C c) (s := hiOf C c) (by omega) ⟨by unfold coOf; omega, by unfold coOf; omega⟩ ⟨by unfold hiOf; omega, by unfold hiOf; omega⟩
      have hbl := best_lt (f := f) (by omega)
      have hbv := HFr.out _ hbl
      have htk : Hid (takeAt f (coOf C c) = if coOf C c < f.getD (best f) 0 then f.getD (best f) 0 else coOf C c) := by
        unfold Hid takeAt; split <;> omega
      have HSF : Hid (stepF f (coOf C c) (hiOf C c) = f.set (best f) (takeAt f (coOf C c) + hiOf C c)) := rfl
      have hsl : (stepF f (coOf C c) (hiOf C c)).length = f.length := stepF_len _ _ _
      have hO1 := HO.out wr HSr.out
      obtain ⟨ob, oo, rfl⟩ := slice_addr hO1 (by simp [ordI]; omega)
      have x0 : wr.cell? ⟨ob, oo + i, none⟩ = some (iv c) := int_cell hO1 (by simp [ordI, hc])
      have hC1 := HC.out wr HSr.out
      obtain ⟨cb, co, rfl⟩ := slice_addr hC1 (by omega)
      obtain ⟨y0, y1, y2, y3⟩ := cloth_cells hC1 hcC
      have q0 := HQ.out wr HSr.out
      have v0 : wr.cell? ⟨bq, 0, none⟩ = some (.slice (some ⟨cb, co, none⟩) C.length cc) := by rw [cell_of_row _ _ _ _ _ _ q0]; rfl
      have v1 : wr.cell? ⟨bq, 1, none⟩ = some rv := by rw [cell_of_row _ _ _ _ _ _ q0]; rfl
      have v2 : wr.cell? ⟨bq, 2, none⟩ = some (iv f.length) := by rw [cell_of_row _ _ _ _ _ _ q0]; rfl
      have v3 : wr.cell? ⟨bq, 3, none⟩ = some (.slice (some ⟨ob, oo, none⟩) o.length oc) := by rw [cell_of_row _ _ _ _ _ _ q0]; rfl
      clear hO1 hC1 q0
      have hbq : bq < wr.heap.size := Nat.lt_of_lt_of_le HBS.out.1 hsw
      obtain ⟨Wn, hWn⟩ : ∃ Wn : World, wr.alloc (.cells #[iv (ctAt C c).we, iv (ctAt C c).co, iv (ctAt C c).lo, iv (ctAt C c).hi] 49) = Wn := ⟨_, rfl⟩
      have hBn : Below wr.heap.size wr Wn := by rw [← hWn]; exact bpush (Below.refl _ _) _
      have hzn : Wn.heap.size = wr.heap.size + 1 := by rw [← hWn]; simp
      have hcn : Wn.heap[wr.heap.size]? = some (.cells #[iv (ctAt C c).we, iv (ctAt C c).co, iv (ctAt C c).lo, iv (ctAt C c).hi] 49 (0, 0)) := by rw [← hWn]; exact heap_new _ _ _
      have hgn : Wn.heap[W.heap.size]? = some (.cells (rowI f) 3 (0, 0)) := (hBn.block _ hgl).trans HGr.out
      have z0 := kcellQ hBn v0
      have z1 := kcellQ hBn v1
      have z2 := kcellQ hBn v2
      have z3 := kcellQ hBn v3
      have HBn := Lib.hid hBn; have HZn := Lib.hid hzn; have HCn := Lib.hid hcn; have HGn := Lib.hid hgn
      clear hBn hzn hcn hgn
      gi_wp2_with fail
      clear x0 y0 y1 y2 y3 v0 v1 v2 v3 z0 z1 z2 z3 hWn
      refine (callsIn_wide.2 (first_any _ _ _ f _ _ _ (by omega) HGn.out)).mono ?_
      rintro e w2 ⟨rfl, hb2⟩
      have hb3 : Below wr.heap.size wr w2 := bstep HBn.out hb2
      have hs2 : SameOn S W w2 := HSr.out.trans (SameOn.of_below hb3 (fun q hq => Nat.lt_of_lt_of_le (HW.out q hq) hsw))
      have hc2 := (hb2.block wr.heap.size (by have := HZn.out; omega)).trans HCn.out
      have hg2 := (hb3.block _ hgl).trans HGr.out
      have hj2 := (HJ.out _).turn _ _ _ (fun q hq => by have := HT.out q hq; omega) hsw HJr.out (Turn.of_below hb3)
      have HS2 := Lib.hid hs2; have HC2 := Lib.hid hc2; have HG2 := Lib.hid hg2; have HJ2 := Lib.hid hj2
      have hf2 := HF.out w2 hs2
      have c0 : w2.cell? ⟨wr.heap.size, 0, none⟩ = some (iv (ctAt C c).we) := by rw [cell_of_row _ _ _ _ _ _ hc2]; rfl
      have c1 : w2.cell? ⟨wr.heap.size, 1, none⟩ = some (iv (coOf C c)) := by rw [cell_of_row _ _ _ _ _ _ hc2]; rfl
      have c2 : w2.cell? ⟨wr.heap.size, 2, none⟩ = some (iv (ctAt C c).lo) := by rw [cell_of_row _ _ _ _ _ _ hc2]; rfl
      have c3 : w2.cell? ⟨wr.heap.size, 3, none⟩ = some (iv (ctAt C c).hi) := by rw [cell_of_row _ _ _ _ _ _ hc2]; rfl
      have g2 : w2.cell? ⟨W.heap.size, best f, none⟩ = some (iv (f.getD (best f) 0)) := cell_rowI hg2 hbl
      have h2 : w2.frozen? ⟨W.heap.size, best f, none⟩ = false := frozen_of_row _ _ _ _ _ hg2
      have s2 : w2.cell? ⟨bs, 0, none⟩ = some (.func (.func 22) #[] #[]) := by rw [cell_of_row _ _ _ _ _ _ hf2]; rfl
      clear hb2 hb3 hs2 hc2 hg2 hj2 hf2
      generalize f.getD (best f) 0 = fb at *
      generalize takeAt f (coOf C c) = tk at *
      generalize stepF f (coOf C c) (hiOf C c) = sf at *
      have hsz2 : W.heap.size < w2.heap.size := lt_of_cell g2
      gi_wp2_with fail
      refine wpIn_wide.2 ?_
      go_region
      rw [← htk.out]
      gi_wp2_with fail
      refine (callsIn_wide.2 (long_any (ctAt C c) _)).mono ?_
      rintro e w3 ⟨rfl, hb3⟩
      have hb3 : Below w2.heap.size w2 w3 := (Below.refl _ _).drew.trans hb3
      have hs3 := HS2.out.trans (SameOn.of_below hb3 (fun q hq => by have := HW.out q hq; omega))
      have hg3 := (hb3.block _ hsz2).trans HG2.out
      have hj3 := (HJ.out _).turn _ _ _ (fun q hq => by have := HT.out q hq; omega) (by omega) HJ2.out (Turn.of_below hb3)
      have g3 : w3.cell? ⟨W.heap.size, best f, none⟩ = some (iv fb) := kcellQ hb3 g2
      have h3 : w3.frozen? ⟨W.heap.size, best f, none⟩ = false := frozen_of_row _ _ _ _ _ hg3
      have hsz3 : W.heap.size < w3.heap.size := lt_of_cell g3
      obtain ⟨W4, hW4⟩ : ∃ W4 : World, w3.setCell ⟨W.heap.size, best f, none⟩ (iv (tk + (ctAt C c).hi)) = W4 := ⟨_, rfl⟩
      have ht4 : Turn T w3 W4 := by rw [← hW4]; exact turn_setQ hTg _ _
      have hg4 : W4.heap[W.heap.size]? = some (.cells (rowI sf) 3 (0, 0)) := by rw [← hW4, heap_setCell_same _ _ _ _ _ _ hg3, rowI_set, HSF.out]; rfl
      have hs4 : SameOn S W W4 := by
        rw [← hW4]; exact hs3.setCell (p := ⟨W.heap.size, best f, none⟩) (fun h => by have := HW.out _ h; simp at this) _
      have hj4 := (HJ.out _).turn _ _ _ (fun q hq => by have := HT.out q hq; omega) (by omega) hj3 ht4
      have hz4 : W4.heap.size = w3.heap.size := by rw [← hW4]; simp [World.setCell]
      have g4 : W4.cell? ⟨W.heap.size, best f, none⟩ = some (iv (tk + (ctAt C c).hi)) := by rw [← hW4]; exact World.cell?_setCell_same' _ _ _ (by rw [g3]; rfl)
      have HS4 := Lib.hid hs4; have HG4 := Lib.hid hg4; have HZ4 := Lib.hid hz4
      have hpre : (pre ++ [(c, tk, tk + hiOf C c)]) <+: xs := ⟨_, HXC.out.symm⟩
      obtain ⟨fn, tmps, assign, body, hy, hR⟩ := HY.out T _ _ W4 (fun q hq => by have := HT.out q hq; omega) hpre hj4 (by omega) (fun q hq => by have := HT.out q hq; omega)
      have HR := Lib.hid hR
      unfold encV hiOf at hy
      dsimp only at hy
      clear hb3 hs3 hg3 hj3 ht4 hg4 hs4 hj4 hz4 hR hpre g2 h2 c0 c1 c2 c3 s2
      gi_wp2_with fail
      refine HR.out.mono ?_
      rintro e w5 (⟨rfl, hj5, hk5⟩ | ⟨rfl, hx5, hk5⟩)
      · have HJ5 := Lib.hid hj5
        have HS5 := Lib.hid (HS4.out.trans (hk5.mono (fun _ h => .inl h)))
        have HG5 := Lib.hid ((hk5.block W.heap.size (.inr hTg)).trans HG4.out)
        clear hj5 hk5 hy hW4 g4 g3 h3
        gi_wp2_with fail
        go_roundw
        case rel => exact ⟨i + 1, sf, _, by omega, by go_num, HXC.out, hsl, HF2, HS5.out, HJ5.out, HG5.out⟩
        case measure => simp [intOf]; omega
      · have HX5 := Lib.hid hx5
        have HZ5 := Lib.hid (show W.heap.size ≤ w5.heap.size from by have := hk5.size; have := HZ4.out; omega)
        clear hx5 hk5 hy hW4 g4 g3 h3
        gi_wp2_with fail
        refine bodyPost_ret (results_none rfl _ _ _) rfl ?_
        exact ⟨⟨_, rfl⟩, HZ5.out, .inr (HX.out.ext _ _ _ HX5.out (fun _ h => h.elim))⟩
    · obtain rfl : i = o.length := by omega
      have HXE : Hid (xs = pre) := by have := HXK.out; rw [List.drop_length] at this; simpa [Hid, visL] using this
      gi_wp2_with fail
      go_end0
      exact ⟨⟨_, rfl⟩, hsw, .inl (by rw [HXE.out]; exact (HJ.out _).ext _ _ _ HJr.out (fun _ h => h.elim))⟩
end Go.Proofs.Ythkmklfmobenaaa
