/- Levels of package stream. -/
import Derived.Test.YtfpbfhjfhfmanacUb
import Derived.Test.YtfpbfhjfhfmanacSm
namespace Go.Proofs.Ytfpbfhjfhfmanac
open Go Go.RowKit Go.Shelf
attribute [local go_sem] Oper.semAt_some
attribute [local go_sem ↓] Go.wp_at_zero Go.wp_at_succ

theorem Owns.bl {α : Type} {enc : α → List Value} {sz e base : Nat} {w : World} {v : Value} {xs : List α} (h : Owns enc sz e base w v xs) (hne : 0 < xs.length) : ∃ g c, v = .slice (some ⟨g, 0, none⟩) xs.length c ∧ base ≤ g ∧ ∃ cur, w.heap[g]? = some (.cells cur e (0, 0)) := by
  obtain ⟨h1, h2⟩ := h
  rcases h2 with ⟨rfl, h0⟩ | ⟨g, cap, cur, rfl, hb, hg, -⟩
  · omega
  · exact ⟨g, _, rfl, hb, cur, hg⟩
/-- Levels: both ends of each hour, the upper ends of the first j hours. -/
def zipTo (A B : List Int) (j : Nat) : List Sp := (List.range A.length).map fun i => (A.getD i 0, if i < j then B.getD i 0 else 0)
theorem zipTo_len (A B : List Int) (j : Nat) : (zipTo A B j).length = A.length := by simp [zipTo]
theorem zipTo_zero (A B : List Int) : zipTo A B 0 = A.map fun l => ((l, 0) : Sp) := by
  apply List.ext_getElem?
  intro i
  simp only [zipTo, List.getElem?_map]
  by_cases h : i < A.length
  · rw [List.getElem?_range h, List.getElem?_eq_getElem h]
    simp [List.getD, List.getElem?_eq_getElem h]
  · rw [List.getElem?_eq_none (by simp; omega), List.getElem?_eq_none (by omega)]; rfl
theorem zipTo_get {A B : List Int} {j : Nat} (hj : j < A.length) : (zipTo A B j)[j]? = some (A.getD j 0, 0) := by
  simp [zipTo, List.getElem?_range hj]
theorem zipTo_succ {A B : List Int} {j : Nat} {b : Int} (hj : j < A.length) (hb : B[j]? = some b) : zipTo A B (j + 1) = (zipTo A B j).set j (A.getD j 0, b) := by
  apply List.ext_getElem?
  intro i
  rw [List.getElem?_set]
  simp only [zipTo, List.getElem?_map, List.length_map, List.length_range]
  by_cases e : j = i
  · subst e
    rw [if_pos rfl, if_pos hj, List.getElem?_range hj]
    simp [List.getD, hb]
  · rw [if_neg e]
    by_cases h : i < A.length
    · rw [List.getElem?_range h]
      have : (i < j + 1) ↔ (i < j) := by omega
      simp [this]
    · rw [List.getElem?_eq_none (by simp; omega)]; rfl
theorem flat_set : ∀ (xs : List Sp) (j : Nat) (p : Sp) (b : Int), xs[j]? = some p → (xs.flatMap encS).set (j * 2 + 1) (iv b) = (xs.set j (p.1, b)).flatMap encS
  | [], j, p, b, h => by simp at h
  | x :: xs, 0, p, b, h => by
    simp only [List.getElem?_cons_zero, Option.some.injEq] at h; subst h
    rfl
  | x :: xs, j + 1, p, b, h => by
    simp only [List.getElem?_cons_succ] at h
    rw [List.set_cons_succ, List.flatMap_cons, List.flatMap_cons, ← flat_set xs j p b h]
    obtain ⟨x0, x1⟩ := x
    show ([iv x0, iv x1] ++ xs.flatMap encS).set ((j + 1) * 2 + 1) (iv b) = _
    rw [show (j + 1) * 2 + 1 = (j * 2 + 1) + 1 + 1 by omega]
    rfl

theorem sl_cellI {w : World} {g n c k : Nat} {L : List Int} {x : Int} (h : SliceOf encI 1 w (.slice (some ⟨g, 0, none⟩) n c) L) (hk : L[k]? = some x) : w.cell? ⟨g, k, none⟩ = some (iv x) := by
  obtain ⟨a', c', hv, -, hc⟩ := h
  obtain ⟨gb, go, ha, hj⟩ := hc k x hk
  simp only [Value.slice.injEq] at hv
  have e := hv.1.trans ha
  simp only [Option.some.injEq, Addr.mk.injEq] at e
  obtain ⟨rfl, rfl, -⟩ := e
  have h0 := hj 0 _ rfl
  simp only [Nat.zero_add, Nat.add_zero, Nat.mul_one] at h0
  exact h0
theorem sl_cellsSb {w : World} {g n c k : Nat} {L : List Sp} {p : Sp} (h : SliceOf encS 2 w (.slice (some ⟨g, 0, none⟩) n c) L) (hk : L[k]? = some p) : w.cell? ⟨g, k * 2, none⟩ = some (iv p.1) ∧ w.cell? ⟨g, k * 2 + 1, none⟩ = some (iv p.2) := by
  obtain ⟨a', c', hv, -, hc⟩ := h
  obtain ⟨gb, go, ha, hj⟩ := hc k p hk
  simp only [Value.slice.injEq] at hv
  have e := hv.1.trans ha
  simp only [Option.some.injEq, Addr.mk.injEq] at e
  obtain ⟨rfl, rfl, -⟩ := e
  have h0 := hj 0 _ rfl
  have h1 := hj 1 _ rfl
  simp only [Nat.zero_add, Nat.add_zero] at h0 h1
  exact ⟨h0, h1⟩
theorem results_two_tmp {P : Program} {fn : Func} {p q : Tmp} (h : fn.results = #[.tmp p, .tmp q]) (tmps : Array Value) (w : World) : (results fn tmps).run P w = .ok (.tuple #[tmps.getD p undef, tmps.getD q undef]) w := by
  simp [results, h]
theorem row1b {W : World} {b : Nat} {v : Value} {t : TypeId} (h : W.heap[b]? = some (.cells #[v] t (0, 0))) : W.cell? ⟨b, 0, none⟩ = some v ∧ W.frozen? ⟨b, 0, none⟩ = false := by
  refine ⟨?_, ?_⟩
  · rw [cell_of_row _ _ _ _ _ _ h]; rfl
  · unfold World.frozen?; rw [h]; rfl
def levErr (m : Ml) (F : List Sp) (plan : List Int) : Int := if rightB m F plan = true then 0 else 9
def levL (m : Ml) (F : List Sp) (plan : List Int) : List Sp := if rightB m F plan = true then zipTo (lvOf Prod.fst m F plan) (lvOf Prod.snd m F plan) plan.length else []

set_option maxRecDepth 20000 in
set_option maxHeartbeats 12800000 in
theorem Levels_good (m : Ml) (F : List Sp) (plan : List Int) (fv pv : Value) (w : World) (hc : sChk m F = 0) (hpl : vPlan m.k plan F.length F.length = true) (hf : SliceOf encS 2 w fv F) (hp : Ints w pv plan) :
    Calls Try.prog 5 #[.agg (encMl m).toArray, fv, pv] w (SpansRes (levL m F plan) (levErr m F plan) w) := by
  have HF := Lib.hid hf; have HP := Lib.hid hp
  obtain ⟨fa, fc, rfl, hfl, -⟩ := hf
  obtain ⟨pa, pc, rfl, hpl2, -⟩ := hp
  have HO := Lib.hid (fun w h1 h2 => openRight_good m F plan (.slice fa F.length fc) (.slice pa plan.length pc) w hc hpl h1 h2)
  cases hr : rightB m F plan
  · have HE : Hid (levErr m F plan = 9) := by simp [Hid, levErr, hr]
    have HL : Hid (levL m F plan = []) := by simp [Hid, levL, hr]
    have hq : openR m F plan (.slice fa F.length fc) = .tuple #[.agg zv, iv 9] := by simp [openR, hr]
    rw [hq] at HO
    clear hr hq hc hpl
    obtain ⟨kk, t, bl, bh, h, nl, nh⟩ := m
    simp only [encMl, zv] at *
    go_enter Try.func5, Try.ntmps5
    go_wp2_with fail
    refine (HO.out _ (HF.out.below (by repeat (first | exact Below.refl _ _ | refine Below.drew ?_ | refine bpush ?_ _ | refine bput ?_ (by simp) _ | (refine bstep ?_ (by assumption))))) (HP.out.below (by repeat (first | exact Below.refl _ _ | refine Below.drew ?_ | refine bpush ?_ _ | refine bput ?_ (by simp) _ | (refine bstep ?_ (by assumption)))))).mono ?_
    rintro e w1 ⟨rfl, hb⟩
    have HB := Lib.hid (show Below w.heap.size w w1 from bstep (by repeat (first | exact Below.refl _ _ | refine Below.drew ?_ | refine bpush ?_ _ | refine bput ?_ (by simp) _ | (refine bstep ?_ (by assumption)))) hb)
    clear hb
    go_wp2_with fail
    go_ret2
    exact ⟨_, by rw [HE.out]; rfl, by rw [HL.out]; exact Owns.nil _ _ _ _ _, bpush HB.out _⟩
  · have HE : Hid (levErr m F plan = 0) := by simp [Hid, levErr, hr]
    have HL : Hid (levL m F plan = zipTo (lvOf Prod.fst m F plan) (lvOf Prod.snd m F plan) plan.length) := by simp [Hid, levL, hr]
    have hq : openR m F plan (.slice fa F.length fc) = .tuple #[.agg (vcells m (.slice fa F.length fc)), iv 0] := by simp [openR, hr]
    rw [hq] at HO
    obtain ⟨hm, hl24, hl0, hFv⟩ := sChk_zero hc
    obtain ⟨hq2, hP⟩ := vPlan_iff.1 hpl
    have hP8 := plan8 (vMill_iff.1 hm).1.2 hP
    have hn1 : (lvOf Prod.fst m F plan).length = plan.length := by simpa [rightB] using hr
    have hn2 : (lvOf Prod.snd m F plan).length = plan.length := by
      have h1 := lvOf_len Prod.snd m F plan
      have h2 : (lvOf Prod.fst m F plan).length ≤ (lvOf Prod.snd m F plan).length := lvs_mono F plan _ _ (fun p hp => (okSpan_iff.1 (List.all_eq_true.1 hFv p hp)).2.2.2.2) (vMill_iff.1 hm).2.2.2.2.2.2.2.2
      omega
    have HLO := Lib.hid (lowest_any m (.slice fa F.length fc) pa plan.length pc)
    have HHI := Lib.hid (highest_any m (.slice fa F.length fc) pa plan.length pc)
    have HSQ1 : Hid (∀ (S : Nat → Prop) (be bv bp : Nat) (w0 : World), S be → S bv → S bp → (∀ k, S k → k < w0.heap.size) → LvBox w0 be bv bp 21 m (.slice fa F.length fc) (.slice pa plan.length pc) → (∀ W, SameOn S w0 W → SliceOf encS 2 W (.slice fa F.length fc) F) → (∀ W, SameOn S w0 W → Ints W (.slice pa plan.length pc) plan) →
      SeqL Try.prog 30 #[.pointer (some ⟨be, 0, none⟩), .pointer (some ⟨bv, 0, none⟩), .pointer (some ⟨bp, 0, none⟩)] (fun (x : Int) => #[iv x]) S (lvOf Prod.fst m F plan) w0) :=
      fun S be bv bp w0 h1 h2 h3 h4 h5 h6 h7 => levels_seq S be bv bp h1 h2 h3 m _ _ F plan _ Prod.fst (enters_of Try.func21 (by kernel_rfl) rfl) low1_any (fun p hi h1 h2 h3 h4 => ⟨h1, h2⟩) hm hFv hP8 (by omega) w0 h4 h5 h6 h7
    have HSQ2 : Hid (∀ (S : Nat → Prop) (be bv bp : Nat) (w0 : World), S be → S bv → S bp → (∀ k, S k → k < w0.heap.size) → LvBox w0 be bv bp 23 m (.slice fa F.length fc) (.slice pa plan.length pc) → (∀ W, SameOn S w0 W → SliceOf encS 2 W (.slice fa F.length fc) F) → (∀ W, SameOn S w0 W → Ints W (.slice pa plan.length pc) plan) →
      SeqL Try.prog 30 #[.pointer (some ⟨be, 0, none⟩), .pointer (some ⟨bv, 0, none⟩), .pointer (some ⟨bp, 0, none⟩)] (fun (x : Int) => #[iv x]) S (lvOf Prod.snd m F plan) w0) :=
      fun S be bv bp w0 h1 h2 h3 h4 h5 h6 h7 => levels_seq S be bv bp h1 h2 h3 m _ _ F plan _ Prod.snd (enters_of Try.func23 (by kernel_rfl) rfl) high1_any (fun p hi h1 h2 h3 h4 => ⟨h3, h4⟩) hm hFv hP8 (by omega) w0 h4 h5 h6 h7
    have hpl0 : 0 < plan.length := by omega
    have hpl24 : plan.length ≤ 24 := by omega
    generalize lvOf Prod.fst m F plan = A at *
    generalize lvOf Prod.snd m F plan = B at *
    clear hr hq hc hpl hm hFv hP hP8 hq2
    obtain ⟨i0, hi, hz0, hz1, hz2⟩ := info_parts info72
    have HI := Lib.hid hi; have HZ0 := Lib.hid hz0; have HZ1 := Lib.hid hz1; have HZ2 := Lib.hid hz2
    clear hi hz0 hz1 hz2
    obtain ⟨kk, t, bl, bh, h, nl, nh⟩ := m
    simp only [encMl, vcells] at *
    refine (callsIn_wide (n := 3)).1 ?_
    refine callsIn_of_wp_marks Try.func5 rfl trivial ?_ rfl
    simp only [Try.ntmps5, List.size_toArray, List.length_cons, List.length_nil, Nat.reduceAdd, Nat.reduceSub, Array.replicate_succ, Array.replicate_zero, List.push_toArray, List.append_toArray, List.nil_append, List.cons_append]
    gi_wp2_with fail
    refine (callsIn_wide.2 (HO.out _ (HF.out.below (by repeat (first | exact Below.refl _ _ | refine Below.drew ?_ | refine bpush ?_ _ | refine bput ?_ (by simp) _ | (refine bstep ?_ (by assumption))))) (HP.out.below (by repeat (first | exact Below.refl _ _ | refine Below.drew ?_ | refine bpush ?_ _ | refine bput ?_ (by simp) _ | (refine bstep ?_ (by assumption))))))).mono ?_
    rintro e w1 ⟨rfl, hb⟩
    have HB := Lib.hid (show Below w.heap.size w w1 from bstep (by repeat (first | exact Below.refl _ _ | refine Below.drew ?_ | refine bpush ?_ _ | refine bput ?_ (by simp) _ | (refine bstep ?_ (by assumption)))) hb)
    have hz1 : w.heap.size ≤ w1.heap.size := HB.out.size
    clear hb
    gi_wp2_with fail
    obtain ⟨Wn, hWn⟩ : ∃ Wn : World, ((w1.alloc (.cells #[.int .i64 kk, .int .i64 t, .int .i64 bl, .int .i64 bh, .int .i64 h, .int .i64 nl, .int .i64 nh, .slice fa F.length fc] 41)).alloc (.cells #[.slice none 0 0] 28)) = Wn := ⟨_, rfl⟩
    rw [hWn]
    have hbn : Below w1.heap.size w1 Wn := by rw [← hWn]; exact (by repeat (first | exact Below.refl _ _ | refine Below.drew ?_ | refine bpush ?_ _ | refine bput ?_ (by simp) _ | (refine bstep ?_ (by assumption))))
    have hzn : Wn.heap.size = w1.heap.size + 2 := by rw [← hWn]; simp
    have hrv : Wn.heap[w1.heap.size]? = some (.cells #[iv kk, iv t, iv bl, iv bh, iv h, iv nl, iv nh, .slice fa F.length fc] 41 (0, 0)) := by rw [← hWn]; exact heapC rfl
    have hrl : Wn.heap[w1.heap.size + 1]? = some (.cells #[.slice none 0 0] 28 (0, 0)) := by rw [← hWn]; exact heapA (by simp)
    have HBN := Lib.hid (bstep HB.out hbn)
    clear hWn hbn
    refine (callsIn_wide.2 (HLO.out _)).mono ?_
    rintro e w2 ⟨be, bv, bp, rfl, l1, l2, l3, hbox, hb2⟩
    have hrv2 := Lib.hid ((hb2.block w1.heap.size (by omega)).trans hrv)
    have hrl2 := Lib.hid ((hb2.block (w1.heap.size + 1) (by omega)).trans hrl)
    have HB2 := Lib.hid (bstep HBN.out hb2)
    have hze : be < w2.heap.size := (Array.getElem?_eq_some_iff.1 hbox.e).1
    have hzv : bv < w2.heap.size := (Array.getElem?_eq_some_iff.1 hbox.v).1
    have hzp : bp < w2.heap.size := (Array.getElem?_eq_some_iff.1 hbox.p).1
    have hzl : w1.heap.size + 1 < w2.heap.size := by omega
    have hzw2 : w.heap.size ≤ w2.heap.size := HB2.out.size
    have hsq := HSQ1.out (fun k => k < w.heap.size ∨ k = be ∨ k = bv ∨ k = bp) be bv bp w2 (.inr (.inl rfl)) (.inr (.inr (.inl rfl))) (.inr (.inr (.inr rfl))) (fun k hk => by rcases hk with h | h | h | h <;> omega) hbox
      (fun W hs => SliceOf.heapEq HF.out (fun k hk => (hs.block k (.inl hk)).trans (HB2.out.block k hk)))
      (fun W hs => SliceOf.heapEq HP.out (fun k hk => (hs.block k (.inl hk)).trans (HB2.out.block k hk)))
    clear hb2 hbox hrv hrl HSQ1 HLO HO
    gi_wp2_with fail
    refine rangeL (gf := 30) (lb := #[.pointer (some ⟨be, 0, none⟩), .pointer (some ⟨bv, 0, none⟩), .pointer (some ⟨bp, 0, none⟩)]) rfl (enters_of Try.func30 (by kernel_rfl) rfl) hsq (fun _ => rfl) (fun k hk => by rcases hk with h | h | h | h <;> omega)
      (fun T pre W => QInv encS 2 24 w.heap.size (w1.heap.size + 1) w2 w T (pre.map fun l => ((l, 0) : Sp)) W) (fun _ _ _ => False)
      (fun s => QInv.stable (by omega) hzl _) (fun c => ⟨fun _ _ _ h _ => h, fun _ _ _ _ _ h _ => h⟩) ⟨HB2.out, fun _ _ _ => rfl, ?_, .slice none 0 0, ?_, Owns.nil _ _ _ _ _, fun g hg => by cases hg⟩ ?round ?done ?stop
    · exact (row1b hrl2.out).2
    · exact (row1b hrl2.out).1
    case stop =>
      rintro T c W _ _ _ hf _
      exact hf.elim
    case round =>
      rintro l T pre x W hTl hTs hsz hpre hi K hK
      have HK := Lib.hid hK; clear hK
      have HQI := Lib.hid hi; clear hi
      have HTS := Lib.hid hTs; have HTL := Lib.hid hTl
      have hlp : pre.length + 1 ≤ 1000000 := by have := hpre.length_le; simp at this; omega
      clear hpre hTs hTl hsq
      gi_wp2_with fail
      refine HK.out _ _ (SameOn.refl _ _) ?_
      clear HK
      intro W2 hb2
      have hz2 : W2.heap.size = W.heap.size := hb2.size
      have HQ2 := Lib.hid (HQI.out.bump (show w.heap.size ≤ w1.heap.size + 1 by omega) hzl hsz HTL.out hb2.turn)
      have HTS2 : Hid (∀ k, T k → k < W2.heap.size) := fun k hk => by have := HTS.out k hk; omega
      obtain ⟨-, -, q3, v, q5, o2, n7⟩ := HQ2.out
      have HO2 := Lib.hid o2; have HA7 := Lib.hid n7
      clear hb2 o2 n7
      have hbb2 : Hid ((pre.map fun l => ((l, 0) : Sp)).length + 1 ≤ maxLen ∧ ((pre.map fun l => ((l, 0) : Sp)).length + 1) * 16 ≤ 140737488355328) := by simp [Hid]; unfold maxLen; omega
      have HQ5 := Lib.hid q5; have HQ3 := Lib.hid q3
      have l0 : w1.heap.size + 1 < W2.heap.size := lt_of_cell q5
      have HB3 : Hid (w2.heap.size ≤ (W2.alloc (.cells #[iv x, iv 0] 24)).heap.size) := by simp [Hid]; omega
      gi_wp2_with (gi_at_builtin; refine LI_appendB ((x, 0) : Sp) rfl _ _ 28 rfl Try.underlying28 HI.out HZ0.out HZ1.out HZ2.out rfl Nat.two_pos encS_len (encS_one _) rfl rfl (Owns.kept HO2.out (bpush (Below.refl _ _) _)) (encS_cell ?_ ?_) hbb2.out HB3.out ?_; go_simp; go_simp; intro v' w3 hown3 hg3 hob3; obtain ⟨a', c', rfl⟩ := hown3.len; have hkb := grown_keep hg3 l0 (fun g hg => Nat.le_trans (show w1.heap.size + 1 + 1 ≤ w2.heap.size by omega) (World.ownsRow.lt HO2.out g hg).1); have q6 : w3.cell? ⟨w1.heap.size + 1, 0, none⟩ = some v := (World.cell?_of_block hkb).trans HQ5.out; have q7 : w3.frozen? ⟨w1.heap.size + 1, 0, none⟩ = false := (World.frozen?_of_block hkb).trans HQ3.out)
      have hnx := QInv.next (show w.heap.size ≤ w1.heap.size + 1 by omega) hzl (show w2.heap.size ≤ W2.heap.size by omega) HTL.out HTS2.out HQ2.out HQ5.out HO2.out HA7.out hown3 hg3 hob3
      have hln9 : ((pre.map fun l => ((l, 0) : Sp)) ++ [((x, 0) : Sp)]).length = pre.length + 1 := by simp
      rw [hln9] at hnx
      refine ⟨hnx.2 _ (fun k hk => by rcases hk with h | h | h | h <;> omega), ?_⟩
      dsimp only
      rw [List.map_append]
      exact hnx.1
    case done =>
      rintro T W hTD hTl hsz hi hK
      rw [← zipTo_zero A B] at hi
      obtain ⟨a1, a2, a3, v, a5, a6, -⟩ := hi
      have hrow : W.heap[w1.heap.size]? = some (.cells #[iv kk, iv t, iv bl, iv bh, iv h, iv nl, iv nh, .slice fa F.length fc] 41 (0, 0)) := (a2 _ (by omega) (by omega)).trans hrv2.out
      obtain ⟨g, cap, rfl, hg2, cur, hgr⟩ := Owns.bl a6 (by rw [zipTo_len]; omega)
      rw [zipTo_len, hn1] at a5 a6
      obtain ⟨c0, c1, c2, c3, c4, c5, c6, c7⟩ := row8 hrow
      have hgm : g ≠ w2.heap.size := fun e => by rw [e, hK] at hgr; cases hgr
      have HA1 := Lib.hid a1; have HA5 := Lib.hid a5; have HA3 := Lib.hid a3; have HA6 := Lib.hid a6; have HKD := Lib.hid hK
      have HROW := Lib.hid hrow
      have hgl : g < W.heap.size := (Array.getElem?_eq_some_iff.1 hgr).1
      have hll : w1.heap.size + 1 < W.heap.size := lt_of_cell a5
      have hmk : w2.heap.size < W.heap.size := (Array.getElem?_eq_some_iff.1 hK).1
      clear a1 a2 a3 a5 a6 hK hrow hgr hsq
      gi_wp2_with fail
      refine (callsIn_wide.2 (HHI.out _)).mono ?_
      rintro e w3 ⟨be2, bv2, bp2, rfl, m1, m2, m3, hbox2, hb3⟩
      have HB3 := Lib.hid (bstep HA1.out hb3)
      have hlt : ∀ {b : Nat} {o : Obj}, w3.heap[b]? = some o → b < w3.heap.size := fun h => (Array.getElem?_eq_some_iff.1 h).1
      have HSQ := Lib.hid (HSQ2.out (fun k => k < w3.heap.size) be2 bv2 bp2 w3 (hlt hbox2.e) (hlt hbox2.v) (hlt hbox2.p) (fun k hk => hk) hbox2
        (fun W' hs => SliceOf.heapEq (HF.out.below HB3.out) (fun k hk => hs.block k hk)) (fun W' hs => SliceOf.heapEq (HP.out.below HB3.out) (fun k hk => hs.block k hk)))
      have HW3 := Lib.hid hb3
      clear hbox2 hb3 c0 c1 c2 c3 c4 c5 c6 c7
      gi_wp2_with fail
      refine (callsIn_wide.2 (collect_any _ _ (fun k => k < w3.heap.size) B w3 (enters_of Try.func30 (by kernel_rfl) rfl) HSQ.out (fun k hk => hk) (by omega))).mono ?_
      rintro e w4 ⟨vc, rfl, hoc, hb4⟩
      have hbW4 : Below W.heap.size W w4 := bstep HW3.out hb4
      obtain ⟨gc, cc, rfl, hgc, -⟩ := Owns.bl hoc (by omega)
      rw [hn2] at hoc ⊢
      have HOC := Lib.hid hoc
      have HR4 : Hid (w4.ownsRow w2.heap.size 24 2 (.slice (some ⟨g, 0, none⟩) plan.length cap) plan.length ((zipTo A B 0).flatMap encS)) := by
        have h1 : w4.ownsRow w2.heap.size 24 2 (.slice (some ⟨g, 0, none⟩) plan.length cap) (zipTo A B 0).length ((zipTo A B 0).flatMap encS) := Owns.kept HA6.out hbW4
        rw [zipTo_len, hn1] at h1; exact h1
      have HL4 : Hid (w4.heap[w1.heap.size + 1]? = W.heap[w1.heap.size + 1]?) := hbW4.block _ hll
      have HM4 : Hid (w4.heap[w2.heap.size]? = some (.deferred (some []))) := (hbW4.block _ hmk).trans HKD.out
      have HB4 := Lib.hid (bstep HA1.out hbW4)
      have hgw : g < w4.heap.size := Nat.lt_of_lt_of_le hgl hbW4.size
      have hgg : gc ≠ g := by have := HW3.out.size; omega
      have HN1 := Lib.hid hn1; have HN2 := Lib.hid hn2
      clear hoc hb4 hbW4 hn2
      gi_wp2_with fail
      gi_loopw [38] (fun i wr => ∃ j : Nat, j ≤ plan.length ∧ i = iv j ∧ Hid (wr.ownsRow w2.heap.size 24 2 (.slice (some ⟨g, 0, none⟩) plan.length cap) plan.length ((zipTo A B j).flatMap encS)) ∧ Hid (Owns encI 1 3 w3.heap.size wr (.slice (some ⟨gc, 0, none⟩) plan.length cc) B) ∧ Hid (wr.heap[w1.heap.size + 1]? = W.heap[w1.heap.size + 1]?) ∧ Hid (wr.heap[w2.heap.size]? = some (.deferred (some []))) ∧ Hid (Below w.heap.size w wr)) (fun i _ => plan.length - (intOf i).toNat)
      case atStart => exact ⟨0, Nat.zero_le _, rfl, HR4.out, HOC.out, HL4.out, HM4.out, HB4.out⟩
      case round =>
        obtain ⟨j, hj, rfl, HRR, HCC, HLL, HMM, HBB⟩ := hrel
        have e5 : wr.cell? ⟨w1.heap.size + 1, 0, none⟩ = some (.slice (some ⟨g, 0, none⟩) plan.length cap) := (World.cell?_of_block HLL.out).trans HA5.out
        by_cases hlt : j < plan.length
        · obtain ⟨b, hbj⟩ := getElem?_of_lt (xs := B) (k := j) (by rw [HN2.out]; exact hlt)
          have e6 := sl_cellI (Owns.slice HCC.out encI_len (by rw [HN2.out]; omega)) hbj
          have hz := zipTo_get (A := A) (B := B) (j := j) (by rw [HN1.out]; exact hlt)
          have hOW : Owns encS 2 24 w2.heap.size wr (.slice (some ⟨g, 0, none⟩) plan.length cap) (zipTo A B j) := by
            unfold Owns; rw [zipTo_len, HN1.out]; exact HRR.out
          obtain ⟨-, e7⟩ := sl_cellsSb (Owns.slice hOW encS_len (by rw [zipTo_len, HN1.out]; omega)) hz
          have e8 := World.ownsRow.frozenAt HRR.out (j * 2 + 1)
          have i0 : (0 : Int) ≤ (j : Int) := by omega
          have i1 : (j : Int) < (plan.length : Int) := by omega
          have HZ : Hid (((zipTo A B j).flatMap encS).set (j * 2 + 1) (iv b) = (zipTo A B (j + 1)).flatMap encS) := by
            rw [Hid, flat_set _ _ _ _ hz, zipTo_succ (by rw [HN1.out]; exact hlt) hbj]
          clear hOW hz hbj
          gi_wp2_with fail
          refine ⟨⟨j + 1, by omega, by go_num, ?_, ?_, ?_, ?_, bput HBB.out (by simp; omega) _⟩, by simp [intOf]; omega⟩
          · rw [← HZ.out]; exact (World.ownsRow.stored HRR.out (j * 2 + 1) (iv b)).1
          · refine World.ownsRow.kept (row := some g) HCC.out ⟨rfl, rfl, rfl, by simp [World.setCell], fun k hk hne => Below.heap_setCell _ _ _ _ (fun e => hne (by rw [e]))⟩ (.inr (fun e => ?_))
            simp only [Value.ownBlock, Option.some.injEq] at e
            exact hgg e
          · exact (Below.heap_setCell _ _ _ _ (by show w1.heap.size + 1 ≠ g; omega)).trans HLL.out
          · exact (Below.heap_setCell _ _ _ _ (fun e => hgm e.symm)).trans HMM.out
        · obtain rfl : j = plan.length := by omega
          gi_wp2_with fail
          refine ⟨by simp, .inl ⟨_, _, rfl, run_takeDeferred HMM.out, ?_⟩⟩
          have hOW : Owns encS 2 24 w2.heap.size wr (.slice (some ⟨g, 0, none⟩) plan.length cap) (zipTo A B plan.length) := by
            unfold Owns; rw [zipTo_len, HN1.out]; exact HRR.out
          have hOW2 : Owns encS 2 24 w2.heap.size (wr.putObj w2.heap.size (.deferred none)) (.slice (some ⟨g, 0, none⟩) plan.length cap) (zipTo A B plan.length) := by
            refine hOW.turn (Turn.putObj (T := fun k => k = w2.heap.size) _ rfl) (fun q hq e => ?_)
            simp only [Value.ownBlock, Option.some.injEq] at hq
            exact hgm (hq.trans e)
          refine ⟨_, results_two_tmp (fn := Try.f5) Try.results5 _ _, _, by rw [HE.out]; rfl, by rw [HL.out]; exact Owns.base2 hOW2 (by omega), put_below HBB.out (by omega)⟩
end Go.Proofs.Ytfpbfhjfhfmanac
