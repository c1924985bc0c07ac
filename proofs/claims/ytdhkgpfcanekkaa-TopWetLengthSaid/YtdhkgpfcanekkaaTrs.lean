/- quantity.truths of package cloth: the iterator over an iterator. -/
import Derived.Test.YtdhkgpfcanekkaaCrs
namespace Go.Proofs.Ytdhkgpfcanekkaa
open Go Go.RowKit Go.Shelf
attribute [local go_sem] Oper.semAt_some

def good (what : Int) (M : List Ms) (p : Int × Int) : Bool := (ag what M p.1 p.2).isEmpty
/-- The truths of a quantity. -/
def trs (t : Tk) (what : Int) (M : List Ms) : List (Int × Int) := (crs t).filter (good what M)

theorem qcells_size (t : Tk) (what : Int) (mv : Value) : (qcells t what mv).size = 6 := rfl
theorem sinfo111 (t : Tk) (what : Int) (mv : Value) : (Try.prog.info? 56).map (·.size) = some (qcells t what mv).size := by rw [qcells_size]; kernel_rfl

set_option maxHeartbeats 800000 in
theorem courses_any (q : Array Value) (w : World) :
    Calls Try.prog 40 #[.agg q] w fun e w' => e = .returned (.func (.func 53) #[] #[.pointer (some ⟨w.heap.size, 0, none⟩)]) ∧ w.alloc (.cells q 56) = w' := by
  go_enter Try.func40, Try.ntmps40
  go_wp2_with fail
  go_ret
  exact ⟨rfl, rfl⟩
set_option maxHeartbeats 800000 in
theorem truths_any (q : Array Value) (w : World) :
    Calls Try.prog 29 #[.agg q] w fun e w' => e = .returned (.func (.func 39) #[] #[.pointer (some ⟨w.heap.size, 0, none⟩)]) ∧ w.alloc (.cells q 56) = w' := by
  go_enter Try.func29, Try.ntmps29
  go_wp2_with fail
  go_ret
  exact ⟨rfl, rfl⟩

theorem Turn.alloc {T : Nat → Prop} {a b : World} (h : Turn T a b) (o : Obj) : Turn T a (b.alloc o) :=
  ⟨h.os, h.tape, h.output, by have := h.size; simp; omega, fun k hk hn => (Below.heap_alloc _ _ _ (by have := h.size; omega)).trans (h.same k hk hn)⟩
theorem Turn.trans {T : Nat → Prop} {a b c : World} (h : Turn T a b) (k : Turn T b c) : Turn T a c :=
  ⟨k.os.trans h.os, k.tape.trans h.tape, k.output.trans h.output, Nat.le_trans h.size k.size, fun i hi hn => (k.same i (Nat.lt_of_lt_of_le hi h.size) hn).trans (h.same i hi hn)⟩
theorem Turn.refl (T : Nat → Prop) (a : World) : Turn T a a := ⟨rfl, rfl, rfl, Nat.le_refl _, fun _ _ _ => rfl⟩
theorem Turn.mono {T T' : Nat → Prop} {a b : World} (h : Turn T a b) (ht : ∀ k, T k → T' k) : Turn T' a b := ⟨h.os, h.tape, h.output, h.size, fun k hk hn => h.same k hk (fun h' => hn (ht k h'))⟩

theorem crs_mem {t : Tk} {x r : Int} (h : (x, r) ∈ crs t) : t.fl ≤ x ∧ x ≤ t.fh ∧ t.rl ≤ r ∧ r ≤ t.rh := by
  simp only [crs, crsTo, rowOf, ups, List.mem_flatMap, List.mem_map, List.mem_range] at h
  obtain ⟨y, ⟨i, hi, rfl⟩, z, ⟨j, hj, rfl⟩, he⟩ := h
  simp only [Prod.mk.injEq] at he
  omega
theorem mem_of_prefix {α : Type} {pre xs : List α} {x : α} (h : (pre ++ [x]) <+: xs) : x ∈ xs := h.subset (by simp)
theorem round_any {m m' l' : Nat} {P : Program} {l : Nat} {f : FuncId} {tmps : Array Value} {assign body : Code} {w : World} {R : Ending → World → Prop} (h : RoundIn Fence.wide m P l f tmps assign body w R) : RoundIn (Fence.wide.inRound l') m' P l f tmps assign body w R :=
  ⟨h.1, fun c cs _ => h.2 c cs (room_wide _)⟩
theorem prefix_filter {α : Type} (p : α → Bool) {pre xs : List α} {x : α} (h : (pre ++ [x]) <+: xs) (hx : p x = true) : (pre.filter p ++ [x]) <+: xs.filter p := by
  have := h.filter p
  simpa [List.filter_append, hx] using this

set_option maxRecDepth 20000 in
set_option maxHeartbeats 6400000 in
theorem truths_seq (S : Nat → Prop) (Bq : Nat) (hSq : S Bq) (t : Tk) (what : Int) (mv : Value) (M : List Ms) (ht : vTrack t = true) (hv : M.all vMeas = true) (hl : M.length ≤ 1000000) (w0 : World) (hS : ∀ k, S k → k < w0.heap.size)
    (hq : w0.heap[Bq]? = some (.cells (qcells t what mv) 56 (0, 0))) (hM : ∀ W, SameOn S w0 W → SliceOf encM 4 W mv M) :
    SeqL Try.prog 39 #[.pointer (some ⟨Bq, 0, none⟩)] (fun (p : Int × Int) => #[tval p.1 p.2]) S (trs t what M) w0 := by
  intro n l J Jx W hW hJ hJx hY h0
  have hSW : ∀ k, S k → k < W.heap.size := fun k hk => Nat.lt_of_lt_of_le (hS k hk) hW.size
  have HQ : ∀ W', SameOn S W W' → W'.heap[Bq]? = some (.cells (qcells t what mv) 56 (0, 0)) := fun W' h => ((hW.trans h).block Bq hSq).trans hq
  have hq0 := Lib.hid (HQ W (SameOn.refl _ _))
  have HQ' := Lib.hid HQ; clear HQ hq
  have HY := Lib.hid hY; clear hY
  have HJ := Lib.hid hJ; clear hJ
  have HX := Lib.hid hJx; clear hJx
  have HS := Lib.hid hSW; clear hSW
  have H0 := Lib.hid h0; clear h0
  have HM := Lib.hid hM; clear hM
  have HW := Lib.hid hW; clear hW
  have hBq : Bq < W.heap.size := HS.out Bq hSq
  refine callsIn_of_wp_marks Try.func39 rfl trivial ?_ rfl
  simp only [Try.ntmps39, List.size_toArray, List.length_cons, List.length_nil, Nat.reduceAdd, Nat.reduceSub, Array.replicate_succ, Array.replicate_zero, List.push_toArray, List.append_toArray, List.nil_append, List.cons_append]
  gi_wp2_with (with_reducible change wpListIn _ _ _ _ _ (Oper.mk _ (Op.load 56 _) _ _ _ _ :: _) _ _; refine LI_val rfl (fun c h => by cases h) (fun c h => by cases h) (run_load_row 56 _ rfl _ rfl 56 (qcells t what mv) _ ((Below.heap_alloc _ _ _ hBq).trans hq0.out) Try.underlying56 rfl (sinfo111 t what mv)) ?_)
  refine (callsIn_wide.2 (courses_any _ _)).mono ?_
  rintro e w' ⟨rfl, rfl⟩
  gi_wp2_with fail
  obtain ⟨W0, hW0⟩ : ∃ W0, ((W.alloc (.cells #[.func (.yield l) #[] #[]] 106)).alloc (.cells (qcells t what mv) 56)) = W0 := ⟨_, rfl⟩
  have hz0 : W0.heap.size = W.heap.size + 2 := by rw [← hW0]; simp
  have hB0 : Below W.heap.size W W0 := by rw [← hW0]; exact (by repeat (first | exact Below.refl _ _ | refine Below.drew ?_ | refine bpush ?_ _ | refine bput ?_ (by simp) _ | (refine bstep ?_ (by assumption))))
  have hy0 : W0.heap[W.heap.size]? = some (.cells #[.func (.yield l) #[] #[]] 106 (0, 0)) := by
    rw [← hW0, Below.heap_alloc _ _ _ (by simp)]; exact heap_new _ _ _
  have hq1 : W0.heap[W.heap.size + 1]? = some (.cells (qcells t what mv) 56 (0, 0)) := by
    have := heap_new (W.alloc (.cells #[.func (.yield l) #[] #[]] 106)) (qcells t what mv) 56
    rw [World.size_alloc] at this
    rw [← hW0]; exact this
  rw [hW0]
  have HZ0 := Lib.hid hz0; clear hz0
  have HB0 := Lib.hid hB0; clear hB0
  have HY0 := Lib.hid hy0; clear hy0
  have HQ1 := Lib.hid hq1; clear hq1
  clear hW0
  obtain ⟨T1, hT1⟩ : ∃ T1 : Nat → Prop, T1 = fun k => k = W.heap.size ∨ k = W.heap.size + 1 := ⟨_, rfl⟩
  have hT10 : T1 W.heap.size := by rw [hT1]; exact .inl rfl
  have hT11 : T1 (W.heap.size + 1) := by rw [hT1]; exact .inr rfl
  have hT1l : ∀ k, T1 k → W.heap.size ≤ k := by intro k hk; rw [hT1] at hk; omega
  have hT1s : ∀ k, T1 k → k < W.heap.size + 2 := by intro k hk; rw [hT1] at hk; omega
  have hS1 : ∀ k, both S T1 k → k < W0.heap.size := by
    have := HZ0.out
    rintro k (h | h)
    · have := HS.out k h; omega
    · have := hT1s k h; omega
  have hbT : ∀ (T : Nat → Prop), (∀ k, T k → W0.heap.size ≤ k) → ∀ k, both T T1 k → W.heap.size ≤ k := by
    have := HZ0.out
    rintro T hT k (h | h)
    · have := hT k h; omega
    · exact hT1l k h
  have hst : ∀ (K : (Nat → Prop) → World → Prop), Stable W.heap.size K → Stable W0.heap.size (fun T Wr => K (both T T1) Wr ∧ (∀ k, T k → W0.heap.size ≤ k) ∧ SameOn (both S T1) W0 Wr) := by
    intro K hK
    refine ⟨fun T T' Wr ⟨h1, h2, h3⟩ hT => ⟨hK.ext _ _ Wr h1 (fun k hk => ?_), fun k hk => ?_, h3⟩, fun T Wr Wr' hT hB ⟨h1, h2, h3⟩ htn => ⟨hK.turn _ Wr Wr' (hbT T h2) (by have := HZ0.out; omega) h1 (htn.mono (fun k h => .inl h)), h2, h3.trans ⟨htn.size, fun k hk => htn.same k (Nat.lt_of_lt_of_le (hS1 k hk) h3.size) (fun h => by have := h2 k h; have := hS1 k hk; omega)⟩⟩⟩
    · rcases hk with hk | hk
      · exact (hT k hk).imp .inl id
      · exact .inl (.inr hk)
    · rcases hT k hk with h | h
      · exact h2 k h
      · exact Nat.le_trans h3.size h
  refine rangeL (gf := 53) (lb := #[.pointer (some ⟨W.heap.size + 1, 0, none⟩)]) rfl (enters_of Try.func53 (by kernel_rfl) rfl)
    (courses_seq (both S T1) (W.heap.size + 1) (.inr hT11) t what mv ht W0 hS1 HQ1.out) (fun _ => rfl) hS1
    (fun T pre Wr => J (both T T1) (pre.filter (good what M)) Wr ∧ (∀ k, T k → W0.heap.size ≤ k) ∧ SameOn (both S T1) W0 Wr)
    (fun c T Wr => c = .ret ∧ (Jx (both T T1) Wr ∧ (∀ k, T k → W0.heap.size ≤ k) ∧ SameOn (both S T1) W0 Wr))
    (fun s => hst _ (HJ.out _)) (fun c => ?_) ?_ ?round ?done ?stop
  · exact ⟨fun T T' Wr ⟨h1, h2⟩ hT => ⟨h1, (hst _ HX.out).ext T T' Wr h2 hT⟩, fun T Wr Wr' hT hB ⟨h1, h2⟩ htn => ⟨h1, (hst _ HX.out).turn T Wr Wr' hT hB h2 htn⟩⟩
  · refine ⟨?_, fun k h => h.elim, SameOn.refl _ _⟩
    refine (HJ.out _).turn _ W W0 (fun k hk => ?_) (Nat.le_refl _) ((HJ.out _).ext _ _ W H0.out (fun k hk => ?_)) (Turn.of_below HB0.out)
    · rcases hk with h | h
      · exact h.elim
      · exact hT1l k h
    · rcases hk with h | h
      · exact h.elim
      · exact .inr (hT1l k h)
  case done =>
    rintro T Wf hTD hTl hsz ⟨hj, hT2, hs⟩ hK
    gi_wp2_with fail
    refine ⟨by simp, .inl ⟨_, _, rfl, run_takeDeferred hK, ?_⟩⟩
    have hz1 := HZ0.out
    have hbR : ∀ k, both T T1 k → W.heap.size ≤ k := hbT T hT2
    exact ⟨_, results_none rfl _ _ _, ⟨_, rfl⟩, by simp; omega, .inl ((HJ.out _).ext _ _ _ ((HJ.out _).turn _ _ _ hbR (by omega) hj (Turn.putObj _ (.inl hTD))) (fun k h => h.elim))⟩
  case stop =>
    rintro T c Wf hTD hTl hsz ⟨rfl, hj, hT2, hs⟩ hK
    gi_wp2_with fail
    refine ⟨by simp, .inl ⟨_, _, rfl, run_takeDeferred hK, ?_⟩⟩
    have hz1 := HZ0.out
    have hbR : ∀ k, both T T1 k → W.heap.size ≤ k := hbT T hT2
    exact ⟨_, results_none rfl _ _ _, ⟨_, rfl⟩, by simp; omega, .inr (HX.out.ext _ _ _ (HX.out.turn _ _ _ hbR (by omega) hj (Turn.putObj _ (.inl hTD))) (fun k h => h.elim))⟩
  case round =>
    rintro l' T pre ⟨x, r⟩ Wr hTl hTs hsz hpre ⟨hj, hT2, hs⟩ K hK
    have HJr := Lib.hid hj; clear hj
    have HSr := Lib.hid hs; clear hs
    have HK := Lib.hid hK; clear hK
    go_simp
    gi_step
    gi_step
    refine LI_val rfl (fun c h => by cases h) (fun c h => by cases h) (run_alloc_row 65 zeroT zinfo120 rfl) ?_
    refine LI_skip rfl (fun c h => by cases h) (fun c h => by cases h) (run_store_row 65 _ _ rfl Wr.heap.size ?_ (tvals x r) ?_ 65 zeroT ?_ ?_ ?_ ?_) ?_
    · rfl
    · rfl
    · exact heap_new _ _ _
    · exact sinfoV _ _
    · rw [tvals_size, zeroT_size]
    · exact tpart_one _ _ _
    gi_wp2_with fail
    go_simp
    refine HK.out _ _ ((SameOn.refl _ _).alloc ?_ _) ?_
    · rintro k (h | h)
      · have := hS1 k h; omega
      · exact hTs k h
    clear HK
    intro W2 hb2
    have hz1 := HZ0.out
    have hS2 : SameOn (both S T1) W0 W2 := ⟨by have := hb2.size; simp at this; omega, fun k hk => ((hb2.turn.same k (by have := hS1 k hk; simp; omega) (fun h => by have := hT2 k h; have := hS1 k hk; omega)).trans (Below.heap_alloc _ _ _ (by have := hS1 k hk; omega))).trans (HSr.out.block k hk)⟩
    have hy2 := Lib.hid ((hS2.block _ (.inr hT10)).trans HY0.out)
    have hyc : W2.cell? ⟨W.heap.size, 0, none⟩ = some (.func (.yield l) #[] #[]) := by rw [cell_of_row _ _ _ _ _ _ hy2.out]; rfl
    have hSW2 : SameOn S W W2 := (SameOn.of_below HB0.out HS.out).trans (hS2.mono (fun _ h => .inl h))
    have hq2 := HQ'.out W2 hSW2
    have ht2 := hb2.cells Wr.heap.size _ (heap_new Wr (tvals x r) 65) rfl
    have hM2 := HM.out W2 (HW.out.trans hSW2)
    have hmem := crs_mem (mem_of_prefix hpre)
    have ht' := ht
    simp only [vTrack, vRate, Bool.and_eq_true, vSpan_iff] at ht'
    obtain ⟨a1, a2, a3, a4⟩ := hmem
    have hTT : ∀ k, both T T1 k → W.heap.size ≤ k := hbT T hT2
    have hTs2 : ∀ k, T k → k < W2.heap.size := fun k hk => by have := hTs k hk; have := hb2.size; simp at this; omega
    have HJ2 := Lib.hid ((HJ.out _).turn _ Wr W2 hTT (by have := HSr.out.size; omega) HJr.out (((Turn.refl _ Wr).alloc _).trans (hb2.turn.mono (fun _ h => .inl h))))
    have HS2 := Lib.hid hS2; clear hS2
    have Hq2 := Lib.hid hq2; clear hq2
    have Ht2 := Lib.hid ht2; clear ht2
    have Hpre := Lib.hid hpre; clear hpre
    clear hb2 HJr HSr
    gi_wp2_with (first | (with_reducible change wpListIn _ _ _ _ _ (Oper.mk _ (Op.load 56 _) _ _ _ _ :: _) _ _; refine LI_val rfl (fun c h => by cases h) (fun c h => by cases h) (run_load_row 56 _ rfl _ rfl 56 (qcells t what mv) _ Hq2.out Try.underlying56 rfl (sinfo111 t what mv)) ?_) | (with_reducible change wpListIn _ _ _ _ _ (Oper.mk _ (Op.load 65 _) _ _ _ _ :: _) _ _; refine LI_val rfl (fun c h => by cases h) (fun c h => by cases h) (run_load_row 65 _ rfl _ rfl 65 (tvals x r) _ Ht2.out Try.underlying65 rfl (sinfoV x r)) ?_))
    refine (CallsIn.inRound l' (callsIn_wide.2 (against_any t what mv M x r W2 hM2 hv hl (by omega) (by omega) (by omega) (by omega)))).mono ?_
    rintro e w1 ⟨v, rfl, ho, hb1⟩
    obtain ⟨va, vc, rfl⟩ := ho.len
    clear ho
    have hyc1 : w1.cell? ⟨W.heap.size, 0, none⟩ = some (.func (.yield l) #[] #[]) := (hb1.cell (p := ⟨W.heap.size, 0, none⟩) (lt_of_cell hyc)).trans hyc
    have Ht1 := Lib.hid ((hb1.block Wr.heap.size (Array.getElem?_eq_some_iff.1 Ht2.out).1).trans Ht2.out)
    have HJ1 := Lib.hid ((HJ.out _).turn _ W2 w1 hTT (by have := HS2.out.size; omega) HJ2.out (Turn.of_below hb1))
    have hSb : ∀ k, both (both S T1) T k → k < W2.heap.size := by
      rintro k (h | h)
      · have := hS1 k h; have := HS2.out.size; omega
      · exact hTs2 k h
    have HS1 := Lib.hid (SameOn.of_below (S := both (both S T1) T) hb1 hSb)
    have HS01 := Lib.hid (HS2.out.trans (HS1.out.mono (fun _ h => .inl h)))
    clear hyc hb1
    by_cases hag : ag what M x r = []
    · have hgood : good what M (x, r) = true := by simp [good, hag]
      rw [hag]
      have HAG := Lib.hid hag; clear hag
      have hpre2 := prefix_filter (good what M) Hpre.out hgood
      have hTs1 : ∀ k, both T T1 k → k < w1.heap.size := by
        rintro k (h | h)
        · have := hTs2 k h; have := HS1.out.size; omega
        · have := hT1s k h; have := HS2.out.size; have := HS1.out.size; omega
      obtain ⟨fn, tmps, assign, body, hy, hR⟩ := HY.out (both T T1) _ (x, r) w1 hTT hpre2 HJ1.out (by have := HS2.out.size; have := HS1.out.size; omega) hTs1
      have HR := Lib.hid hR; clear hR
      dsimp only at hy
      gi_wp2_with (first | (with_reducible change wpListIn _ _ _ _ _ (Oper.mk _ (Op.load 65 _) _ _ _ _ :: _) _ _; refine LI_val rfl (fun c h => by cases h) (fun c h => by cases h) (run_load_row 65 _ rfl _ rfl 65 (tvals x r) _ Ht1.out Try.underlying65 rfl (sinfoV x r)) ?_))
      refine (round_any HR.out).mono ?_
      rintro e w2 (⟨rfl, hj2, hk2⟩ | ⟨rfl, hx2, hk2⟩)
      · have HJ3 := Lib.hid hj2; clear hj2
        have HS3 := Lib.hid hk2; clear hk2
        gi_wp2_with fail
        have hs3 : SameOn (both (both S T1) T) w1 w2 := HS3.out.mono (fun k h => by
          rcases h with (h | h) | h
          · exact .inl h
          · exact .inr (.inr h)
          · exact .inr (.inl h))
        refine ⟨HS1.out.trans hs3, ?_, hT2, HS01.out.trans (hs3.mono (fun _ h => .inl h))⟩
        rw [List.filter_append]
        simpa [hgood] using HJ3.out
      · have HX3 := Lib.hid hx2; clear hx2
        have HS3 := Lib.hid hk2; clear hk2
        gi_wp2_with fail
        have hs3 : SameOn (both (both S T1) T) w1 w2 := HS3.out.mono (fun k h => by
          rcases h with (h | h) | h
          · exact .inl h
          · exact .inr (.inr h)
          · exact .inr (.inl h))
        exact ⟨HS1.out.trans hs3, rfl, HX3.out, hT2, HS01.out.trans (hs3.mono (fun _ h => .inl h))⟩
    · have hgood : good what M (x, r) = false := by simp [good, hag]
      have hne : (((ag what M x r).length : Int) == 0) = false := by simp [hag]
      have HAG := Lib.hid hag; clear hag
      gi_wp2_with fail
      refine ⟨HS1.out, ?_, hT2, HS01.out⟩
      rw [List.filter_append]
      simpa [hgood] using HJ1.out
end Go.Proofs.Ytdhkgpfcanekkaa
