/- The iterator over the mixes of a store. -/
import Derived.Test.YtfdahmdehmhllaaJb
import Derived.Test.YtfdahmdehmhllaaJd
import Derived.Sort.LoopGhostIn
namespace Go.Proofs.Ytfdahmdehmhllaa
open Go Go.RowKit Go.Shelf
attribute [local go_sem] Oper.semAt_some

set_option maxHeartbeats 800000 in
theorem mixes_any (sa : Option Addr) (sn sc : Nat) (w : World) :
    Calls Try.prog 31 #[.slice sa sn sc] w fun e w' => e = .returned (.func (.func 46) #[] #[.pointer (some ⟨w.heap.size, 0, none⟩)]) ∧ w.alloc (.cells #[.slice sa sn sc] 35) = w' := by
  go_enter Try.func31, Try.ntmps31
  go_wp2_with fail
  go_ret
  exact ⟨rfl, rfl⟩
set_option maxHeartbeats 800000 in
theorem clip_some (bb oo k c : Nat) (w : World) (hk : k ≤ c) (hc : k ≤ 1000000) :
    Calls Try.prog 47 #[.slice (some ⟨bb, oo, none⟩) k c] w fun e w' => e = .returned (.slice (some ⟨bb, oo, none⟩) k k) ∧ w' = w := by
  have h0 : (0 : Int) ≤ (k : Int) := by omega
  have h1 : (k : Int) ≤ (c : Int) := by omega
  have h2 : ¬ ((k : Int) < 0) := by omega
  have h3 : ¬ ((c : Int) < (k : Int)) := by omega
  have h4 : IntKind.i64.wrap (k : Int) = (k : Int) := IntWalk.i64_in _ ⟨by omega, by omega⟩
  go_enter Try.func47, Try.ntmps47
  go_wp2_with fail
  go_ret
  exact ⟨rfl, rfl⟩
set_option maxHeartbeats 800000 in
theorem clip_nil (w : World) :
    Calls Try.prog 47 #[.slice none 0 0] w fun e w' => e = .returned (.slice none 0 0) ∧ w' = w := by
  go_enter Try.func47, Try.ntmps47
  go_wp2_with fail
  go_ret
  exact ⟨rfl, rfl⟩
/-- A list that is its own lies at the head of a block, or is nil. -/
theorem clip_own {e B k c : Nat} {va : Option Addr} {m : List Int} {w0 : World} (w : World) (ho : Owns encI 1 e B w0 (.slice va k c) m) (hc : k ≤ 1000000) (hm : m.length = k) :
    Calls Try.prog 47 #[.slice va k c] w fun e w' => e = .returned (.slice va k k) ∧ w' = w := by
  rcases ho.2 with ⟨h, h0⟩ | ⟨g, cap, cur, h, -, -, hnc, -⟩
  · simp only [Value.slice.injEq] at h
    obtain ⟨rfl, rfl, rfl⟩ := h
    exact clip_nil w
  · simp only [Value.slice.injEq] at h
    obtain ⟨rfl, rfl, rfl⟩ := h
    exact clip_some _ _ _ _ w (by omega) hc

theorem Owns.onB {α : Type} {enc : α → List Value} {sz e base : Nat} {w w' : World} {v : Value} {xs : List α} (h : Owns enc sz e base w v xs) (hs : ∀ g, v.ownBlock = some g → w'.heap[g]? = w.heap[g]?) : Owns enc sz e base w' v xs := by
  refine ⟨h.1, ?_⟩
  rcases h.2 with h0 | ⟨g, cap, cur, e1, e2, e3, e4⟩
  · exact .inl h0
  · exact .inr ⟨g, cap, cur, e1, e2, (hs g (by rw [e1]; rfl)).trans e3, e4⟩
theorem wp_appendC {o : Oper} {a : Act} {w : World} {K : Act → World → Prop} {Q : Exit → Act → World → Prop} {xs : List Int} {v : Value} {g c : Nat} (y : Int)
    (s x : Operand) (hop : o.op = Op.call { callee := Callee.builtin Builtin.append, args := #[s, x], argTypes := #[49, 49] })
    (hs : a.eval s = v) (hx : a.eval x = .slice (some ⟨g, 0, none⟩) 1 c) (hv : Ints w v xs) (hf : ∃ ad, v = .slice ad xs.length xs.length) (hc : w.cell? ⟨g, 0, none⟩ = some (iv y)) (hb : xs.length + 1 ≤ 1000000)
    (hK : ∀ cap w', Owns encI 1 3 w.heap.size w' (.slice (some ⟨w.heap.size, 0, none⟩) (xs.length + 1) cap) (xs ++ [y]) → Below w.heap.size w w' → K (a.put o.dst (.slice (some ⟨w.heap.size, 0, none⟩) (xs.length + 1) cap)) w') :
    o.wp Try.prog a w K Q := by
  obtain ⟨cap, w', hrun, r1, r2⟩ := run_appendC (ty := o.type) (c := c) hv hf hc hb
  unfold Oper.wp
  simp [execOp, hop, resolve, invoke, builtin, hs, hx, hrun, Result.andThen, Oper.upon]
  exact hK cap w' r1 r2

theorem Owns.downB {α : Type} {enc : α → List Value} {sz e base base' : Nat} {w : World} {v : Value} {xs : List α} (h : Owns enc sz e base w v xs) (hb : base' ≤ base) : Owns enc sz e base' w v xs := by
  refine ⟨h.1, ?_⟩
  rcases h.2 with h0 | ⟨g, cap, cur, e1, e2, e3⟩
  · exact .inl h0
  · exact .inr ⟨g, cap, cur, e1, by omega, e3⟩
theorem ite_w {c : Prop} [Decidable c] {p q : Prop} (hc : c) (h : p) : if c then p else q := by rw [if_pos hc]; exact h
/-- The store that an iterator has captured. -/
structure MxIn (L : List So) (sa : Option Addr) (c k b : Nat) (S : Nat → Prop) (w0 : World) : Prop where
  sb : S b
  lt : ∀ j, S j → j < w0.heap.size
  bx : w0.heap[b]? = some (.cells #[.slice sa k c] 35 (0, 0))
  st : ∀ W, SameOn S w0 W → SliceOf encSo 5 W (.slice sa k c) (L.take k)
set_option maxRecDepth 20000 in
set_option maxHeartbeats 12800000 in
theorem mixes_seq (L : List So) (sa : Option Addr) (c : Nat) (hL : ∀ s ∈ L, 0 ≤ s.ha ∧ s.ha ≤ 12) (hc : L.length ≤ c) (hl : L.length ≤ 1000) : ∀ (k : Nat) (_ : k ≤ L.length) (b : Nat) (S : Nat → Prop) (w0 : World), MxIn L sa c k b S w0 →
    SeqR Try.prog 46 #[.pointer (some ⟨b, 0, none⟩)] MixV S (mxs L k) w0
  | 0, _, b, S, w0, hI => by
    intro n l J Jx W hW hJ hJx hY h0
    have hbx := (hW.block b hI.sb).trans hI.bx
    have hlt := Nat.lt_of_lt_of_le (hI.lt b hI.sb) hW.size
    have HI := Lib.hid hI; have HW := Lib.hid hW; have HJ := Lib.hid hJ; have HX := Lib.hid hJx; have HY := Lib.hid hY; have H0 := Lib.hid h0; have HBX := Lib.hid hbx
    have c0 : W.cell? ⟨b, 0, none⟩ = some (.slice sa 0 c) := by rw [cell_of_row _ _ _ _ _ _ hbx]; rfl
    clear hI hW hJ hJx hY h0 hbx
    obtain ⟨T1, hT1⟩ : ∃ T1 : Nat → Prop, T1 = fun j => j = W.heap.size := ⟨_, rfl⟩
    have hT1l : ∀ j, T1 j → W.heap.size ≤ j := by intro j hj; rw [hT1] at hj; omega
    have hT1s : ∀ j, T1 j → j < W.heap.size + 1 := by intro j hj; rw [hT1] at hj; omega
    have hno : ∀ j, ¬ own #[Value.slice none 0 0] j := fun j hj => by have := own_one.1 hj; cases this
    clear hT1
    obtain ⟨W1, hW1⟩ : ∃ W1 : World, W.alloc (.cells #[.func (.yield l) #[] #[]] 99) = W1 := ⟨_, rfl⟩
    have hb1 : Below W.heap.size W W1 := by rw [← hW1]; exact bpush (Below.refl _ _) _
    have hz1 : W1.heap.size = W.heap.size + 1 := by rw [← hW1]; simp
    have hj1 : J (both T1 (own #[.slice none 0 0])) [] W1 := by
      refine (HJ.out _).turn _ W W1 (fun j hj => ?_) (Nat.le_refl _) ((HJ.out _).ext _ _ W H0.out (fun j hj => ?_)) (Turn.of_below hb1)
      · rcases hj with h | h
        · exact hT1l j h
        · exact (hno j h).elim
      · rcases hj with h | h
        · exact .inr (hT1l j h)
        · exact (hno j h).elim
    obtain ⟨fn, tmps, assign, body, hy, hR⟩ := HY.out T1 [] [] #[.slice none 0 0] W1 hT1l (by simp [mxs]) hj1 ⟨_, rfl, Owns.nil _ _ _ _ _, fun g hg => by cases hg⟩ (by omega) (fun j hj => by have := hT1s j hj; omega)
    have HR := Lib.hid hR; have HZ1 := Lib.hid hz1
    clear hR hj1 hb1 hz1 hno
    have c1 : W1.cell? ⟨b, 0, none⟩ = some (.slice sa 0 c) := by
      rw [← hW1]; exact (World.cell?_alloc_lt _ _ _ hlt).trans c0
    have y1 : W1.cell? ⟨W.heap.size, 0, none⟩ = some (.func (.yield l) #[] #[]) := by
      rw [← hW1, cell_of_row _ _ _ _ _ _ (heap_new W #[.func (.yield l) #[] #[]] 99)]; rfl
    refine callsIn_of_wp_marks Try.func46 rfl trivial ?_ rfl
    simp only [Try.ntmps46, List.size_toArray, List.length_cons, List.length_nil, Nat.reduceAdd, Nat.reduceSub, Array.replicate_succ, Array.replicate_zero, List.push_toArray, List.append_toArray, List.nil_append, List.cons_append]
    gi_wp2_with fail
    refine HR.out.mono ?_
    rintro e w2 (⟨rfl, hj2, hk2⟩ | ⟨rfl, hx2, hk2⟩)
    · have HJ2 := Lib.hid hj2; have HK2 := Lib.hid hk2
      clear hj2 hk2
      gi_wp2_with fail
      exact ⟨_, results_none rfl _ _ _, ⟨_, rfl⟩, by have := HZ1.out; have := HK2.out.size; omega, .inl ((HJ.out _).ext _ _ _ HJ2.out (fun j h => h.elim))⟩
    · have HX2 := Lib.hid hx2; have HK2 := Lib.hid hk2
      clear hx2 hk2
      gi_wp2_with fail
      exact ⟨_, results_none rfl _ _ _, ⟨_, rfl⟩, by have := HZ1.out; have := HK2.out.size; omega, .inr (HX.out.ext _ _ _ HX2.out (fun j h => h.elim))⟩
  | k + 1, hk, b, S, w0, hI => by
    intro n l J Jx W hW hJ hJx hY h0
    have ih := mixes_seq L sa c hL hc hl k (by omega)
    have hbx := (hW.block b hI.sb).trans hI.bx
    have HIH := Lib.hid ih
    have HS : Hid (∀ j, S j → j < W.heap.size) := fun j hj => Nat.lt_of_lt_of_le (hI.lt j hj) hW.size
    have hblt := HS.out b hI.sb
    have HI := Lib.hid hI; have HW := Lib.hid hW; have HJ := Lib.hid hJ; have HX := Lib.hid hJx; have HY := Lib.hid hY; have H0 := Lib.hid h0; have HBX := Lib.hid hbx
    obtain ⟨so, hso⟩ := getElem?_of_lt (show k < L.length by omega)
    have hha := hL so (List.mem_of_getElem? hso)
    have hso2 : L.getD k ⟨0, 0, 0, 0, 0⟩ = so := by rw [List.getD_eq_getElem?_getD, hso]; rfl
    have HMX : Hid (mxs L (k + 1) = (mxs L k).flatMap fun m => (upto so.ha).map fun p => m ++ [p]) := by unfold Hid; rw [mxs, hso2]
    clear hI hW hJ hJx hY h0 hbx ih hso2
    obtain ⟨Wa, hWa⟩ : ∃ Wa : World, ((W.alloc (.cells #[.func (.yield l) #[] #[]] 99)).alloc (.cells #[iv k] 3)) = Wa := ⟨_, rfl⟩
    have hBa : Below W.heap.size W Wa := by rw [← hWa]; exact bpush (bpush (Below.refl _ _) _) _
    have hza : Wa.heap.size = W.heap.size + 2 := by rw [← hWa]; simp
    have hya : Wa.heap[W.heap.size]? = some (.cells #[.func (.yield l) #[] #[]] 99 (0, 0)) := by rw [← hWa, Below.heap_alloc _ _ _ (by simp)]; exact heap_new _ _ _
    have hla : Wa.heap[W.heap.size + 1]? = some (.cells #[iv k] 3 (0, 0)) := by
      rw [← hWa]
      have := heap_new (W.alloc (.cells #[.func (.yield l) #[] #[]] 99)) #[iv k] 3
      rwa [World.size_alloc] at this
    have c0 : ∀ o, (W.alloc o).cell? ⟨b, 0, none⟩ = some (.slice sa (k + 1) c) := fun o => by
      rw [cell_of_row _ _ _ _ _ _ ((Below.heap_alloc _ _ _ hblt).trans HBX.out)]; rfl
    have ca : Wa.cell? ⟨b, 0, none⟩ = some (.slice sa (k + 1) c) := by rw [cell_of_row _ _ _ _ _ _ ((hBa.block b hblt).trans HBX.out)]; rfl
    have la : Wa.cell? ⟨W.heap.size + 1, 0, none⟩ = some (iv k) := by rw [cell_of_row _ _ _ _ _ _ hla]; rfl
    have e1 : ((k + 1 : Nat) : Int) - 1 = (k : Int) := by omega
    have e2 : IntKind.i64.wrap (k : Int) = (k : Int) := IntWalk.i64_in _ ⟨by omega, by omega⟩
    have e3 : (((k : Int) + 1 : Int) == 0) = false := by rw [beq_eq_false_iff_ne]; omega
    have e4 : ¬ ((k : Int) + 1 = 0) := by omega
    refine callsIn_of_wp_marks Try.func46 rfl trivial ?_ rfl
    simp only [Try.ntmps46, List.size_toArray, List.length_cons, List.length_nil, Nat.reduceAdd, Nat.reduceSub, Array.replicate_succ, Array.replicate_zero, List.push_toArray, List.append_toArray, List.nil_append, List.cons_append]
    gi_wp2_with fail
    refine (callsIn_wide.2 (mixes_any _ _ _ _)).mono ?_
    rintro e w' ⟨rfl, hw'⟩
    gi_wp2_with fail
    obtain ⟨W0, hW0⟩ : ∃ W0 : World, W0 = w' := ⟨_, rfl⟩
    subst hW0
    have hz0 : W0.heap.size = W.heap.size + 3 := by rw [← hw']; simp [hza]
    have hB0 : Below W.heap.size W W0 := by rw [← hw']; exact bpush hBa _
    have hy0 : W0.heap[W.heap.size]? = some (.cells #[.func (.yield l) #[] #[]] 99 (0, 0)) := by rw [← hw', Below.heap_alloc _ _ _ (by omega)]; exact hya
    have hl0 : W0.heap[W.heap.size + 1]? = some (.cells #[iv k] 3 (0, 0)) := by rw [← hw', Below.heap_alloc _ _ _ (by omega)]; exact hla
    have hx0 : W0.heap[W.heap.size + 2]? = some (.cells #[.slice sa k c] 35 (0, 0)) := by rw [← hw', ← hza]; exact heap_new _ _ _
    have HZ0 := Lib.hid hz0; have HB0 := Lib.hid hB0; have HY0 := Lib.hid hy0; have HL0 := Lib.hid hl0; have HX0 := Lib.hid hx0
    have hza2 := hza
    clear hz0 hB0 hy0 hl0 hx0 hw' hWa hBa hya hla c0 ca la
    obtain ⟨T1, hT1⟩ : ∃ T1 : Nat → Prop, T1 = fun j => W.heap.size ≤ j ∧ j < W.heap.size + 3 := ⟨_, rfl⟩
    have hT1l : ∀ j, T1 j → W.heap.size ≤ j := by intro j hj; rw [hT1] at hj; omega
    have hT1s : ∀ j, T1 j → j < W.heap.size + 3 := by intro j hj; rw [hT1] at hj; omega
    have hT1i : ∀ j, W.heap.size ≤ j → j < W.heap.size + 3 → T1 j := by intro j h1 h2; rw [hT1]; exact ⟨h1, h2⟩
    clear hT1
    have hS1 : ∀ j, both S T1 j → j < W0.heap.size := by
      have := HZ0.out
      rintro j (h | h)
      · have := HS.out j h; omega
      · have := hT1s j h; omega
    have hbT : ∀ (T : Nat → Prop), (∀ j, T j → W0.heap.size ≤ j) → ∀ j, both T T1 j → W.heap.size ≤ j := by
      have := HZ0.out
      rintro T hT j (h | h)
      · have := hT j h; omega
      · exact hT1l j h
    have hst : ∀ (K : (Nat → Prop) → World → Prop), Stable W.heap.size K → Stable W0.heap.size (fun T Wr => K (both T T1) Wr ∧ (∀ j, T j → W0.heap.size ≤ j) ∧ SameOn (both S T1) W0 Wr) := by
      intro K hK
      refine ⟨fun T T' Wr ⟨h1, h2, h3⟩ hT => ⟨hK.ext _ _ Wr h1 (fun j hj => ?_), fun j hj => ?_, h3⟩, fun T Wr Wr' hT hB ⟨h1, h2, h3⟩ htn => ⟨hK.turn _ Wr Wr' (hbT T h2) (by have := HZ0.out; omega) h1 (htn.mono (fun j h => .inl h)), h2, h3.trans ⟨htn.size, fun j hj => htn.same j (Nat.lt_of_lt_of_le (hS1 j hj) h3.size) (fun h => by have := h2 j h; have := hS1 j hj; omega)⟩⟩⟩
      · rcases hj with hj | hj
        · exact (hT j hj).imp .inl id
        · exact .inl (.inr hj)
      · rcases hT j hj with h | h
        · exact h2 j h
        · exact Nat.le_trans h3.size h
    have hsW : ∀ Wr, SameOn (both S T1) W0 Wr → SameOn S W Wr := fun Wr h => (SameOn.of_below HB0.out HS.out).trans (h.mono (fun _ h => .inl h))
    have HSQ := Lib.hid (HIH.out (W.heap.size + 2) (both S T1) W0 ⟨.inr (hT1i _ (by omega) (by omega)), hS1, HX0.out, fun Wr h => by
      have h1 := HI.out.st Wr (HW.out.trans (hsW Wr h))
      have h2 := SliceOf.takeJ h1 (n := k) (by rw [List.length_take]; omega)
      rwa [List.take_take, Nat.min_eq_left (by omega)] at h2⟩)
    refine rangeR (gf := 46) (lb := #[.pointer (some ⟨W.heap.size + 2, 0, none⟩)]) (R' := MixV) ?_ (enters_of Try.func46 (by kernel_rfl) rfl)
      HSQ.out (fun B T x vs Wr h => by obtain ⟨v, rfl, -⟩ := h; rfl) MixV.mono hS1
      (fun T pre Wr => J (both T T1) (pre.flatMap fun m => (upto so.ha).map fun p => m ++ [p]) Wr ∧ (∀ j, T j → W0.heap.size ≤ j) ∧ SameOn (both S T1) W0 Wr)
      (fun c T Wr => c = .ret ∧ (Jx (both T T1) Wr ∧ (∀ j, T j → W0.heap.size ≤ j) ∧ SameOn (both S T1) W0 Wr))
      (fun s => hst _ (HJ.out _)) (fun c => ?_) ?_ ?round ?done ?stop
    · rfl
    · exact ⟨fun T T' Wr ⟨h1, h2⟩ hT => ⟨h1, (hst _ HX.out).ext T T' Wr h2 hT⟩, fun T Wr Wr' hT hB ⟨h1, h2⟩ htn => ⟨h1, (hst _ HX.out).turn T Wr Wr' hT hB h2 htn⟩⟩
    · refine ⟨?_, fun j h => h.elim, SameOn.refl _ _⟩
      refine (HJ.out _).turn _ W W0 (fun j hj => ?_) (Nat.le_refl _) ((HJ.out _).ext _ _ W H0.out (fun j hj => ?_)) (Turn.of_below HB0.out)
      · rcases hj with h | h
        · exact h.elim
        · exact hT1l j h
      · rcases hj with h | h
        · exact h.elim
        · exact .inr (hT1l j h)
    case done =>
      rintro T Wf hTD hTl hsz ⟨hj, hT2, hs⟩ hKd
      gi_wp2_with fail
      refine ⟨by simp, .inl ⟨_, _, rfl, run_takeDeferred hKd, ?_⟩⟩
      have hz1 := HZ0.out
      have hbR : ∀ j, both T T1 j → W.heap.size ≤ j := hbT T hT2
      exact ⟨_, results_none rfl _ _ _, ⟨_, rfl⟩, by simp; omega, .inl ((HJ.out _).ext _ _ _ ((HJ.out _).turn _ _ _ hbR (by omega) (by rw [HMX.out]; exact hj) (Turn.putObj _ (.inl hTD))) (fun j h => h.elim))⟩
    case stop =>
      rintro T c Wf hTD hTl hsz ⟨rfl, hj, hT2, hs⟩ hKd
      gi_wp2_with fail
      refine ⟨by simp, .inl ⟨_, _, rfl, run_takeDeferred hKd, ?_⟩⟩
      have hz1 := HZ0.out
      have hbR : ∀ j, both T T1 j → W.heap.size ≤ j := hbT T hT2
      exact ⟨_, results_none rfl _ _ _, ⟨_, rfl⟩, by simp; omega, .inr (HX.out.ext _ _ _ (HX.out.turn _ _ _ hbR (by omega) hj (Turn.putObj _ (.inl hTD))) (fun j h => h.elim))⟩
    case round =>
      rintro l' T pre m vs Wr hTl hTs hsz hpre ⟨hj, hT2, hs⟩ hmv K hKk
      obtain ⟨v, rfl, ho, hn⟩ := hmv
      have hml := mxs_len L k m (mem_of_prefix hpre)
      obtain ⟨va, vc, rfl⟩ := ho.len
      have hvi := Owns.slice ho encI_len (by omega)
      have HJr := Lib.hid hj; have HSr := Lib.hid hs; have HKk := Lib.hid hKk
      have hvs : ∀ j, own #[Value.slice va m.length vc] j → j < Wr.heap.size := fun j hj => (World.ownsRow.lt ho j (own_one.1 hj)).2
      have HO := Lib.hid ho; have HVI := Lib.hid hvi
      have HCL : Hid (∀ w : World, Calls Try.prog 47 #[.slice va m.length vc] w fun e w' => e = .returned (.slice va m.length m.length) ∧ w' = w) := fun w => clip_own w ho (by omega) rfl
      clear hj hs hKk ho hvi
      gi_wp2_with fail
      go_simp
      refine HKk.out _ _ (SameOn.refl _ _) ?_
      clear HKk
      intro W2 hb2
      have hz1 := HZ0.out
      have hsz2 := hb2.size
      obtain ⟨T2, hT2e⟩ : ∃ T2 : Nat → Prop, T2 = both T (own #[Value.slice va m.length vc]) := ⟨_, rfl⟩
      rw [← hT2e] at hT2 HJr
      have hT2s : ∀ j, T2 j → j < W2.heap.size := by
        rw [hT2e]; rintro j (h | h)
        · have := hTs j h; omega
        · have := hvs j h; omega
      have hTT2 : ∀ j, T j → T2 j := by rw [hT2e]; exact fun j h => .inl h
      have hvT2 : ∀ g, (Value.slice va m.length vc).ownBlock = some g → T2 g := by rw [hT2e]; exact fun g h => .inr (own_one.2 h)
      have hS2 : SameOn (both S T1) W0 W2 := ⟨by have := HSr.out.size; omega, fun j hj => (hb2.turn.same j (by have := hS1 j hj; have := HSr.out.size; omega) (fun h => by have := hT2 j (hTT2 j h); have := hS1 j hj; omega)).trans (HSr.out.block j hj)⟩
      have hSW2 := hsW W2 hS2
      have hTT : ∀ j, both T2 T1 j → W.heap.size ≤ j := hbT T2 hT2
      have HJ2 := Lib.hid ((HJ.out _).turn _ Wr W2 hTT (by have := HSr.out.size; omega) HJr.out (hb2.turn.mono (fun j h => .inl (hTT2 j h))))
      have hst2 := HI.out.st W2 (HW.out.trans hSW2)
      have hbx2 := (hSW2.block b HI.out.sb).trans HBX.out
      have hlb2 := (hS2.block _ (.inr (hT1i (W.heap.size + 1) (by omega) (by omega)))).trans HL0.out
      have d0 : W2.cell? ⟨b, 0, none⟩ = some (.slice sa (k + 1) c) := by rw [cell_of_row _ _ _ _ _ _ hbx2]; rfl
      have d1 : W2.cell? ⟨W.heap.size + 1, 0, none⟩ = some (iv k) := by rw [cell_of_row _ _ _ _ _ _ hlb2]; rfl
      obtain ⟨sb, sof, rfl, d2⟩ : ∃ sb sof, sa = some ⟨sb, sof, none⟩ ∧ W2.cell? ⟨sb, sof + k * 5 + 4, none⟩ = some (iv so.ha) := by
        obtain ⟨a', c', hv, -, hcs⟩ := hst2
        obtain ⟨sb, sof, ha, hj⟩ := hcs k so (by rw [List.getElem?_take, if_pos (by omega)]; exact hso)
        simp only [Value.slice.injEq] at hv
        exact ⟨sb, sof, hv.1.trans ha, hj 4 _ rfl⟩
      have HOW := Lib.hid (Owns.onB HO.out (w' := W2) (fun g hg => hb2.turn.same g (hvs g (own_one.2 hg)) (hn g hg)))
      have HS2 := Lib.hid hS2
      have hpm := Lib.hid hpre
      have HTL := Lib.hid hT2; have HTS := Lib.hid hT2s; have HT12 := Lib.hid hTT2; have HVT := Lib.hid hvT2; have HTT := Lib.hid hTT
      have g1 : IntKind.i64.wrap (so.ha + 1) = so.ha + 1 := IntWalk.i64_in _ ⟨by omega, by omega⟩
      have i0 : (0 : Int) ≤ (k : Int) := by omega
      have i1 : (k : Int) < ((k + 1 : Nat) : Int) := by omega
      have i2 : (k : Int) < (k : Int) + 1 := by omega
      clear hb2 hst2 hbx2 hlb2 hSW2 hS2 hpre hT2 hT2s hTT2 hvT2 hTT hTl hTs hn hvs HJr HSr hT2e HVI HO
      gi_wp2_with fail
      gi_loopw [25, 5] (fun i _ wr => ∃ p : Nat, p ≤ (so.ha + 1).toNat ∧ i = iv p ∧ Hid (J (both T2 T1) ((pre.flatMap fun m => (upto so.ha).map fun p => m ++ [p]) ++ ((upto so.ha).take p).map fun p => m ++ [p]) wr) ∧ Hid (SameOn (both (both S T1) T2) W2 wr)) (fun i _ _ => (so.ha + 1).toNat - (intOf i).toNat)
      case atStart => exact ⟨0, Nat.zero_le _, rfl, by simpa [Hid] using HJ2.out, SameOn.refl _ _⟩
      case round =>
        obtain ⟨p, hp, rfl, HJp, HSp⟩ := hrel
        clear d0 d1 d2
        by_cases hlt : p < (so.ha + 1).toNat
        · have j0 : (p : Int) < so.ha + 1 := by omega
          have hyl := (HSp.out.block _ (.inl (.inr (hT1i W.heap.size (by omega) (by omega))))).trans ((HS2.out.block _ (.inr (hT1i W.heap.size (by omega) (by omega)))).trans HY0.out)
          have d0 : wr.cell? ⟨W.heap.size, 0, none⟩ = some (.func (.yield l) #[] #[]) := by rw [cell_of_row _ _ _ _ _ _ hyl]; rfl
          gi_wp2_with fail
          obtain ⟨Wz, hWz⟩ : ∃ Wz, (wr.alloc (.cells #[iv p] 3)).drew = Wz := ⟨_, rfl⟩
          have hszr : W2.heap.size ≤ wr.heap.size := HSp.out.size
          have hBz : Below wr.heap.size wr Wz := by rw [← hWz]; exact (bpush (Below.refl _ _) _).drew
          have hzz : Wz.heap.size = wr.heap.size + 1 := by rw [← hWz]; show (wr.alloc _).heap.size = _; simp
          have hOr := Owns.onB HOW.out (w' := wr) (fun g hg => HSp.out.block g (.inr (HVT.out g hg)))
          have hlr := fun g hg => (World.ownsRow.lt hOr g hg).2
          have hOz := Owns.onB hOr (w' := Wz) (fun g hg => hBz.block g (hlr g hg))
          have hvz := Owns.slice hOz encI_len (by omega)
          have hvk : Ints Wz (.slice va k k) m := by
            obtain ⟨a', c', hv, hl', hcs⟩ := hvz
            simp only [Value.slice.injEq] at hv
            obtain ⟨rfl, -, rfl⟩ := hv
            exact ⟨_, _, by rw [hml], hl', hcs⟩
          have HVZ := Lib.hid hvk
          have HCK : Hid (∀ w : World, Calls Try.prog 47 #[.slice va k vc] w fun e w' => e = .returned (.slice va k k) ∧ w' = w) := by have h := HCL; rwa [hml] at h
          have hf : ∃ ad, Value.slice va k k = .slice ad m.length m.length := ⟨va, by rw [hml]⟩
          clear hvz hvk
          have hcz : Wz.cell? ⟨wr.heap.size, 0, none⟩ = some (iv p) := by rw [← hWz]; show (wr.alloc _).cell? _ = _; rw [cell_of_row _ _ _ _ _ _ (heap_new wr #[iv p] 3)]; rfl
          have HCZ := Lib.hid hcz
          have hyz := (hBz.block W.heap.size (by omega)).trans hyl
          have HYZ := Lib.hid hyz
          have dz : Wz.cell? ⟨W.heap.size, 0, none⟩ = some (.func (.yield l) #[] #[]) := by rw [cell_of_row _ _ _ _ _ _ hyz]; rfl
          have HBZ := Lib.hid hBz; have HZZ := Lib.hid hzz
          clear hBz hOr hlr hOz hcz hyz hyl
          refine wpIn_round_head 6 (by simp) (by kernel_rfl) (by kernel_rfl) (by kernel_rfl) (by kernel_rfl) fun R hpan hR => ?_
          simp only [List.take_succ_cons, List.take_zero, List.drop_succ_cons, List.drop_zero] at hR ⊢
          refine wpAny_take (i := 1) (v := ?_) rfl (by kernel_rfl) (by kernel_rfl) (by kernel_rfl) (fun _ _ _ h => absurd h (hpan _ _ _)) (Or.inl ⟨by rfl, ?_⟩) ?_
          rotate_left
          · intro w; go_simp
            with_reducible rfl
          refine wpAny_take (i := 3) (v := ?_) rfl (by kernel_rfl) (by kernel_rfl) (by kernel_rfl) (fun _ _ _ h => absurd h (hpan _ _ _)) (Or.inl ⟨by rfl, ?_⟩) ?_
          rotate_left
          · intro w; go_simp
            with_reducible rfl
          simp only [Act.put, List.setIfInBounds_toArray]
          refine wpAny_ready (rs := [0, 2, 4]) (by kernel_rfl) (by simp) ?_
          refine AllReady.cons rfl (fun K hK => ?_) (AllReady.cons rfl (fun K hK => ?_) (AllReady.cons rfl (fun K hK => ?_) AllReady.nil))
          · (go_simp; refine hK _ _ ?_; clear hK K)
            refine wpAny_ready (rs := [2, 4]) (by kernel_rfl) (by simp) ?_
            refine AllReady.cons rfl (fun K hK => ?_) (AllReady.cons rfl (fun K hK => ?_) AllReady.nil)
            · (go_simp; refine (HCK.out _).mono ?_; rintro e w' ⟨rfl, hw'⟩; dsimp only; rw [hw']; clear hw' w'; refine hK _ _ ?_; clear hK K)
              refine wpAny_ready (rs := [4]) (by kernel_rfl) (by simp) ?_
              refine AllReady.cons rfl (fun K hK => ?_) AllReady.nil
              (go_simp; (try rw [hWz]); refine hK _ _ ?_; clear hK K)
              refine wpAny_ready (rs := [5]) (by kernel_rfl) (by simp) ?_
              refine AllReady.cons rfl (fun K hK => ?_) AllReady.nil
              (refine ite_w (by rfl) ?_; refine wp_appendC (p : Int) _ _ rfl rfl rfl HVZ.out hf HCZ.out (by omega) ?_; intro cap w5 hOn hBn; have d5 : w5.cell? ⟨W.heap.size, 0, none⟩ = some (.func (.yield l) #[] #[])  := (by rw [cell_of_row _ _ _ _ _ _ ((hBn.block _ (by omega)).trans HYZ.out)]; try rfl); have HON := Lib.hid hOn; have HBN := Lib.hid hBn; clear hOn hBn; go_simp; refine hK _ _ ?_; clear hK K)
              refine wpAny_done (by kernel_rfl) (hR _ _ ?_) _
              clear hR hpan
              have hB5 : Below wr.heap.size wr w5 := HBZ.out.trans (HBN.out.mono (by omega))
              have hz5 := HBN.out.size
              have hT5 : ∀ j, both T2 T1 j → j < wr.heap.size := by
                rintro j (h | h)
                · have := HTS.out j h; omega
                · have := hT1s j h; omega
              have hpre5 : ((pre.flatMap fun m => (upto so.ha).map fun p => m ++ [p]) ++ ((upto so.ha).take p).map fun p => m ++ [p]) ++ [m ++ [(p : Int)]] <+: mxs L (k + 1) := by
                have h : (((upto so.ha).take p).map fun p => m ++ [p]) ++ [m ++ [(p : Int)]] = ((upto so.ha).take (p + 1)).map fun p => m ++ [p] := by rw [upto_take hlt]; simp
                rw [HMX.out, List.append_assoc, h]
                exact prefix_mid _ hpm.out ((List.take_prefix _ _).map _)
              have hj5 : J (both (both T2 T1) (own #[.slice (some ⟨Wz.heap.size, 0, none⟩) (m.length + 1) cap])) ((pre.flatMap fun m => (upto so.ha).map fun p => m ++ [p]) ++ ((upto so.ha).take p).map fun p => m ++ [p]) w5 := by
                have hoj : ∀ j, own #[.slice (some ⟨Wz.heap.size, 0, none⟩) (m.length + 1) cap] j → j = wr.heap.size + 1 := by
                  intro j h
                  have h := own_one.1 h
                  simp only [Value.ownBlock, Option.some.injEq] at h
                  omega
                refine (HJ.out _).turn _ wr w5 (fun j hj => ?_) (by omega) ((HJ.out _).ext _ _ _ HJp.out (fun j hj => ?_)) (Turn.of_below hB5)
                · rcases hj with h | h
                  · exact HTT.out j h
                  · have := hoj j h; omega
                · rcases hj with h | h
                  · exact .inl h
                  · exact .inr (by have := hoj j h; omega)
              obtain ⟨fn, tmps, assign, body, hy, hRR⟩ := HY.out (both T2 T1) _ (m ++ [(p : Int)]) #[.slice (some ⟨Wz.heap.size, 0, none⟩) (m.length + 1) cap] w5 HTT.out hpre5 hj5 ⟨_, rfl, Owns.downB HON.out (by omega), fun g hg hT => by
                simp only [Value.ownBlock, Option.some.injEq] at hg
                have := hT5 g hT; omega⟩ (by omega) (fun j h => by have := hT5 j h; omega)
              have HRR := Lib.hid hRR; have HB5 := Lib.hid hB5
              simp only [hzz, hml] at hy
              clear hRR hB5 hj5 hpre5 d0 d5 dz
              gi_wp2_with fail
              refine (round_any HRR.out).mono ?_
              rintro e w6 (⟨rfl, hj6, hk6⟩ | ⟨rfl, hx6, hk6⟩)
              · have HJ6 := Lib.hid hj6; have HK6 := Lib.hid hk6
                clear hj6 hk6 hy
                gi_wp2_with fail
                refine ⟨rfl, ?_⟩
                gi_wp2_with fail
                refine ⟨⟨p + 1, by omega, by simp, ?_, ?_⟩, by simp [intOf]; omega⟩
                · have h : ((upto so.ha).take (p + 1)).map (fun p => m ++ [p]) = (((upto so.ha).take p).map fun p => m ++ [p]) ++ [m ++ [(p : Int)]] := by rw [upto_take hlt]; simp
                  show J _ _ _
                  rw [h, ← List.append_assoc]
                  exact HJ6.out
                · refine HSp.out.trans ((SameOn.of_below HB5.out (fun j hj => ?_)).trans (HK6.out.mono (fun j h => ?_)))
                  · rcases hj with (h | h) | h
                    · have := HS.out j h; omega
                    · have := hT1s j h; omega
                    · have := HTS.out j h; omega
                  · rcases h with (h | h) | h
                    · exact .inl h
                    · exact .inr (.inr h)
                    · exact .inr (.inl h)
              · have HX6 := Lib.hid hx6; have HK6 := Lib.hid hk6
                clear hx6 hk6 hy
                gi_wp2_with fail
                refine ⟨rfl, ?_⟩
                gi_wp2_with fail
                have h62 : SameOn (both (both S T1) T2) W2 w6 := by
                  refine HSp.out.trans ((SameOn.of_below HB5.out (fun j hj => ?_)).trans (HK6.out.mono (fun j h => ?_)))
                  · rcases hj with (h | h) | h
                    · have := HS.out j h; omega
                    · have := hT1s j h; omega
                    · have := HTS.out j h; omega
                  · rcases h with (h | h) | h
                    · exact .inl h
                    · exact .inr (.inr h)
                    · exact .inr (.inl h)
                exact ⟨h62.mono (fun j h => Or.imp id (HT12.out j) h), rfl, HX.out.ext _ _ _ HX6.out (fun j h => .inl (Or.imp (HT12.out j) id h)), fun j h => HTL.out j (HT12.out j h), HS2.out.trans (h62.mono (fun j h => .inl h))⟩
            · (go_simp; (try rw [hWz]); refine hK _ _ ?_; clear hK K)
              refine wpAny_ready (rs := [2]) (by kernel_rfl) (by simp) ?_
              refine AllReady.cons rfl (fun K hK => ?_) AllReady.nil
              (go_simp; refine (HCK.out _).mono ?_; rintro e w' ⟨rfl, hw'⟩; dsimp only; rw [hw']; clear hw' w'; refine hK _ _ ?_; clear hK K)
              refine wpAny_ready (rs := [5]) (by kernel_rfl) (by simp) ?_
              refine AllReady.cons rfl (fun K hK => ?_) AllReady.nil
              (refine ite_w (by rfl) ?_; refine wp_appendC (p : Int) _ _ rfl rfl rfl HVZ.out hf HCZ.out (by omega) ?_; intro cap w5 hOn hBn; have d5 : w5.cell? ⟨W.heap.size, 0, none⟩ = some (.func (.yield l) #[] #[])  := (by rw [cell_of_row _ _ _ _ _ _ ((hBn.block _ (by omega)).trans HYZ.out)]; try rfl); have HON := Lib.hid hOn; have HBN := Lib.hid hBn; clear hOn hBn; go_simp; refine hK _ _ ?_; clear hK K)
              refine wpAny_done (by kernel_rfl) (hR _ _ ?_) _
              clear hR hpan
              have hB5 : Below wr.heap.size wr w5 := HBZ.out.trans (HBN.out.mono (by omega))
              have hz5 := HBN.out.size
              have hT5 : ∀ j, both T2 T1 j → j < wr.heap.size := by
                rintro j (h | h)
                · have := HTS.out j h; omega
                · have := hT1s j h; omega
              have hpre5 : ((pre.flatMap fun m => (upto so.ha).map fun p => m ++ [p]) ++ ((upto so.ha).take p).map fun p => m ++ [p]) ++ [m ++ [(p : Int)]] <+: mxs L (k + 1) := by
                have h : (((upto so.ha).take p).map fun p => m ++ [p]) ++ [m ++ [(p : Int)]] = ((upto so.ha).take (p + 1)).map fun p => m ++ [p] := by rw [upto_take hlt]; simp
                rw [HMX.out, List.append_assoc, h]
                exact prefix_mid _ hpm.out ((List.take_prefix _ _).map _)
              have hj5 : J (both (both T2 T1) (own #[.slice (some ⟨Wz.heap.size, 0, none⟩) (m.length + 1) cap])) ((pre.flatMap fun m => (upto so.ha).map fun p => m ++ [p]) ++ ((upto so.ha).take p).map fun p => m ++ [p]) w5 := by
                have hoj : ∀ j, own #[.slice (some ⟨Wz.heap.size, 0, none⟩) (m.length + 1) cap] j → j = wr.heap.size + 1 := by
                  intro j h
                  have h := own_one.1 h
                  simp only [Value.ownBlock, Option.some.injEq] at h
                  omega
                refine (HJ.out _).turn _ wr w5 (fun j hj => ?_) (by omega) ((HJ.out _).ext _ _ _ HJp.out (fun j hj => ?_)) (Turn.of_below hB5)
                · rcases hj with h | h
                  · exact HTT.out j h
                  · have := hoj j h; omega
                · rcases hj with h | h
                  · exact .inl h
                  · exact .inr (by have := hoj j h; omega)
              obtain ⟨fn, tmps, assign, body, hy, hRR⟩ := HY.out (both T2 T1) _ (m ++ [(p : Int)]) #[.slice (some ⟨Wz.heap.size, 0, none⟩) (m.length + 1) cap] w5 HTT.out hpre5 hj5 ⟨_, rfl, Owns.downB HON.out (by omega), fun g hg hT => by
                simp only [Value.ownBlock, Option.some.injEq] at hg
                have := hT5 g hT; omega⟩ (by omega) (fun j h => by have := hT5 j h; omega)
              have HRR := Lib.hid hRR; have HB5 := Lib.hid hB5
              simp only [hzz, hml] at hy
              clear hRR hB5 hj5 hpre5 d0 d5 dz
              gi_wp2_with fail
              refine (round_any HRR.out).mono ?_
              rintro e w6 (⟨rfl, hj6, hk6⟩ | ⟨rfl, hx6, hk6⟩)
              · have HJ6 := Lib.hid hj6; have HK6 := Lib.hid hk6
                clear hj6 hk6 hy
                gi_wp2_with fail
                refine ⟨rfl, ?_⟩
                gi_wp2_with fail
                refine ⟨⟨p + 1, by omega, by simp, ?_, ?_⟩, by simp [intOf]; omega⟩
                · have h : ((upto so.ha).take (p + 1)).map (fun p => m ++ [p]) = (((upto so.ha).take p).map fun p => m ++ [p]) ++ [m ++ [(p : Int)]] := by rw [upto_take hlt]; simp
                  show J _ _ _
                  rw [h, ← List.append_assoc]
                  exact HJ6.out
                · refine HSp.out.trans ((SameOn.of_below HB5.out (fun j hj => ?_)).trans (HK6.out.mono (fun j h => ?_)))
                  · rcases hj with (h | h) | h
                    · have := HS.out j h; omega
                    · have := hT1s j h; omega
                    · have := HTS.out j h; omega
                  · rcases h with (h | h) | h
                    · exact .inl h
                    · exact .inr (.inr h)
                    · exact .inr (.inl h)
              · have HX6 := Lib.hid hx6; have HK6 := Lib.hid hk6
                clear hx6 hk6 hy
                gi_wp2_with fail
                refine ⟨rfl, ?_⟩
                gi_wp2_with fail
                have h62 : SameOn (both (both S T1) T2) W2 w6 := by
                  refine HSp.out.trans ((SameOn.of_below HB5.out (fun j hj => ?_)).trans (HK6.out.mono (fun j h => ?_)))
                  · rcases hj with (h | h) | h
                    · have := HS.out j h; omega
                    · have := hT1s j h; omega
                    · have := HTS.out j h; omega
                  · rcases h with (h | h) | h
                    · exact .inl h
                    · exact .inr (.inr h)
                    · exact .inr (.inl h)
                exact ⟨h62.mono (fun j h => Or.imp id (HT12.out j) h), rfl, HX.out.ext _ _ _ HX6.out (fun j h => .inl (Or.imp (HT12.out j) id h)), fun j h => HTL.out j (HT12.out j h), HS2.out.trans (h62.mono (fun j h => .inl h))⟩
          · (go_simp; refine (HCK.out _).mono ?_; rintro e w' ⟨rfl, hw'⟩; dsimp only; rw [hw']; clear hw' w'; refine hK _ _ ?_; clear hK K)
            refine wpAny_ready (rs := [0, 4]) (by kernel_rfl) (by simp) ?_
            refine AllReady.cons rfl (fun K hK => ?_) (AllReady.cons rfl (fun K hK => ?_) AllReady.nil)
            · (go_simp; refine hK _ _ ?_; clear hK K)
              refine wpAny_ready (rs := [4]) (by kernel_rfl) (by simp) ?_
              refine AllReady.cons rfl (fun K hK => ?_) AllReady.nil
              (go_simp; (try rw [hWz]); refine hK _ _ ?_; clear hK K)
              refine wpAny_ready (rs := [5]) (by kernel_rfl) (by simp) ?_
              refine AllReady.cons rfl (fun K hK => ?_) AllReady.nil
              (refine ite_w (by rfl) ?_; refine wp_appendC (p : Int) _ _ rfl rfl rfl HVZ.out hf HCZ.out (by omega) ?_; intro cap w5 hOn hBn; have d5 : w5.cell? ⟨W.heap.size, 0, none⟩ = some (.func (.yield l) #[] #[])  := (by rw [cell_of_row _ _ _ _ _ _ ((hBn.block _ (by omega)).trans HYZ.out)]; try rfl); have HON := Lib.hid hOn; have HBN := Lib.hid hBn; clear hOn hBn; go_simp; refine hK _ _ ?_; clear hK K)
              refine wpAny_done (by kernel_rfl) (hR _ _ ?_) _
              clear hR hpan
              have hB5 : Below wr.heap.size wr w5 := HBZ.out.trans (HBN.out.mono (by omega))
              have hz5 := HBN.out.size
              have hT5 : ∀ j, both T2 T1 j → j < wr.heap.size := by
                rintro j (h | h)
                · have := HTS.out j h; omega
                · have := hT1s j h; omega
              have hpre5 : ((pre.flatMap fun m => (upto so.ha).map fun p => m ++ [p]) ++ ((upto so.ha).take p).map fun p => m ++ [p]) ++ [m ++ [(p : Int)]] <+: mxs L (k + 1) := by
                have h : (((upto so.ha).take p).map fun p => m ++ [p]) ++ [m ++ [(p : Int)]] = ((upto so.ha).take (p + 1)).map fun p => m ++ [p] := by rw [upto_take hlt]; simp
                rw [HMX.out, List.append_assoc, h]
                exact prefix_mid _ hpm.out ((List.take_prefix _ _).map _)
              have hj5 : J (both (both T2 T1) (own #[.slice (some ⟨Wz.heap.size, 0, none⟩) (m.length + 1) cap])) ((pre.flatMap fun m => (upto so.ha).map fun p => m ++ [p]) ++ ((upto so.ha).take p).map fun p => m ++ [p]) w5 := by
                have hoj : ∀ j, own #[.slice (some ⟨Wz.heap.size, 0, none⟩) (m.length + 1) cap] j → j = wr.heap.size + 1 := by
                  intro j h
                  have h := own_one.1 h
                  simp only [Value.ownBlock, Option.some.injEq] at h
                  omega
                refine (HJ.out _).turn _ wr w5 (fun j hj => ?_) (by omega) ((HJ.out _).ext _ _ _ HJp.out (fun j hj => ?_)) (Turn.of_below hB5)
                · rcases hj with h | h
                  · exact HTT.out j h
                  · have := hoj j h; omega
                · rcases hj with h | h
                  · exact .inl h
                  · exact .inr (by have := hoj j h; omega)
              obtain ⟨fn, tmps, assign, body, hy, hRR⟩ := HY.out (both T2 T1) _ (m ++ [(p : Int)]) #[.slice (some ⟨Wz.heap.size, 0, none⟩) (m.length + 1) cap] w5 HTT.out hpre5 hj5 ⟨_, rfl, Owns.downB HON.out (by omega), fun g hg hT => by
                simp only [Value.ownBlock, Option.some.injEq] at hg
                have := hT5 g hT; omega⟩ (by omega) (fun j h => by have := hT5 j h; omega)
              have HRR := Lib.hid hRR; have HB5 := Lib.hid hB5
              simp only [hzz, hml] at hy
              clear hRR hB5 hj5 hpre5 d0 d5 dz
              gi_wp2_with fail
              refine (round_any HRR.out).mono ?_
              rintro e w6 (⟨rfl, hj6, hk6⟩ | ⟨rfl, hx6, hk6⟩)
              · have HJ6 := Lib.hid hj6; have HK6 := Lib.hid hk6
                clear hj6 hk6 hy
                gi_wp2_with fail
                refine ⟨rfl, ?_⟩
                gi_wp2_with fail
                refine ⟨⟨p + 1, by omega, by simp, ?_, ?_⟩, by simp [intOf]; omega⟩
                · have h : ((upto so.ha).take (p + 1)).map (fun p => m ++ [p]) = (((upto so.ha).take p).map fun p => m ++ [p]) ++ [m ++ [(p : Int)]] := by rw [upto_take hlt]; simp
                  show J _ _ _
                  rw [h, ← List.append_assoc]
                  exact HJ6.out
                · refine HSp.out.trans ((SameOn.of_below HB5.out (fun j hj => ?_)).trans (HK6.out.mono (fun j h => ?_)))
                  · rcases hj with (h | h) | h
                    · have := HS.out j h; omega
                    · have := hT1s j h; omega
                    · have := HTS.out j h; omega
                  · rcases h with (h | h) | h
                    · exact .inl h
                    · exact .inr (.inr h)
                    · exact .inr (.inl h)
              · have HX6 := Lib.hid hx6; have HK6 := Lib.hid hk6
                clear hx6 hk6 hy
                gi_wp2_with fail
                refine ⟨rfl, ?_⟩
                gi_wp2_with fail
                have h62 : SameOn (both (both S T1) T2) W2 w6 := by
                  refine HSp.out.trans ((SameOn.of_below HB5.out (fun j hj => ?_)).trans (HK6.out.mono (fun j h => ?_)))
                  · rcases hj with (h | h) | h
                    · have := HS.out j h; omega
                    · have := hT1s j h; omega
                    · have := HTS.out j h; omega
                  · rcases h with (h | h) | h
                    · exact .inl h
                    · exact .inr (.inr h)
                    · exact .inr (.inl h)
                exact ⟨h62.mono (fun j h => Or.imp id (HT12.out j) h), rfl, HX.out.ext _ _ _ HX6.out (fun j h => .inl (Or.imp (HT12.out j) id h)), fun j h => HTL.out j (HT12.out j h), HS2.out.trans (h62.mono (fun j h => .inl h))⟩
            · (go_simp; (try rw [hWz]); refine hK _ _ ?_; clear hK K)
              refine wpAny_ready (rs := [0, 5]) (by kernel_rfl) (by simp) ?_
              refine AllReady.cons rfl (fun K hK => ?_) (AllReady.cons rfl (fun K hK => ?_) AllReady.nil)
              · (go_simp; refine hK _ _ ?_; clear hK K)
                refine wpAny_ready (rs := [5]) (by kernel_rfl) (by simp) ?_
                refine AllReady.cons rfl (fun K hK => ?_) AllReady.nil
                (refine ite_w (by rfl) ?_; refine wp_appendC (p : Int) _ _ rfl rfl rfl HVZ.out hf HCZ.out (by omega) ?_; intro cap w5 hOn hBn; have d5 : w5.cell? ⟨W.heap.size, 0, none⟩ = some (.func (.yield l) #[] #[])  := (by rw [cell_of_row _ _ _ _ _ _ ((hBn.block _ (by omega)).trans HYZ.out)]; try rfl); have HON := Lib.hid hOn; have HBN := Lib.hid hBn; clear hOn hBn; go_simp; refine hK _ _ ?_; clear hK K)
                refine wpAny_done (by kernel_rfl) (hR _ _ ?_) _
                clear hR hpan
                have hB5 : Below wr.heap.size wr w5 := HBZ.out.trans (HBN.out.mono (by omega))
                have hz5 := HBN.out.size
                have hT5 : ∀ j, both T2 T1 j → j < wr.heap.size := by
                  rintro j (h | h)
                  · have := HTS.out j h; omega
                  · have := hT1s j h; omega
                have hpre5 : ((pre.flatMap fun m => (upto so.ha).map fun p => m ++ [p]) ++ ((upto so.ha).take p).map fun p => m ++ [p]) ++ [m ++ [(p : Int)]] <+: mxs L (k + 1) := by
                  have h : (((upto so.ha).take p).map fun p => m ++ [p]) ++ [m ++ [(p : Int)]] = ((upto so.ha).take (p + 1)).map fun p => m ++ [p] := by rw [upto_take hlt]; simp
                  rw [HMX.out, List.append_assoc, h]
                  exact prefix_mid _ hpm.out ((List.take_prefix _ _).map _)
                have hj5 : J (both (both T2 T1) (own #[.slice (some ⟨Wz.heap.size, 0, none⟩) (m.length + 1) cap])) ((pre.flatMap fun m => (upto so.ha).map fun p => m ++ [p]) ++ ((upto so.ha).take p).map fun p => m ++ [p]) w5 := by
                  have hoj : ∀ j, own #[.slice (some ⟨Wz.heap.size, 0, none⟩) (m.length + 1) cap] j → j = wr.heap.size + 1 := by
                    intro j h
                    have h := own_one.1 h
                    simp only [Value.ownBlock, Option.some.injEq] at h
                    omega
                  refine (HJ.out _).turn _ wr w5 (fun j hj => ?_) (by omega) ((HJ.out _).ext _ _ _ HJp.out (fun j hj => ?_)) (Turn.of_below hB5)
                  · rcases hj with h | h
                    · exact HTT.out j h
                    · have := hoj j h; omega
                  · rcases hj with h | h
                    · exact .inl h
                    · exact .inr (by have := hoj j h; omega)
                obtain ⟨fn, tmps, assign, body, hy, hRR⟩ := HY.out (both T2 T1) _ (m ++ [(p : Int)]) #[.slice (some ⟨Wz.heap.size, 0, none⟩) (m.length + 1) cap] w5 HTT.out hpre5 hj5 ⟨_, rfl, Owns.downB HON.out (by omega), fun g hg hT => by
                  simp only [Value.ownBlock, Option.some.injEq] at hg
                  have := hT5 g hT; omega⟩ (by omega) (fun j h => by have := hT5 j h; omega)
                have HRR := Lib.hid hRR; have HB5 := Lib.hid hB5
                simp only [hzz, hml] at hy
                clear hRR hB5 hj5 hpre5 d0 d5 dz
                gi_wp2_with fail
                refine (round_any HRR.out).mono ?_
                rintro e w6 (⟨rfl, hj6, hk6⟩ | ⟨rfl, hx6, hk6⟩)
                · have HJ6 := Lib.hid hj6; have HK6 := Lib.hid hk6
                  clear hj6 hk6 hy
                  gi_wp2_with fail
                  refine ⟨rfl, ?_⟩
                  gi_wp2_with fail
                  refine ⟨⟨p + 1, by omega, by simp, ?_, ?_⟩, by simp [intOf]; omega⟩
                  · have h : ((upto so.ha).take (p + 1)).map (fun p => m ++ [p]) = (((upto so.ha).take p).map fun p => m ++ [p]) ++ [m ++ [(p : Int)]] := by rw [upto_take hlt]; simp
                    show J _ _ _
                    rw [h, ← List.append_assoc]
                    exact HJ6.out
                  · refine HSp.out.trans ((SameOn.of_below HB5.out (fun j hj => ?_)).trans (HK6.out.mono (fun j h => ?_)))
                    · rcases hj with (h | h) | h
                      · have := HS.out j h; omega
                      · have := hT1s j h; omega
                      · have := HTS.out j h; omega
                    · rcases h with (h | h) | h
                      · exact .inl h
                      · exact .inr (.inr h)
                      · exact .inr (.inl h)
                · have HX6 := Lib.hid hx6; have HK6 := Lib.hid hk6
                  clear hx6 hk6 hy
                  gi_wp2_with fail
                  refine ⟨rfl, ?_⟩
                  gi_wp2_with fail
                  have h62 : SameOn (both (both S T1) T2) W2 w6 := by
                    refine HSp.out.trans ((SameOn.of_below HB5.out (fun j hj => ?_)).trans (HK6.out.mono (fun j h => ?_)))
                    · rcases hj with (h | h) | h
                      · have := HS.out j h; omega
                      · have := hT1s j h; omega
                      · have := HTS.out j h; omega
                    · rcases h with (h | h) | h
                      · exact .inl h
                      · exact .inr (.inr h)
                      · exact .inr (.inl h)
                  exact ⟨h62.mono (fun j h => Or.imp id (HT12.out j) h), rfl, HX.out.ext _ _ _ HX6.out (fun j h => .inl (Or.imp (HT12.out j) id h)), fun j h => HTL.out j (HT12.out j h), HS2.out.trans (h62.mono (fun j h => .inl h))⟩
              · (refine ite_w (by rfl) ?_; refine wp_appendC (p : Int) _ _ rfl rfl rfl HVZ.out hf HCZ.out (by omega) ?_; intro cap w5 hOn hBn; have d5 : w5.cell? ⟨W.heap.size, 0, none⟩ = some (.func (.yield l) #[] #[])  := (by rw [cell_of_row _ _ _ _ _ _ ((hBn.block _ (by omega)).trans HYZ.out)]; try rfl); have HON := Lib.hid hOn; have HBN := Lib.hid hBn; clear hOn hBn; go_simp; refine hK _ _ ?_; clear hK K)
                refine wpAny_ready (rs := [0]) (by kernel_rfl) (by simp) ?_
                refine AllReady.cons rfl (fun K hK => ?_) AllReady.nil
                (go_simp; refine hK _ _ ?_; clear hK K)
                refine wpAny_done (by kernel_rfl) (hR _ _ ?_) _
                clear hR hpan
                have hB5 : Below wr.heap.size wr w5 := HBZ.out.trans (HBN.out.mono (by omega))
                have hz5 := HBN.out.size
                have hT5 : ∀ j, both T2 T1 j → j < wr.heap.size := by
                  rintro j (h | h)
                  · have := HTS.out j h; omega
                  · have := hT1s j h; omega
                have hpre5 : ((pre.flatMap fun m => (upto so.ha).map fun p => m ++ [p]) ++ ((upto so.ha).take p).map fun p => m ++ [p]) ++ [m ++ [(p : Int)]] <+: mxs L (k + 1) := by
                  have h : (((upto so.ha).take p).map fun p => m ++ [p]) ++ [m ++ [(p : Int)]] = ((upto so.ha).take (p + 1)).map fun p => m ++ [p] := by rw [upto_take hlt]; simp
                  rw [HMX.out, List.append_assoc, h]
                  exact prefix_mid _ hpm.out ((List.take_prefix _ _).map _)
                have hj5 : J (both (both T2 T1) (own #[.slice (some ⟨Wz.heap.size, 0, none⟩) (m.length + 1) cap])) ((pre.flatMap fun m => (upto so.ha).map fun p => m ++ [p]) ++ ((upto so.ha).take p).map fun p => m ++ [p]) w5 := by
                  have hoj : ∀ j, own #[.slice (some ⟨Wz.heap.size, 0, none⟩) (m.length + 1) cap] j → j = wr.heap.size + 1 := by
                    intro j h
                    have h := own_one.1 h
                    simp only [Value.ownBlock, Option.some.injEq] at h
                    omega
                  refine (HJ.out _).turn _ wr w5 (fun j hj => ?_) (by omega) ((HJ.out _).ext _ _ _ HJp.out (fun j hj => ?_)) (Turn.of_below hB5)
                  · rcases hj with h | h
                    · exact HTT.out j h
                    · have := hoj j h; omega
                  · rcases hj with h | h
                    · exact .inl h
                    · exact .inr (by have := hoj j h; omega)
                obtain ⟨fn, tmps, assign, body, hy, hRR⟩ := HY.out (both T2 T1) _ (m ++ [(p : Int)]) #[.slice (some ⟨Wz.heap.size, 0, none⟩) (m.length + 1) cap] w5 HTT.out hpre5 hj5 ⟨_, rfl, Owns.downB HON.out (by omega), fun g hg hT => by
                  simp only [Value.ownBlock, Option.some.injEq] at hg
                  have := hT5 g hT; omega⟩ (by omega) (fun j h => by have := hT5 j h; omega)
                have HRR := Lib.hid hRR; have HB5 := Lib.hid hB5
                simp only [hzz, hml] at hy
                clear hRR hB5 hj5 hpre5 d0 d5 dz
                gi_wp2_with fail
                refine (round_any HRR.out).mono ?_
                rintro e w6 (⟨rfl, hj6, hk6⟩ | ⟨rfl, hx6, hk6⟩)
                · have HJ6 := Lib.hid hj6; have HK6 := Lib.hid hk6
                  clear hj6 hk6 hy
                  gi_wp2_with fail
                  refine ⟨rfl, ?_⟩
                  gi_wp2_with fail
                  refine ⟨⟨p + 1, by omega, by simp, ?_, ?_⟩, by simp [intOf]; omega⟩
                  · have h : ((upto so.ha).take (p + 1)).map (fun p => m ++ [p]) = (((upto so.ha).take p).map fun p => m ++ [p]) ++ [m ++ [(p : Int)]] := by rw [upto_take hlt]; simp
                    show J _ _ _
                    rw [h, ← List.append_assoc]
                    exact HJ6.out
                  · refine HSp.out.trans ((SameOn.of_below HB5.out (fun j hj => ?_)).trans (HK6.out.mono (fun j h => ?_)))
                    · rcases hj with (h | h) | h
                      · have := HS.out j h; omega
                      · have := hT1s j h; omega
                      · have := HTS.out j h; omega
                    · rcases h with (h | h) | h
                      · exact .inl h
                      · exact .inr (.inr h)
                      · exact .inr (.inl h)
                · have HX6 := Lib.hid hx6; have HK6 := Lib.hid hk6
                  clear hx6 hk6 hy
                  gi_wp2_with fail
                  refine ⟨rfl, ?_⟩
                  gi_wp2_with fail
                  have h62 : SameOn (both (both S T1) T2) W2 w6 := by
                    refine HSp.out.trans ((SameOn.of_below HB5.out (fun j hj => ?_)).trans (HK6.out.mono (fun j h => ?_)))
                    · rcases hj with (h | h) | h
                      · have := HS.out j h; omega
                      · have := hT1s j h; omega
                      · have := HTS.out j h; omega
                    · rcases h with (h | h) | h
                      · exact .inl h
                      · exact .inr (.inr h)
                      · exact .inr (.inl h)
                  exact ⟨h62.mono (fun j h => Or.imp id (HT12.out j) h), rfl, HX.out.ext _ _ _ HX6.out (fun j h => .inl (Or.imp (HT12.out j) id h)), fun j h => HTL.out j (HT12.out j h), HS2.out.trans (h62.mono (fun j h => .inl h))⟩
          · (go_simp; (try rw [hWz]); refine hK _ _ ?_; clear hK K)
            refine wpAny_ready (rs := [0, 2]) (by kernel_rfl) (by simp) ?_
            refine AllReady.cons rfl (fun K hK => ?_) (AllReady.cons rfl (fun K hK => ?_) AllReady.nil)
            · (go_simp; refine hK _ _ ?_; clear hK K)
              refine wpAny_ready (rs := [2]) (by kernel_rfl) (by simp) ?_
              refine AllReady.cons rfl (fun K hK => ?_) AllReady.nil
              (go_simp; refine (HCK.out _).mono ?_; rintro e w' ⟨rfl, hw'⟩; dsimp only; rw [hw']; clear hw' w'; refine hK _ _ ?_; clear hK K)
              refine wpAny_ready (rs := [5]) (by kernel_rfl) (by simp) ?_
              refine AllReady.cons rfl (fun K hK => ?_) AllReady.nil
              (refine ite_w (by rfl) ?_; refine wp_appendC (p : Int) _ _ rfl rfl rfl HVZ.out hf HCZ.out (by omega) ?_; intro cap w5 hOn hBn; have d5 : w5.cell? ⟨W.heap.size, 0, none⟩ = some (.func (.yield l) #[] #[])  := (by rw [cell_of_row _ _ _ _ _ _ ((hBn.block _ (by omega)).trans HYZ.out)]; try rfl); have HON := Lib.hid hOn; have HBN := Lib.hid hBn; clear hOn hBn; go_simp; refine hK _ _ ?_; clear hK K)
              refine wpAny_done (by kernel_rfl) (hR _ _ ?_) _
              clear hR hpan
              have hB5 : Below wr.heap.size wr w5 := HBZ.out.trans (HBN.out.mono (by omega))
              have hz5 := HBN.out.size
              have hT5 : ∀ j, both T2 T1 j → j < wr.heap.size := by
                rintro j (h | h)
                · have := HTS.out j h; omega
                · have := hT1s j h; omega
              have hpre5 : ((pre.flatMap fun m => (upto so.ha).map fun p => m ++ [p]) ++ ((upto so.ha).take p).map fun p => m ++ [p]) ++ [m ++ [(p : Int)]] <+: mxs L (k + 1) := by
                have h : (((upto so.ha).take p).map fun p => m ++ [p]) ++ [m ++ [(p : Int)]] = ((upto so.ha).take (p + 1)).map fun p => m ++ [p] := by rw [upto_take hlt]; simp
                rw [HMX.out, List.append_assoc, h]
                exact prefix_mid _ hpm.out ((List.take_prefix _ _).map _)
              have hj5 : J (both (both T2 T1) (own #[.slice (some ⟨Wz.heap.size, 0, none⟩) (m.length + 1) cap])) ((pre.flatMap fun m => (upto so.ha).map fun p => m ++ [p]) ++ ((upto so.ha).take p).map fun p => m ++ [p]) w5 := by
                have hoj : ∀ j, own #[.slice (some ⟨Wz.heap.size, 0, none⟩) (m.length + 1) cap] j → j = wr.heap.size + 1 := by
                  intro j h
                  have h := own_one.1 h
                  simp only [Value.ownBlock, Option.some.injEq] at h
                  omega
                refine (HJ.out _).turn _ wr w5 (fun j hj => ?_) (by omega) ((HJ.out _).ext _ _ _ HJp.out (fun j hj => ?_)) (Turn.of_below hB5)
                · rcases hj with h | h
                  · exact HTT.out j h
                  · have := hoj j h; omega
                · rcases hj with h | h
                  · exact .inl h
                  · exact .inr (by have := hoj j h; omega)
              obtain ⟨fn, tmps, assign, body, hy, hRR⟩ := HY.out (both T2 T1) _ (m ++ [(p : Int)]) #[.slice (some ⟨Wz.heap.size, 0, none⟩) (m.length + 1) cap] w5 HTT.out hpre5 hj5 ⟨_, rfl, Owns.downB HON.out (by omega), fun g hg hT => by
                simp only [Value.ownBlock, Option.some.injEq] at hg
                have := hT5 g hT; omega⟩ (by omega) (fun j h => by have := hT5 j h; omega)
              have HRR := Lib.hid hRR; have HB5 := Lib.hid hB5
              simp only [hzz, hml] at hy
              clear hRR hB5 hj5 hpre5 d0 d5 dz
              gi_wp2_with fail
              refine (round_any HRR.out).mono ?_
              rintro e w6 (⟨rfl, hj6, hk6⟩ | ⟨rfl, hx6, hk6⟩)
              · have HJ6 := Lib.hid hj6; have HK6 := Lib.hid hk6
                clear hj6 hk6 hy
                gi_wp2_with fail
                refine ⟨rfl, ?_⟩
                gi_wp2_with fail
                refine ⟨⟨p + 1, by omega, by simp, ?_, ?_⟩, by simp [intOf]; omega⟩
                · have h : ((upto so.ha).take (p + 1)).map (fun p => m ++ [p]) = (((upto so.ha).take p).map fun p => m ++ [p]) ++ [m ++ [(p : Int)]] := by rw [upto_take hlt]; simp
                  show J _ _ _
                  rw [h, ← List.append_assoc]
                  exact HJ6.out
                · refine HSp.out.trans ((SameOn.of_below HB5.out (fun j hj => ?_)).trans (HK6.out.mono (fun j h => ?_)))
                  · rcases hj with (h | h) | h
                    · have := HS.out j h; omega
                    · have := hT1s j h; omega
                    · have := HTS.out j h; omega
                  · rcases h with (h | h) | h
                    · exact .inl h
                    · exact .inr (.inr h)
                    · exact .inr (.inl h)
              · have HX6 := Lib.hid hx6; have HK6 := Lib.hid hk6
                clear hx6 hk6 hy
                gi_wp2_with fail
                refine ⟨rfl, ?_⟩
                gi_wp2_with fail
                have h62 : SameOn (both (both S T1) T2) W2 w6 := by
                  refine HSp.out.trans ((SameOn.of_below HB5.out (fun j hj => ?_)).trans (HK6.out.mono (fun j h => ?_)))
                  · rcases hj with (h | h) | h
                    · have := HS.out j h; omega
                    · have := hT1s j h; omega
                    · have := HTS.out j h; omega
                  · rcases h with (h | h) | h
                    · exact .inl h
                    · exact .inr (.inr h)
                    · exact .inr (.inl h)
                exact ⟨h62.mono (fun j h => Or.imp id (HT12.out j) h), rfl, HX.out.ext _ _ _ HX6.out (fun j h => .inl (Or.imp (HT12.out j) id h)), fun j h => HTL.out j (HT12.out j h), HS2.out.trans (h62.mono (fun j h => .inl h))⟩
            · (go_simp; refine (HCK.out _).mono ?_; rintro e w' ⟨rfl, hw'⟩; dsimp only; rw [hw']; clear hw' w'; refine hK _ _ ?_; clear hK K)
              refine wpAny_ready (rs := [0, 5]) (by kernel_rfl) (by simp) ?_
              refine AllReady.cons rfl (fun K hK => ?_) (AllReady.cons rfl (fun K hK => ?_) AllReady.nil)
              · (go_simp; refine hK _ _ ?_; clear hK K)
                refine wpAny_ready (rs := [5]) (by kernel_rfl) (by simp) ?_
                refine AllReady.cons rfl (fun K hK => ?_) AllReady.nil
                (refine ite_w (by rfl) ?_; refine wp_appendC (p : Int) _ _ rfl rfl rfl HVZ.out hf HCZ.out (by omega) ?_; intro cap w5 hOn hBn; have d5 : w5.cell? ⟨W.heap.size, 0, none⟩ = some (.func (.yield l) #[] #[])  := (by rw [cell_of_row _ _ _ _ _ _ ((hBn.block _ (by omega)).trans HYZ.out)]; try rfl); have HON := Lib.hid hOn; have HBN := Lib.hid hBn; clear hOn hBn; go_simp; refine hK _ _ ?_; clear hK K)
                refine wpAny_done (by kernel_rfl) (hR _ _ ?_) _
                clear hR hpan
                have hB5 : Below wr.heap.size wr w5 := HBZ.out.trans (HBN.out.mono (by omega))
                have hz5 := HBN.out.size
                have hT5 : ∀ j, both T2 T1 j → j < wr.heap.size := by
                  rintro j (h | h)
                  · have := HTS.out j h; omega
                  · have := hT1s j h; omega
                have hpre5 : ((pre.flatMap fun m => (upto so.ha).map fun p => m ++ [p]) ++ ((upto so.ha).take p).map fun p => m ++ [p]) ++ [m ++ [(p : Int)]] <+: mxs L (k + 1) := by
                  have h : (((upto so.ha).take p).map fun p => m ++ [p]) ++ [m ++ [(p : Int)]] = ((upto so.ha).take (p + 1)).map fun p => m ++ [p] := by rw [upto_take hlt]; simp
                  rw [HMX.out, List.append_assoc, h]
                  exact prefix_mid _ hpm.out ((List.take_prefix _ _).map _)
                have hj5 : J (both (both T2 T1) (own #[.slice (some ⟨Wz.heap.size, 0, none⟩) (m.length + 1) cap])) ((pre.flatMap fun m => (upto so.ha).map fun p => m ++ [p]) ++ ((upto so.ha).take p).map fun p => m ++ [p]) w5 := by
                  have hoj : ∀ j, own #[.slice (some ⟨Wz.heap.size, 0, none⟩) (m.length + 1) cap] j → j = wr.heap.size + 1 := by
                    intro j h
                    have h := own_one.1 h
                    simp only [Value.ownBlock, Option.some.injEq] at h
                    omega
                  refine (HJ.out _).turn _ wr w5 (fun j hj => ?_) (by omega) ((HJ.out _).ext _ _ _ HJp.out (fun j hj => ?_)) (Turn.of_below hB5)
                  · rcases hj with h | h
                    · exact HTT.out j h
                    · have := hoj j h; omega
                  · rcases hj with h | h
                    · exact .inl h
                    · exact .inr (by have := hoj j h; omega)
                obtain ⟨fn, tmps, assign, body, hy, hRR⟩ := HY.out (both T2 T1) _ (m ++ [(p : Int)]) #[.slice (some ⟨Wz.heap.size, 0, none⟩) (m.length + 1) cap] w5 HTT.out hpre5 hj5 ⟨_, rfl, Owns.downB HON.out (by omega), fun g hg hT => by
                  simp only [Value.ownBlock, Option.some.injEq] at hg
                  have := hT5 g hT; omega⟩ (by omega) (fun j h => by have := hT5 j h; omega)
                have HRR := Lib.hid hRR; have HB5 := Lib.hid hB5
                simp only [hzz, hml] at hy
                clear hRR hB5 hj5 hpre5 d0 d5 dz
                gi_wp2_with fail
                refine (round_any HRR.out).mono ?_
                rintro e w6 (⟨rfl, hj6, hk6⟩ | ⟨rfl, hx6, hk6⟩)
                · have HJ6 := Lib.hid hj6; have HK6 := Lib.hid hk6
                  clear hj6 hk6 hy
                  gi_wp2_with fail
                  refine ⟨rfl, ?_⟩
                  gi_wp2_with fail
                  refine ⟨⟨p + 1, by omega, by simp, ?_, ?_⟩, by simp [intOf]; omega⟩
                  · have h : ((upto so.ha).take (p + 1)).map (fun p => m ++ [p]) = (((upto so.ha).take p).map fun p => m ++ [p]) ++ [m ++ [(p : Int)]] := by rw [upto_take hlt]; simp
                    show J _ _ _
                    rw [h, ← List.append_assoc]
                    exact HJ6.out
                  · refine HSp.out.trans ((SameOn.of_below HB5.out (fun j hj => ?_)).trans (HK6.out.mono (fun j h => ?_)))
                    · rcases hj with (h | h) | h
                      · have := HS.out j h; omega
                      · have := hT1s j h; omega
                      · have := HTS.out j h; omega
                    · rcases h with (h | h) | h
                      · exact .inl h
                      · exact .inr (.inr h)
                      · exact .inr (.inl h)
                · have HX6 := Lib.hid hx6; have HK6 := Lib.hid hk6
                  clear hx6 hk6 hy
                  gi_wp2_with fail
                  refine ⟨rfl, ?_⟩
                  gi_wp2_with fail
                  have h62 : SameOn (both (both S T1) T2) W2 w6 := by
                    refine HSp.out.trans ((SameOn.of_below HB5.out (fun j hj => ?_)).trans (HK6.out.mono (fun j h => ?_)))
                    · rcases hj with (h | h) | h
                      · have := HS.out j h; omega
                      · have := hT1s j h; omega
                      · have := HTS.out j h; omega
                    · rcases h with (h | h) | h
                      · exact .inl h
                      · exact .inr (.inr h)
                      · exact .inr (.inl h)
                  exact ⟨h62.mono (fun j h => Or.imp id (HT12.out j) h), rfl, HX.out.ext _ _ _ HX6.out (fun j h => .inl (Or.imp (HT12.out j) id h)), fun j h => HTL.out j (HT12.out j h), HS2.out.trans (h62.mono (fun j h => .inl h))⟩
              · (refine ite_w (by rfl) ?_; refine wp_appendC (p : Int) _ _ rfl rfl rfl HVZ.out hf HCZ.out (by omega) ?_; intro cap w5 hOn hBn; have d5 : w5.cell? ⟨W.heap.size, 0, none⟩ = some (.func (.yield l) #[] #[])  := (by rw [cell_of_row _ _ _ _ _ _ ((hBn.block _ (by omega)).trans HYZ.out)]; try rfl); have HON := Lib.hid hOn; have HBN := Lib.hid hBn; clear hOn hBn; go_simp; refine hK _ _ ?_; clear hK K)
                refine wpAny_ready (rs := [0]) (by kernel_rfl) (by simp) ?_
                refine AllReady.cons rfl (fun K hK => ?_) AllReady.nil
                (go_simp; refine hK _ _ ?_; clear hK K)
                refine wpAny_done (by kernel_rfl) (hR _ _ ?_) _
                clear hR hpan
                have hB5 : Below wr.heap.size wr w5 := HBZ.out.trans (HBN.out.mono (by omega))
                have hz5 := HBN.out.size
                have hT5 : ∀ j, both T2 T1 j → j < wr.heap.size := by
                  rintro j (h | h)
                  · have := HTS.out j h; omega
                  · have := hT1s j h; omega
                have hpre5 : ((pre.flatMap fun m => (upto so.ha).map fun p => m ++ [p]) ++ ((upto so.ha).take p).map fun p => m ++ [p]) ++ [m ++ [(p : Int)]] <+: mxs L (k + 1) := by
                  have h : (((upto so.ha).take p).map fun p => m ++ [p]) ++ [m ++ [(p : Int)]] = ((upto so.ha).take (p + 1)).map fun p => m ++ [p] := by rw [upto_take hlt]; simp
                  rw [HMX.out, List.append_assoc, h]
                  exact prefix_mid _ hpm.out ((List.take_prefix _ _).map _)
                have hj5 : J (both (both T2 T1) (own #[.slice (some ⟨Wz.heap.size, 0, none⟩) (m.length + 1) cap])) ((pre.flatMap fun m => (upto so.ha).map fun p => m ++ [p]) ++ ((upto so.ha).take p).map fun p => m ++ [p]) w5 := by
                  have hoj : ∀ j, own #[.slice (some ⟨Wz.heap.size, 0, none⟩) (m.length + 1) cap] j → j = wr.heap.size + 1 := by
                    intro j h
                    have h := own_one.1 h
                    simp only [Value.ownBlock, Option.some.injEq] at h
                    omega
                  refine (HJ.out _).turn _ wr w5 (fun j hj => ?_) (by omega) ((HJ.out _).ext _ _ _ HJp.out (fun j hj => ?_)) (Turn.of_below hB5)
                  · rcases hj with h | h
                    · exact HTT.out j h
                    · have := hoj j h; omega
                  · rcases hj with h | h
                    · exact .inl h
                    · exact .inr (by have := hoj j h; omega)
                obtain ⟨fn, tmps, assign, body, hy, hRR⟩ := HY.out (both T2 T1) _ (m ++ [(p : Int)]) #[.slice (some ⟨Wz.heap.size, 0, none⟩) (m.length + 1) cap] w5 HTT.out hpre5 hj5 ⟨_, rfl, Owns.downB HON.out (by omega), fun g hg hT => by
                  simp only [Value.ownBlock, Option.some.injEq] at hg
                  have := hT5 g hT; omega⟩ (by omega) (fun j h => by have := hT5 j h; omega)
                have HRR := Lib.hid hRR; have HB5 := Lib.hid hB5
                simp only [hzz, hml] at hy
                clear hRR hB5 hj5 hpre5 d0 d5 dz
                gi_wp2_with fail
                refine (round_any HRR.out).mono ?_
                rintro e w6 (⟨rfl, hj6, hk6⟩ | ⟨rfl, hx6, hk6⟩)
                · have HJ6 := Lib.hid hj6; have HK6 := Lib.hid hk6
                  clear hj6 hk6 hy
                  gi_wp2_with fail
                  refine ⟨rfl, ?_⟩
                  gi_wp2_with fail
                  refine ⟨⟨p + 1, by omega, by simp, ?_, ?_⟩, by simp [intOf]; omega⟩
                  · have h : ((upto so.ha).take (p + 1)).map (fun p => m ++ [p]) = (((upto so.ha).take p).map fun p => m ++ [p]) ++ [m ++ [(p : Int)]] := by rw [upto_take hlt]; simp
                    show J _ _ _
                    rw [h, ← List.append_assoc]
                    exact HJ6.out
                  · refine HSp.out.trans ((SameOn.of_below HB5.out (fun j hj => ?_)).trans (HK6.out.mono (fun j h => ?_)))
                    · rcases hj with (h | h) | h
                      · have := HS.out j h; omega
                      · have := hT1s j h; omega
                      · have := HTS.out j h; omega
                    · rcases h with (h | h) | h
                      · exact .inl h
                      · exact .inr (.inr h)
                      · exact .inr (.inl h)
                · have HX6 := Lib.hid hx6; have HK6 := Lib.hid hk6
                  clear hx6 hk6 hy
                  gi_wp2_with fail
                  refine ⟨rfl, ?_⟩
                  gi_wp2_with fail
                  have h62 : SameOn (both (both S T1) T2) W2 w6 := by
                    refine HSp.out.trans ((SameOn.of_below HB5.out (fun j hj => ?_)).trans (HK6.out.mono (fun j h => ?_)))
                    · rcases hj with (h | h) | h
                      · have := HS.out j h; omega
                      · have := hT1s j h; omega
                      · have := HTS.out j h; omega
                    · rcases h with (h | h) | h
                      · exact .inl h
                      · exact .inr (.inr h)
                      · exact .inr (.inl h)
                  exact ⟨h62.mono (fun j h => Or.imp id (HT12.out j) h), rfl, HX.out.ext _ _ _ HX6.out (fun j h => .inl (Or.imp (HT12.out j) id h)), fun j h => HTL.out j (HT12.out j h), HS2.out.trans (h62.mono (fun j h => .inl h))⟩
        · have hpe : p = (so.ha + 1).toNat := by omega
          have j0 : ¬ ((p : Int) < so.ha + 1) := by omega
          gi_wp2_with fail
          refine ⟨HSp.out.mono (fun j h => Or.imp id (HT12.out j) h), ?_, fun j h => (by have := HTL.out j (HT12.out j h); have := HZ0.out; omega), HS2.out.trans (HSp.out.mono (fun j h => .inl h))⟩
          have h := (HJ.out _).ext _ (both T T1) _ HJp.out (fun j h => .inl (Or.imp (HT12.out j) id h))
          rw [hpe, show (upto so.ha).take (so.ha + 1).toNat = upto so.ha from List.take_of_length_le (by simp [upto])] at h
          simpa using h
end Go.Proofs.Ytfdahmdehmhllaa
