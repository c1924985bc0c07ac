/- Turns: how long each cloth waits, one after another. -/
import Derived.Test.YthkmklfmobenaaaQd
import Derived.Test.YthkmklfmobenaaaRnd
namespace Go.Proofs.Ythkmklfmobenaaa
open Go Go.RowKit Go.Shelf
attribute [local go_sem] Oper.semAt_some

/-- How long a visit was waited for. -/
def waitV (C : List Ct) (v : Nat × Int × Int) : Nat × Int := (v.1, v.2.1 - coOf C v.1)
def waitL (C : List Ct) (k : Nat) (o : List Nat) : List (Nat × Int) := (visL (coOf C) (hiOf C) (List.replicate k 0) o).map (waitV C)
def encW (p : Nat × Int) : Array Value := #[iv (p.1 : Int), iv p.2]
theorem prefix_map {α β : Type} (g : α → β) {pre xs : List α} {x : α} (h : (pre ++ [x]) <+: xs) : (pre.map g ++ [g x]) <+: xs.map g := by
  have := h.map g
  simpa using this

set_option maxRecDepth 20000 in
set_option maxHeartbeats 12800000 in
theorem waits_seq (S : Nat → Prop) (C : List Ct) (o : List Nat) (ca oa : Option Addr) (cc oc k : Nat) (rv : Value) (w0 : World) (hS : ∀ j, S j → j < w0.heap.size)
    (hq : ∀ W, SameOn S w0 W → QuIn W ca oa cc oc C o) (hk : QuOk C o k) :
    SeqP Try.prog 44 #[qv (.slice ca C.length cc) rv k (.slice oa o.length oc)] #[] encW S (waitL C k o) w0 := by
  intro n l J Jx W hW hJ hJx hY h0
  change CallsIn _ _ _ _ #[qv (.slice ca C.length cc) rv k (.slice oa o.length oc), .func (.yield l) #[] #[]] _ _
  have HS : Hid (∀ j, S j → j < W.heap.size) := fun j hj => Nat.lt_of_lt_of_le (hS j hj) hW.size
  have HQ : Hid (∀ wr, SameOn S W wr → QuIn wr ca oa cc oc C o) := fun wr h => hq wr (hW.trans h)
  have HY := Lib.hid hY; have HJ := Lib.hid hJ; have HX := Lib.hid hJx; have H0 := Lib.hid h0; have HK := Lib.hid hk
  clear hY hJ hJx h0 hq hS hW hk
  have hBa : Below W.heap.size W ((W.alloc (.cells #[.slice ca C.length cc, rv, iv k, .slice oa o.length oc] 73)).alloc (.cells #[.func (.yield l) #[] #[]] 122)) := (by repeat (first | exact Below.refl _ _ | refine Below.drew ?_ | refine bpush ?_ _ | refine bput ?_ (by simp) _ | (refine bstep ?_ (by assumption))))
  have hza : ((W.alloc (.cells #[.slice ca C.length cc, rv, iv k, .slice oa o.length oc] 73)).alloc (.cells #[.func (.yield l) #[] #[]] 122)).heap.size = W.heap.size + 2 := by simp
  have hqa : ((W.alloc (.cells #[.slice ca C.length cc, rv, iv k, .slice oa o.length oc] 73)).alloc (.cells #[.func (.yield l) #[] #[]] 122)).heap[W.heap.size]? = some (.cells #[.slice ca C.length cc, rv, iv k, .slice oa o.length oc] 73 (0, 0)) := by
    rw [Below.heap_alloc _ _ _ (by simp)]; exact heap_new _ _ _
  have hya : ((W.alloc (.cells #[.slice ca C.length cc, rv, iv k, .slice oa o.length oc] 73)).alloc (.cells #[.func (.yield l) #[] #[]] 122)).heap[W.heap.size + 1]? = some (.cells #[.func (.yield l) #[] #[]] 122 (0, 0)) := by
    have := heap_new (W.alloc (.cells #[.slice ca C.length cc, rv, iv k, .slice oa o.length oc] 73)) #[.func (.yield l) #[] #[]] 122
    rwa [World.size_alloc] at this
  have HBa := Lib.hid hBa; have HZa := Lib.hid hza; have HQa := Lib.hid hqa; have HYa := Lib.hid hya
  clear hBa hza hqa hya
  refine callsIn_of_wp_marks Try.func44 rfl trivial ?_ rfl
  simp only [Try.ntmps44, List.size_toArray, List.length_cons, List.length_nil, Nat.reduceAdd, Nat.reduceSub, Array.replicate_succ, Array.replicate_zero, List.push_toArray, List.append_toArray, List.nil_append, List.cons_append]
  gi_wp2_with fail
  generalize ((W.alloc (.cells #[.slice ca C.length cc, rv, iv k, .slice oa o.length oc] 73)).alloc (.cells #[.func (.yield l) #[] #[]] 122)) = Wa at *
  refine (callsIn_wide.2 (visits_any _ _ _ _ _ _)).mono ?_
  rintro e W0 ⟨rfl, hw0⟩
  have hb0 : Below Wa.heap.size Wa W0 := by rw [← hw0]; exact bpush (bpush (Below.refl _ _) _) _
  have hq0 : W0.heap[Wa.heap.size]? = some (.cells #[.slice ca C.length cc, rv, iv k, .slice oa o.length oc] 73 (0, 0)) := by
    rw [← hw0, Below.heap_alloc _ _ _ (by simp)]; exact heap_new _ _ _
  have hs0 : W0.heap[Wa.heap.size + 1]? = some (.cells #[.func (.func 22) #[] #[]] 97 (0, 0)) := by
    rw [← hw0]
    have := heap_new (Wa.alloc (.cells #[.slice ca C.length cc, rv, iv k, .slice oa o.length oc] 73)) #[.func (.func 22) #[] #[]] 97
    rwa [World.size_alloc] at this
  have hz0 : W0.heap.size = Wa.heap.size + 2 := by rw [← hw0]; simp
  have hza := HZa.out
  have HB0 := Lib.hid (bstep HBa.out hb0)
  have HQ0 := Lib.hid ((hb0.block W.heap.size (by omega)).trans HQa.out)
  have HY0 := Lib.hid ((hb0.block (W.heap.size + 1) (by omega)).trans HYa.out)
  have HZ0 : Hid (W0.heap.size = W.heap.size + 4) := by unfold Hid; omega
  have hew : Wa.heap.size = W.heap.size + 2 := hza
  clear hw0 hb0 hz0 HBa HZa HQa HYa
  obtain ⟨T1, hT1⟩ : ∃ T1 : Nat → Prop, T1 = fun j => W.heap.size ≤ j ∧ j < W.heap.size + 4 := ⟨_, rfl⟩
  have hT1l : ∀ j, T1 j → W.heap.size ≤ j := by intro j hj; rw [hT1] at hj; omega
  have hT1s : ∀ j, T1 j → j < W.heap.size + 4 := by intro j hj; rw [hT1] at hj; omega
  have hT1i : ∀ j, W.heap.size ≤ j → j < W.heap.size + 4 → T1 j := by intro j h1 h2; rw [hT1]; exact ⟨h1, h2⟩
  clear hT1
  have hS1 : ∀ j, both S T1 j → j < W0.heap.size := by
    have := HZ0.out
    rintro j (h | h)
    · have := HS.out j h; omega
    · have := hT1s j h; omega
  have hbT : ∀ (T : Nat → Prop), (∀ j, T j → W0.heap.size ≤ j) → ∀ j, both T T1 j → W.heap.size ≤ j := by
    have := HZ0.out
    rintro T hT j (h | h)
    · have := hT j h; omega
    · exact hT1l j h
  have hst : ∀ (K : (Nat → Prop) → World → Prop), Stable W.heap.size K → Stable W0.heap.size (fun T Wr => K (both T T1) Wr ∧ (∀ j, T j → W0.heap.size ≤ j) ∧ SameOn (both S T1) W0 Wr) := by
    intro K hK
    refine ⟨fun T T' Wr ⟨h1, h2, h3⟩ hT => ⟨hK.ext _ _ Wr h1 (fun j hj => ?_), fun j hj => ?_, h3⟩, fun T Wr Wr' hT hB ⟨h1, h2, h3⟩ htn => ⟨hK.turn _ Wr Wr' (hbT T h2) (by have := HZ0.out; omega) h1 (htn.mono (fun j h => .inl h)), h2, h3.trans ⟨htn.size, fun j hj => htn.same j (Nat.lt_of_lt_of_le (hS1 j hj) h3.size) (fun h => by have := h2 j h; have := hS1 j hj; omega)⟩⟩⟩
    · rcases hj with hj | hj
      · exact (hT j hj).imp .inl id
      · exact .inl (.inr hj)
    · rcases hT j hj with h | h
      · exact h2 j h
      · exact Nat.le_trans h3.size h
  have hsW : ∀ Wr, SameOn (both S T1) W0 Wr → SameOn S W Wr := fun Wr h => (SameOn.of_below HB0.out HS.out).trans (h.mono (fun _ h => .inl h))
  have hSQ := visitsHi_seq (both S T1) Wa.heap.size (Wa.heap.size + 1) (.inr (hT1i _ (by omega) (by omega))) (.inr (hT1i _ (by omega) (by omega))) C o ca oa cc oc k rv W0 hS1 hq0 hs0 (fun Wr h => (HQ.out Wr (hsW Wr h)).cl) (fun Wr h => (HQ.out Wr (hsW Wr h)).od) HK.out.lt HK.out.pos HK.out.len HK.out.ok
  have HSQ := Lib.hid hSQ
  have HEW := Lib.hid hew
  clear hq0 hs0 hSQ hza hew
  gi_wp2_with fail
  refine rangeL (gf := 36) (lb := #[.pointer (some ⟨Wa.heap.size, 0, none⟩), .pointer (some ⟨Wa.heap.size + 1, 0, none⟩)]) rfl (enters_of Try.func36 (by kernel_rfl) rfl)
    HSQ.out (fun _ => rfl) hS1
    (fun T pre Wr => J (both T T1) (pre.map (waitV C)) Wr ∧ (∀ j, T j → W0.heap.size ≤ j) ∧ SameOn (both S T1) W0 Wr)
    (fun c T Wr => c = .ret ∧ (Jx (both T T1) Wr ∧ (∀ j, T j → W0.heap.size ≤ j) ∧ SameOn (both S T1) W0 Wr))
    (fun s => hst _ (HJ.out _)) (fun c => ?_) ?_ ?round ?done ?stop
  · exact ⟨fun T T' Wr ⟨h1, h2⟩ hT => ⟨h1, (hst _ HX.out).ext T T' Wr h2 hT⟩, fun T Wr Wr' hT hB ⟨h1, h2⟩ htn => ⟨h1, (hst _ HX.out).turn T Wr Wr' hT hB h2 htn⟩⟩
  · refine ⟨?_, fun j h => h.elim, SameOn.refl _ _⟩
    refine (HJ.out _).turn _ W W0 (fun j hj => ?_) (Nat.le_refl _) ((HJ.out _).ext _ _ W H0.out (fun j hj => ?_)) (Turn.of_below HB0.out)
    · rcases hj with h | h
      · exact h.elim
      · exact hT1l j h
    · rcases hj with h | h
      · exact h.elim
      · exact .inr (hT1l j h)
  case done =>
    rintro T Wf hTD hTl hsz ⟨hj, hT2, hs⟩ hKd
    gi_wp2_with fail
    refine ⟨by simp, .inl ⟨_, _, rfl, run_takeDeferred hKd, ?_⟩⟩
    have hz1 := HZ0.out
    have hbR : ∀ j, both T T1 j → W.heap.size ≤ j := hbT T hT2
    exact ⟨_, results_none rfl _ _ _, ⟨_, rfl⟩, by simp; omega, .inl ((HJ.out _).ext _ _ _ ((HJ.out _).turn _ _ _ hbR (by omega) hj (Turn.putObj _ (.inl hTD))) (fun j h => h.elim))⟩
  case stop =>
    rintro T c Wf hTD hTl hsz ⟨rfl, hj, hT2, hs⟩ hKd
    gi_wp2_with fail
    refine ⟨by simp, .inl ⟨_, _, rfl, run_takeDeferred hKd, ?_⟩⟩
    have hz1 := HZ0.out
    have hbR : ∀ j, both T T1 j → W.heap.size ≤ j := hbT T hT2
    exact ⟨_, results_none rfl _ _ _, ⟨_, rfl⟩, by simp; omega, .inr (HX.out.ext _ _ _ (HX.out.turn _ _ _ hbR (by omega) hj (Turn.putObj _ (.inl hTD))) (fun j h => h.elim))⟩
  case round =>
    rintro l' T pre ⟨c, tk, dn⟩ Wr hTl hTs hsz hpre ⟨hj, hT2, hs⟩ K hKk
    have HJr := Lib.hid hj; have HSr := Lib.hid hs; have HKk := Lib.hid hKk
    clear hj hs hKk
    unfold encV
    gi_wp2_with fail
    go_simp
    refine HKk.out _ _ ((SameOn.refl _ _).alloc ?_ _) ?_
    · rintro j (h | h)
      · have := hS1 j h; omega
      · exact hTs j h
    clear HKk
    intro W2 hb2
    have hz1 := HZ0.out
    have hsz2 := hb2.size
    have hv2 := hb2.cells Wr.heap.size _ (heap_new Wr _ _) rfl
    have hS2 : SameOn (both S T1) W0 W2 := ⟨by simp at hsz2; omega, fun j hj => ((hb2.turn.same j (by have := hS1 j hj; simp; omega) (fun h => by have := hT2 j h; have := hS1 j hj; omega)).trans (Below.heap_alloc _ _ _ (by have := hS1 j hj; omega))).trans (HSr.out.block j hj)⟩
    have hSW2 := hsW W2 hS2
    have hqu := HQ.out W2 hSW2
    have hbd := vis_bd o (List.replicate k 0) 0 (FrOk.zero k) (by have := HK.out.pos; simp; omega) (fun x hx => by
      obtain ⟨k1, k2, k3, k4, k5, k6, k7, k8⟩ := HK.out.ok x (HK.out.lt x hx)
      exact ⟨⟨k3, k4⟩, by unfold hiOf; omega, by unfold hiOf; omega⟩) _ (mem_of_prefix hpre)
    have hlo := HK.out.len
    have hcC := HK.out.lt c hbd.1
    obtain ⟨k1, k2, k3, k4, k5, k6, k7, k8⟩ := HK.out.ok c hcC
    obtain ⟨-, b1, b2, -, -⟩ := hbd
    dsimp only at b1 b2
    obtain ⟨cb, cof, rfl⟩ := slice_addr hqu.cl (by omega)
    obtain ⟨-, y1, -, -⟩ := cloth_cells hqu.cl hcC
    have q2 := (hS2.block _ (.inr (hT1i W.heap.size (by omega) (by omega)))).trans HQ0.out
    have yl := (hS2.block _ (.inr (hT1i (W.heap.size + 1) (by omega) (by omega)))).trans HY0.out
    have z0 : W2.cell? ⟨W.heap.size, 0, none⟩ = some (.slice (some ⟨cb, cof, none⟩) C.length cc) := by rw [cell_of_row _ _ _ _ _ _ q2]; rfl
    have z1 : W2.cell? ⟨W.heap.size + 1, 0, none⟩ = some (.func (.yield l) #[] #[]) := by rw [cell_of_row _ _ _ _ _ _ yl]; rfl
    have z2 : W2.cell? ⟨Wr.heap.size, 0, none⟩ = some (iv c) := by rw [cell_of_row _ _ _ _ _ _ hv2]; rfl
    have z3 : W2.cell? ⟨Wr.heap.size, 1, none⟩ = some (iv tk) := by rw [cell_of_row _ _ _ _ _ _ hv2]; rfl
    have y1 : W2.cell? ⟨cb, cof + c * 4 + 1, none⟩ = some (iv (coOf C c)) := y1
    have HT2 := Lib.hid hT2; have HS2 := Lib.hid hS2
    have hTT : ∀ j, both T T1 j → W.heap.size ≤ j := hbT T hT2
    have HJ2 := Lib.hid ((HJ.out _).turn _ Wr W2 hTT (by have := HSr.out.size; omega) HJr.out (((Turn.refl _ Wr).alloc _).trans (hb2.turn.mono (fun _ h => .inl h))))
    have hTs2 : ∀ j, both T T1 j → j < W2.heap.size := by
      simp at hsz2
      rintro j (h | h)
      · have := hTs j h; omega
      · have := hT1s j h; have := HSr.out.size; omega
    have HTs2 := Lib.hid hTs2
    have HP := Lib.hid (prefix_map (waitV C) hpre)
    have hwr : IntKind.i64.wrap (tk - (ctAt C c).co) = tk - (ctAt C c).co := IntWalk.i64_in _ ⟨by omega, by omega⟩
    clear hb2 hv2 hqu q2 yl hS2 hSW2 HJr HSr hpre hT2 hTs hTl hTs2 k1 k2 k3 k4 k5 k6 k7 k8 b1 b2 hlo
    gi_wp2_with fail
    refine wpIn_round_still_yield 14 (by kernel_rfl) (by kernel_rfl) (by kernel_rfl) ?_
    simp only [List.take_succ_cons, List.take_zero, List.drop_succ_cons, List.drop_zero]
    repeat still_step
    refine wpStill_nil ?_
    change wpListIn _ _ _ _ _ _ _ W2.drew
    have hbD : Below W2.heap.size W2 W2.drew := (Below.refl _ _).drew
    have hjD := (HJ.out _).turn _ W2 W2.drew hTT (by have := HS2.out.size; omega) HJ2.out (Turn.of_below hbD)
    have hsD : SameOn (both S T1) W0 W2.drew := HS2.out.trans (SameOn.of_below hbD (fun j hj => by have := hS1 j hj; have := HS2.out.size; omega))
    have HSD := Lib.hid hsD
    have hsz3 : W2.drew.heap.size = W2.heap.size := rfl
    obtain ⟨fn, tmps, assign, body, hy, hR⟩ := HY.out (both T T1) _ (waitV C (c, tk, dn)) W2.drew hTT HP.out hjD (by have := HS2.out.size; omega) HTs2.out
    have HR := Lib.hid hR
    unfold encW waitV coOf at hy
    dsimp only at hy
    clear hR hjD hbD hsD y1 z0 z1 z2 z3 hsz3
    have HD : Hid (SameOn (both (both S T1) T) W2 W2.drew) := ⟨Nat.le_refl _, fun _ _ => rfl⟩
    generalize W2.drew = W3 at *
    gi_wp2_with fail
    refine (round_any HR.out).mono ?_
    rintro e w4 (⟨rfl, hj4, hk4⟩ | ⟨rfl, hx4, hk4⟩)
    · have HJ4 := Lib.hid hj4; have HS4 := Lib.hid hk4
      clear hj4 hk4 hy
      gi_wp2_with fail
      refine ⟨rfl, ?_⟩
      gi_wp2_with fail
      have hs4 : SameOn (both (both S T1) T) W3 w4 := HS4.out.mono (fun j h => by
        rcases h with (h | h) | h
        · exact .inl h
        · exact .inr (.inr h)
        · exact .inr (.inl h))
      refine ⟨HD.out.trans hs4, ?_, HT2.out, HSD.out.trans (hs4.mono (fun _ h => .inl h))⟩
      rw [List.map_append]
      exact HJ4.out
    · have HX4 := Lib.hid hx4; have HS4 := Lib.hid hk4
      clear hx4 hk4 hy
      gi_wp2_with fail
      refine ⟨rfl, ?_⟩
      gi_wp2_with fail
      have hs4 : SameOn (both (both S T1) T) W3 w4 := HS4.out.mono (fun j h => by
        rcases h with (h | h) | h
        · exact .inl h
        · exact .inr (.inr h)
        · exact .inr (.inl h))
      exact ⟨HD.out.trans hs4, rfl, HX4.out, HT2.out, HSD.out.trans (hs4.mono (fun _ h => .inl h))⟩
end Go.Proofs.Ythkmklfmobenaaa
