/- The cheapest mix of a store: the loop over all mixes. -/
import Derived.Test.YtfdahmdehmhllaaJi
import Derived.Test.YtfdahmdehmhllaaJc
namespace Go.Proofs.Ytfdahmdehmhllaa
open Go Go.RowKit Go.Shelf
attribute [local go_sem] Oper.semAt_some

/-- What is kept of the best mix so far: its price. -/
def pB (L : List So) : Option (List Int) → Int
  | none => 0
  | some M => costM L M
theorem costM_bd {L : List So} {M : List Int} (hL : ∀ s ∈ L, vSo s = true) (hM : ∀ m ∈ M, 0 ≤ m ∧ m ≤ 12) (hl : M.length ≤ 4) : 0 ≤ costM L M ∧ costM L M ≤ 48000000 := by
  have h1 := togL_bd (f := (·.pr)) hM (fun s hs => by have := vSo_iff.1 (hL s hs); omega)
  have h2 := sum_bdk (K := 12000000) (by omega) (togL (·.pr) L M) (fun x hx => by have := h1 x hx; omega)
  have h3 : (togL (·.pr) L M).length ≤ 4 := by simp [togL]; omega
  have h4 : 0 ≤ (togL (·.pr) L M).sum := sum_nnJ _ (fun x hx => (h1 x hx).1)
  unfold costM
  have : (12000000 : Int) * ((togL (·.pr) L M).length : Int) ≤ 48000000 := by omega
  omega
/-- The three cells of what is the best so far, and the list itself in a block of its own. -/
def BestIn (L : List So) (b : Option (List Int)) (w : World) (base : Nat) (T : Nat → Prop) (W : World) : Prop :=
  ∃ u, (W.heap[w.heap.size + 1]? = some (.cells #[u] 49 (0, 0)) ∧ W.heap[w.heap.size + 1 + 1]? = some (.cells #[iv (pB L b)] 3 (0, 0)) ∧ W.heap[w.heap.size + 1 + 1 + 1]? = some (.cells #[.bool b.isSome] 4 (0, 0))) ∧
    Owns encI 1 3 base W u (b.getD []) ∧ ∀ g, u.ownBlock = some g → ¬ T g
theorem BestIn.stable (L : List So) (b : Option (List Int)) (w : World) (base : Nat) (hb : w.heap.size + 5 ≤ base) : Stable base (fun T W => BestIn L b w base T W) := by
  refine ⟨fun T T' W ⟨u, h1, h2, h3⟩ hT => ⟨u, h1, h2, fun g hg hT' => ?_⟩, fun T W W' hT hB ⟨u, ⟨h1, h2, h3⟩, h4, h5⟩ ht => ⟨u, ⟨?_, ?_, ?_⟩, ?_, h5⟩⟩
  · rcases hT g hT' with h | h
    · exact h3 g hg h
    · have := (World.ownsRow.lt h2 g hg).2; omega
  · exact (ht.same _ (by omega) (fun h => by have := hT _ h; omega)).trans h1
  · exact (ht.same _ (by omega) (fun h => by have := hT _ h; omega)).trans h2
  · exact (ht.same _ (by omega) (fun h => by have := hT _ h; omega)).trans h3
  · exact h4.onB (fun g hg => ht.same g (World.ownsRow.lt h4 g hg).2 (h5 g hg))
theorem put_same {W : World} {b : Nat} {v : Value} {t : TypeId} (h : W.heap[b]? = some (.cells #[v] t (0, 0))) : W.setCell ⟨b, 0, none⟩ v = W := by
  have hh : (W.setCell ⟨b, 0, none⟩ v).heap = W.heap := by
    refine Array.ext_getElem? fun k => ?_
    by_cases hk : k = b
    · subst hk
      rw [heap_setCell_same _ _ _ _ _ _ h, h]; rfl
    · exact Below.heap_setCell _ _ _ _ (fun e => hk e)
  unfold World.setCell at hh ⊢
  cases W
  simp only at hh ⊢
  rw [hh]
theorem bblkK {W W1 : World} {k : Nat} {o : Obj} (hb : Below W.heap.size W W1) (h : W.heap[k]? = some o) : W1.heap[k]? = some o := (hb.block k (Array.getElem?_eq_some_iff.1 h).1).trans h
theorem BestIn.stay {L : List So} {b : Option (List Int)} {w W W' : World} {base : Nat} {T : Nat → Prop} (h : BestIn L b w base T W) (hB : Below W.heap.size W W') : BestIn L b w base T W' := by
  obtain ⟨u, ⟨h1, h2, h3⟩, h4, h5⟩ := h
  exact ⟨u, ⟨bblkK hB h1, bblkK hB h2, bblkK hB h3⟩, h4.kept hB, h5⟩
theorem BestIn.take {L : List So} {w W : World} {base : Nat} {T : Nat → Prop} {u v p f : Value} {M : List Int} (h1 : W.heap[w.heap.size + 1]? = some (.cells #[u] 49 (0, 0))) (h2 : W.heap[w.heap.size + 1 + 1]? = some (.cells #[p] 3 (0, 0)))
    (h3 : W.heap[w.heap.size + 1 + 1 + 1]? = some (.cells #[f] 4 (0, 0))) (h4 : Owns encI 1 3 base W v M) (h5 : ∀ g, v.ownBlock = some g → ¬ T g) (hb : w.heap.size + 5 ≤ base) :
    BestIn L (some M) w base T (((W.setCell ⟨w.heap.size + 1, 0, none⟩ v).setCell ⟨w.heap.size + 1 + 1, 0, none⟩ (iv (costM L M))).setCell ⟨w.heap.size + 1 + 1 + 1, 0, none⟩ (.bool true)) := by
  refine ⟨v, ⟨?_, ?_, ?_⟩, ?_, h5⟩
  · rw [Below.heap_setCell _ _ _ _ (by simp <;> omega), Below.heap_setCell _ _ _ _ (by simp <;> omega), heap_setCell_same _ _ _ _ _ _ h1]; rfl
  · rw [Below.heap_setCell _ _ _ _ (by simp <;> omega), heap_setCell_same _ _ _ _ _ _ ((Below.heap_setCell _ _ _ _ (by simp <;> omega)).trans h2)]; rfl
  · rw [heap_setCell_same _ _ _ _ _ _ ((Below.heap_setCell _ _ _ _ (by simp <;> omega)).trans ((Below.heap_setCell _ _ _ _ (by simp <;> omega)).trans h3))]; rfl
  · refine h4.onB (fun g hg => ?_)
    have := (World.ownsRow.lt h4 g hg).1
    rw [Below.heap_setCell _ _ _ _ (by show g ≠ w.heap.size + 1 + 1 + 1; omega), Below.heap_setCell _ _ _ _ (by show g ≠ w.heap.size + 1 + 1; omega), Below.heap_setCell _ _ _ _ (by show g ≠ w.heap.size + 1; omega)]
theorem MixIn.below {L : List So} {M : List Int} {sa va : Option Addr} {sc vc : Nat} {w w' : World} (h : MixIn L M sa va sc vc w) (hb : Below w.heap.size w w') : MixIn L M sa va sc vc w' :=
  ⟨h.len, h.few, h.mix, h.sort, h.st.below hb, h.mx.below hb⟩
/-- What is kept while the results are stored to themselves. -/
abbrev KeepR (R : World → Prop) (B : Nat) (u p f : Value) (X : World) : Prop :=
  X.cell? ⟨B + 1, 0, none⟩ = some u ∧ X.cell? ⟨B + 1 + 1, 0, none⟩ = some p ∧ X.cell? ⟨B + 1 + 1 + 1, 0, none⟩ = some f ∧ X.frozen? ⟨B + 1, 0, none⟩ = false ∧ X.frozen? ⟨B + 1 + 1, 0, none⟩ = false ∧ X.frozen? ⟨B + 1 + 1 + 1, 0, none⟩ = false ∧
    Hid (X.heap[B + 1]? = some (.cells #[u] 49 (0, 0)) ∧ X.heap[B + 1 + 1]? = some (.cells #[p] 3 (0, 0)) ∧ X.heap[B + 1 + 1 + 1]? = some (.cells #[f] 4 (0, 0))) ∧ Hid (R X)
theorem KeepR.a {R : World → Prop} {B : Nat} {u p f : Value} {X : World} (h : KeepR R B u p f X) : KeepR R B u p f (X.setCell ⟨B + 1, 0, none⟩ u) := by
  have e := put_same h.2.2.2.2.2.2.1.out.1
  rwa [e]
theorem KeepR.b {R : World → Prop} {B : Nat} {u p f : Value} {X : World} (h : KeepR R B u p f X) : KeepR R B u p f (X.setCell ⟨B + 1 + 1, 0, none⟩ p) := by
  have e := put_same h.2.2.2.2.2.2.1.out.2.1
  rwa [e]
theorem KeepR.c {R : World → Prop} {B : Nat} {u p f : Value} {X : World} (h : KeepR R B u p f X) : KeepR R B u p f (X.setCell ⟨B + 1 + 1 + 1, 0, none⟩ f) := by
  have e := put_same h.2.2.2.2.2.2.1.out.2.2
  rwa [e]
theorem step_a {c : Gc} {L : List So} {m : List Int} (hg : goodM c L m = false) : stepM c L none m = none := by
  show (if goodM c L m = true then some m else none) = none
  rw [hg]; rfl
theorem step_b {c : Gc} {L : List So} {m : List Int} (hg : goodM c L m = true) : stepM c L none m = some m := by
  show (if goodM c L m = true then some m else none) = some m
  rw [hg]; rfl
theorem step_c {c : Gc} {L : List So} {m B : List Int} (hg : goodM c L m = false) : stepM c L (some B) m = some B := by
  show (if (decide (costM L m < costM L B) && goodM c L m) = true then some m else some B) = some B
  rw [hg, Bool.and_false]; rfl
theorem step_d {c : Gc} {L : List So} {m B : List Int} (h : costM L m < costM L B) (hg : goodM c L m = true) : stepM c L (some B) m = some m := by
  show (if (decide (costM L m < costM L B) && goodM c L m) = true then some m else some B) = some m
  rw [hg, decide_eq_true h]; rfl
theorem step_e {c : Gc} {L : List So} {m B : List Int} (h : ¬ costM L m < costM L B) : stepM c L (some B) m = some B := by
  show (if (decide (costM L m < costM L B) && goodM c L m) = true then some m else some B) = some B
  rw [decide_eq_false h, Bool.false_and]; rfl
theorem field_lowK (a b : Int) (W : World) : (Instr.field 43 (.agg #[iv a, iv b]) 0).run Try.prog W = .ok (iv a) W := by kernel_rfl
set_option maxRecDepth 20000 in
set_option maxHeartbeats 6400000 in
theorem cheapest_any (c : Gc) (L : List So) (sa : Option Addr) (sc : Nat) (w : World) (hL : ∀ s ∈ L, vSo s = true) (hl : L.length ≤ 4) (hc : vGc c = true) (hcap : L.length ≤ sc) (hs : SliceOf encSo 5 w (.slice sa L.length sc) L) :
    Calls Try.prog 20 #[jv c (.slice sa L.length sc)] w fun e w' => ∃ va vc, e = .returned (.tuple #[.slice va ((bestM c L (mxs L L.length)).getD []).length vc, iv (pB L (bestM c L (mxs L L.length))), .bool (bestM c L (mxs L L.length)).isSome]) ∧
      Ints w' (.slice va ((bestM c L (mxs L L.length)).getD []).length vc) ((bestM c L (mxs L L.length)).getD []) ∧ Below w.heap.size w w' := by
  have hha : ∀ s ∈ L, 0 ≤ s.ha ∧ s.ha ≤ 12 := fun s hs => by have := vSo_iff.1 (hL s hs); omega
  have hmx : ∀ m ∈ mxs L L.length, m.length = L.length ∧ ∀ p ∈ m, 0 ≤ p ∧ p ≤ 12 := fun m hm => ⟨mxs_len L _ m hm, mxs_bd L hha _ (Nat.le_refl _) m hm⟩
  have HMXS := Lib.hid (fun b S w0 h => mixes_seq L sa sc hha hcap (by omega) L.length (Nat.le_refl _) b S w0 h)
  have HL := Lib.hid hL; have HMX := Lib.hid hmx; have HC := Lib.hid hc; have HS := Lib.hid hs
  clear hcap hha hmx hL hc hs
  refine (callsIn_wide (n := 3)).1 ?_
  obtain ⟨Wa, hWa⟩ : ∃ Wa : World, (((w.alloc (.cells #[iv c.wl, iv c.wh, iv c.gl, iv c.gh, iv c.be, .slice sa L.length sc] 74)).alloc (.cells #[.slice none 0 0] 49)).alloc (.cells #[iv 0] 3)).alloc (.cells #[.bool false] 4) = Wa := ⟨_, rfl⟩
  have hBa : Below w.heap.size w Wa := by rw [← hWa]; exact bpush (bpush (bpush (bpush (Below.refl _ _) _) _) _) _
  have hza : Wa.heap.size = w.heap.size + 4 := by rw [← hWa]; simp
  have hjr : Wa.heap[w.heap.size]? = some (.cells #[iv c.wl, iv c.wh, iv c.gl, iv c.gh, iv c.be, .slice sa L.length sc] 74 (0, 0)) := by
    rw [← hWa, Below.heap_alloc _ _ _ (by simp <;> omega), Below.heap_alloc _ _ _ (by simp <;> omega), Below.heap_alloc _ _ _ (by simp)]; exact heap_new _ _ _
  have hr1 : Wa.heap[w.heap.size + 1]? = some (.cells #[.slice none 0 0] 49 (0, 0)) := by
    rw [← hWa, Below.heap_alloc _ _ _ (by simp <;> omega), Below.heap_alloc _ _ _ (by simp)]
    have := heap_new (w.alloc (.cells #[iv c.wl, iv c.wh, iv c.gl, iv c.gh, iv c.be, .slice sa L.length sc] 74)) #[.slice none 0 0] 49
    rwa [World.size_alloc] at this
  have hr2 : Wa.heap[w.heap.size + 1 + 1]? = some (.cells #[iv 0] 3 (0, 0)) := by
    rw [← hWa, Below.heap_alloc _ _ _ (by simp)]
    have := heap_new ((w.alloc (.cells #[iv c.wl, iv c.wh, iv c.gl, iv c.gh, iv c.be, .slice sa L.length sc] 74)).alloc (.cells #[.slice none 0 0] 49)) #[iv 0] 3
    rwa [World.size_alloc, World.size_alloc] at this
  have hr3 : Wa.heap[w.heap.size + 1 + 1 + 1]? = some (.cells #[.bool false] 4 (0, 0)) := by
    rw [← hWa]
    have := heap_new (((w.alloc (.cells #[iv c.wl, iv c.wh, iv c.gl, iv c.gh, iv c.be, .slice sa L.length sc] 74)).alloc (.cells #[.slice none 0 0] 49)).alloc (.cells #[iv 0] 3)) #[.bool false] 4
    rwa [World.size_alloc, World.size_alloc, World.size_alloc] at this
  have c0 : Wa.cell? ⟨w.heap.size, 0, none⟩ = some (iv c.wl) := by rw [cell_of_row _ _ _ _ _ _ hjr]; rfl
  have c1 : Wa.cell? ⟨w.heap.size, 1, none⟩ = some (iv c.wh) := by rw [cell_of_row _ _ _ _ _ _ hjr]; rfl
  have c2 : Wa.cell? ⟨w.heap.size, 2, none⟩ = some (iv c.gl) := by rw [cell_of_row _ _ _ _ _ _ hjr]; rfl
  have c3 : Wa.cell? ⟨w.heap.size, 3, none⟩ = some (iv c.gh) := by rw [cell_of_row _ _ _ _ _ _ hjr]; rfl
  have c4 : Wa.cell? ⟨w.heap.size, 4, none⟩ = some (iv c.be) := by rw [cell_of_row _ _ _ _ _ _ hjr]; rfl
  have c5 : Wa.cell? ⟨w.heap.size, 5, none⟩ = some (.slice sa L.length sc) := by rw [cell_of_row _ _ _ _ _ _ hjr]; rfl
  have HBa := Lib.hid hBa; have HZa := Lib.hid hza; have HJR := Lib.hid hjr; have HR1 := Lib.hid hr1; have HR2 := Lib.hid hr2; have HR3 := Lib.hid hr3
  clear hBa hza hjr hr1 hr2 hr3
  refine callsIn_of_wp_marks Try.func20 rfl trivial ?_ rfl
  simp only [Try.ntmps20, List.size_toArray, List.length_cons, List.length_nil, Nat.reduceAdd, Nat.reduceSub, Array.replicate_succ, Array.replicate_zero, List.push_toArray, List.append_toArray, List.nil_append, List.cons_append]
  gi_wp2_with fail
  refine (callsIn_wide.2 (mixes_any _ _ _ _)).mono ?_
  rintro e w' ⟨rfl, hw'⟩
  obtain ⟨W0, hW0⟩ : ∃ W0 : World, W0 = w' := ⟨_, rfl⟩
  subst hW0
  have hb0 : Below Wa.heap.size Wa W0 := by rw [← hw']; exact bpush (Below.refl _ _) _
  have hz0 : W0.heap.size = w.heap.size + 5 := by rw [← hw']; simp [HZa.out]
  have hB0 : Below w.heap.size w W0 := bstep HBa.out hb0
  have hx0 : W0.heap[w.heap.size + 4]? = some (.cells #[.slice sa L.length sc] 35 (0, 0)) := by rw [← hw', ← HZa.out]; exact heap_new _ _ _
  have hj0 := (hb0.block w.heap.size (by have := HZa.out; omega)).trans HJR.out
  have hq1 := (hb0.block (w.heap.size + 1) (by have := HZa.out; omega)).trans HR1.out
  have hq2 := (hb0.block (w.heap.size + 1 + 1) (by have := HZa.out; omega)).trans HR2.out
  have hq3 := (hb0.block (w.heap.size + 1 + 1 + 1) (by have := HZa.out; omega)).trans HR3.out
  have HB0 := Lib.hid hB0; have HZ0 := Lib.hid hz0; have HX0 := Lib.hid hx0; have HJ0 := Lib.hid hj0; have HQ1 := Lib.hid hq1; have HQ2 := Lib.hid hq2; have HQ3 := Lib.hid hq3
  have hza := HZa.out
  clear hb0 hz0 hB0 hx0 hj0 hq1 hq2 hq3 hw' hWa HR1 HR2 HR3 HJR HBa c0 c1 c2 c3 c4 c5
  gi_wp2_with fail
  obtain ⟨S, hSe⟩ : ∃ S : Nat → Prop, S = fun j => j < w.heap.size + 1 ∨ j = w.heap.size + 4 := ⟨_, rfl⟩
  have hS1 : ∀ j, S j → j < W0.heap.size := by have := HZ0.out; rw [hSe]; intro j hj; omega
  have hSl : ∀ j, j < w.heap.size + 1 → S j := by rw [hSe]; intro j hj; exact .inl hj
  have hS4 : S (w.heap.size + 4) := by rw [hSe]; exact .inr rfl
  have hSn : ∀ j, S j → j < w.heap.size + 1 ∨ j = w.heap.size + 4 := by rw [hSe]; exact fun j h => h
  clear hSe
  have HST : Hid (∀ W, SameOn S W0 W → SliceOf encSo 5 W (.slice sa L.length sc) L) := fun W hW =>
    SliceOf.heapEq HS.out (fun j hj => (hW.block j (hSl j (by omega))).trans (HB0.out.block j hj))
  have HSQ := Lib.hid (HMXS.out (w.heap.size + 4) S W0 ⟨hS4, hS1, HX0.out, fun W hW => by rw [List.take_of_length_le (Nat.le_refl _)]; exact HST.out W hW⟩)
  have HSN := Lib.hid hSn; have HS1 := Lib.hid hS1; have HSL := Lib.hid hSl
  clear hSn hSl hS4 HMXS
  refine rangeR (gf := 46) (lb := #[.pointer (some ⟨w.heap.size + 4, 0, none⟩)]) (R' := MixV) rfl (enters_of Try.func46 (by kernel_rfl) rfl)
    HSQ.out (fun B T x vs W h => by obtain ⟨v, rfl, -⟩ := h; rfl) MixV.mono hS1
    (fun T pre W => BestIn L (bestM c L pre) w W0.heap.size T W ∧ (∀ j, T j → W0.heap.size ≤ j) ∧ SameOn S W0 W ∧ Below w.heap.size w W)
    (fun _ _ _ => False) (fun s => ?_) (fun c => ⟨fun _ _ _ h _ => h, fun _ _ _ _ _ h _ => h⟩) ?_ ?round ?done ?stop
  · have hb := BestIn.stable L (bestM c L s) w W0.heap.size (by have := HZ0.out; omega)
    refine ⟨fun T T' W ⟨h1, h2, h3, h4⟩ hT => ⟨hb.ext T T' W h1 hT, fun j hj => ?_, h3, h4⟩, fun T W W' hT hB ⟨h1, h2, h3, h4⟩ ht => ⟨hb.turn T W W' hT hB h1 ht, h2, ?_, h4.trans (ht.below (fun k hk => by have := hT k hk; have := HZ0.out; omega) (by have := HZ0.out; omega))⟩⟩
    · rcases hT j hj with h | h
      · exact h2 j h
      · have := h3.size; omega
    · exact h3.trans ⟨ht.size, fun j hj => ht.same j (by have := HS1.out j hj; omega) (fun h => by have := hT j h; have := HS1.out j hj; omega)⟩
  · exact ⟨⟨_, ⟨HQ1.out, HQ2.out, HQ3.out⟩, Owns.nil _ _ _ _ _, fun g hg => by cases hg⟩, fun j h => h.elim, SameOn.refl _ _, HB0.out⟩
  case stop =>
    rintro T c W _ _ _ hf _
    exact hf.elim
  case done =>
    rintro T Wf hTD hTl hsz ⟨⟨u, ⟨r1, r2, r3⟩, ho, hn⟩, hT, hS, hB⟩ hKd
    generalize hbb : bestM c L (mxs L L.length) = bb at *
    obtain ⟨ua, uc, rfl⟩ := ho.len
    have d1 : Wf.cell? ⟨w.heap.size + 1, 0, none⟩ = some (.slice ua (bb.getD []).length uc) := by rw [cell_of_row _ _ _ _ _ _ r1]; rfl
    have d2 : Wf.cell? ⟨w.heap.size + 1 + 1, 0, none⟩ = some (iv (pB L bb)) := by rw [cell_of_row _ _ _ _ _ _ r2]; rfl
    have d3 : Wf.cell? ⟨w.heap.size + 1 + 1 + 1, 0, none⟩ = some (.bool bb.isSome) := by rw [cell_of_row _ _ _ _ _ _ r3]; rfl
    have f1 : Wf.frozen? ⟨w.heap.size + 1, 0, none⟩ = false := frozen_of_row _ _ _ _ _ r1
    have f2 : Wf.frozen? ⟨w.heap.size + 1 + 1, 0, none⟩ = false := frozen_of_row _ _ _ _ _ r2
    have f3 : Wf.frozen? ⟨w.heap.size + 1 + 1 + 1, 0, none⟩ = false := frozen_of_row _ _ _ _ _ r3
    have HR := Lib.hid (And.intro r1 (And.intro r2 r3))
    have HO := Lib.hid (And.intro ho (And.intro hKd hB))
    clear r1 r2 r3 ho hKd hB hn hT hS hTl hTD hsz
    gi_wp2_with fail
    refine wpIn_wide.2 ?_
    go_region_held3 (fun w' => KeepR (fun X => Owns encI 1 3 W0.heap.size X (.slice ua (bb.getD []).length uc) (bb.getD []) ∧ X.heap[W0.heap.size]? = some (.deferred (some [])) ∧ Below w.heap.size w X) w.heap.size (.slice ua (bb.getD []).length uc) (iv (pB L bb)) (.bool bb.isSome) w')
      (first | exact KeepR.a (by assumption) | exact KeepR.b (by assumption) | exact KeepR.c (by assumption) | exact ⟨by assumption, by assumption, by assumption, by assumption, by assumption, by assumption, by assumption, ⟨HO.out.1, HO.out.2.1, Below.drew HO.out.2.2⟩⟩ | (go_split_ands; exact ⟨by assumption, by assumption, by assumption, by assumption, by assumption, by assumption, by assumption, by assumption⟩))
      (fail)
    rename_i hHeld
    obtain ⟨e1, e2, e3, -, -, -, -, hR⟩ := hHeld
    have HRR := Lib.hid hR.out
    clear hR d1 d2 d3 f1 f2 f3 HR HO
    generalize (((Wf.setCell ⟨w.heap.size + 1, 0, none⟩ (.slice ua (bb.getD []).length uc)).setCell ⟨w.heap.size + 1 + 1, 0, none⟩ (iv (pB L bb))).setCell ⟨w.heap.size + 1 + 1 + 1, 0, none⟩ (.bool bb.isSome)).drew = WF at *
    gi_wp2_with fail
    have p1 := put_cell (o := .deferred none) HRR.out.2.1 e1
    have p2 := put_cell (o := .deferred none) HRR.out.2.1 e2
    have p3 := put_cell (o := .deferred none) HRR.out.2.1 e3
    refine ⟨by simp, .inl ⟨_, _, rfl, run_takeDeferred HRR.out.2.1, ?_⟩⟩
    refine ⟨.tuple #[.slice ua (bb.getD []).length uc, iv (pB L bb), .bool bb.isSome], by simp [results, Try.results20, go_sem, p1, p2, p3], ua, uc, rfl, ?_, put_below HRR.out.2.2 (by have := HZ0.out; omega)⟩
    have hlen : (bb.getD []).length ≤ 4 := by
      cases bb with
      | none => simp
      | some B => have := (HMX.out B (bestM_some hbb).1).1; simp; omega
    exact (Owns.slice HRR.out.1 encI_len (by omega)).cellsEq (fun a u h => put_cell HRR.out.2.1 h)
  case round =>
    rintro l' T pre m vs Wr hTl hTs hsz hpre ⟨⟨u, ⟨r1, r2, r3⟩, ho, hn⟩, hT2, hs, hB⟩ hmv K hKk
    obtain ⟨v, rfl, hov, hnv⟩ := hmv
    obtain ⟨HML, hmb⟩ : Hid (m.length = L.length) ∧ ∀ p ∈ m, 0 ≤ p ∧ p ≤ 12 := HMX.out m (mem_of_prefix hpre)
    obtain ⟨va, vc, rfl⟩ := hov.len
    have HKk := Lib.hid hKk; have HO := Lib.hid ho; have HN := Lib.hid hn; have HS := Lib.hid hs; have HBr := Lib.hid hB; have HOV := Lib.hid hov; have HNV := Lib.hid hnv; have HTL := Lib.hid hTl; have HTS := Lib.hid hTs; have HR := Lib.hid (And.intro r1 (And.intro r2 r3)); have HMB := Lib.hid hmb
    clear hKk ho hn hs hB hov hnv hTl hTs r1 r2 r3 hpre hT2 hmb
    gi_wp2_with fail
    go_simp
    refine HKk.out _ _ (SameOn.refl _ _) ?_
    clear HKk
    intro W2 hb2
    have hz0 := HZ0.out
    have hlu := fun g hg => (World.ownsRow.lt HO.out g hg).2
    have hlv := fun g hg => (World.ownsRow.lt HOV.out g hg).2
    have hou2 := HO.out.onB (fun g hg => hb2.turn.same g (hlu g hg) (fun h => HN.out g hg (.inl h)))
    have hov2 := HOV.out.onB (fun g hg => hb2.turn.same g (hlv g hg) (HNV.out g hg))
    have hBI : BestIn L (bestM c L pre) w W0.heap.size T W2 := ⟨u, ⟨hb2.cells _ _ HR.out.1 rfl, hb2.cells _ _ HR.out.2.1 rfl, hb2.cells _ _ HR.out.2.2 rfl⟩, hou2, fun g hg h => HN.out g hg (.inl h)⟩
    have hS2 : SameOn S W0 W2 := ⟨by have := HS.out.size; have := hb2.size; omega, fun j hj => (hb2.turn.same j (by have := HS1.out j hj; have := HS.out.size; omega) (fun h => by have := HTL.out j h; have := HS1.out j hj; omega)).trans (HS.out.block j hj)⟩
    have hjr : W2.heap[w.heap.size]? = some (.cells #[iv c.wl, iv c.wh, iv c.gl, iv c.gh, iv c.be, .slice sa L.length sc] 74 (0, 0)) := hb2.cells _ _ ((HS.out.block _ (HSL.out _ (by omega))).trans HJ0.out) rfl
    have hmi : MixIn L m sa va sc vc W2 := ⟨HML.out.symm, by have := HML.out; omega, HMB.out, HL.out, HST.out W2 hS2, Owns.slice hov2 encI_len (by have := HML.out; omega)⟩
    have hBw2 : Below w.heap.size w W2 := HBr.out.trans (hb2.turn.below (fun k hk => by have := HTL.out k hk; omega) (by omega))
    have HLT2 : Hid (∀ j, both S T j → j < W2.heap.size) := by
      rintro j (h | h)
      · have := HS1.out j h; have := hS2.size; omega
      · have := HTS.out j h; have := hb2.size; omega
    have HBI := Lib.hid hBI; have HS2 := Lib.hid hS2; have HMI := Lib.hid hmi; have HB2 := Lib.hid hBw2; have HOV2 := Lib.hid hov2; have HT2 := HTL
    have q1 := HBI.out
    obtain ⟨u', ⟨r1, r2, r3⟩, -, -⟩ := hBI
    have c0 : W2.cell? ⟨w.heap.size, 0, none⟩ = some (iv c.wl) := by rw [cell_of_row _ _ _ _ _ _ hjr]; rfl
    have c1 : W2.cell? ⟨w.heap.size, 1, none⟩ = some (iv c.wh) := by rw [cell_of_row _ _ _ _ _ _ hjr]; rfl
    have c2 : W2.cell? ⟨w.heap.size, 2, none⟩ = some (iv c.gl) := by rw [cell_of_row _ _ _ _ _ _ hjr]; rfl
    have c3 : W2.cell? ⟨w.heap.size, 3, none⟩ = some (iv c.gh) := by rw [cell_of_row _ _ _ _ _ _ hjr]; rfl
    have c4 : W2.cell? ⟨w.heap.size, 4, none⟩ = some (iv c.be) := by rw [cell_of_row _ _ _ _ _ _ hjr]; rfl
    have c5 : W2.cell? ⟨w.heap.size, 5, none⟩ = some (.slice sa L.length sc) := by rw [cell_of_row _ _ _ _ _ _ hjr]; rfl
    have d1 : W2.cell? ⟨w.heap.size + 1, 0, none⟩ = some u' := by rw [cell_of_row _ _ _ _ _ _ r1]; rfl
    have d2 : W2.cell? ⟨w.heap.size + 1 + 1, 0, none⟩ = some (iv (pB L (bestM c L pre))) := by rw [cell_of_row _ _ _ _ _ _ r2]; rfl
    have d3 : W2.cell? ⟨w.heap.size + 1 + 1 + 1, 0, none⟩ = some (.bool (bestM c L pre).isSome) := by rw [cell_of_row _ _ _ _ _ _ r3]; rfl
    have f1 : W2.frozen? ⟨w.heap.size + 1, 0, none⟩ = false := frozen_of_row _ _ _ _ _ r1
    have f2 : W2.frozen? ⟨w.heap.size + 1 + 1, 0, none⟩ = false := frozen_of_row _ _ _ _ _ r2
    have f3 : W2.frozen? ⟨w.heap.size + 1 + 1 + 1, 0, none⟩ = false := frozen_of_row _ _ _ _ _ r3
    have HR2 := Lib.hid (And.intro r1 (And.intro r2 r3))
    clear hb2 hz0 hlu hlv hou2 hov2 hS2 hjr hmi hBw2 q1 r1 r2 r3 HO HN HS HBr HOV HR
    gi_wp2_with fail
    refine (CallsIn.inRound l' (callsIn_wide.2 (price_any c L m sa va sc vc _ HMI.out))).mono ?_
    rintro e w3 ⟨rfl, hb3⟩
    have HMI3 := Lib.hid (HMI.out.below hb3)
    have c0 := kcell hb3 c0
    have c1 := kcell hb3 c1
    have c2 := kcell hb3 c2
    have c3 := kcell hb3 c3
    have c4 := kcell hb3 c4
    have c5 := kcell hb3 c5
    have f1 := kfrozen hb3 d1 f1
    have f2 := kfrozen hb3 d2 f2
    have f3 := kfrozen hb3 d3 f3
    have d1 := kcell hb3 d1
    have d2 := kcell hb3 d2
    have d3 := kcell hb3 d3
    have HB3 := Lib.hid hb3; clear hb3
    have hcs : (togL (·.pr) L m).sum = costM L m := rfl
    rw [hcs]; clear hcs
    cases hbm : bestM c L pre with
    | none =>
      rw [hbm] at d2 d3 HR2 HBI
      simp only [pB, Option.isSome_none] at d2 d3
      gi_wp2_with fail
      refine (CallsIn.inRound l' (callsIn_wide.2 (over_any c L m sa va sc vc _ HC.out HMI3.out))).mono ?_
      rintro e w4 ⟨rfl, hb4⟩
      have HMI4 := Lib.hid (HMI3.out.below hb4)
      have c0 := kcell hb4 c0
      have c1 := kcell hb4 c1
      have c2 := kcell hb4 c2
      have c3 := kcell hb4 c3
      have c4 := kcell hb4 c4
      have c5 := kcell hb4 c5
      have f1 := kfrozen hb4 d1 f1
      have f2 := kfrozen hb4 d2 f2
      have f3 := kfrozen hb4 d3 f3
      have d1 := kcell hb4 d1
      have d2 := kcell hb4 d2
      have d3 := kcell hb4 d3
      have HB4 := Lib.hid (bstep HB3.out hb4); clear hb4
      have hf0 := field_lowK (ovLo c L m) (ovHi c L m) w4
      by_cases hov : 0 ≤ ovLo c L m
      · gi_wp2_with fail
        refine (CallsIn.inRound l' (callsIn_wide.2 (stains_any c L m sa va sc vc _ HMI4.out))).mono ?_
        rintro e w5 ⟨rfl, hb5⟩
        have c0 := kcell hb5 c0
        have c1 := kcell hb5 c1
        have c2 := kcell hb5 c2
        have c3 := kcell hb5 c3
        have c4 := kcell hb5 c4
        have c5 := kcell hb5 c5
        have f1 := kfrozen hb5 d1 f1
        have f2 := kfrozen hb5 d2 f2
        have f3 := kfrozen hb5 d3 f3
        have d1 := kcell hb5 d1
        have d2 := kcell hb5 d2
        have d3 := kcell hb5 d3
        have HB5 := Lib.hid (bstep HB4.out hb5); clear hb5
        by_cases hst : c.be < (togL (·.st) L m).sum
        · have hg : goodM c L m = false := by unfold goodM; rw [decide_eq_true hst]; simp
          rw [decide_eq_true hst]
          have hstp := (step_a hg)
          gi_wp2_with fail
          refine ⟨SameOn.of_below HB5.out HLT2.out, ?_, HT2.out, HS2.out.trans (SameOn.of_below HB5.out (fun j hj => HLT2.out j (.inl hj))), bstep HB2.out HB5.out⟩
          rw [bestM_snoc, hbm, hstp]
          exact HBI.out.stay HB5.out
        · have hg : goodM c L m = true := by unfold goodM; rw [decide_eq_true hov, decide_eq_false hst]; rfl
          rw [decide_eq_false hst]
          have hstp := (step_b hg)
          gi_wp2_with fail
          have hno : ∀ k, (k = w.heap.size + 1 ∨ k = w.heap.size + 1 + 1 ∨ k = w.heap.size + 1 + 1 + 1) → ¬ both S T k := by
            have := HZ0.out
            rintro k hk (h | h)
            · have := HSN.out k h; omega
            · have := HT2.out k h; omega
          have hsm : SameOn (both S T) W2 (((w5.setCell ⟨w.heap.size + 1, 0, none⟩ (.slice va m.length vc)).setCell ⟨w.heap.size + 1 + 1, 0, none⟩ (iv (costM L m))).setCell ⟨w.heap.size + 1 + 1 + 1, 0, none⟩ (.bool true)) :=
            (((SameOn.of_below HB5.out HLT2.out).setCell (hno _ (.inl rfl)) _).setCell (hno _ (.inr (.inl rfl))) _).setCell (hno _ (.inr (.inr rfl))) _
          refine ⟨hsm, ?_, HT2.out, HS2.out.trans (hsm.mono (fun _ h => .inl h)), bput (bput (bput (bstep HB2.out HB5.out) (by show w.heap.size ≤ w.heap.size + 1; omega) _) (by show w.heap.size ≤ w.heap.size + 1 + 1; omega) _) (by show w.heap.size ≤ w.heap.size + 1 + 1 + 1; omega) _⟩
          rw [bestM_snoc, hbm, hstp]
          exact BestIn.take (bblkK HB5.out HR2.out.1) (bblkK HB5.out HR2.out.2.1) (bblkK HB5.out HR2.out.2.2) (HOV2.out.kept HB5.out) HNV.out (by have := HZ0.out; omega)
      · have hg : goodM c L m = false := by unfold goodM; rw [decide_eq_false hov]; rfl
        have hstp := (step_a hg)
        gi_wp2_with fail
        refine ⟨SameOn.of_below HB4.out HLT2.out, ?_, HT2.out, HS2.out.trans (SameOn.of_below HB4.out (fun j hj => HLT2.out j (.inl hj))), bstep HB2.out HB4.out⟩
        rw [bestM_snoc, hbm, hstp]
        exact HBI.out.stay HB4.out
    | some M0 =>
      rw [hbm] at d2 d3 HR2 HBI
      simp only [pB, Option.isSome_some] at d2 d3
      by_cases hlt : costM L m < costM L M0
      · have hlt2 := Lib.hid hlt
        gi_wp2_with fail
        refine (CallsIn.inRound l' (callsIn_wide.2 (over_any c L m sa va sc vc _ HC.out HMI3.out))).mono ?_
        rintro e w4 ⟨rfl, hb4⟩
        have HMI4 := Lib.hid (HMI3.out.below hb4)
        have c0 := kcell hb4 c0
        have c1 := kcell hb4 c1
        have c2 := kcell hb4 c2
        have c3 := kcell hb4 c3
        have c4 := kcell hb4 c4
        have c5 := kcell hb4 c5
        have f1 := kfrozen hb4 d1 f1
        have f2 := kfrozen hb4 d2 f2
        have f3 := kfrozen hb4 d3 f3
        have d1 := kcell hb4 d1
        have d2 := kcell hb4 d2
        have d3 := kcell hb4 d3
        have HB4 := Lib.hid (bstep HB3.out hb4); clear hb4
        have hf0 := field_lowK (ovLo c L m) (ovHi c L m) w4
        by_cases hov : 0 ≤ ovLo c L m
        · gi_wp2_with fail
          refine (CallsIn.inRound l' (callsIn_wide.2 (stains_any c L m sa va sc vc _ HMI4.out))).mono ?_
          rintro e w5 ⟨rfl, hb5⟩
          have c0 := kcell hb5 c0
          have c1 := kcell hb5 c1
          have c2 := kcell hb5 c2
          have c3 := kcell hb5 c3
          have c4 := kcell hb5 c4
          have c5 := kcell hb5 c5
          have f1 := kfrozen hb5 d1 f1
          have f2 := kfrozen hb5 d2 f2
          have f3 := kfrozen hb5 d3 f3
          have d1 := kcell hb5 d1
          have d2 := kcell hb5 d2
          have d3 := kcell hb5 d3
          have HB5 := Lib.hid (bstep HB4.out hb5); clear hb5
          by_cases hst : c.be < (togL (·.st) L m).sum
          · have hg : goodM c L m = false := by unfold goodM; rw [decide_eq_true hst]; simp
            rw [decide_eq_true hst]
            have hstp := (step_c (B := M0) hg)
            gi_wp2_with fail
            refine ⟨SameOn.of_below HB5.out HLT2.out, ?_, HT2.out, HS2.out.trans (SameOn.of_below HB5.out (fun j hj => HLT2.out j (.inl hj))), bstep HB2.out HB5.out⟩
            rw [bestM_snoc, hbm, hstp]
            exact HBI.out.stay HB5.out
          · have hg : goodM c L m = true := by unfold goodM; rw [decide_eq_true hov, decide_eq_false hst]; rfl
            rw [decide_eq_false hst]
            have hstp := (step_d hlt2.out hg)
            gi_wp2_with fail
            have hno : ∀ k, (k = w.heap.size + 1 ∨ k = w.heap.size + 1 + 1 ∨ k = w.heap.size + 1 + 1 + 1) → ¬ both S T k := by
              have := HZ0.out
              rintro k hk (h | h)
              · have := HSN.out k h; omega
              · have := HT2.out k h; omega
            have hsm : SameOn (both S T) W2 (((w5.setCell ⟨w.heap.size + 1, 0, none⟩ (.slice va m.length vc)).setCell ⟨w.heap.size + 1 + 1, 0, none⟩ (iv (costM L m))).setCell ⟨w.heap.size + 1 + 1 + 1, 0, none⟩ (.bool true)) :=
              (((SameOn.of_below HB5.out HLT2.out).setCell (hno _ (.inl rfl)) _).setCell (hno _ (.inr (.inl rfl))) _).setCell (hno _ (.inr (.inr rfl))) _
            refine ⟨hsm, ?_, HT2.out, HS2.out.trans (hsm.mono (fun _ h => .inl h)), bput (bput (bput (bstep HB2.out HB5.out) (by show w.heap.size ≤ w.heap.size + 1; omega) _) (by show w.heap.size ≤ w.heap.size + 1 + 1; omega) _) (by show w.heap.size ≤ w.heap.size + 1 + 1 + 1; omega) _⟩
            rw [bestM_snoc, hbm, hstp]
            exact BestIn.take (bblkK HB5.out HR2.out.1) (bblkK HB5.out HR2.out.2.1) (bblkK HB5.out HR2.out.2.2) (HOV2.out.kept HB5.out) HNV.out (by have := HZ0.out; omega)
        · have hg : goodM c L m = false := by unfold goodM; rw [decide_eq_false hov]; rfl
          have hstp := (step_c (B := M0) hg)
          gi_wp2_with fail
          refine ⟨SameOn.of_below HB4.out HLT2.out, ?_, HT2.out, HS2.out.trans (SameOn.of_below HB4.out (fun j hj => HLT2.out j (.inl hj))), bstep HB2.out HB4.out⟩
          rw [bestM_snoc, hbm, hstp]
          exact HBI.out.stay HB4.out
      · have hstp := (step_e (c := c) hlt)
        gi_wp2_with fail
        refine ⟨SameOn.of_below HB3.out HLT2.out, ?_, HT2.out, HS2.out.trans (SameOn.of_below HB3.out (fun j hj => HLT2.out j (.inl hj))), bstep HB2.out HB3.out⟩
        rw [bestM_snoc, hbm, hstp]
        exact HBI.out.stay HB3.out
end Go.Proofs.Ytfdahmdehmhllaa
