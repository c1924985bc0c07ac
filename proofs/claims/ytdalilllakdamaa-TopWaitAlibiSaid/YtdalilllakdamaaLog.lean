import Derived.RangeFuncNested
import Derived.RangeFuncBound
import Derived.RangeFuncCalls
import Derived.RangeFuncLeaves
import Derived.WalkKit
import Derived.OwnWalkIn
import Derived.TacticsInMore
import Derived.LoopNIn
import Derived.LoopIn
import Derived.WalkSpells
import Derived.Lib.Hide
import Derived.Shelf.Abstract
import Derived.Outline
import Derived.Test.YtdalilllakdamaaProg
namespace Go.Proofs.Ytdalilllakdamaa
open Go Go.RowKit Go.Shelf

@[go_sem] theorem wide_fn (f : FuncId) : Fence.wide.fn f = True := rfl
@[go_sem] theorem wide_depth : Fence.wide.depth = none := rfl
/-- The blocks of S are as they were. -/
structure SameOn (S : Nat → Prop) (W W' : World) : Prop where
  size : W.heap.size ≤ W'.heap.size
  block : ∀ k, S k → W'.heap[k]? = W.heap[k]?
theorem SameOn.refl (S : Nat → Prop) (W : World) : SameOn S W W := ⟨Nat.le_refl _, fun _ _ => rfl⟩
theorem SameOn.trans {S : Nat → Prop} {a b c : World} (h : SameOn S a b) (k : SameOn S b c) : SameOn S a c := ⟨Nat.le_trans h.size k.size, fun i hi => (k.block i hi).trans (h.block i hi)⟩
theorem SameOn.of_below {S : Nat → Prop} {W W' : World} (h : Below W.heap.size W W') (hS : ∀ k, S k → k < W.heap.size) : SameOn S W W' := ⟨h.size, fun k hk => h.block k (hS k hk)⟩
theorem SameOn.mono {S S' : Nat → Prop} {W W' : World} (h : SameOn S W W') (hs : ∀ k, S' k → S k) : SameOn S' W W' := ⟨h.size, fun k hk => h.block k (hs k hk)⟩
theorem SameOn.alloc {S : Nat → Prop} {a b : World} (h : SameOn S a b) (hS : ∀ k, S k → k < b.heap.size) (o : Obj) : SameOn S a (b.alloc o) :=
  h.trans ⟨by simp, fun k hk => Below.heap_alloc _ _ _ (hS k hk)⟩
theorem SameOn.below {S : Nat → Prop} {a b c : World} (h : SameOn S a b) (hS : ∀ k, S k → k < b.heap.size) (hb : Below b.heap.size b c) : SameOn S a c :=
  h.trans (SameOn.of_below hb hS)
theorem SameOn.setCell {S : Nat → Prop} {a b : World} (h : SameOn S a b) {p : Addr} (hp : ¬ S p.block) (v : Value) : SameOn S a (b.setCell p v) :=
  h.trans ⟨by simp [World.setCell], fun k hk => Below.heap_setCell _ _ _ _ (fun e => hp (e ▸ hk))⟩
/-- Only the blocks of T may have been turned; new blocks may have come. -/
structure Turn (T : Nat → Prop) (W W' : World) : Prop where
  os : W'.os = W.os
  tape : W'.tape = W.tape
  output : W'.output = W.output
  size : W.heap.size ≤ W'.heap.size
  same : ∀ k, k < W.heap.size → ¬ T k → W'.heap[k]? = W.heap[k]?
theorem Turn.below {T : Nat → Prop} {B : Nat} {W W' : World} (h : Turn T W W') (hT : ∀ k, T k → B ≤ k) (hB : B ≤ W.heap.size) : Below B W W' :=
  ⟨h.os, h.tape, h.output, h.size, fun k hk => h.same k (by omega) (fun hk' => by have := hT k hk'; omega)⟩
theorem Turn.of_below {T : Nat → Prop} {W W' : World} (h : Below W.heap.size W W') : Turn T W W' := ⟨h.os, h.tape, h.output, h.size, fun k hk _ => h.block k hk⟩
theorem Turn.putObj {T : Nat → Prop} {W : World} {l : Nat} (o : Obj) (hl : T l) : Turn T W (W.putObj l o) :=
  ⟨rfl, rfl, rfl, by simp, fun k _ hk => World.putObj_heap_other (fun e => hk (e ▸ hl))⟩
/-- J stands for every set of blocks that holds no more than new ones besides, and when the blocks of the set are turned. -/
structure Stable (B : Nat) (J : (Nat → Prop) → World → Prop) : Prop where
  ext : ∀ (T T' : Nat → Prop) (W : World), J T W → (∀ k, T' k → T k ∨ W.heap.size ≤ k) → J T' W
  turn : ∀ (T : Nat → Prop) (W W' : World), (∀ k, T k → B ≤ k) → B ≤ W.heap.size → J T W → Turn T W W' → J T W'
theorem Stable.of_low {B : Nat} {I : World → Prop} (h : ∀ W W', B ≤ W.heap.size → I W → Below B W W' → I W') : Stable B (fun _ => I) :=
  ⟨fun _ _ _ h _ => h, fun _ W W' hT hB hi ht => h W W' hB hi (ht.below hT hB)⟩
abbrev both (S T : Nat → Prop) : Nat → Prop := fun k => S k ∨ T k
abbrev noBlock : Nat → Prop := fun _ => False

/-- The function gf with what it has captured yields the elements of xs, one after another, until it is told to stop. -/
def SeqL {α : Type} (P : Program) (gf : Nat) (lb : Array Value) (enc : α → Array Value) (S : Nat → Prop) (xs : List α) (w0 : World) : Prop :=
  ∀ (n l : Nat) (J : (Nat → Prop) → List α → World → Prop) (Jx : (Nat → Prop) → World → Prop) (W : World), SameOn S w0 W →
    (∀ s, Stable W.heap.size (fun T => J T s)) → Stable W.heap.size Jx →
    (∀ T pre x W1, (∀ k, T k → W.heap.size ≤ k) → (pre ++ [x]) <+: xs → J T pre W1 → W.heap.size ≤ W1.heap.size → (∀ k, T k → k < W1.heap.size) → YieldAt Fence.wide (n - 1) P l (enc x) W1 fun e W' =>
      (e = .returned (.bool true) ∧ J T (pre ++ [x]) W' ∧ SameOn (both S T) W1 W') ∨ (e = .returned (.bool false) ∧ Jx T W' ∧ SameOn (both S T) W1 W')) →
    J noBlock [] W →
    CallsIn Fence.wide n P gf (#[.func (.yield l) #[] #[]] ++ lb) W fun e W' => (∃ v, e = .returned v) ∧ W.heap.size ≤ W'.heap.size ∧ (J noBlock xs W' ∨ Jx noBlock W')

/-- The loop's record becomes busy: no cell is turned. -/
structure Bump (T : Nat → Prop) (W W' : World) : Prop where
  size : W'.heap.size = W.heap.size
  cell : ∀ a, W'.cell? a = W.cell? a
  frozen : ∀ a, W'.frozen? a = W.frozen? a
  turn : Turn T W W'
  cells : ∀ (k : Nat) (o : Obj), W.heap[k]? = some o → Obj.isCells o = true → W'.heap[k]? = some o

/-- How a round may be left. -/
def roundEnd {α : Type} (S T : Nat → Prop) (I : (Nat → Prop) → List α → World → Prop) (Ix : Code → (Nat → Prop) → World → Prop) (xs : List α) (W : World) : Exit → Act → World → Prop
  | .normal, _, W' => SameOn (both S T) W W' ∧ I T xs W'
  | .ret, _, W' => SameOn (both S T) W W' ∧ Ix .ret T W'
  | .exit id, _, W' => SameOn (both S T) W W' ∧ Ix (.exit id) T W'
  | .goto t, _, W' => SameOn (both S T) W W' ∧ Ix (.goto t) T W'
  | .panic _, _, _ => False
  | .outgrown, _, _ => False

theorem bump_of {T : Nat → Prop} {W : World} {l : Nat} {o : Obj} (o' : Obj) (hT : T l) (hl : W.heap[l]? = some o) (ho : o.isCells = false) (ho' : o'.isCells = false) : Bump T W (W.putObj l o') := by
  have hlt := (Array.getElem?_eq_some_iff.1 hl).1
  refine ⟨by simp, fun a => ?_, fun a => ?_, Turn.putObj o' hT, fun k o2 h2 hc => (World.putObj_heap_other (fun e => by subst e; rw [hl] at h2; cases h2; rw [ho] at hc; cases hc)).trans h2⟩
  · by_cases e : a.block = l
    · unfold World.cell?; rw [e, World.putObj_heap_same hlt, hl]; cases o <;> cases o' <;> simp_all [Obj.isCells]
    · exact World.cell?_of_block (World.putObj_heap_other e)
  · by_cases e : a.block = l
    · unfold World.frozen?; rw [e, World.putObj_heap_same hlt, hl]; cases o <;> cases o' <;> simp_all [Obj.isCells]
    · exact World.frozen?_of_block (World.putObj_heap_other e)

/-- A range over a function that yields a list. -/
theorem rangeL {P : Program} {α : Type} {n : Nat} {g : Operand} {ps : Array Tmp} {assign body : Code} {Q : Exit → Act → World → Prop} {a : Act} {w : World}
    {gf : Nat} {lb : Array Value} (hg : a.eval g = .func (.func gf) #[] lb) (eg : ∀ args w, (callFunc gf args).run P w = .ok (.enter gf args) w)
    {enc : α → Array Value} {S : Nat → Prop} {xs : List α} (hseq : SeqL P gf lb enc S xs w) (hps : ∀ x, (enc x).size = ps.size) (hS : ∀ k, S k → k < w.heap.size)
    (I : (Nat → Prop) → List α → World → Prop) (Ix : Code → (Nat → Prop) → World → Prop) (hI : ∀ s, Stable w.heap.size (fun T => I T s)) (hIx : ∀ c, Stable w.heap.size (Ix c)) (h0 : I noBlock [] w)
    (hround : ∀ (l : Nat) (T : Nat → Prop) (pre : List α) (x : α) (W : World), (∀ k, T k → w.heap.size ≤ k) → (∀ k, T k → k < W.heap.size) → w.heap.size ≤ W.heap.size → (pre ++ [x]) <+: xs → I T pre W →
      ∀ K : Act → World → Prop, (∀ a1 W1, SameOn (both S T) W W1 → (∀ W2, Bump T W1 W2 → body.wpIn (Fence.wide.inRound l) (n - 1 - 1) P (roundEnd S T I Ix (pre ++ [x]) W2) a1 W2) → K a1 W1) →
      assign.wpIn (Fence.wide.inRound l) (n - 1 - 1) P (Exit.then K (fun _ _ _ => False)) { tmps := (ps.zip (enc x)).foldl (fun t (p, v) => t.setIfInBounds p v) a.tmps, defers := [] } W)
    (hdone : ∀ (T : Nat → Prop) W, T w.heap.size → (∀ k, T k → w.heap.size ≤ k) → w.heap.size ≤ W.heap.size → I T xs W → W.heap[w.heap.size]? = some (.deferred (some [])) → Q .normal { a with defers := { target := .collected w.heap.size, args := #[] } :: a.defers } W)
    (hstop : ∀ (T : Nat → Prop) c W, T w.heap.size → (∀ k, T k → w.heap.size ≤ k) → w.heap.size ≤ W.heap.size → Ix c T W → W.heap[w.heap.size]? = some (.deferred (some [])) → c.wpIn Fence.wide n P Q { a with defers := { target := .collected w.heap.size, args := #[] } :: a.defers } W) :
    (Code.rangeFunc g ps assign body).wpIn Fence.wide n P Q a w := by
  refine wpIn_rangeFunc ?_
  intro fn hfn
  obtain ⟨rec, hrec⟩ : ∃ rec : LoopState → Option Code → Loop, rec = fun st pe => { state := st, pending := pe, fn, tmps := a.tmps, params := ps, assign, body, defers := w.heap.size } := ⟨_, rfl⟩
  obtain ⟨W1, hW1⟩ : ∃ W1, (w.alloc (.deferred (some []))).alloc (.loop (rec .ready none)) = W1 := ⟨_, rfl⟩
  have hsz : W1.heap.size = w.heap.size + 2 := by rw [← hW1]; simp
  have hL1 : W1.heap[w.heap.size + 1]? = some (.loop (rec .ready none)) := by
    rw [← hW1]; have := World.alloc_heap_new (w.alloc (.deferred (some []))) (.loop (rec .ready none)); rwa [World.size_alloc] at this
  have hK1 : W1.heap[w.heap.size]? = some (.deferred (some [])) := by
    rw [← hW1]; exact (Below.heap_alloc _ _ _ (by simp)).trans (World.alloc_heap_new w _)
  have hB1 : Below w.heap.size w W1 := by
    rw [← hW1]; exact ((Below.refl _ w).alloc (Nat.le_refl _) _).alloc (by simp) _
  obtain ⟨R, hR⟩ : ∃ R : Nat → Prop, R = fun k => k = w.heap.size ∨ k = w.heap.size + 1 := ⟨_, rfl⟩
  have hR0 : R w.heap.size := by rw [hR]; exact .inl rfl
  have hR1 : R (w.heap.size + 1) := by rw [hR]; exact .inr rfl
  have hRl : ∀ k, R k → w.heap.size ≤ k := by intro k hk; rw [hR] at hk; omega
  have hRs : ∀ k, R k → k < w.heap.size + 2 := by intro k hk; rw [hR] at hk; omega
  have hnoR : ∀ k, both noBlock R k → w.heap.size ≤ k := by
    rintro k (h | h)
    · exact h.elim
    · exact hRl k h
  have hnoR' : ∀ k, both noBlock R k → noBlock k ∨ w.heap.size ≤ k := fun k hk => .inr (hnoR k hk)
  refine ⟨w.heap.size + 1, [{ target := .collected w.heap.size, args := #[] }], W1, { target := .fn (.func gf) lb, args := #[.func (.yield (w.heap.size + 1)) #[] #[]] }, W1, gf,
    #[.func (.yield (w.heap.size + 1)) #[] #[]] ++ lb, W1, ?_, ?_, ?_, ?_, fun h => by simp [Fence.wide] at h, ?_⟩
  · rw [← hW1, hrec]; exact run_enterLoop_outer _ _ _ _ _
  · simp only [resolve, hg]
    simp [go_sem]
  · intro f' hf'; trivial
  · simp [invoke, go_sem, eg]
  · have hst : ∀ (K : (Nat → Prop) → World → Prop) (r : Obj), Stable w.heap.size K → Stable W1.heap.size (fun T W => K (both T R) W ∧ (∀ k, T k → w.heap.size + 2 ≤ k) ∧ w.heap.size + 2 ≤ W.heap.size ∧ W.heap[w.heap.size + 1]? = some r ∧ W.heap[w.heap.size]? = some (.deferred (some []))) := by
      intro K r hK
      refine ⟨fun T T' W ⟨h1, h2, h3, h4, h5⟩ hT => ⟨hK.ext _ _ W h1 (fun k hk => ?_), fun k hk => ?_, h3, h4, h5⟩, fun T W W' hT hB ⟨h1, h2, h3, h4, h5⟩ ht => ⟨hK.turn _ W W' (fun k hk => ?_) (by omega) h1 ⟨ht.os, ht.tape, ht.output, ht.size, fun k hk hn => ht.same k hk (fun h => hn (.inl h))⟩, h2, Nat.le_trans h3 ht.size, ?_, ?_⟩⟩
      · rcases hk with hk | hk
        · exact (hT k hk).imp .inl id
        · exact .inl (.inr hk)
      · rcases hT k hk with h | h
        · exact h2 k h
        · omega
      · rcases hk with hk | hk
        · have := h2 k hk; omega
        · exact hRl k hk
      · exact (ht.same _ (by omega) (fun h => by have := h2 _ h; omega)).trans h4
      · exact (ht.same _ (by omega) (fun h => by have := h2 _ h; omega)).trans h5
    refine (hseq (n - 1) (w.heap.size + 1)
      (fun T pre W => I (both T R) pre W ∧ (∀ k, T k → w.heap.size + 2 ≤ k) ∧ w.heap.size + 2 ≤ W.heap.size ∧ W.heap[w.heap.size + 1]? = some (.loop (rec .ready none)) ∧ W.heap[w.heap.size]? = some (.deferred (some [])))
      (fun T W => ∃ c, Ix c (both T R) W ∧ (∀ k, T k → w.heap.size + 2 ≤ k) ∧ w.heap.size + 2 ≤ W.heap.size ∧ W.heap[w.heap.size + 1]? = some (.loop (rec .done (some c))) ∧ W.heap[w.heap.size]? = some (.deferred (some [])))
      W1 ⟨hB1.size, fun k hk => hB1.block k (hS k hk)⟩ (fun s => hst (fun T => I T s) _ (hI s)) ?_ ?_ ⟨?_, by simp, by omega, hL1, hK1⟩).mono ?_
    · refine ⟨fun T T' W ⟨c, h⟩ hT => ⟨c, (hst (Ix c) _ (hIx c)).ext T T' W h hT⟩, fun T W W' hT hB ⟨c, h⟩ ht => ⟨c, (hst (Ix c) _ (hIx c)).turn T W W' hT hB h ht⟩⟩
    · rintro T pre x W hT hpre ⟨hi, hT2, hWs, hl, hk⟩ hsW hTl
      have hTR : ∀ k, both T R k → w.heap.size ≤ k := by
        rintro k (h | h)
        · have := hT2 k h; omega
        · exact hRl k h
      have hTl2 : ∀ k, both T R k → k < W.heap.size := by
        rintro k (h | h)
        · exact hTl k h
        · have := hRs k h; omega
      have hy := run_yield (P := P) (args := enc x) hl (by rw [hrec]; exact hps x)
      rw [hrec] at hy
      refine ⟨fn, _, assign, body, hy, roundIn_of_wpIn hfn ?_⟩
      refine wpIn_mono (hround (w.heap.size + 1) (both T R) pre x W (fun k hk => hTR k hk) (fun k hk => hTl2 k hk) (by omega) hpre hi (fun a1 W1 => SameOn (both S (both T R)) W W1 ∧ ∀ W2, Bump (both T R) W1 W2 → body.wpIn (Fence.wide.inRound (w.heap.size + 1)) (n - 1 - 1) P (roundEnd S (both T R) I Ix (pre ++ [x]) W2) a1 W2) (fun a1 W1 h1 h2 => ⟨h1, h2⟩)) ?_
      intro e a1 W2 hp
      cases e with
      | normal =>
        obtain ⟨hkept, hb⟩ := hp
        have hl2 := (hkept.block (w.heap.size + 1) (.inr (.inr hR1))).trans hl
        have hk2 := (hkept.block w.heap.size (.inr (.inr hR0))).trans hk
        refine ⟨_, run_beginRound hl2 (by rw [hrec]), ?_⟩
        have hbump := bump_of (T := both T R) (.loop { rec .ready none with state := .busy }) (.inr hR1) hl2 rfl rfl
        generalize hW3 : W2.putObj (w.heap.size + 1) (.loop { rec .ready none with state := .busy }) = W3 at hbump
        have hl3 : W3.heap[w.heap.size + 1]? = some (.loop { rec .ready none with state := .busy }) := by
          rw [← hW3]; exact World.putObj_heap_same (Array.getElem?_eq_some_iff.1 hl2).1
        have hoth : ∀ k, k ≠ w.heap.size + 1 → W3.heap[k]? = W2.heap[k]? := by intro k hk; rw [← hW3]; exact World.putObj_heap_other hk
        have hk3 : W3.heap[w.heap.size]? = some (.deferred (some [])) := (hoth _ (by omega)).trans hk2
        refine wpIn_mono (hb W3 hbump) ?_
        have hs3 : SameOn (both S T) W W3 := ⟨by have := hkept.size; have := hbump.size; omega, fun k hk => by
          have hne : k ≠ w.heap.size + 1 := by
            rcases hk with h | h
            · have := hS k h; omega
            · have := hT2 k h; omega
          exact (hoth k hne).trans (hkept.block k (hk.imp id .inl))⟩
        have fin : ∀ (jump : Option Code) (W4 : World), SameOn (both S (both T R)) W3 W4 →
            (Instr.endRound (w.heap.size + 1) jump).run P W4 = .ok (.bool jump.isNone) (W4.putObj (w.heap.size + 1) (.loop (rec (if jump.isNone then .ready else .done) jump))) ∧
            Turn (both T R) W4 (W4.putObj (w.heap.size + 1) (.loop (rec (if jump.isNone then .ready else .done) jump))) ∧ w.heap.size + 2 ≤ W4.heap.size ∧
            (W4.putObj (w.heap.size + 1) (.loop (rec (if jump.isNone then .ready else .done) jump))).heap[w.heap.size + 1]? = some (.loop (rec (if jump.isNone then .ready else .done) jump)) ∧
            (W4.putObj (w.heap.size + 1) (.loop (rec (if jump.isNone then .ready else .done) jump))).heap[w.heap.size]? = some (.deferred (some [])) ∧
            SameOn (both S T) W (W4.putObj (w.heap.size + 1) (.loop (rec (if jump.isNone then .ready else .done) jump))) := fun jump W4 h4 => by
          have hl4 := (h4.block (w.heap.size + 1) (.inr (.inr hR1))).trans hl3
          have hk4 := (h4.block w.heap.size (.inr (.inr hR0))).trans hk3
          have := run_endRound (P := P) jump hl4
          rw [hrec] at this ⊢
          refine ⟨this, Turn.putObj _ (.inr hR1), by have := hs3.size; have := h4.size; omega, World.putObj_heap_same (Array.getElem?_eq_some_iff.1 hl4).1, (World.putObj_heap_other (by omega)).trans hk4, ⟨by have := hs3.size; have := h4.size; simp; omega, fun k hk => ?_⟩⟩
          have hne : k ≠ w.heap.size + 1 := by
            rcases hk with h | h
            · have := hS k h; omega
            · have := hT2 k h; omega
          exact ((World.putObj_heap_other hne).trans (h4.block k (hk.imp id .inl))).trans (hs3.block k hk)
        rintro e a4 W4 hp4
        cases e with
        | normal => obtain ⟨h4, hi4⟩ := hp4; obtain ⟨hr, hc, hz, h5, h6, h7⟩ := fin none W4 h4; exact ⟨_, _, hr, .inl ⟨rfl, ⟨(hI _).turn _ _ _ hTR (by omega) hi4 hc, hT2, by simp; omega, h5, h6⟩, h7⟩⟩
        | ret => obtain ⟨h4, hi4⟩ := hp4; obtain ⟨hr, hc, hz, h5, h6, h7⟩ := fin (some .ret) W4 h4; exact ⟨_, _, hr, .inr ⟨rfl, ⟨.ret, (hIx _).turn _ _ _ hTR (by omega) hi4 hc, hT2, by simp; omega, h5, h6⟩, h7⟩⟩
        | exit id => obtain ⟨h4, hi4⟩ := hp4; obtain ⟨hr, hc, hz, h5, h6, h7⟩ := fin (some (.exit id)) W4 h4; exact ⟨_, _, hr, .inr ⟨rfl, ⟨.exit id, (hIx _).turn _ _ _ hTR (by omega) hi4 hc, hT2, by simp; omega, h5, h6⟩, h7⟩⟩
        | goto t => obtain ⟨h4, hi4⟩ := hp4; obtain ⟨hr, hc, hz, h5, h6, h7⟩ := fin (some (.goto t)) W4 h4; exact ⟨_, _, hr, .inr ⟨rfl, ⟨.goto t, (hIx _).turn _ _ _ hTR (by omega) hi4 hc, hT2, by simp; omega, h5, h6⟩, h7⟩⟩
        | panic ch => exact hp4.elim
        | outgrown => exact hp4.elim
      | ret => exact hp
      | exit id => exact hp
      | goto t => exact hp
      | panic ch => exact hp
      | outgrown => exact hp
    · exact (hI []).turn _ _ _ hnoR (Nat.le_refl _) ((hI []).ext _ _ _ h0 hnoR') (Turn.of_below hB1)
    · rintro e W2 ⟨⟨v, rfl⟩, hsz2, (⟨hi, _, hz, hl, hk⟩ | ⟨c, hi, _, hz, hl, hk⟩)⟩
      · have he := run_endLoop (P := P) hl (by rw [hrec]; simp)
        exact ⟨none, _, by rw [hrec] at he; exact he, hdone (both noBlock R) _ (.inr hR0) hnoR (by simp; omega) ((hI xs).turn _ _ _ hnoR (by omega) hi (Turn.putObj _ (.inr hR1))) ((World.putObj_heap_other (by omega)).trans hk)⟩
      · have he := run_endLoop (P := P) hl (by rw [hrec]; simp)
        exact ⟨some c, _, by rw [hrec] at he; exact he, hstop (both noBlock R) _ _ (.inr hR0) hnoR (by simp; omega) ((hIx c).turn _ _ _ hnoR (by omega) hi (Turn.putObj _ (.inr hR1))) ((World.putObj_heap_other (by omega)).trans hk)⟩
end Go.Proofs.Ytdalilllakdamaa
