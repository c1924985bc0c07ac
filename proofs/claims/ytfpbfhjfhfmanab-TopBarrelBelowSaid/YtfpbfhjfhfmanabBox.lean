/- A range over a function whose body writes some boxes of its own. -/
import Derived.Test.YtfpbfhjfhfmanabAdd
namespace Go.Proofs.Ytfpbfhjfhfmanab
open Go Go.RowKit Go.Shelf

/-- How a round may be left: only the blocks of X have been turned. -/
def boxEnd {α : Type} (X : Nat → Prop) (I : List α → World → Prop) (Ix : Code → World → Prop) (xs : List α) (W : World) : Exit → Act → World → Prop
  | .normal, _, W' => Turn X W W' ∧ I xs W'
  | .ret, _, W' => Turn X W W' ∧ Ix .ret W'
  | .exit id, _, W' => Turn X W W' ∧ Ix (.exit id) W'
  | .goto t, _, W' => Turn X W W' ∧ Ix (.goto t) W'
  | .panic _, _, _ => False
  | .outgrown, _, _ => False

theorem Turn.high {X T : Nat → Prop} {w W W' : World} (h : Turn X w W) (hT : ∀ k, T k → w.heap.size ≤ k) (h' : Turn T W W') : Turn X w W' :=
  ⟨h'.os.trans h.os, h'.tape.trans h.tape, h'.output.trans h.output, Nat.le_trans h.size h'.size, fun k hk hn => (h'.same k (Nat.lt_of_lt_of_le hk h.size) (fun ht => by have := hT k ht; omega)).trans (h.same k hk hn)⟩
theorem Turn.sub {X : Nat → Prop} {w W W' : World} (h : Turn X w W) (h' : Turn X W W') : Turn X w W' := h.trans h'
theorem Turn.sameOn {X S : Nat → Prop} {W W' : World} (h : Turn X W W') (hS : ∀ k, S k → k < W.heap.size ∧ ¬ X k) : SameOn S W W' := ⟨h.size, fun k hk => h.same k (hS k hk).1 (hS k hk).2⟩

theorem rangeB {P : Program} {α : Type} {n : Nat} {g : Operand} {ps : Array Tmp} {assign body : Code} {Q : Exit → Act → World → Prop} {a : Act} {w : World}
    {gf : Nat} {lb : Array Value} (hg : a.eval g = .func (.func gf) #[] lb) (eg : ∀ args w, (callFunc gf args).run P w = .ok (.enter gf args) w)
    {enc : α → Array Value} {S : Nat → Prop} {xs : List α} (hseq : SeqL P gf lb enc S xs w) (hps : ∀ x, (enc x).size = ps.size) (hS : ∀ k, S k → k < w.heap.size)
    (X : Nat → Prop) (hX : ∀ k, X k → k < w.heap.size) (hSX : ∀ k, S k → ¬ X k)
    (I : List α → World → Prop) (Ix : Code → World → Prop) (hI : ∀ s W W', I s W → (∀ k, X k → W'.heap[k]? = W.heap[k]?) → I s W') (hIx : ∀ c W W', Ix c W → (∀ k, X k → W'.heap[k]? = W.heap[k]?) → Ix c W') (h0 : I [] w)
    (hround : ∀ (l : Nat) (pre : List α) (x : α) (W : World), (pre ++ [x]) <+: xs → Turn X w W → I pre W →
      ∀ K : Act → World → Prop, (∀ a1 W1, Below W.heap.size W W1 → (∀ W2, Turn X w W2 → I pre W2 → W2.heap.size = W1.heap.size → (∀ (k : Nat) (o : Obj), W1.heap[k]? = some o → Obj.isCells o = true → W2.heap[k]? = some o) → body.wpIn (Fence.wide.inRound l) (n - 1 - 1) P (boxEnd X I Ix (pre ++ [x]) W2) a1 W2) → K a1 W1) →
      assign.wpIn (Fence.wide.inRound l) (n - 1 - 1) P (Exit.then K (fun _ _ _ => False)) { tmps := (ps.zip (enc x)).foldl (fun t (p, v) => t.setIfInBounds p v) a.tmps, defers := [] } W)
    (hdone : ∀ W, Turn X w W → I xs W → W.heap[w.heap.size]? = some (.deferred (some [])) → Q .normal { a with defers := { target := .collected w.heap.size, args := #[] } :: a.defers } W)
    (hstop : ∀ c W, Turn X w W → Ix c W → W.heap[w.heap.size]? = some (.deferred (some [])) → c.wpIn Fence.wide n P Q { a with defers := { target := .collected w.heap.size, args := #[] } :: a.defers } W) :
    (Code.rangeFunc g ps assign body).wpIn Fence.wide n P Q a w := by
  have hst : ∀ (K : World → Prop), (∀ W W', K W → (∀ k, X k → W'.heap[k]? = W.heap[k]?) → K W') → Stable w.heap.size (fun _ W => Turn X w W ∧ K W) := by
    intro K hK
    refine ⟨fun _ _ _ h _ => h, fun T W W' hT hB ⟨h1, h2⟩ ht => ⟨h1.high hT ht, hK W W' h2 (fun k hk => ht.same k (by have := hX k hk; omega) (fun h => by have := hT k h; have := hX k hk; omega))⟩⟩
  refine rangeL hg eg hseq hps hS (fun _ s W => Turn X w W ∧ I s W) (fun c _ W => Turn X w W ∧ Ix c W) (fun s => hst _ (hI s)) (fun c => hst _ (hIx c)) ⟨Turn.refl _ _, h0⟩ ?_ ?_ ?_
  · intro l T pre x W hTl hTs hsz hpre ⟨ht, hi⟩ K hK
    refine hround l pre x W hpre ht hi K (fun a1 W1 hb hbody => ?_)
    have hST : ∀ k, both S T k → k < W.heap.size := by
      rintro k (h | h)
      · have := hS k h; omega
      · exact hTs k h
    refine hK a1 W1 (SameOn.of_below hb hST) (fun W2 hbump => ?_)
    have ht1 : Turn X w W1 := ht.trans (Turn.of_below hb)
    have ht2 : Turn X w W2 := ht1.high hTl hbump.turn
    have hi1 : I pre W1 := hI _ _ _ hi (fun k hk => hb.block k (by have := hX k hk; omega))
    have hi2 : I pre W2 := hI _ _ _ hi1 (fun k hk => hbump.turn.same k (by have := hX k hk; have := hb.size; omega) (fun h => by have := hTl k h; have := hX k hk; omega))
    refine wpIn_mono (hbody W2 ht2 hi2 hbump.size hbump.cells) ?_
    have hso : ∀ W3, Turn X W2 W3 → SameOn (both S T) W2 W3 := fun W3 h3 => h3.sameOn (fun k hk => ⟨by have := hST k hk; have := hb.size; have := hbump.size; omega, by
      rcases hk with h | h
      · exact hSX k h
      · intro hx; have := hTl k h; have := hX k hx; omega⟩)
    rintro e a3 W3 hp
    cases e with
    | normal => exact ⟨hso _ hp.1, ht2.trans hp.1, hp.2⟩
    | ret => exact ⟨hso _ hp.1, ht2.trans hp.1, hp.2⟩
    | exit id => exact ⟨hso _ hp.1, ht2.trans hp.1, hp.2⟩
    | goto t => exact ⟨hso _ hp.1, ht2.trans hp.1, hp.2⟩
    | panic ch => exact hp.elim
    | outgrown => exact hp.elim
  · intro T W _ _ _ ⟨ht, hi⟩ hK
    exact hdone W ht hi hK
  · intro T c W _ _ _ ⟨ht, hi⟩ hK
    exact hstop c W ht hi hK

/-- The marks of loops that are over are taken up, one after another. -/
theorem leaves_marks {n : Nat} {P : Program} {fn : Func} {tmps : Array Value} {R : Ending → World → Prop} : ∀ (Ds : List Nat) (W : World), Ds.Nodup → (∀ D, D ∈ Ds → W.heap[D]? = some (.deferred (some []))) →
    (∀ W', Turn (fun k => k ∈ Ds) W W' → W'.heap.size = W.heap.size → LeavesInM Fence.wide n P fn tmps R [] .returning W') →
    LeavesInM Fence.wide n P fn tmps R (Ds.map fun D => { target := .collected D, args := #[] }) .returning W
  | [], W, _, _, h => h W (Turn.refl _ _) rfl
  | D :: Ds, W, hn, hd, h => by
    have hD := hd D (by simp)
    refine ⟨by simp, .inl ⟨D, _, rfl, run_takeDeferred hD, leaves_marks Ds _ (List.nodup_cons.1 hn).2 (fun D' hD' => ?_) (fun W' ht hs => h W' ?_ ?_)⟩⟩
    · have hne : D' ≠ D := fun e => (List.nodup_cons.1 hn).1 (e ▸ hD')
      exact (World.putObj_heap_other hne).trans (hd D' (by simp [hD']))
    · exact (Turn.putObj (T := fun k => k ∈ D :: Ds) _ (by simp)).trans (ht.mono (fun k hk => by simp [hk]))
    · rw [hs]; simp
end Go.Proofs.Ytfpbfhjfhfmanab
