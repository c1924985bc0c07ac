/- A drawn region of a round: the first operations as those of a plain region, in whatever order, then a forced tail. -/
import Derived.Test.YtdhkgpfcanekkaaRnd
namespace Go.Proofs.Ytdhkgpfcanekkaa
open Go Go.RowKit Go.Shelf

theorem upon_round2 {l n : Nat} {P : Program} {o : Oper} {a : Act} {next next' : Act → World → Prop} {Q Q' : Exit → Act → World → Prop} (hq : ∀ e a w, Q' e a w → e = .normal) (hn : ∀ a w, next a w → next' a w) : ∀ r : Result Next, o.upon P a next Q' r → o.uponIn (Fence.wide.inRound l) n P a next' Q r := by
  intro r h
  unfold Oper.upon at h
  split at h
  · exact hn _ _ h
  · exact hn _ _ h
  · exact hn _ _ h
  · refine ⟨(fun hx => by cases hx), CallsIn.inRound l (callsIn_wide.2 (h.mono ?_))⟩
    intro e w' h'
    split at h'
    · exact hn _ _ h'
    · cases hq _ _ _ h'
    · obtain ⟨_, _, h'⟩ := h'
      cases hq _ _ _ h'
  · refine ⟨(fun hx => by cases hx), ?_⟩
    intro c cs _
    obtain ⟨v, w', r, s⟩ := h c cs
    exact ⟨v, w', hn _ _ r, stepsIn_wide.2 s⟩
  · cases hq _ _ _ h
  · exact h.elim

/-- Whatever comes up is of the head, as in the head alone, and behind the head the tail in its order. -/
def headB (md : Region.Mode) (ops ops' : Array Oper) (g s : Nat) : Nat → Array Bool → Array Bool → Bool
  | 0, l, _ => Region.seqB md ops g s l
  | f + 1, l, l' => decide (Region.ready md ops l = Region.ready md ops' l') && !(Region.ready md ops' l').isEmpty &&
      (Region.ready md ops' l').all fun i => decide (i < ops'.size) && headB md ops ops' g s f (l.setIfInBounds i true) (l'.setIfInBounds i true)

theorem headIn {k m g s : Nat} {P : Program} {md : Region.Mode} {ops ops' : Array Oper} {Q Q' : Exit → Act → World → Prop} (hq : ∀ e a w, Q' e a w → e = .normal)
    (hop : ∀ (i : Nat) (o : Oper), ops'[i]? = some o → ops[i]? = some o ∧ o.guard = none ∧ ∀ c, o.op ≠ .defer c)
    (hfin : ∀ listed a w, Region.seqB md ops g s listed = true → Q' .normal a w → wpAnyIn (Fence.wide.inRound k) m P md ops Q g listed a w) :
    ∀ (f : Nat) (l l' : Array Bool) (a : Act) (w : World), headB md ops ops' g s f l l' = true → wpAny P md ops' Q' f l' a w → wpAnyIn (Fence.wide.inRound k) m P md ops Q (f + g) l a w
  | 0, l, l', a, w, hB, h => by
    rw [Nat.zero_add]
    exact hfin l a w hB h.2
  | f + 1, l, l', a, w, hB, h => by
    simp only [headB, Bool.and_eq_true, decide_eq_true_eq, List.all_eq_true] at hB
    obtain ⟨⟨h1, h2⟩, h3⟩ := hB
    rw [show f + 1 + g = (f + g) + 1 by omega]
    refine ⟨fun h0 => ?_, fun i hi => ?_⟩
    · rw [h1] at h0
      rw [h0] at h2
      cases h2
    · rw [h1] at hi
      obtain ⟨hi1, hi2⟩ := h3 i hi
      obtain ⟨o, ho⟩ : ∃ o, ops'[i]? = some o := ⟨_, Array.getElem?_eq_getElem hi1⟩
      obtain ⟨o1, o2, o3⟩ := hop i _ ho
      have hh := h.2 i hi
      have hw : ∀ y, Region.wanted o y = true := by intro y; unfold Region.wanted; rw [o2]
      unfold wpOp at hh
      unfold wpOpIn
      simp only [ho, hw, if_true] at hh
      simp only [o1, hw, if_true]
      rcases hh with hh | hh
      · refine ⟨fun f _ => trivial, ?_⟩
        show o.uponIn _ _ _ _ _ _ ((o.semAt (some k) a.eval).run P w)
        rw [Oper.semAt_some k _ o o3]
        exact upon_round2 hq (fun a' w' h' => headIn hq hop hfin f _ _ a' w' hi2 h') _ hh
      · obtain ⟨-, _, _, h'⟩ := hh
        cases hq _ _ _ h'

theorem wpIn_round_head {k m id : Nat} {P : Program} {Q : Exit → Act → World → Prop} {a : Act} {w : World} {l : List Oper} (n : Nat) (hn : n ≤ l.length) (hm : P.follows .mixedOrders = true) (hd : noDefer l = true) (hg : ((l.take n).all fun o => o.guard.isNone) = true)
    (hB : headB .any l.toArray (l.take n).toArray (l.length - n) n n (Array.replicate l.length false) (Array.replicate n false) = true)
    (h : ∀ R : Exit → Act → World → Prop, (∀ c a w, ¬ R (.panic c) a w) → (∀ a' w', wpListIn (Fence.wide.inRound k) m P l.toArray (Q0 Q) (l.drop n) a' w' → R .normal a' w') → wpAny P .any (l.take n).toArray R n (Array.replicate n false) a w.drew) : (Code.region id l.toArray true).wpIn (Fence.wide.inRound k) m P Q a w := by
  have h := h (fun e a' w' => e = .normal ∧ wpListIn (Fence.wide.inRound k) m P l.toArray (Q0 Q) (l.drop n) a' w') (fun _ _ _ h => by cases h.1) (fun _ _ h => ⟨rfl, h⟩)
  refine Code.wpIn_mono (Q := Q0 Q) (fun e a w he => by obtain ⟨rfl, he⟩ := he; exact he) (wpIn_region_any hm ?_)
  have hdl : (l.drop n).length = l.length - n := by simp
  have H := headIn (k := k) (m := m) (ops := l.toArray) (Q := Q0 Q) (fun e a w h => h.1) (fun i o ho => ?_) (fun listed a' w' hL h' => ?_) n _ _ a w.drew hB h
  · rw [show n + (l.length - n) = l.toArray.size by simp; omega] at H
    simpa using H
  · rw [List.getElem?_toArray, List.getElem?_take] at ho
    split at ho
    · refine ⟨by rw [List.getElem?_toArray]; exact ho, ?_, fun c hc => noDefer_of hd i o c (by rw [List.getElem?_toArray]; exact ho) hc⟩
      have := List.all_eq_true.1 hg o (List.mem_of_getElem? (i := i) (by rw [List.getElem?_take, if_pos (by assumption)]; exact ho))
      simpa using this
    · cases ho
  · have := wpAnyIn_of_seq (md := .any) (F := Fence.wide.inRound k) (m := m) (Q' := Q0 Q) (l.drop n) n listed a' w' (fun j => by simp [List.getElem?_drop]) (by rw [hdl]; exact hL) h'.2
    rwa [hdl] at this
end Go.Proofs.Ytdhkgpfcanekkaa
