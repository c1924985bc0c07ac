/- TopNarrowerWaits: two days that are being made. -/
import Derived.Test.YthkmklfmobenaaaRd
import Derived.Test.YthkmklfmobenaaaSj
namespace Go.Proofs.Ythkmklfmobenaaa
open Go Go.RowKit Go.Shelf

section
variable {P : Program} {ops : Array Oper} {o : Oper} {a : Act} {w : World} {Q : Exit → Act → World → Prop}
/-- s = append(s, y) at a step of a drawn region; and where the new list lies. -/
theorem S_append2 {α : Type} {enc : α → List Value} {sz e base bytes : Nat} {i : TypeInfo} {z v : Value} {xs : List α} {g c : Nat} {K : Act → World → Prop} {E : Prop} (y : α)
    (hg : o.guard = none) (s x : Operand) (t : TypeId) (hop : o.op = Op.call { callee := Callee.builtin Builtin.append, args := #[s, x], argTypes := #[t, t] })
    (h1 : P.underlying t = some (.slice e)) (h2 : P.info? e = some i) (h3 : i.zero = some z) (h4 : i.size = sz) (h5 : i.bytes = bytes) (h6 : z.cells.size = sz) (h7 : 0 < sz)
    (he : ∀ x, (enc x).length = sz) (h1c : ∀ u ∈ enc y, u.oneCell' = true)
    (hs : a.eval s = v) (hx : a.eval x = .slice (some ⟨g, 0, none⟩) 1 c) (hown : Owns enc sz e base w v xs) (hc : ∀ j u, (enc y)[j]? = some u → w.cell? ⟨g, j, none⟩ = some u)
    (b2 : xs.length + 1 ≤ maxLen ∧ (xs.length + 1) * bytes ≤ 140737488355328) (b3 : base ≤ w.heap.size)
    (hK : ∀ g' cap w', Owns enc sz e base w' (.slice (some ⟨g', 0, none⟩) (xs.length + 1) cap) (xs ++ [y]) → Below base w w' → w.grownBy w' v.ownBlock → (v.ownBlock = some g' ∨ g' = w.heap.size) → K (a.put o.dst (.slice (some ⟨g', 0, none⟩) (xs.length + 1) cap)) w') :
    if Region.wanted o (yielded ops a.tmps) = true then Oper.wp P o a w K Q else E := by
  refine step_append_lies w hg s x t hop base e i z sz bytes h1 h2 h3 h4 h5 h6 h7 v xs.length (xs.flatMap enc) hs hown ⟨g, 0, none⟩ 1 c (enc y) hx (by rw [he]; omega) (fun j u hu => ?_) h1c (by omega) b2.1 b2.2 b3 w.heap.size rfl (fun g' cap w' r1 r2 r3 _ => ?_)
  · have hadd : (⟨g, 0, none⟩ : Addr).add j = ⟨g, j, none⟩ := by unfold Addr.add; split <;> simp_all
    rw [hadd]; exact hc j u hu
  · refine hK g' cap w' ?_ (below_of_own hown b3 r2) r2 r3
    show w'.ownsRow base e sz _ (xs ++ [y]).length ((xs ++ [y]).flatMap enc)
    simpa using r1
end
/-- Two days that are being made: their cloths so far, in lists that don't share a block. -/
structure TwInv (C0 C1 : List Ct) (Wl : World) (rv0 rv1 tv0 tv1 : Value) (wr : World) : Prop where
  B : Below Wl.heap.size Wl wr
  S : Wl.heap.size + 1 ≤ wr.heap.size
  h : wr.heap[Wl.heap.size]? = some (.cells #[tv0, rv0, tv1, rv1] 28 (0, 0))
  N0 : C0 = [] → tv0 = .slice none 0 0
  N1 : C1 = [] → tv1 = .slice none 0 0
  O0 : Owns encC 4 49 (Wl.heap.size + 1) wr tv0 C0
  O1 : Owns encC 4 49 (Wl.heap.size + 1) wr tv1 C1
  D : ∀ g, tv0.ownBlock = some g → tv1.ownBlock ≠ some g
def TwNext (C0 C1 : List Ct) (Wl : World) (rv0 rv1 : Value) (wr : World) : Prop := ∃ tv0 tv1, TwInv C0 C1 Wl rv0 rv1 tv0 tv1 wr
theorem TwInv.below {C0 C1 : List Ct} {Wl wr w' : World} {rv0 rv1 tv0 tv1 : Value} (h : TwInv C0 C1 Wl rv0 rv1 tv0 tv1 wr) (hb : Below wr.heap.size wr w') : TwInv C0 C1 Wl rv0 rv1 tv0 tv1 w' :=
  ⟨bup h.B (Nat.le_of_succ_le h.S) hb, Nat.le_trans h.S hb.size, bblkQ hb h.h, h.N0, h.N1, h.O0.kept hb, h.O1.kept hb, h.D⟩
theorem heap_set4 {W : World} {b i : Nat} {x0 x1 x2 x3 u : Value} {t : TypeId} (h : W.heap[b]? = some (.cells #[x0, x1, x2, x3] t (0, 0))) : (W.setCell ⟨b, i, none⟩ u).heap[b]? = some (.cells (#[x0, x1, x2, x3].setIfInBounds i u) t (0, 0)) :=
  heap_setCell_same W b i #[x0, x1, x2, x3] t u h
theorem grown_set (W : World) (b i : Nat) (u : Value) : W.grownBy (W.setCell ⟨b, i, none⟩ u) (some b) :=
  ⟨rfl, rfl, rfl, by simp [World.setCell], fun k hk hne => Below.heap_setCell _ _ _ _ (fun e => hne (by rw [e]))⟩
/-- One more cloth on the first day. -/
theorem tw_done0 {C0 C1 : List Ct} {Wl wa w3 : World} {rv0 rv1 tv0 tv1 : Value} {c : Ct} {g' n cap : Nat} (h : TwInv C0 C1 Wl rv0 rv1 tv0 tv1 wa) (hO3 : Owns encC 4 49 (Wl.heap.size + 1) w3 (.slice (some ⟨g', 0, none⟩) n cap) (C0 ++ [c]))
    (hb : Below (Wl.heap.size + 1) wa w3) (hg : wa.grownBy w3 tv0.ownBlock) (hl : tv0.ownBlock = some g' ∨ g' = wa.heap.size) :
    TwNext (C0 ++ [c]) C1 Wl rv0 rv1 (w3.setCell ⟨Wl.heap.size, 0, none⟩ (.slice (some ⟨g', 0, none⟩) n cap)) := by
  have h7 : w3.heap[Wl.heap.size]? = some (.cells #[tv0, rv0, tv1, rv1] 28 (0, 0)) := (hb.block _ (Nat.lt_succ_self _)).trans h.h
  have hlt := (Array.getElem?_eq_some_iff.1 h7).1
  have hB3 : Below Wl.heap.size Wl w3 := h.B.trans (hb.mono (Nat.le_succ _))
  have hO1 : Owns encC 4 49 (Wl.heap.size + 1) w3 tv1 C1 := World.ownsRow.kept h.O1 hg (by
    cases e : tv1.ownBlock with
    | none => exact .inl rfl
    | some q => exact .inr (fun e2 => h.D q e2.symm e))
  refine ⟨_, tv1, hB3.setCell (p := ⟨Wl.heap.size, 0, none⟩) (Nat.le_refl _) _, by simp [World.setCell]; omega, heap_set4 h7, fun h => by simp at h, h.N1, ?_, ?_, ?_⟩
  · refine World.ownsRow.kept hO3 (grown_set _ _ _ _) (.inr (fun e => ?_))
    have := (World.ownsRow.lt hO3 g' rfl).1
    simp only [Value.ownBlock, Option.some.injEq] at e; omega
  · refine World.ownsRow.kept hO1 (grown_set _ _ _ _) ?_
    cases e : tv1.ownBlock with
    | none => exact .inl rfl
    | some q =>
      refine .inr (fun e2 => ?_)
      have := (World.ownsRow.lt hO1 q e).1
      simp only [Option.some.injEq] at e2; omega
  · intro q hq e
    simp only [Value.ownBlock, Option.some.injEq] at hq
    subst hq
    rcases hl with hl | hl
    · exact h.D _ hl e
    · have := (World.ownsRow.lt h.O1 g' e).2; omega
/-- One more cloth on the second day. -/
theorem tw_done1 {C0 C1 : List Ct} {Wl wa w3 : World} {rv0 rv1 tv0 tv1 : Value} {c : Ct} {g' n cap : Nat} (h : TwInv C0 C1 Wl rv0 rv1 tv0 tv1 wa) (hO3 : Owns encC 4 49 (Wl.heap.size + 1) w3 (.slice (some ⟨g', 0, none⟩) n cap) (C1 ++ [c]))
    (hb : Below (Wl.heap.size + 1) wa w3) (hg : wa.grownBy w3 tv1.ownBlock) (hl : tv1.ownBlock = some g' ∨ g' = wa.heap.size) :
    TwNext C0 (C1 ++ [c]) Wl rv0 rv1 (w3.setCell ⟨Wl.heap.size, 2, none⟩ (.slice (some ⟨g', 0, none⟩) n cap)) := by
  have h7 : w3.heap[Wl.heap.size]? = some (.cells #[tv0, rv0, tv1, rv1] 28 (0, 0)) := (hb.block _ (Nat.lt_succ_self _)).trans h.h
  have hlt := (Array.getElem?_eq_some_iff.1 h7).1
  have hB3 : Below Wl.heap.size Wl w3 := h.B.trans (hb.mono (Nat.le_succ _))
  have hO0 : Owns encC 4 49 (Wl.heap.size + 1) w3 tv0 C0 := World.ownsRow.kept h.O0 hg (by
    cases e : tv0.ownBlock with
    | none => exact .inl rfl
    | some q => exact .inr (fun e2 => h.D q e e2.symm))
  refine ⟨tv0, _, hB3.setCell (p := ⟨Wl.heap.size, 2, none⟩) (Nat.le_refl _) _, by simp [World.setCell]; omega, heap_set4 h7, h.N0, fun h => by simp at h, ?_, ?_, ?_⟩
  · refine World.ownsRow.kept hO0 (grown_set _ _ _ _) ?_
    cases e : tv0.ownBlock with
    | none => exact .inl rfl
    | some q =>
      refine .inr (fun e2 => ?_)
      have := (World.ownsRow.lt hO0 q e).1
      simp only [Option.some.injEq] at e2; omega
  · refine World.ownsRow.kept hO3 (grown_set _ _ _ _) (.inr (fun e => ?_))
    have := (World.ownsRow.lt hO3 g' rfl).1
    simp only [Value.ownBlock, Option.some.injEq] at e; omega
  · intro q hq e
    simp only [Value.ownBlock, Option.some.injEq] at e
    subst e
    rcases hl with hl | hl
    · exact h.D _ hq hl
    · have := (World.ownsRow.lt h.O0 g' hq).2; omega
end Go.Proofs.Ythkmklfmobenaaa
