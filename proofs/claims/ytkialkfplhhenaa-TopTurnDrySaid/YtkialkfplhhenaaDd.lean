/- TopTurnDry: a day and a field's cloths that are being made. -/
import Derived.Test.YtkialkfplhhenaaDb
import Derived.Test.YtkialkfplhhenaaSj
namespace Go.Proofs.Ytkialkfplhhenaa
open Go Go.RowKit Go.Shelf

section
variable {P : Program} {ops : Array Oper} {o : Oper} {a : Act} {w : World} {Q : Exit → Act → World → Prop}
/-- s = append(s, y) at a step of a drawn region; and where the new list lies. -/
theorem S_append2D {α : Type} {enc : α → List Value} {sz e base bytes : Nat} {i : TypeInfo} {z v : Value} {xs : List α} {g c : Nat} {K : Act → World → Prop} {E : Prop} (y : α)
    (hg : o.guard = none) (s x : Operand) (t : TypeId) (hop : o.op = Op.call { callee := Callee.builtin Builtin.append, args := #[s, x], argTypes := #[t, t] })
    (h1 : P.underlying t = some (.slice e)) (h2 : P.info? e = some i) (h3 : i.zero = some z) (h4 : i.size = sz) (h5 : i.bytes = bytes) (h6 : z.cells.size = sz) (h7 : 0 < sz)
    (he : ∀ x, (enc x).length = sz) (h1c : ∀ u ∈ enc y, u.oneCell' = true)
    (hs : a.eval s = v) (hx : a.eval x = .slice (some ⟨g, 0, none⟩) 1 c) (hown : Owns enc sz e base w v xs) (hc : ∀ j u, (enc y)[j]? = some u → w.cell? ⟨g, j, none⟩ = some u)
    (b2 : xs.length + 1 ≤ maxLen ∧ (xs.length + 1) * bytes ≤ 140737488355328) (b3 : base ≤ w.heap.size)
    (hK : ∀ g' cap w', Owns enc sz e base w' (.slice (some ⟨g', 0, none⟩) (xs.length + 1) cap) (xs ++ [y]) → Below base w w' → w.grownBy w' v.ownBlock → (v.ownBlock = some g' ∨ g' = w.heap.size) → K (a.put o.dst (.slice (some ⟨g', 0, none⟩) (xs.length + 1) cap)) w') :
    if Region.wanted o (yielded ops a.tmps) = true then Oper.wp P o a w K Q else E := by
  refine step_append_lies w hg s x t hop base e i z sz bytes h1 h2 h3 h4 h5 h6 h7 v xs.length (xs.flatMap enc) hs hown ⟨g, 0, none⟩ 1 c (enc y) hx (by rw [he]; omega) (fun j u hu => ?_) h1c (by omega) b2.1 b2.2 b3 w.heap.size rfl (fun g' cap w' r1 r2 r3 _ => ?_)
  · have hadd : (⟨g, 0, none⟩ : Addr).add j = ⟨g, j, none⟩ := by unfold Addr.add; split <;> simp_all
    rw [hadd]; exact hc j u hu
  · refine hK g' cap w' ?_ (below_of_own hown b3 r2) r2 r3
    show w'.ownsRow base e sz _ (xs ++ [y]).length ((xs ++ [y]).flatMap enc)
    simpa using r1
end
theorem infoCD : (Try.prog.info? 39).map (fun i => (i.zero, i.size, i.bytes)) = some (some (.agg #[.int .i64 0, .int .i64 0, .int .i64 0, .int .i64 0]), 4, 32) := by kernel_rfl
structure TdInv (C : List Ct) (T : List Tn) (W0 : World) (rv cv wv : Value) (wr : World) : Prop where
  B : Below W0.heap.size W0 wr
  S : W0.heap.size + 1 + 1 ≤ wr.heap.size
  h : wr.heap[W0.heap.size + 1]? = some (.cells #[cv, rv] 32 (0, 0))
  N : C = [] → cv = .slice none 0 0
  O0 : Owns encC 4 39 (W0.heap.size + 1 + 1) wr cv C
  O1 : Owns encN 4 41 W0.heap.size wr wv T
  D0 : ∀ g, cv.ownBlock = some g → wv.ownBlock ≠ some g
  D1 : wv.ownBlock ≠ some (W0.heap.size + 1)
  V : ∃ g c, wv = .slice (some ⟨g, 0, none⟩) T.length c
section
variable {C : List Ct} {T : List Tn} {W0 wr wa w3 w' : World} {rv cv wv : Value} {c : Ct} {t : Tn} {g' n cap : Nat}
theorem TdInv.below (h : TdInv C T W0 rv cv wv wr) (hb : Below wr.heap.size wr w') : TdInv C T W0 rv cv wv w' :=
  ⟨h.B.trans (hb.mono (Nat.le_trans (by omega) h.S)), Nat.le_trans h.S hb.size, bblkG hb h.h, h.N, h.O0.kept hb, h.O1.kept hb, h.D0, h.D1, h.V⟩
theorem TdInv.s0 (h : TdInv C T W0 rv cv wv wr) : W0.heap.size ≤ wr.heap.size := Nat.le_trans (by omega) h.S
theorem TdInv.c0 (h : TdInv C T W0 rv cv wv wr) : wr.cell? ⟨W0.heap.size + 1, 0, none⟩ = some cv := by rw [cell_of_row _ _ _ _ _ _ h.h]; rfl
theorem TdInv.c1 (h : TdInv C T W0 rv cv wv wr) : wr.cell? ⟨W0.heap.size + 1, 1, none⟩ = some rv := by rw [cell_of_row _ _ _ _ _ _ h.h]; rfl
theorem TdInv.f0 (h : TdInv C T W0 rv cv wv wr) : wr.frozen? ⟨W0.heap.size + 1, 0, none⟩ = false := by unfold World.frozen?; rw [h.h]; rfl
theorem heap_setD2 {W : World} {b i : Nat} {x0 x1 u : Value} {t : TypeId} (h : W.heap[b]? = some (.cells #[x0, x1] t (0, 0))) : (W.setCell ⟨b, i, none⟩ u).heap[b]? = some (.cells (#[x0, x1].setIfInBounds i u) t (0, 0)) :=
  heap_setCell_same W b i #[x0, x1] t u h
theorem grown_setD (W : World) (b i : Nat) (u : Value) : W.grownBy (W.setCell ⟨b, i, none⟩ u) (some b) :=
  ⟨rfl, rfl, rfl, by simp [World.setCell], fun k hk hne => Below.heap_setCell _ _ _ _ (fun e => hne (by rw [e]))⟩
/-- The two lists at their start. -/
theorem TdInv.start {W0 : World} {ra rc : Nat} : TdInv [] [] W0 (.slice (some ⟨ra, 0, none⟩) 2 rc) (.slice none 0 0) (.slice (some ⟨W0.heap.size, 0, none⟩) 0 0) ((W0.alloc (.cells #[] 41)).alloc (.cells #[.slice none 0 0, .slice (some ⟨ra, 0, none⟩) 2 rc] 32)) := by
  refine ⟨bpush (bpush (Below.refl _ _) _) _, by simp, ?_, fun _ => rfl, Owns.nil _ _ _ _ _, ?_, by simp [Value.ownBlock], by simp [Value.ownBlock], _, 0, rfl⟩
  · have := heap_new (W0.alloc (.cells #[] 41)) #[.slice none 0 0, .slice (some ⟨ra, 0, none⟩) 2 rc] 32
    rwa [World.size_alloc] at this
  · exact (owns_empty encN 4 41 W0.heap.size W0 (Nat.le_refl _)).kept (bpush (Below.refl _ _) _)
/-- One more cloth of the day. -/
theorem TdInv.more0 (h : TdInv C T W0 rv cv wv wa) (hO3 : Owns encC 4 39 (W0.heap.size + 1 + 1) w3 (.slice (some ⟨g', 0, none⟩) n cap) (C ++ [c]))
    (hb : Below (W0.heap.size + 1 + 1) wa w3) (hg : wa.grownBy w3 cv.ownBlock) (hl : cv.ownBlock = some g' ∨ g' = wa.heap.size) :
    TdInv (C ++ [c]) T W0 rv (.slice (some ⟨g', 0, none⟩) n cap) wv (w3.setCell ⟨W0.heap.size + 1, 0, none⟩ (.slice (some ⟨g', 0, none⟩) n cap)) := by
  have h7 : w3.heap[W0.heap.size + 1]? = some (.cells #[cv, rv] 32 (0, 0)) := (hb.block _ (Nat.lt_succ_self _)).trans h.h
  have hlt := (Array.getElem?_eq_some_iff.1 h7).1
  have hB3 : Below W0.heap.size W0 w3 := h.B.trans (hb.mono (by omega))
  have hO1 : Owns encN 4 41 W0.heap.size w3 wv T := World.ownsRow.kept h.O1 hg (by
    cases e : wv.ownBlock with
    | none => exact .inl rfl
    | some q => exact .inr (fun e2 => h.D0 q e2.symm e))
  have hs := h.S
  have hs3 := hb.size
  refine ⟨hB3.setCell (p := ⟨W0.heap.size + 1, 0, none⟩) (Nat.le_succ _) _, by simp [World.setCell]; omega, heap_setD2 h7, fun h => by simp at h, ?_, ?_, ?_, h.D1, h.V⟩
  · refine World.ownsRow.kept hO3 (grown_setD _ _ _ _) (.inr (fun e => ?_))
    have := (World.ownsRow.lt hO3 g' rfl).1
    simp only [Value.ownBlock, Option.some.injEq] at e; omega
  · refine World.ownsRow.kept hO1 (grown_setD _ _ _ _) ?_
    cases e : wv.ownBlock with
    | none => exact .inl rfl
    | some q => exact .inr (fun e2 => h.D1 (by rw [e]; exact e2))
  · intro q hq e
    simp only [Value.ownBlock, Option.some.injEq] at hq
    subst hq
    rcases hl with hl | hl
    · exact h.D0 _ hl e
    · have := (World.ownsRow.lt h.O1 g' e).2; omega
/-- One more cloth of the field. -/
theorem TdInv.more1 (h : TdInv C T W0 rv cv wv wa) (hO3 : Owns encN 4 41 W0.heap.size w3 (.slice (some ⟨g', 0, none⟩) n cap) (T ++ [t]))
    (hb : Below W0.heap.size wa w3) (hg : wa.grownBy w3 wv.ownBlock) (hl : wv.ownBlock = some g' ∨ g' = wa.heap.size) (hn : n = T.length + 1) :
    TdInv C (T ++ [t]) W0 rv cv (.slice (some ⟨g', 0, none⟩) n cap) w3 := by
  have hs := h.S
  have hs3 := hb.size
  have h7 : w3.heap[W0.heap.size + 1]? = some (.cells #[cv, rv] 32 (0, 0)) := (hg.block _ (by omega) (fun e => h.D1 e.symm)).trans h.h
  refine ⟨h.B.trans hb, by omega, h7, h.N, World.ownsRow.kept h.O0 hg ?_, hO3, ?_, ?_, g', cap, by rw [hn]; simp⟩
  · cases e : cv.ownBlock with
    | none => exact .inl rfl
    | some q => exact .inr (fun e2 => h.D0 q e e2.symm)
  · intro q hq e
    simp only [Value.ownBlock, Option.some.injEq] at e
    subst e
    rcases hl with hl | hl
    · exact h.D0 _ hq hl
    · have := (World.ownsRow.lt h.O0 g' hq).2; omega
  · intro e
    simp only [Value.ownBlock, Option.some.injEq] at e
    rcases hl with hl | hl
    · exact h.D1 (by rw [hl, e])
    · omega
end
end Go.Proofs.Ytkialkfplhhenaa
