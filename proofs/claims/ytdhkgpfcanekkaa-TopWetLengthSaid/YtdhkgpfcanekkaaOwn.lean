/- Slices that a call appends to: owned rows as lists; append as one step. -/
import Derived.Test.YtdhkgpfcanekkaaMa
import Derived.OwnWalk
import Derived.OwnWalkIn
namespace Go.Proofs.Ytdhkgpfcanekkaa
open Go Go.RowKit

theorem flatMap_get {α : Type} {enc : α → List Value} {sz : Nat} (he : ∀ x, (enc x).length = sz) : ∀ (xs : List α) (i : Nat) (x : α), xs[i]? = some x → ∀ j u, (enc x)[j]? = some u → (xs.flatMap enc)[i * sz + j]? = some u
  | [], i, x, h, _, _, _ => by simp at h
  | y :: ys, 0, x, h, j, u, hu => by
    simp only [List.getElem?_cons_zero, Option.some.injEq] at h; subst h
    have hj : j < (enc y).length := (List.getElem?_eq_some_iff.1 hu).1
    simp only [List.flatMap_cons, Nat.zero_mul, Nat.zero_add]
    rw [List.getElem?_append_left hj]; exact hu
  | y :: ys, i + 1, x, h, j, u, hu => by
    simp only [List.getElem?_cons_succ] at h
    simp only [List.flatMap_cons]
    rw [List.getElem?_append_right (by rw [he]; exact Nat.le_trans (Nat.le_mul_of_pos_left _ (by omega)) (Nat.le_add_right _ _))]
    rw [he, show (i + 1) * sz + j - sz = i * sz + j from by rw [Nat.add_mul]; omega]
    exact flatMap_get he ys i x h j u hu
theorem flatMap_len {α : Type} {enc : α → List Value} {sz : Nat} (he : ∀ x, (enc x).length = sz) (xs : List α) : (xs.flatMap enc).length = xs.length * sz := by
  induction xs with
  | nil => simp
  | cons y ys ih => simp only [List.flatMap_cons, List.length_append, he, ih, List.length_cons, Nat.add_mul]; omega

/-- The slice v lies in memory that the call has made from block number base on, and holds xs. -/
abbrev Owns {α : Type} (enc : α → List Value) (sz : Nat) (e : TypeId) (base : Nat) (w : World) (v : Value) (xs : List α) : Prop := w.ownsRow base e sz v xs.length (xs.flatMap enc)

theorem Owns.slice {α : Type} {enc : α → List Value} {sz : Nat} {e base : Nat} {w : World} {v : Value} {xs : List α} (h : Owns enc sz e base w v xs) (he : ∀ x, (enc x).length = sz) (hb : xs.length ≤ 140737488355328) : SliceOf enc sz w v xs := by
  obtain ⟨h1, h2⟩ := h
  rcases h2 with ⟨rfl, h0⟩ | ⟨g, cap, cur, rfl, hg, hh, r1, r2, r3, r4⟩
  · have : xs = [] := List.eq_nil_of_length_eq_zero h0
    subst this; exact SliceOf.nil _ _ _ _ _
  · refine ⟨some ⟨g, 0, none⟩, cap, rfl, hb, fun i x hx => ⟨g, 0, rfl, fun j u hu => ?_⟩⟩
    have hget := flatMap_get he xs i x hx j u hu
    rw [cell_of_row _ _ _ _ _ _ hh, Nat.zero_add, ← Array.getElem?_toList]
    rw [← r4, List.getElem?_take] at hget
    split at hget
    · exact hget
    · simp at hget
theorem Owns.nil {α : Type} (enc : α → List Value) (sz e base : Nat) (w : World) : Owns enc sz e base w (.slice none 0 0) [] := World.ownsRow_nil w base e sz
theorem Owns.kept {α : Type} {enc : α → List Value} {sz : Nat} {e base : Nat} {w w' : World} {v : Value} {xs : List α} (h : Owns enc sz e base w v xs) (hb : Below w.heap.size w w') : Owns enc sz e base w' v xs :=
  World.ownsRow.kept (row := none) h ⟨hb.os, hb.tape, hb.output, hb.size, fun k hk _ => hb.block k hk⟩ (by cases v.ownBlock <;> simp)
theorem Owns.len {α : Type} {enc : α → List Value} {sz : Nat} {e base : Nat} {w : World} {v : Value} {xs : List α} (h : Owns enc sz e base w v xs) : ∃ a cap, v = .slice a xs.length cap := by
  rcases h.2 with ⟨rfl, h0⟩ | ⟨g, cap, cur, rfl, _⟩
  · exact ⟨none, 0, by rw [h0]⟩
  · exact ⟨_, _, rfl⟩

section
variable {P : Program} {ops : Array Oper} {rest : List Oper} {o : Oper} {a : Act} {w : World} {Q : Exit → Act → World → Prop}

theorem below_of_own {α : Type} {enc : α → List Value} {sz e base : Nat} {v : Value} {xs : List α} (hown : Owns enc sz e base w v xs) (b3 : base ≤ w.heap.size) {w' : World} (hg : w.grownBy w' v.ownBlock) : Below base w w' :=
  (Below.refl base w).grown hg b3 (fun k hk => (hown.lt k hk).1)

/-- s = append(s, y) -/
theorem L_append1 {α : Type} {enc : α → List Value} {sz e base bytes : Nat} {i : TypeInfo} {z v : Value} {xs : List α} {g c : Nat} (y : α)
    (hg : o.guard = none) (s x : Operand) (t : TypeId) (hop : o.op = Op.call { callee := Callee.builtin Builtin.append, args := #[s, x], argTypes := #[t, t] })
    (h1 : P.underlying t = some (.slice e)) (h2 : P.info? e = some i) (h3 : i.zero = some z) (h4 : i.size = sz) (h5 : i.bytes = bytes) (h6 : z.cells.size = sz) (h7 : 0 < sz)
    (he : ∀ x, (enc x).length = sz) (h1c : ∀ u ∈ enc y, u.oneCell' = true)
    (hs : a.eval s = v) (hx : a.eval x = .slice (some ⟨g, 0, none⟩) 1 c) (hown : Owns enc sz e base w v xs) (hc : ∀ j u, (enc y)[j]? = some u → w.cell? ⟨g, j, none⟩ = some u)
    (b2 : xs.length + 1 ≤ maxLen ∧ (xs.length + 1) * bytes ≤ 140737488355328) (b3 : base ≤ w.heap.size)
    (hK : ∀ v' w', Owns enc sz e base w' v' (xs ++ [y]) → Below base w w' → w.grownBy w' v.ownBlock → wpList P ops Q rest (a.put o.dst v') w') : wpList P ops Q (o :: rest) a w := by
  refine wpList_append_own w hg s x t hop base e i z sz bytes h1 h2 h3 h4 h5 h6 h7 v xs.length (xs.flatMap enc) hs hown ⟨g, 0, none⟩ 1 c (enc y) hx (by rw [he]; omega) (fun j u hu => ?_) h1c b2.1 b2.2 b3 (fun v' w' r1 r2 _ => ?_)
  · have hadd : (⟨g, 0, none⟩ : Addr).add j = ⟨g, j, none⟩ := by unfold Addr.add; split <;> simp_all
    rw [hadd]; exact hc j u hu
  · refine hK v' w' ?_ (below_of_own hown b3 r2) r2
    show w'.ownsRow base e sz v' (xs ++ [y]).length ((xs ++ [y]).flatMap enc)
    simpa using r1
theorem LI_append1 {F : Fence} {n : Nat} {α : Type} {enc : α → List Value} {sz e base bytes : Nat} {i : TypeInfo} {z v : Value} {xs : List α} {g c : Nat} (y : α)
    (hg : o.guard = none) (s x : Operand) (t : TypeId) (hop : o.op = Op.call { callee := Callee.builtin Builtin.append, args := #[s, x], argTypes := #[t, t] })
    (h1 : P.underlying t = some (.slice e)) (h2 : P.info? e = some i) (h3 : i.zero = some z) (h4 : i.size = sz) (h5 : i.bytes = bytes) (h6 : z.cells.size = sz) (h7 : 0 < sz)
    (he : ∀ x, (enc x).length = sz) (h1c : ∀ u ∈ enc y, u.oneCell' = true)
    (hs : a.eval s = v) (hx : a.eval x = .slice (some ⟨g, 0, none⟩) 1 c) (hown : Owns enc sz e base w v xs) (hc : ∀ j u, (enc y)[j]? = some u → w.cell? ⟨g, j, none⟩ = some u)
    (b2 : xs.length + 1 ≤ maxLen ∧ (xs.length + 1) * bytes ≤ 140737488355328) (b3 : base ≤ w.heap.size)
    (hK : ∀ v' w', Owns enc sz e base w' v' (xs ++ [y]) → Below base w w' → w.grownBy w' v.ownBlock → wpListIn F n P ops Q rest (a.put o.dst v') w') : wpListIn F n P ops Q (o :: rest) a w := by
  refine wpListIn_append_own w hg s x t hop base e i z sz bytes h1 h2 h3 h4 h5 h6 h7 v xs.length (xs.flatMap enc) hs hown ⟨g, 0, none⟩ 1 c (enc y) hx (by rw [he]; omega) (fun j u hu => ?_) h1c b2.1 b2.2 b3 (fun v' w' r1 r2 _ => ?_)
  · have hadd : (⟨g, 0, none⟩ : Addr).add j = ⟨g, j, none⟩ := by unfold Addr.add; split <;> simp_all
    rw [hadd]; exact hc j u hu
  · refine hK v' w' ?_ (below_of_own hown b3 r2) r2
    show w'.ownsRow base e sz v' (xs ++ [y]).length ((xs ++ [y]).flatMap enc)
    simpa using r1
end

theorem encI_len (n : Int) : (encI n).length = 1 := rfl
theorem encI_one (n : Int) : ∀ u ∈ encI n, u.oneCell' = true := by intro u hu; simp [encI] at hu; subst hu; rfl
theorem encI_cell {w : World} {g : Nat} {y : Int} (h : w.cell? ⟨g, 0, none⟩ = some (iv y)) : ∀ j u, (encI y)[j]? = some u → w.cell? ⟨g, j, none⟩ = some u := by
  intro j u hu
  rcases j with _ | j
  · simp [encI] at hu; subst hu; exact h
  · simp [encI] at hu
theorem info3 : (Try.prog.info? 3).map (fun i => (i.zero, i.size, i.bytes)) = some (some (.int .i64 0), 1, 8) := by kernel_rfl
end Go.Proofs.Ytdhkgpfcanekkaa
