/- An append inside a range over a function: where the list lies then, and what holds between two rounds. -/
import Derived.Test.YtdhkgpfcanekkaaOwn
import Derived.Test.YtdhkgpfcanekkaaPos
namespace Go.Proofs.Ytdhkgpfcanekkaa
open Go Go.RowKit Go.Shelf
attribute [local go_sem] Oper.semAt_some

theorem append_block {P : Program} {w w' : World} {base : Nat} {t ty e : TypeId} {i : TypeInfo} {z v v' : Value} {n : Nat} {xs : List Value} (ht : P.underlying t = some (.slice e)) (hi : P.info? e = some i) (hz : i.zero = some z)
    (hown : w.ownsRow base e i.size v n xs) {a : Addr} {m c : Nat} {news : List Value} (hl : news.length = m * i.size) (hnews : ∀ j u, news[j]? = some u → w.cell? (a.add j) = some u) (h1 : ∀ u ∈ news, u.oneCell' = true) (hm : 0 < m)
    (h63 : n + m ≤ maxLen) (hbytes : (n + m) * i.bytes ≤ 140737488355328) (hrun : (Builtin.append_ #[t, t] ty #[v, .slice (some a) m c]).run P w = .ok v' w') :
    v'.ownBlock = v.ownBlock ∨ v'.ownBlock = some w.heap.size := by
  have hsmall : n + m ≤ 9223372036854775807 := by simp only [maxLen] at h63; omega
  have hown' := hown
  rcases hown.2 with ⟨rfl, rfl⟩ | ⟨g, cap, cur, rfl, hbg, hg, hnc, hcm, hcs, htake⟩
  · rw [run_append_nil (P := P) w t ty e i z ht hi hz a m c news hl hnews (by omega) (by omega) (by have hb := hbytes; simp only [Nat.zero_add] at hb; omega)] at hrun
    simp only [Result.ok.injEq] at hrun
    rw [← hrun.1]; exact .inr rfl
  · by_cases hroom : n + m ≤ cap
    · have hfit : n * i.size + news.length ≤ cur.size := by rw [hl, hcs, ← Nat.add_mul]; exact Nat.mul_le_mul_right _ hroom
      rw [run_append_room (P := P) w t ty e i ht hi g n cap cur hg a m c news hl hnews h1 hroom hfit] at hrun
      simp only [Result.ok.injEq] at hrun
      rw [← hrun.1]; exact .inl rfl
    · have holds : ∀ j u, xs[j]? = some u → w.cell? ((⟨g, 0, none⟩ : Addr).add j) = some u := hown'.cells (g := g) rfl
      rw [run_append_grow (P := P) w t ty e i z ht hi hz ⟨g, 0, none⟩ n cap xs hown'.1 holds a m c news hl hnews (by omega) (by omega) (growslice_fits (by omega) hbytes)] at hrun
      simp only [Result.ok.injEq] at hrun
      rw [← hrun.1]; exact .inr rfl

/-- s = append(s, y), and where the list lies then. -/
theorem LI_appendB {P : Program} {F : Fence} {n : Nat} {ops : Array Oper} {rest : List Oper} {o : Oper} {a : Act} {w : World} {Q : Exit → Act → World → Prop} {α : Type} {enc : α → List Value} {sz e base bytes : Nat} {i : TypeInfo} {z v : Value} {xs : List α} {g c : Nat} (y : α)
    (hg : o.guard = none) (s x : Operand) (t : TypeId) (hop : o.op = Op.call { callee := Callee.builtin Builtin.append, args := #[s, x], argTypes := #[t, t] })
    (h1 : P.underlying t = some (.slice e)) (h2 : P.info? e = some i) (h3 : i.zero = some z) (h4 : i.size = sz) (h5 : i.bytes = bytes) (h6 : z.cells.size = sz) (h7 : 0 < sz)
    (he : ∀ x, (enc x).length = sz) (h1c : ∀ u ∈ enc y, u.oneCell' = true)
    (hs : a.eval s = v) (hx : a.eval x = .slice (some ⟨g, 0, none⟩) 1 c) (hown : Owns enc sz e base w v xs) (hc : ∀ j u, (enc y)[j]? = some u → w.cell? ⟨g, j, none⟩ = some u)
    (b2 : xs.length + 1 ≤ maxLen ∧ (xs.length + 1) * bytes ≤ 140737488355328) (b3 : base ≤ w.heap.size)
    (hK : ∀ v' w', Owns enc sz e base w' v' (xs ++ [y]) → w.grownBy w' v.ownBlock → (v'.ownBlock = v.ownBlock ∨ v'.ownBlock = some w.heap.size) → wpListIn F n P ops Q rest (a.put o.dst v') w') : wpListIn F n P ops Q (o :: rest) a w := by
  have hadd : ∀ j, (⟨g, 0, none⟩ : Addr).add j = ⟨g, j, none⟩ := fun j => by unfold Addr.add; split <;> simp_all
  have hc' : ∀ j u, (enc y)[j]? = some u → w.cell? ((⟨g, 0, none⟩ : Addr).add j) = some u := fun j u hu => by rw [hadd]; exact hc j u hu
  refine wpListIn_plain hg fun K hK' => ?_
  obtain ⟨v', w', hrun, r1, r2, r3⟩ := run_append_own (P := P) w base t o.type e i z sz bytes h1 h2 h3 h4 h5 h6 h7 v xs.length (xs.flatMap enc) hown ⟨g, 0, none⟩ 1 c (enc y) (by rw [he]; omega) hc' h1c b2.1 b2.2 b3
  have hb := append_block (ty := o.type) h1 h2 h3 (by rw [h4]; exact hown) (m := 1) (news := enc y) (by rw [he, h4]; omega) hc' h1c (by omega) b2.1 (by rw [h5]; exact b2.2) hrun
  have ho : Owns enc sz e base w' v' (xs ++ [y]) := by
    show w'.ownsRow base e sz v' (xs ++ [y]).length ((xs ++ [y]).flatMap enc)
    simpa using r1
  unfold Oper.wpIn
  refine ⟨?_, ?_⟩
  · simp [Oper.about, hop, resolve, Target.leads, Sem.run_pure]
  · rw [Oper.semAt_plain F _ _ (by rw [hop]; intro c hc'; cases hc')]
    simp [execOp, hop, resolve, invoke, builtin, hs, hx, hrun, Result.andThen]
    exact hK' _ _ (hK v' w' ho r2 hb)

theorem cset_eq' {W : World} {b : Nat} {v u : Value} (h : W.cell? ⟨b, 0, none⟩ = some u) : (W.setCell ⟨b, 0, none⟩ v).cell? ⟨b, 0, none⟩ = some v := World.cell?_setCell_same' _ _ _ (by rw [h]; rfl)
theorem Owns.turn {α : Type} {enc : α → List Value} {sz : Nat} {e base : Nat} {w w' : World} {v : Value} {xs : List α} {T : Nat → Prop} (h : Owns enc sz e base w v xs) (ht : Turn T w w') (hn : ∀ g, v.ownBlock = some g → ¬ T g) : Owns enc sz e base w' v xs := by
  rcases h.2 with ⟨h0, h1⟩ | ⟨g, cap, cur, rfl, hg, hb, hr⟩
  · exact ⟨h.1, .inl ⟨h0, h1⟩⟩
  · exact ⟨h.1, .inr ⟨g, cap, cur, rfl, hg, (ht.same g (Array.getElem?_eq_some_iff.1 hb).1 (hn g rfl)).trans hb, hr⟩⟩
/-- A list is being gathered in block b, by a call that began at block w0; the loop began in world wl. -/
structure QInv {α : Type} (enc : α → List Value) (sz e w0 b : Nat) (wl wz : World) (T : Nat → Prop) (s : List α) (W : World) : Prop where
  below : Below w0 wz W
  low : ∀ k, k < wl.heap.size → k ≠ b → W.heap[k]? = wl.heap[k]?
  fz : W.frozen? ⟨b, 0, none⟩ = false
  best : ∃ v, W.cell? ⟨b, 0, none⟩ = some v ∧ Owns enc sz e wl.heap.size W v s ∧ ∀ g, v.ownBlock = some g → ¬ T g
theorem QInv.stable {α : Type} {enc : α → List Value} {sz e w0 b : Nat} {wl wz : World} (h0 : w0 ≤ b) (h1 : b < wl.heap.size) (s : List α) : Stable wl.heap.size (fun T => QInv enc sz e w0 b wl wz T s) := by
  refine ⟨fun T T' W ⟨a1, a2, a3, v, a5, a6, a7⟩ hT => ⟨a1, a2, a3, v, a5, a6, fun g hg ht => ?_⟩, fun T W W' hT hB ⟨a1, a2, a3, v, a5, a6, a7⟩ ht => ?_⟩
  · rcases hT g ht with h | h
    · exact a7 g hg h
    · have := (World.ownsRow.lt a6 g hg).2
      omega
  · have hb := ht.below hT hB
    exact ⟨a1.trans (hb.mono (by omega)), fun k hk hn => (hb.block k hk).trans (a2 k hk hn), low_frozen hb h1 a3, v, low_cell hb h1 a5, a6.turn ht a7, a7⟩
theorem grown_keep {W W3 : World} {ob : Obj} {r : Option Nat} {b : Nat} (hg : (W.alloc ob).grownBy W3 r) (hb : b < W.heap.size) (hne : ∀ g, r = some g → b + 1 ≤ g) : W3.heap[b]? = W.heap[b]? :=
  (hg.block b (by simp; omega) (fun e => by have := hne b e.symm; omega)).trans (Below.heap_alloc _ _ _ hb)
/-- What an append leaves: only the list's own block has changed. -/
theorem QInv.next {α : Type} {enc : α → List Value} {sz e w0 b : Nat} {wl wz W W3 : World} {T : Nat → Prop} {s : List α} {y : α} {v v' : Value} {ob : Obj} (h0 : w0 ≤ b) (hbB : b < wl.heap.size) (hBW : wl.heap.size ≤ W.heap.size) (hTl : ∀ k, T k → wl.heap.size ≤ k) (hTs : ∀ k, T k → k < W.heap.size)
    (hQ : QInv enc sz e w0 b wl wz T s W) (hcv : W.cell? ⟨b, 0, none⟩ = some v) (ho : Owns enc sz e wl.heap.size W v s) (hn : ∀ g, v.ownBlock = some g → ¬ T g)
    (h3 : Owns enc sz e wl.heap.size W3 v' (s ++ [y])) (hg : (W.alloc ob).grownBy W3 v.ownBlock) (hb : v'.ownBlock = v.ownBlock ∨ v'.ownBlock = some (W.alloc ob).heap.size) :
    QInv enc sz e w0 b wl wz T (s ++ [y]) (W3.setCell ⟨b, 0, none⟩ v') ∧ ∀ (S : Nat → Prop), (∀ k, S k → k < wl.heap.size ∧ k ≠ b) → SameOn (both S T) W (W3.setCell ⟨b, 0, none⟩ v') := by
  have hB := hQ.below
  have hfz := hQ.fz
  have hbl : b < W.heap.size := lt_of_cell hcv
  have hob : ∀ g, v.ownBlock = some g → wl.heap.size ≤ g := fun g hg' => (World.ownsRow.lt ho g hg').1
  have hsame : ∀ k, k < W.heap.size → some k ≠ v.ownBlock → W3.heap[k]? = W.heap[k]? := fun k hk hne => (hg.block k (by simp; omega) hne).trans (Below.heap_alloc _ _ _ hk)
  have hbne : some b ≠ v.ownBlock := fun e => by have := hob b e.symm; omega
  have hcb : W3.cell? ⟨b, 0, none⟩ = some v := (World.cell?_of_block (hsame b hbl hbne)).trans hcv
  have hsz : W.heap.size ≤ W3.heap.size := by have := hg.size; simp at this; omega
  refine ⟨⟨?_, fun k hk hkb => ?_, ?_, v', cset_eq' hcb, ?_, ?_⟩, fun S hS => ⟨by simpa [World.setCell] using hsz, fun k hk => ?_⟩⟩
  · have h1 : Below w0 W W3 := ⟨hg.os, hg.tape, hg.output, hsz, fun k hk => by
      by_cases hk2 : k < W.heap.size
      · exact hsame k hk2 (fun e => by have := hob k e.symm; omega)
      · have := hB.size; omega⟩
    exact (hB.trans h1).setCell h0 _
  · exact (Below.heap_setCell _ _ _ _ hkb).trans ((hsame k (by omega) (fun e => by have := hob k e.symm; omega)).trans (hQ.low k hk hkb))
  · rw [World.frozen?_setCell, World.frozen?_of_block (hsame b hbl hbne)]; exact hfz
  · refine World.ownsRow.kept (row := some b) h3 ⟨rfl, rfl, rfl, by simp [World.setCell], fun k hk hne => Below.heap_setCell _ _ _ _ (fun e => hne (by rw [e]))⟩ ?_
    cases hv : v'.ownBlock with
    | none => exact .inl rfl
    | some q =>
      have := (World.ownsRow.lt h3 q hv).1
      refine .inr (fun e => ?_)
      simp only [Option.some.injEq] at e; omega
  · intro g hg' ht
    rcases hb with h | h
    · rw [h] at hg'; exact hn g hg' ht
    · rw [h] at hg'
      simp only [Option.some.injEq] at hg'
      have := hTs g ht
      simp at hg'; omega
  · have hkb : k ≠ b := by
      rcases hk with h | h
      · exact (hS k h).2
      · have := hTl k h; omega
    have hkl : k < W.heap.size := by
      rcases hk with h | h
      · have := (hS k h).1; omega
      · exact hTs k h
    refine (Below.heap_setCell _ _ _ _ hkb).trans (hsame k hkl (fun e => ?_))
    rcases hk with h | h
    · have := (hS k h).1; have := hob k e.symm; omega
    · exact hn k e.symm h
/-- When the loop's record becomes busy the list stays as it is. -/
theorem QInv.bump {α : Type} {enc : α → List Value} {sz e w0 b : Nat} {wl wz W W2 : World} {T : Nat → Prop} {s : List α} (h0 : w0 ≤ b) (hb : b < wl.heap.size) (hBW : wl.heap.size ≤ W.heap.size) (hTl : ∀ k, T k → wl.heap.size ≤ k) (h : QInv enc sz e w0 b wl wz T s W) (ht : Turn T W W2) : QInv enc sz e w0 b wl wz T s W2 :=
  (QInv.stable h0 hb s).turn T W W2 hTl hBW h ht

end Go.Proofs.Ytdhkgpfcanekkaa
