/- Mixes: lists of pounds, and an append to a list that is full. -/
import Derived.Test.YtfdahmdehmhllaaJa
import Derived.Test.YtfdahmdehmhllaaOwn
namespace Go.Proofs.Ytfdahmdehmhllaa
open Go Go.RowKit Go.Shelf

/-- A sort of a store. -/
structure So where
  (tl th pr st ha : Int)
def encSo (s : So) : List Value := [iv s.tl, iv s.th, iv s.pr, iv s.st, iv s.ha]
/-- The numbers of pounds of a sort. -/
def upto (h : Int) : List Int := (List.range (h + 1).toNat).map fun i : Nat => (i : Int)
/-- The mixes of the first k sorts of a store: the smaller lists first. -/
def mxs (L : List So) : Nat → List (List Int)
  | 0 => [[]]
  | k + 1 => (mxs L k).flatMap fun m => (upto (L.getD k ⟨0, 0, 0, 0, 0⟩).ha).map fun p => m ++ [p]
theorem mxs_len (L : List So) : ∀ k, ∀ m ∈ mxs L k, m.length = k
  | 0, m, h => by simp [mxs] at h; subst h; rfl
  | k + 1, m, h => by
    simp only [mxs, List.mem_flatMap, List.mem_map] at h
    obtain ⟨m', hm', p, -, rfl⟩ := h
    simp [mxs_len L k m' hm']
theorem flatMap_snoc {α β : Type} (f : α → List β) (l : List α) (x : α) : (l ++ [x]).flatMap f = l.flatMap f ++ f x := by simp
theorem upto_take {h : Int} {p : Nat} (hp : p < (h + 1).toNat) : (upto h).take (p + 1) = (upto h).take p ++ [(p : Int)] := by
  unfold upto
  rw [List.take_add_one]
  simp [hp]
theorem prefix_mid {α β : Type} (f : α → List β) {pre xs : List α} {x : α} (h : (pre ++ [x]) <+: xs) {a : List β} (hab : a <+: f x) : pre.flatMap f ++ a <+: xs.flatMap f := by
  obtain ⟨t, rfl⟩ := h
  obtain ⟨u, hu⟩ := hab
  refine ⟨u ++ t.flatMap f, ?_⟩
  simp [List.flatMap_append, ← hu]
theorem SliceOf.takeJ {α : Type} {enc : α → List Value} {sz : Nat} {w : World} {a : Option Addr} {l c n : Nat} {xs : List α} (h : SliceOf enc sz w (.slice a l c) xs) (hn : n ≤ xs.length) : SliceOf enc sz w (.slice a n c) (xs.take n) := by
  obtain ⟨a', c', hv, hl, hc⟩ := h
  simp only [Value.slice.injEq] at hv
  obtain ⟨rfl, -, rfl⟩ := hv
  have e : (xs.take n).length = n := by rw [List.length_take]; omega
  refine ⟨a, c, by rw [e], by omega, fun i x hx => ?_⟩
  rw [List.getElem?_take] at hx
  split at hx
  · exact hc i x hx
  · cases hx
/-- A mix that is yielded lies in a block of its own. -/
def MixV (B : Nat) (T : Nat → Prop) (m : List Int) (vs : Array Value) (W : World) : Prop :=
  ∃ v, vs = #[v] ∧ Owns encI 1 3 B W v m ∧ ∀ g, v.ownBlock = some g → ¬ T g
theorem own_one {v : Value} {g : Nat} : own #[v] g ↔ v.ownBlock = some g := by simp [own]
theorem MixV.mono (B : Nat) (T T' : Nat → Prop) (m : List Int) (vs : Array Value) (W : World) (h : MixV (B + 2) T m vs W) (ht : ∀ k, T' k → T k ∨ k < B + 2) : MixV B T' m vs W := by
  obtain ⟨v, rfl, ho, hn⟩ := h
  refine ⟨v, rfl, ⟨ho.1, ?_⟩, fun g hg hT => ?_⟩
  · rcases ho.2 with h | ⟨g, cap, cur, h1, h2, h3⟩
    · exact .inl h
    · exact .inr ⟨g, cap, cur, h1, by omega, h3⟩
  · rcases ht g hT with h | h
    · exact hn g hg h
    · have := (World.ownsRow.lt ho g hg).1; omega
theorem flatJ : ∀ l : List Int, l.flatMap encI = l.map iv
  | [] => rfl
  | a :: l => by rw [List.flatMap_cons, flatJ l]; rfl
theorem infoJ : (Try.prog.info? 3).map (fun i => (i.zero, i.size, i.bytes)) = some (some (.int .i64 0), 1, 8) := by kernel_rfl
theorem run_appendC {w : World} {xs : List Int} {y : Int} {v : Value} {ty g c : Nat} (hv : Ints w v xs) (hf : ∃ ad, v = .slice ad xs.length xs.length) (hc : w.cell? ⟨g, 0, none⟩ = some (iv y)) (hb : xs.length + 1 ≤ 1000000) :
    ∃ cap w', (Builtin.append_ #[49, 49] ty #[v, .slice (some ⟨g, 0, none⟩) 1 c]).run Try.prog w = .ok (.slice (some ⟨w.heap.size, 0, none⟩) (xs.length + 1) cap) w' ∧ Owns encI 1 3 w.heap.size w' (.slice (some ⟨w.heap.size, 0, none⟩) (xs.length + 1) cap) (xs ++ [y]) ∧ Below w.heap.size w w' := by
  obtain ⟨i, hi, hz, hs, hy⟩ := info_parts infoJ
  have hfl : ∀ l : List Int, (l.flatMap encI).length = l.length := fun l => by rw [flatMap_len encI_len]; omega
  have hnews : ∀ j u, ([iv y] : List Value)[j]? = some u → w.cell? ((⟨g, 0, none⟩ : Addr).add j) = some u := by
    intro j u hu
    rcases j with _ | j
    · simp at hu; subst hu; exact hc
    · simp at hu
  have fin : ∀ (old : Nat), old < xs.length + 1 → (w.drew.alloc (.cells ((xs.flatMap encI).toArray ++ ([iv y] : List Value).toArray ++ Builtin.zeroCells (Value.cells (.int .i64 0)) (grownCap w (xs.length + 1) old 3 - (xs.length + 1))) 3)).ownsRow w.heap.size 3 1 (.slice (some ⟨w.heap.size, 0, none⟩) (xs.length + 1) (grownCap w (xs.length + 1) old 3)) (xs.length + 1) (xs.flatMap encI ++ [iv y]) := by
    intro old ho
    have hge := grownCap_ge w (xs.length + 1) old 3
    have hcm : grownCap w (xs.length + 1) old 3 ≤ maxLen := grownCap_le_maxLen w (xs.length + 1) old 3 (by unfold maxLen; omega)
    refine ⟨by simp [hfl], .inr ⟨w.heap.size, _, _, rfl, Nat.le_refl _, heap_alloc_new w.drew _, hge, hcm, ?_, ?_⟩⟩
    · simp only [Array.size_append, List.size_toArray, size_zeroCells, hfl, List.length_singleton]
      have : (Value.cells (.int .i64 0)).size = 1 := rfl
      rw [this]; omega
    · simp only [Array.toList_append, List.append_assoc]
      rw [← List.append_assoc]
      exact List.take_left' (by simp [hfl])
  obtain ⟨ad, rfl⟩ := hf
  obtain ⟨a', c', hv', hl', hcs⟩ := hv
  cases xs with
  | nil =>
    cases ad with
    | none =>
      refine ⟨_, _, run_append_nil (P := Try.prog) w 49 ty 3 i _ Try.underlying49 hi hz ⟨g, 0, none⟩ 1 c [iv y] (by simp [hs]) hnews (by omega) (by omega) (by rw [hy]; omega), ?_, ?_⟩
      · have := fin 0 (by simp)
        show World.ownsRow _ _ _ _ _ 1 [iv y]
        simpa using this
      · exact ⟨rfl, rfl, rfl, by simp, fun k hk => heap_alloc_old w.drew _ k hk⟩
    | some b =>
      refine ⟨_, _, run_append_grow (P := Try.prog) w 49 ty 3 i _ Try.underlying49 hi hz b 0 0 [] (by simp) (by simp) ⟨g, 0, none⟩ 1 c [iv y] (by simp [hs]) hnews (by omega) (by omega) (growslice_fits (by omega) (by rw [hy]; omega)), ?_, ?_⟩
      · have := fin 0 (by simp)
        show World.ownsRow _ _ _ _ _ 1 [iv y]
        simpa using this
      · exact ⟨rfl, rfl, rfl, by simp, fun k hk => heap_alloc_old w.drew _ k hk⟩
  | cons x t =>
    obtain ⟨b, off, ha, -⟩ := hcs 0 x rfl
    simp only [Value.slice.injEq] at hv'
    obtain ⟨rfl, -, -⟩ := hv'
    subst ha
    have holds : ∀ j u, ((x :: t).flatMap encI)[j]? = some u → w.cell? ((⟨b, off, none⟩ : Addr).add j) = some u := by
      intro j u hu
      have hu' : ((x :: t).map iv)[j]? = some u := by rw [← flatJ]; exact hu
      rw [List.getElem?_map] at hu'
      cases e : (x :: t)[j]? with
      | none => rw [e] at hu'; cases hu'
      | some z =>
        rw [e] at hu'
        simp only [Option.map_some, Option.some.injEq] at hu'
        subst hu'
        obtain ⟨b', o', he, hj⟩ := hcs j z e
        simp only [Option.some.injEq, Addr.mk.injEq, and_true] at he
        obtain ⟨rfl, rfl⟩ := he
        have := hj 0 (iv z) rfl
        rw [Nat.mul_one, Nat.add_zero] at this
        have hadd : (⟨b, off, none⟩ : Addr).add j = ⟨b, off + j, none⟩ := by unfold Addr.add; split <;> simp_all
        rw [hadd]; exact this
    refine ⟨_, _, run_append_grow (P := Try.prog) w 49 ty 3 i _ Try.underlying49 hi hz ⟨b, off, none⟩ (x :: t).length (x :: t).length ((x :: t).flatMap encI) (by rw [hfl, hs]; omega) holds ⟨g, 0, none⟩ 1 c [iv y] (by simp [hs]) hnews (by omega) (by omega) (growslice_fits (by omega) (by rw [hy]; omega)), ?_, ?_⟩
    · have := fin (x :: t).length (by omega)
      show World.ownsRow _ _ _ _ _ ((x :: t) ++ [y]).length (((x :: t) ++ [y]).flatMap encI)
      rw [List.flatMap_append, List.length_append]
      exact this
    · exact ⟨rfl, rfl, rfl, by simp, fun k hk => heap_alloc_old w.drew _ k hk⟩
/-- s = append(s, y), the list s full: the new list lies in a block of its own. -/
theorem LI_appendC {F : Fence} {n : Nat} {ops : Array Oper} {rest : List Oper} {o : Oper} {a : Act} {w : World} {Q : Exit → Act → World → Prop} {xs : List Int} {v : Value} {g c : Nat} (y : Int)
    (hg : o.guard = none) (s x : Operand) (hop : o.op = Op.call { callee := Callee.builtin Builtin.append, args := #[s, x], argTypes := #[49, 49] })
    (hs : a.eval s = v) (hx : a.eval x = .slice (some ⟨g, 0, none⟩) 1 c) (hv : Ints w v xs) (hf : ∃ ad, v = .slice ad xs.length xs.length) (hc : w.cell? ⟨g, 0, none⟩ = some (iv y)) (hb : xs.length + 1 ≤ 1000000)
    (hK : ∀ cap w', Owns encI 1 3 w.heap.size w' (.slice (some ⟨w.heap.size, 0, none⟩) (xs.length + 1) cap) (xs ++ [y]) → Below w.heap.size w w' → wpListIn F n Try.prog ops Q rest (a.put o.dst (.slice (some ⟨w.heap.size, 0, none⟩) (xs.length + 1) cap)) w') :
    wpListIn F n Try.prog ops Q (o :: rest) a w := by
  refine wpListIn_plain hg fun K hK' => ?_
  obtain ⟨cap, w', hrun, r1, r2⟩ := run_appendC (ty := o.type) (c := c) hv hf hc hb
  unfold Oper.wpIn
  refine ⟨?_, ?_⟩
  · simp [Oper.about, hop, resolve, Target.leads, Sem.run_pure]
  · rw [Oper.semAt_plain F _ _ (by rw [hop]; intro c hc'; cases hc')]
    simp [execOp, hop, resolve, invoke, builtin, hs, hx, hrun, Result.andThen]
    exact hK' _ _ (hK cap w' r1 r2)
end Go.Proofs.Ytfdahmdehmhllaa
