/- TopWaterShares: the plan that is made, and what the pond does. -/
import Derived.Test.YtfdahmdehmhllaaPc
import Derived.Test.YtfdahmdehmhllaaUd
import Derived.Test.YtfdahmdehmhllaaSl
import Derived.Test.YtfdahmdehmhllaaSo
namespace Go.Proofs.Ytfdahmdehmhllaa
open Go Go.RowKit Go.Shelf

section
variable {P : Program} {ops : Array Oper} {rest : List Oper} {o : Oper} {a : Act} {w : World} {Q : Exit → Act → World → Prop}
/-- s = append(s, y); and where the new list lies. -/
theorem L_append2 {α : Type} {enc : α → List Value} {sz e base bytes : Nat} {i : TypeInfo} {z v : Value} {xs : List α} {g c : Nat} (y : α)
    (hg : o.guard = none) (s x : Operand) (t : TypeId) (hop : o.op = Op.call { callee := Callee.builtin Builtin.append, args := #[s, x], argTypes := #[t, t] })
    (h1 : P.underlying t = some (.slice e)) (h2 : P.info? e = some i) (h3 : i.zero = some z) (h4 : i.size = sz) (h5 : i.bytes = bytes) (h6 : z.cells.size = sz) (h7 : 0 < sz)
    (he : ∀ x, (enc x).length = sz) (h1c : ∀ u ∈ enc y, u.oneCell' = true)
    (hs : a.eval s = v) (hx : a.eval x = .slice (some ⟨g, 0, none⟩) 1 c) (hown : Owns enc sz e base w v xs) (hc : ∀ j u, (enc y)[j]? = some u → w.cell? ⟨g, j, none⟩ = some u)
    (b2 : xs.length + 1 ≤ maxLen ∧ (xs.length + 1) * bytes ≤ 140737488355328) (b3 : base ≤ w.heap.size)
    (hK : ∀ g' cap w', Owns enc sz e base w' (.slice (some ⟨g', 0, none⟩) (xs.length + 1) cap) (xs ++ [y]) → Below base w w' → w.grownBy w' v.ownBlock → (v.ownBlock = some g' ∨ g' = w.heap.size) → wpList P ops Q rest (a.put o.dst (.slice (some ⟨g', 0, none⟩) (xs.length + 1) cap)) w') :
    wpList P ops Q (o :: rest) a w := by
  refine wpList_append_lies w hg s x t hop base e i z sz bytes h1 h2 h3 h4 h5 h6 h7 v xs.length (xs.flatMap enc) hs hown ⟨g, 0, none⟩ 1 c (enc y) hx (by rw [he]; omega) (fun j u hu => ?_) h1c (by omega) b2.1 b2.2 b3 w.heap.size rfl (fun g' cap w' r1 r2 r3 _ => ?_)
  · have hadd : (⟨g, 0, none⟩ : Addr).add j = ⟨g, j, none⟩ := by unfold Addr.add; split <;> simp_all
    rw [hadd]; exact hc j u hu
  · refine hK g' cap w' ?_ (below_of_own hown b3 r2) r2 r3
    show w'.ownsRow base e sz _ (xs ++ [y]).length ((xs ++ [y]).flatMap enc)
    simpa using r1
end
/-- Two lists that are being made, in blocks of their own. -/
structure TwoL {α β : Type} (enc : α → List Value) (sz : Nat) (e : TypeId) (enc' : β → List Value) (sz' : Nat) (e' : TypeId) (F : List α) (G : List β) (w : World) (lv pv : Value) (wr : World) : Prop where
  b : Below w.heap.size w wr
  o1 : Owns enc sz e w.heap.size wr lv F
  o2 : Owns enc' sz' e' w.heap.size wr pv G
  d : ∀ g, lv.ownBlock = some g → pv.ownBlock ≠ some g
section
variable {α β : Type} {enc : α → List Value} {sz : Nat} {e : TypeId} {enc' : β → List Value} {sz' : Nat} {e' : TypeId} {F : List α} {G : List β} {w wr wa w3 : World} {lv pv : Value} {x : α} {y : β} {g' n c : Nat}
theorem TwoL.below (h : TwoL enc sz e enc' sz' e' F G w lv pv wr) (hb : Below wr.heap.size wr wa) : TwoL enc sz e enc' sz' e' F G w lv pv wa := ⟨bstep h.b hb, h.o1.kept hb, h.o2.kept hb, h.d⟩
theorem TwoL.swap (h : TwoL enc sz e enc' sz' e' F G w lv pv wr) : TwoL enc' sz' e' enc sz e G F w pv lv wr := ⟨h.b, h.o2, h.o1, fun g h1 h2 => h.d g h2 h1⟩
theorem TwoL.more (h : TwoL enc sz e enc' sz' e' F G w lv pv wa) (hO : Owns enc sz e w.heap.size w3 (.slice (some ⟨g', 0, none⟩) n c) (F ++ [x])) (hb : Below w.heap.size wa w3) (hg : wa.grownBy w3 lv.ownBlock) (hl : lv.ownBlock = some g' ∨ g' = wa.heap.size) :
    TwoL enc sz e enc' sz' e' (F ++ [x]) G w (.slice (some ⟨g', 0, none⟩) n c) pv w3 := by
  refine ⟨h.b.trans hb, hO, World.ownsRow.kept h.o2 hg ?_, ?_⟩
  · cases e : pv.ownBlock with
    | none => exact .inl rfl
    | some q => exact .inr (fun e2 => h.d q e2.symm e)
  · intro q hq e
    simp only [Value.ownBlock, Option.some.injEq] at hq
    subst hq
    rcases hl with hl | hl
    · exact h.d _ hl e
    · have := (World.ownsRow.lt h.o2 g' e).2; omega
end

/-- How high the pond stands after so many hours. -/
def wsN (f h : Nat → Int) (T : Int) : Nat → Int
  | 0 => 250
  | k + 1 => wsN f h T k + (f k - (1 + h k) * T)
theorem wsN_bd {f h : Nat → Int} {T : Int} (hf : ∀ i, 0 ≤ f i ∧ f i ≤ 40) (hh : ∀ i, 0 ≤ h i ∧ h i ≤ 5) (hT : 0 ≤ T ∧ T ≤ 6) : ∀ k : Nat, 250 - 36 * (k : Int) ≤ wsN f h T k ∧ wsN f h T k ≤ 250 + 40 * (k : Int)
  | 0 => by simp [wsN]
  | k + 1 => by
    have ih := wsN_bd hf hh hT k
    have h1 := hf k; have h2 := hh k
    have h3 : 0 ≤ (1 + h k) * T := Int.mul_nonneg (by omega) hT.1
    have h4 : (1 + h k) * T ≤ 6 * 6 := Int.mul_le_mul (by omega) hT.2 hT.1 (by omega)
    rw [wsN]; omega
def wsF (f : Nat → Int) (n : Nat) : List Sp := (List.range n).map fun i => (f i, f i)
def wsP (h : Nat → Int) (n : Nat) : List Int := (List.range n).map fun i => 1 + h i
theorem wsF_succ (f : Nat → Int) (n : Nat) : wsF f (n + 1) = wsF f n ++ [(f n, f n)] := by simp [wsF, List.range_succ]
theorem wsP_succ (h : Nat → Int) (n : Nat) : wsP h (n + 1) = wsP h n ++ [1 + h n] := by simp [wsP, List.range_succ]
theorem wsF_len (f : Nat → Int) (n : Nat) : (wsF f n).length = n := by simp [wsF]
theorem wsP_len (f : Nat → Int) (n : Nat) : (wsP f n).length = n := by simp [wsP]
theorem wsF_get (f : Nat → Int) {n i : Nat} (h : i < n) : (wsF f n)[i]? = some (f i, f i) := by simp [wsF, h]
theorem wsP_get (f : Nat → Int) {n i : Nat} (h : i < n) : (wsP f n)[i]? = some (1 + f i) := by simp [wsP, h]
theorem ws_lvs {f h : Nat → Int} {T : Int} (hf : ∀ i, 0 ≤ f i ∧ f i ≤ 40) (hh : ∀ i, 0 ≤ h i ∧ h i ≤ 5) (hT : 0 ≤ T ∧ T ≤ 6) : ∀ n s : Nat, s + n ≤ 6 → lvs T 500 (wsN f h T s) ((List.range' s n).map fun i => (f i, 1 + h i)) = (List.range' s n).map fun i => wsN f h T (i + 1)
  | 0, s, _ => rfl
  | n + 1, s, hs => by
    have h1 := wsN_bd hf hh hT s
    have h2 := wsN_bd hf hh hT (s + 1)
    have hfs := hf s
    have he : leftL T 500 (wsN f h T s) (f s) (1 + h s) = wsN f h T (s + 1) := by
      unfold leftL fillL
      rw [if_neg (by omega), wsN]; omega
    rw [List.range'_succ, List.map_cons, List.map_cons, lvs, he, if_pos (by omega), ws_lvs hf hh hT n (s + 1) (by omega)]
theorem zip_same {α β γ : Type} (f : α → β) (g : α → γ) : ∀ l : List α, (l.map f).zip (l.map g) = l.map fun i => (f i, g i)
  | [] => rfl
  | x :: l => by simp [zip_same f g l]
theorem ws_lv {f h : Nat → Int} {T : Int} (hf : ∀ i, 0 ≤ f i ∧ f i ≤ 40) (hh : ∀ i, 0 ≤ h i ∧ h i ≤ 5) (hT : 0 ≤ T ∧ T ≤ 6) {n : Nat} (hn : n ≤ 6) :
    lvOf Prod.fst ⟨8, T, 0, 0, 500, 250, 250⟩ (wsF f n) (wsP h n) = (List.range n).map (fun i => wsN f h T (i + 1)) ∧ lvOf Prod.snd ⟨8, T, 0, 0, 500, 250, 250⟩ (wsF f n) (wsP h n) = (List.range n).map (fun i => wsN f h T (i + 1)) := by
  have h1 := ws_lvs hf hh hT n 0 (by omega)
  have e1 : hrs Prod.fst (wsF f n) (wsP h n) = (List.range' 0 n).map fun i => (f i, 1 + h i) := by
    rw [hrs, wsF, wsP, List.map_map, List.range_eq_range']; exact zip_same _ _ _
  have e2 : hrs Prod.snd (wsF f n) (wsP h n) = (List.range' 0 n).map fun i => (f i, 1 + h i) := by
    rw [hrs, wsF, wsP, List.map_map, List.range_eq_range']; exact zip_same _ _ _
  constructor
  · rw [lvOf, e1, List.range_eq_range']; exact h1
  · rw [lvOf, e2, List.range_eq_range']; exact h1
theorem ws_levels {f h : Nat → Int} {T : Int} (hf : ∀ i, 0 ≤ f i ∧ f i ≤ 40) (hh : ∀ i, 0 ≤ h i ∧ h i ≤ 5) (hT : 0 ≤ T ∧ T ≤ 6) {n : Nat} (hn : 1 ≤ n ∧ n ≤ 6) :
    sChk ⟨8, T, 0, 0, 500, 250, 250⟩ (wsF f n) = 0 ∧ vPlan 8 (wsP h n) (wsF f n).length (wsF f n).length = true ∧ levErr ⟨8, T, 0, 0, 500, 250, 250⟩ (wsF f n) (wsP h n) = 0 ∧ levL ⟨8, T, 0, 0, 500, 250, 250⟩ (wsF f n) (wsP h n) = (List.range n).map fun i => (wsN f h T (i + 1), wsN f h T (i + 1)) := by
  obtain ⟨e1, e2⟩ := ws_lv hf hh hT hn.2
  have hr : rightB ⟨8, T, 0, 0, 500, 250, 250⟩ (wsF f n) (wsP h n) = true := by rw [rightB, e1]; simp [wsP_len]
  refine ⟨?_, ?_, by rw [levErr, if_pos hr], ?_⟩
  · unfold sChk
    rw [if_pos (vMill_iff.2 ⟨by dsimp only; omega, by dsimp only; omega, by rfl, by dsimp only; omega, by dsimp only; omega⟩), if_neg (by rw [wsF_len]; omega), if_neg (by rw [wsF_len]; omega), if_pos]
    rw [List.all_eq_true]
    intro p hp
    obtain ⟨i, -, rfl⟩ := List.mem_map.1 hp
    have := hf i
    exact okSpan_iff.2 (by dsimp only; omega)
  · refine vPlan_iff.2 ⟨by rw [wsF_len, wsP_len]; omega, ?_⟩
    rw [List.all_eq_true]
    intro p hp
    obtain ⟨i, -, rfl⟩ := List.mem_map.1 hp
    have := hh i
    exact inB_iff.2 (by omega)
  · rw [levL, if_pos hr, e1, e2, wsP_len]
    refine List.ext_getElem? fun i => ?_
    simp only [zipTo, List.getElem?_map, List.length_map, List.length_range]
    by_cases hi : i < n
    · simp [hi, List.getD_eq_getElem?_getD]
    · rw [List.getElem?_eq_none (by simp; omega)]; rfl
theorem ws_sum (h : Nat → Int) (T : Int) (n : Nat) : (wsP h n).map (fun p => p * T) = (List.range n).map fun i => (1 + h i) * T := by simp [wsP]
theorem wsP_bd {h : Nat → Int} (hh : ∀ i, 0 ≤ h i ∧ h i ≤ 5) (n : Nat) : ∀ p ∈ wsP h n, 1 ≤ p ∧ p ≤ 6 := by
  intro p hp
  obtain ⟨i, -, rfl⟩ := List.mem_map.1 hp
  have := hh i; omega

/-- A list of bytes. -/
def encB (n : Int) : List Value := [u8 n]
theorem byte_cell {w : World} {ha : Option Addr} {n c k : Nat} {H : List Int} {x : Int} (h : SliceU encB 1 w (.slice ha n c) H) (hk : H[k]? = some x) : ∃ b o, ha = some ⟨b, o, none⟩ ∧ w.cell? ⟨b, o + k, none⟩ = some (u8 x) := by
  obtain ⟨a', c', hv, -, hc⟩ := h
  obtain ⟨gb, go, ha, hj⟩ := hc k x hk
  simp only [Value.slice.injEq] at hv
  have h0 := hj 0 _ rfl
  simp only [Nat.add_zero, Nat.mul_one] at h0
  exact ⟨gb, go, hv.1.trans ha, h0⟩
theorem byteD_bd {H : List Int} (h : ∀ x ∈ H, 0 ≤ x ∧ x ≤ 255) (i : Nat) : 0 ≤ H.getD i 0 ∧ H.getD i 0 ≤ 255 := by
  rw [List.getD_eq_getElem?_getD]
  cases e : H[i]? with
  | none => simp
  | some x => exact h x (List.mem_of_getElem? e)
end Go.Proofs.Ytfdahmdehmhllaa
