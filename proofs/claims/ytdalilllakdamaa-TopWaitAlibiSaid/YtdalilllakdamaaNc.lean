/- Lists of lists: sets.Compare, slices.MinFunc; the fewest sights against a person. -/
import Derived.Test.YtdalilllakdamaaNb
import Derived.Test.YtdalilllakdamaaAt
import Derived.Deep.AppendLies
namespace Go.Proofs.Ytdalilllakdamaa
open Go Go.RowKit Go.Shelf
attribute [local go_sem] Oper.semAt_some
attribute [local go_sem ↓] Go.wp_at_zero Go.wp_at_succ

section
variable {P : Program} {ops : Array Oper} {rest : List Oper} {o : Oper} {a : Act} {w : World} {Q : Exit → Act → World → Prop}
/-- s = append(s, y); and where the new list lies. -/
theorem L_append3 {α : Type} {enc : α → List Value} {sz e base bytes : Nat} {i : TypeInfo} {z v : Value} {xs : List α} {g c : Nat} (y : α)
    (hg : o.guard = none) (s x : Operand) (t : TypeId) (hop : o.op = Op.call { callee := Callee.builtin Builtin.append, args := #[s, x], argTypes := #[t, t] })
    (h1 : P.underlying t = some (.slice e)) (h2 : P.info? e = some i) (h3 : i.zero = some z) (h4 : i.size = sz) (h5 : i.bytes = bytes) (h6 : z.cells.size = sz) (h7 : 0 < sz)
    (he : ∀ x, (enc x).length = sz) (h1c : ∀ u ∈ enc y, u.oneCell' = true)
    (hs : a.eval s = v) (hx : a.eval x = .slice (some ⟨g, 0, none⟩) 1 c) (hown : Owns enc sz e base w v xs) (hc : ∀ j u, (enc y)[j]? = some u → w.cell? ⟨g, j, none⟩ = some u)
    (b2 : xs.length + 1 ≤ maxLen ∧ (xs.length + 1) * bytes ≤ 140737488355328) (b3 : base ≤ w.heap.size)
    (hK : ∀ g' cap w', Owns enc sz e base w' (.slice (some ⟨g', 0, none⟩) (xs.length + 1) cap) (xs ++ [y]) → Below base w w' → w.grownBy w' v.ownBlock → (v.ownBlock = some g' ∨ g' = w.heap.size) → wpList P ops Q rest (a.put o.dst (.slice (some ⟨g', 0, none⟩) (xs.length + 1) cap)) w') :
    wpList P ops Q (o :: rest) a w := by
  refine wpList_append_lies w hg s x t hop base e i z sz bytes h1 h2 h3 h4 h5 h6 h7 v xs.length (xs.flatMap enc) hs hown ⟨g, 0, none⟩ 1 c (enc y) hx (by rw [he]; omega) (fun j u hu => ?_) h1c (by omega) b2.1 b2.2 b3 w.heap.size rfl (fun g' cap w' r1 r2 r3 _ => ?_)
  · have hadd : (⟨g, 0, none⟩ : Addr).add j = ⟨g, j, none⟩ := by unfold Addr.add; split <;> simp_all
    rw [hadd]; exact hc j u hu
  · refine hK g' cap w' ?_ (below_of_own hown b3 r2) r2 r3
    show w'.ownsRow base e sz _ (xs ++ [y]).length ((xs ++ [y]).flatMap enc)
    simpa using r1
end
def encVal (v : Value) : List Value := [v]
theorem encVal_len (v : Value) : (encVal v).length = 1 := rfl
theorem encVal_cell {w : World} {g : Nat} {v : Value} (h : w.cell? ⟨g, 0, none⟩ = some v) : ∀ j u, (encVal v)[j]? = some u → w.cell? ⟨g, j, none⟩ = some u := by
  intro j u hu
  rcases j with _ | j
  · simp [encVal] at hu; subst hu; exact h
  · simp [encVal] at hu
theorem info40 : (Try.prog.info? 24).map (fun i => (i.zero, i.size, i.bytes)) = some (some (.slice none 0 0), 1, 24) := by kernel_rfl
/-- A list of lists. -/
structure Lst (w : World) (v : Value) (vals : List Value) (xss : List (List Int)) : Prop where
  s : SliceOf encVal 1 w v vals
  l : vals.length = xss.length
  e : ∀ (i : Nat) (x : Value) (xs : List Int), vals[i]? = some x → xss[i]? = some xs → Ints w x xs
theorem Lst.below {w w' : World} {v : Value} {vals : List Value} {xss : List (List Int)} (h : Lst w v vals xss) (hb : Below w.heap.size w w') : Lst w' v vals xss :=
  ⟨h.s.below hb, h.l, fun i x xs h1 h2 => (h.e i x xs h1 h2).below hb⟩
/-- A list of lists that is being made, each in a block of its own. -/
structure LL (w : World) (lv : Value) (vals : List Value) (xss : List (List Int)) (wr : World) : Prop where
  b : Below w.heap.size w wr
  o : Owns encVal 1 24 w.heap.size wr lv vals
  l : vals.length = xss.length
  e : ∀ (i : Nat) (x : Value) (xs : List Int), vals[i]? = some x → xss[i]? = some xs → Owns encI 1 3 w.heap.size wr x xs
  d : ∀ x, x ∈ vals → ∀ g, lv.ownBlock = some g → x.ownBlock ≠ some g
theorem LL.below {w wr wa : World} {lv : Value} {vals : List Value} {xss : List (List Int)} (h : LL w lv vals xss wr) (hb : Below wr.heap.size wr wa) : LL w lv vals xss wa :=
  ⟨bstep h.b hb, h.o.kept hb, h.l, fun i x xs h1 h2 => (h.e i x xs h1 h2).kept hb, h.d⟩
theorem LL.more {w wr w1 wa w3 : World} {lv x : Value} {vals : List Value} {xss : List (List Int)} {xs : List Int} {g' n c : Nat} (h : LL w lv vals xss wr) (h1 : Below wr.heap.size wr w1) (hx : Owns encI 1 3 wr.heap.size w1 x xs) (h2 : Below w1.heap.size w1 wa)
    (hO : Owns encVal 1 24 w.heap.size w3 (.slice (some ⟨g', 0, none⟩) n c) (vals ++ [x])) (hb : Below w.heap.size wa w3) (hg : wa.grownBy w3 lv.ownBlock) (hl : lv.ownBlock = some g' ∨ g' = wa.heap.size) :
    LL w (.slice (some ⟨g', 0, none⟩) n c) (vals ++ [x]) (xss ++ [xs]) w3 := by
  have hA := (h.below h1).below h2
  have hxa : Owns encI 1 3 w.heap.size wa x xs := Owns.base (Owns.kept hx h2) h.b.size
  have hdx : ∀ g, lv.ownBlock = some g → x.ownBlock ≠ some g := fun g hg1 hg2 => by
    have e1 := (World.ownsRow.lt h.o g hg1).2
    have e2 := (World.ownsRow.lt hx g hg2).1
    omega
  have hd' : ∀ y, y ∈ vals ++ [x] → ∀ g, lv.ownBlock = some g → y.ownBlock ≠ some g := fun y hy => by
    rcases List.mem_append.1 hy with hy | hy
    · exact h.d y hy
    · simp only [List.mem_singleton] at hy; subst hy; exact hdx
  have hoa : ∀ (i : Nat) (y : Value) (ys : List Int), (vals ++ [x])[i]? = some y → (xss ++ [xs])[i]? = some ys → Owns encI 1 3 w.heap.size wa y ys := fun i y ys hy hys => by
    by_cases hi : i < vals.length
    · rw [List.getElem?_append_left hi] at hy
      rw [List.getElem?_append_left (by rw [← h.l]; exact hi)] at hys
      exact hA.e i y ys hy hys
    · rw [List.getElem?_append_right (by omega)] at hy
      rw [List.getElem?_append_right (by rw [← h.l]; omega)] at hys
      rw [← h.l] at hys
      generalize i - vals.length = q at *
      rcases q with _ | q
      · simp at hy hys; subst hy hys; exact hxa
      · simp at hy
  refine ⟨hA.b.trans hb, hO, by simp [h.l], fun i y ys hy hys => ?_, fun y hy g hg1 e => ?_⟩
  · refine World.ownsRow.kept (hoa i y ys hy hys) hg ?_
    cases e : y.ownBlock with
    | none => exact .inl rfl
    | some q => exact .inr (fun e2 => hd' y (List.mem_of_getElem? hy) q e2.symm e)
  · simp only [Value.ownBlock, Option.some.injEq] at hg1
    subst hg1
    rcases hl with hl | hl
    · exact hd' y hy _ hl e
    · obtain ⟨i, hi⟩ := List.getElem?_of_mem hy
      have hlen : i < (xss ++ [xs]).length := by
        have := (List.getElem?_eq_some_iff.1 hi).1
        simp at this ⊢; rw [← h.l]; exact this
      obtain ⟨ys, hys⟩ := getElem?_of_lt hlen
      have := (World.ownsRow.lt (hoa i y ys hi hys) g' e).2; omega
theorem LL.lst {w wr : World} {lv : Value} {vals : List Value} {xss : List (List Int)} (h : LL w lv vals xss wr) (hl : vals.length ≤ 1000000) (hx : ∀ xs ∈ xss, xs.length ≤ 1000000) : Lst wr lv vals xss :=
  ⟨Owns.slice h.o encVal_len (by omega), h.l, fun i x xs h1 h2 => Owns.slice (h.e i x xs h1 h2) encI_len (by have := hx xs (List.mem_of_getElem? h2); omega)⟩
theorem LL.nil {w wr : World} (h : Below w.heap.size w wr) : LL w (.slice none 0 0) [] [] wr :=
  ⟨h, Owns.nil _ _ _ _ _, rfl, fun i x xs h1 => by simp at h1, fun x hx => by simp at hx⟩

/-- The order of sets: shorter ones first. -/
def setCmp (a b : List Int) : Int := orL [cmpI a.length b.length, cmpL a b]
theorem setCmp_short {a b : List Int} (h : a.length < b.length) : setCmp a b < 0 := by
  have : cmpI (a.length : Int) b.length = -1 := by unfold cmpI; rw [if_pos (by omega)]
  simp [setCmp, orL, this]
theorem setCmp_long {a b : List Int} (h : b.length < a.length) : ¬ setCmp a b < 0 := by
  have : cmpI (a.length : Int) b.length = 1 := by unfold cmpI; rw [if_neg (by omega), if_pos (by omega)]
  simp [setCmp, orL, this]
set_option maxRecDepth 20000 in
set_option maxHeartbeats 3200000 in
theorem setCompare_any (xs ys : List Int) (v u : Value) (w : World) (hs : Ints w v xs) (ht : Ints w u ys) : Calls Try.prog 37 #[v, u] w fun e w' => e = .returned (iv (setCmp xs ys)) ∧ Below w.heap.size w w' := by
  have HC := Lib.hid (fun W : World => compare_any (xs.length : Int) (ys.length : Int) W)
  have HL := Lib.hid (fun (W : World) (h1 : Ints W v xs) (h2 : Ints W u ys) => compareL_any xs ys v u W h1 h2)
  have HS := Lib.hid hs; have HT := Lib.hid ht
  have HV : Hid (setCmp xs ys = orL [cmpI xs.length ys.length, cmpL xs ys]) := rfl
  obtain ⟨a, cap, rfl, hm, -⟩ := hs
  obtain ⟨b, cap2, rfl, hm2, -⟩ := ht
  go_enter Try.func37, Try.ntmps37
  go_wp2_with fail
  refine (HC.out _).mono ?_
  rintro e w1 ⟨rfl, rfl⟩
  go_wp2_with fail
  refine (HL.out _ HS.out HT.out).mono ?_
  rintro e w1 ⟨rfl, rfl⟩
  generalize cmpI xs.length ys.length = p at *
  generalize cmpL xs ys = q at *
  go_wp2_with fail
  refine (or_any [p, q] _ _ (ints2 (by go_simp) (by go_simp))).mono ?_
  rintro e w1 ⟨rfl, rfl⟩
  go_wp2_with fail
  go_ret
  exact ⟨by rw [HV.out]; rfl, (by repeat (first | exact Below.refl _ _ | refine Below.drew ?_ | refine bpush ?_ _ | refine bput ?_ (by simp) _ | (refine bstep ?_ (by assumption))))⟩

/-- Where the least list of the first k + 1 lies: the first of several. -/
def minIx (xss : List (List Int)) : Nat → Nat
  | 0 => 0
  | k + 1 => if setCmp (xss.getD (k + 1) []) (xss.getD (minIx xss k) []) < 0 then k + 1 else minIx xss k
theorem minIx_le (xss : List (List Int)) : ∀ k, minIx xss k ≤ k
  | 0 => Nat.le_refl _
  | k + 1 => by
    have := minIx_le xss k
    unfold minIx; split <;> omega
/-- It is as short as any. -/
theorem minIx_short (xss : List (List Int)) : ∀ k i, i ≤ k → (xss.getD (minIx xss k) []).length ≤ (xss.getD i []).length
  | 0, i, h => by obtain rfl : i = 0 := by omega
                  exact Nat.le_refl _
  | k + 1, i, h => by
    have ih := minIx_short xss k
    unfold minIx
    split
    · rename_i hlt
      have h2 : (xss.getD (k + 1) []).length ≤ (xss.getD (minIx xss k) []).length := by
        rcases Nat.lt_or_ge (xss.getD (minIx xss k) []).length (xss.getD (k + 1) []).length with h3 | h3
        · exact absurd hlt (setCmp_long h3)
        · exact h3
      by_cases hi : i = k + 1
      · subst hi; exact Nat.le_refl _
      · exact Nat.le_trans h2 (ih i (by omega))
    · rename_i hge
      by_cases hi : i = k + 1
      · subst hi
        rcases Nat.lt_or_ge (xss.getD (k + 1) []).length (xss.getD (minIx xss k) []).length with h3 | h3
        · exact absurd (setCmp_short h3) hge
        · exact h3
      · exact ih i (by omega)
theorem getD_get {α : Type} {xs : List α} {i : Nat} {x d : α} (h : xs[i]? = some x) : xs.getD i d = x := by rw [List.getD_eq_getElem?_getD, h]; rfl
set_option maxRecDepth 20000 in
set_option maxHeartbeats 6400000 in
theorem minFunc_any (xss : List (List Int)) (vals : List Value) (la : Option Addr) (lc : Nat) (w : World) (h : Lst w (.slice la vals.length lc) vals xss) (hne : 0 < vals.length) (hl : vals.length ≤ 1000000) :
    Calls Try.prog 36 #[.slice la vals.length lc, .func (.func 37) #[] #[]] w fun e w' => e = .returned (vals.getD (minIx xss (vals.length - 1)) undef) ∧ Below w.heap.size w w' := by
  obtain ⟨b, off, rfl⟩ := slice_addrN h.s hne
  have HL := Lib.hid h
  obtain ⟨x0, hx0⟩ := getElem?_of_lt hne
  have c0 : w.cell? ⟨b, off, none⟩ = some x0 := by have := slice_cellN h.s hx0 0 x0 rfl; simpa using this
  have hv0 : vals.getD 0 undef = x0 := getD_get hx0
  have a1 : decide ((vals.length : Int) < 1) = false := decide_eq_false (by omega)
  have a2 : decide (vals.length < 1) = false := decide_eq_false (by omega)
  have a3 : decide ((0 : Int) < (vals.length : Int)) = true := decide_eq_true (by omega)
  clear h hx0
  go_enter Try.func36, Try.ntmps36
  go_wp2_with fail
  go_loopw [6, 5] (fun i m wr => ∃ j : Nat, 1 ≤ j ∧ j ≤ vals.length ∧ i = iv j ∧ m = vals.getD (minIx xss (j - 1)) undef ∧ Hid (Below w.heap.size w wr)) (fun i _ _ => vals.length - (intOf i).toNat)
  case atStart => exact ⟨1, Nat.le_refl _, by omega, rfl, hv0.symm, Below.refl _ _⟩
  case round =>
    obtain ⟨j, hj1, hj2, rfl, rfl, HB⟩ := hrel
    by_cases hlt : j < vals.length
    · have hL := HL.out.below HB.out
      obtain ⟨x, hx⟩ := getElem?_of_lt hlt
      obtain ⟨xs, hxs⟩ := getElem?_of_lt (show j < xss.length by rw [← HL.out.l]; exact hlt)
      have hml := minIx_le xss (j - 1)
      obtain ⟨y, hy⟩ := getElem?_of_lt (show minIx xss (j - 1) < vals.length by omega)
      obtain ⟨ys, hys⟩ := getElem?_of_lt (show minIx xss (j - 1) < xss.length by rw [← HL.out.l]; omega)
      have HC := Lib.hid (setCompare_any xs ys x y wr (hL.e j x xs hx hxs) (hL.e _ y ys hy hys))
      have d0 : wr.cell? ⟨b, off + j, none⟩ = some x := by have := slice_cellN hL.s hx 0 x rfl; simpa using this
      have HM : Hid (minIx xss j = if setCmp xs ys < 0 then j else minIx xss (j - 1)) := by
        obtain ⟨q, rfl⟩ : ∃ q, j = q + 1 := ⟨j - 1, by omega⟩
        show minIx xss (q + 1) = _
        rw [minIx, getD_get hxs, Nat.add_sub_cancel, getD_get (by simpa using hys)]
      have HX : Hid (vals.getD j undef = x) := getD_get hx
      have HY : Hid (vals.getD (minIx xss (j - 1)) undef = y) := getD_get hy
      rw [HY.out]
      have q1 : (0 : Int) ≤ (j : Int) := by omega
      have q2 : (j : Int) < (vals.length : Int) := by omega
      clear hL hx hxs hy hys hml c0 hv0
      generalize setCmp xs ys = sc at *
      by_cases hs : sc < 0
      · rw [if_pos hs] at HM
        go_wp2_with fail
        refine HC.out.mono ?_
        rintro e w1 ⟨rfl, hb1⟩
        have d0 := kcellN hb1 d0
        have HB1 := Lib.hid (bstep HB.out hb1)
        clear hb1
        go_wp2_with fail
        go_roundw
        case rel => exact ⟨j + 1, by omega, by omega, by go_num, by rw [Nat.add_sub_cancel, HM.out, HX.out], HB1⟩
        case measure => simp [intOf]; omega
      · rw [if_neg hs] at HM
        go_wp2_with fail
        refine HC.out.mono ?_
        rintro e w1 ⟨rfl, hb1⟩
        have HB1 := Lib.hid (bstep HB.out hb1)
        clear hb1
        go_wp2_with fail
        go_roundw
        case rel => exact ⟨j + 1, by omega, by omega, by go_num, by rw [Nat.add_sub_cancel, HM.out, HY.out], HB1⟩
        case measure => simp [intOf]; omega
    · obtain rfl : j = vals.length := by omega
      go_wp2_with fail
      go_ret
      exact ⟨rfl, HB.out⟩
end Go.Proofs.Ytdalilllakdamaa
