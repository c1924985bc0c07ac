import Derived.Test.YtdalilllakdamaaMb
import Derived.Test.YtdalilllakdamaaMd
import Derived.Carry
import Derived.Deep.DeepCutAuto
/- The checks of package tenter. -/
namespace Go.Proofs.Ytdalilllakdamaa
open Go Go.RowKit

/-- A cloth to be hung: how long it is, and how much water it has. -/
abbrev Tn := Sp × Sp
def encN (c : Tn) : List Value := [iv c.1.1, iv c.1.2, iv c.2.1, iv c.2.2]
def vTn (c : Tn) : Bool := okSpan c.1.1 c.1.2 1 2000 && okSpan c.2.1 c.2.2 0 500

def vWth (p : Sp) : Bool := okSpan p.1 p.2 0 100
/-- A field: its cloths, its tenters, its gap and what the statute permits. -/
structure Fd where
  (C : List Tn) (R : List Int) (gap str : Int)
def fcells (cv rv : Value) (gap str : Int) : Array Value := #[cv, rv, iv gap, iv str]
def vFd (f : Fd) : Bool := f.C.all vTn && (f.R.all (inB 1 2000) && (inB 0 50 f.gap && inB 0 200 f.str))

def fdChk (f : Fd) : Int := if 7 < f.C.length then 5 else if inB 1 3 f.R.length = true then (if vFd f = true then 0 else 2) else 4
theorem fdChk_zero {f : Fd} (h : fdChk f = 0) : f.C.length ≤ 7 ∧ inB 1 3 f.R.length = true ∧ vFd f = true := by
  unfold fdChk at h
  split at h
  · omega
  · split at h
    · split at h
      · exact ⟨by omega, by assumption, by assumption⟩
      · omega
    · omega
end Go.Proofs.Ytdalilllakdamaa

/- When a cloth is dry. -/
namespace Go.Proofs.Ytdalilllakdamaa
open Go Go.RowKit Go.Shelf
attribute [local go_sem ↓] Go.wp_at_zero Go.wp_at_succ

/-- At which hour something with so much water is dry, that hangs from an hour on, after which the hours dry so much. -/
def dryL : List Int → Int → Nat → Nat
  | [], wt, h => if 0 < wt then h + 1 else h
  | x :: xs, wt, h => if 0 < wt then dryL xs (wt - x) (h + 1) else h
theorem dryL_done {wt : Int} (h : ¬ 0 < wt) (l : List Int) (n : Nat) : dryL l wt n = n := by cases l <;> simp [dryL, h]
theorem dryL_step {S : List Sp} {side : Sp → Int} {wt : Int} {k : Nat} {p : Sp} (h0 : 0 < wt) (hp : S[k]? = some p) : dryL ((S.map side).drop k) wt k = dryL ((S.map side).drop (k + 1)) (wt - side p) (k + 1) := by
  have hk := (List.getElem?_eq_some_iff.1 hp).1
  have : (S.map side).drop k = side p :: (S.map side).drop (k + 1) := by
    rw [List.drop_eq_getElem_cons (by simpa using hk)]
    congr 1
    have := (List.getElem?_eq_some_iff.1 hp).2
    simp [this]
  rw [this, dryL, if_pos h0]
theorem dryL_end {S : List Sp} {side : Sp → Int} {wt : Int} (h0 : 0 < wt) : dryL ((S.map side).drop S.length) wt S.length = S.length + 1 := by
  rw [List.drop_of_length_le (by simp), dryL, if_pos h0]
theorem dryL_le {S : List Sp} {side : Sp → Int} : ∀ (d k : Nat) (wt : Int), k + d = S.length → dryL ((S.map side).drop k) wt k ≤ S.length + 1 ∧ k ≤ dryL ((S.map side).drop k) wt k := by
  intro d
  induction d with
  | zero =>
    intro k wt hk
    obtain rfl : k = S.length := by omega
    by_cases h : 0 < wt
    · rw [dryL_end h]; omega
    · rw [dryL_done h]; omega
  | succ d ih =>
    intro k wt hk
    by_cases h : 0 < wt
    · obtain ⟨p, hp⟩ := getElem?_of_lt (show k < S.length by omega)
      rw [dryL_step h hp]
      have := ih (k + 1) (wt - side p) (by omega)
      omega
    · rw [dryL_done h]; omega

theorem bblkG {W W1 : World} {k : Nat} {o : Obj} (hb : Below W.heap.size W W1) (h : W.heap[k]? = some o) : W1.heap[k]? = some o := (hb.block k (Array.getElem?_eq_some_iff.1 h).1).trans h
theorem sl_rowG {α : Type} {enc : α → List Value} {sz : Nat} {w : World} {a : Option Addr} {n c k : Nat} {L : List α} {p : α} (h : SliceOf enc sz w (.slice a n c) L) (hk : L[k]? = some p) :
    ∃ b off, a = some ⟨b, off, none⟩ ∧ ∀ j u, (enc p)[j]? = some u → w.cell? ⟨b, off + k * sz + j, none⟩ = some u := by
  obtain ⟨a', c', hv, _, hc⟩ := h
  simp only [Value.slice.injEq] at hv
  obtain ⟨rfl, rfl, rfl⟩ := hv
  exact hc k p hk

end Go.Proofs.Ytdalilllakdamaa

/- The first and the last hour at which a cloth can be dry; how late it can be hung. -/
namespace Go.Proofs.Ytdalilllakdamaa
open Go Go.RowKit Go.Shelf
attribute [local go_sem ↓] Go.wp_at_zero Go.wp_at_succ

/-- The first hour at which a cloth can be dry, and the last one. -/
def earL (c : Tn) (S : List Sp) (fr : Nat) : Nat := dryL ((S.map Prod.snd).drop fr) c.2.1 fr
def latL (c : Tn) (S : List Sp) (fr : Nat) : Nat := dryL ((S.map Prod.fst).drop fr) c.2.2 fr
theorem vTn_water {c : Tn} (h : vTn c = true) : (0 ≤ c.2.1 ∧ c.2.1 ≤ 500) ∧ (0 ≤ c.2.2 ∧ c.2.2 ≤ 500) ∧ c.2.1 ≤ c.2.2 := by
  simp only [vTn, Bool.and_eq_true] at h
  obtain ⟨p1, p2, p3, p4, p5⟩ := okSpan_iff.1 h.2
  omega

/-- The latest hour, up to so many hours, at which something can be hung. -/
def lateTo (lt : Nat → Nat) (rain : Nat) : Nat → Option Nat
  | 0 => none
  | k + 1 => if lt k ≤ rain then some k else lateTo lt rain k
def lateO (c : Tn) (S : List Sp) (rain : Nat) : Option Nat := lateTo (latL c S) rain (rain + 1)
theorem lateTo_some {lt : Nat → Nat} {rain : Nat} : ∀ {n k : Nat}, lateTo lt rain n = some k → k < n ∧ lt k ≤ rain ∧ ∀ j, k < j → j < n → rain < lt j
  | 0, _, h => by simp [lateTo] at h
  | n + 1, k, h => by
    unfold lateTo at h
    split at h
    · obtain rfl := Option.some.inj h
      exact ⟨Nat.lt_succ_self _, by assumption, fun j h1 h2 => by omega⟩
    · obtain ⟨h1, h2, h3⟩ := lateTo_some h
      refine ⟨by omega, h2, fun j h4 h5 => ?_⟩
      by_cases e : j = n
      · subst e; omega
      · exact h3 j h4 (by omega)
theorem lateTo_none {lt : Nat → Nat} {rain : Nat} : ∀ {n : Nat}, lateTo lt rain n = none → ∀ j, j < n → rain < lt j
  | 0, _, j, hj => by omega
  | n + 1, h, j, hj => by
    unfold lateTo at h
    split at h
    · cases h
    · by_cases e : j = n
      · subst e; omega
      · exact lateTo_none h j (by omega)
def foundV : Option Nat → Value
  | some h => .tuple #[iv h, .bool true]
  | none => .tuple #[iv 0, .bool false]

end Go.Proofs.Ytdalilllakdamaa

/- How late a cloth can be hung: the calls from outside, at valid fields. -/
namespace Go.Proofs.Ytdalilllakdamaa
open Go Go.RowKit Go.Shelf
def zdr : Array Value := #[.slice none 0 0, .slice none 0 0, iv 0, iv 0, .slice none 0 0]

/-- What there is when a call of a field in some weather begins. -/
structure FdIn (C : List Tn) (R : List Int) (gap str : Int) (S : List Sp) (ca ra wa : Option Addr) (cc rc wc : Nat) (w : World) : Prop where
  cl : SliceOf encN 4 w (.slice ca C.length cc) C
  fr : Ints w (.slice ra R.length rc) R
  we : SliceOf encS 2 w (.slice wa S.length wc) S
theorem FdIn.below {C : List Tn} {R : List Int} {gap str : Int} {S : List Sp} {ca ra wa : Option Addr} {cc rc wc : Nat} {w w' : World} (h : FdIn C R gap str S ca ra wa cc rc wc w) (hb : Below w.heap.size w w') : FdIn C R gap str S ca ra wa cc rc wc w' :=
  ⟨h.cl.below hb, h.fr.below hb, h.we.below hb⟩
/-- A valid field in valid weather. -/
structure FdOk (C : List Tn) (R : List Int) (gap str : Int) (S : List Sp) : Prop where
  ck : fdChk ⟨C, R, gap, str⟩ = 0
  sl : 1 ≤ S.length ∧ S.length ≤ 24
  sv : S.all vWth = true
theorem FdOk.len {C : List Tn} {R : List Int} {gap str : Int} {S : List Sp} (h : FdOk C R gap str S) : C.length ≤ 7 := (fdChk_zero h.ck).1
theorem FdOk.tn {C : List Tn} {R : List Int} {gap str : Int} {S : List Sp} (h : FdOk C R gap str S) {k : Nat} {c : Tn} (hk : C[k]? = some c) : vTn c = true := by
  have := (fdChk_zero h.ck).2.2
  simp only [vFd, Bool.and_eq_true, List.all_eq_true] at this
  exact this.1 c (List.mem_of_getElem? hk)

def lateV : Option Nat → Value
  | some h => .tuple #[iv h, iv 0]
  | none => .tuple #[iv 0, iv 9]
end Go.Proofs.Ytdalilllakdamaa

/- When each cloth is dry: the call from outside, at valid fields. -/
namespace Go.Proofs.Ytdalilllakdamaa
open Go Go.RowKit Go.Shelf
attribute [local go_sem ↓] Go.wp_at_zero Go.wp_at_succ

theorem infoSpG : (Try.prog.info? 29).map (fun i => (i.zero, i.size, i.bytes)) = some (some (.agg #[.int .i64 0, .int .i64 0]), 2, 16) := by kernel_rfl
theorem made_rowG (n : Nat) : (madeCells (Value.cells (.agg #[.int .i64 0, .int .i64 0])) (n * 2)).toList = (List.replicate (n * 2) (0 : Int)).map iv := by
  refine List.ext_getElem? fun i => ?_
  by_cases h : i < n * 2
  · have h2 : i % 2 = 0 ∨ i % 2 = 1 := by omega
    simp only [madeCells, Value.cells, Array.toList_map, Array.toList_range, List.getElem?_map, List.getElem?_range h, Option.map_some, List.map_replicate, List.getElem?_replicate, if_pos h]
    rcases h2 with h2 | h2 <;> simp [h2]
  · rw [List.getElem?_eq_none (by simp [madeCells]; omega), List.getElem?_eq_none (by simp; omega)]
theorem heap_ownsG {w : World} {base g n : Nat} {e : TypeId} {xs : List Value} (h : w.ownsRow base e 2 (.slice (some ⟨g, 0, none⟩) n n) n xs) : w.heap[g]? = some (.cells xs.toArray e (0, 0)) := by
  rcases h.2 with ⟨h0, _⟩ | ⟨g', cap, cur, h0, hg, hh, h1, h2, h3, h4⟩
  · cases h0
  · cases h0
    rw [hh]
    congr 2
    apply Array.ext'
    rw [← h4, List.take_of_length_le]
    simp; omega
theorem span_newG {w : World} {base g n : Nat} {e : TypeId} (h : w.ownsRow base e 2 (.slice (some ⟨g, 0, none⟩) n n) n (madeCells (Value.cells (.agg #[.int .i64 0, .int .i64 0])) (n * 2)).toList) : w.heap[g]? = some (.cells (rowI (List.replicate (n * 2) 0)) e (0, 0)) := by
  have := heap_ownsG h
  rw [made_rowG] at this
  exact this

/-- A list of spans, flat, of which the first k are filled. -/
def flS (L : List Sp) (n k : Nat) : List Int := (L.take k).flatMap (fun p => [p.1, p.2]) ++ List.replicate ((n - k) * 2) 0
theorem flat2_len (L : List Sp) : (L.flatMap (fun p => [p.1, p.2])).length = L.length * 2 := by
  induction L with
  | nil => rfl
  | cons p L ih => simp [List.flatMap_cons, ih]; omega
theorem flS_len {L : List Sp} {n k : Nat} (hL : L.length = n) (hk : k ≤ n) : (flS L n k).length = n * 2 := by
  simp only [flS, List.length_append, flat2_len, List.length_take, List.length_replicate]; omega
theorem flS_zero (L : List Sp) (n : Nat) : flS L n 0 = List.replicate (n * 2) 0 := by simp [flS]
theorem flS_succ {L : List Sp} {n k : Nat} {p : Sp} (hL : L.length = n) (hk : L[k]? = some p) : ((flS L n k).set (k * 2) p.1).set (k * 2 + 1) p.2 = flS L n (k + 1) := by
  have hlt := (List.getElem?_eq_some_iff.1 hk).1
  have hlen : ((L.take k).flatMap (fun p => [p.1, p.2])).length = k * 2 := by rw [flat2_len, List.length_take]; omega
  have ht : L.take (k + 1) = L.take k ++ [p] := by rw [List.take_add_one, hk]; rfl
  unfold flS
  rw [ht, List.flatMap_append, show (n - k) * 2 = (n - (k + 1)) * 2 + 1 + 1 by omega, List.replicate_succ, List.replicate_succ]
  rw [List.set_append_right _ _ (by omega), hlen, List.set_append_right _ _ (by omega), hlen]
  simp
theorem flS_get {L : List Sp} {n i : Nat} {p : Sp} (hL : L.length = n) (hi : L[i]? = some p) : (flS L n n).getD (i * 2) 0 = p.1 ∧ (flS L n n).getD (i * 2 + 1) 0 = p.2 := by
  have hlt := (List.getElem?_eq_some_iff.1 hi).1
  have hd : L.drop i = p :: L.drop (i + 1) := by rw [List.drop_eq_getElem_cons hlt]; congr 1; exact (List.getElem?_eq_some_iff.1 hi).2
  have e : L = L.take i ++ p :: L.drop (i + 1) := by rw [← hd, List.take_append_drop]
  have hlen : ((L.take i).flatMap (fun p => [p.1, p.2])).length = i * 2 := by rw [flat2_len, List.length_take]; omega
  have hf : flS L n n = (L.take i).flatMap (fun p => [p.1, p.2]) ++ (p.1 :: p.2 :: (L.drop (i + 1)).flatMap (fun p => [p.1, p.2])) := by
    unfold flS
    rw [Nat.sub_self, Nat.zero_mul, List.replicate_zero, List.append_nil, List.take_of_length_le (by omega)]
    rw [show L.flatMap (fun p => [p.1, p.2]) = (L.take i ++ p :: L.drop (i + 1)).flatMap (fun p => [p.1, p.2]) from congrArg (fun l => List.flatMap (fun p : Sp => [p.1, p.2]) l) e]
    rw [List.flatMap_append, List.flatMap_cons]; rfl
  rw [hf]
  constructor
  · rw [List.getD_eq_getElem?_getD, List.getElem?_append_right (by omega), hlen, Nat.sub_self]; rfl
  · rw [List.getD_eq_getElem?_getD, List.getElem?_append_right (by omega), hlen, show i * 2 + 1 - i * 2 = 1 by omega]; rfl
theorem slice_flS {w : World} {g n : Nat} {L : List Sp} {t : TypeId} (hL : L.length = n) (hn : n ≤ 1000000) (h : w.heap[g]? = some (.cells (rowI (flS L n n)) t (0, 0))) : SliceOf encS 2 w (.slice (some ⟨g, 0, none⟩) n n) L := by
  subst hL
  refine ⟨some ⟨g, 0, none⟩, L.length, rfl, by omega, fun i p hi => ⟨g, 0, rfl, fun j u hu => ?_⟩⟩
  have hlt := (List.getElem?_eq_some_iff.1 hi).1
  obtain ⟨g0, g1⟩ := flS_get rfl hi
  have hl := flS_len (L := L) rfl (Nat.le_refl _)
  rcases j with _ | _ | j
  · have := cell_rowI (i := i * 2) h (by omega)
    simp only [encS, List.getElem?_cons_zero, Option.some.injEq] at hu
    rw [Nat.zero_add, Nat.add_zero, this, g0, hu]
  · have := cell_rowI (i := i * 2 + 1) h (by omega)
    simp only [encS, List.getElem?_cons_succ, List.getElem?_cons_zero, Option.some.injEq] at hu
    rw [Nat.zero_add, this, g1, hu]
  · simp [encS] at hu
/-- A row of which two cells may have been written. -/
def RowBut (W : World) (g : Nat) (cs : Array Value) (t : TypeId) (i j : Nat) : Prop := ∃ u v, W.heap[g]? = some (.cells ((cs.setIfInBounds i u).setIfInBounds j v) t (0, 0))
theorem RowBut.of {W : World} {g : Nat} {f : List Int} {t : TypeId} {i j : Nat} (h : W.heap[g]? = some (.cells (rowI f) t (0, 0))) (hi : i < f.length) (hj : j < f.length) : RowBut W g (rowI f) t i j := by
  refine ⟨iv (f.getD i 0), iv (f.getD j 0), h.trans ?_⟩
  have e : ∀ k, k < f.length → ∀ l : List Int, l = f → l.set k (f.getD k 0) = f := by
    rintro k hk l rfl
    refine List.ext_getElem? fun m => ?_
    rw [List.getElem?_set]
    split
    · subst m; simp [hk, List.getD_eq_getElem?_getD]
    · rfl
  rw [rowI_set, rowI_set, e i hi f rfl, e j hj f rfl]
theorem RowBut.below {W W' : World} {g : Nat} {cs : Array Value} {t : TypeId} {i j : Nat} (h : RowBut W g cs t i j) (hb : Below W.heap.size W W') : RowBut W' g cs t i j := by
  obtain ⟨u, v, h⟩ := h
  exact ⟨u, v, bblkG hb h⟩
theorem RowBut.set {W : World} {g : Nat} {cs : Array Value} {t : TypeId} {i j : Nat} (h : RowBut W g cs t i j) (u v : Value) : ((W.setCell ⟨g, i, none⟩ u).setCell ⟨g, j, none⟩ v).heap[g]? = some (.cells ((cs.setIfInBounds i u).setIfInBounds j v) t (0, 0)) := by
  obtain ⟨u', v', h⟩ := h
  have h1 := heap_setCell_same W g i _ t u h
  have h2 := heap_setCell_same _ g j _ t v h1
  rw [h2]
  congr 2
  apply Array.ext'
  simp only [Array.toList_setIfInBounds]
  refine List.ext_getElem? fun m => ?_
  simp only [List.getElem?_set, List.length_set]
  by_cases e1 : j = m
  · subst e1; simp
  · by_cases e2 : i = m
    · subst e2; simp [e1]
    · simp [e1, e2]
theorem RowBut.cell {W : World} {g : Nat} {cs : Array Value} {t : TypeId} {i j : Nat} (h : RowBut W g cs t i j) (hi : i < cs.size) (hj : j < cs.size) : (∃ u, W.cell? ⟨g, i, none⟩ = some u) ∧ (∃ v, W.cell? ⟨g, j, none⟩ = some v) ∧ W.frozen? ⟨g, i, none⟩ = false ∧ W.frozen? ⟨g, j, none⟩ = false := by
  obtain ⟨u, v, h⟩ := h
  refine ⟨⟨_, (cell_of_row _ _ _ _ _ _ h).trans (Array.getElem?_eq_getElem (by simp; omega))⟩, ⟨_, (cell_of_row _ _ _ _ _ _ h).trans (Array.getElem?_eq_getElem (by simp; omega))⟩, ?_, ?_⟩ <;> (unfold World.frozen?; rw [h]; rfl)
def cvG (W : World) (b o : Nat) : Value := (W.cell? ⟨b, o, none⟩).getD undef
theorem cvG_of {W : World} {b o : Nat} {v : Value} (h : W.cell? ⟨b, o, none⟩ = some v) : W.cell? ⟨b, o, none⟩ = some (cvG W b o) := by rw [cvG, h]; rfl
theorem isSome_setCellG (W : World) (p q : Addr) (v : Value) : ((W.setCell p v).cell? q).isSome = (W.cell? q).isSome := by
  unfold World.cell? World.setCell
  simp only [Array.getElem?_modify]
  by_cases h : p.block = q.block
  · rw [if_pos h]
    cases hb : W.heap[q.block]? with
    | none => rfl
    | some o =>
      cases o <;> try rfl
      rename_i c e fr
      show Option.isSome (if q.spot.isSome = true then none else (if p.spot.isSome = true then c else c.setIfInBounds p.off v)[q.off]?) = Option.isSome (if q.spot.isSome = true then none else c[q.off]?)
      split
      · rfl
      · split
        · rfl
        · rw [Array.getElem?_setIfInBounds]
          by_cases e : p.off = q.off
          · rw [if_pos e]
            by_cases hs : p.off < c.size
            · rw [if_pos hs, Array.getElem?_eq_getElem (by omega)]; rfl
            · rw [if_neg hs, Array.getElem?_eq_none (by omega)]
          · rw [if_neg e]
  · rw [if_neg h]
/-- What was written in two cells. -/
theorem RowBut.fix {Z : World} {g : Nat} {cs : Array Value} {t : TypeId} {i j : Nat} {u v : Value} (hij : i ≠ j) (hi : i < cs.size) (hj : j < cs.size) (h : RowBut ((Z.setCell ⟨g, i, none⟩ u).setCell ⟨g, j, none⟩ v) g cs t i j) :
    ((Z.setCell ⟨g, i, none⟩ u).setCell ⟨g, j, none⟩ v).heap[g]? = some (.cells ((cs.setIfInBounds i u).setIfInBounds j v) t (0, 0)) := by
  obtain ⟨a, b, hh⟩ := h
  have f0 : ((cs.setIfInBounds i a).setIfInBounds j b)[i]? = some a := by rw [Array.getElem?_setIfInBounds_ne (Ne.symm hij)]; simp [hi]
  have f1 : ((cs.setIfInBounds i a).setIfInBounds j b)[j]? = some b := by simp [hj]
  have hs : (Z.cell? ⟨g, i, none⟩).isSome = true := by
    rw [← isSome_setCellG Z ⟨g, i, none⟩ _ u, ← isSome_setCellG _ ⟨g, j, none⟩ _ v, cell_of_row _ _ _ _ _ _ hh, f0]; rfl
  have hs' : (Z.cell? ⟨g, j, none⟩).isSome = true := by
    rw [← isSome_setCellG Z ⟨g, i, none⟩ _ u, ← isSome_setCellG _ ⟨g, j, none⟩ _ v, cell_of_row _ _ _ _ _ _ hh, f1]; rfl
  have e0 : ((Z.setCell ⟨g, i, none⟩ u).setCell ⟨g, j, none⟩ v).cell? ⟨g, i, none⟩ = some u :=
    (World.cell?_setCell_other (a := ⟨g, j, none⟩) (b := ⟨g, i, none⟩) _ _ (by simp <;> omega)).trans (World.cell?_setCell_same' _ _ _ hs)
  have e1 : ((Z.setCell ⟨g, i, none⟩ u).setCell ⟨g, j, none⟩ v).cell? ⟨g, j, none⟩ = some v := by
    refine World.cell?_setCell_same' _ _ _ ?_
    rw [World.cell?_setCell_other (a := ⟨g, i, none⟩) (b := ⟨g, j, none⟩) _ _ (by simp <;> omega)]; exact hs'
  rw [cell_of_row _ _ _ _ _ _ hh] at e0 e1
  obtain rfl := Option.some.inj (f0.symm.trans e0)
  obtain rfl := Option.some.inj (f1.symm.trans e1)
  exact hh
end Go.Proofs.Ytdalilllakdamaa

/- Dry of package tenter. -/
namespace Go.Proofs.Ytdalilllakdamaa
open Go Go.RowKit Go.Shelf
attribute [local go_sem ↓] Go.wp_at_zero Go.wp_at_succ

/-- When a cloth is dry. -/
def dryS (S : List Sp) (fr : Nat) (c : Tn) : Sp := ((earL c S fr : Nat), (latL c S fr : Nat))
def DryRes (C : List Tn) (S : List Sp) (fr : Nat) (w : World) (e : Ending) (w' : World) : Prop :=
  ∃ g, e = .returned (.tuple #[.slice (some ⟨g, 0, none⟩) C.length C.length, iv 0]) ∧ SliceOf encS 2 w' (.slice (some ⟨g, 0, none⟩) C.length C.length) (C.map (dryS S fr)) ∧ Below w.heap.size w w'

theorem keepDry {C : List Tn} {R : List Int} {gap str : Int} {S : List Sp} {ca ra wa : Option Addr} {cc rc wc : Nat} {W0 X : World} {b : Nat} {row : Array Value} {i j : Nat} {u v : Value} (hI : FdIn C R gap str S ca ra wa cc rc wc W0) (hb : b < W0.heap.size) (hi : i < row.size) (hj : j < row.size)
    (h : X.cell? ⟨b, 0, none⟩ = some (.slice ca C.length cc) ∧ X.cell? ⟨b, 1, none⟩ = some (.slice ra R.length rc) ∧ X.cell? ⟨b, 2, none⟩ = some (iv gap) ∧ X.cell? ⟨b, 3, none⟩ = some (iv str) ∧ X.cell? ⟨b, 4, none⟩ = some (.slice wa S.length wc) ∧ FdIn C R gap str S ca ra wa cc rc wc X ∧ RowBut X W0.heap.size row 29 i j ∧ X.cell? ⟨W0.heap.size, i, none⟩ = some (cvG X W0.heap.size i) ∧ X.cell? ⟨W0.heap.size, j, none⟩ = some (cvG X W0.heap.size j) ∧ X.frozen? ⟨W0.heap.size, i, none⟩ = false ∧ X.frozen? ⟨W0.heap.size, j, none⟩ = false ∧ Below W0.heap.size W0 X) : ((X.setCell ⟨W0.heap.size, i, none⟩ u).setCell ⟨W0.heap.size, j, none⟩ v).cell? ⟨b, 0, none⟩ = some (.slice ca C.length cc) ∧ ((X.setCell ⟨W0.heap.size, i, none⟩ u).setCell ⟨W0.heap.size, j, none⟩ v).cell? ⟨b, 1, none⟩ = some (.slice ra R.length rc) ∧ ((X.setCell ⟨W0.heap.size, i, none⟩ u).setCell ⟨W0.heap.size, j, none⟩ v).cell? ⟨b, 2, none⟩ = some (iv gap) ∧ ((X.setCell ⟨W0.heap.size, i, none⟩ u).setCell ⟨W0.heap.size, j, none⟩ v).cell? ⟨b, 3, none⟩ = some (iv str) ∧ ((X.setCell ⟨W0.heap.size, i, none⟩ u).setCell ⟨W0.heap.size, j, none⟩ v).cell? ⟨b, 4, none⟩ = some (.slice wa S.length wc) ∧ FdIn C R gap str S ca ra wa cc rc wc ((X.setCell ⟨W0.heap.size, i, none⟩ u).setCell ⟨W0.heap.size, j, none⟩ v) ∧ RowBut ((X.setCell ⟨W0.heap.size, i, none⟩ u).setCell ⟨W0.heap.size, j, none⟩ v) W0.heap.size row 29 i j ∧ ((X.setCell ⟨W0.heap.size, i, none⟩ u).setCell ⟨W0.heap.size, j, none⟩ v).cell? ⟨W0.heap.size, i, none⟩ = some (cvG ((X.setCell ⟨W0.heap.size, i, none⟩ u).setCell ⟨W0.heap.size, j, none⟩ v) W0.heap.size i) ∧ ((X.setCell ⟨W0.heap.size, i, none⟩ u).setCell ⟨W0.heap.size, j, none⟩ v).cell? ⟨W0.heap.size, j, none⟩ = some (cvG ((X.setCell ⟨W0.heap.size, i, none⟩ u).setCell ⟨W0.heap.size, j, none⟩ v) W0.heap.size j) ∧ ((X.setCell ⟨W0.heap.size, i, none⟩ u).setCell ⟨W0.heap.size, j, none⟩ v).frozen? ⟨W0.heap.size, i, none⟩ = false ∧ ((X.setCell ⟨W0.heap.size, i, none⟩ u).setCell ⟨W0.heap.size, j, none⟩ v).frozen? ⟨W0.heap.size, j, none⟩ = false ∧ Below W0.heap.size W0 ((X.setCell ⟨W0.heap.size, i, none⟩ u).setCell ⟨W0.heap.size, j, none⟩ v) := by
  obtain ⟨h0, h1, h2, h3, h4, h5, h6, h7, h8, h9, h10, h11⟩ := h
  have hb2 : Below W0.heap.size W0 ((X.setCell ⟨W0.heap.size, i, none⟩ u).setCell ⟨W0.heap.size, j, none⟩ v) := bput (bput h11 (p := ⟨W0.heap.size, i, none⟩) (Nat.le_refl _) u) (p := ⟨W0.heap.size, j, none⟩) (Nat.le_refl _) v
  have hsame : ∀ o, ((X.setCell ⟨W0.heap.size, i, none⟩ u).setCell ⟨W0.heap.size, j, none⟩ v).cell? ⟨b, o, none⟩ = X.cell? ⟨b, o, none⟩ := fun o =>
    World.cell?_of_block ((Below.heap_setCell _ _ _ _ (Nat.ne_of_lt hb)).trans (Below.heap_setCell _ _ _ _ (Nat.ne_of_lt hb)))
  have hrb : RowBut ((X.setCell ⟨W0.heap.size, i, none⟩ u).setCell ⟨W0.heap.size, j, none⟩ v) W0.heap.size row 29 i j := ⟨u, v, h6.set u v⟩
  obtain ⟨⟨_, k1⟩, ⟨_, k2⟩, k3, k4⟩ := hrb.cell hi hj
  exact ⟨(hsame _).trans h0, (hsame _).trans h1, (hsame _).trans h2, (hsame _).trans h3, (hsame _).trans h4, hI.below hb2, hrb, cvG_of k1, cvG_of k2, k3, k4, hb2⟩
theorem kcellG {W W1 : World} {b o : Nat} {v : Value} (hb : Below W.heap.size W W1) (h : W.cell? ⟨b, o, none⟩ = some v) : W1.cell? ⟨b, o, none⟩ = some v := (hb.cell (p := ⟨b, o, none⟩) (lt_of_cell h)).trans h
theorem kfrozenG {W W1 : World} {b o : Nat} {v : Value} (hb : Below W.heap.size W W1) (h : W.cell? ⟨b, o, none⟩ = some v) (hf : W.frozen? ⟨b, o, none⟩ = false) : W1.frozen? ⟨b, o, none⟩ = false := (hb.frozen (p := ⟨b, o, none⟩) (lt_of_cell h)).trans hf
end Go.Proofs.Ytdalilllakdamaa

/- A yard: at which lengths cloths can be hung. -/
namespace Go.Proofs.Ytdalilllakdamaa
open Go Go.RowKit Go.Shelf
attribute [local go_sem ↓] Go.wp_at_zero Go.wp_at_succ

/-- At which length a cloth may hang at most. -/
def permI (str own : Int) : Int := own * (1000 + str) / 1000
def lenS (str : Int) (c : Tn) : Sp := if permI str c.1.1 < c.1.2 then (1, 0) else (c.1.2, permI str c.1.1)

theorem lenKeep {X Y W3 : World} {q0 q1 q2 q3 q4 q5 q6 : Addr} {v0 v1 v2 v3 v4 v5 v6 : Value} (hb : Below X.heap.size X Y) (h : X.cell? q0 = some v0 ∧ X.cell? q1 = some v1 ∧ X.cell? q2 = some v2 ∧ X.cell? q3 = some v3 ∧ X.cell? q4 = some v4 ∧ X.cell? q5 = some v5 ∧ X.cell? q6 = some v6 ∧ Below W3.heap.size W3 X) :
    Hid (Y.cell? q0 = some v0 ∧ Y.cell? q1 = some v1 ∧ Y.cell? q2 = some v2 ∧ Y.cell? q3 = some v3 ∧ Y.cell? q4 = some v4 ∧ Y.cell? q5 = some v5 ∧ Y.cell? q6 = some v6) := by
  obtain ⟨h0, h1, h2, h3, h4, h5, h6, -⟩ := h
  have key : ∀ {q : Addr} {v : Value}, X.cell? q = some v → Y.cell? q = some v := fun {q v} h => (hb.cell (p := q) (World.block_lt_of_cell? X _ h)).trans h
  exact ⟨key h0, key h1, key h2, key h3, key h4, key h5, key h6⟩
theorem cset2G {W : World} {g b o : Nat} {v0 v1 : Value} (hg : b ≠ g) : ((W.setCell ⟨g, 0, none⟩ v0).setCell ⟨g, 1, none⟩ v1).cell? ⟨b, o, none⟩ = W.cell? ⟨b, o, none⟩ :=
  World.cell?_of_block ((Below.heap_setCell _ _ _ _ hg).trans (Below.heap_setCell _ _ _ _ hg))
theorem bset2G {w W : World} {g : Nat} {v0 v1 : Value} (h : Below w.heap.size w W) (hg : w.heap.size ≤ g) : Below w.heap.size w ((W.setCell ⟨g, 0, none⟩ v0).setCell ⟨g, 1, none⟩ v1) :=
  bput (p := ⟨g, 1, none⟩) (bput (p := ⟨g, 0, none⟩) h hg v0) hg v1
/-- A span lies at p. -/
def LenCut (W3 : World) (l2 pp : Int) (p : Value) (wx : World) : Prop := ∃ g, p = .pointer (some ⟨g, 0, none⟩) ∧ Below W3.heap.size W3 wx ∧ wx.cell? ⟨g, 0, none⟩ = some (iv l2) ∧ wx.cell? ⟨g, 1, none⟩ = some (iv pp)
theorem lenA {W3 w3 : World} {l2 pp : Int} {t : TypeId} (h : Below W3.heap.size W3 w3) : LenCut W3 l2 pp (.pointer (some ⟨w3.heap.size, 0, none⟩)) (w3.alloc (.cells #[iv l2, iv pp] t)) := by
  have hr := heap_new w3 #[iv l2, iv pp] t
  refine ⟨_, rfl, bpush h _, ?_, ?_⟩ <;> (rw [cell_of_row _ _ _ _ _ _ hr]; rfl)
theorem lenB {W3 w3 : World} {l2 pp : Int} {g : Nat} (h : Below W3.heap.size W3 w3) (hg : W3.heap.size ≤ g) (k0 : w3.cell? ⟨g, 0, none⟩ = some (iv 0)) (k1 : w3.cell? ⟨g, 1, none⟩ = some (iv 0)) :
    LenCut W3 l2 pp (.pointer (some ⟨g, 0, none⟩)) ((w3.setCell ⟨g, 0, none⟩ (iv l2)).setCell ⟨g, 1, none⟩ (iv pp)) := by
  refine ⟨g, rfl, bset2G h hg, ?_, ?_⟩
  all_goals go_simp
theorem kdrewG {X : World} {a : Addr} {v : Value} (h : X.cell? a = some v) : X.drew.cell? a = some v := h
theorem kpushG {X : World} {a : Addr} {v : Value} {o : Obj} (h : X.cell? a = some v) : (X.alloc o).cell? a = some v := (World.cell?_alloc_lt _ _ _ (World.block_lt_of_cell? X _ h)).trans h
end Go.Proofs.Ytdalilllakdamaa

/- A yard is made. -/
namespace Go.Proofs.Ytdalilllakdamaa
open Go Go.RowKit Go.Shelf
attribute [local go_sem ↓] Go.wp_at_zero Go.wp_at_succ

def encV1 (v : Option Nat) : List Value := [.map v]
theorem encV1_len (v : Option Nat) : (encV1 v).length = 1 := rfl
theorem encV1_cell {W : World} {g : Nat} {v : Option Nat} (h : W.cell? ⟨g, 0, none⟩ = some (.map v)) : ∀ j u, (encV1 v)[j]? = some u → W.cell? ⟨g, j, none⟩ = some u := by
  intro j u hu
  rcases j with _ | j
  · simp only [encV1, List.getElem?_cons_zero, Option.some.injEq] at hu
    rw [← hu]; exact h
  · simp [encV1] at hu
theorem owns_addrG {α : Type} {enc : α → List Value} {sz e base : Nat} {w : World} {v : Value} {xs : List α} (h : Owns enc sz e base w v xs) (hne : 0 < xs.length) : ∃ g c, v = .slice (some ⟨g, 0, none⟩) xs.length c := by
  obtain ⟨h1, h2⟩ := h
  rcases h2 with ⟨rfl, h0⟩ | ⟨g, cap, cur, rfl, -⟩
  · omega
  · exact ⟨g, _, rfl⟩

theorem results_row1 {P : Program} {fn : Func} {w : World} {p : Tmp} {ty t : TypeId} {g : Nat} {cs : Array Value} {d : TypeDesc} (h : fn.results = #[.cell p ty]) (tmps : Array Value) (hp : tmps.getD p undef = .pointer (some ⟨g, 0, none⟩))
    (hg : w.heap[g]? = some (.cells cs t (0, 0))) (hu : P.underlying ty = some d) (hd : (match d with | .struct _ | .array _ _ => true | _ => false) = true) (hi : (P.info? ty).map (·.size) = some cs.size) :
    (results fn tmps).run P w = .ok (.agg cs) w := by
  have e : tmps[p]?.getD undef = .pointer (some ⟨g, 0, none⟩) := by simpa using hp
  simp [results, h, e, asAddr, run_loadVar_row w g t ty cs (0, 0) d hg hu hd hi]
theorem grown_setG (W : World) (g o : Nat) (u : Value) : W.grownBy (W.setCell ⟨g, o, none⟩ u) (some g) :=
  ⟨rfl, rfl, rfl, by simp [World.setCell], fun k hk hne => Below.heap_setCell _ _ _ _ (fun e => hne (by rw [e]))⟩
theorem owns_setG {α : Type} {enc : α → List Value} {sz e base : Nat} {W : World} {v : Value} {F : List α} {g : Nat} (h : Owns enc sz e base W v F) (hg : g < base) (o : Nat) (u : Value) : Owns enc sz e base (W.setCell ⟨g, o, none⟩ u) v F := by
  refine World.ownsRow.kept h (grown_setG _ _ _ _) ?_
  cases hv : v.ownBlock with
  | none => exact .inl rfl
  | some q =>
    have := (World.ownsRow.lt h q hv).1
    refine .inr (fun e => ?_)
    simp only [Option.some.injEq] at e; omega
end Go.Proofs.Ytdalilllakdamaa

/- Hangs of package tenter. -/
namespace Go.Proofs.Ytdalilllakdamaa
open Go Go.RowKit Go.Shelf
attribute [local go_sem ↓] Go.wp_at_zero Go.wp_at_succ

def HangsRes (C : List Tn) (str : Int) (w : World) (e : Ending) (w' : World) : Prop :=
  ∃ g, e = .returned (.tuple #[.slice (some ⟨g, 0, none⟩) C.length C.length, iv 0]) ∧ SliceOf encS 2 w' (.slice (some ⟨g, 0, none⟩) C.length C.length) (C.map (lenS str)) ∧ Below w.heap.size w w'
end Go.Proofs.Ytdalilllakdamaa
