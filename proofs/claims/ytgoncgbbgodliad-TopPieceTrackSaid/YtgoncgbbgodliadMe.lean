import Derived.Test.YtgoncgbbgodliadMb
import Derived.Test.YtgoncgbbgodliadMa
import Derived.Test.YtgoncgbbgodliadOwn
import Derived.RegionTactic
import Derived.IntWalk
import Derived.Deep.RegionHeld3
import Derived.Deep.DrawnRows
import Derived.Carry
import Derived.Deep.DeepCutAuto
import Derived.Test.YtgoncgbbgodliadSj
/- The checks of package tenter. -/
namespace Go.Proofs.Ytgoncgbbgodliad
open Go Go.RowKit

/-- A cloth to be hung: how long it is, and how much water it has. -/
abbrev Tn := Sp × Sp
def encN (c : Tn) : List Value := [iv c.1.1, iv c.1.2, iv c.2.1, iv c.2.2]
def vTn (c : Tn) : Bool := okSpan c.1.1 c.1.2 1 2000 && okSpan c.2.1 c.2.2 0 500

def vWth (p : Sp) : Bool := okSpan p.1 p.2 0 100
/-- A field: its cloths, its tenters, its gap and what the statute permits. -/
structure Fd where
  (C : List Tn) (R : List Int) (gap str : Int)
def fcells (cv rv : Value) (gap str : Int) : Array Value := #[cv, rv, iv gap, iv str]
def vFd (f : Fd) : Bool := f.C.all vTn && (f.R.all (inB 1 2000) && (inB 0 50 f.gap && inB 0 200 f.str))

def fdChk (f : Fd) : Int := if 7 < f.C.length then 5 else if inB 1 3 f.R.length = true then (if vFd f = true then 0 else 2) else 4
theorem fdChk_zero {f : Fd} (h : fdChk f = 0) : f.C.length ≤ 7 ∧ inB 1 3 f.R.length = true ∧ vFd f = true := by
  unfold fdChk at h
  split at h
  · omega
  · split at h
    · split at h
      · exact ⟨by omega, by assumption, by assumption⟩
      · omega
    · omega
end Go.Proofs.Ytgoncgbbgodliad

/- When a cloth is dry. -/
namespace Go.Proofs.Ytgoncgbbgodliad
open Go Go.RowKit Go.Shelf
attribute [local go_sem ↓] Go.wp_at_zero Go.wp_at_succ

/-- At which hour something with so much water is dry, that hangs from an hour on, after which the hours dry so much. -/
def dryL : List Int → Int → Nat → Nat
  | [], wt, h => if 0 < wt then h + 1 else h
  | x :: xs, wt, h => if 0 < wt then dryL xs (wt - x) (h + 1) else h
theorem dryL_done {wt : Int} (h : ¬ 0 < wt) (l : List Int) (n : Nat) : dryL l wt n = n := by cases l <;> simp [dryL, h]
theorem dryL_step {S : List Sp} {side : Sp → Int} {wt : Int} {k : Nat} {p : Sp} (h0 : 0 < wt) (hp : S[k]? = some p) : dryL ((S.map side).drop k) wt k = dryL ((S.map side).drop (k + 1)) (wt - side p) (k + 1) := by
  have hk := (List.getElem?_eq_some_iff.1 hp).1
  have : (S.map side).drop k = side p :: (S.map side).drop (k + 1) := by
    rw [List.drop_eq_getElem_cons (by simpa using hk)]
    congr 1
    have := (List.getElem?_eq_some_iff.1 hp).2
    simp [this]
  rw [this, dryL, if_pos h0]
theorem dryL_end {S : List Sp} {side : Sp → Int} {wt : Int} (h0 : 0 < wt) : dryL ((S.map side).drop S.length) wt S.length = S.length + 1 := by
  rw [List.drop_of_length_le (by simp), dryL, if_pos h0]
theorem dryL_le {S : List Sp} {side : Sp → Int} : ∀ (d k : Nat) (wt : Int), k + d = S.length → dryL ((S.map side).drop k) wt k ≤ S.length + 1 ∧ k ≤ dryL ((S.map side).drop k) wt k := by
  intro d
  induction d with
  | zero =>
    intro k wt hk
    obtain rfl : k = S.length := by omega
    by_cases h : 0 < wt
    · rw [dryL_end h]; omega
    · rw [dryL_done h]; omega
  | succ d ih =>
    intro k wt hk
    by_cases h : 0 < wt
    · obtain ⟨p, hp⟩ := getElem?_of_lt (show k < S.length by omega)
      rw [dryL_step h hp]
      have := ih (k + 1) (wt - side p) (by omega)
      omega
    · rw [dryL_done h]; omega

theorem bblkG {W W1 : World} {k : Nat} {o : Obj} (hb : Below W.heap.size W W1) (h : W.heap[k]? = some o) : W1.heap[k]? = some o := (hb.block k (Array.getElem?_eq_some_iff.1 h).1).trans h
theorem sl_rowG {α : Type} {enc : α → List Value} {sz : Nat} {w : World} {a : Option Addr} {n c k : Nat} {L : List α} {p : α} (h : SliceOf enc sz w (.slice a n c) L) (hk : L[k]? = some p) :
    ∃ b off, a = some ⟨b, off, none⟩ ∧ ∀ j u, (enc p)[j]? = some u → w.cell? ⟨b, off + k * sz + j, none⟩ = some u := by
  obtain ⟨a', c', hv, _, hc⟩ := h
  simp only [Value.slice.injEq] at hv
  obtain ⟨rfl, rfl, rfl⟩ := hv
  exact hc k p hk

end Go.Proofs.Ytgoncgbbgodliad

/- The first and the last hour at which a cloth can be dry; how late it can be hung. -/
namespace Go.Proofs.Ytgoncgbbgodliad
open Go Go.RowKit Go.Shelf
attribute [local go_sem ↓] Go.wp_at_zero Go.wp_at_succ

/-- The first hour at which a cloth can be dry, and the last one. -/
def earL (c : Tn) (S : List Sp) (fr : Nat) : Nat := dryL ((S.map Prod.snd).drop fr) c.2.1 fr
def latL (c : Tn) (S : List Sp) (fr : Nat) : Nat := dryL ((S.map Prod.fst).drop fr) c.2.2 fr
theorem vTn_water {c : Tn} (h : vTn c = true) : (0 ≤ c.2.1 ∧ c.2.1 ≤ 500) ∧ (0 ≤ c.2.2 ∧ c.2.2 ≤ 500) ∧ c.2.1 ≤ c.2.2 := by
  simp only [vTn, Bool.and_eq_true] at h
  obtain ⟨p1, p2, p3, p4, p5⟩ := okSpan_iff.1 h.2
  omega

/-- The latest hour, up to so many hours, at which something can be hung. -/
def lateTo (lt : Nat → Nat) (rain : Nat) : Nat → Option Nat
  | 0 => none
  | k + 1 => if lt k ≤ rain then some k else lateTo lt rain k
def lateO (c : Tn) (S : List Sp) (rain : Nat) : Option Nat := lateTo (latL c S) rain (rain + 1)
theorem lateTo_some {lt : Nat → Nat} {rain : Nat} : ∀ {n k : Nat}, lateTo lt rain n = some k → k < n ∧ lt k ≤ rain ∧ ∀ j, k < j → j < n → rain < lt j
  | 0, _, h => by simp [lateTo] at h
  | n + 1, k, h => by
    unfold lateTo at h
    split at h
    · obtain rfl := Option.some.inj h
      exact ⟨Nat.lt_succ_self _, by assumption, fun j h1 h2 => by omega⟩
    · obtain ⟨h1, h2, h3⟩ := lateTo_some h
      refine ⟨by omega, h2, fun j h4 h5 => ?_⟩
      by_cases e : j = n
      · subst e; omega
      · exact h3 j h4 (by omega)
theorem lateTo_none {lt : Nat → Nat} {rain : Nat} : ∀ {n : Nat}, lateTo lt rain n = none → ∀ j, j < n → rain < lt j
  | 0, _, j, hj => by omega
  | n + 1, h, j, hj => by
    unfold lateTo at h
    split at h
    · cases h
    · by_cases e : j = n
      · subst e; omega
      · exact lateTo_none h j (by omega)
def foundV : Option Nat → Value
  | some h => .tuple #[iv h, .bool true]
  | none => .tuple #[iv 0, .bool false]

end Go.Proofs.Ytgoncgbbgodliad

/- How late a cloth can be hung: the calls from outside, at valid fields. -/
namespace Go.Proofs.Ytgoncgbbgodliad
open Go Go.RowKit Go.Shelf
def zdr : Array Value := #[.slice none 0 0, .slice none 0 0, iv 0, iv 0, .slice none 0 0]

/-- What there is when a call of a field in some weather begins. -/
structure FdIn (C : List Tn) (R : List Int) (gap str : Int) (S : List Sp) (ca ra wa : Option Addr) (cc rc wc : Nat) (w : World) : Prop where
  cl : SliceOf encN 4 w (.slice ca C.length cc) C
  fr : Ints w (.slice ra R.length rc) R
  we : SliceOf encS 2 w (.slice wa S.length wc) S
theorem FdIn.below {C : List Tn} {R : List Int} {gap str : Int} {S : List Sp} {ca ra wa : Option Addr} {cc rc wc : Nat} {w w' : World} (h : FdIn C R gap str S ca ra wa cc rc wc w) (hb : Below w.heap.size w w') : FdIn C R gap str S ca ra wa cc rc wc w' :=
  ⟨h.cl.below hb, h.fr.below hb, h.we.below hb⟩
/-- A valid field in valid weather. -/
structure FdOk (C : List Tn) (R : List Int) (gap str : Int) (S : List Sp) : Prop where
  ck : fdChk ⟨C, R, gap, str⟩ = 0
  sl : 1 ≤ S.length ∧ S.length ≤ 24
  sv : S.all vWth = true
theorem FdOk.len {C : List Tn} {R : List Int} {gap str : Int} {S : List Sp} (h : FdOk C R gap str S) : C.length ≤ 7 := (fdChk_zero h.ck).1
theorem FdOk.tn {C : List Tn} {R : List Int} {gap str : Int} {S : List Sp} (h : FdOk C R gap str S) {k : Nat} {c : Tn} (hk : C[k]? = some c) : vTn c = true := by
  have := (fdChk_zero h.ck).2.2
  simp only [vFd, Bool.and_eq_true, List.all_eq_true] at this
  exact this.1 c (List.mem_of_getElem? hk)

def lateV : Option Nat → Value
  | some h => .tuple #[iv h, iv 0]
  | none => .tuple #[iv 0, iv 9]
end Go.Proofs.Ytgoncgbbgodliad

/- Turns: stocks that are free, visits, the custom's order: plain. -/
namespace Go.Proofs.Ytgoncgbbgodliad
/-- The first place of the least one of the first k. -/
def bestTo (f : List Int) : Nat → Nat
  | 0 => 0
  | k + 1 => if f.getD k 0 < f.getD (bestTo f k) 0 then k else bestTo f k
def best (f : List Int) : Nat := bestTo f f.length
theorem bestTo_le (f : List Int) : ∀ k, bestTo f k ≤ k - 1
  | 0 => by simp [bestTo]
  | k + 1 => by
    have := bestTo_le f k
    unfold bestTo
    split <;> omega
theorem bestTo_min (f : List Int) : ∀ k j, j < k → f.getD (bestTo f k) 0 ≤ f.getD j 0
  | 0, j, h => by omega
  | k + 1, j, h => by
    have ih := bestTo_min f k
    unfold bestTo
    split
    · by_cases hj : j = k
      · subst hj; omega
      · have := ih j (by omega); omega
    · by_cases hj : j = k
      · subst hj; omega
      · exact ih j (by omega)
theorem best_lt {f : List Int} (h : 0 < f.length) : best f < f.length := by
  have := bestTo_le f f.length
  unfold best; omega
/-- When a cloth that comes at c is taken, and when each stock is free behind it. -/
def takeAt (f : List Int) (c : Int) : Int := max c (f.getD (best f) 0)
def stepF (f : List Int) (c s : Int) : List Int := f.set (best f) (takeAt f c + s)
theorem stepF_len (f : List Int) (c s : Int) : (stepF f c s).length = f.length := by simp [stepF]
/-- The visits of the cloths of an order: which one, when it is taken, when it is done. -/
def visL (co st : Nat → Int) : List Int → List Nat → List (Nat × Int × Int)
  | _, [] => []
  | f, x :: o => (x, takeAt f (co x), takeAt f (co x) + st x) :: visL co st (stepF f (co x) (st x)) o
theorem visL_len (co st : Nat → Int) : ∀ (o : List Nat) (f : List Int), (visL co st f o).length = o.length
  | [], _ => rfl
  | x :: o, f => by simp [visL, visL_len co st o]
def endL (l : List (Nat × Int × Int)) : Int := l.foldl (fun m v => max m v.2.2) 0
def patL (co : Nat → Int) (limit : Int) (l : List (Nat × Int × Int)) : Bool := l.all fun v => decide (v.2.1 - co v.1 ≤ limit)
def putTo (l : List (Nat × Int × Int)) (z : List Int) : List Int := l.foldl (fun z v => z.set v.1 v.2.1) z
/-- The least number from k on that does, or the one at which the fuel ends. -/
def leastB (p : Nat → Bool) : Nat → Nat → Nat
  | 0, k => k
  | f + 1, k => if p k then k else leastB p f (k + 1)
def fewS (co st : Nat → Int) (o : List Nat) (limit : Int) : Nat := leastB (fun k => patL co limit (visL co st (List.replicate k 0) o)) (o.length - 1) 1

def cnt (f : List Int) (x : Int) : Nat := f.countP (fun y => decide (y ≤ x))
/-- The stocks f are free no later than the stocks g. -/
def Dom (f g : List Int) : Prop := ∀ x, cnt g x ≤ cnt f x
theorem cnt_pos {f : List Int} {x : Int} (h : 0 < f.length) : 0 < cnt f x ↔ f.getD (best f) 0 ≤ x := by
  unfold cnt
  rw [List.countP_pos_iff]
  constructor
  · rintro ⟨y, hy, hx⟩
    obtain ⟨j, hj, rfl⟩ := List.getElem_of_mem hy
    have := bestTo_min f f.length j hj
    unfold best
    simp only [List.getD_eq_getElem?_getD, List.getElem?_eq_getElem hj, Option.getD_some, decide_eq_true_eq] at this hx ⊢
    omega
  · intro hx
    have hb := best_lt h
    refine ⟨f[best f], List.getElem_mem _, ?_⟩
    simpa [List.getD_eq_getElem?_getD, List.getElem?_eq_getElem hb] using hx
theorem cnt_set {f : List Int} {i : Nat} (h : i < f.length) (v x : Int) : cnt (f.set i v) x = cnt f x - (if f.getD i 0 ≤ x then 1 else 0) + (if v ≤ x then 1 else 0) := by
  unfold cnt
  rw [List.countP_set h]
  simp [List.getD_eq_getElem?_getD, List.getElem?_eq_getElem h]
theorem Dom.min {f g : List Int} (h : Dom f g) (hf : 0 < f.length) (hg : 0 < g.length) : f.getD (best f) 0 ≤ g.getD (best g) 0 := by
  have h1 := (cnt_pos (x := g.getD (best g) 0) hg).2 (Int.le_refl _)
  exact (cnt_pos hf).1 (Nat.lt_of_lt_of_le h1 (h _))
theorem Dom.step {f g : List Int} (h : Dom f g) (hf : 0 < f.length) (hg : 0 < g.length) {c s s' : Int} (hs : s ≤ s') : takeAt f c ≤ takeAt g c ∧ Dom (stepF f c s) (stepF g c s') := by
  have hm := h.min hf hg
  have ht : takeAt f c ≤ takeAt g c := by unfold takeAt; omega
  refine ⟨ht, fun x => ?_⟩
  unfold stepF
  rw [cnt_set (best_lt hf), cnt_set (best_lt hg)]
  have h1 := h x
  have p1 := cnt_pos (f := f) (x := x) hf
  have p2 := cnt_pos (f := g) (x := x) hg
  by_cases a : f.getD (best f) 0 ≤ x
  · have a1 := p1.2 a
    by_cases b : g.getD (best g) 0 ≤ x
    · have b1 := p2.2 b
      simp only [a, b, if_true]
      split <;> split <;> omega
    · simp only [a, b, if_true, if_false]
      have b1 : cnt g x = 0 := by
        cases hc : cnt g x with
        | zero => rfl
        | succ n => exact absurd (p2.1 (by omega)) b
      split <;> split <;> omega
  · have b : ¬ g.getD (best g) 0 ≤ x := by omega
    simp only [a, b, if_false]
    split <;> split <;> omega
theorem Dom.refl (f : List Int) : Dom f f := fun _ => Nat.le_refl _
/-- The same cloths, none of them later. -/
inductive Sooner : List (Nat × Int × Int) → List (Nat × Int × Int) → Prop
  | nil : Sooner [] []
  | cons {a b : Nat × Int × Int} {l m : List (Nat × Int × Int)} : (a.1 = b.1 ∧ a.2.1 ≤ b.2.1 ∧ a.2.2 ≤ b.2.2) → Sooner l m → Sooner (a :: l) (b :: m)
/-- Shorter stays: nobody is taken later. -/
theorem vis_mono (co st st' : Nat → Int) : ∀ (o : List Nat) (f g : List Int), (∀ x ∈ o, st x ≤ st' x) → Dom f g → 0 < f.length → 0 < g.length →
    Sooner (visL co st f o) (visL co st' g o)
  | [], _, _, _, _, _, _ => Sooner.nil
  | x :: o, f, g, hs, h, hf, hg => by
    obtain ⟨h1, h2⟩ := h.step hf hg (c := co x) (hs x (by simp))
    have := hs x (by simp)
    refine Sooner.cons ⟨rfl, h1, ?_⟩ (vis_mono co st st' o _ _ (fun y hy => hs y (by simp [hy])) h2 (by rw [stepF_len]; exact hf) (by rw [stepF_len]; exact hg))
    simp only; omega
theorem pat_mono {co : Nat → Int} {limit : Int} : ∀ {a b : List (Nat × Int × Int)}, Sooner a b → patL co limit b = true → patL co limit a = true
  | _, _, .nil, h => h
  | _, _, .cons (a := x) (b := y) h t, hb => by
    simp only [patL, List.all_cons, Bool.and_eq_true, decide_eq_true_eq] at hb ⊢
    refine ⟨?_, pat_mono t hb.2⟩
    have := h.1
    rw [this]; omega
theorem leastB_ge (p : Nat → Bool) : ∀ f k, k ≤ leastB p f k
  | 0, k => Nat.le_refl _
  | f + 1, k => by
    unfold leastB
    split
    · exact Nat.le_refl _
    · have := leastB_ge p f (k + 1); omega
theorem leastB_mono {p q : Nat → Bool} (h : ∀ k, 0 < k → q k = true → p k = true) : ∀ f k, 0 < k → leastB p f k ≤ leastB q f k
  | 0, k, _ => Nat.le_refl _
  | f + 1, k, hk => by
    unfold leastB
    by_cases hq : q k = true
    · rw [if_pos hq, if_pos (h k hk hq)]; exact Nat.le_refl _
    · rw [if_neg hq]
      split
      · have := leastB_ge q f (k + 1); omega
      · exact leastB_mono h f (k + 1) (by omega)
theorem few_mono (co st st' : Nat → Int) (o : List Nat) (limit : Int) (hs : ∀ x ∈ o, st x ≤ st' x) : fewS co st o limit ≤ fewS co st' o limit :=
  leastB_mono (fun k hk h => pat_mono (vis_mono co st st' o _ _ hs (Dom.refl _) (by rw [List.length_replicate]; exact hk) (by rw [List.length_replicate]; exact hk)) h) _ _ (by omega)
theorem put_mono : ∀ {a b : List (Nat × Int × Int)}, Sooner a b → ∀ (z z' : List Int), z.length = z'.length → (∀ i, z.getD i 0 ≤ z'.getD i 0) → ∀ i, (putTo a z).getD i 0 ≤ (putTo b z').getD i 0
  | _, _, .nil, _, _, _, h => h
  | _, _, .cons (a := x) (b := y) h t, z, z', hl, hz => by
    simp only [putTo, List.foldl_cons]
    refine put_mono t _ _ (by simp [hl]) (fun i => ?_)
    rw [h.1]
    have := hz i
    simp only [List.getD_eq_getElem?_getD, List.getElem?_set] at this ⊢
    by_cases e : y.1 = i
    · subst e
      simp only [if_true]
      by_cases e2 : y.1 < z.length
      · rw [if_pos e2, if_pos (by omega)]; exact h.2.1
      · rw [if_neg e2, if_neg (by omega)]; exact Int.le_refl _
    · simp only [if_neg e]; exact this
/-- A list that an order that is strict sorts, is one alone. -/
theorem sorted_one {lt : Nat → Nat → Prop} (has : ∀ a b, lt a b → lt b a → False) {o o' : List Nat} (hp : o.Perm o') (h : o.Pairwise lt) (h' : o'.Pairwise lt) : o = o' :=
  List.Perm.eq_of_pairwise (fun a b _ _ h1 h2 => (has a b h1 h2).elim) h h' hp
/-- Cloths that are all alike. -/
theorem vis_alike (co st : Nat → Int) (c s : Int) : ∀ (o : List Nat) (f : List Int), (∀ x ∈ o, co x = c ∧ st x = s) → (visL co st f o).map (fun v => v.2) = (visL (fun _ => c) (fun _ => s) f (List.replicate o.length 0)).map (fun v => v.2)
  | [], _, _ => rfl
  | x :: o, f, h => by
    obtain ⟨h1, h2⟩ := h x (by simp)
    simp only [visL, List.length_cons, List.replicate_succ, List.map_cons, h1, h2]
    rw [vis_alike co st c s o _ (fun y hy => h y (by simp [hy]))]
theorem endL_map (l : List (Nat × Int × Int)) : endL l = (l.map fun v => v.2).foldl (fun m v => max m v.2) 0 := by
  unfold endL; rw [List.foldl_map]
theorem vis_fst (co st : Nat → Int) : ∀ (o : List Nat) (f : List Int), (visL co st f o).map (fun v => v.1) = o
  | [], _ => rfl
  | x :: o, f => by simp only [visL, List.map_cons]; rw [vis_fst co st o]
theorem patL_alike {co : Nat → Int} {c limit : Int} : ∀ (l : List (Nat × Int × Int)), (∀ x ∈ l.map (fun v => v.1), co x = c) → patL co limit l = (l.map fun v => v.2).all fun v => decide (v.1 - c ≤ limit)
  | [], _ => rfl
  | v :: l, h => by
    have h1 := h v.1 (by simp)
    have := patL_alike (limit := limit) l (fun x hx => h x (by simp [hx]))
    simp only [patL, List.all_cons, List.map_cons] at this ⊢
    rw [this, h1]
def alikeE (n k : Nat) : Int := ((visL (fun _ => 0) (fun _ => 1) (List.replicate k 0) (List.replicate n 0)).map fun v => v.2).foldl (fun m v => max m v.2) 0
def alikeP (n k : Nat) (limit : Int) : Bool := ((visL (fun _ => 0) (fun _ => 1) (List.replicate k 0) (List.replicate n 0)).map fun v => v.2).all fun v => decide (v.1 - 0 ≤ limit)
def alikeF (n limit : Nat) : Nat := leastB (fun k => alikeP n k limit) (n - 1) 1
theorem alike_end : ∀ n < 11, ∀ k < 9, 1 ≤ k → alikeE n k = (((n + k - 1) / k : Nat) : Int) := by decide +kernel
theorem alike_few : ∀ n < 11, ∀ limit < 10, alikeF n limit = max 1 ((n + limit) / (limit + 1)) := by decide +kernel
theorem end_alike {co st : Nat → Int} {o : List Nat} {k : Nat} (h : ∀ x ∈ o, co x = 0 ∧ st x = 1) : endL (visL co st (List.replicate k 0) o) = alikeE o.length k := by
  rw [endL_map, vis_alike co st 0 1 o _ h]; rfl
theorem few_alike {co st : Nat → Int} {o : List Nat} {limit : Nat} (h : ∀ x ∈ o, co x = 0 ∧ st x = 1) : fewS co st o limit = alikeF o.length limit := by
  unfold fewS alikeF
  congr 1
  funext k
  rw [patL_alike (c := 0) _ (fun x hx => by rw [vis_fst] at hx; exact (h x hx).1), vis_alike co st 0 1 o _ h]; rfl
structure Ct where
  (we co lo hi : Int)
def ctAt (C : List Ct) (a : Nat) : Ct := C.getD a ⟨0, 0, 0, 0⟩
/-- A cloth of the same weaver, that comes at the same hour. -/
def sameC (C : List Ct) (a b : Nat) : Bool := decide ((ctAt C b).we = (ctAt C a).we) && decide ((ctAt C b).co = (ctAt C a).co)
def befC (C : List Ct) (a b : Nat) : Bool := decide (b < a) && sameC C a b
/-- How many of its weaver's cloths stand before one. -/
def rnd (C : List Ct) (xs : List Nat) (a : Nat) : Nat := xs.countP (befC C a)
def rkC (C : List Ct) (R : List Int) (a : Nat) : Int := R.getD (ctAt C a).we.toNat 0
/-- The custom's order. -/
def ltK (C : List Ct) (R : List Int) (xs : List Nat) (a b : Nat) : Prop :=
  (ctAt C a).co < (ctAt C b).co ∨ (ctAt C a).co = (ctAt C b).co ∧ (rnd C xs a < rnd C xs b ∨ rnd C xs a = rnd C xs b ∧ rkC C R a < rkC C R b)
theorem ltK_asym (C : List Ct) (R : List Int) (xs : List Nat) (a b : Nat) (h : ltK C R xs a b) (h' : ltK C R xs b a) : False := by
  unfold ltK at *; omega
/-- Ranks that are all different. -/
def RkOk (R : List Int) : Prop := ∀ i j, i < R.length → j < R.length → R.getD i 0 = R.getD j 0 → i = j
def WeOk (C : List Ct) (R : List Int) : Prop := ∀ a, a < C.length → 0 ≤ (ctAt C a).we ∧ (ctAt C a).we < R.length
theorem rnd_lt {C : List Ct} {xs : List Nat} {a b : Nat} (ha : a ∈ xs) (hab : a < b) (hs : sameC C b a = true) : rnd C xs a < rnd C xs b := by
  have hmono : ∀ l : List Nat, l.countP (befC C a) ≤ l.countP (befC C b) := fun l => by
    refine List.countP_mono_left (fun x _ h => ?_)
    simp only [befC, sameC, Bool.and_eq_true, decide_eq_true_eq] at h hs ⊢
    refine ⟨by omega, ?_, ?_⟩
    · rw [h.2.1, hs.1]
    · rw [h.2.2, hs.2]
  unfold rnd
  obtain ⟨s, t, rfl⟩ := List.append_of_mem ha
  rw [List.countP_append, List.countP_append, List.countP_cons, List.countP_cons]
  have h1 := hmono s
  have h2 := hmono t
  have h3 : befC C a a = false := by simp [befC]
  have h4 : befC C b a = true := by simp [befC, hab, hs]
  rw [h3, h4]; simp; omega
theorem ltK_total {C : List Ct} {R : List Int} {xs : List Nat} (hR : RkOk R) (hW : WeOk C R) (hx : ∀ x ∈ xs, x < C.length) {a b : Nat} (ha : a ∈ xs) (hb : b ∈ xs) (hne : a ≠ b) : ltK C R xs a b ∨ ltK C R xs b a := by
  by_cases h1 : (ctAt C a).co = (ctAt C b).co
  · by_cases h2 : rnd C xs a = rnd C xs b
    · by_cases h3 : rkC C R a = rkC C R b
      · have wa := hW a (hx a ha)
        have wb := hW b (hx b hb)
        have hw := hR _ _ (by omega) (by omega) h3
        have hwe : (ctAt C a).we = (ctAt C b).we := by omega
        rcases Nat.lt_or_gt_of_ne hne with h | h
        · have := rnd_lt (C := C) ha h (by simp [sameC, h1, hwe]); omega
        · have := rnd_lt (C := C) hb h (by simp [sameC, h1, hwe]); omega
      · unfold ltK; omega
    · unfold ltK; omega
  · unfold ltK; omega
/-- The order in which cloths are taken. -/
def OrdC (C : List Ct) (R : List Int) (xs o : List Nat) : Prop := o.Perm xs ∧ o.Pairwise fun a b => ¬ ltK C R xs b a
theorem OrdC.strict {C : List Ct} {R : List Int} {xs o : List Nat} (h : OrdC C R xs o) (hR : RkOk R) (hW : WeOk C R) (hx : ∀ x ∈ xs, x < C.length) (hn : xs.Nodup) : o.Pairwise (ltK C R xs) := by
  have hno : o.Nodup := (h.1.nodup_iff).2 hn
  have := List.Pairwise.and h.2 hno
  refine List.Pairwise.imp_of_mem ?_ this
  rintro a b ha hb ⟨h1, h2⟩
  rcases ltK_total hR hW hx (h.1.mem_iff.1 ha) (h.1.mem_iff.1 hb) h2 with h | h
  · exact h
  · exact (h1 h).elim
theorem OrdC.one {C : List Ct} {R : List Int} {xs o o' : List Nat} (h : OrdC C R xs o) (h' : OrdC C R xs o') (hR : RkOk R) (hW : WeOk C R) (hx : ∀ x ∈ xs, x < C.length) (hn : xs.Nodup) : o = o' :=
  sorted_one (ltK_asym C R xs) (h.1.trans h'.1.symm) (h.strict hR hW hx hn) (h'.strict hR hW hx hn)
theorem ltK_congr {C C' : List Ct} {R : List Int} {xs : List Nat} (h : ∀ a, (ctAt C a).we = (ctAt C' a).we ∧ (ctAt C a).co = (ctAt C' a).co) (a b : Nat) : ltK C R xs a b ↔ ltK C' R xs a b := by
  have e1 : ∀ a, rnd C xs a = rnd C' xs a := fun a => by
    unfold rnd; congr 1; funext b; simp only [befC, sameC, (h a).1, (h a).2, (h b).1, (h b).2]
  unfold ltK rkC
  rw [(h a).2, (h b).2, (h a).1, (h b).1, e1, e1]
end Go.Proofs.Ytgoncgbbgodliad

/- Turns: numbers, first, briefly, long. -/
namespace Go.Proofs.Ytgoncgbbgodliad
open Go Go.RowKit Go.Shelf
attribute [local go_sem] Oper.semAt_some
attribute [local go_sem ↓] Go.wp_at_zero Go.wp_at_succ

/-- A row of integers. -/
def rowI (f : List Int) : Array Value := (f.map iv).toArray
theorem rowI_get (f : List Int) (i : Nat) (h : i < f.length) : (rowI f)[i]? = some (iv (f.getD i 0)) := by
  simp [rowI, List.getD_eq_getElem?_getD, List.getElem?_eq_getElem h]
theorem rowI_size (f : List Int) : (rowI f).size = f.length := by simp [rowI]
theorem rowI_set (f : List Int) (i : Nat) (v : Int) : (rowI f).setIfInBounds i (iv v) = rowI (f.set i v) := by
  simp [rowI, List.map_set]
theorem cell_rowI {w : World} {b i : Nat} {f : List Int} {t : TypeId} (h : w.heap[b]? = some (.cells (rowI f) t (0, 0))) (hi : i < f.length) : w.cell? ⟨b, i, none⟩ = some (iv (f.getD i 0)) := by
  rw [cell_of_row _ _ _ _ _ _ h]; exact rowI_get f i hi
theorem flatQ (l : List Int) : l.flatMap encI = l.map iv := by
  induction l with
  | nil => rfl
  | cons a l ih => rw [List.flatMap_cons, ih]; rfl
theorem heap_ownsI {w : World} {base g n : Nat} {e : TypeId} {xs : List Value} (h : w.ownsRow base e 1 (.slice (some ⟨g, 0, none⟩) n n) n xs) : w.heap[g]? = some (.cells xs.toArray e (0, 0)) := by
  rcases h.2 with ⟨h0, _⟩ | ⟨g', cap, cur, h0, hg, hh, h1, h2, h3, h4⟩
  · cases h0
  · cases h0
    rw [hh]
    congr 2
    apply Array.ext'
    rw [← h4, List.take_of_length_le]
    simp; omega
theorem ownsI_heap {w : World} {base g : Nat} {e : TypeId} {f : List Int} (h : w.heap[g]? = some (.cells (rowI f) e (0, 0))) (hb : base ≤ g) (hn : f.length ≤ 1000000) : Owns encI 1 e base w (.slice (some ⟨g, 0, none⟩) f.length f.length) f := by
  refine ⟨by rw [flatQ]; simp, .inr ⟨g, f.length, _, rfl, hb, h, Nat.le_refl _, by unfold maxLen; omega, by rw [rowI_size]; simp, ?_⟩⟩
  rw [flatQ, rowI]
  simp [List.take_of_length_le]

theorem made_row {n : Nat} : (madeCells (Value.cells (.int .i64 0)) (n * 1)).toList = (List.replicate n (0 : Int)).map iv := by
  have := toList_madeCells_one (.int .i64 0) n
  rw [Nat.mul_one]
  refine Eq.trans ?_ (this.trans ?_)
  · rfl
  · simp
/-- The numbers from 0 on. -/
def natsTo (n : Nat) : List Int := (List.range n).map fun x : Nat => (x : Int)
theorem natsTo_len (n : Nat) : (natsTo n).length = n := by simp [natsTo]
def numTo (n j : Nat) : List Int := natsTo j ++ List.replicate (n - j) 0
theorem numTo_len {n j : Nat} (h : j ≤ n) : (numTo n j).length = n := by simp [numTo, natsTo_len]; omega
theorem numTo_succ {n j : Nat} (h : j < n) : (numTo n j).set j (j : Int) = numTo n (j + 1) := by
  unfold numTo natsTo
  rw [List.range_succ, List.map_append, List.map_singleton, List.append_assoc, show n - j = (n - (j + 1)) + 1 by omega, List.replicate_succ]
  rw [List.set_append_right _ _ (by simp)]
  simp

def encC (c : Ct) : List Value := [iv c.we, iv c.co, iv c.lo, iv c.hi]
/-- A queue: cloths, ranks, stocks, the order. -/
abbrev qv (cv rv : Value) (k : Int) (ov : Value) : Value := .agg #[cv, rv, iv k, ov]

end Go.Proofs.Ytgoncgbbgodliad

/- When each cloth is dry: the call from outside, at valid fields. -/
namespace Go.Proofs.Ytgoncgbbgodliad
open Go Go.RowKit Go.Shelf
attribute [local go_sem ↓] Go.wp_at_zero Go.wp_at_succ

theorem infoSpG : (Try.prog.info? 29).map (fun i => (i.zero, i.size, i.bytes)) = some (some (.agg #[.int .i64 0, .int .i64 0]), 2, 16) := by kernel_rfl
theorem made_rowG (n : Nat) : (madeCells (Value.cells (.agg #[.int .i64 0, .int .i64 0])) (n * 2)).toList = (List.replicate (n * 2) (0 : Int)).map iv := by
  refine List.ext_getElem? fun i => ?_
  by_cases h : i < n * 2
  · have h2 : i % 2 = 0 ∨ i % 2 = 1 := by omega
    simp only [madeCells, Value.cells, Array.toList_map, Array.toList_range, List.getElem?_map, List.getElem?_range h, Option.map_some, List.map_replicate, List.getElem?_replicate, if_pos h]
    rcases h2 with h2 | h2 <;> simp [h2]
  · rw [List.getElem?_eq_none (by simp [madeCells]; omega), List.getElem?_eq_none (by simp; omega)]
theorem heap_ownsG {w : World} {base g n : Nat} {e : TypeId} {xs : List Value} (h : w.ownsRow base e 2 (.slice (some ⟨g, 0, none⟩) n n) n xs) : w.heap[g]? = some (.cells xs.toArray e (0, 0)) := by
  rcases h.2 with ⟨h0, _⟩ | ⟨g', cap, cur, h0, hg, hh, h1, h2, h3, h4⟩
  · cases h0
  · cases h0
    rw [hh]
    congr 2
    apply Array.ext'
    rw [← h4, List.take_of_length_le]
    simp; omega
theorem span_newG {w : World} {base g n : Nat} {e : TypeId} (h : w.ownsRow base e 2 (.slice (some ⟨g, 0, none⟩) n n) n (madeCells (Value.cells (.agg #[.int .i64 0, .int .i64 0])) (n * 2)).toList) : w.heap[g]? = some (.cells (rowI (List.replicate (n * 2) 0)) e (0, 0)) := by
  have := heap_ownsG h
  rw [made_rowG] at this
  exact this

/-- A list of spans, flat, of which the first k are filled. -/
def flS (L : List Sp) (n k : Nat) : List Int := (L.take k).flatMap (fun p => [p.1, p.2]) ++ List.replicate ((n - k) * 2) 0
theorem flat2_len (L : List Sp) : (L.flatMap (fun p => [p.1, p.2])).length = L.length * 2 := by
  induction L with
  | nil => rfl
  | cons p L ih => simp [List.flatMap_cons, ih]; omega
theorem flS_len {L : List Sp} {n k : Nat} (hL : L.length = n) (hk : k ≤ n) : (flS L n k).length = n * 2 := by
  simp only [flS, List.length_append, flat2_len, List.length_take, List.length_replicate]; omega
theorem flS_zero (L : List Sp) (n : Nat) : flS L n 0 = List.replicate (n * 2) 0 := by simp [flS]
theorem flS_succ {L : List Sp} {n k : Nat} {p : Sp} (hL : L.length = n) (hk : L[k]? = some p) : ((flS L n k).set (k * 2) p.1).set (k * 2 + 1) p.2 = flS L n (k + 1) := by
  have hlt := (List.getElem?_eq_some_iff.1 hk).1
  have hlen : ((L.take k).flatMap (fun p => [p.1, p.2])).length = k * 2 := by rw [flat2_len, List.length_take]; omega
  have ht : L.take (k + 1) = L.take k ++ [p] := by rw [List.take_add_one, hk]; rfl
  unfold flS
  rw [ht, List.flatMap_append, show (n - k) * 2 = (n - (k + 1)) * 2 + 1 + 1 by omega, List.replicate_succ, List.replicate_succ]
  rw [List.set_append_right _ _ (by omega), hlen, List.set_append_right _ _ (by omega), hlen]
  simp
theorem flS_get {L : List Sp} {n i : Nat} {p : Sp} (hL : L.length = n) (hi : L[i]? = some p) : (flS L n n).getD (i * 2) 0 = p.1 ∧ (flS L n n).getD (i * 2 + 1) 0 = p.2 := by
  have hlt := (List.getElem?_eq_some_iff.1 hi).1
  have hd : L.drop i = p :: L.drop (i + 1) := by rw [List.drop_eq_getElem_cons hlt]; congr 1; exact (List.getElem?_eq_some_iff.1 hi).2
  have e : L = L.take i ++ p :: L.drop (i + 1) := by rw [← hd, List.take_append_drop]
  have hlen : ((L.take i).flatMap (fun p => [p.1, p.2])).length = i * 2 := by rw [flat2_len, List.length_take]; omega
  have hf : flS L n n = (L.take i).flatMap (fun p => [p.1, p.2]) ++ (p.1 :: p.2 :: (L.drop (i + 1)).flatMap (fun p => [p.1, p.2])) := by
    unfold flS
    rw [Nat.sub_self, Nat.zero_mul, List.replicate_zero, List.append_nil, List.take_of_length_le (by omega)]
    rw [show L.flatMap (fun p => [p.1, p.2]) = (L.take i ++ p :: L.drop (i + 1)).flatMap (fun p => [p.1, p.2]) from congrArg (fun l => List.flatMap (fun p : Sp => [p.1, p.2]) l) e]
    rw [List.flatMap_append, List.flatMap_cons]; rfl
  rw [hf]
  constructor
  · rw [List.getD_eq_getElem?_getD, List.getElem?_append_right (by omega), hlen, Nat.sub_self]; rfl
  · rw [List.getD_eq_getElem?_getD, List.getElem?_append_right (by omega), hlen, show i * 2 + 1 - i * 2 = 1 by omega]; rfl
theorem slice_flS {w : World} {g n : Nat} {L : List Sp} {t : TypeId} (hL : L.length = n) (hn : n ≤ 1000000) (h : w.heap[g]? = some (.cells (rowI (flS L n n)) t (0, 0))) : SliceOf encS 2 w (.slice (some ⟨g, 0, none⟩) n n) L := by
  subst hL
  refine ⟨some ⟨g, 0, none⟩, L.length, rfl, by omega, fun i p hi => ⟨g, 0, rfl, fun j u hu => ?_⟩⟩
  have hlt := (List.getElem?_eq_some_iff.1 hi).1
  obtain ⟨g0, g1⟩ := flS_get rfl hi
  have hl := flS_len (L := L) rfl (Nat.le_refl _)
  rcases j with _ | _ | j
  · have := cell_rowI (i := i * 2) h (by omega)
    simp only [encS, List.getElem?_cons_zero, Option.some.injEq] at hu
    rw [Nat.zero_add, Nat.add_zero, this, g0, hu]
  · have := cell_rowI (i := i * 2 + 1) h (by omega)
    simp only [encS, List.getElem?_cons_succ, List.getElem?_cons_zero, Option.some.injEq] at hu
    rw [Nat.zero_add, this, g1, hu]
  · simp [encS] at hu
/-- A row of which two cells may have been written. -/
def RowBut (W : World) (g : Nat) (cs : Array Value) (t : TypeId) (i j : Nat) : Prop := ∃ u v, W.heap[g]? = some (.cells ((cs.setIfInBounds i u).setIfInBounds j v) t (0, 0))
theorem RowBut.of {W : World} {g : Nat} {f : List Int} {t : TypeId} {i j : Nat} (h : W.heap[g]? = some (.cells (rowI f) t (0, 0))) (hi : i < f.length) (hj : j < f.length) : RowBut W g (rowI f) t i j := by
  refine ⟨iv (f.getD i 0), iv (f.getD j 0), h.trans ?_⟩
  have e : ∀ k, k < f.length → ∀ l : List Int, l = f → l.set k (f.getD k 0) = f := by
    rintro k hk l rfl
    refine List.ext_getElem? fun m => ?_
    rw [List.getElem?_set]
    split
    · subst m; simp [hk, List.getD_eq_getElem?_getD]
    · rfl
  rw [rowI_set, rowI_set, e i hi f rfl, e j hj f rfl]
theorem RowBut.below {W W' : World} {g : Nat} {cs : Array Value} {t : TypeId} {i j : Nat} (h : RowBut W g cs t i j) (hb : Below W.heap.size W W') : RowBut W' g cs t i j := by
  obtain ⟨u, v, h⟩ := h
  exact ⟨u, v, bblkG hb h⟩
theorem RowBut.set {W : World} {g : Nat} {cs : Array Value} {t : TypeId} {i j : Nat} (h : RowBut W g cs t i j) (u v : Value) : ((W.setCell ⟨g, i, none⟩ u).setCell ⟨g, j, none⟩ v).heap[g]? = some (.cells ((cs.setIfInBounds i u).setIfInBounds j v) t (0, 0)) := by
  obtain ⟨u', v', h⟩ := h
  have h1 := heap_setCell_same W g i _ t u h
  have h2 := heap_setCell_same _ g j _ t v h1
  rw [h2]
  congr 2
  apply Array.ext'
  simp only [Array.toList_setIfInBounds]
  refine List.ext_getElem? fun m => ?_
  simp only [List.getElem?_set, List.length_set]
  by_cases e1 : j = m
  · subst e1; simp
  · by_cases e2 : i = m
    · subst e2; simp [e1]
    · simp [e1, e2]
theorem RowBut.cell {W : World} {g : Nat} {cs : Array Value} {t : TypeId} {i j : Nat} (h : RowBut W g cs t i j) (hi : i < cs.size) (hj : j < cs.size) : (∃ u, W.cell? ⟨g, i, none⟩ = some u) ∧ (∃ v, W.cell? ⟨g, j, none⟩ = some v) ∧ W.frozen? ⟨g, i, none⟩ = false ∧ W.frozen? ⟨g, j, none⟩ = false := by
  obtain ⟨u, v, h⟩ := h
  refine ⟨⟨_, (cell_of_row _ _ _ _ _ _ h).trans (Array.getElem?_eq_getElem (by simp; omega))⟩, ⟨_, (cell_of_row _ _ _ _ _ _ h).trans (Array.getElem?_eq_getElem (by simp; omega))⟩, ?_, ?_⟩ <;> (unfold World.frozen?; rw [h]; rfl)
def cvG (W : World) (b o : Nat) : Value := (W.cell? ⟨b, o, none⟩).getD undef
theorem cvG_of {W : World} {b o : Nat} {v : Value} (h : W.cell? ⟨b, o, none⟩ = some v) : W.cell? ⟨b, o, none⟩ = some (cvG W b o) := by rw [cvG, h]; rfl
theorem isSome_setCellG (W : World) (p q : Addr) (v : Value) : ((W.setCell p v).cell? q).isSome = (W.cell? q).isSome := by
  unfold World.cell? World.setCell
  simp only [Array.getElem?_modify]
  by_cases h : p.block = q.block
  · rw [if_pos h]
    cases hb : W.heap[q.block]? with
    | none => rfl
    | some o =>
      cases o <;> try rfl
      rename_i c e fr
      show Option.isSome (if q.spot.isSome = true then none else (if p.spot.isSome = true then c else c.setIfInBounds p.off v)[q.off]?) = Option.isSome (if q.spot.isSome = true then none else c[q.off]?)
      split
      · rfl
      · split
        · rfl
        · rw [Array.getElem?_setIfInBounds]
          by_cases e : p.off = q.off
          · rw [if_pos e]
            by_cases hs : p.off < c.size
            · rw [if_pos hs, Array.getElem?_eq_getElem (by omega)]; rfl
            · rw [if_neg hs, Array.getElem?_eq_none (by omega)]
          · rw [if_neg e]
  · rw [if_neg h]
/-- What was written in two cells. -/
theorem RowBut.fix {Z : World} {g : Nat} {cs : Array Value} {t : TypeId} {i j : Nat} {u v : Value} (hij : i ≠ j) (hi : i < cs.size) (hj : j < cs.size) (h : RowBut ((Z.setCell ⟨g, i, none⟩ u).setCell ⟨g, j, none⟩ v) g cs t i j) :
    ((Z.setCell ⟨g, i, none⟩ u).setCell ⟨g, j, none⟩ v).heap[g]? = some (.cells ((cs.setIfInBounds i u).setIfInBounds j v) t (0, 0)) := by
  obtain ⟨a, b, hh⟩ := h
  have f0 : ((cs.setIfInBounds i a).setIfInBounds j b)[i]? = some a := by rw [Array.getElem?_setIfInBounds_ne (Ne.symm hij)]; simp [hi]
  have f1 : ((cs.setIfInBounds i a).setIfInBounds j b)[j]? = some b := by simp [hj]
  have hs : (Z.cell? ⟨g, i, none⟩).isSome = true := by
    rw [← isSome_setCellG Z ⟨g, i, none⟩ _ u, ← isSome_setCellG _ ⟨g, j, none⟩ _ v, cell_of_row _ _ _ _ _ _ hh, f0]; rfl
  have hs' : (Z.cell? ⟨g, j, none⟩).isSome = true := by
    rw [← isSome_setCellG Z ⟨g, i, none⟩ _ u, ← isSome_setCellG _ ⟨g, j, none⟩ _ v, cell_of_row _ _ _ _ _ _ hh, f1]; rfl
  have e0 : ((Z.setCell ⟨g, i, none⟩ u).setCell ⟨g, j, none⟩ v).cell? ⟨g, i, none⟩ = some u :=
    (World.cell?_setCell_other (a := ⟨g, j, none⟩) (b := ⟨g, i, none⟩) _ _ (by simp <;> omega)).trans (World.cell?_setCell_same' _ _ _ hs)
  have e1 : ((Z.setCell ⟨g, i, none⟩ u).setCell ⟨g, j, none⟩ v).cell? ⟨g, j, none⟩ = some v := by
    refine World.cell?_setCell_same' _ _ _ ?_
    rw [World.cell?_setCell_other (a := ⟨g, i, none⟩) (b := ⟨g, j, none⟩) _ _ (by simp <;> omega)]; exact hs'
  rw [cell_of_row _ _ _ _ _ _ hh] at e0 e1
  obtain rfl := Option.some.inj (f0.symm.trans e0)
  obtain rfl := Option.some.inj (f1.symm.trans e1)
  exact hh
end Go.Proofs.Ytgoncgbbgodliad

/- Dry of package tenter. -/
namespace Go.Proofs.Ytgoncgbbgodliad
open Go Go.RowKit Go.Shelf
attribute [local go_sem ↓] Go.wp_at_zero Go.wp_at_succ

/-- When a cloth is dry. -/
def dryS (S : List Sp) (fr : Nat) (c : Tn) : Sp := ((earL c S fr : Nat), (latL c S fr : Nat))
def DryRes (C : List Tn) (S : List Sp) (fr : Nat) (w : World) (e : Ending) (w' : World) : Prop :=
  ∃ g, e = .returned (.tuple #[.slice (some ⟨g, 0, none⟩) C.length C.length, iv 0]) ∧ SliceOf encS 2 w' (.slice (some ⟨g, 0, none⟩) C.length C.length) (C.map (dryS S fr)) ∧ Below w.heap.size w w'

theorem keepDry {C : List Tn} {R : List Int} {gap str : Int} {S : List Sp} {ca ra wa : Option Addr} {cc rc wc : Nat} {W0 X : World} {b : Nat} {row : Array Value} {i j : Nat} {u v : Value} (hI : FdIn C R gap str S ca ra wa cc rc wc W0) (hb : b < W0.heap.size) (hi : i < row.size) (hj : j < row.size)
    (h : X.cell? ⟨b, 0, none⟩ = some (.slice ca C.length cc) ∧ X.cell? ⟨b, 1, none⟩ = some (.slice ra R.length rc) ∧ X.cell? ⟨b, 2, none⟩ = some (iv gap) ∧ X.cell? ⟨b, 3, none⟩ = some (iv str) ∧ X.cell? ⟨b, 4, none⟩ = some (.slice wa S.length wc) ∧ FdIn C R gap str S ca ra wa cc rc wc X ∧ RowBut X W0.heap.size row 29 i j ∧ X.cell? ⟨W0.heap.size, i, none⟩ = some (cvG X W0.heap.size i) ∧ X.cell? ⟨W0.heap.size, j, none⟩ = some (cvG X W0.heap.size j) ∧ X.frozen? ⟨W0.heap.size, i, none⟩ = false ∧ X.frozen? ⟨W0.heap.size, j, none⟩ = false ∧ Below W0.heap.size W0 X) : ((X.setCell ⟨W0.heap.size, i, none⟩ u).setCell ⟨W0.heap.size, j, none⟩ v).cell? ⟨b, 0, none⟩ = some (.slice ca C.length cc) ∧ ((X.setCell ⟨W0.heap.size, i, none⟩ u).setCell ⟨W0.heap.size, j, none⟩ v).cell? ⟨b, 1, none⟩ = some (.slice ra R.length rc) ∧ ((X.setCell ⟨W0.heap.size, i, none⟩ u).setCell ⟨W0.heap.size, j, none⟩ v).cell? ⟨b, 2, none⟩ = some (iv gap) ∧ ((X.setCell ⟨W0.heap.size, i, none⟩ u).setCell ⟨W0.heap.size, j, none⟩ v).cell? ⟨b, 3, none⟩ = some (iv str) ∧ ((X.setCell ⟨W0.heap.size, i, none⟩ u).setCell ⟨W0.heap.size, j, none⟩ v).cell? ⟨b, 4, none⟩ = some (.slice wa S.length wc) ∧ FdIn C R gap str S ca ra wa cc rc wc ((X.setCell ⟨W0.heap.size, i, none⟩ u).setCell ⟨W0.heap.size, j, none⟩ v) ∧ RowBut ((X.setCell ⟨W0.heap.size, i, none⟩ u).setCell ⟨W0.heap.size, j, none⟩ v) W0.heap.size row 29 i j ∧ ((X.setCell ⟨W0.heap.size, i, none⟩ u).setCell ⟨W0.heap.size, j, none⟩ v).cell? ⟨W0.heap.size, i, none⟩ = some (cvG ((X.setCell ⟨W0.heap.size, i, none⟩ u).setCell ⟨W0.heap.size, j, none⟩ v) W0.heap.size i) ∧ ((X.setCell ⟨W0.heap.size, i, none⟩ u).setCell ⟨W0.heap.size, j, none⟩ v).cell? ⟨W0.heap.size, j, none⟩ = some (cvG ((X.setCell ⟨W0.heap.size, i, none⟩ u).setCell ⟨W0.heap.size, j, none⟩ v) W0.heap.size j) ∧ ((X.setCell ⟨W0.heap.size, i, none⟩ u).setCell ⟨W0.heap.size, j, none⟩ v).frozen? ⟨W0.heap.size, i, none⟩ = false ∧ ((X.setCell ⟨W0.heap.size, i, none⟩ u).setCell ⟨W0.heap.size, j, none⟩ v).frozen? ⟨W0.heap.size, j, none⟩ = false ∧ Below W0.heap.size W0 ((X.setCell ⟨W0.heap.size, i, none⟩ u).setCell ⟨W0.heap.size, j, none⟩ v) := by
  obtain ⟨h0, h1, h2, h3, h4, h5, h6, h7, h8, h9, h10, h11⟩ := h
  have hb2 : Below W0.heap.size W0 ((X.setCell ⟨W0.heap.size, i, none⟩ u).setCell ⟨W0.heap.size, j, none⟩ v) := bput (bput h11 (p := ⟨W0.heap.size, i, none⟩) (Nat.le_refl _) u) (p := ⟨W0.heap.size, j, none⟩) (Nat.le_refl _) v
  have hsame : ∀ o, ((X.setCell ⟨W0.heap.size, i, none⟩ u).setCell ⟨W0.heap.size, j, none⟩ v).cell? ⟨b, o, none⟩ = X.cell? ⟨b, o, none⟩ := fun o =>
    World.cell?_of_block ((Below.heap_setCell _ _ _ _ (Nat.ne_of_lt hb)).trans (Below.heap_setCell _ _ _ _ (Nat.ne_of_lt hb)))
  have hrb : RowBut ((X.setCell ⟨W0.heap.size, i, none⟩ u).setCell ⟨W0.heap.size, j, none⟩ v) W0.heap.size row 29 i j := ⟨u, v, h6.set u v⟩
  obtain ⟨⟨_, k1⟩, ⟨_, k2⟩, k3, k4⟩ := hrb.cell hi hj
  exact ⟨(hsame _).trans h0, (hsame _).trans h1, (hsame _).trans h2, (hsame _).trans h3, (hsame _).trans h4, hI.below hb2, hrb, cvG_of k1, cvG_of k2, k3, k4, hb2⟩
theorem kcellG {W W1 : World} {b o : Nat} {v : Value} (hb : Below W.heap.size W W1) (h : W.cell? ⟨b, o, none⟩ = some v) : W1.cell? ⟨b, o, none⟩ = some v := (hb.cell (p := ⟨b, o, none⟩) (lt_of_cell h)).trans h
theorem kfrozenG {W W1 : World} {b o : Nat} {v : Value} (hb : Below W.heap.size W W1) (h : W.cell? ⟨b, o, none⟩ = some v) (hf : W.frozen? ⟨b, o, none⟩ = false) : W1.frozen? ⟨b, o, none⟩ = false := (hb.frozen (p := ⟨b, o, none⟩) (lt_of_cell h)).trans hf
end Go.Proofs.Ytgoncgbbgodliad

/- A yard: at which lengths cloths can be hung. -/
namespace Go.Proofs.Ytgoncgbbgodliad
open Go Go.RowKit Go.Shelf
attribute [local go_sem ↓] Go.wp_at_zero Go.wp_at_succ

/-- At which length a cloth may hang at most. -/
def permI (str own : Int) : Int := own * (1000 + str) / 1000
def lenS (str : Int) (c : Tn) : Sp := if permI str c.1.1 < c.1.2 then (1, 0) else (c.1.2, permI str c.1.1)

theorem lenKeep {X Y W3 : World} {q0 q1 q2 q3 q4 q5 q6 : Addr} {v0 v1 v2 v3 v4 v5 v6 : Value} (hb : Below X.heap.size X Y) (h : X.cell? q0 = some v0 ∧ X.cell? q1 = some v1 ∧ X.cell? q2 = some v2 ∧ X.cell? q3 = some v3 ∧ X.cell? q4 = some v4 ∧ X.cell? q5 = some v5 ∧ X.cell? q6 = some v6 ∧ Below W3.heap.size W3 X) :
    Hid (Y.cell? q0 = some v0 ∧ Y.cell? q1 = some v1 ∧ Y.cell? q2 = some v2 ∧ Y.cell? q3 = some v3 ∧ Y.cell? q4 = some v4 ∧ Y.cell? q5 = some v5 ∧ Y.cell? q6 = some v6) := by
  obtain ⟨h0, h1, h2, h3, h4, h5, h6, -⟩ := h
  have key : ∀ {q : Addr} {v : Value}, X.cell? q = some v → Y.cell? q = some v := fun {q v} h => (hb.cell (p := q) (World.block_lt_of_cell? X _ h)).trans h
  exact ⟨key h0, key h1, key h2, key h3, key h4, key h5, key h6⟩
theorem cset2G {W : World} {g b o : Nat} {v0 v1 : Value} (hg : b ≠ g) : ((W.setCell ⟨g, 0, none⟩ v0).setCell ⟨g, 1, none⟩ v1).cell? ⟨b, o, none⟩ = W.cell? ⟨b, o, none⟩ :=
  World.cell?_of_block ((Below.heap_setCell _ _ _ _ hg).trans (Below.heap_setCell _ _ _ _ hg))
theorem bset2G {w W : World} {g : Nat} {v0 v1 : Value} (h : Below w.heap.size w W) (hg : w.heap.size ≤ g) : Below w.heap.size w ((W.setCell ⟨g, 0, none⟩ v0).setCell ⟨g, 1, none⟩ v1) :=
  bput (p := ⟨g, 1, none⟩) (bput (p := ⟨g, 0, none⟩) h hg v0) hg v1
/-- A span lies at p. -/
def LenCut (W3 : World) (l2 pp : Int) (p : Value) (wx : World) : Prop := ∃ g, p = .pointer (some ⟨g, 0, none⟩) ∧ Below W3.heap.size W3 wx ∧ wx.cell? ⟨g, 0, none⟩ = some (iv l2) ∧ wx.cell? ⟨g, 1, none⟩ = some (iv pp)
theorem lenA {W3 w3 : World} {l2 pp : Int} {t : TypeId} (h : Below W3.heap.size W3 w3) : LenCut W3 l2 pp (.pointer (some ⟨w3.heap.size, 0, none⟩)) (w3.alloc (.cells #[iv l2, iv pp] t)) := by
  have hr := heap_new w3 #[iv l2, iv pp] t
  refine ⟨_, rfl, bpush h _, ?_, ?_⟩ <;> (rw [cell_of_row _ _ _ _ _ _ hr]; rfl)
theorem lenB {W3 w3 : World} {l2 pp : Int} {g : Nat} (h : Below W3.heap.size W3 w3) (hg : W3.heap.size ≤ g) (k0 : w3.cell? ⟨g, 0, none⟩ = some (iv 0)) (k1 : w3.cell? ⟨g, 1, none⟩ = some (iv 0)) :
    LenCut W3 l2 pp (.pointer (some ⟨g, 0, none⟩)) ((w3.setCell ⟨g, 0, none⟩ (iv l2)).setCell ⟨g, 1, none⟩ (iv pp)) := by
  refine ⟨g, rfl, bset2G h hg, ?_, ?_⟩
  all_goals go_simp
theorem kdrewG {X : World} {a : Addr} {v : Value} (h : X.cell? a = some v) : X.drew.cell? a = some v := h
theorem kpushG {X : World} {a : Addr} {v : Value} {o : Obj} (h : X.cell? a = some v) : (X.alloc o).cell? a = some v := (World.cell?_alloc_lt _ _ _ (World.block_lt_of_cell? X _ h)).trans h
end Go.Proofs.Ytgoncgbbgodliad

/- A yard is made. -/
namespace Go.Proofs.Ytgoncgbbgodliad
open Go Go.RowKit Go.Shelf
attribute [local go_sem ↓] Go.wp_at_zero Go.wp_at_succ

def encV1 (v : Option Nat) : List Value := [.map v]
theorem encV1_len (v : Option Nat) : (encV1 v).length = 1 := rfl
theorem encV1_cell {W : World} {g : Nat} {v : Option Nat} (h : W.cell? ⟨g, 0, none⟩ = some (.map v)) : ∀ j u, (encV1 v)[j]? = some u → W.cell? ⟨g, j, none⟩ = some u := by
  intro j u hu
  rcases j with _ | j
  · simp only [encV1, List.getElem?_cons_zero, Option.some.injEq] at hu
    rw [← hu]; exact h
  · simp [encV1] at hu
theorem owns_addrG {α : Type} {enc : α → List Value} {sz e base : Nat} {w : World} {v : Value} {xs : List α} (h : Owns enc sz e base w v xs) (hne : 0 < xs.length) : ∃ g c, v = .slice (some ⟨g, 0, none⟩) xs.length c := by
  obtain ⟨h1, h2⟩ := h
  rcases h2 with ⟨rfl, h0⟩ | ⟨g, cap, cur, rfl, -⟩
  · omega
  · exact ⟨g, _, rfl⟩

theorem results_row1 {P : Program} {fn : Func} {w : World} {p : Tmp} {ty t : TypeId} {g : Nat} {cs : Array Value} {d : TypeDesc} (h : fn.results = #[.cell p ty]) (tmps : Array Value) (hp : tmps.getD p undef = .pointer (some ⟨g, 0, none⟩))
    (hg : w.heap[g]? = some (.cells cs t (0, 0))) (hu : P.underlying ty = some d) (hd : (match d with | .struct _ | .array _ _ => true | _ => false) = true) (hi : (P.info? ty).map (·.size) = some cs.size) :
    (results fn tmps).run P w = .ok (.agg cs) w := by
  have e : tmps[p]?.getD undef = .pointer (some ⟨g, 0, none⟩) := by simpa using hp
  simp [results, h, e, asAddr, run_loadVar_row w g t ty cs (0, 0) d hg hu hd hi]
theorem grown_setG (W : World) (g o : Nat) (u : Value) : W.grownBy (W.setCell ⟨g, o, none⟩ u) (some g) :=
  ⟨rfl, rfl, rfl, by simp [World.setCell], fun k hk hne => Below.heap_setCell _ _ _ _ (fun e => hne (by rw [e]))⟩
theorem owns_setG {α : Type} {enc : α → List Value} {sz e base : Nat} {W : World} {v : Value} {F : List α} {g : Nat} (h : Owns enc sz e base W v F) (hg : g < base) (o : Nat) (u : Value) : Owns enc sz e base (W.setCell ⟨g, o, none⟩ u) v F := by
  refine World.ownsRow.kept h (grown_setG _ _ _ _) ?_
  cases hv : v.ownBlock with
  | none => exact .inl rfl
  | some q =>
    have := (World.ownsRow.lt h q hv).1
    refine .inr (fun e => ?_)
    simp only [Option.some.injEq] at e; omega
end Go.Proofs.Ytgoncgbbgodliad

/- Hangs of package tenter. -/
namespace Go.Proofs.Ytgoncgbbgodliad
open Go Go.RowKit Go.Shelf
attribute [local go_sem ↓] Go.wp_at_zero Go.wp_at_succ

def HangsRes (C : List Tn) (str : Int) (w : World) (e : Ending) (w' : World) : Prop :=
  ∃ g, e = .returned (.tuple #[.slice (some ⟨g, 0, none⟩) C.length C.length, iv 0]) ∧ SliceOf encS 2 w' (.slice (some ⟨g, 0, none⟩) C.length C.length) (C.map (lenS str)) ∧ Below w.heap.size w w'
end Go.Proofs.Ytgoncgbbgodliad

/- Window of package stream at valid arguments. -/
namespace Go.Proofs.Ytgoncgbbgodliad
open Go Go.RowKit Go.Shelf
attribute [local go_sem ↓] Go.wp_at_zero Go.wp_at_succ

/-- Whether hammers surely go for so many hours from an hour on. -/
def winB (m : Ml) (F : List Sp) (k hours : Int) (fr : Nat) : Bool := decide (hours ≤ ((lvOf Prod.fst m F (stdy F.length k fr)).length : Int) - fr)
/-- The first such hour. -/
def winO (m : Ml) (F : List Sp) (k hours : Int) : Option Nat := (List.range F.length).find? (winB m F k hours)
def winV : Option Nat → Value
  | some fr => .tuple #[iv fr, iv 0]
  | none => .tuple #[iv 0, iv 7]
theorem winO_some {m : Ml} {F : List Sp} {k hours : Int} {j : Nat} (h : ∀ q, q < j → winB m F k hours q = false) (hj : j < F.length) (h1 : winB m F k hours j = true) : winO m F k hours = some j := by
  unfold winO; rw [List.find?_range_eq_some]; exact ⟨h1, List.mem_range.2 hj, fun q hq => by simp [h q hq]⟩
theorem winO_none {m : Ml} {F : List Sp} {k hours : Int} (h : ∀ q, q < F.length → winB m F k hours q = false) : winO m F k hours = none := by
  unfold winO; rw [List.find?_range_eq_none]; exact fun q hq => by simp [h q hq]

end Go.Proofs.Ytgoncgbbgodliad

/- The elm functions of Top laws: spans, copies of spans, and the known examples of chapters 2 and 5. -/
namespace Go.Proofs.Ytgoncgbbgodliad
open Go Go.RowKit Go.Shelf
attribute [local go_sem ↓] Go.wp_at_zero Go.wp_at_succ

set_option maxHeartbeats 400000 in
theorem elmSpan_any (lo hi : Int) (w : World) :
    Calls Try.prog 5 #[iv lo, iv hi] w fun e w' => e = .returned (.agg #[iv lo, iv hi]) ∧ Below w.heap.size w w' := by
  go_enter Try.func5, Try.ntmps5
  go_wp2_with fail
  exact bodyPost_ret (v := .agg #[iv lo, iv hi]) (by simp [results, Try.results5, go_sem]) rfl ⟨rfl, (by repeat (first | exact Below.refl _ _ | refine Below.drew ?_ | refine bpush ?_ _ | refine bput ?_ (by simp) _ | (refine bstep ?_ (by assumption))))⟩

theorem kWin : winO kMl kFl 2 2 = some 1 := by decide +kernel
def kTn : List Tn := [((200, 204), (0, 0))]
theorem kTnChk : fdChk ⟨kTn, [520], 0, 50⟩ = 0 := by decide +kernel
theorem kTnMap : kTn.map (lenS 50) = [(204, 210)] := by decide +kernel
theorem tn_new {w : World} {g cap : Nat} {a b c d : Int} {t : TypeId} (h : w.heap[g]? = some (.cells #[iv a, iv b, iv c, iv d] t (0, 0))) : SliceOf encN 4 w (.slice (some ⟨g, 0, none⟩) 1 cap) [((a, b), (c, d))] := by
  refine ⟨_, cap, rfl, by simp, fun i p hp => ⟨g, 0, rfl, fun j u hu => ?_⟩⟩
  rw [cell_of_row _ _ _ _ _ _ h]
  rcases i with _ | i
  · simp at hp; subst hp; rcases j with _ | _ | _ | _ | j <;> simp [encN] at hu ⊢ <;> exact hu
  · simp at hp
end Go.Proofs.Ytgoncgbbgodliad
