import Derived.Test.YtdalilllakdamaaMa
import Derived.RegionTactic
import Derived.IntWalk
import Derived.Deep.RegionHeld3
import Derived.Deep.DrawnRows
import Derived.Test.YtdalilllakdamaaMb
/- Turns: stocks that are free, visits, the custom's order: plain. -/
namespace Go.Proofs.Ytdalilllakdamaa
/-- The first place of the least one of the first k. -/
def bestTo (f : List Int) : Nat → Nat
  | 0 => 0
  | k + 1 => if f.getD k 0 < f.getD (bestTo f k) 0 then k else bestTo f k
def best (f : List Int) : Nat := bestTo f f.length
theorem bestTo_le (f : List Int) : ∀ k, bestTo f k ≤ k - 1
  | 0 => by simp [bestTo]
  | k + 1 => by
    have := bestTo_le f k
    unfold bestTo
    split <;> omega
theorem bestTo_min (f : List Int) : ∀ k j, j < k → f.getD (bestTo f k) 0 ≤ f.getD j 0
  | 0, j, h => by omega
  | k + 1, j, h => by
    have ih := bestTo_min f k
    unfold bestTo
    split
    · by_cases hj : j = k
      · subst hj; omega
      · have := ih j (by omega); omega
    · by_cases hj : j = k
      · subst hj; omega
      · exact ih j (by omega)
theorem best_lt {f : List Int} (h : 0 < f.length) : best f < f.length := by
  have := bestTo_le f f.length
  unfold best; omega
/-- When a cloth that comes at c is taken, and when each stock is free behind it. -/
def takeAt (f : List Int) (c : Int) : Int := max c (f.getD (best f) 0)
def stepF (f : List Int) (c s : Int) : List Int := f.set (best f) (takeAt f c + s)
theorem stepF_len (f : List Int) (c s : Int) : (stepF f c s).length = f.length := by simp [stepF]
/-- The visits of the cloths of an order: which one, when it is taken, when it is done. -/
def visL (co st : Nat → Int) : List Int → List Nat → List (Nat × Int × Int)
  | _, [] => []
  | f, x :: o => (x, takeAt f (co x), takeAt f (co x) + st x) :: visL co st (stepF f (co x) (st x)) o
theorem visL_len (co st : Nat → Int) : ∀ (o : List Nat) (f : List Int), (visL co st f o).length = o.length
  | [], _ => rfl
  | x :: o, f => by simp [visL, visL_len co st o]
def endL (l : List (Nat × Int × Int)) : Int := l.foldl (fun m v => max m v.2.2) 0
def patL (co : Nat → Int) (limit : Int) (l : List (Nat × Int × Int)) : Bool := l.all fun v => decide (v.2.1 - co v.1 ≤ limit)
def putTo (l : List (Nat × Int × Int)) (z : List Int) : List Int := l.foldl (fun z v => z.set v.1 v.2.1) z
/-- The least number from k on that does, or the one at which the fuel ends. -/
def leastB (p : Nat → Bool) : Nat → Nat → Nat
  | 0, k => k
  | f + 1, k => if p k then k else leastB p f (k + 1)
def fewS (co st : Nat → Int) (o : List Nat) (limit : Int) : Nat := leastB (fun k => patL co limit (visL co st (List.replicate k 0) o)) (o.length - 1) 1

def cnt (f : List Int) (x : Int) : Nat := f.countP (fun y => decide (y ≤ x))
/-- The stocks f are free no later than the stocks g. -/
def Dom (f g : List Int) : Prop := ∀ x, cnt g x ≤ cnt f x
theorem cnt_pos {f : List Int} {x : Int} (h : 0 < f.length) : 0 < cnt f x ↔ f.getD (best f) 0 ≤ x := by
  unfold cnt
  rw [List.countP_pos_iff]
  constructor
  · rintro ⟨y, hy, hx⟩
    obtain ⟨j, hj, rfl⟩ := List.getElem_of_mem hy
    have := bestTo_min f f.length j hj
    unfold best
    simp only [List.getD_eq_getElem?_getD, List.getElem?_eq_getElem hj, Option.getD_some, decide_eq_true_eq] at this hx ⊢
    omega
  · intro hx
    have hb := best_lt h
    refine ⟨f[best f], List.getElem_mem _, ?_⟩
    simpa [List.getD_eq_getElem?_getD, List.getElem?_eq_getElem hb] using hx
theorem cnt_set {f : List Int} {i : Nat} (h : i < f.length) (v x : Int) : cnt (f.set i v) x = cnt f x - (if f.getD i 0 ≤ x then 1 else 0) + (if v ≤ x then 1 else 0) := by
  unfold cnt
  rw [List.countP_set h]
  simp [List.getD_eq_getElem?_getD, List.getElem?_eq_getElem h]
theorem Dom.min {f g : List Int} (h : Dom f g) (hf : 0 < f.length) (hg : 0 < g.length) : f.getD (best f) 0 ≤ g.getD (best g) 0 := by
  have h1 := (cnt_pos (x := g.getD (best g) 0) hg).2 (Int.le_refl _)
  exact (cnt_pos hf).1 (Nat.lt_of_lt_of_le h1 (h _))
theorem Dom.step {f g : List Int} (h : Dom f g) (hf : 0 < f.length) (hg : 0 < g.length) {c s s' : Int} (hs : s ≤ s') : takeAt f c ≤ takeAt g c ∧ Dom (stepF f c s) (stepF g c s') := by
  have hm := h.min hf hg
  have ht : takeAt f c ≤ takeAt g c := by unfold takeAt; omega
  refine ⟨ht, fun x => ?_⟩
  unfold stepF
  rw [cnt_set (best_lt hf), cnt_set (best_lt hg)]
  have h1 := h x
  have p1 := cnt_pos (f := f) (x := x) hf
  have p2 := cnt_pos (f := g) (x := x) hg
  by_cases a : f.getD (best f) 0 ≤ x
  · have a1 := p1.2 a
    by_cases b : g.getD (best g) 0 ≤ x
    · have b1 := p2.2 b
      simp only [a, b, if_true]
      split <;> split <;> omega
    · simp only [a, b, if_true, if_false]
      have b1 : cnt g x = 0 := by
        cases hc : cnt g x with
        | zero => rfl
        | succ n => exact absurd (p2.1 (by omega)) b
      split <;> split <;> omega
  · have b : ¬ g.getD (best g) 0 ≤ x := by omega
    simp only [a, b, if_false]
    split <;> split <;> omega
theorem Dom.refl (f : List Int) : Dom f f := fun _ => Nat.le_refl _
/-- The same cloths, none of them later. -/
inductive Sooner : List (Nat × Int × Int) → List (Nat × Int × Int) → Prop
  | nil : Sooner [] []
  | cons {a b : Nat × Int × Int} {l m : List (Nat × Int × Int)} : (a.1 = b.1 ∧ a.2.1 ≤ b.2.1 ∧ a.2.2 ≤ b.2.2) → Sooner l m → Sooner (a :: l) (b :: m)
/-- Shorter stays: nobody is taken later. -/
theorem vis_mono (co st st' : Nat → Int) : ∀ (o : List Nat) (f g : List Int), (∀ x ∈ o, st x ≤ st' x) → Dom f g → 0 < f.length → 0 < g.length →
    Sooner (visL co st f o) (visL co st' g o)
  | [], _, _, _, _, _, _ => Sooner.nil
  | x :: o, f, g, hs, h, hf, hg => by
    obtain ⟨h1, h2⟩ := h.step hf hg (c := co x) (hs x (by simp))
    have := hs x (by simp)
    refine Sooner.cons ⟨rfl, h1, ?_⟩ (vis_mono co st st' o _ _ (fun y hy => hs y (by simp [hy])) h2 (by rw [stepF_len]; exact hf) (by rw [stepF_len]; exact hg))
    simp only; omega
theorem pat_mono {co : Nat → Int} {limit : Int} : ∀ {a b : List (Nat × Int × Int)}, Sooner a b → patL co limit b = true → patL co limit a = true
  | _, _, .nil, h => h
  | _, _, .cons (a := x) (b := y) h t, hb => by
    simp only [patL, List.all_cons, Bool.and_eq_true, decide_eq_true_eq] at hb ⊢
    refine ⟨?_, pat_mono t hb.2⟩
    have := h.1
    rw [this]; omega
theorem leastB_ge (p : Nat → Bool) : ∀ f k, k ≤ leastB p f k
  | 0, k => Nat.le_refl _
  | f + 1, k => by
    unfold leastB
    split
    · exact Nat.le_refl _
    · have := leastB_ge p f (k + 1); omega
theorem leastB_mono {p q : Nat → Bool} (h : ∀ k, 0 < k → q k = true → p k = true) : ∀ f k, 0 < k → leastB p f k ≤ leastB q f k
  | 0, k, _ => Nat.le_refl _
  | f + 1, k, hk => by
    unfold leastB
    by_cases hq : q k = true
    · rw [if_pos hq, if_pos (h k hk hq)]; exact Nat.le_refl _
    · rw [if_neg hq]
      split
      · have := leastB_ge q f (k + 1); omega
      · exact leastB_mono h f (k + 1) (by omega)
theorem few_mono (co st st' : Nat → Int) (o : List Nat) (limit : Int) (hs : ∀ x ∈ o, st x ≤ st' x) : fewS co st o limit ≤ fewS co st' o limit :=
  leastB_mono (fun k hk h => pat_mono (vis_mono co st st' o _ _ hs (Dom.refl _) (by rw [List.length_replicate]; exact hk) (by rw [List.length_replicate]; exact hk)) h) _ _ (by omega)
theorem put_mono : ∀ {a b : List (Nat × Int × Int)}, Sooner a b → ∀ (z z' : List Int), z.length = z'.length → (∀ i, z.getD i 0 ≤ z'.getD i 0) → ∀ i, (putTo a z).getD i 0 ≤ (putTo b z').getD i 0
  | _, _, .nil, _, _, _, h => h
  | _, _, .cons (a := x) (b := y) h t, z, z', hl, hz => by
    simp only [putTo, List.foldl_cons]
    refine put_mono t _ _ (by simp [hl]) (fun i => ?_)
    rw [h.1]
    have := hz i
    simp only [List.getD_eq_getElem?_getD, List.getElem?_set] at this ⊢
    by_cases e : y.1 = i
    · subst e
      simp only [if_true]
      by_cases e2 : y.1 < z.length
      · rw [if_pos e2, if_pos (by omega)]; exact h.2.1
      · rw [if_neg e2, if_neg (by omega)]; exact Int.le_refl _
    · simp only [if_neg e]; exact this
/-- A list that an order that is strict sorts, is one alone. -/
theorem sorted_one {lt : Nat → Nat → Prop} (has : ∀ a b, lt a b → lt b a → False) {o o' : List Nat} (hp : o.Perm o') (h : o.Pairwise lt) (h' : o'.Pairwise lt) : o = o' :=
  List.Perm.eq_of_pairwise (fun a b _ _ h1 h2 => (has a b h1 h2).elim) h h' hp
/-- Cloths that are all alike. -/
theorem vis_alike (co st : Nat → Int) (c s : Int) : ∀ (o : List Nat) (f : List Int), (∀ x ∈ o, co x = c ∧ st x = s) → (visL co st f o).map (fun v => v.2) = (visL (fun _ => c) (fun _ => s) f (List.replicate o.length 0)).map (fun v => v.2)
  | [], _, _ => rfl
  | x :: o, f, h => by
    obtain ⟨h1, h2⟩ := h x (by simp)
    simp only [visL, List.length_cons, List.replicate_succ, List.map_cons, h1, h2]
    rw [vis_alike co st c s o _ (fun y hy => h y (by simp [hy]))]
theorem endL_map (l : List (Nat × Int × Int)) : endL l = (l.map fun v => v.2).foldl (fun m v => max m v.2) 0 := by
  unfold endL; rw [List.foldl_map]
theorem vis_fst (co st : Nat → Int) : ∀ (o : List Nat) (f : List Int), (visL co st f o).map (fun v => v.1) = o
  | [], _ => rfl
  | x :: o, f => by simp only [visL, List.map_cons]; rw [vis_fst co st o]
theorem patL_alike {co : Nat → Int} {c limit : Int} : ∀ (l : List (Nat × Int × Int)), (∀ x ∈ l.map (fun v => v.1), co x = c) → patL co limit l = (l.map fun v => v.2).all fun v => decide (v.1 - c ≤ limit)
  | [], _ => rfl
  | v :: l, h => by
    have h1 := h v.1 (by simp)
    have := patL_alike (limit := limit) l (fun x hx => h x (by simp [hx]))
    simp only [patL, List.all_cons, List.map_cons] at this ⊢
    rw [this, h1]
def alikeE (n k : Nat) : Int := ((visL (fun _ => 0) (fun _ => 1) (List.replicate k 0) (List.replicate n 0)).map fun v => v.2).foldl (fun m v => max m v.2) 0
def alikeP (n k : Nat) (limit : Int) : Bool := ((visL (fun _ => 0) (fun _ => 1) (List.replicate k 0) (List.replicate n 0)).map fun v => v.2).all fun v => decide (v.1 - 0 ≤ limit)
def alikeF (n limit : Nat) : Nat := leastB (fun k => alikeP n k limit) (n - 1) 1
theorem alike_end : ∀ n < 11, ∀ k < 9, 1 ≤ k → alikeE n k = (((n + k - 1) / k : Nat) : Int) := by decide +kernel
theorem alike_few : ∀ n < 11, ∀ limit < 10, alikeF n limit = max 1 ((n + limit) / (limit + 1)) := by decide +kernel
theorem end_alike {co st : Nat → Int} {o : List Nat} {k : Nat} (h : ∀ x ∈ o, co x = 0 ∧ st x = 1) : endL (visL co st (List.replicate k 0) o) = alikeE o.length k := by
  rw [endL_map, vis_alike co st 0 1 o _ h]; rfl
theorem few_alike {co st : Nat → Int} {o : List Nat} {limit : Nat} (h : ∀ x ∈ o, co x = 0 ∧ st x = 1) : fewS co st o limit = alikeF o.length limit := by
  unfold fewS alikeF
  congr 1
  funext k
  rw [patL_alike (c := 0) _ (fun x hx => by rw [vis_fst] at hx; exact (h x hx).1), vis_alike co st 0 1 o _ h]; rfl
structure Ct where
  (we co lo hi : Int)
def ctAt (C : List Ct) (a : Nat) : Ct := C.getD a ⟨0, 0, 0, 0⟩
/-- A cloth of the same weaver, that comes at the same hour. -/
def sameC (C : List Ct) (a b : Nat) : Bool := decide ((ctAt C b).we = (ctAt C a).we) && decide ((ctAt C b).co = (ctAt C a).co)
def befC (C : List Ct) (a b : Nat) : Bool := decide (b < a) && sameC C a b
/-- How many of its weaver's cloths stand before one. -/
def rnd (C : List Ct) (xs : List Nat) (a : Nat) : Nat := xs.countP (befC C a)
def rkC (C : List Ct) (R : List Int) (a : Nat) : Int := R.getD (ctAt C a).we.toNat 0
/-- The custom's order. -/
def ltK (C : List Ct) (R : List Int) (xs : List Nat) (a b : Nat) : Prop :=
  (ctAt C a).co < (ctAt C b).co ∨ (ctAt C a).co = (ctAt C b).co ∧ (rnd C xs a < rnd C xs b ∨ rnd C xs a = rnd C xs b ∧ rkC C R a < rkC C R b)
theorem ltK_asym (C : List Ct) (R : List Int) (xs : List Nat) (a b : Nat) (h : ltK C R xs a b) (h' : ltK C R xs b a) : False := by
  unfold ltK at *; omega
/-- Ranks that are all different. -/
def RkOk (R : List Int) : Prop := ∀ i j, i < R.length → j < R.length → R.getD i 0 = R.getD j 0 → i = j
def WeOk (C : List Ct) (R : List Int) : Prop := ∀ a, a < C.length → 0 ≤ (ctAt C a).we ∧ (ctAt C a).we < R.length
theorem rnd_lt {C : List Ct} {xs : List Nat} {a b : Nat} (ha : a ∈ xs) (hab : a < b) (hs : sameC C b a = true) : rnd C xs a < rnd C xs b := by
  have hmono : ∀ l : List Nat, l.countP (befC C a) ≤ l.countP (befC C b) := fun l => by
    refine List.countP_mono_left (fun x _ h => ?_)
    simp only [befC, sameC, Bool.and_eq_true, decide_eq_true_eq] at h hs ⊢
    refine ⟨by omega, ?_, ?_⟩
    · rw [h.2.1, hs.1]
    · rw [h.2.2, hs.2]
  unfold rnd
  obtain ⟨s, t, rfl⟩ := List.append_of_mem ha
  rw [List.countP_append, List.countP_append, List.countP_cons, List.countP_cons]
  have h1 := hmono s
  have h2 := hmono t
  have h3 : befC C a a = false := by simp [befC]
  have h4 : befC C b a = true := by simp [befC, hab, hs]
  rw [h3, h4]; simp; omega
theorem ltK_total {C : List Ct} {R : List Int} {xs : List Nat} (hR : RkOk R) (hW : WeOk C R) (hx : ∀ x ∈ xs, x < C.length) {a b : Nat} (ha : a ∈ xs) (hb : b ∈ xs) (hne : a ≠ b) : ltK C R xs a b ∨ ltK C R xs b a := by
  by_cases h1 : (ctAt C a).co = (ctAt C b).co
  · by_cases h2 : rnd C xs a = rnd C xs b
    · by_cases h3 : rkC C R a = rkC C R b
      · have wa := hW a (hx a ha)
        have wb := hW b (hx b hb)
        have hw := hR _ _ (by omega) (by omega) h3
        have hwe : (ctAt C a).we = (ctAt C b).we := by omega
        rcases Nat.lt_or_gt_of_ne hne with h | h
        · have := rnd_lt (C := C) ha h (by simp [sameC, h1, hwe]); omega
        · have := rnd_lt (C := C) hb h (by simp [sameC, h1, hwe]); omega
      · unfold ltK; omega
    · unfold ltK; omega
  · unfold ltK; omega
/-- The order in which cloths are taken. -/
def OrdC (C : List Ct) (R : List Int) (xs o : List Nat) : Prop := o.Perm xs ∧ o.Pairwise fun a b => ¬ ltK C R xs b a
theorem OrdC.strict {C : List Ct} {R : List Int} {xs o : List Nat} (h : OrdC C R xs o) (hR : RkOk R) (hW : WeOk C R) (hx : ∀ x ∈ xs, x < C.length) (hn : xs.Nodup) : o.Pairwise (ltK C R xs) := by
  have hno : o.Nodup := (h.1.nodup_iff).2 hn
  have := List.Pairwise.and h.2 hno
  refine List.Pairwise.imp_of_mem ?_ this
  rintro a b ha hb ⟨h1, h2⟩
  rcases ltK_total hR hW hx (h.1.mem_iff.1 ha) (h.1.mem_iff.1 hb) h2 with h | h
  · exact h
  · exact (h1 h).elim
theorem OrdC.one {C : List Ct} {R : List Int} {xs o o' : List Nat} (h : OrdC C R xs o) (h' : OrdC C R xs o') (hR : RkOk R) (hW : WeOk C R) (hx : ∀ x ∈ xs, x < C.length) (hn : xs.Nodup) : o = o' :=
  sorted_one (ltK_asym C R xs) (h.1.trans h'.1.symm) (h.strict hR hW hx hn) (h'.strict hR hW hx hn)
theorem ltK_congr {C C' : List Ct} {R : List Int} {xs : List Nat} (h : ∀ a, (ctAt C a).we = (ctAt C' a).we ∧ (ctAt C a).co = (ctAt C' a).co) (a b : Nat) : ltK C R xs a b ↔ ltK C' R xs a b := by
  have e1 : ∀ a, rnd C xs a = rnd C' xs a := fun a => by
    unfold rnd; congr 1; funext b; simp only [befC, sameC, (h a).1, (h a).2, (h b).1, (h b).2]
  unfold ltK rkC
  rw [(h a).2, (h b).2, (h a).1, (h b).1, e1, e1]
end Go.Proofs.Ytdalilllakdamaa

/- Turns: numbers, first, briefly, long. -/
namespace Go.Proofs.Ytdalilllakdamaa
open Go Go.RowKit Go.Shelf
attribute [local go_sem] Oper.semAt_some
attribute [local go_sem ↓] Go.wp_at_zero Go.wp_at_succ

/-- A row of integers. -/
def rowI (f : List Int) : Array Value := (f.map iv).toArray
theorem rowI_get (f : List Int) (i : Nat) (h : i < f.length) : (rowI f)[i]? = some (iv (f.getD i 0)) := by
  simp [rowI, List.getD_eq_getElem?_getD, List.getElem?_eq_getElem h]
theorem rowI_size (f : List Int) : (rowI f).size = f.length := by simp [rowI]
theorem rowI_set (f : List Int) (i : Nat) (v : Int) : (rowI f).setIfInBounds i (iv v) = rowI (f.set i v) := by
  simp [rowI, List.map_set]
theorem cell_rowI {w : World} {b i : Nat} {f : List Int} {t : TypeId} (h : w.heap[b]? = some (.cells (rowI f) t (0, 0))) (hi : i < f.length) : w.cell? ⟨b, i, none⟩ = some (iv (f.getD i 0)) := by
  rw [cell_of_row _ _ _ _ _ _ h]; exact rowI_get f i hi
theorem flatQ (l : List Int) : l.flatMap encI = l.map iv := by
  induction l with
  | nil => rfl
  | cons a l ih => rw [List.flatMap_cons, ih]; rfl
theorem heap_ownsI {w : World} {base g n : Nat} {e : TypeId} {xs : List Value} (h : w.ownsRow base e 1 (.slice (some ⟨g, 0, none⟩) n n) n xs) : w.heap[g]? = some (.cells xs.toArray e (0, 0)) := by
  rcases h.2 with ⟨h0, _⟩ | ⟨g', cap, cur, h0, hg, hh, h1, h2, h3, h4⟩
  · cases h0
  · cases h0
    rw [hh]
    congr 2
    apply Array.ext'
    rw [← h4, List.take_of_length_le]
    simp; omega
theorem ownsI_heap {w : World} {base g : Nat} {e : TypeId} {f : List Int} (h : w.heap[g]? = some (.cells (rowI f) e (0, 0))) (hb : base ≤ g) (hn : f.length ≤ 1000000) : Owns encI 1 e base w (.slice (some ⟨g, 0, none⟩) f.length f.length) f := by
  refine ⟨by rw [flatQ]; simp, .inr ⟨g, f.length, _, rfl, hb, h, Nat.le_refl _, by unfold maxLen; omega, by rw [rowI_size]; simp, ?_⟩⟩
  rw [flatQ, rowI]
  simp [List.take_of_length_le]

theorem made_row {n : Nat} : (madeCells (Value.cells (.int .i64 0)) (n * 1)).toList = (List.replicate n (0 : Int)).map iv := by
  have := toList_madeCells_one (.int .i64 0) n
  rw [Nat.mul_one]
  refine Eq.trans ?_ (this.trans ?_)
  · rfl
  · simp
/-- The numbers from 0 on. -/
def natsTo (n : Nat) : List Int := (List.range n).map fun x : Nat => (x : Int)
theorem natsTo_len (n : Nat) : (natsTo n).length = n := by simp [natsTo]
def numTo (n j : Nat) : List Int := natsTo j ++ List.replicate (n - j) 0
theorem numTo_len {n j : Nat} (h : j ≤ n) : (numTo n j).length = n := by simp [numTo, natsTo_len]; omega
theorem numTo_succ {n j : Nat} (h : j < n) : (numTo n j).set j (j : Int) = numTo n (j + 1) := by
  unfold numTo natsTo
  rw [List.range_succ, List.map_append, List.map_singleton, List.append_assoc, show n - j = (n - (j + 1)) + 1 by omega, List.replicate_succ]
  rw [List.set_append_right _ _ (by simp)]
  simp

set_option maxRecDepth 20000 in
set_option maxHeartbeats 1600000 in
theorem numbers_any (n : Nat) (w : World) (hn : n ≤ 1000000) :
    Calls Try.prog 34 #[iv n] w fun e w' => e = .returned (.slice (some ⟨w.heap.size, 0, none⟩) n n) ∧ w'.heap[w.heap.size]? = some (.cells (rowI (natsTo n)) 3 (0, 0)) ∧ Below w.heap.size w w' := by
  obtain ⟨i0, hi, hz0, hz1, hz2⟩ := info_parts info3
  have HI := Lib.hid hi; have HZ0 := Lib.hid hz0; have HZ1 := Lib.hid hz1
  have HBY := Lib.hid (show i0.bytes * n ≤ 281474976710656 by rw [hz2]; omega)
  have HML := Lib.hid (show n ≤ maxLen by unfold maxLen; omega)
  clear hi hz0 hz1 hz2
  go_enter Try.func34, Try.ntmps34
  go_wp2_with (with_reducible change wpList _ _ _ (Oper.mk _ (Op.makeSlice 24 _ _) _ _ _ _ :: _) _ _; refine wpList_make_full _ rfl _ _ 24 rfl w.heap.size 3 i0 (.int .i64 0) 1 Try.underlying24 HI.out HZ0.out HZ1.out .i64 .i64 n n n rfl rfl rfl rfl HBY.out HML.out (Nat.le_refl _) ?_; intro w1 hown hgrow)
  have HR : Hid (w1.heap[w.heap.size]? = some (.cells (rowI (numTo n 0)) 3 (0, 0))) := by
    have := heap_ownsI hown
    rw [made_row] at this
    simpa [numTo, natsTo, rowI, Hid] using this
  have HB : Hid (Below w.heap.size w w1) := ⟨hgrow.os, hgrow.tape, hgrow.output, hgrow.size, fun q hq => hgrow.block q hq (by simp)⟩
  clear hown hgrow
  go_wp2_with fail
  go_loopw [8] (fun i wr => ∃ j : Nat, j ≤ n ∧ i = iv j ∧ wr.heap[w.heap.size]? = some (.cells (rowI (numTo n j)) 3 (0, 0)) ∧ Below w.heap.size w wr) (fun i _ => n - (intOf i).toNat)
  case atStart => exact ⟨0, Nat.zero_le _, rfl, HR.out, HB.out⟩
  case round =>
    obtain ⟨j, hj, rfl, hr, hb⟩ := hrel
    have HRr := Lib.hid hr; have HBr := Lib.hid hb
    clear hr hb
    by_cases hlt : j < n
    · have hc : wr.cell? ⟨w.heap.size, j, none⟩ = some (iv ((numTo n j).getD j 0)) := cell_rowI HRr.out (by rw [numTo_len (by omega)]; exact hlt)
      have hf : wr.frozen? ⟨w.heap.size, j, none⟩ = false := frozen_of_row _ _ _ _ _ HRr.out
      generalize (numTo n j).getD j 0 = old at *
      go_wp2_with fail
      go_roundw
      case rel => exact ⟨j + 1, by omega, by go_num, by rw [heap_setCell_same _ _ _ _ _ _ HRr.out, rowI_set, numTo_succ hlt], bput HBr.out (Nat.le_refl _) _⟩
      case measure => simp [intOf]; omega
    · obtain rfl : j = n := by omega
      go_wp2_with fail
      go_ret
      exact ⟨rfl, by have := HRr.out; simpa [numTo] using this, HBr.out⟩

def encC (c : Ct) : List Value := [iv c.we, iv c.co, iv c.lo, iv c.hi]
set_option maxHeartbeats 800000 in
theorem briefly_any (c : Ct) (w : World) :
    Calls Try.prog 12 #[.agg (encC c).toArray] w fun e w' => e = .returned (iv c.lo) ∧ Below w.heap.size w w' := by
  obtain ⟨we, co, lo, hi⟩ := c
  simp only [encC]
  go_enter Try.func12, Try.ntmps12
  go_wp2_with fail
  go_ret
  exact ⟨rfl, (by repeat (first | exact Below.refl _ _ | refine Below.drew ?_ | refine bpush ?_ _ | refine bput ?_ (by simp) _ | (refine bstep ?_ (by assumption))))⟩
set_option maxHeartbeats 800000 in
theorem long_any (c : Ct) (w : World) :
    Calls Try.prog 13 #[.agg (encC c).toArray] w fun e w' => e = .returned (iv c.hi) ∧ Below w.heap.size w w' := by
  obtain ⟨we, co, lo, hi⟩ := c
  simp only [encC]
  go_enter Try.func13, Try.ntmps13
  go_wp2_with fail
  go_ret
  exact ⟨rfl, (by repeat (first | exact Below.refl _ _ | refine Below.drew ?_ | refine bpush ?_ _ | refine bput ?_ (by simp) _ | (refine bstep ?_ (by assumption))))⟩

/-- A queue: cloths, ranks, stocks, the order. -/
abbrev qv (cv rv : Value) (k : Int) (ov : Value) : Value := .agg #[cv, rv, iv k, ov]

set_option maxRecDepth 20000 in
set_option maxHeartbeats 1600000 in
theorem first_any (cv rv ov : Value) (f : List Int) (b : Nat) (t : TypeId) (w : World) (hn : f.length ≤ 1000000) (h : w.heap[b]? = some (.cells (rowI f) t (0, 0))) :
    Calls Try.prog 22 #[qv cv rv f.length ov, .slice (some ⟨b, 0, none⟩) f.length f.length] w fun e w' => e = .returned (iv (best f)) ∧ Below w.heap.size w w' := by
  have HR := Lib.hid h; clear h
  have HB := Lib.hid (show best f = bestTo f f.length from rfl)
  go_enter Try.func22, Try.ntmps22
  go_wp2_with fail
  go_loopw [9, 5] (fun i s wr => ∃ j : Nat, j ≤ f.length ∧ i = iv j ∧ s = iv (bestTo f j) ∧ Below w.heap.size w wr) (fun i _ _ => f.length - (intOf i).toNat)
  case atStart => exact ⟨0, Nat.zero_le _, rfl, rfl, (by repeat (first | exact Below.refl _ _ | refine Below.drew ?_ | refine bpush ?_ _ | refine bput ?_ (by simp) _ | (refine bstep ?_ (by assumption))))⟩
  case round =>
    obtain ⟨j, hj, rfl, rfl, hb⟩ := hrel
    have HBr := Lib.hid hb
    clear hb
    by_cases hlt : j < f.length
    · have hbl := bestTo_le f j
      have hrow := (HBr.out.block b (Array.getElem?_eq_some_iff.1 HR.out).1).trans HR.out
      have hc : wr.cell? ⟨b, j, none⟩ = some (iv (f.getD j 0)) := cell_rowI hrow hlt
      have hc2 : wr.cell? ⟨b, bestTo f j, none⟩ = some (iv (f.getD (bestTo f j) 0)) := cell_rowI hrow (by omega)
      have HN : Hid (bestTo f (j + 1) = if f.getD j 0 < f.getD (bestTo f j) 0 then j else bestTo f j) := rfl
      have hbl2 : bestTo f j < f.length := by omega
      clear hrow hbl
      generalize f.getD (bestTo f j) 0 = u at *
      generalize f.getD j 0 = v at *
      generalize bestTo f j = bt at *
      go_wp2_with fail
      go_region
      by_cases hvu : v < u
      · go_wp2_with fail
        go_roundw
        case rel => exact ⟨j + 1, by omega, by go_num, by rw [HN.out, if_pos hvu], HBr.out.drew⟩
        case measure => simp [intOf]; omega
      · go_wp2_with fail
        go_roundw
        case rel => exact ⟨j + 1, by omega, by go_num, by rw [HN.out, if_neg hvu], HBr.out.drew⟩
        case measure => simp [intOf]; omega
    · obtain rfl : j = f.length := by omega
      go_wp2_with fail
      go_ret
      exact ⟨by rw [HB.out]; rfl, HBr.out⟩
end Go.Proofs.Ytdalilllakdamaa

/- Turns: the visits of cloths to stocks, one after another. -/
namespace Go.Proofs.Ytdalilllakdamaa
open Go Go.RowKit Go.Shelf
attribute [local go_sem] Oper.semAt_some
attribute [local go_sem ↓] Go.wp_at_zero Go.wp_at_succ

theorem kcellQ {W W1 : World} {b o : Nat} {v : Value} (hb : Below W.heap.size W W1) (h : W.cell? ⟨b, o, none⟩ = some v) : W1.cell? ⟨b, o, none⟩ = some v := (hb.cell (p := ⟨b, o, none⟩) (lt_of_cell h)).trans h
theorem kfrozenQ {W W1 : World} {b o : Nat} {v : Value} (hb : Below W.heap.size W W1) (h : W.cell? ⟨b, o, none⟩ = some v) (hf : W.frozen? ⟨b, o, none⟩ = false) : W1.frozen? ⟨b, o, none⟩ = false := (hb.frozen (p := ⟨b, o, none⟩) (lt_of_cell h)).trans hf
theorem turn_setQ {T : Nat → Prop} {W : World} {b : Nat} (hb : T b) (o : Nat) (v : Value) : Turn T W (W.setCell ⟨b, o, none⟩ v) :=
  ⟨rfl, rfl, rfl, by simp [World.setCell], fun k _ hk => Below.heap_setCell _ _ _ _ (fun e => hk (e ▸ hb))⟩
theorem encC_len (c : Ct) : (encC c).length = 4 := rfl
/-- What the numbers of cloths say. -/
def ordI (o : List Nat) : List Int := o.map fun x : Nat => (x : Int)
def coOf (C : List Ct) (a : Nat) : Int := (ctAt C a).co
def loOf (C : List Ct) (a : Nat) : Int := (ctAt C a).lo
def hiOf (C : List Ct) (a : Nat) : Int := (ctAt C a).hi
/-- Cloths whose numbers are not too great. -/
def CtOk (C : List Ct) : Prop := ∀ a, a < C.length → 0 ≤ (ctAt C a).we ∧ (ctAt C a).we ≤ 1000 ∧ 0 ≤ (ctAt C a).co ∧ (ctAt C a).co ≤ 1000 ∧ 0 ≤ (ctAt C a).lo ∧ (ctAt C a).lo ≤ 1000 ∧ 0 ≤ (ctAt C a).hi ∧ (ctAt C a).hi ≤ 1000
def FrOk (f : List Int) (i : Nat) : Prop := ∀ j, j < f.length → 0 ≤ f.getD j 0 ∧ f.getD j 0 ≤ 1000 + 1000 * (i : Int)
theorem FrOk.zero (k : Nat) : FrOk (List.replicate k 0) 0 := by
  intro j hj
  have hj' : j < k := by simpa using hj
  simp [List.getD_eq_getElem?_getD, hj']
theorem FrOk.step {f : List Int} {i : Nat} {c s : Int} (h : FrOk f i) (hf : 0 < f.length) (hc : 0 ≤ c ∧ c ≤ 1000) (hs : 0 ≤ s ∧ s ≤ 1000) : 0 ≤ takeAt f c ∧ takeAt f c ≤ 1000 + 1000 * (i : Int) ∧ FrOk (stepF f c s) (i + 1) := by
  have hb := h _ (best_lt hf)
  have h1 : 0 ≤ takeAt f c ∧ takeAt f c ≤ 1000 + 1000 * (i : Int) := by unfold takeAt; omega
  refine ⟨h1.1, h1.2, fun j hj => ?_⟩
  rw [stepF_len] at hj
  have hj2 := h j hj
  unfold stepF
  simp only [List.getD_eq_getElem?_getD, List.getElem?_set] at hj2 ⊢
  split
  · split
    · simp only [Option.getD_some]; omega
    · simp; omega
  · omega
theorem ctAt_get {C : List Ct} {a : Nat} (h : a < C.length) : C[a]? = some (ctAt C a) := by
  simp [ctAt, List.getD_eq_getElem?_getD, List.getElem?_eq_getElem h]
/-- The cells of a cloth of a slice. -/
theorem cloth_cells {w : World} {b off n cap x : Nat} {C : List Ct} (h : SliceOf encC 4 w (.slice (some ⟨b, off, none⟩) n cap) C) (hx : x < C.length) :
    w.cell? ⟨b, off + x * 4, none⟩ = some (iv (ctAt C x).we) ∧ w.cell? ⟨b, off + x * 4 + 1, none⟩ = some (iv (ctAt C x).co) ∧ w.cell? ⟨b, off + x * 4 + 2, none⟩ = some (iv (ctAt C x).lo) ∧ w.cell? ⟨b, off + x * 4 + 3, none⟩ = some (iv (ctAt C x).hi) := by
  obtain ⟨a, cap', he, -, hc⟩ := h
  simp only [Value.slice.injEq] at he
  obtain ⟨rfl, -, -⟩ := he
  obtain ⟨b', off', he, hj⟩ := hc x _ (ctAt_get hx)
  simp only [Option.some.injEq, Addr.mk.injEq] at he
  obtain ⟨rfl, rfl, -⟩ := he
  exact ⟨hj 0 _ rfl, hj 1 _ rfl, hj 2 _ rfl, hj 3 _ rfl⟩
theorem int_cell {w : World} {b off n cap i : Nat} {xs : List Int} {x : Int} (h : Ints w (.slice (some ⟨b, off, none⟩) n cap) xs) (hx : xs[i]? = some x) : w.cell? ⟨b, off + i, none⟩ = some (iv x) := by
  obtain ⟨a, cap', he, -, hc⟩ := h
  simp only [Value.slice.injEq] at he
  obtain ⟨rfl, -, -⟩ := he
  obtain ⟨b', off', he, hj⟩ := hc i _ hx
  simp only [Option.some.injEq, Addr.mk.injEq] at he
  obtain ⟨rfl, rfl, -⟩ := he
  have := hj 0 _ rfl
  rwa [Nat.mul_one, Nat.add_zero] at this
theorem slice_addr {α : Type} {enc : α → List Value} {sz : Nat} {w : World} {a : Option Addr} {n c : Nat} {xs : List α} (h : SliceOf enc sz w (.slice a n c) xs) (hx : 0 < xs.length) : ∃ b off, a = some ⟨b, off, none⟩ := by
  obtain ⟨a', cap', he, -, hc⟩ := h
  simp only [Value.slice.injEq] at he
  obtain ⟨rfl, -, -⟩ := he
  obtain ⟨x, hx'⟩ := getElem?_of_lt hx
  obtain ⟨b', off', he, -⟩ := hc 0 x hx'
  exact ⟨_, _, he⟩

def encV (v : Nat × Int × Int) : Array Value := #[.agg #[iv (v.1 : Int), iv v.2.1, iv v.2.2]]
def qrow (cv rv : Value) (k : Int) (ov : Value) : Array Value := #[cv, rv, iv k, ov]

set_option maxHeartbeats 800000 in
theorem visits_any (cv rv ov : Value) (k : Int) (g : FuncId) (w : World) :
    Calls Try.prog 11 #[qv cv rv k ov, .func (.func g) #[] #[]] w fun e w' => e = .returned (.func (.func 21) #[] #[.pointer (some ⟨w.heap.size, 0, none⟩), .pointer (some ⟨w.heap.size + 1, 0, none⟩)]) ∧ (w.alloc (.cells #[cv, rv, iv k, ov] 48)).alloc (.cells #[.func (.func g) #[] #[]] 67) = w' := by
  go_enter Try.func11, Try.ntmps11
  go_wp2_with fail
  go_ret
  exact ⟨rfl, rfl⟩

set_option maxRecDepth 20000 in
set_option maxHeartbeats 12800000 in
theorem visitsLo_seq (S : Nat → Prop) (bq bs : Nat) (hSq : S bq) (hSs : S bs) (C : List Ct) (o : List Nat) (ca oa : Option Addr) (cc oc k : Nat) (rv : Value) (w0 : World) (hS : ∀ j, S j → j < w0.heap.size)
    (hq : w0.heap[bq]? = some (.cells #[.slice ca C.length cc, rv, iv k, .slice oa o.length oc] 48 (0, 0))) (hs : w0.heap[bs]? = some (.cells #[.func (.func 12) #[] #[]] 67 (0, 0)))
    (hC : ∀ W, SameOn S w0 W → SliceOf encC 4 W (.slice ca C.length cc) C) (hO : ∀ W, SameOn S w0 W → Ints W (.slice oa o.length oc) (ordI o)) (ho : ∀ x ∈ o, x < C.length) (hk : 1 ≤ k ∧ k ≤ 1000) (hl : o.length ≤ 1000) (hok : CtOk C) :
    SeqL Try.prog 21 #[.pointer (some ⟨bq, 0, none⟩), .pointer (some ⟨bs, 0, none⟩)] encV S (visL (coOf C) (loOf C) (List.replicate k 0) o) w0 := by
  intro n l J Jx W hW hJ hJx hY h0
  have HC : Hid (∀ wr, SameOn S W wr → SliceOf encC 4 wr (.slice ca C.length cc) C) := fun wr h => hC wr (hW.trans h)
  have HO : Hid (∀ wr, SameOn S W wr → Ints wr (.slice oa o.length oc) (ordI o)) := fun wr h => hO wr (hW.trans h)
  have HQ : Hid (∀ wr, SameOn S W wr → wr.heap[bq]? = some (.cells #[.slice ca C.length cc, rv, iv k, .slice oa o.length oc] 48 (0, 0))) := fun wr h => ((hW.trans h).block bq hSq).trans hq
  have HF : Hid (∀ wr, SameOn S W wr → wr.heap[bs]? = some (.cells #[.func (.func 12) #[] #[]] 67 (0, 0))) := fun wr h => ((hW.trans h).block bs hSs).trans hs
  have HW := Lib.hid (show ∀ j, S j → j < W.heap.size from fun j hj => Nat.lt_of_lt_of_le (hS j hj) hW.size)
  have HY := Lib.hid hY; have HJ := Lib.hid hJ; have HX := Lib.hid hJx; have HJ0 := Lib.hid h0
  have HX0 := Lib.hid ho; have HK := Lib.hid hok
  have HBS : Hid (bq < W.heap.size ∧ bs < W.heap.size) := ⟨HW.out bq hSq, HW.out bs hSs⟩
  clear hC hO hq hs hS hW hSq hSs hY hJ hJx h0 ho hok
  obtain ⟨xs, hxs⟩ : ∃ xs, xs = visL (coOf C) (loOf C) (List.replicate k 0) o := ⟨_, rfl⟩
  rw [← hxs] at HY ⊢
  have HXS := Lib.hid hxs; clear hxs
  obtain ⟨i0, hi, hz0, hz1, hz2⟩ := info_parts info3
  have HI := Lib.hid hi; have HZ0 := Lib.hid hz0; have HZ1 := Lib.hid hz1
  have HBY := Lib.hid (show i0.bytes * k ≤ 281474976710656 by rw [hz2]; omega)
  have HML := Lib.hid (show k ≤ maxLen by unfold maxLen; omega)
  clear hi hz0 hz1 hz2
  have q0 := HQ.out W (SameOn.refl _ _)
  have v0 : W.cell? ⟨bq, 0, none⟩ = some (.slice ca C.length cc) := by rw [cell_of_row _ _ _ _ _ _ q0]; rfl
  have v2 : W.cell? ⟨bq, 2, none⟩ = some (iv k) := by rw [cell_of_row _ _ _ _ _ _ q0]; rfl
  have v3 : W.cell? ⟨bq, 3, none⟩ = some (.slice oa o.length oc) := by rw [cell_of_row _ _ _ _ _ _ q0]; rfl
  clear q0
  refine callsIn_of_wp Try.func21 rfl trivial ?_ rfl
  simp only [Try.ntmps21, List.size_toArray, List.length_cons, List.length_nil, Nat.reduceAdd, Nat.reduceSub, Array.replicate_succ, Array.replicate_zero, List.push_toArray, List.append_toArray, List.nil_append, List.cons_append]
  refine wpIn_seq ?_
  refine wpIn_wide.2 ?_
  go_wp2_with (with_reducible change wpList _ _ _ (Oper.mk _ (Op.makeSlice 24 _ _) _ _ _ _ :: _) _ _; refine wpList_make_full _ rfl _ _ 24 rfl W.heap.size 3 i0 (.int .i64 0) 1 Try.underlying24 HI.out HZ0.out HZ1.out .i64 .i64 k k k rfl rfl rfl rfl HBY.out HML.out (Nat.le_refl _) ?_; intro w1 hown hgrow)
  have hg0 : w1.heap[W.heap.size]? = some (.cells (rowI (List.replicate k 0)) 3 (0, 0)) := by
    have := heap_ownsI hown
    rw [made_row] at this
    exact this
  have hB1 : Below W.heap.size W w1 := ⟨hgrow.os, hgrow.tape, hgrow.output, hgrow.size, fun q hq => hgrow.block q hq (by simp)⟩
  clear hown hgrow v0 v2 v3
  obtain ⟨T, hT⟩ : ∃ T : Nat → Prop, T = fun q => q = W.heap.size := ⟨_, rfl⟩
  have hTg : T W.heap.size := by rw [hT]
  have HT : Hid (∀ q, T q → q = W.heap.size) := by intro q hq; rwa [hT] at hq
  clear hT
  have HJ1 : Hid (J T [] w1) := (HJ.out _).turn _ _ _ (fun q hq => by have := HT.out q hq; omega) (Nat.le_refl _) ((HJ.out _).ext _ _ _ HJ0.out (fun q hq => .inr (by have := HT.out q hq; omega))) (Turn.of_below hB1)
  have HS1 : Hid (SameOn S W w1) := SameOn.of_below hB1 HW.out
  have HG1 := Lib.hid hg0
  have q0 := HQ.out w1 HS1.out
  have v3 : w1.cell? ⟨bq, 3, none⟩ = some (.slice oa o.length oc) := by rw [cell_of_row _ _ _ _ _ _ q0]; rfl
  clear q0 hg0 hB1
  gi_wp2_with fail
  clear v3
  gi_loopw [16] (fun x wr => ∃ (i : Nat) (f : List Int) (pre : List (Nat × Int × Int)), i ≤ o.length ∧ x = iv i ∧ Hid (xs = pre ++ visL (coOf C) (loOf C) f (o.drop i)) ∧ f.length = k ∧ FrOk f i ∧ SameOn S W wr ∧ J T pre wr ∧ wr.heap[W.heap.size]? = some (.cells (rowI f) 3 (0, 0))) (fun x _ => o.length - (intOf x).toNat)
  case atStart => exact ⟨0, _, [], Nat.zero_le _, rfl, HXS.out, by simp, FrOk.zero k, HS1.out, HJ1.out, HG1.out⟩
  case round =>
    obtain ⟨i, f, pre, hi, rfl, HXK, hfl, hfr, hsr, hjr, hgr⟩ := hrel
    have HSr := Lib.hid hsr; have HJr := Lib.hid hjr; have HGr := Lib.hid hgr; have HFr := Lib.hid hfr
    clear hsr hjr hgr hfr
    subst hfl
    have hsw : W.heap.size ≤ wr.heap.size := HSr.out.size
    have hgl : W.heap.size < wr.heap.size := (Array.getElem?_eq_some_iff.1 HGr.out).1
    by_cases hlt : i < o.length
    · obtain ⟨c, hc⟩ := getElem?_of_lt hlt
      have hcC := HX0.out c (List.mem_of_getElem? hc)
      obtain ⟨k1, k2, k3, k4, k5, k6, k7, k8⟩ := HK.out c hcC
      have HXC : Hid (xs = (pre ++ [(c, takeAt f (coOf C c), takeAt f (coOf C c) + loOf C c)]) ++ visL (coOf C) (loOf C) (stepF f (coOf C c) (loOf C c)) (o.drop (i + 1))) := by
        have := HXK.out
        obtain ⟨hk', he⟩ := List.getElem?_eq_some_iff.1 hc
        rw [List.drop_eq_getElem_cons hk', he] at this
        rw [this]; simp [Hid, visL]
      obtain ⟨t1, t2, HF2⟩ := HFr.out.step (c := coOf C c) (s := loOf C c) (by omega) ⟨by unfold coOf; omega, by unfold coOf; omega⟩ ⟨by unfold loOf; omega, by unfold loOf; omega⟩
      have hbl := best_lt (f := f) (by omega)
      have hbv := HFr.out _ hbl
      have htk : Hid (takeAt f (coOf C c) = if coOf C c < f.getD (best f) 0 then f.getD (best f) 0 else coOf C c) := by
        unfold Hid takeAt; split <;> omega
      have HSF : Hid (stepF f (coOf C c) (loOf C c) = f.set (best f) (takeAt f (coOf C c) + loOf C c)) := rfl
      have hsl : (stepF f (coOf C c) (loOf C c)).length = f.length := stepF_len _ _ _
      have hO1 := HO.out wr HSr.out
      obtain ⟨ob, oo, rfl⟩ := slice_addr hO1 (by simp [ordI]; omega)
      have x0 : wr.cell? ⟨ob, oo + i, none⟩ = some (iv c) := int_cell hO1 (by simp [ordI, hc])
      have hC1 := HC.out wr HSr.out
      obtain ⟨cb, co, rfl⟩ := slice_addr hC1 (by omega)
      obtain ⟨y0, y1, y2, y3⟩ := cloth_cells hC1 hcC
      have q0 := HQ.out wr HSr.out
      have v0 : wr.cell? ⟨bq, 0, none⟩ = some (.slice (some ⟨cb, co, none⟩) C.length cc) := by rw [cell_of_row _ _ _ _ _ _ q0]; rfl
      have v1 : wr.cell? ⟨bq, 1, none⟩ = some rv := by rw [cell_of_row _ _ _ _ _ _ q0]; rfl
      have v2 : wr.cell? ⟨bq, 2, none⟩ = some (iv f.length) := by rw [cell_of_row _ _ _ _ _ _ q0]; rfl
      have v3 : wr.cell? ⟨bq, 3, none⟩ = some (.slice (some ⟨ob, oo, none⟩) o.length oc) := by rw [cell_of_row _ _ _ _ _ _ q0]; rfl
      clear hO1 hC1 q0
      have hbq : bq < wr.heap.size := Nat.lt_of_lt_of_le HBS.out.1 hsw
      obtain ⟨Wn, hWn⟩ : ∃ Wn : World, wr.alloc (.cells #[iv (ctAt C c).we, iv (ctAt C c).co, iv (ctAt C c).lo, iv (ctAt C c).hi] 32) = Wn := ⟨_, rfl⟩
      have hBn : Below wr.heap.size wr Wn := by rw [← hWn]; exact bpush (Below.refl _ _) _
      have hzn : Wn.heap.size = wr.heap.size + 1 := by rw [← hWn]; simp
      have hcn : Wn.heap[wr.heap.size]? = some (.cells #[iv (ctAt C c).we, iv (ctAt C c).co, iv (ctAt C c).lo, iv (ctAt C c).hi] 32 (0, 0)) := by rw [← hWn]; exact heap_new _ _ _
      have hgn : Wn.heap[W.heap.size]? = some (.cells (rowI f) 3 (0, 0)) := (hBn.block _ hgl).trans HGr.out
      have z0 := kcellQ hBn v0
      have z1 := kcellQ hBn v1
      have z2 := kcellQ hBn v2
      have z3 := kcellQ hBn v3
      have HBn := Lib.hid hBn; have HZn := Lib.hid hzn; have HCn := Lib.hid hcn; have HGn := Lib.hid hgn
      clear hBn hzn hcn hgn
      gi_wp2_with fail
      clear x0 y0 y1 y2 y3 v0 v1 v2 v3 z0 z1 z2 z3 hWn
      refine (callsIn_wide.2 (first_any _ _ _ f _ _ _ (by omega) HGn.out)).mono ?_
      rintro e w2 ⟨rfl, hb2⟩
      have hb3 : Below wr.heap.size wr w2 := bstep HBn.out hb2
      have hs2 : SameOn S W w2 := HSr.out.trans (SameOn.of_below hb3 (fun q hq => Nat.lt_of_lt_of_le (HW.out q hq) hsw))
      have hc2 := (hb2.block wr.heap.size (by have := HZn.out; omega)).trans HCn.out
      have hg2 := (hb3.block _ hgl).trans HGr.out
      have hj2 := (HJ.out _).turn _ _ _ (fun q hq => by have := HT.out q hq; omega) hsw HJr.out (Turn.of_below hb3)
      have HS2 := Lib.hid hs2; have HC2 := Lib.hid hc2; have HG2 := Lib.hid hg2; have HJ2 := Lib.hid hj2
      have hf2 := HF.out w2 hs2
      have c0 : w2.cell? ⟨wr.heap.size, 0, none⟩ = some (iv (ctAt C c).we) := by rw [cell_of_row _ _ _ _ _ _ hc2]; rfl
      have c1 : w2.cell? ⟨wr.heap.size, 1, none⟩ = some (iv (coOf C c)) := by rw [cell_of_row _ _ _ _ _ _ hc2]; rfl
      have c2 : w2.cell? ⟨wr.heap.size, 2, none⟩ = some (iv (ctAt C c).lo) := by rw [cell_of_row _ _ _ _ _ _ hc2]; rfl
      have c3 : w2.cell? ⟨wr.heap.size, 3, none⟩ = some (iv (ctAt C c).hi) := by rw [cell_of_row _ _ _ _ _ _ hc2]; rfl
      have g2 : w2.cell? ⟨W.heap.size, best f, none⟩ = some (iv (f.getD (best f) 0)) := cell_rowI hg2 hbl
      have h2 : w2.frozen? ⟨W.heap.size, best f, none⟩ = false := frozen_of_row _ _ _ _ _ hg2
      have s2 : w2.cell? ⟨bs, 0, none⟩ = some (.func (.func 12) #[] #[]) := by rw [cell_of_row _ _ _ _ _ _ hf2]; rfl
      clear hb2 hb3 hs2 hc2 hg2 hj2 hf2
      generalize f.getD (best f) 0 = fb at *
      generalize takeAt f (coOf C c) = tk at *
      generalize stepF f (coOf C c) (loOf C c) = sf at *
      have hsz2 : W.heap.size < w2.heap.size := lt_of_cell g2
      gi_wp2_with fail
      refine wpIn_wide.2 ?_
      go_region
      rw [← htk.out]
      gi_wp2_with fail
      refine (callsIn_wide.2 (briefly_any (ctAt C c) _)).mono ?_
      rintro e w3 ⟨rfl, hb3⟩
      have hb3 : Below w2.heap.size w2 w3 := (Below.refl _ _).drew.trans hb3
      have hs3 := HS2.out.trans (SameOn.of_below hb3 (fun q hq => by have := HW.out q hq; omega))
      have hg3 := (hb3.block _ hsz2).trans HG2.out
      have hj3 := (HJ.out _).turn _ _ _ (fun q hq => by have := HT.out q hq; omega) (by omega) HJ2.out (Turn.of_below hb3)
      have g3 : w3.cell? ⟨W.heap.size, best f, none⟩ = some (iv fb) := kcellQ hb3 g2
      have h3 : w3.frozen? ⟨W.heap.size, best f, none⟩ = false := frozen_of_row _ _ _ _ _ hg3
      have hsz3 : W.heap.size < w3.heap.size := lt_of_cell g3
      obtain ⟨W4, hW4⟩ : ∃ W4 : World, w3.setCell ⟨W.heap.size, best f, none⟩ (iv (tk + (ctAt C c).lo)) = W4 := ⟨_, rfl⟩
      have ht4 : Turn T w3 W4 := by rw [← hW4]; exact turn_setQ hTg _ _
      have hg4 : W4.heap[W.heap.size]? = some (.cells (rowI sf) 3 (0, 0)) := by rw [← hW4, heap_setCell_same _ _ _ _ _ _ hg3, rowI_set, HSF.out]; rfl
      have hs4 : SameOn S W W4 := by
        rw [← hW4]; exact hs3.setCell (p := ⟨W.heap.size, best f, none⟩) (fun h => by have := HW.out _ h; simp at this) _
      have hj4 := (HJ.out _).turn _ _ _ (fun q hq => by have := HT.out q hq; omega) (by omega) hj3 ht4
      have hz4 : W4.heap.size = w3.heap.size := by rw [← hW4]; simp [World.setCell]
      have g4 : W4.cell? ⟨W.heap.size, best f, none⟩ = some (iv (tk + (ctAt C c).lo)) := by rw [← hW4]; exact World.cell?_setCell_same' _ _ _ (by rw [g3]; rfl)
      have HS4 := Lib.hid hs4; have HG4 := Lib.hid hg4; have HZ4 := Lib.hid hz4
      have hpre : (pre ++ [(c, tk, tk + loOf C c)]) <+: xs := ⟨_, HXC.out.symm⟩
      obtain ⟨fn, tmps, assign, body, hy, hR⟩ := HY.out T _ _ W4 (fun q hq => by have := HT.out q hq; omega) hpre hj4 (by omega) (fun q hq => by have := HT.out q hq; omega)
      have HR := Lib.hid hR
      unfold encV loOf at hy
      dsimp only at hy
      clear hb3 hs3 hg3 hj3 ht4 hg4 hs4 hj4 hz4 hR hpre g2 h2 c0 c1 c2 c3 s2
      gi_wp2_with fail
      refine HR.out.mono ?_
      rintro e w5 (⟨rfl, hj5, hk5⟩ | ⟨rfl, hx5, hk5⟩)
      · have HJ5 := Lib.hid hj5
        have HS5 := Lib.hid (HS4.out.trans (hk5.mono (fun _ h => .inl h)))
        have HG5 := Lib.hid ((hk5.block W.heap.size (.inr hTg)).trans HG4.out)
        clear hj5 hk5 hy hW4 g4 g3 h3
        gi_wp2_with fail
        go_roundw
        case rel => exact ⟨i + 1, sf, _, by omega, by go_num, HXC.out, hsl, HF2, HS5.out, HJ5.out, HG5.out⟩
        case measure => simp [intOf]; omega
      · have HX5 := Lib.hid hx5
        have HZ5 := Lib.hid (show W.heap.size ≤ w5.heap.size from by have := hk5.size; have := HZ4.out; omega)
        clear hx5 hk5 hy hW4 g4 g3 h3
        gi_wp2_with fail
        refine bodyPost_ret (results_none rfl _ _ _) rfl ?_
        exact ⟨⟨_, rfl⟩, HZ5.out, .inr (HX.out.ext _ _ _ HX5.out (fun _ h => h.elim))⟩
    · obtain rfl : i = o.length := by omega
      have HXE : Hid (xs = pre) := by have := HXK.out; rw [List.drop_length] at this; simpa [Hid, visL] using this
      gi_wp2_with fail
      go_end0
      exact ⟨⟨_, rfl⟩, hsw, .inl (by rw [HXE.out]; exact (HJ.out _).ext _ _ _ HJr.out (fun _ h => h.elim))⟩
set_option maxRecDepth 20000 in
set_option maxHeartbeats 12800000 in
theorem visitsHi_seq (S : Nat → Prop) (bq bs : Nat) (hSq : S bq) (hSs : S bs) (C : List Ct) (o : List Nat) (ca oa : Option Addr) (cc oc k : Nat) (rv : Value) (w0 : World) (hS : ∀ j, S j → j < w0.heap.size)
    (hq : w0.heap[bq]? = some (.cells #[.slice ca C.length cc, rv, iv k, .slice oa o.length oc] 48 (0, 0))) (hs : w0.heap[bs]? = some (.cells #[.func (.func 13) #[] #[]] 67 (0, 0)))
    (hC : ∀ W, SameOn S w0 W → SliceOf encC 4 W (.slice ca C.length cc) C) (hO : ∀ W, SameOn S w0 W → Ints W (.slice oa o.length oc) (ordI o)) (ho : ∀ x ∈ o, x < C.length) (hk : 1 ≤ k ∧ k ≤ 1000) (hl : o.length ≤ 1000) (hok : CtOk C) :
    SeqL Try.prog 21 #[.pointer (some ⟨bq, 0, none⟩), .pointer (some ⟨bs, 0, none⟩)] encV S (visL (coOf C) (hiOf C) (List.replicate k 0) o) w0 := by
  intro n l J Jx W hW hJ hJx hY h0
  have HC : Hid (∀ wr, SameOn S W wr → SliceOf encC 4 wr (.slice ca C.length cc) C) := fun wr h => hC wr (hW.trans h)
  have HO : Hid (∀ wr, SameOn S W wr → Ints wr (.slice oa o.length oc) (ordI o)) := fun wr h => hO wr (hW.trans h)
  have HQ : Hid (∀ wr, SameOn S W wr → wr.heap[bq]? = some (.cells #[.slice ca C.length cc, rv, iv k, .slice oa o.length oc] 48 (0, 0))) := fun wr h => ((hW.trans h).block bq hSq).trans hq
  have HF : Hid (∀ wr, SameOn S W wr → wr.heap[bs]? = some (.cells #[.func (.func 13) #[] #[]] 67 (0, 0))) := fun wr h => ((hW.trans h).block bs hSs).trans hs
  have HW := Lib.hid (show ∀ j, S j → j < W.heap.size from fun j hj => Nat.lt_of_lt_of_le (hS j hj) hW.size)
  have HY := Lib.hid hY; have HJ := Lib.hid hJ; have HX := Lib.hid hJx; have HJ0 := Lib.hid h0
  have HX0 := Lib.hid ho; have HK := Lib.hid hok
  have HBS : Hid (bq < W.heap.size ∧ bs < W.heap.size) := ⟨HW.out bq hSq, HW.out bs hSs⟩
  clear hC hO hq hs hS hW hSq hSs hY hJ hJx h0 ho hok
  obtain ⟨xs, hxs⟩ : ∃ xs, xs = visL (coOf C) (hiOf C) (List.replicate k 0) o := ⟨_, rfl⟩
  rw [← hxs] at HY ⊢
  have HXS := Lib.hid hxs; clear hxs
  obtain ⟨i0, hi, hz0, hz1, hz2⟩ := info_parts info3
  have HI := Lib.hid hi; have HZ0 := Lib.hid hz0; have HZ1 := Lib.hid hz1
  have HBY := Lib.hid (show i0.bytes * k ≤ 281474976710656 by rw [hz2]; omega)
  have HML := Lib.hid (show k ≤ maxLen by unfold maxLen; omega)
  clear hi hz0 hz1 hz2
  have q0 := HQ.out W (SameOn.refl _ _)
  have v0 : W.cell? ⟨bq, 0, none⟩ = some (.slice ca C.length cc) := by rw [cell_of_row _ _ _ _ _ _ q0]; rfl
  have v2 : W.cell? ⟨bq, 2, none⟩ = some (iv k) := by rw [cell_of_row _ _ _ _ _ _ q0]; rfl
  have v3 : W.cell? ⟨bq, 3, none⟩ = some (.slice oa o.length oc) := by rw [cell_of_row _ _ _ _ _ _ q0]; rfl
  clear q0
  refine callsIn_of_wp Try.func21 rfl trivial ?_ rfl
  simp only [Try.ntmps21, List.size_toArray, List.length_cons, List.length_nil, Nat.reduceAdd, Nat.reduceSub, Array.replicate_succ, Array.replicate_zero, List.push_toArray, List.append_toArray, List.nil_append, List.cons_append]
  refine wpIn_seq ?_
  refine wpIn_wide.2 ?_
  go_wp2_with (with_reducible change wpList _ _ _ (Oper.mk _ (Op.makeSlice 24 _ _) _ _ _ _ :: _) _ _; refine wpList_make_full _ rfl _ _ 24 rfl W.heap.size 3 i0 (.int .i64 0) 1 Try.underlying24 HI.out HZ0.out HZ1.out .i64 .i64 k k k rfl rfl rfl rfl HBY.out HML.out (Nat.le_refl _) ?_; intro w1 hown hgrow)
  have hg0 : w1.heap[W.heap.size]? = some (.cells (rowI (List.replicate k 0)) 3 (0, 0)) := by
    have := heap_ownsI hown
    rw [made_row] at this
    exact this
  have hB1 : Below W.heap.size W w1 := ⟨hgrow.os, hgrow.tape, hgrow.output, hgrow.size, fun q hq => hgrow.block q hq (by simp)⟩
  clear hown hgrow v0 v2 v3
  obtain ⟨T, hT⟩ : ∃ T : Nat → Prop, T = fun q => q = W.heap.size := ⟨_, rfl⟩
  have hTg : T W.heap.size := by rw [hT]
  have HT : Hid (∀ q, T q → q = W.heap.size) := by intro q hq; rwa [hT] at hq
  clear hT
  have HJ1 : Hid (J T [] w1) := (HJ.out _).turn _ _ _ (fun q hq => by have := HT.out q hq; omega) (Nat.le_refl _) ((HJ.out _).ext _ _ _ HJ0.out (fun q hq => .inr (by have := HT.out q hq; omega))) (Turn.of_below hB1)
  have HS1 : Hid (SameOn S W w1) := SameOn.of_below hB1 HW.out
  have HG1 := Lib.hid hg0
  have q0 := HQ.out w1 HS1.out
  have v3 : w1.cell? ⟨bq, 3, none⟩ = some (.slice oa o.length oc) := by rw [cell_of_row _ _ _ _ _ _ q0]; rfl
  clear q0 hg0 hB1
  gi_wp2_with fail
  clear v3
  gi_loopw [16] (fun x wr => ∃ (i : Nat) (f : List Int) (pre : List (Nat × Int × Int)), i ≤ o.length ∧ x = iv i ∧ Hid (xs = pre ++ visL (coOf C) (hiOf C) f (o.drop i)) ∧ f.length = k ∧ FrOk f i ∧ SameOn S W wr ∧ J T pre wr ∧ wr.heap[W.heap.size]? = some (.cells (rowI f) 3 (0, 0))) (fun x _ => o.length - (intOf x).toNat)
  case atStart => exact ⟨0, _, [], Nat.zero_le _, rfl, HXS.out, by simp, FrOk.zero k, HS1.out, HJ1.out, HG1.out⟩
  case round =>
    obtain ⟨i, f, pre, hi, rfl, HXK, hfl, hfr, hsr, hjr, hgr⟩ := hrel
    have HSr := Lib.hid hsr; have HJr := Lib.hid hjr; have HGr := Lib.hid hgr; have HFr := Lib.hid hfr
    clear hsr hjr hgr hfr
    subst hfl
    have hsw : W.heap.size ≤ wr.heap.size := HSr.out.size
    have hgl : W.heap.size < wr.heap.size := (Array.getElem?_eq_some_iff.1 HGr.out).1
    by_cases hlt : i < o.length
    · obtain ⟨c, hc⟩ := getElem?_of_lt hlt
      have hcC := HX0.out c (List.mem_of_getElem? hc)
      obtain ⟨k1, k2, k3, k4, k5, k6, k7, k8⟩ := HK.out c hcC
      have HXC : Hid (xs = (pre ++ [(c, takeAt f (coOf C c), takeAt f (coOf C c) + hiOf C c)]) ++ visL (coOf C) (hiOf C) (stepF f (coOf C c) (hiOf C c)) (o.drop (i + 1))) := by
        have := HXK.out
        obtain ⟨hk', he⟩ := List.getElem?_eq_some_iff.1 hc
        rw [List.drop_eq_getElem_cons hk', he] at this
        rw [this]; simp [Hid, visL]
      obtain ⟨t1, t2, HF2⟩ := HFr.out.step (c := coOf C c) (s := hiOf C c) (by omega) ⟨by unfold coOf; omega, by unfold coOf; omega⟩ ⟨by unfold hiOf; omega, by unfold hiOf; omega⟩
      have hbl := best_lt (f := f) (by omega)
      have hbv := HFr.out _ hbl
      have htk : Hid (takeAt f (coOf C c) = if coOf C c < f.getD (best f) 0 then f.getD (best f) 0 else coOf C c) := by
        unfold Hid takeAt; split <;> omega
      have HSF : Hid (stepF f (coOf C c) (hiOf C c) = f.set (best f) (takeAt f (coOf C c) + hiOf C c)) := rfl
      have hsl : (stepF f (coOf C c) (hiOf C c)).length = f.length := stepF_len _ _ _
      have hO1 := HO.out wr HSr.out
      obtain ⟨ob, oo, rfl⟩ := slice_addr hO1 (by simp [ordI]; omega)
      have x0 : wr.cell? ⟨ob, oo + i, none⟩ = some (iv c) := int_cell hO1 (by simp [ordI, hc])
      have hC1 := HC.out wr HSr.out
      obtain ⟨cb, co, rfl⟩ := slice_addr hC1 (by omega)
      obtain ⟨y0, y1, y2, y3⟩ := cloth_cells hC1 hcC
      have q0 := HQ.out wr HSr.out
      have v0 : wr.cell? ⟨bq, 0, none⟩ = some (.slice (some ⟨cb, co, none⟩) C.length cc) := by rw [cell_of_row _ _ _ _ _ _ q0]; rfl
      have v1 : wr.cell? ⟨bq, 1, none⟩ = some rv := by rw [cell_of_row _ _ _ _ _ _ q0]; rfl
      have v2 : wr.cell? ⟨bq, 2, none⟩ = some (iv f.length) := by rw [cell_of_row _ _ _ _ _ _ q0]; rfl
      have v3 : wr.cell? ⟨bq, 3, none⟩ = some (.slice (some ⟨ob, oo, none⟩) o.length oc) := by rw [cell_of_row _ _ _ _ _ _ q0]; rfl
      clear hO1 hC1 q0
      have hbq : bq < wr.heap.size := Nat.lt_of_lt_of_le HBS.out.1 hsw
      obtain ⟨Wn, hWn⟩ : ∃ Wn : World, wr.alloc (.cells #[iv (ctAt C c).we, iv (ctAt C c).co, iv (ctAt C c).lo, iv (ctAt C c).hi] 32) = Wn := ⟨_, rfl⟩
      have hBn : Below wr.heap.size wr Wn := by rw [← hWn]; exact bpush (Below.refl _ _) _
      have hzn : Wn.heap.size = wr.heap.size + 1 := by rw [← hWn]; simp
      have hcn : Wn.heap[wr.heap.size]? = some (.cells #[iv (ctAt C c).we, iv (ctAt C c).co, iv (ctAt C c).lo, iv (ctAt C c).hi] 32 (0, 0)) := by rw [← hWn]; exact heap_new _ _ _
      have hgn : Wn.heap[W.heap.size]? = some (.cells (rowI f) 3 (0, 0)) := (hBn.block _ hgl).trans HGr.out
      have z0 := kcellQ hBn v0
      have z1 := kcellQ hBn v1
      have z2 := kcellQ hBn v2
      have z3 := kcellQ hBn v3
      have HBn := Lib.hid hBn; have HZn := Lib.hid hzn; have HCn := Lib.hid hcn; have HGn := Lib.hid hgn
      clear hBn hzn hcn hgn
      gi_wp2_with fail
      clear x0 y0 y1 y2 y3 v0 v1 v2 v3 z0 z1 z2 z3 hWn
      refine (callsIn_wide.2 (first_any _ _ _ f _ _ _ (by omega) HGn.out)).mono ?_
      rintro e w2 ⟨rfl, hb2⟩
      have hb3 : Below wr.heap.size wr w2 := bstep HBn.out hb2
      have hs2 : SameOn S W w2 := HSr.out.trans (SameOn.of_below hb3 (fun q hq => Nat.lt_of_lt_of_le (HW.out q hq) hsw))
      have hc2 := (hb2.block wr.heap.size (by have := HZn.out; omega)).trans HCn.out
      have hg2 := (hb3.block _ hgl).trans HGr.out
      have hj2 := (HJ.out _).turn _ _ _ (fun q hq => by have := HT.out q hq; omega) hsw HJr.out (Turn.of_below hb3)
      have HS2 := Lib.hid hs2; have HC2 := Lib.hid hc2; have HG2 := Lib.hid hg2; have HJ2 := Lib.hid hj2
      have hf2 := HF.out w2 hs2
      have c0 : w2.cell? ⟨wr.heap.size, 0, none⟩ = some (iv (ctAt C c).we) := by rw [cell_of_row _ _ _ _ _ _ hc2]; rfl
      have c1 : w2.cell? ⟨wr.heap.size, 1, none⟩ = some (iv (coOf C c)) := by rw [cell_of_row _ _ _ _ _ _ hc2]; rfl
      have c2 : w2.cell? ⟨wr.heap.size, 2, none⟩ = some (iv (ctAt C c).lo) := by rw [cell_of_row _ _ _ _ _ _ hc2]; rfl
      have c3 : w2.cell? ⟨wr.heap.size, 3, none⟩ = some (iv (ctAt C c).hi) := by rw [cell_of_row _ _ _ _ _ _ hc2]; rfl
      have g2 : w2.cell? ⟨W.heap.size, best f, none⟩ = some (iv (f.getD (best f) 0)) := cell_rowI hg2 hbl
      have h2 : w2.frozen? ⟨W.heap.size, best f, none⟩ = false := frozen_of_row _ _ _ _ _ hg2
      have s2 : w2.cell? ⟨bs, 0, none⟩ = some (.func (.func 13) #[] #[]) := by rw [cell_of_row _ _ _ _ _ _ hf2]; rfl
      clear hb2 hb3 hs2 hc2 hg2 hj2 hf2
      generalize f.getD (best f) 0 = fb at *
      generalize takeAt f (coOf C c) = tk at *
      generalize stepF f (coOf C c) (hiOf C c) = sf at *
      have hsz2 : W.heap.size < w2.heap.size := lt_of_cell g2
      gi_wp2_with fail
      refine wpIn_wide.2 ?_
      go_region
      rw [← htk.out]
      gi_wp2_with fail
      refine (callsIn_wide.2 (long_any (ctAt C c) _)).mono ?_
      rintro e w3 ⟨rfl, hb3⟩
      have hb3 : Below w2.heap.size w2 w3 := (Below.refl _ _).drew.trans hb3
      have hs3 := HS2.out.trans (SameOn.of_below hb3 (fun q hq => by have := HW.out q hq; omega))
      have hg3 := (hb3.block _ hsz2).trans HG2.out
      have hj3 := (HJ.out _).turn _ _ _ (fun q hq => by have := HT.out q hq; omega) (by omega) HJ2.out (Turn.of_below hb3)
      have g3 : w3.cell? ⟨W.heap.size, best f, none⟩ = some (iv fb) := kcellQ hb3 g2
      have h3 : w3.frozen? ⟨W.heap.size, best f, none⟩ = false := frozen_of_row _ _ _ _ _ hg3
      have hsz3 : W.heap.size < w3.heap.size := lt_of_cell g3
      obtain ⟨W4, hW4⟩ : ∃ W4 : World, w3.setCell ⟨W.heap.size, best f, none⟩ (iv (tk + (ctAt C c).hi)) = W4 := ⟨_, rfl⟩
      have ht4 : Turn T w3 W4 := by rw [← hW4]; exact turn_setQ hTg _ _
      have hg4 : W4.heap[W.heap.size]? = some (.cells (rowI sf) 3 (0, 0)) := by rw [← hW4, heap_setCell_same _ _ _ _ _ _ hg3, rowI_set, HSF.out]; rfl
      have hs4 : SameOn S W W4 := by
        rw [← hW4]; exact hs3.setCell (p := ⟨W.heap.size, best f, none⟩) (fun h => by have := HW.out _ h; simp at this) _
      have hj4 := (HJ.out _).turn _ _ _ (fun q hq => by have := HT.out q hq; omega) (by omega) hj3 ht4
      have hz4 : W4.heap.size = w3.heap.size := by rw [← hW4]; simp [World.setCell]
      have g4 : W4.cell? ⟨W.heap.size, best f, none⟩ = some (iv (tk + (ctAt C c).hi)) := by rw [← hW4]; exact World.cell?_setCell_same' _ _ _ (by rw [g3]; rfl)
      have HS4 := Lib.hid hs4; have HG4 := Lib.hid hg4; have HZ4 := Lib.hid hz4
      have hpre : (pre ++ [(c, tk, tk + hiOf C c)]) <+: xs := ⟨_, HXC.out.symm⟩
      obtain ⟨fn, tmps, assign, body, hy, hR⟩ := HY.out T _ _ W4 (fun q hq => by have := HT.out q hq; omega) hpre hj4 (by omega) (fun q hq => by have := HT.out q hq; omega)
      have HR := Lib.hid hR
      unfold encV hiOf at hy
      dsimp only at hy
      clear hb3 hs3 hg3 hj3 ht4 hg4 hs4 hj4 hz4 hR hpre g2 h2 c0 c1 c2 c3 s2
      gi_wp2_with fail
      refine HR.out.mono ?_
      rintro e w5 (⟨rfl, hj5, hk5⟩ | ⟨rfl, hx5, hk5⟩)
      · have HJ5 := Lib.hid hj5
        have HS5 := Lib.hid (HS4.out.trans (hk5.mono (fun _ h => .inl h)))
        have HG5 := Lib.hid ((hk5.block W.heap.size (.inr hTg)).trans HG4.out)
        clear hj5 hk5 hy hW4 g4 g3 h3
        gi_wp2_with fail
        go_roundw
        case rel => exact ⟨i + 1, sf, _, by omega, by go_num, HXC.out, hsl, HF2, HS5.out, HJ5.out, HG5.out⟩
        case measure => simp [intOf]; omega
      · have HX5 := Lib.hid hx5
        have HZ5 := Lib.hid (show W.heap.size ≤ w5.heap.size from by have := hk5.size; have := HZ4.out; omega)
        clear hx5 hk5 hy hW4 g4 g3 h3
        gi_wp2_with fail
        refine bodyPost_ret (results_none rfl _ _ _) rfl ?_
        exact ⟨⟨_, rfl⟩, HZ5.out, .inr (HX.out.ext _ _ _ HX5.out (fun _ h => h.elim))⟩
    · obtain rfl : i = o.length := by omega
      have HXE : Hid (xs = pre) := by have := HXK.out; rw [List.drop_length] at this; simpa [Hid, visL] using this
      gi_wp2_with fail
      go_end0
      exact ⟨⟨_, rfl⟩, hsw, .inl (by rw [HXE.out]; exact (HJ.out _).ext _ _ _ HJr.out (fun _ h => h.elim))⟩
end Go.Proofs.Ytdalilllakdamaa

/- A range over a method value: Log's and Box's laws with what is bound ahead. -/
namespace Go.Proofs.Ytdalilllakdamaa
open Go Go.RowKit Go.Shelf

/-- The method gf, bound to pb, yields the elements of xs, one after another, until it is told to stop. -/
def SeqP {α : Type} (P : Program) (gf : Nat) (pb lb : Array Value) (enc : α → Array Value) (S : Nat → Prop) (xs : List α) (w0 : World) : Prop :=
  ∀ (n l : Nat) (J : (Nat → Prop) → List α → World → Prop) (Jx : (Nat → Prop) → World → Prop) (W : World), SameOn S w0 W →
    (∀ s, Stable W.heap.size (fun T => J T s)) → Stable W.heap.size Jx →
    (∀ T pre x W1, (∀ k, T k → W.heap.size ≤ k) → (pre ++ [x]) <+: xs → J T pre W1 → W.heap.size ≤ W1.heap.size → (∀ k, T k → k < W1.heap.size) → YieldAt Fence.wide (n - 1) P l (enc x) W1 fun e W' =>
      (e = .returned (.bool true) ∧ J T (pre ++ [x]) W' ∧ SameOn (both S T) W1 W') ∨ (e = .returned (.bool false) ∧ Jx T W' ∧ SameOn (both S T) W1 W')) →
    J noBlock [] W →
    CallsIn Fence.wide n P gf (pb ++ #[.func (.yield l) #[] #[]] ++ lb) W fun e W' => (∃ v, e = .returned v) ∧ W.heap.size ≤ W'.heap.size ∧ (J noBlock xs W' ∨ Jx noBlock W')

/-- A range over a method value that yields a list. -/
theorem rangeP {P : Program} {α : Type} {n : Nat} {g : Operand} {ps : Array Tmp} {assign body : Code} {Q : Exit → Act → World → Prop} {a : Act} {w : World}
    {gf : Nat} {pb lb : Array Value} (hg : a.eval g = .func (.func gf) pb lb) (eg : ∀ args w, (callFunc gf args).run P w = .ok (.enter gf args) w)
    {enc : α → Array Value} {S : Nat → Prop} {xs : List α} (hseq : SeqP P gf pb lb enc S xs w) (hps : ∀ x, (enc x).size = ps.size) (hS : ∀ k, S k → k < w.heap.size)
    (I : (Nat → Prop) → List α → World → Prop) (Ix : Code → (Nat → Prop) → World → Prop) (hI : ∀ s, Stable w.heap.size (fun T => I T s)) (hIx : ∀ c, Stable w.heap.size (Ix c)) (h0 : I noBlock [] w)
    (hround : ∀ (l : Nat) (T : Nat → Prop) (pre : List α) (x : α) (W : World), (∀ k, T k → w.heap.size ≤ k) → (∀ k, T k → k < W.heap.size) → w.heap.size ≤ W.heap.size → (pre ++ [x]) <+: xs → I T pre W →
      ∀ K : Act → World → Prop, (∀ a1 W1, SameOn (both S T) W W1 → (∀ W2, Bump T W1 W2 → body.wpIn (Fence.wide.inRound l) (n - 1 - 1) P (roundEnd S T I Ix (pre ++ [x]) W2) a1 W2) → K a1 W1) →
      assign.wpIn (Fence.wide.inRound l) (n - 1 - 1) P (Exit.then K (fun _ _ _ => False)) { tmps := (ps.zip (enc x)).foldl (fun t (p, v) => t.setIfInBounds p v) a.tmps, defers := [] } W)
    (hdone : ∀ (T : Nat → Prop) W, T w.heap.size → (∀ k, T k → w.heap.size ≤ k) → w.heap.size ≤ W.heap.size → I T xs W → W.heap[w.heap.size]? = some (.deferred (some [])) → Q .normal { a with defers := { target := .collected w.heap.size, args := #[] } :: a.defers } W)
    (hstop : ∀ (T : Nat → Prop) c W, T w.heap.size → (∀ k, T k → w.heap.size ≤ k) → w.heap.size ≤ W.heap.size → Ix c T W → W.heap[w.heap.size]? = some (.deferred (some [])) → c.wpIn Fence.wide n P Q { a with defers := { target := .collected w.heap.size, args := #[] } :: a.defers } W) :
    (Code.rangeFunc g ps assign body).wpIn Fence.wide n P Q a w := by
  refine wpIn_rangeFunc ?_
  intro fn hfn
  obtain ⟨rec, hrec⟩ : ∃ rec : LoopState → Option Code → Loop, rec = fun st pe => { state := st, pending := pe, fn, tmps := a.tmps, params := ps, assign, body, defers := w.heap.size } := ⟨_, rfl⟩
  obtain ⟨W1, hW1⟩ : ∃ W1, (w.alloc (.deferred (some []))).alloc (.loop (rec .ready none)) = W1 := ⟨_, rfl⟩
  have hsz : W1.heap.size = w.heap.size + 2 := by rw [← hW1]; simp
  have hL1 : W1.heap[w.heap.size + 1]? = some (.loop (rec .ready none)) := by
    rw [← hW1]; have := World.alloc_heap_new (w.alloc (.deferred (some []))) (.loop (rec .ready none)); rwa [World.size_alloc] at this
  have hK1 : W1.heap[w.heap.size]? = some (.deferred (some [])) := by
    rw [← hW1]; exact (Below.heap_alloc _ _ _ (by simp)).trans (World.alloc_heap_new w _)
  have hB1 : Below w.heap.size w W1 := by
    rw [← hW1]; exact ((Below.refl _ w).alloc (Nat.le_refl _) _).alloc (by simp) _
  obtain ⟨R, hR⟩ : ∃ R : Nat → Prop, R = fun k => k = w.heap.size ∨ k = w.heap.size + 1 := ⟨_, rfl⟩
  have hR0 : R w.heap.size := by rw [hR]; exact .inl rfl
  have hR1 : R (w.heap.size + 1) := by rw [hR]; exact .inr rfl
  have hRl : ∀ k, R k → w.heap.size ≤ k := by intro k hk; rw [hR] at hk; omega
  have hRs : ∀ k, R k → k < w.heap.size + 2 := by intro k hk; rw [hR] at hk; omega
  have hnoR : ∀ k, both noBlock R k → w.heap.size ≤ k := by
    rintro k (h | h)
    · exact h.elim
    · exact hRl k h
  have hnoR' : ∀ k, both noBlock R k → noBlock k ∨ w.heap.size ≤ k := fun k hk => .inr (hnoR k hk)
  refine ⟨w.heap.size + 1, [{ target := .collected w.heap.size, args := #[] }], W1, { target := .fn (.func gf) lb, args := pb ++ #[.func (.yield (w.heap.size + 1)) #[] #[]] }, W1, gf,
    pb ++ #[.func (.yield (w.heap.size + 1)) #[] #[]] ++ lb, W1, ?_, ?_, ?_, ?_, fun h => by simp [Fence.wide] at h, ?_⟩
  · rw [← hW1, hrec]; exact run_enterLoop_outer _ _ _ _ _
  · simp only [resolve, hg]
    simp [go_sem]
  · intro f' hf'; trivial
  · simp [invoke, go_sem, eg]
  · have hst : ∀ (K : (Nat → Prop) → World → Prop) (r : Obj), Stable w.heap.size K → Stable W1.heap.size (fun T W => K (both T R) W ∧ (∀ k, T k → w.heap.size + 2 ≤ k) ∧ w.heap.size + 2 ≤ W.heap.size ∧ W.heap[w.heap.size + 1]? = some r ∧ W.heap[w.heap.size]? = some (.deferred (some []))) := by
      intro K r hK
      refine ⟨fun T T' W ⟨h1, h2, h3, h4, h5⟩ hT => ⟨hK.ext _ _ W h1 (fun k hk => ?_), fun k hk => ?_, h3, h4, h5⟩, fun T W W' hT hB ⟨h1, h2, h3, h4, h5⟩ ht => ⟨hK.turn _ W W' (fun k hk => ?_) (by omega) h1 ⟨ht.os, ht.tape, ht.output, ht.size, fun k hk hn => ht.same k hk (fun h => hn (.inl h))⟩, h2, Nat.le_trans h3 ht.size, ?_, ?_⟩⟩
      · rcases hk with hk | hk
        · exact (hT k hk).imp .inl id
        · exact .inl (.inr hk)
      · rcases hT k hk with h | h
        · exact h2 k h
        · omega
      · rcases hk with hk | hk
        · have := h2 k hk; omega
        · exact hRl k hk
      · exact (ht.same _ (by omega) (fun h => by have := h2 _ h; omega)).trans h4
      · exact (ht.same _ (by omega) (fun h => by have := h2 _ h; omega)).trans h5
    refine (hseq (n - 1) (w.heap.size + 1)
      (fun T pre W => I (both T R) pre W ∧ (∀ k, T k → w.heap.size + 2 ≤ k) ∧ w.heap.size + 2 ≤ W.heap.size ∧ W.heap[w.heap.size + 1]? = some (.loop (rec .ready none)) ∧ W.heap[w.heap.size]? = some (.deferred (some [])))
      (fun T W => ∃ c, Ix c (both T R) W ∧ (∀ k, T k → w.heap.size + 2 ≤ k) ∧ w.heap.size + 2 ≤ W.heap.size ∧ W.heap[w.heap.size + 1]? = some (.loop (rec .done (some c))) ∧ W.heap[w.heap.size]? = some (.deferred (some [])))
      W1 ⟨hB1.size, fun k hk => hB1.block k (hS k hk)⟩ (fun s => hst (fun T => I T s) _ (hI s)) ?_ ?_ ⟨?_, by simp, by omega, hL1, hK1⟩).mono ?_
    · refine ⟨fun T T' W ⟨c, h⟩ hT => ⟨c, (hst (Ix c) _ (hIx c)).ext T T' W h hT⟩, fun T W W' hT hB ⟨c, h⟩ ht => ⟨c, (hst (Ix c) _ (hIx c)).turn T W W' hT hB h ht⟩⟩
    · rintro T pre x W hT hpre ⟨hi, hT2, hWs, hl, hk⟩ hsW hTl
      have hTR : ∀ k, both T R k → w.heap.size ≤ k := by
        rintro k (h | h)
        · have := hT2 k h; omega
        · exact hRl k h
      have hTl2 : ∀ k, both T R k → k < W.heap.size := by
        rintro k (h | h)
        · exact hTl k h
        · have := hRs k h; omega
      have hy := run_yield (P := P) (args := enc x) hl (by rw [hrec]; exact hps x)
      rw [hrec] at hy
      refine ⟨fn, _, assign, body, hy, roundIn_of_wpIn hfn ?_⟩
      refine wpIn_mono (hround (w.heap.size + 1) (both T R) pre x W (fun k hk => hTR k hk) (fun k hk => hTl2 k hk) (by omega) hpre hi (fun a1 W1 => SameOn (both S (both T R)) W W1 ∧ ∀ W2, Bump (both T R) W1 W2 → body.wpIn (Fence.wide.inRound (w.heap.size + 1)) (n - 1 - 1) P (roundEnd S (both T R) I Ix (pre ++ [x]) W2) a1 W2) (fun a1 W1 h1 h2 => ⟨h1, h2⟩)) ?_
      intro e a1 W2 hp
      cases e with
      | normal =>
        obtain ⟨hkept, hb⟩ := hp
        have hl2 := (hkept.block (w.heap.size + 1) (.inr (.inr hR1))).trans hl
        have hk2 := (hkept.block w.heap.size (.inr (.inr hR0))).trans hk
        refine ⟨_, run_beginRound hl2 (by rw [hrec]), ?_⟩
        have hbump := bump_of (T := both T R) (.loop { rec .ready none with state := .busy }) (.inr hR1) hl2 rfl rfl
        generalize hW3 : W2.putObj (w.heap.size + 1) (.loop { rec .ready none with state := .busy }) = W3 at hbump
        have hl3 : W3.heap[w.heap.size + 1]? = some (.loop { rec .ready none with state := .busy }) := by
          rw [← hW3]; exact World.putObj_heap_same (Array.getElem?_eq_some_iff.1 hl2).1
        have hoth : ∀ k, k ≠ w.heap.size + 1 → W3.heap[k]? = W2.heap[k]? := by intro k hk; rw [← hW3]; exact World.putObj_heap_other hk
        have hk3 : W3.heap[w.heap.size]? = some (.deferred (some [])) := (hoth _ (by omega)).trans hk2
        refine wpIn_mono (hb W3 hbump) ?_
        have hs3 : SameOn (both S T) W W3 := ⟨by have := hkept.size; have := hbump.size; omega, fun k hk => by
          have hne : k ≠ w.heap.size + 1 := by
            rcases hk with h | h
            · have := hS k h; omega
            · have := hT2 k h; omega
          exact (hoth k hne).trans (hkept.block k (hk.imp id .inl))⟩
        have fin : ∀ (jump : Option Code) (W4 : World), SameOn (both S (both T R)) W3 W4 →
            (Instr.endRound (w.heap.size + 1) jump).run P W4 = .ok (.bool jump.isNone) (W4.putObj (w.heap.size + 1) (.loop (rec (if jump.isNone then .ready else .done) jump))) ∧
            Turn (both T R) W4 (W4.putObj (w.heap.size + 1) (.loop (rec (if jump.isNone then .ready else .done) jump))) ∧ w.heap.size + 2 ≤ W4.heap.size ∧
            (W4.putObj (w.heap.size + 1) (.loop (rec (if jump.isNone then .ready else .done) jump))).heap[w.heap.size + 1]? = some (.loop (rec (if jump.isNone then .ready else .done) jump)) ∧
            (W4.putObj (w.heap.size + 1) (.loop (rec (if jump.isNone then .ready else .done) jump))).heap[w.heap.size]? = some (.deferred (some [])) ∧
            SameOn (both S T) W (W4.putObj (w.heap.size + 1) (.loop (rec (if jump.isNone then .ready else .done) jump))) := fun jump W4 h4 => by
          have hl4 := (h4.block (w.heap.size + 1) (.inr (.inr hR1))).trans hl3
          have hk4 := (h4.block w.heap.size (.inr (.inr hR0))).trans hk3
          have := run_endRound (P := P) jump hl4
          rw [hrec] at this ⊢
          refine ⟨this, Turn.putObj _ (.inr hR1), by have := hs3.size; have := h4.size; omega, World.putObj_heap_same (Array.getElem?_eq_some_iff.1 hl4).1, (World.putObj_heap_other (by omega)).trans hk4, ⟨by have := hs3.size; have := h4.size; simp; omega, fun k hk => ?_⟩⟩
          have hne : k ≠ w.heap.size + 1 := by
            rcases hk with h | h
            · have := hS k h; omega
            · have := hT2 k h; omega
          exact ((World.putObj_heap_other hne).trans (h4.block k (hk.imp id .inl))).trans (hs3.block k hk)
        rintro e a4 W4 hp4
        cases e with
        | normal => obtain ⟨h4, hi4⟩ := hp4; obtain ⟨hr, hc, hz, h5, h6, h7⟩ := fin none W4 h4; exact ⟨_, _, hr, .inl ⟨rfl, ⟨(hI _).turn _ _ _ hTR (by omega) hi4 hc, hT2, by simp; omega, h5, h6⟩, h7⟩⟩
        | ret => obtain ⟨h4, hi4⟩ := hp4; obtain ⟨hr, hc, hz, h5, h6, h7⟩ := fin (some .ret) W4 h4; exact ⟨_, _, hr, .inr ⟨rfl, ⟨.ret, (hIx _).turn _ _ _ hTR (by omega) hi4 hc, hT2, by simp; omega, h5, h6⟩, h7⟩⟩
        | exit id => obtain ⟨h4, hi4⟩ := hp4; obtain ⟨hr, hc, hz, h5, h6, h7⟩ := fin (some (.exit id)) W4 h4; exact ⟨_, _, hr, .inr ⟨rfl, ⟨.exit id, (hIx _).turn _ _ _ hTR (by omega) hi4 hc, hT2, by simp; omega, h5, h6⟩, h7⟩⟩
        | goto t => obtain ⟨h4, hi4⟩ := hp4; obtain ⟨hr, hc, hz, h5, h6, h7⟩ := fin (some (.goto t)) W4 h4; exact ⟨_, _, hr, .inr ⟨rfl, ⟨.goto t, (hIx _).turn _ _ _ hTR (by omega) hi4 hc, hT2, by simp; omega, h5, h6⟩, h7⟩⟩
        | panic ch => exact hp4.elim
        | outgrown => exact hp4.elim
      | ret => exact hp
      | exit id => exact hp
      | goto t => exact hp
      | panic ch => exact hp
      | outgrown => exact hp
    · exact (hI []).turn _ _ _ hnoR (Nat.le_refl _) ((hI []).ext _ _ _ h0 hnoR') (Turn.of_below hB1)
    · rintro e W2 ⟨⟨v, rfl⟩, hsz2, (⟨hi, _, hz, hl, hk⟩ | ⟨c, hi, _, hz, hl, hk⟩)⟩
      · have he := run_endLoop (P := P) hl (by rw [hrec]; simp)
        exact ⟨none, _, by rw [hrec] at he; exact he, hdone (both noBlock R) _ (.inr hR0) hnoR (by simp; omega) ((hI xs).turn _ _ _ hnoR (by omega) hi (Turn.putObj _ (.inr hR1))) ((World.putObj_heap_other (by omega)).trans hk)⟩
      · have he := run_endLoop (P := P) hl (by rw [hrec]; simp)
        exact ⟨some c, _, by rw [hrec] at he; exact he, hstop (both noBlock R) _ _ (.inr hR0) hnoR (by simp; omega) ((hIx c).turn _ _ _ hnoR (by omega) hi (Turn.putObj _ (.inr hR1))) ((World.putObj_heap_other (by omega)).trans hk)⟩
theorem rangePB {P : Program} {α : Type} {n : Nat} {g : Operand} {ps : Array Tmp} {assign body : Code} {Q : Exit → Act → World → Prop} {a : Act} {w : World}
    {gf : Nat} {pb lb : Array Value} (hg : a.eval g = .func (.func gf) pb lb) (eg : ∀ args w, (callFunc gf args).run P w = .ok (.enter gf args) w)
    {enc : α → Array Value} {S : Nat → Prop} {xs : List α} (hseq : SeqP P gf pb lb enc S xs w) (hps : ∀ x, (enc x).size = ps.size) (hS : ∀ k, S k → k < w.heap.size)
    (X : Nat → Prop) (hX : ∀ k, X k → k < w.heap.size) (hSX : ∀ k, S k → ¬ X k)
    (I : List α → World → Prop) (Ix : Code → World → Prop) (hI : ∀ s W W', I s W → (∀ k, X k → W'.heap[k]? = W.heap[k]?) → I s W') (hIx : ∀ c W W', Ix c W → (∀ k, X k → W'.heap[k]? = W.heap[k]?) → Ix c W') (h0 : I [] w)
    (hround : ∀ (l : Nat) (pre : List α) (x : α) (W : World), (pre ++ [x]) <+: xs → Turn X w W → I pre W →
      ∀ K : Act → World → Prop, (∀ a1 W1, Below W.heap.size W W1 → (∀ W2, Turn X w W2 → I pre W2 → W2.heap.size = W1.heap.size → (∀ (k : Nat) (o : Obj), W1.heap[k]? = some o → Obj.isCells o = true → W2.heap[k]? = some o) → body.wpIn (Fence.wide.inRound l) (n - 1 - 1) P (boxEnd X I Ix (pre ++ [x]) W2) a1 W2) → K a1 W1) →
      assign.wpIn (Fence.wide.inRound l) (n - 1 - 1) P (Exit.then K (fun _ _ _ => False)) { tmps := (ps.zip (enc x)).foldl (fun t (p, v) => t.setIfInBounds p v) a.tmps, defers := [] } W)
    (hdone : ∀ W, Turn X w W → I xs W → W.heap[w.heap.size]? = some (.deferred (some [])) → Q .normal { a with defers := { target := .collected w.heap.size, args := #[] } :: a.defers } W)
    (hstop : ∀ c W, Turn X w W → Ix c W → W.heap[w.heap.size]? = some (.deferred (some [])) → c.wpIn Fence.wide n P Q { a with defers := { target := .collected w.heap.size, args := #[] } :: a.defers } W) :
    (Code.rangeFunc g ps assign body).wpIn Fence.wide n P Q a w := by
  have hst : ∀ (K : World → Prop), (∀ W W', K W → (∀ k, X k → W'.heap[k]? = W.heap[k]?) → K W') → Stable w.heap.size (fun _ W => Turn X w W ∧ K W) := by
    intro K hK
    refine ⟨fun _ _ _ h _ => h, fun T W W' hT hB ⟨h1, h2⟩ ht => ⟨h1.high hT ht, hK W W' h2 (fun k hk => ht.same k (by have := hX k hk; omega) (fun h => by have := hT k h; have := hX k hk; omega))⟩⟩
  refine rangeP hg eg hseq hps hS (fun _ s W => Turn X w W ∧ I s W) (fun c _ W => Turn X w W ∧ Ix c W) (fun s => hst _ (hI s)) (fun c => hst _ (hIx c)) ⟨Turn.refl _ _, h0⟩ ?_ ?_ ?_
  · intro l T pre x W hTl hTs hsz hpre ⟨ht, hi⟩ K hK
    refine hround l pre x W hpre ht hi K (fun a1 W1 hb hbody => ?_)
    have hST : ∀ k, both S T k → k < W.heap.size := by
      rintro k (h | h)
      · have := hS k h; omega
      · exact hTs k h
    refine hK a1 W1 (SameOn.of_below hb hST) (fun W2 hbump => ?_)
    have ht1 : Turn X w W1 := ht.trans (Turn.of_below hb)
    have ht2 : Turn X w W2 := ht1.high hTl hbump.turn
    have hi1 : I pre W1 := hI _ _ _ hi (fun k hk => hb.block k (by have := hX k hk; omega))
    have hi2 : I pre W2 := hI _ _ _ hi1 (fun k hk => hbump.turn.same k (by have := hX k hk; have := hb.size; omega) (fun h => by have := hTl k h; have := hX k hk; omega))
    refine wpIn_mono (hbody W2 ht2 hi2 hbump.size hbump.cells) ?_
    have hso : ∀ W3, Turn X W2 W3 → SameOn (both S T) W2 W3 := fun W3 h3 => h3.sameOn (fun k hk => ⟨by have := hST k hk; have := hb.size; have := hbump.size; omega, by
      rcases hk with h | h
      · exact hSX k h
      · intro hx; have := hTl k h; have := hX k hx; omega⟩)
    rintro e a3 W3 hp
    cases e with
    | normal => exact ⟨hso _ hp.1, ht2.trans hp.1, hp.2⟩
    | ret => exact ⟨hso _ hp.1, ht2.trans hp.1, hp.2⟩
    | exit id => exact ⟨hso _ hp.1, ht2.trans hp.1, hp.2⟩
    | goto t => exact ⟨hso _ hp.1, ht2.trans hp.1, hp.2⟩
    | panic ch => exact hp.elim
    | outgrown => exact hp.elim
  · intro T W _ _ _ ⟨ht, hi⟩ hK
    exact hdone W ht hi hK
  · intro T c W _ _ _ ⟨ht, hi⟩ hK
    exact hstop c W ht hi hK

end Go.Proofs.Ytdalilllakdamaa

/- Turns: when the last cloth is done. -/
namespace Go.Proofs.Ytdalilllakdamaa
open Go Go.RowKit Go.Shelf
attribute [local go_sem] Oper.semAt_some

theorem endL_snoc (pre : List (Nat × Int × Int)) (v : Nat × Int × Int) : endL (pre ++ [v]) = max (endL pre) v.2.2 := by simp [endL]
/-- What lies in memory of a queue: its slices read so in every later world. -/
structure QuIn (w : World) (ca oa : Option Addr) (cc oc : Nat) (C : List Ct) (o : List Nat) : Prop where
  cl : SliceOf encC 4 w (.slice ca C.length cc) C
  od : Ints w (.slice oa o.length oc) (ordI o)
theorem QuIn.below {w w' : World} {ca oa : Option Addr} {cc oc : Nat} {C : List Ct} {o : List Nat} (h : QuIn w ca oa cc oc C o) (hb : Below w.heap.size w w') : QuIn w' ca oa cc oc C o := ⟨h.cl.below hb, h.od.below hb⟩
/-- A valid queue. -/
structure QuOk (C : List Ct) (o : List Nat) (k : Nat) : Prop where
  ok : CtOk C
  lt : ∀ x ∈ o, x < C.length
  pos : 1 ≤ k ∧ k ≤ 1000
  len : o.length ≤ 1000
theorem vis_bd {C : List Ct} {sel : Nat → Int} : ∀ (o : List Nat) (f : List Int) (i : Nat), FrOk f i → 0 < f.length → (∀ x ∈ o, (0 ≤ coOf C x ∧ coOf C x ≤ 1000) ∧ 0 ≤ sel x ∧ sel x ≤ 1000) →
    ∀ v ∈ visL (coOf C) sel f o, v.1 ∈ o ∧ 0 ≤ v.2.1 ∧ v.2.1 ≤ 1000 + 1000 * ((i + o.length : Nat) : Int) ∧ 0 ≤ v.2.2 ∧ v.2.2 ≤ 2000 + 1000 * ((i + o.length : Nat) : Int)
  | [], _, _, _, _, _, v, hv => by simp [visL] at hv
  | x :: o, f, i, hf, hl, hx, v, hv => by
    obtain ⟨h1, h2⟩ := hx x (by simp)
    obtain ⟨t1, t2, h3⟩ := hf.step (c := coOf C x) (s := sel x) hl h1 h2
    simp only [visL, List.mem_cons] at hv
    rcases hv with rfl | hv
    · simp only [List.length_cons]; exact ⟨by simp, t1, by omega, by omega, by omega⟩
    · have := vis_bd o _ _ h3 (by rw [stepF_len]; exact hl) (fun y hy => hx y (by simp [hy])) v hv
      simp only [List.length_cons, List.mem_cons]
      refine ⟨.inr this.1, this.2.1, ?_, this.2.2.2.1, ?_⟩
      · have := this.2.2.1; omega
      · have := this.2.2.2.2; omega
theorem endL_bd {B : Int} (hB : 0 ≤ B) : ∀ (l : List (Nat × Int × Int)), (∀ v ∈ l, v.2.2 ≤ B) → 0 ≤ endL l ∧ endL l ≤ B := by
  intro l
  suffices h : ∀ (l : List (Nat × Int × Int)) (m : Int), 0 ≤ m → m ≤ B → (∀ v ∈ l, v.2.2 ≤ B) → 0 ≤ l.foldl (fun m v => max m v.2.2) m ∧ l.foldl (fun m v => max m v.2.2) m ≤ B from fun hl => h l 0 (Int.le_refl _) hB hl
  intro l
  induction l with
  | nil => intro m h1 h2 _; exact ⟨h1, h2⟩
  | cons v l ih =>
    intro m h1 h2 hl
    have hv := hl v (by simp)
    exact ih _ (by dsimp only; omega) (by dsimp only; omega) (fun u hu => hl u (by simp [hu]))
theorem SeqL.laterQ {α : Type} {P : Program} {gf : Nat} {lb : Array Value} {enc : α → Array Value} {S : Nat → Prop} {xs : List α} {w w' : World} (h : SeqL P gf lb enc S xs w) (hs : SameOn S w w') : SeqL P gf lb enc S xs w' :=
  fun n l J Jx W hW => h n l J Jx W (hs.trans hW)
theorem heap_set1Q {W : World} {b : Nat} {v u : Value} {t : TypeId} (h : W.heap[b]? = some (.cells #[v] t (0, 0))) : (W.setCell ⟨b, 0, none⟩ u).heap[b]? = some (.cells #[u] t (0, 0)) := by
  have := heap_setCell_same W b 0 #[v] t u h
  simpa using this

end Go.Proofs.Ytdalilllakdamaa
