/- Turns: stocks that are free, visits, the custom's order: plain. -/
import Derived.Test.YtfdahmdehmhllaaMa
namespace Go.Proofs.Ytfdahmdehmhllaa
/-- The first place of the least one of the first k. -/
def bestTo (f : List Int) : Nat → Nat
  | 0 => 0
  | k + 1 => if f.getD k 0 < f.getD (bestTo f k) 0 then k else bestTo f k
def best (f : List Int) : Nat := bestTo f f.length
theorem bestTo_le (f : List Int) : ∀ k, bestTo f k ≤ k - 1
  | 0 => by simp [bestTo]
  | k + 1 => by
    have := bestTo_le f k
    unfold bestTo
    split <;> omega
theorem bestTo_min (f : List Int) : ∀ k j, j < k → f.getD (bestTo f k) 0 ≤ f.getD j 0
  | 0, j, h => by omega
  | k + 1, j, h => by
    have ih := bestTo_min f k
    unfold bestTo
    split
    · by_cases hj : j = k
      · subst hj; omega
      · have := ih j (by omega); omega
    · by_cases hj : j = k
      · subst hj; omega
      · exact ih j (by omega)
theorem best_lt {f : List Int} (h : 0 < f.length) : best f < f.length := by
  have := bestTo_le f f.length
  unfold best; omega
/-- When a cloth that comes at c is taken, and when each stock is free behind it. -/
def takeAt (f : List Int) (c : Int) : Int := max c (f.getD (best f) 0)
def stepF (f : List Int) (c s : Int) : List Int := f.set (best f) (takeAt f c + s)
theorem stepF_len (f : List Int) (c s : Int) : (stepF f c s).length = f.length := by simp [stepF]
/-- The visits of the cloths of an order: which one, when it is taken, when it is done. -/
def visL (co st : Nat → Int) : List Int → List Nat → List (Nat × Int × Int)
  | _, [] => []
  | f, x :: o => (x, takeAt f (co x), takeAt f (co x) + st x) :: visL co st (stepF f (co x) (st x)) o
theorem visL_len (co st : Nat → Int) : ∀ (o : List Nat) (f : List Int), (visL co st f o).length = o.length
  | [], _ => rfl
  | x :: o, f => by simp [visL, visL_len co st o]
def endL (l : List (Nat × Int × Int)) : Int := l.foldl (fun m v => max m v.2.2) 0
def patL (co : Nat → Int) (limit : Int) (l : List (Nat × Int × Int)) : Bool := l.all fun v => decide (v.2.1 - co v.1 ≤ limit)
def putTo (l : List (Nat × Int × Int)) (z : List Int) : List Int := l.foldl (fun z v => z.set v.1 v.2.1) z
/-- The least number from k on that does, or the one at which the fuel ends. -/
def leastB (p : Nat → Bool) : Nat → Nat → Nat
  | 0, k => k
  | f + 1, k => if p k then k else leastB p f (k + 1)
def fewS (co st : Nat → Int) (o : List Nat) (limit : Int) : Nat := leastB (fun k => patL co limit (visL co st (List.replicate k 0) o)) (o.length - 1) 1

def cnt (f : List Int) (x : Int) : Nat := f.countP (fun y => decide (y ≤ x))
/-- The stocks f are free no later than the stocks g. -/
def Dom (f g : List Int) : Prop := ∀ x, cnt g x ≤ cnt f x
theorem cnt_pos {f : List Int} {x : Int} (h : 0 < f.length) : 0 < cnt f x ↔ f.getD (best f) 0 ≤ x := by
  unfold cnt
  rw [List.countP_pos_iff]
  constructor
  · rintro ⟨y, hy, hx⟩
    obtain ⟨j, hj, rfl⟩ := List.getElem_of_mem hy
    have := bestTo_min f f.length j hj
    unfold best
    simp only [List.getD_eq_getElem?_getD, List.getElem?_eq_getElem hj, Option.getD_some, decide_eq_true_eq] at this hx ⊢
    omega
  · intro hx
    have hb := best_lt h
    refine ⟨f[best f], List.getElem_mem _, ?_⟩
    simpa [List.getD_eq_getElem?_getD, List.getElem?_eq_getElem hb] using hx
theorem cnt_set {f : List Int} {i : Nat} (h : i < f.length) (v x : Int) : cnt (f.set i v) x = cnt f x - (if f.getD i 0 ≤ x then 1 else 0) + (if v ≤ x then 1 else 0) := by
  unfold cnt
  rw [List.countP_set h]
  simp [List.getD_eq_getElem?_getD, List.getElem?_eq_getElem h]
theorem Dom.min {f g : List Int} (h : Dom f g) (hf : 0 < f.length) (hg : 0 < g.length) : f.getD (best f) 0 ≤ g.getD (best g) 0 := by
  have h1 := (cnt_pos (x := g.getD (best g) 0) hg).2 (Int.le_refl _)
  exact (cnt_pos hf).1 (Nat.lt_of_lt_of_le h1 (h _))
theorem Dom.step {f g : List Int} (h : Dom f g) (hf : 0 < f.length) (hg : 0 < g.length) {c s s' : Int} (hs : s ≤ s') : takeAt f c ≤ takeAt g c ∧ Dom (stepF f c s) (stepF g c s') := by
  have hm := h.min hf hg
  have ht : takeAt f c ≤ takeAt g c := by unfold takeAt; omega
  refine ⟨ht, fun x => ?_⟩
  unfold stepF
  rw [cnt_set (best_lt hf), cnt_set (best_lt hg)]
  have h1 := h x
  have p1 := cnt_pos (f := f) (x := x) hf
  have p2 := cnt_pos (f := g) (x := x) hg
  by_cases a : f.getD (best f) 0 ≤ x
  · have a1 := p1.2 a
    by_cases b : g.getD (best g) 0 ≤ x
    · have b1 := p2.2 b
      simp only [a, b, if_true]
      split <;> split <;> omega
    · simp only [a, b, if_true, if_false]
      have b1 : cnt g x = 0 := by
        cases hc : cnt g x with
        | zero => rfl
        | succ n => exact absurd (p2.1 (by omega)) b
      split <;> split <;> omega
  · have b : ¬ g.getD (best g) 0 ≤ x := by omega
    simp only [a, b, if_false]
    split <;> split <;> omega
theorem Dom.refl (f : List Int) : Dom f f := fun _ => Nat.le_refl _
/-- The same cloths, none of them later. -/
inductive Sooner : List (Nat × Int × Int) → List (Nat × Int × Int) → Prop
  | nil : Sooner [] []
  | cons {a b : Nat × Int × Int} {l m : List (Nat × Int × Int)} : (a.1 = b.1 ∧ a.2.1 ≤ b.2.1 ∧ a.2.2 ≤ b.2.2) → Sooner l m → Sooner (a :: l) (b :: m)
/-- Shorter stays: nobody is taken later. -/
theorem vis_mono (co st st' : Nat → Int) : ∀ (o : List Nat) (f g : List Int), (∀ x ∈ o, st x ≤ st' x) → Dom f g → 0 < f.length → 0 < g.length →
    Sooner (visL co st f o) (visL co st' g o)
  | [], _, _, _, _, _, _ => Sooner.nil
  | x :: o, f, g, hs, h, hf, hg => by
    obtain ⟨h1, h2⟩ := h.step hf hg (c := co x) (hs x (by simp))
    have := hs x (by simp)
    refine Sooner.cons ⟨rfl, h1, ?_⟩ (vis_mono co st st' o _ _ (fun y hy => hs y (by simp [hy])) h2 (by rw [stepF_len]; exact hf) (by rw [stepF_len]; exact hg))
    simp only; omega
theorem pat_mono {co : Nat → Int} {limit : Int} : ∀ {a b : List (Nat × Int × Int)}, Sooner a b → patL co limit b = true → patL co limit a = true
  | _, _, .nil, h => h
  | _, _, .cons (a := x) (b := y) h t, hb => by
    simp only [patL, List.all_cons, Bool.and_eq_true, decide_eq_true_eq] at hb ⊢
    refine ⟨?_, pat_mono t hb.2⟩
    have := h.1
    rw [this]; omega
theorem leastB_ge (p : Nat → Bool) : ∀ f k, k ≤ leastB p f k
  | 0, k => Nat.le_refl _
  | f + 1, k => by
    unfold leastB
    split
    · exact Nat.le_refl _
    · have := leastB_ge p f (k + 1); omega
theorem leastB_mono {p q : Nat → Bool} (h : ∀ k, 0 < k → q k = true → p k = true) : ∀ f k, 0 < k → leastB p f k ≤ leastB q f k
  | 0, k, _ => Nat.le_refl _
  | f + 1, k, hk => by
    unfold leastB
    by_cases hq : q k = true
    · rw [if_pos hq, if_pos (h k hk hq)]; exact Nat.le_refl _
    · rw [if_neg hq]
      split
      · have := leastB_ge q f (k + 1); omega
      · exact leastB_mono h f (k + 1) (by omega)
theorem few_mono (co st st' : Nat → Int) (o : List Nat) (limit : Int) (hs : ∀ x ∈ o, st x ≤ st' x) : fewS co st o limit ≤ fewS co st' o limit :=
  leastB_mono (fun k hk h => pat_mono (vis_mono co st st' o _ _ hs (Dom.refl _) (by rw [List.length_replicate]; exact hk) (by rw [List.length_replicate]; exact hk)) h) _ _ (by omega)
theorem put_mono : ∀ {a b : List (Nat × Int × Int)}, Sooner a b → ∀ (z z' : List Int), z.length = z'.length → (∀ i, z.getD i 0 ≤ z'.getD i 0) → ∀ i, (putTo a z).getD i 0 ≤ (putTo b z').getD i 0
  | _, _, .nil, _, _, _, h => h
  | _, _, .cons (a := x) (b := y) h t, z, z', hl, hz => by
    simp only [putTo, List.foldl_cons]
    refine put_mono t _ _ (by simp [hl]) (fun i => ?_)
    rw [h.1]
    have := hz i
    simp only [List.getD_eq_getElem?_getD, List.getElem?_set] at this ⊢
    by_cases e : y.1 = i
    · subst e
      simp only [if_true]
      by_cases e2 : y.1 < z.length
      · rw [if_pos e2, if_pos (by omega)]; exact h.2.1
      · rw [if_neg e2, if_neg (by omega)]; exact Int.le_refl _
    · simp only [if_neg e]; exact this
/-- A list that an order that is strict sorts, is one alone. -/
theorem sorted_one {lt : Nat → Nat → Prop} (has : ∀ a b, lt a b → lt b a → False) {o o' : List Nat} (hp : o.Perm o') (h : o.Pairwise lt) (h' : o'.Pairwise lt) : o = o' :=
  List.Perm.eq_of_pairwise (fun a b _ _ h1 h2 => (has a b h1 h2).elim) h h' hp
/-- Cloths that are all alike. -/
theorem vis_alike (co st : Nat → Int) (c s : Int) : ∀ (o : List Nat) (f : List Int), (∀ x ∈ o, co x = c ∧ st x = s) → (visL co st f o).map (fun v => v.2) = (visL (fun _ => c) (fun _ => s) f (List.replicate o.length 0)).map (fun v => v.2)
  | [], _, _ => rfl
  | x :: o, f, h => by
    obtain ⟨h1, h2⟩ := h x (by simp)
    simp only [visL, List.length_cons, List.replicate_succ, List.map_cons, h1, h2]
    rw [vis_alike co st c s o _ (fun y hy => h y (by simp [hy]))]
theorem endL_map (l : List (Nat × Int × Int)) : endL l = (l.map fun v => v.2).foldl (fun m v => max m v.2) 0 := by
  unfold endL; rw [List.foldl_map]
theorem vis_fst (co st : Nat → Int) : ∀ (o : List Nat) (f : List Int), (visL co st f o).map (fun v => v.1) = o
  | [], _ => rfl
  | x :: o, f => by simp only [visL, List.map_cons]; rw [vis_fst co st o]
theorem patL_alike {co : Nat → Int} {c limit : Int} : ∀ (l : List (Nat × Int × Int)), (∀ x ∈ l.map (fun v => v.1), co x = c) → patL co limit l = (l.map fun v => v.2).all fun v => decide (v.1 - c ≤ limit)
  | [], _ => rfl
  | v :: l, h => by
    have h1 := h v.1 (by simp)
    have := patL_alike (limit := limit) l (fun x hx => h x (by simp [hx]))
    simp only [patL, List.all_cons, List.map_cons] at this ⊢
    rw [this, h1]
def alikeE (n k : Nat) : Int := ((visL (fun _ => 0) (fun _ => 1) (List.replicate k 0) (List.replicate n 0)).map fun v => v.2).foldl (fun m v => max m v.2) 0
def alikeP (n k : Nat) (limit : Int) : Bool := ((visL (fun _ => 0) (fun _ => 1) (List.replicate k 0) (List.replicate n 0)).map fun v => v.2).all fun v => decide (v.1 - 0 ≤ limit)
def alikeF (n limit : Nat) : Nat := leastB (fun k => alikeP n k limit) (n - 1) 1
theorem alike_end : ∀ n < 11, ∀ k < 9, 1 ≤ k → alikeE n k = (((n + k - 1) / k : Nat) : Int) := by decide +kernel
theorem alike_few : ∀ n < 11, ∀ limit < 10, alikeF n limit = max 1 ((n + limit) / (limit + 1)) := by decide +kernel
theorem end_alike {co st : Nat → Int} {o : List Nat} {k : Nat} (h : ∀ x ∈ o, co x = 0 ∧ st x = 1) : endL (visL co st (List.replicate k 0) o) = alikeE o.length k := by
  rw [endL_map, vis_alike co st 0 1 o _ h]; rfl
theorem few_alike {co st : Nat → Int} {o : List Nat} {limit : Nat} (h : ∀ x ∈ o, co x = 0 ∧ st x = 1) : fewS co st o limit = alikeF o.length limit := by
  unfold fewS alikeF
  congr 1
  funext k
  rw [patL_alike (c := 0) _ (fun x hx => by rw [vis_fst] at hx; exact (h x hx).1), vis_alike co st 0 1 o _ h]; rfl
structure Ct where
  (we co lo hi : Int)
def ctAt (C : List Ct) (a : Nat) : Ct := C.getD a ⟨0, 0, 0, 0⟩
/-- A cloth of the same weaver, that comes at the same hour. -/
def sameC (C : List Ct) (a b : Nat) : Bool := decide ((ctAt C b).we = (ctAt C a).we) && decide ((ctAt C b).co = (ctAt C a).co)
def befC (C : List Ct) (a b : Nat) : Bool := decide (b < a) && sameC C a b
/-- How many of its weaver's cloths stand before one. -/
def rnd (C : List Ct) (xs : List Nat) (a : Nat) : Nat := xs.countP (befC C a)
def rkC (C : List Ct) (R : List Int) (a : Nat) : Int := R.getD (ctAt C a).we.toNat 0
/-- The custom's order. -/
def ltK (C : List Ct) (R : List Int) (xs : List Nat) (a b : Nat) : Prop :=
  (ctAt C a).co < (ctAt C b).co ∨ (ctAt C a).co = (ctAt C b).co ∧ (rnd C xs a < rnd C xs b ∨ rnd C xs a = rnd C xs b ∧ rkC C R a < rkC C R b)
theorem ltK_asym (C : List Ct) (R : List Int) (xs : List Nat) (a b : Nat) (h : ltK C R xs a b) (h' : ltK C R xs b a) : False := by
  unfold ltK at *; omega
/-- Ranks that are all different. -/
def RkOk (R : List Int) : Prop := ∀ i j, i < R.length → j < R.length → R.getD i 0 = R.getD j 0 → i = j
def WeOk (C : List Ct) (R : List Int) : Prop := ∀ a, a < C.length → 0 ≤ (ctAt C a).we ∧ (ctAt C a).we < R.length
theorem rnd_lt {C : List Ct} {xs : List Nat} {a b : Nat} (ha : a ∈ xs) (hab : a < b) (hs : sameC C b a = true) : rnd C xs a < rnd C xs b := by
  have hmono : ∀ l : List Nat, l.countP (befC C a) ≤ l.countP (befC C b) := fun l => by
    refine List.countP_mono_left (fun x _ h => ?_)
    simp only [befC, sameC, Bool.and_eq_true, decide_eq_true_eq] at h hs ⊢
    refine ⟨by omega, ?_, ?_⟩
    · rw [h.2.1, hs.1]
    · rw [h.2.2, hs.2]
  unfold rnd
  obtain ⟨s, t, rfl⟩ := List.append_of_mem ha
  rw [List.countP_append, List.countP_append, List.countP_cons, List.countP_cons]
  have h1 := hmono s
  have h2 := hmono t
  have h3 : befC C a a = false := by simp [befC]
  have h4 : befC C b a = true := by simp [befC, hab, hs]
  rw [h3, h4]; simp; omega
theorem ltK_total {C : List Ct} {R : List Int} {xs : List Nat} (hR : RkOk R) (hW : WeOk C R) (hx : ∀ x ∈ xs, x < C.length) {a b : Nat} (ha : a ∈ xs) (hb : b ∈ xs) (hne : a ≠ b) : ltK C R xs a b ∨ ltK C R xs b a := by
  by_cases h1 : (ctAt C a).co = (ctAt C b).co
  · by_cases h2 : rnd C xs a = rnd C xs b
    · by_cases h3 : rkC C R a = rkC C R b
      · have wa := hW a (hx a ha)
        have wb := hW b (hx b hb)
        have hw := hR _ _ (by omega) (by omega) h3
        have hwe : (ctAt C a).we = (ctAt C b).we := by omega
        rcases Nat.lt_or_gt_of_ne hne with h | h
        · have := rnd_lt (C := C) ha h (by simp [sameC, h1, hwe]); omega
        · have := rnd_lt (C := C) hb h (by simp [sameC, h1, hwe]); omega
      · unfold ltK; omega
    · unfold ltK; omega
  · unfold ltK; omega
/-- The order in which cloths are taken. -/
def OrdC (C : List Ct) (R : List Int) (xs o : List Nat) : Prop := o.Perm xs ∧ o.Pairwise fun a b => ¬ ltK C R xs b a
theorem OrdC.strict {C : List Ct} {R : List Int} {xs o : List Nat} (h : OrdC C R xs o) (hR : RkOk R) (hW : WeOk C R) (hx : ∀ x ∈ xs, x < C.length) (hn : xs.Nodup) : o.Pairwise (ltK C R xs) := by
  have hno : o.Nodup := (h.1.nodup_iff).2 hn
  have := List.Pairwise.and h.2 hno
  refine List.Pairwise.imp_of_mem ?_ this
  rintro a b ha hb ⟨h1, h2⟩
  rcases ltK_total hR hW hx (h.1.mem_iff.1 ha) (h.1.mem_iff.1 hb) h2 with h | h
  · exact h
  · exact (h1 h).elim
theorem OrdC.one {C : List Ct} {R : List Int} {xs o o' : List Nat} (h : OrdC C R xs o) (h' : OrdC C R xs o') (hR : RkOk R) (hW : WeOk C R) (hx : ∀ x ∈ xs, x < C.length) (hn : xs.Nodup) : o = o' :=
  sorted_one (ltK_asym C R xs) (h.1.trans h'.1.symm) (h.strict hR hW hx hn) (h'.strict hR hW hx hn)
theorem ltK_congr {C C' : List Ct} {R : List Int} {xs : List Nat} (h : ∀ a, (ctAt C a).we = (ctAt C' a).we ∧ (ctAt C a).co = (ctAt C' a).co) (a b : Nat) : ltK C R xs a b ↔ ltK C' R xs a b := by
  have e1 : ∀ a, rnd C xs a = rnd C' xs a := fun a => by
    unfold rnd; congr 1; funext b; simp only [befC, sameC, (h a).1, (h a).2, (h b).1, (h b).2]
  unfold ltK rkC
  rw [(h a).2, (h b).2, (h a).1, (h b).1, e1, e1]
end Go.Proofs.Ytfdahmdehmhllaa
