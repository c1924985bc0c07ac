/- The cheapest of several mixes. -/
import Derived.Test.YtfdahmdehmhllaaJh
namespace Go.Proofs.Ytfdahmdehmhllaa
open Go Go.RowKit Go.Shelf

theorem snocRec {α : Type} {P : List α → Prop} (nil : P []) (snoc : ∀ xs x, P xs → P (xs ++ [x])) (xs : List α) : P xs := by
  have h : ∀ ys : List α, P ys.reverse := by
    intro ys
    induction ys with
    | nil => exact nil
    | cons y t ih => rw [List.reverse_cons]; exact snoc _ _ ih
  have := h xs.reverse
  rwa [List.reverse_reverse] at this
theorem sum_nnJ : ∀ l : List Int, (∀ x ∈ l, 0 ≤ x) → 0 ≤ l.sum
  | [], _ => by simp
  | a :: l, h => by
    have h1 := h a (by simp)
    have h2 := sum_nnJ l (fun x hx => h x (by simp [hx]))
    rw [List.sum_cons]; omega
/-- What a mix costs. -/
def costM (L : List So) (M : List Int) : Int := (togL (·.pr) L M).sum
/-- Whether a mix surely scours the cloth, and does not stain it. -/
def goodM (c : Gc) (L : List So) (M : List Int) : Bool := decide (0 ≤ ovLo c L M) && !decide (c.be < (togL (·.st) L M).sum)
/-- One mix more. -/
def stepM (c : Gc) (L : List So) (b : Option (List Int)) (M : List Int) : Option (List Int) :=
  match b with
  | none => if goodM c L M then some M else none
  | some B => if decide (costM L M < costM L B) && goodM c L M then some M else some B
def bestM (c : Gc) (L : List So) (xs : List (List Int)) : Option (List Int) := xs.foldl (stepM c L) none
theorem bestM_snoc (c : Gc) (L : List So) (xs : List (List Int)) (M : List Int) : bestM c L (xs ++ [M]) = stepM c L (bestM c L xs) M := by
  simp [bestM, List.foldl_append]
theorem bestM_none {c : Gc} {L : List So} : ∀ {xs : List (List Int)}, bestM c L xs = none → ∀ M ∈ xs, goodM c L M = false := by
  intro xs
  induction xs using snocRec with
  | nil => simp
  | snoc xs x ih =>
    intro h M hM
    rw [bestM_snoc] at h
    cases hb : bestM c L xs with
    | some B => rw [hb] at h; simp only [stepM] at h; split at h <;> cases h
    | none =>
      rw [hb] at h
      simp only [stepM] at h
      split at h
      · cases h
      · rename_i hx
        rcases List.mem_append.1 hM with h1 | h1
        · exact ih hb M h1
        · obtain rfl := List.mem_singleton.1 h1
          simpa using hx
theorem bestM_some {c : Gc} {L : List So} : ∀ {xs : List (List Int)} {B : List Int}, bestM c L xs = some B → B ∈ xs ∧ goodM c L B = true ∧ ∀ M ∈ xs, goodM c L M = true → costM L B ≤ costM L M := by
  intro xs
  induction xs using snocRec with
  | nil => intro B h; simp [bestM] at h
  | snoc xs x ih =>
    intro B h
    rw [bestM_snoc] at h
    cases hb : bestM c L xs with
    | none =>
      rw [hb] at h
      simp only [stepM] at h
      split at h
      · rename_i hx
        obtain rfl := Option.some.inj h
        refine ⟨by simp, hx, fun M hM hg => ?_⟩
        rcases List.mem_append.1 hM with h1 | h1
        · rw [bestM_none hb M h1] at hg; cases hg
        · obtain rfl := List.mem_singleton.1 h1; omega
      · cases h
    | some A =>
      obtain ⟨h1, h2, h3⟩ := ih hb
      rw [hb] at h
      simp only [stepM, Bool.and_eq_true, decide_eq_true_eq] at h
      split at h
      · rename_i hx
        obtain rfl := Option.some.inj h
        refine ⟨by simp, hx.2, fun M hM hg => ?_⟩
        rcases List.mem_append.1 hM with h4 | h4
        · have := h3 M h4 hg; omega
        · obtain rfl := List.mem_singleton.1 h4; omega
      · rename_i hx
        obtain rfl := Option.some.inj h
        refine ⟨by simp [h1], h2, fun M hM hg => ?_⟩
        rcases List.mem_append.1 hM with h4 | h4
        · exact h3 M h4 hg
        · obtain rfl := List.mem_singleton.1 h4
          have : ¬ costM L M < costM L A := fun h5 => hx ⟨h5, hg⟩
          omega
/-- With less grease no mix is dearer. -/
theorem best_less {c d : Gc} {L : List So} {xs : List (List Int)} (hb : c.be = d.be) (hg : grsI d.wh d.gh ≤ grsI c.wh c.gh) {B : List Int} (h : bestM c L xs = some B) : ∃ D, bestM d L xs = some D ∧ costM L D ≤ costM L B := by
  obtain ⟨h1, h2, h3⟩ := bestM_some h
  have h4 : goodM d L B = true := by
    unfold goodM at h2 ⊢
    rw [Bool.and_eq_true] at h2 ⊢
    have h5 := of_decide_eq_true h2.1
    refine ⟨decide_eq_true ?_, by rw [← hb]; exact h2.2⟩
    unfold ovLo at h5 ⊢
    omega
  cases hd : bestM d L xs with
  | none => rw [bestM_none hd B h1] at h4; cases h4
  | some D => exact ⟨D, rfl, (bestM_some hd).2.2 B h1 h4⟩
theorem mem_upto {h p : Int} (hp : p ∈ upto h) : 0 ≤ p ∧ p ≤ h := by
  obtain ⟨i, hi, rfl⟩ := List.mem_map.1 hp
  have := List.mem_range.1 hi
  omega
theorem mxs_bd (L : List So) (hL : ∀ s ∈ L, 0 ≤ s.ha ∧ s.ha ≤ 12) : ∀ k, k ≤ L.length → ∀ m ∈ mxs L k, ∀ p ∈ m, 0 ≤ p ∧ p ≤ 12
  | 0, _, m, h => by simp [mxs] at h; subst h; simp
  | k + 1, hk, m, h => by
    simp only [mxs, List.mem_flatMap, List.mem_map] at h
    obtain ⟨m', hm', q, hq, rfl⟩ := h
    intro p hp
    rcases List.mem_append.1 hp with h1 | h1
    · exact mxs_bd L hL k (by omega) m' hm' p h1
    · obtain rfl := List.mem_singleton.1 h1
      have h2 := mem_upto hq
      rw [List.getD_eq_getElem?_getD, List.getElem?_eq_getElem (by omega)] at h2
      have := hL L[k] (List.getElem_mem _)
      simp only [Option.getD_some] at h2
      omega
end Go.Proofs.Ytfdahmdehmhllaa
