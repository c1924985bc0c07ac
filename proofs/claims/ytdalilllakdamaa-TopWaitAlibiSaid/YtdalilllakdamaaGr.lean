/- Turns: the last cloth is done when Ends says so (plain facts, for TopTurnDry). -/
import Derived.Test.YtdalilllakdamaaRc
namespace Go.Proofs.Ytdalilllakdamaa
open Go Go.RowKit

theorem putTo_len : ∀ (l : List (Nat × Int × Int)) (z : List Int), (putTo l z).length = z.length
  | [], _ => rfl
  | v :: l, z => by
    have := putTo_len l (z.set v.1 v.2.1)
    rw [List.length_set] at this
    exact this
theorem putTo_far : ∀ (l : List (Nat × Int × Int)) (z : List Int) (i : Nat), (∀ v ∈ l, v.1 ≠ i) → (putTo l z).getD i 0 = z.getD i 0
  | [], _, _, _ => rfl
  | v :: l, z, i, h => by
    refine (putTo_far l (z.set v.1 v.2.1) i (fun u hu => h u (List.mem_cons_of_mem _ hu))).trans ?_
    have := h v List.mem_cons_self
    simp only [List.getD_eq_getElem?_getD, List.getElem?_set, if_neg this]
theorem putTo_at : ∀ (l : List (Nat × Int × Int)) (z : List Int), (l.map (·.1)).Nodup → (∀ v ∈ l, v.1 < z.length) → ∀ v ∈ l, (putTo l z).getD v.1 0 = v.2.1
  | [], _, _, _, v, hv => by cases hv
  | u :: l, z, hn, hl, v, hv => by
    simp only [List.map_cons, List.nodup_cons] at hn
    rcases List.mem_cons.1 hv with rfl | hv
    · refine (putTo_far l (z.set v.1 v.2.1) v.1 (fun q hq e => hn.1 (List.mem_map.2 ⟨q, hq, e⟩))).trans ?_
      have := hl v List.mem_cons_self
      simp [List.getD_eq_getElem?_getD, this]
    · exact putTo_at l (z.set u.1 u.2.1) hn.2 (fun q hq => by rw [List.length_set]; exact hl q (List.mem_cons_of_mem _ hq)) v hv
theorem visL_fst (co st : Nat → Int) : ∀ (o : List Nat) (f : List Int), (visL co st f o).map (·.1) = o
  | [], _ => rfl
  | x :: o, f => by simp [visL, visL_fst co st o]
theorem visL_end (co st : Nat → Int) : ∀ (o : List Nat) (f : List Int), ∀ v ∈ visL co st f o, v.2.2 = v.2.1 + st v.1
  | [], _, v, hv => by cases hv
  | x :: o, f, v, hv => by
    rcases List.mem_cons.1 hv with rfl | hv
    · rfl
    · exact visL_end co st o _ v hv
theorem foldMax (l : List (Nat × Int × Int)) : ∀ m : Int, m ≤ l.foldl (fun m v => max m v.2.2) m ∧ (∀ v ∈ l, v.2.2 ≤ l.foldl (fun m v => max m v.2.2) m) ∧ ∀ q, m ≤ q → (∀ v ∈ l, v.2.2 ≤ q) → l.foldl (fun m v => max m v.2.2) m ≤ q := by
  induction l with
  | nil => intro m; exact ⟨Int.le_refl _, (fun v hv => by cases hv), fun q h _ => h⟩
  | cons u l ih =>
    intro m
    obtain ⟨h1, h2, h3⟩ := ih (max m u.2.2)
    simp only [List.foldl_cons]
    refine ⟨by omega, fun v hv => ?_, fun q hq hv => h3 q (by have := hv u List.mem_cons_self; omega) (fun v h => hv v (List.mem_cons_of_mem _ h))⟩
    rcases List.mem_cons.1 hv with rfl | hv
    · omega
    · exact h2 v hv
/-- The greatest of the first k of some numbers, 0 at least. -/
def lastTo (done : Nat → Int) : Nat → Int
  | 0 => 0
  | k + 1 => max (lastTo done k) (done k)
theorem lastTo_le {done : Nat → Int} {q : Int} (h0 : 0 ≤ q) : ∀ {n : Nat}, (∀ i, i < n → done i ≤ q) → lastTo done n ≤ q
  | 0, _ => h0
  | n + 1, h => by
    have := lastTo_le h0 (n := n) (fun i hi => h i (by omega))
    have := h n (by omega)
    unfold lastTo; omega
theorem le_lastTo (done : Nat → Int) : ∀ (n : Nat), 0 ≤ lastTo done n ∧ ∀ i, i < n → done i ≤ lastTo done n
  | 0 => ⟨Int.le_refl _, fun i hi => by omega⟩
  | n + 1 => by
    obtain ⟨h0, h⟩ := le_lastTo done n
    unfold lastTo
    refine ⟨by omega, fun i hi => ?_⟩
    by_cases e : i = n
    · subst e; omega
    · have := h i (by omega); omega
/-- When each cloth starts and how long it stays says when the last one is done. -/
theorem last_end (co st : Nat → Int) (f z : List Int) (o : List Nat) (n : Nat) (ho : o.Perm (List.range n)) (hz : z.length = n) :
    (∀ i, i < n → (putTo (visL co st f o) z).getD i 0 + st i ≤ endL (visL co st f o)) ∧ lastTo (fun i => (putTo (visL co st f o) z).getD i 0 + st i) n = endL (visL co st f o) := by
  have hnd : ((visL co st f o).map (·.1)).Nodup := by rw [visL_fst]; exact (ho.nodup_iff).2 List.nodup_range
  have hlt : ∀ v ∈ visL co st f o, v.1 < z.length := fun v hv => by
    have : v.1 ∈ o := by rw [← visL_fst co st o f]; exact List.mem_map.2 ⟨v, hv, rfl⟩
    rw [hz]; exact List.mem_range.1 (ho.mem_iff.1 this)
  have hat := putTo_at _ z hnd hlt
  obtain ⟨m1, m2, m3⟩ := foldMax (visL co st f o) 0
  have key : ∀ i, i < n → ∃ v ∈ visL co st f o, v.1 = i := fun i hi => by
    have : i ∈ (visL co st f o).map (·.1) := by rw [visL_fst]; exact ho.mem_iff.2 (List.mem_range.2 hi)
    obtain ⟨v, hv, e⟩ := List.mem_map.1 this
    exact ⟨v, hv, e⟩
  have hle : ∀ i, i < n → (putTo (visL co st f o) z).getD i 0 + st i ≤ endL (visL co st f o) := fun i hi => by
    obtain ⟨v, hv, rfl⟩ := key i hi
    rw [hat v hv, ← visL_end co st o f v hv]
    exact m2 v hv
  refine ⟨hle, Int.le_antisymm (lastTo_le m1 hle) ?_⟩
  obtain ⟨l0, l1⟩ := le_lastTo (fun i => (putTo (visL co st f o) z).getD i 0 + st i) n
  refine m3 _ l0 (fun v hv => ?_)
  have := l1 v.1 (by have := hlt v hv; omega)
  rw [hat v hv] at this
  rw [visL_end co st o f v hv]
  exact this
end Go.Proofs.Ytdalilllakdamaa
