/- Plain facts for TopWorkNarrow: no plan has more hammers than the busiest one, and what Below says of a cloth without measurings. -/
import Derived.Test.YtdalilllakdamaaSm
import Derived.Test.YtdalilllakdamaaBel
namespace Go.Proofs.Ytdalilllakdamaa
open Go Go.RowKit Go.Shelf

theorem busy_take (m : Ml) : ∀ (F : List Sp) (l : Int) (n : Nat), (busy m l F).take n = busy m l (F.take n)
  | [], l, n => by simp [busy]
  | p :: F, l, 0 => by simp [busy]
  | p :: F, l, n + 1 => by rw [busy, List.take_succ_cons, List.take_succ_cons, busy, busy_take m F]
theorem fill_lip {H l l' f d : Int} (h1 : l ≤ l') (h2 : l' ≤ l + d) : fillL H l f ≤ fillL H l' f ∧ fillL H l' f ≤ fillL H l f + d := by unfold fillL; split <;> split <;> omega
theorem div_step {a b t : Int} (ht : 0 < t) (h1 : a ≤ b) (h2 : b ≤ a + t) : b / t = a / t ∨ b / t = a / t + 1 := by
  have e1 := Int.ediv_le_ediv ht h1
  have e2 := Int.ediv_le_ediv ht h2
  rw [Int.add_ediv_of_dvd_right (Int.dvd_refl t), Int.ediv_self (by omega)] at e2
  omega
theorem busy_lip {m : Ml} (hm : vMill m = true) (ht : 0 < m.t) : ∀ (F : List Sp) (l l' : Int), (∀ p ∈ F, 0 ≤ p.1) → 0 ≤ l → l ≤ l' → l' ≤ l + m.t →
    (busy m l F).sum ≤ (busy m l' F).sum ∧ (busy m l' F).sum ≤ (busy m l F).sum + 1
  | [], l, l', _, _, _, _ => by simp [busy]
  | p :: F, l, l', hF, h0, h1, h2 => by
    have hp := hF p (by simp)
    obtain ⟨f1, f2⟩ := fill_lip (H := m.h) (f := p.1) h1 h2
    obtain ⟨o1, o2, o3, o4⟩ := mostOf_bd (l := l) (f := p.1) hm h0 hp
    obtain ⟨q1, q2, q3, q4⟩ := mostOf_bd (l := l') (f := p.1) hm (by omega) hp
    have hF' : ∀ p ∈ F, 0 ≤ p.1 := fun q hq => hF q (by simp [hq])
    have hb : mostOf m l' p.1 = mostOf m l p.1 ∨ mostOf m l' p.1 = mostOf m l p.1 + 1 := by
      have := div_step ht f1 f2
      unfold mostOf
      rw [if_pos ht, if_pos ht]
      split <;> split <;> omega
    rw [busy, busy, List.sum_cons, List.sum_cons]
    generalize hx : mostOf m l p.1 = x at *
    generalize hy : mostOf m l' p.1 = y at *
    rcases hb with e | e
    · subst e
      have r1 : leftL m.t m.h l p.1 y ≤ leftL m.t m.h l' p.1 y := by unfold leftL; omega
      have r2 : leftL m.t m.h l' p.1 y ≤ leftL m.t m.h l p.1 y + m.t := by unfold leftL; omega
      have := busy_lip hm ht F _ _ hF' o3 r1 r2
      omega
    · subst e
      have em : (x + 1) * m.t = x * m.t + m.t := by rw [Int.add_mul, Int.one_mul]
      have r1 : leftL m.t m.h l' p.1 (x + 1) ≤ leftL m.t m.h l p.1 x := by unfold leftL; omega
      have r2 : leftL m.t m.h l p.1 x ≤ leftL m.t m.h l' p.1 (x + 1) + m.t := by unfold leftL; omega
      have := busy_lip hm ht F _ _ hF' q3 r1 r2
      omega
theorem busy_many {m : Ml} (hm : vMill m = true) (ht : 0 < m.t) (F : List Sp) (hF : ∀ p ∈ F, 0 ≤ p.1) (l : Int) (h0 : 0 ≤ l) : ∀ j : Nat, (busy m (l + j * m.t) F).sum ≤ (busy m l F).sum + j
  | 0 => by simp
  | j + 1 => by
    have ih := busy_many hm ht F hF l h0 j
    have e : ((j + 1 : Nat) : Int) * m.t = (j : Int) * m.t + m.t := by rw [Int.natCast_add, Int.add_mul]; simp
    have hj : 0 ≤ (j : Int) * m.t := Int.mul_nonneg (by omega) (by omega)
    have := (busy_lip hm ht F (l + j * m.t) (l + ((j + 1 : Nat) : Int) * m.t) hF (by omega) (by omega) (by omega)).2
    omega
/-- No other number of hammers in an hour leads to more. -/
theorem busy_best {m : Ml} (hm : vMill m = true) {l : Int} {p : Sp} {F : List Sp} {x : Int} (h0 : 0 ≤ l) (hp : 0 ≤ p.1) (hF : ∀ p ∈ F, 0 ≤ p.1) (hx : x ≤ mostOf m l p.1) :
    x + (busy m (leftL m.t m.h l p.1 x) F).sum ≤ (busy m l (p :: F)).sum := by
  obtain ⟨o1, o2, o3, o4⟩ := mostOf_bd (l := l) (f := p.1) hm h0 hp
  rw [busy, List.sum_cons]
  by_cases ht : 0 < m.t
  · obtain ⟨j, hj⟩ : ∃ j : Nat, mostOf m l p.1 = x + j := ⟨(mostOf m l p.1 - x).toNat, by omega⟩
    have := busy_many hm ht F hF _ o3 j
    rw [hj] at this ⊢
    have e : leftL m.t m.h l p.1 (x + (j : Int)) + (j : Int) * m.t = leftL m.t m.h l p.1 x := by unfold leftL; rw [Int.add_mul]; omega
    rw [e] at this
    omega
  · have e0 : m.t = 0 := by have := (vMill_iff.1 hm).2.1.1; omega
    have e : ∀ y : Int, leftL m.t m.h l p.1 y = fillL m.h l p.1 := fun y => by unfold leftL; rw [e0]; omega
    rw [e, e]; omega
theorem leastF_stop (c : Int → Bool) : ∀ (f k : Nat), c ((k : Int) + f) = false → c (leastF c f k) = false
  | 0, k, h => by simpa [leastF] using h
  | f + 1, k, h => by
    rw [leastF]
    split
    · exact leastF_stop c f (k + 1) (by rw [← h]; congr 1; omega)
    · rename_i hc; simpa using hc
theorem few_sum {m : Ml} {l : Int} {p : Sp} {F : List Sp} (hm : vMill m = true) (h0 : 0 ≤ l) (hp : 0 ≤ p.1) (hF : ∀ p ∈ F, 0 ≤ p.1) :
    (few m l p F : Int) + (busy m (leftL m.t m.h l p.1 (few m l p F)) F).sum = (busy m l (p :: F)).sum := by
  obtain ⟨o1, o2, o3, o4⟩ := mostOf_bd (l := l) (f := p.1) hm h0 hp
  obtain ⟨b1, b2, b3⟩ := few_bd (r := F) hm h0 hp
  have h1 := busy_best hm (F := F) h0 hp hF b1
  have h2 : fewC m l p F (few m l p F) = false := leastF_stop _ _ _ (by
    have : ((0 : Nat) : Int) + ((mostOf m l p.1).toNat : Int) = mostOf m l p.1 := by omega
    rw [this]; exact fewC_most)
  simp only [fewC, decide_eq_false_iff_not] at h2
  omega
theorem mostP_sum {m : Ml} (hm : vMill m = true) : ∀ (F : List Sp) (l : Int), 0 ≤ l → (∀ p ∈ F, 0 ≤ p.1) → (mostP m l F).sum = (busy m l F).sum ∧ (mostP m l F).length = F.length
  | [], l, _, _ => by simp [mostP, busy]
  | p :: F, l, h0, hF => by
    have hp := hF p (by simp)
    have hF' : ∀ p ∈ F, 0 ≤ p.1 := fun q hq => hF q (by simp [hq])
    have h1 := few_sum hm h0 hp hF'
    obtain ⟨b1, b2, b3⟩ := few_bd (r := F) hm h0 hp
    obtain ⟨h2, h3⟩ := mostP_sum hm F _ b2 hF'
    refine ⟨?_, by rw [mostP, List.length_cons, List.length_cons, h3]⟩
    rw [mostP, List.sum_cons, h2, ← h1]
theorem mostP_mem {m : Ml} (hm : vMill m = true) : ∀ (F : List Sp) (l : Int), 0 ≤ l → (∀ p ∈ F, 0 ≤ p.1) → ∀ x ∈ mostP m l F, 0 ≤ x ∧ x ≤ m.k
  | [], l, _, _, x, hx => by simp [mostP] at hx
  | p :: F, l, h0, hF, x, hx => by
    have hp := hF p (by simp)
    obtain ⟨b1, b2, b3⟩ := few_bd (r := F) hm h0 hp
    have o2 := (mostOf_bd (l := l) (f := p.1) hm h0 hp).2.1
    rw [mostP, List.mem_cons] at hx
    rcases hx with rfl | hx
    · omega
    · exact mostP_mem hm F _ b2 (fun q hq => hF q (by simp [hq])) x hx
theorem sum_le_k {k : Int} (hk : 0 ≤ k) : ∀ (l : List Int), (∀ x ∈ l, 0 ≤ x ∧ x ≤ k) → 0 ≤ l.sum ∧ l.sum ≤ k * (l.length : Int)
  | [], _ => by simp
  | a :: l, h => by
    have h1 := h a (by simp)
    have h2 := sum_le_k hk l (fun x hx => h x (by simp [hx]))
    rw [List.sum_cons, List.length_cons]
    have : k * ((l.length + 1 : Nat) : Int) = k * (l.length : Int) + k := by rw [Int.natCast_add, Int.mul_add]; simp
    omega
theorem busy_mem {m : Ml} (hm : vMill m = true) : ∀ (F : List Sp) (l : Int), 0 ≤ l → (∀ p ∈ F, 0 ≤ p.1) → ∀ x ∈ busy m l F, 0 ≤ x ∧ x ≤ m.k
  | [], l, _, _, x, hx => by simp [busy] at hx
  | p :: F, l, h0, hF, x, hx => by
    have hp := hF p (by simp)
    obtain ⟨o1, o2, o3, o4⟩ := mostOf_bd (l := l) (f := p.1) hm h0 hp
    rw [busy, List.mem_cons] at hx
    rcases hx with rfl | hx
    · omega
    · exact busy_mem hm F _ o3 (fun q hq => hF q (by simp [hq])) x hx
theorem busy_len (m : Ml) : ∀ (F : List Sp) (l : Int), (busy m l F).length = F.length
  | [], l => rfl
  | p :: F, l => by rw [busy, List.length_cons, List.length_cons, busy_len m F]

end Go.Proofs.Ytdalilllakdamaa
