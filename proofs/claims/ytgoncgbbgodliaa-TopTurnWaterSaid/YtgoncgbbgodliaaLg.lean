/- An hour at which a felt surely is fit is one at which the true felt is. -/
import Derived.Test.YtgoncgbbgodliaaKy
import Derived.Test.YtgoncgbbgodliaaKs
namespace Go.Proofs.Ytgoncgbbgodliaa
open Go Go.RowKit Go.Shelf

theorem gRow_memX {s w0 k : Int} : ∀ (f j : Nat), w0 + (j : Int) ≤ k → k < w0 + (j : Int) + (f : Int) → (s, k) ∈ gRow s w0 j f
  | 0, j, h1, h2 => by omega
  | f + 1, j, h1, h2 => by
    unfold gRow
    by_cases e : k = w0 + (j : Int)
    · rw [e]; exact List.mem_cons_self
    · exact List.mem_cons_of_mem _ (gRow_memX f (j + 1) (by omega) (by omega))
theorem gAll_memX {s0 w0 s k : Int} {M : Nat} (h3 : w0 ≤ k) (h4 : k < w0 + (M : Int)) : ∀ (f i : Nat), s0 + (i : Int) ≤ s → s < s0 + (i : Int) + (f : Int) → (s, k) ∈ gAll s0 w0 M i f
  | 0, i, h1, h2 => by omega
  | f + 1, i, h1, h2 => by
    unfold gAll
    refine List.mem_append.2 ?_
    by_cases e : s = s0 + (i : Int)
    · rw [e]; exact .inl (gRow_memX M 0 (by omega) (by omega))
    · exact .inr (gAll_memX h3 h4 f (i + 1) (by omega) (by omega))
theorem gains_mem {c : Fe} {s k : Int} (h1 : c.sl ≤ s) (h2 : s ≤ c.sh) (h3 : c.wl ≤ k) (h4 : k ≤ c.wh) : (s, k) ∈ gainsL c :=
  gAll_memX h3 (by omega) _ _ (by omega) (by omega)
theorem efTh_more {b : Nat → Int} (hb : ∀ i, 0 ≤ b i ∧ b i ≤ 255) {x : Chc} (hs : x.s = efS b) (hk : x.k = efW b) (p : Nat) : ∀ h : Nat, efTh b p h = efN b p + moreI 2 (efFe b) x p h
  | 0 => by simp [efTh, moreI, shr]
  | h + 1 => by
    have ih := efTh_more hb hs hk p h
    have h8 := hb 8; have h9 := hb 9
    have hq : 0 ≤ (h : Int) / (1 + b 8 % 12) := Int.ediv_nonneg (by omega) (by omega)
    have hhit : (p = hitI 2 (efFe b) h) ↔ (b 9 % 2 + (h : Int) / (1 + b 8 % 12)) % 2 = (p : Int) := by
      unfold hitI efFe
      dsimp only
      generalize (h : Int) / (1 + b 8 % 12) = q at *
      omega
    rw [efTh, ih]
    unfold moreI
    rw [hs, hk]
    have e : shr 2 (efFe b) (h + 1) p = shr 2 (efFe b) h p + (if p = hitI 2 (efFe b) h then 1 else 0) := rfl
    rw [e]
    generalize shr 2 (efFe b) h p = n at *
    by_cases hc : p = hitI 2 (efFe b) h
    · rw [if_pos hc, if_pos (hhit.1 hc)]
      have e1 : ((n + 1 : Nat) : Int) * efS b = (n : Int) * efS b + efS b := by rw [Int.natCast_add, Int.add_mul]; simp
      have e2 : (((h + 1 : Nat) : Int) - ((n + 1 : Nat) : Int)) = (h : Int) - (n : Int) := by omega
      rw [e1, e2]; omega
    · rw [if_neg hc, if_neg (fun h => hc (hhit.2 h))]
      have e2 : (((h + 1 : Nat) : Int) - ((n + 0 : Nat) : Int)) = ((h : Int) - (n : Int)) + 1 := by omega
      rw [e2, Int.add_mul]; simp; omega
theorem sure_fit {b : Nat → Int} (hb : ∀ i, 0 ≤ b i ∧ b i ≤ 255) {n : Nat} (h : n ∈ sureL [efP b 0, efP b 1] (efFe b)) : n ≤ 36 ∧ efFit b n = true := by
  unfold sureL at h
  rw [List.mem_filter, List.mem_range] at h
  refine ⟨by omega, ?_⟩
  have h4 := hb 4; have h5 := hb 5; have h6 := hb 6; have h7 := hb 7; have h1 := hb 1; have h3 := hb 3
  have hm : (efS b, efW b) ∈ gainsL (efFe b) := gains_mem (by simp only [efFe]; omega) (by simp only [efFe]; omega) (by simp only [efFe, efW]; omega) (by simp only [efFe]; omega)
  have ha := List.all_eq_true.1 h.2 _ (List.mem_map.2 ⟨_, hm, rfl⟩)
  have hp : ∀ p, p < 2 → fitC (efFe b) (thickI 2 (efFe b) _ p n) = true := fun p hp => List.all_eq_true.1 ha p (List.mem_range.2 hp)
  have p0 := hp 0 (by omega)
  have p1 := hp 1 (by omega)
  have e0 := efTh_more hb (x := chOf [efP b 0, efP b 1] (efS b, efW b)) rfl rfl 0 n
  have e1 := efTh_more hb (x := chOf [efP b 0, efP b 1] (efS b, efW b)) rfl rfl 1 n
  have q0 : thickI 2 (efFe b) (chOf [efP b 0, efP b 1] (efS b, efW b)) 0 n = (efN b 0 - b 1 % 3 + moreI 2 (efFe b) (chOf [efP b 0, efP b 1] (efS b, efW b)) 0 n, efN b 0 + b 1 / 16 % 3 + moreI 2 (efFe b) (chOf [efP b 0, efP b 1] (efS b, efW b)) 0 n) := rfl
  have q1 : thickI 2 (efFe b) (chOf [efP b 0, efP b 1] (efS b, efW b)) 1 n = (efN b 1 - b 3 % 3 + moreI 2 (efFe b) (chOf [efP b 0, efP b 1] (efS b, efW b)) 1 n, efN b 1 + b 3 / 16 % 3 + moreI 2 (efFe b) (chOf [efP b 0, efP b 1] (efS b, efW b)) 1 n) := rfl
  rw [q0] at p0; rw [q1] at p1
  clear q0 q1 hp ha hm h
  generalize moreI 2 (efFe b) (chOf [efP b 0, efP b 1] (efS b, efW b)) 0 n = M0 at *
  generalize moreI 2 (efFe b) (chOf [efP b 0, efP b 1] (efS b, efW b)) 1 n = M1 at *
  simp only [fitC, Bool.and_eq_true, inB_iff] at p0 p1
  unfold efFit
  simp only [Bool.and_eq_true, decide_eq_true_eq]
  omega
end Go.Proofs.Ytgoncgbbgodliaa
