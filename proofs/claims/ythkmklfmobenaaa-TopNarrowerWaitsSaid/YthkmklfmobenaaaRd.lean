/- TopNarrowerWaits: what the calls of package turn say of its two days. -/
import Derived.Test.YthkmklfmobenaaaRc
import Derived.Test.YthkmklfmobenaaaQy
namespace Go.Proofs.Ythkmklfmobenaaa
open Go Go.RowKit Go.Shelf

theorem nwDay_any (sel : Nat × Nat × Nat → Nat) (L : List (Nat × Nat × Nat)) (base rk : Nat) (hL : L.length ≤ 4) (tv : Value) (W : World) (hN : L = [] → tv = .slice none 0 0) (hO : Owns encC 4 49 base W tv (nwC sel L)) (hR : Ints W (.slice (some ⟨rk, 0, none⟩) 2 2) [0, 1]) :
    Calls Try.prog 9 #[.agg #[tv, .slice (some ⟨rk, 0, none⟩) 2 2]] W fun e w' => ∃ ca cc g rc, e = .returned (.agg #[.slice ca L.length cc, .slice (some ⟨g, 0, none⟩) 2 rc]) ∧ SliceOf encC 4 w' (.slice ca L.length cc) (nwC sel L) ∧ Ints w' (.slice (some ⟨g, 0, none⟩) 2 rc) [0, 1] ∧ Below W.heap.size W w' := by
  by_cases h0 : L = []
  · subst h0
    rw [hN rfl]
    exact firDay_nil [0, 1] rk 0 2 W hR (by decide)
  · have hl0 : 0 < L.length := List.length_pos_iff.2 h0
    have hne : nwC sel L ≠ [] := by intro h; have := nwC_len sel L; rw [h] at this; simp at this; omega
    obtain ⟨g, c, rfl⟩ := owns_addrQ hO (by rw [nwC_len]; omega)
    have hs := Owns.slice hO encC_len (by rw [nwC_len]; omega)
    have := firDay_ne (nwC sel L) [0, 1] hne ⟨g, 0, none⟩ rk 0 c 2 W hs hR (by rw [nwC_len]; omega) (by decide)
    rw [nwC_len] at this ⊢
    exact this
theorem nwStarts_any (sel : Nat × Nat × Nat → Nat) (L : List (Nat × Nat × Nat)) (hC0 : tChk (nwC sel L) [0, 1] = 0) (K g cc rc : Nat) (ca : Option Addr) (hK : 1 ≤ K ∧ K ≤ 5) (W : World) (hC : SliceOf encC 4 W (.slice ca L.length cc) (nwC sel L)) (hR : Ints W (.slice (some ⟨g, 0, none⟩) 2 rc) [0, 1]) :
    Calls Try.prog 8 #[.agg #[.slice ca L.length cc, .slice (some ⟨g, 0, none⟩) 2 rc], iv K] W fun e w' => ∃ (o : List Nat) (q : Nat), OrdC (nwC sel L) [0, 1] (List.range (nwC sel L).length) o ∧ W.heap.size ≤ q ∧ e = .returned (.tuple #[.slice (some ⟨q, 0, none⟩) L.length L.length, iv 0]) ∧ w'.heap[q]? = some (.cells (rowI (stF (nwC sel L) K o)) 39 (0, 0)) ∧ Below W.heap.size W w' := by
  have h := Starts_good (nwC sel L) [0, 1] ca g 0 cc rc K W (by rw [nwC_len]; exact hC) hR hC0 hK
  rw [nwC_len] at h
  refine h.mono ?_
  rintro e w' ⟨o, q, h1, h2, rfl, h3, h4⟩
  exact ⟨o, q, h1, h2, by rw [nwC_len], h3, h4⟩
theorem nwFew_any (sel : Nat × Nat × Nat → Nat) (L : List (Nat × Nat × Nat)) (hC0 : tChk (nwC sel L) [0, 1] = 0) (g cc rc lm : Nat) (ca : Option Addr) (hlm : lm ≤ 500) (W : World) (hC : SliceOf encC 4 W (.slice ca L.length cc) (nwC sel L)) (hR : Ints W (.slice (some ⟨g, 0, none⟩) 2 rc) [0, 1]) (o : List Nat) (ho : OrdC (nwC sel L) [0, 1] (List.range (nwC sel L).length) o) :
    Calls Try.prog 10 #[.agg #[.slice ca L.length cc, .slice (some ⟨g, 0, none⟩) 2 rc], iv lm] W fun e w' => e = .returned (.tuple #[iv (fewS (coOf (nwC sel L)) (hiOf (nwC sel L)) o lm), iv 0]) ∧ Below W.heap.size W w' := by
  have h := Fewest_good (nwC sel L) [0, 1] ca g 0 cc rc lm o W (by rw [nwC_len]; exact hC) hR hC0 hlm ho nw_rk
  rw [nwC_len] at h
  exact h
end Go.Proofs.Ythkmklfmobenaaa
