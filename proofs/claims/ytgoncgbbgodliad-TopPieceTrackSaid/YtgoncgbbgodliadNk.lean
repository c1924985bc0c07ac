/- TopPieceTrack: what is plain. -/
import Derived.Test.YtgoncgbbgodliadNj
namespace Go.Proofs.Ytgoncgbbgodliad
open Go Go.RowKit Go.Shelf

theorem qAt_exact (x r : Int) (n : Nat) : qAt ⟨x, x, r, r⟩ n = (aft x r n, aft x r n) := by
  have hm : (x, r) ∈ crs ⟨x, x, r, r⟩ := mem_crs (Int.le_refl _) (Int.le_refl _) (Int.le_refl _) (Int.le_refl _)
  have hne : ((crs ⟨x, x, r, r⟩).map fun p => aft p.1 p.2 n) ≠ [] := by
    intro e
    rw [List.map_eq_nil_iff] at e; rw [e] at hm; cases hm
  obtain ⟨-, h1, h2, -⟩ := strOf_spec _ hne
  have hall : ∀ y ∈ ((crs ⟨x, x, r, r⟩).map fun p => aft p.1 p.2 n), y = aft x r n := by
    intro y hy
    obtain ⟨⟨a, b⟩, hp, rfl⟩ := List.mem_map.1 hy
    have := crs_mem hp
    dsimp only at this
    obtain rfl : a = x := by omega
    obtain rfl : b = r := by omega
    rfl
  exact Prod.ext (hall _ h1) (hall _ h2)
theorem aft_posN {x r : Int} (hx : 1 ≤ x) (hr : 0 ≤ r) (hr' : r ≤ 999) : ∀ h, 1 ≤ aft x r h
  | 0 => hx
  | h + 1 => by
    have h1 := aft_posN hx hr hr' h
    unfold aft
    have h3 : 0 ≤ aft x r h * r := Int.mul_nonneg (by omega) hr
    have h4 : aft x r h * r ≤ aft x r h * 999 := Int.mul_le_mul_of_nonneg_left hr' (by omega)
    omega
theorem wsh_mono {r x z : Int} (hr : 0 ≤ r ∧ r ≤ 1000) (h : x ≤ z) : wsh r x ≤ wsh r z := by
  unfold wsh
  obtain ⟨d, rfl⟩ : ∃ d, z = x + d := ⟨z - x, by omega⟩
  have h1 : (x + d) * r = x * r + d * r := Int.add_mul ..
  have h2 : d * r ≤ d * 1000 := Int.mul_le_mul_of_nonneg_left hr.2 (by omega)
  rw [h1]
  generalize x * r = m at *
  generalize d * r = e at *
  omega
theorem wsh_le {r x : Int} (hr : 0 ≤ r) (h : 0 ≤ x) : wsh r x ≤ x := by
  unfold wsh
  have : 0 ≤ x * r := Int.mul_nonneg h hr
  omega
theorem wsh_nn {r x : Int} (hr : 0 ≤ r ∧ r ≤ 1000) (h : 0 ≤ x) : 0 ≤ wsh r x := by
  unfold wsh
  have h1 : x * r ≤ x * 1000 := Int.mul_le_mul_of_nonneg_left hr.2 h
  omega
theorem aft_wsh (x r : Int) : ∀ n : Nat, aft (wsh r x) r n = aft x r (n + 1)
  | 0 => rfl
  | n + 1 => by
    have ih := aft_wsh x r n
    show aft (wsh r x) r n - aft (wsh r x) r n * r / 1000 = aft x r (n + 1) - aft x r (n + 1) * r / 1000
    rw [ih]
theorem bef_iff {r y x : Int} (hr : 0 ≤ r ∧ r ≤ 500) (hy : 0 ≤ y) (hx : 0 ≤ x) : bef r y ≤ x ↔ y ≤ wsh r x := by
  obtain ⟨h1, h2, h3, h4⟩ := bef_spec hr hy
  constructor
  · intro h; exact Int.le_trans h1 (wsh_mono ⟨hr.1, by omega⟩ h)
  · intro h
    rcases Int.lt_or_le x (bef r y) with hlt | hge
    · exfalso
      by_cases hxy : y ≤ x
      · have := h4 x hxy hlt; omega
      · have := wsh_le hr.1 hx; omega
    · exact hge
theorem lstN_iff {r y : Int} (hr : 0 ≤ r ∧ r ≤ 500) (hy : 1 ≤ y ∧ y ≤ 600) : ∀ (n : Nat) (x : Int), 0 ≤ x → (lstN r y n ≤ x ↔ y ≤ aft x r n)
  | 0, x, _ => Iff.rfl
  | n + 1, x, hx => by
    rw [lstN, bef_iff hr (by have := (lstN_bd hr hy n).1; omega) hx, lstN_iff hr hy n (wsh r x) (wsh_nn ⟨hr.1, by omega⟩ hx), aft_wsh]
theorem aft_up {r x z : Int} (hr : 0 ≤ r ∧ r ≤ 1000) (h : x ≤ z) : ∀ n : Nat, aft x r n ≤ aft z r n
  | 0 => h
  | n + 1 => wsh_mono hr (aft_up hr h n)
abbrev pkA : ByteArray := ⟨#[97]⟩
abbrev pkE : ByteArray := ⟨#[]⟩
theorem pkA_asc : Asc pkA := by
  intro i h
  have : i = 0 := by have : pkA.size = 1 := rfl
                     omega
  subst this
  show (97 : UInt8).toNat < 128
  decide
theorem pkE_asc : Asc pkE := by intro i h; have : pkE.size = 0 := rfl; omega
theorem pk_chk {L off r : Int} {n : Nat} (h1 : 1 ≤ L ∧ L ≤ 600) (h2 : 0 ≤ off ∧ off ≤ 20) (h3 : 0 ≤ r ∧ r ≤ 100) (h4 : n ≤ 5) : thChk [⟨600, 600, r, r, 20, 20, pkA⟩] [⟨L, off, 20, n, n, pkE, pkE, pkE⟩] = 0 := by
  have e1 : onlyB pkA 1 8 97 122 [] = true := by decide +kernel
  have e2 : onlyB pkE 0 8 97 122 [63] = true := by decide +kernel
  have e3 : onlyB pkE 0 6 48 57 [63] = true := by decide +kernel
  have f1 : vTc ⟨600, 600, r, r, 20, 20, pkA⟩ = true := by
    simp only [vTc, vSpan, e1, Bool.and_eq_true, okSpan_iff, inB_iff, and_true]; omega
  have f2 : vTp ⟨L, off, 20, n, n, pkE, pkE, pkE⟩ = true := by
    simp only [vTp, vEdge, e2, e3, List.all_cons, List.all_nil, Bool.and_eq_true, okSpan_iff, inB_iff, and_true]; omega
  unfold thChk
  rw [if_neg (by simp), if_pos (by simp [f1]), if_pos (by simp [f2])]
theorem piece_plain {f r off : Int} {n : Nat} (hf : 10 ≤ f ∧ f ≤ 589) (hr : 0 ≤ r ∧ r ≤ 100) (ho : 0 ≤ off ∧ off ≤ 20) :
    ∃ L m : Int, aft f r n = L ∧ leastI ⟨L, off, 20, n, n, pkE, pkE, pkE⟩ ⟨600, 600, r, r, 20, 20, pkA⟩ = m ∧ (1 ≤ L ∧ L ≤ f) ∧ (1 ≤ m ∧ m ≤ f) ∧ (L - off ≤ aft m r n ∧ aft m r n ≤ L + off) ∧ (2 ≤ m → aft (m - 1) r n < L - off ∧ aft (m - 1) r n ≤ L + off) := by
  have h1 := aft_posN (x := f) (by omega) hr.1 (by omega) n
  have h2 := aft_bd (x := f) (by omega) hr.1 (by omega) n
  have hy : 1 ≤ max 1 (aft f r n - off) ∧ max 1 (aft f r n - off) ≤ 600 := by omega
  have hr5 : 0 ≤ r ∧ r ≤ 500 := ⟨hr.1, by omega⟩
  have hi := lstN_iff hr5 hy n
  have hb := (lstN_bd hr5 hy n).1
  have hm1 : lstN r (max 1 (aft f r n - off)) n ≤ f := (hi f (by omega)).2 (by omega)
  refine ⟨aft f r n, lstN r (max 1 (aft f r n - off)) n, rfl, rfl, ⟨h1, h2.2⟩, ⟨by omega, hm1⟩, ?_, fun h => ?_⟩
  · have a1 := (hi _ (by omega)).1 (Int.le_refl (lstN r (max 1 (aft f r n - off)) n))
    have a2 := aft_up (r := r) ⟨hr.1, by omega⟩ hm1 n
    omega
  · generalize lstN r (max 1 (aft f r n - off)) n = m at *
    have a1 : ¬ (max 1 (aft f r n - off) ≤ aft (m - 1) r n) := fun e => by have := (hi (m - 1) (by omega)).2 e; omega
    have a2 := aft_up (r := r) (x := m - 1) (z := f) ⟨hr.1, by omega⟩ (by omega) n
    have a3 := aft_posN (x := m - 1) (r := r) (by omega) hr.1 (by omega) n
    omega
theorem trk_valid {x r : Int} (hx : 1 ≤ x ∧ x ≤ 600) (hr : 0 ≤ r ∧ r ≤ 100) : (trkL x r).all vTrack = true := by
  simp only [trkL, List.all_cons, List.all_nil, Bool.and_true, Bool.and_eq_true, vTrack, vRate, vSpan, inB_iff]
  omega
end Go.Proofs.Ytgoncgbbgodliad
