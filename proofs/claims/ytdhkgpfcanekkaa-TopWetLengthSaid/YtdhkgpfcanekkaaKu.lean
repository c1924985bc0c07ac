/- A felt made of bytes, for the elm laws. -/
import Derived.Test.YtdhkgpfcanekkaaKt
import Derived.Test.YtdhkgpfcanekkaaSk
namespace Go.Proofs.Ytdhkgpfcanekkaa
open Go Go.RowKit Go.Shelf
attribute [local go_sem ↓] Go.wp_at_zero Go.wp_at_succ

set_option maxHeartbeats 1600000 in
theorem elmSpan_exact (lo hi : Int) (w : World) :
    Calls Try.prog 18 #[iv lo, iv hi] w fun e w' => e = .returned (.agg #[iv lo, iv hi]) ∧ w.alloc (.cells #[iv lo, iv hi] 36) = w' := by
  go_enter Try.func18, Try.ntmps18
  go_wp2_with fail
  exact bodyPost_ret (v := .agg #[iv lo, iv hi]) (by simp [results, Try.results18, go_sem]) rfl ⟨rfl, rfl⟩
/-- How thick a part truly is at first. -/
def efN (b : Nat → Int) (p : Nat) : Int := 5 + b (2 * p) % 40
/-- From where to where it is said to be. -/
def efP (b : Nat → Int) (p : Nat) : Sp := (efN b p - b (2 * p + 1) % 3, efN b p + b (2 * p + 1) / 16 % 3)
def efS (b : Nat → Int) : Int := 6 + b 4 % 12
def efW (b : Nat → Int) : Int := b 5 % 5
/-- The felt of twelve bytes. -/
def efFe (b : Nat → Int) : Fe := ⟨efS b - b 6 % 2, efS b + b 6 / 16 % 3, max 0 (efW b - b 7 % 2), efW b, 1 + b 8 % 12, b 9 % 2, 20 + b 10 % 160, 20 + b 10 % 160 + b 11 % 120⟩
theorem efFe_ok {b : Nat → Int} (hb : ∀ i, 0 ≤ b i ∧ b i ≤ 255) : okFe [efP b 0, efP b 1] (efFe b) = true := by
  have h0 := hb 0; have h1 := hb 1; have h2 := hb 2; have h3 := hb 3; have h4 := hb 4; have h5 := hb 5
  have h6 := hb 6; have h7 := hb 7; have h8 := hb 8; have h9 := hb 9; have h10 := hb 10; have h11 := hb 11
  have p0 : vPart (efP b 0) = true := vSpan_iff.2 (by simp only [efP, efN]; omega)
  have p1 : vPart (efP b 1) = true := vSpan_iff.2 (by simp only [efP, efN]; omega)
  have g0 : vGain ((efFe b).sl, (efFe b).sh) = true := vSpan_iff.2 (by simp only [efFe, efS]; omega)
  have g1 : vGain ((efFe b).wl, (efFe b).wh) = true := vSpan_iff.2 (by simp only [efFe, efW]; omega)
  have k0 : inB 1 12 (efFe b).turn = true := inB_iff.2 (by simp only [efFe]; omega)
  have k1 : inB 0 (((2 : Nat) : Int) - 1) (efFe b).start = true := inB_iff.2 (by simp only [efFe]; omega)
  have k2 : okSpan (efFe b).full (efFe b).harm 0 3000 = true := okSpan_iff.2 (by simp only [efFe]; omega)
  have k3 : decide ((efFe b).wh ≤ (efFe b).sl) = true := decide_eq_true (by simp only [efFe, efS, efW]; omega)
  have k4 : inB 1 3 (([efP b 0, efP b 1].length : Nat) : Int) = true := inB_iff.2 (by simp)
  unfold okFe vBeat
  rw [k4, List.all_cons, List.all_cons, p0, p1, g0, g1, k3, k0, k2]
  rw [show ([efP b 0, efP b 1].length : Nat) = 2 from rfl, k1]
  rfl
end Go.Proofs.Ytdhkgpfcanekkaa
