/- truth.fits of package cloth. -/
import Derived.Test.YtfpbfhjfhfmanabTru
import Derived.Deep.RegionHeld3
import Derived.IntWalk
namespace Go.Proofs.Ytfpbfhjfhfmanab
open Go Go.RowKit

def fitsM (x r : Int) (m : Ms) : Bool := inB (-m.off) m.off (aft x r m.hour.toNat - m.reading)

set_option maxRecDepth 20000 in
set_option maxHeartbeats 1600000 in
theorem fits_any (x r : Int) (m : Ms) (w : World) (hx : 0 ≤ x) (hx' : x ≤ 100000) (hr : 0 ≤ r) (hr' : r ≤ 1000) (hm : vMeas m = true) :
    Calls Try.prog 47 #[tval x r, .agg (encM m).toArray] w fun e w' => e = .returned (.bool (fitsM x r m)) ∧ Below w.heap.size w w' := by
  obtain ⟨a, b, c, d⟩ := m
  simp only [vMeas, inB, Bool.and_eq_true, decide_eq_true_eq] at hm
  obtain ⟨⟨h1, h2⟩, ⟨h3, h4⟩, ⟨h5, h6⟩, h7, h8⟩ := hm
  obtain ⟨n, rfl⟩ := Int.eq_ofNat_of_zero_le h3
  obtain ⟨hs0, hs1⟩ := aft_bd (x := x) hx hr hr' n
  have hh : (tvals x r)[1 + n]? = some (iv (aft x r n)) := tvals_hour x r n (by omega)
  simp only [encM]
  go_enter Try.func47, Try.ntmps47
  go_wp2_with fail
  have k1 : ((w.alloc (.cells (tvals x r) 62)).alloc (.cells #[iv a, iv n, iv c, iv d] 89)).cell? ⟨w.heap.size, 1 + n, none⟩ = some (iv (aft x r n)) := by go_simp
  have k2 : ((w.alloc (.cells (tvals x r) 62)).alloc (.cells #[iv a, iv n, iv c, iv d] 89)).cell? ⟨w.heap.size + 1, 1, none⟩ = some (iv n) := by go_simp
  have k3 : ((w.alloc (.cells (tvals x r) 62)).alloc (.cells #[iv a, iv n, iv c, iv d] 89)).cell? ⟨w.heap.size + 1, 2, none⟩ = some (iv c) := by go_simp
  have k4 : ((w.alloc (.cells (tvals x r) 62)).alloc (.cells #[iv a, iv n, iv c, iv d] 89)).cell? ⟨w.heap.size + 1, 3, none⟩ = some (iv d) := by go_simp
  have hB : Below w.heap.size w ((w.alloc (.cells (tvals x r) 62)).alloc (.cells #[iv a, iv n, iv c, iv d] 89)) := (by repeat (first | exact Below.refl _ _ | refine Below.drew ?_ | refine bpush ?_ _ | refine bput ?_ (by simp) _ | (refine bstep ?_ (by assumption))))
  have hz : w.heap.size + 1 < ((w.alloc (.cells (tvals x r) 62)).alloc (.cells #[iv a, iv n, iv c, iv d] 89)).heap.size := by simp
  generalize ((w.alloc (.cells (tvals x r) 62)).alloc (.cells #[iv a, iv n, iv c, iv d] 89)) = W at *
  clear hh
  have i1 : (n : Int) < 49 := by omega
  have i2 : IntKind.i64.wrap (aft x r n - c) = aft x r n - c := IntWalk.i64_in _ (by omega)
  have i3 : IntKind.i64.wrap (-d) = -d := IntWalk.i64_in _ (by omega)
  clear h1 h2 h4 h5 h6 h7 h8 hs0 hs1 hx hx' hr hr'
  go_region_held3 (fun w' => w'.cell? ⟨w.heap.size, 1 + n, none⟩ = some (iv (aft x r n)) ∧ w'.cell? ⟨w.heap.size + 1, 1, none⟩ = some (iv n) ∧ w'.cell? ⟨w.heap.size + 1, 2, none⟩ = some (iv c) ∧ w'.cell? ⟨w.heap.size + 1, 3, none⟩ = some (iv d)) (first | go_keep) ((go_at_call 12; refine (within1 (-d) d (aft x r n - c) ?_).mono ?_; go_simp; rintro e w_ ⟨rfl, rfl⟩))
  go_wp2
  go_ret
  exact ⟨rfl, (bpush hB _).drew⟩
end Go.Proofs.Ytfpbfhjfhfmanab
