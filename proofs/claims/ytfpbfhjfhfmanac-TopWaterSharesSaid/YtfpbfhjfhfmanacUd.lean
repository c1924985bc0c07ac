/- Values, Blows of package stream; copies of numbers. -/
import Derived.Test.YtfpbfhjfhfmanacUc
namespace Go.Proofs.Ytfpbfhjfhfmanac
open Go Go.RowKit Go.Shelf
set_option maxRecDepth 20000 in
set_option maxHeartbeats 1600000 in
theorem firInts_any (L : List Int) (ad : Addr) (c : Nat) (w : World) (hl : L.length ≤ 1000000) (hf : Ints w (.slice (some ad) L.length c) L) :
    Calls Try.prog 7 #[.slice (some ad) L.length c] w fun e w' => ∃ v, e = .returned v ∧ Owns encI 1 3 w.heap.size w' v L ∧ Below w.heap.size w w' := by
  obtain ⟨i0, hi, hz0, hz1, hz2⟩ := info_parts info3
  have HI := Lib.hid hi; have HZ0 := Lib.hid hz0; have HZ1 := Lib.hid hz1; have HZ2 := Lib.hid hz2
  have HF := Lib.hid (SliceOf.below hf (bpush (Below.refl _ _) (.cells #[] 3)))
  have HB2 : Hid (([] : List Int).length + L.length ≤ maxLen ∧ (([] : List Int).length + L.length) * 8 ≤ 140737488355328) := by simp only [Hid, List.length_nil]; unfold maxLen; omega
  have HB3 : Hid (w.heap.size ≤ (w.alloc (.cells #[] 3)).heap.size) := by simp [Hid]
  clear hi hz0 hz1 hz2 hf
  go_enter Try.func7, Try.ntmps7
  go_wp2_with (at_builtin; refine L_appendS L rfl _ _ 29 rfl Try.underlying29 HI.out HZ0.out HZ1.out HZ2.out rfl Nat.one_pos encI_len encI_one rfl rfl (owns_empty encI 1 3 w.heap.size w (Nat.le_refl _)) HF.out HB2.out HB3.out ?_; intro v' w1 hown hbe hg)
  have HO := Lib.hid hown; have HBE := Lib.hid (bpush (Below.refl w.heap.size w) (.cells #[] 3) |>.trans hbe)
  clear hown hbe hg
  go_ret
  exact ⟨_, rfl, HO.out, HBE.out⟩

end Go.Proofs.Ytfpbfhjfhfmanac
