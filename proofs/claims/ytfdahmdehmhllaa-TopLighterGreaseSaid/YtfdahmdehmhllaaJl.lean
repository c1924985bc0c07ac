/- The cheapest mix of a valid store for a valid cloth. -/
import Derived.Test.YtfdahmdehmhllaaJk
namespace Go.Proofs.Ytfdahmdehmhllaa
open Go Go.RowKit Go.Shelf

set_option maxRecDepth 20000 in
set_option maxHeartbeats 3200000 in
theorem Cheapest_good (c : Gc) (L : List So) (sa : Option Addr) (sc : Nat) (w : World) (hc : vGc c = true) (hk : soChk L = 0) (hcap : L.length ≤ sc) (hs : SliceOf encSo 5 w (.slice sa L.length sc) L) :
    Calls Try.prog 10 #[.slice sa L.length sc, .agg (encGc c).toArray] w fun e w' => ∃ va vc, e = .returned (.tuple #[.slice va ((bestM c L (mxs L L.length)).getD []).length vc, iv (pB L (bestM c L (mxs L L.length))), iv (if (bestM c L (mxs L L.length)).isSome then 0 else 9)]) ∧
      Ints w' (.slice va ((bestM c L (mxs L L.length)).getD []).length vc) ((bestM c L (mxs L L.length)).getD []) ∧ Below w.heap.size w w' := by
  obtain ⟨k1, -, k3⟩ := soChk_zero hk
  have hL : ∀ s ∈ L, vSo s = true := fun s hs => List.all_eq_true.1 k3 s hs
  have HO : Hid (∀ W, Below w.heap.size w W → Calls Try.prog 19 #[.slice sa L.length sc, .agg (encGc c).toArray] W fun e w' => e = .returned (.tuple #[jv c (.slice sa L.length sc), iv 0]) ∧ Below W.heap.size W w') :=
    fun W hb => openJ_good c L sa sc W hc hk (hs.below hb)
  have HCH : Hid (∀ W, Below w.heap.size w W → Calls Try.prog 20 #[jv c (.slice sa L.length sc)] W fun e w' => ∃ va vc, e = .returned (.tuple #[.slice va ((bestM c L (mxs L L.length)).getD []).length vc, iv (pB L (bestM c L (mxs L L.length))), .bool (bestM c L (mxs L L.length)).isSome]) ∧
      Ints w' (.slice va ((bestM c L (mxs L L.length)).getD []).length vc) ((bestM c L (mxs L L.length)).getD []) ∧ Below W.heap.size W w') :=
    fun W hb => cheapest_any c L sa sc W hL k1 hc hcap (hs.below hb)
  clear hs hL k1 k3 hk hc hcap
  generalize bestM c L (mxs L L.length) = bb at *
  obtain ⟨wl, wh, gl, gh, be⟩ := c
  simp only [encGc, jv] at HO HCH ⊢
  obtain ⟨Wn, hWn⟩ : ∃ Wn : World, w.alloc (.cells #[iv wl, iv wh, iv gl, iv gh, iv be] 46) = Wn := ⟨_, rfl⟩
  have hBw : Below w.heap.size w Wn := by rw [← hWn]; exact bpush (Below.refl _ _) _
  have c0 : Wn.cell? ⟨w.heap.size, 0, none⟩ = some (iv wl) := by subst hWn; go_simp
  have c1 : Wn.cell? ⟨w.heap.size, 1, none⟩ = some (iv wh) := by subst hWn; go_simp
  have c2 : Wn.cell? ⟨w.heap.size, 2, none⟩ = some (iv gl) := by subst hWn; go_simp
  have c3 : Wn.cell? ⟨w.heap.size, 3, none⟩ = some (iv gh) := by subst hWn; go_simp
  have c4 : Wn.cell? ⟨w.heap.size, 4, none⟩ = some (iv be) := by subst hWn; go_simp
  go_enter Try.func10, Try.ntmps10
  go_wp2_with fail
  refine (HO.out _ hBw).mono ?_
  rintro e w1 ⟨rfl, hb1⟩
  have hB1 := bstep hBw hb1
  clear hb1 hWn hBw c0 c1 c2 c3 c4
  have HB1 := Lib.hid hB1; clear hB1
  go_wp2_with fail
  refine (HCH.out _ ?_).mono ?_
  · exact bpush HB1.out _
  rintro e w2 ⟨va, vc, rfl, hi2, hb2⟩
  have hbf : Below w.heap.size w w2 := bstep (bpush HB1.out _) hb2
  have HI := Lib.hid hi2; have HBF := Lib.hid hbf
  clear hi2 hb2 hbf
  cases bb with
  | none =>
    simp only [Option.isSome_none, pB, Option.getD_none, List.length_nil] at HI ⊢
    go_wp2_with fail
    exact bodyPost_ret (v := .tuple #[.slice none 0 0, iv 0, iv 9]) (by simp [results, Try.results10, go_sem]) rfl ⟨none, 0, rfl, SliceOf.nil _ _ _ _ _, HBF.out⟩
  | some B =>
    simp only [Option.isSome_some, pB, Option.getD_some] at HI ⊢
    go_wp2_with fail
    exact bodyPost_ret (v := .tuple #[.slice va B.length vc, iv (costM L B), iv 0]) (by simp [results, Try.results10, go_sem]) rfl ⟨va, vc, rfl, HI.out, HBF.out⟩
end Go.Proofs.Ytfdahmdehmhllaa
