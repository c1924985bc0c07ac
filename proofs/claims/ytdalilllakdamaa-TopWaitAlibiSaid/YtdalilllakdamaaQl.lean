/- Turns: the queue of all cloths. -/
import Derived.Test.YtdalilllakdamaaQk
namespace Go.Proofs.Ytdalilllakdamaa
open Go Go.RowKit Go.Shelf
attribute [local go_sem] Oper.semAt_some
attribute [local go_sem ↓] Go.wp_at_zero Go.wp_at_succ

theorem ints_row {w : World} {g : Nat} {t : TypeId} {f : List Int} {n c : Nat} (h : w.heap[g]? = some (.cells (rowI f) t (0, 0))) (hn : n = f.length) (hl : f.length ≤ 1000000) : Ints w (.slice (some ⟨g, 0, none⟩) n c) f := by
  subst hn
  refine ⟨_, c, rfl, by omega, fun i x hx => ⟨g, 0, rfl, fun j u hu => ?_⟩⟩
  have hi := (List.getElem?_eq_some_iff.1 hx).1
  rcases j with _ | j
  · simp [encI] at hu; subst hu
    have := cell_rowI h hi
    rw [List.getD_eq_getElem?_getD, hx] at this
    simpa using this
  · simp [encI] at hu

set_option maxRecDepth 20000 in
set_option maxHeartbeats 6400000 in
theorem all_any (C : List Ct) (R : List Int) (ca : Option Addr) (ra rb cc rc : Nat) (k : Int) (w : World) (hC : SliceOf encC 4 w (.slice ca C.length cc) C) (hR : Ints w (.slice (some ⟨ra, rb, none⟩) R.length rc) R)
    (hlC : C.length ≤ 1000) (hW : WeOk C R) :
    Calls Try.prog 20 #[.agg #[.slice ca C.length cc, .slice (some ⟨ra, rb, none⟩) R.length rc], iv k] w (LineRes C R (List.range C.length) (.slice ca C.length cc) (.slice (some ⟨ra, rb, none⟩) R.length rc) k w) := by
  have HC := Lib.hid hC; have HR := Lib.hid hR
  have HLN : Hid (∀ (W w1 : World) (ad : Nat), Below w.heap.size w W → Below W.heap.size W w1 → w1.heap[ad]? = some (.cells (rowI (natsTo C.length)) 3 (0, 0)) → Calls Try.prog 33 #[.agg #[.slice ca C.length cc, .slice (some ⟨ra, rb, none⟩) R.length rc], iv k, .slice (some ⟨ad, 0, none⟩) C.length C.length] w1 (LineRes C R (List.range C.length) (.slice ca C.length cc) (.slice (some ⟨ra, rb, none⟩) R.length rc) k w1)) := by
    intro W w1 ad hB hb hr
    have hb2 := bstep hB hb
    have := line_any C R (List.range C.length) ca ⟨ad, 0, none⟩ ra rb cc rc C.length k w1 (hC.below hb2) (hR.below hb2) (ints_row hr (by simp [ordI]) (by simp [ordI]; omega)) (fun x hx => List.mem_range.1 hx) (by simp; omega) (by omega) hW
    rwa [List.length_range] at this
  clear hC hR hW
  obtain ⟨Wa, hWa⟩ : ∃ Wa : World, (w.alloc (.cells #[.slice ca C.length cc, .slice (some ⟨ra, rb, none⟩) R.length rc] 27)).alloc (.cells #[.slice none 0 0, .slice none 0 0, .int .i64 0, .slice none 0 0] 48) = Wa := ⟨_, rfl⟩
  have hBa : Below w.heap.size w Wa := by rw [← hWa]; exact (by repeat (first | exact Below.refl _ _ | refine Below.drew ?_ | refine bpush ?_ _ | refine bput ?_ (by simp) _ | (refine bstep ?_ (by assumption))))
  have hza : Wa.heap.size = w.heap.size + 2 := by rw [← hWa]; simp
  have d0 : Wa.cell? ⟨w.heap.size, 0, none⟩ = some (.slice ca C.length cc) := by subst hWa; go_simp
  have d1 : Wa.cell? ⟨w.heap.size, 1, none⟩ = some (.slice (some ⟨ra, rb, none⟩) R.length rc) := by subst hWa; go_simp
  have q0 : Wa.cell? ⟨w.heap.size + 1, 0, none⟩ = some (.slice none 0 0) := by subst hWa; go_simp
  have q1 : Wa.cell? ⟨w.heap.size + 1, 1, none⟩ = some (.slice none 0 0) := by subst hWa; go_simp
  have q2 : Wa.cell? ⟨w.heap.size + 1, 2, none⟩ = some (iv 0) := by subst hWa; go_simp
  have q3 : Wa.cell? ⟨w.heap.size + 1, 3, none⟩ = some (.slice none 0 0) := by subst hWa; go_simp
  have f0 : Wa.frozen? ⟨w.heap.size + 1, 0, none⟩ = false := by subst hWa; go_simp
  have f1 : Wa.frozen? ⟨w.heap.size + 1, 1, none⟩ = false := by subst hWa; go_simp
  have f2 : Wa.frozen? ⟨w.heap.size + 1, 2, none⟩ = false := by subst hWa; go_simp
  have f3 : Wa.frozen? ⟨w.heap.size + 1, 3, none⟩ = false := by subst hWa; go_simp
  have HBa := Lib.hid hBa; have HZa := Lib.hid hza
  clear hza
  go_enter Try.func20, Try.ntmps20
  go_wp2_with fail
  clear hWa
  have HNM := Lib.hid (fun W : World => numbers_any C.length W (by omega))
  have HBW := Lib.hid (show Below w.heap.size w Wa.drew from hBa.drew)
  go_region_with (first | ((with_reducible refine (HNM.out _).mono ?_); rintro e w1 ⟨rfl, hr1, hb1⟩; have hq1 := Lib.hid hb1; have hr1' := Lib.hid (show w1.heap[Wa.heap.size]? = some (.cells (rowI (natsTo C.length)) 3 (0, 0)) from hr1); have hb1' := below_undrew hb1; have d0' := kcellQ hb1' d0; have d1' := kcellQ hb1' d1) | ((with_reducible refine (HLN.out Wa.drew w1 Wa.heap.size HBW.out hq1.out hr1'.out).mono ?_); rintro e w2 ⟨o, g, oc, rfl, hord, ho2, hb2⟩; have hb12 := bstep hb1' hb2; have q0' := kcellQ hb12 q0; have q1' := kcellQ hb12 q1; have q2' := kcellQ hb12 q2; have q3' := kcellQ hb12 q3; have f0' := kfrozenQ hb12 q0 f0; have f1' := kfrozenQ hb12 q1 f1; have f2' := kfrozenQ hb12 q2 f2; have f3' := kfrozenQ hb12 q3 f3))
  all_goals
    have HO2 := Lib.hid ho2; have HORD := Lib.hid hord
    have HB2 := Lib.hid (bstep HBa.out hb12)
    have HZ1 : Hid (w.heap.size + 1 < w1.heap.size) := by have := hb1'.size; have := HZa.out; unfold Hid; omega
    clear hr1 hb1 hq1 hr1' hb1' d0' d1' d0 d1 q0 q1 q2 q3 f0 f1 f2 f3 hb2 hb12 ho2 hord
    go_wp2_with fail
    refine bodyPost_ret (v := qv (.slice ca C.length cc) (.slice (some ⟨ra, rb, none⟩) R.length rc) k (.slice (some ⟨g, 0, none⟩) o.length oc)) (by simp [results, Try.results20, go_sem, q0', q1', q2', q3']) rfl ?_
    refine ⟨o, g, oc, rfl, HORD.out, ?_, bput (bput (bput (bput HB2.out (by simp) _) (by simp) _) (by simp) _) (by simp) _⟩
    have hz1 := HZ1.out
    have ho := owns_set (owns_set (owns_set (owns_set HO2.out (g := w.heap.size + 1) (by omega) 0 (.slice ca C.length cc)) (g := w.heap.size + 1) (by omega) 1 (.slice (some ⟨ra, rb, none⟩) R.length rc)) (g := w.heap.size + 1) (by omega) 2 (.int .i64 k)) (g := w.heap.size + 1) (by omega) 3 (.slice (some ⟨g, 0, none⟩) o.length oc)
    exact owns_low ho (by omega)
end Go.Proofs.Ytdalilllakdamaa
