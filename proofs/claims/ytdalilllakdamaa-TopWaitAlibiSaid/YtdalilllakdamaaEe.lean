/- The example of the chapter of turns, in the elm laws, is so (beside the thefts' texts). -/
import Derived.Test.YtdalilllakdamaaQv
import Derived.Test.YtdalilllakdamaaNe
namespace Go.Proofs.Ytdalilllakdamaa
open Go Go.RowKit Go.Shelf
attribute [local go_sem] Oper.semAt_some

theorem slice_row {α : Type} {enc : α → List Value} {sz : Nat} (he : ∀ x, (enc x).length = sz) {w : World} {g c n : Nat} {t : TypeId} {xs : List α} (h : w.heap[g]? = some (.cells (xs.flatMap enc).toArray t (0, 0))) (hn : n = xs.length) (hl : xs.length ≤ 1000000) : SliceOf enc sz w (.slice (some ⟨g, 0, none⟩) n c) xs := by
  subst hn
  refine ⟨_, c, rfl, by omega, fun i x hx => ⟨g, 0, rfl, fun j u hu => ?_⟩⟩
  rw [cell_of_row _ _ _ _ _ _ h, Nat.zero_add, List.getElem?_toArray]
  exact flatMap_get he xs i x hx j u hu

set_option maxRecDepth 20000 in
set_option maxHeartbeats 6400000 in
theorem elmTurns_any (w : World) : Calls Try.prog 8 #[] w fun e w' => e = .returned (.bool true) ∧ Below w.heap.size w w' := by
  have HO := Lib.hid (fun (W : World) (g h : Nat) (hC : SliceOf encC 4 W (.slice (some ⟨g, 0, none⟩) 4 4) k4C) (hR : Ints W (.slice (some ⟨h, 0, none⟩) 2 2) k4R) => Order_good k4C k4R (some ⟨g, 0, none⟩) h 0 4 2 W hC hR k4Chk)
  go_enter Try.func8, Try.ntmps8
  go_wp2_with fail
  refine (elmSpan_any 4 6 _).mono ?_
  rintro e w1 ⟨rfl, hb1⟩
  have HB1 := Lib.hid (show Below w.heap.size w w1 from bstep (by repeat (first | exact Below.refl _ _ | refine Below.drew ?_ | refine bpush ?_ _ | refine bput ?_ (by simp) _ | (refine bstep ?_ (by assumption)))) hb1)
  have HR1 := Lib.hid ((hb1.block w.heap.size (by simp)).trans (heap_new w #[.int .i64 1, .int .i64 0] 3))
  clear hb1
  go_wp2_with fail
  refine (elmSpan_any 3 3 _).mono ?_
  rintro e w2 ⟨rfl, hb2⟩
  have HR2 := Lib.hid ((hb2.block w.heap.size (Array.getElem?_eq_some_iff.1 HR1.out).1).trans HR1.out)
  have HB2 := Lib.hid (bstep HB1.out hb2)
  clear hb2
  go_wp2_with fail
  refine (elmSpan_any 5 8 _).mono ?_
  rintro e w3 ⟨rfl, hb3⟩
  have HR3 := Lib.hid ((hb3.block w.heap.size (Array.getElem?_eq_some_iff.1 HR2.out).1).trans HR2.out)
  have HB3 := Lib.hid (bstep HB2.out hb3)
  clear hb3
  go_wp2_with fail
  refine (elmSpan_any 2 4 _).mono ?_
  rintro e w4 ⟨rfl, hb4⟩
  have HR4 := Lib.hid ((hb4.block w.heap.size (Array.getElem?_eq_some_iff.1 HR3.out).1).trans HR3.out)
  have HB4 := Lib.hid (bstep HB3.out hb4)
  clear hb4
  go_wp2_with fail
  have hz4 := (Array.getElem?_eq_some_iff.1 HR4.out).1
  refine (HO.out _ w4.heap.size w.heap.size (slice_row (enc := encC) (xs := k4C) (fun _ => rfl) (heap_new _ _ _) rfl (by decide)) (slice_row (enc := encI) (xs := k4R) (fun _ => rfl) ((Below.heap_alloc _ _ _ hz4).trans HR4.out) rfl (by decide))).mono ?_
  rintro e w5 ⟨o, g, oc, rfl, hord, ho5, hb5⟩
  have heq : o = [2, 0, 1, 3] := OrdC.one hord k4Ord k4Rk (day_we k4Chk) (fun x hx => List.mem_range.1 hx) List.nodup_range
  subst heq
  have HS5 := Lib.hid (Owns.slice ho5 encI_len (by decide))
  have HB5 := Lib.hid (bstep HB4.out (bstep (bpush (Below.refl _ _) _) hb5))
  clear ho5 hb5 hord hz4
  go_wp2_with fail
  refine (elmInts_any [2, 0, 1, 3] [2, 0, 1, 3] _ _ _ (HS5.out.below (bpush (Below.refl _ _) _)) (slice_row (enc := encI) (xs := [2, 0, 1, 3]) (fun _ => rfl) (heap_new _ _ _) rfl (by decide))).mono ?_
  rintro e w6 ⟨rfl, hb6⟩
  have HB6 := Lib.hid (bstep (bpush HB5.out _) hb6)
  clear hb6
  go_wp2_with fail
  go_ret
  exact ⟨rfl, HB6.out⟩
end Go.Proofs.Ytdalilllakdamaa
