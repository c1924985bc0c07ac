/- elmStolen; the cloth of TopPieceTrack. -/
import Derived.Test.YtgoncgbbgodliadNi
import Derived.Test.YtgoncgbbgodliadMe
import Derived.Test.YtgoncgbbgodliadKt
import Derived.BigQuiet
namespace Go.Proofs.Ytgoncgbbgodliad
open Go Go.RowKit Go.Shelf
attribute [local go_sem] Oper.semAt_some
attribute [local go_sem ↓] Go.wp_at_zero Go.wp_at_succ

def ztc : Array Value := #[iv 0, iv 0, iv 0, iv 0, iv 0, iv 0, .string ByteArray.empty]
theorem sinfoTc (cs : Array Value) (h : cs.size = 7) : (Try.prog.info? 44).map (·.size) = some cs.size := by rw [h]; kernel_rfl
set_option maxRecDepth 20000 in
set_option maxHeartbeats 3200000 in
theorem elmStolen_any (long rate : Int) (mk : ByteArray) (w : World) :
    Calls Try.prog 8 #[iv long, iv rate, .string mk] w fun e w' => e = .returned (.agg #[iv long, iv long, iv rate, iv rate, iv 20, iv 20, .string mk]) ∧ Below w.heap.size w w' := by
  have HSI := Lib.hid (sinfoTc #[iv long, iv long, iv rate, iv rate, iv 20, iv 20, .string mk] rfl)
  have HON : Hid (#[iv long, iv long, iv rate, iv rate, iv 20, iv 20, .string mk].all (fun v : Value => v.oneCell') = true) := by simp [Hid, Value.oneCell']
  go_enter Try.func8, Try.ntmps8
  go_wp2_with fail
  refine (elmSpan_any long long _).mono ?_
  rintro e w1 ⟨rfl, hb1⟩
  have hr1 := (hb1.block w.heap.size (by simp)).trans (heap_new w ztc 44)
  have HB1 := Lib.hid (show Below w.heap.size w w1 from bstep (by repeat (first | exact Below.refl _ _ | refine Below.drew ?_ | refine bpush ?_ _ | refine bput ?_ (by simp) _ | (refine bstep ?_ (by assumption)))) hb1)
  clear hb1
  go_wp2_with fail
  refine (elmSpan_any rate rate _).mono ?_
  rintro e w2 ⟨rfl, hb1⟩
  have hr2 := (hb1.block w.heap.size (Array.getElem?_eq_some_iff.1 hr1).1).trans hr1
  have HB2 := Lib.hid (bstep HB1.out hb1)
  clear hb1 hr1
  go_wp2_with fail
  refine (elmSpan_any 20 20 _).mono ?_
  rintro e w3 ⟨rfl, hb1⟩
  have hr3 := Lib.hid ((hb1.block w.heap.size (Array.getElem?_eq_some_iff.1 hr2).1).trans hr2)
  have HB3 := Lib.hid (bstep HB2.out hb1)
  clear hb1 hr2
  go_wp2_with (with_reducible change wpList _ _ _ (Oper.mk _ (Op.store 44 _ _) _ _ _ _ :: _) _ _; refine L_skip rfl (run_store_row 44 _ _ rfl _ rfl #[iv long, iv long, iv rate, iv rate, iv 20, iv 20, .string mk] rfl 44 ztc hr3.out HSI.out rfl HON.out) ?_)
  exact bodyPost_ret (results_cell_row (fn := Try.f8) Try.results8 _ _ w.heap.size 44 #[iv long, iv long, iv rate, iv rate, iv 20, iv 20, .string mk] (0, 0) _ rfl (heap_setRow_same hr3.out) Try.underlying44 rfl HSI.out) rfl ⟨rfl, bsetRow HB3.out (Nat.le_refl _) _⟩

theorem kfrozenN {W W1 : World} {b o : Nat} {v : Value} (hb : Below W.heap.size W W1) (h : W.cell? ⟨b, o, none⟩ = some v) (hf : W.frozen? ⟨b, o, none⟩ = false) : W1.frozen? ⟨b, o, none⟩ = false := (hb.frozen (p := ⟨b, o, none⟩) (lt_of_cell h)).trans hf
def trkL (x r : Int) : List Tk := [⟨x, x, r, r⟩, ⟨9, 9, 0, 0⟩, ⟨9, 9, 0, 0⟩]
theorem krowN {W W1 : World} {g : Nat} {o : Obj} (hb : Below W.heap.size W W1) (h : W.heap[g]? = some o) : W1.heap[g]? = some o := (hb.block g (Array.getElem?_eq_some_iff.1 h).1).trans h
theorem trk_done {w W : World} (x r : Int) (h7 : W.heap[w.heap.size]? = some (.cells #[.slice none 0 0, .slice none 0 0] 27 (0, 0))) (hB : Below w.heap.size w W) :
    (((W.setCell ⟨w.heap.size, 0, none⟩ (.slice (some ⟨W.heap.size, 0, none⟩) 3 3)).setCell ⟨w.heap.size, 1, none⟩ (.slice none 0 0)).alloc (.cells #[iv x, iv x, iv r, iv r, iv 9, iv 9, .int .i64 0, .int .i64 0, iv 9, iv 9, .int .i64 0, .int .i64 0] 32)).heap[w.heap.size]? = some (.cells #[.slice (some ⟨W.heap.size, 0, none⟩) 3 3, .slice none 0 0] 27 (0, 0)) ∧
    SliceOf encT 4 (((W.setCell ⟨w.heap.size, 0, none⟩ (.slice (some ⟨W.heap.size, 0, none⟩) 3 3)).setCell ⟨w.heap.size, 1, none⟩ (.slice none 0 0)).alloc (.cells #[iv x, iv x, iv r, iv r, iv 9, iv 9, .int .i64 0, .int .i64 0, iv 9, iv 9, .int .i64 0, .int .i64 0] 32)) (.slice (some ⟨W.heap.size, 0, none⟩) 3 3) (trkL x r) ∧
    Below w.heap.size w (((W.setCell ⟨w.heap.size, 0, none⟩ (.slice (some ⟨W.heap.size, 0, none⟩) 3 3)).setCell ⟨w.heap.size, 1, none⟩ (.slice none 0 0)).alloc (.cells #[iv x, iv x, iv r, iv r, iv 9, iv 9, .int .i64 0, .int .i64 0, iv 9, iv 9, .int .i64 0, .int .i64 0] 32)) := by
  have hlt := (Array.getElem?_eq_some_iff.1 h7).1
  have h8 := heap_setCell_same W w.heap.size 0 _ _ (.slice (some ⟨W.heap.size, 0, none⟩) 3 3) h7
  have h9 := heap_setCell_same _ w.heap.size 1 _ _ (.slice none 0 0) h8
  generalize hW2 : (W.setCell ⟨w.heap.size, 0, none⟩ (.slice (some ⟨W.heap.size, 0, none⟩) 3 3)).setCell ⟨w.heap.size, 1, none⟩ (.slice none 0 0) = W2 at *
  have hz : W2.heap.size = W.heap.size := by rw [← hW2]; simp [World.setCell]
  have hB2 : Below w.heap.size w W2 := by rw [← hW2]; exact bput (p := ⟨w.heap.size, 1, none⟩) (bput (p := ⟨w.heap.size, 0, none⟩) hB (Nat.le_refl _) _) (Nat.le_refl _) _
  refine ⟨?_, ?_, bpush hB2 _⟩
  · rw [Below.heap_alloc _ _ _ (by rw [hz]; exact hlt)]
    simpa using h9
  · have := heap_new W2 #[iv x, iv x, iv r, iv r, iv 9, iv 9, .int .i64 0, .int .i64 0, iv 9, iv 9, .int .i64 0, .int .i64 0] 32
    rw [hz] at this
    exact tracks3 (a := ⟨x, x, r, r⟩) (b := ⟨9, 9, 0, 0⟩) (c := ⟨9, 9, 0, 0⟩) this
set_option maxRecDepth 20000 in
set_option maxHeartbeats 12800000 in
theorem track_any (x r : Int) (br : Nat) (w : World) (hr : w.cell? ⟨br, 0, none⟩ = some (iv r)) :
    Calls Try.prog 4 #[iv x, .pointer (some ⟨br, 0, none⟩)] w fun e w' => ∃ g, e = .returned (.agg #[.slice (some ⟨g, 0, none⟩) 3 3, .slice none 0 0]) ∧ SliceOf encT 4 w' (.slice (some ⟨g, 0, none⟩) 3 3) (trkL x r) ∧ Below w.heap.size w w' := by
  have HSI : Hid (∀ g, (Try.prog.info? 27).map (·.size) = some (#[Value.slice (some ⟨g, 0, none⟩) 3 3, .slice none 0 0] : Array Value).size) := fun g => by kernel_rfl
  obtain ⟨w0, hw0⟩ : ∃ W : World, w.alloc (.cells #[.slice none 0 0, .slice none 0 0] 27) = W := ⟨_, rfl⟩
  have HB0 : Hid (Below w.heap.size w w0) := by rw [← hw0]; exact bpush (Below.refl _ _) _
  have hrow : w0.heap[w.heap.size]? = some (.cells #[.slice none 0 0, .slice none 0 0] 27 (0, 0)) := by rw [← hw0]; exact heap_new _ _ _
  have c0 := kcellN HB0.out hr
  have hbr : br < w.heap.size := lt_of_cell hr
  have z0 : w0.cell? ⟨w.heap.size, 0, none⟩ = some (.slice none 0 0) := by rw [cell_of_row _ _ _ _ _ _ hrow]; rfl
  have z1 : w0.cell? ⟨w.heap.size, 1, none⟩ = some (.slice none 0 0) := by rw [cell_of_row _ _ _ _ _ _ hrow]; rfl
  have y0 : w0.frozen? ⟨w.heap.size, 0, none⟩ = false := frozen_of_row _ _ _ _ _ hrow
  have y1 : w0.frozen? ⟨w.heap.size, 1, none⟩ = false := frozen_of_row _ _ _ _ _ hrow
  have hbb := HB0.out
  have hbd : Below w.heap.size w w0.drew := hbb.drew
  have hrow2 : w0.drew.heap[w.heap.size]? = some (.cells #[.slice none 0 0, .slice none 0 0] 27 (0, 0)) := hrow
  clear hr
  go_enter Try.func4, Try.ntmps4
  go_wp2_with fail
  clear hw0
  go_region_law (first | (go_simp; go_at_call 5; refine (elmSpan_any _ _ _).mono ?_; rintro e w1' ⟨rfl, hb1⟩; have n0 : w1'.cell? ⟨br, 0, none⟩ = some (iv r) := kcellN hb1 (by assumption); have n1 : w1'.cell? ⟨w.heap.size, 0, none⟩ = some (.slice none 0 0) := kcellN hb1 (by assumption); have n2 : w1'.cell? ⟨w.heap.size, 1, none⟩ = some (.slice none 0 0) := kcellN hb1 (by assumption); have n3 : w1'.frozen? ⟨w.heap.size, 0, none⟩ = false := kfrozenN (v := .slice none 0 0) hb1 (by assumption) (by assumption); have n4 : w1'.frozen? ⟨w.heap.size, 1, none⟩ = false := kfrozenN (v := .slice none 0 0) hb1 (by assumption) (by assumption); have n5 : w.heap.size < w1'.heap.size := lt_of_cell n1; have n6 : Below w.heap.size w w1' := bstep (by assumption) hb1; have n7 : w1'.heap[w.heap.size]? = some (.cells #[.slice none 0 0, .slice none 0 0] 27 (0, 0)) := krowN hb1 (by assumption); clear hb1))
  all_goals
    obtain ⟨r1, r2, r3⟩ := trk_done x r n7 n6
    clear n0 n1 n2 n3 n4
    go_wp2_with fail
    exact bodyPost_ret (results_cell_row (fn := Try.f4) Try.results4 _ _ w.heap.size 27 #[.slice (some ⟨w1'.heap.size, 0, none⟩) 3 3, .slice none 0 0] (0, 0) _ rfl r1 Try.underlying27 rfl (HSI.out _)) rfl ⟨_, rfl, r2, r3⟩
end Go.Proofs.Ytgoncgbbgodliad
