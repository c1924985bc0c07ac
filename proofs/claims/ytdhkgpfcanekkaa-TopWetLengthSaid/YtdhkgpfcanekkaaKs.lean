/- When a valid cloth without measurings can be taken out. -/
import Derived.Test.YtdhkgpfcanekkaaKr
namespace Go.Proofs.Ytdhkgpfcanekkaa
open Go Go.RowKit Go.Shelf

/-- The hours at which a cloth surely is fit. -/
def sureL (P : List Sp) (c : Fe) : List Nat := (List.range 37).filter (sureB P c)
theorem ChIn.heapEq {P : List Sp} {c : Fe} {pa ma : Option Addr} {pc mc bf : Nat} {v : Value} {w w' : World} (h : ChIn P c pa ma pc mc bf v w) (hb : ∀ k, k < w.heap.size → w'.heap[k]? = w.heap[k]?) : ChIn P c pa ma pc mc bf v w' :=
  ⟨(hb bf (Array.getElem?_eq_some_iff.1 h.fe).1).trans h.fe, SliceOf.heapEq h.ch hb⟩
/-- The hours at which all chances are fit, as a sequence. -/
theorem sure_seq (P : List Sp) (c : Fe) (pa ma : Option Addr) (pc mc bf : Nat) (v : Value) (w w1 : World) (hok : okFe P c = true) (hI : ChIn P c pa ma pc mc bf v w) (hw : (w.alloc (.cells #[iv 0] 3)).alloc (.cells #[.func (.func 49) #[v] #[]] 119) = w1) :
    SeqL Try.prog 65 #[.pointer (some ⟨w.heap.size, 0, none⟩), .pointer (some ⟨w.heap.size + 1, 0, none⟩)] (fun (h : Nat) => #[iv h]) (fun k => k < w1.heap.size) (sureL P c) w1 := by
  have hB : Below w.heap.size w w1 := by rw [← hw]; exact bpush (bpush (Below.refl _ _) _) _
  have hz : w1.heap.size = w.heap.size + 2 := by rw [← hw]; simp
  have hr0 : w1.heap[w.heap.size]? = some (.cells #[iv 0] 3 (0, 0)) := by rw [← hw, Below.heap_alloc _ _ _ (by simp)]; exact heap_new _ _ _
  have hr1 : w1.heap[w.heap.size + 1]? = some (.cells #[.func (.func 49) #[v] #[]] 119 (0, 0)) := by
    rw [← hw]
    have := heap_new (w.alloc (.cells #[iv 0] 3)) #[.func (.func 49) #[v] #[]] 119
    rwa [World.size_alloc] at this
  exact when_seq (sureB P c) (fun k => k < w1.heap.size) w.heap.size (w.heap.size + 1) 49 v w1 (fun k hk => hk) (enters_of Try.func49 (by kernel_rfl) rfl)
    (fun W hW => ⟨by rw [cell_of_row _ _ _ _ _ _ ((hW.block w.heap.size (show w.heap.size < w1.heap.size by omega)).trans hr0)]; rfl, by rw [cell_of_row _ _ _ _ _ _ ((hW.block (w.heap.size + 1) (show w.heap.size + 1 < w1.heap.size by omega)).trans hr1)]; rfl⟩)
    (fun W hW h hh => chFit_any P c pa ma pc mc bf v h W hok hh (hI.heapEq (fun k hk => (hW.block k (show k < w1.heap.size by omega)).trans (hB.block k hk))))
set_option maxRecDepth 20000 in
set_option maxHeartbeats 3200000 in
theorem out_any (P : List Sp) (c : Fe) (pa ma : Option Addr) (pc mc bf : Nat) (v : Value) (w : World) (hok : okFe P c = true) (hI : ChIn P c pa ma pc mc bf v w) :
    Calls Try.prog 33 #[v] w fun e w' => e = .returned (.tuple #[iv ((sureL P c).head?.getD 0 : Nat), .bool (sureL P c).head?.isSome]) ∧ Below w.heap.size w w' := by
  have HSQ := Lib.hid (fun w1 hw => sure_seq P c pa ma pc mc bf v w w1 hok hI hw)
  clear hok hI
  go_enter Try.func33, Try.ntmps33
  go_wp2_with fail
  refine (when_any _ _ _).mono ?_
  rintro e w1 ⟨rfl, hw1⟩
  have HB1 : Hid (Below w.heap.size w w1) := by show Below _ _ _; rw [← hw1]; exact bpush (bpush (Below.refl _ _) _) _
  have HFI := Lib.hid (kfirst_any 65 _ _ _ w1 (enters_of Try.func65 (by kernel_rfl) rfl) (HSQ.out w1 hw1) (fun k hk => hk))
  clear hw1
  go_wp2_with fail
  refine HFI.out.mono ?_
  rintro e w2 ⟨rfl, hb2⟩
  have HB2 := Lib.hid (bstep HB1.out hb2)
  clear hb2
  go_wp2_with fail
  go_ret2
  exact ⟨rfl, HB2.out⟩
set_option maxRecDepth 20000 in
set_option maxHeartbeats 3200000 in
theorem Out_good (P : List Sp) (c : Fe) (pa ma : Option Addr) (pc mc : Nat) (w : World) (hs : SliceOf encS 2 w (.slice pa P.length pc) P) (hok : okFe P c = true) :
    Calls Try.prog 25 #[.agg (stcells c (.slice pa P.length pc) (.slice ma 0 mc)).toArray] w fun e w' => e = .returned (.tuple #[iv ((sureL P c).head?.getD 0 : Nat), iv (if (sureL P c).head?.isSome then 0 else 7)]) ∧ Below w.heap.size w w' := by
  have HOP : Hid (∀ W, Below w.heap.size w W → Calls Try.prog 32 #[.agg (stcells c (.slice pa P.length pc) (.slice ma 0 mc)).toArray] W fun e w' => ∃ va vc bf, e = .returned (.tuple #[.slice va (gainsL c).length vc, iv 0]) ∧ ChIn P c pa ma pc mc bf (.slice va (gainsL c).length vc) w' ∧ Below W.heap.size W w') := fun W hb => kopen_good P c pa ma pc mc W (hs.below hb) hok
  have HOU : Hid (∀ W bf v, ChIn P c pa ma pc mc bf v W → Calls Try.prog 33 #[v] W fun e w' => e = .returned (.tuple #[iv ((sureL P c).head?.getD 0 : Nat), .bool (sureL P c).head?.isSome]) ∧ Below W.heap.size W w') := fun W bf v h => out_any P c pa ma pc mc bf v W hok h
  clear hs hok
  generalize (sureL P c).head? = oh at *
  obtain ⟨Wn, hWn⟩ : ∃ Wn : World, w.alloc (.cells (stcells c (.slice pa P.length pc) (.slice ma 0 mc)).toArray 83) = Wn := ⟨_, rfl⟩
  have hBw : Below w.heap.size w Wn := by rw [← hWn]; exact bpush (Below.refl _ _) _
  have hrw : Wn.heap[w.heap.size]? = some (.cells (stcells c (.slice pa P.length pc) (.slice ma 0 mc)).toArray 83 (0, 0)) := by rw [← hWn]; exact heap_new _ _ _
  have c0 : Wn.cell? ⟨w.heap.size, 0, none⟩ = some (.slice pa P.length pc) := by rw [cell_of_row _ _ _ _ _ _ hrw]; rfl
  have c1 : Wn.cell? ⟨w.heap.size, 1, none⟩ = some (iv c.sl) := by rw [cell_of_row _ _ _ _ _ _ hrw]; rfl
  have c2 : Wn.cell? ⟨w.heap.size, 2, none⟩ = some (iv c.sh) := by rw [cell_of_row _ _ _ _ _ _ hrw]; rfl
  have c3 : Wn.cell? ⟨w.heap.size, 3, none⟩ = some (iv c.wl) := by rw [cell_of_row _ _ _ _ _ _ hrw]; rfl
  have c4 : Wn.cell? ⟨w.heap.size, 4, none⟩ = some (iv c.wh) := by rw [cell_of_row _ _ _ _ _ _ hrw]; rfl
  have c5 : Wn.cell? ⟨w.heap.size, 5, none⟩ = some (iv c.turn) := by rw [cell_of_row _ _ _ _ _ _ hrw]; rfl
  have c6 : Wn.cell? ⟨w.heap.size, 6, none⟩ = some (iv c.start) := by rw [cell_of_row _ _ _ _ _ _ hrw]; rfl
  have c7 : Wn.cell? ⟨w.heap.size, 7, none⟩ = some (iv c.full) := by rw [cell_of_row _ _ _ _ _ _ hrw]; rfl
  have c8 : Wn.cell? ⟨w.heap.size, 8, none⟩ = some (iv c.harm) := by rw [cell_of_row _ _ _ _ _ _ hrw]; rfl
  have c9 : Wn.cell? ⟨w.heap.size, 9, none⟩ = some (.slice ma 0 mc) := by rw [cell_of_row _ _ _ _ _ _ hrw]; rfl
  have HBW := Lib.hid hBw
  simp only [stcells] at hWn HOP ⊢
  clear hBw hrw
  go_enter Try.func25, Try.ntmps25
  go_wp2_with fail
  refine (HOP.out _ HBW.out).mono ?_
  rintro e w1 ⟨va, vc, bf, rfl, hci, hb1⟩
  have HCI := Lib.hid hci; have HB1 := Lib.hid (bstep HBW.out hb1)
  clear hci hb1 c0 c1 c2 c3 c4 c5 c6 c7 c8 c9 hWn
  go_wp2_with fail
  refine (HOU.out _ bf _ HCI.out).mono ?_
  rintro e w2 ⟨rfl, hb2⟩
  have HB2 := Lib.hid (bstep HB1.out hb2)
  clear hb2
  cases oh with
  | none =>
    simp only [Option.isSome_none, Option.getD_none]
    go_wp2_with fail
    go_ret2
    exact ⟨rfl, HB2.out⟩
  | some h =>
    simp only [Option.isSome_some, Option.getD_some]
    go_wp2_with fail
    go_ret2
    exact ⟨rfl, HB2.out⟩
end Go.Proofs.Ytdhkgpfcanekkaa
