/- stock.Fit of a valid cloth without measurings. -/
import Derived.Test.YteoejhldmeompaaKv
namespace Go.Proofs.Yteoejhldmeompaa
open Go Go.RowKit Go.Shelf

theorem SeqL.mapK {α β : Type} {P : Program} {gf : Nat} {lb : Array Value} {enc : β → Array Value} {S : Nat → Prop} {xs : List α} {w : World} (f : α → β) (h : SeqL P gf lb (fun a => enc (f a)) S xs w) : SeqL P gf lb enc S (xs.map f) w := by
  intro n l J Jx W hW hJ hJx hY h0
  refine h n l (fun T pre W => J T (pre.map f) W) Jx W hW (fun s => hJ _) hJx (fun T pre x W1 hT hpre hj hs hl => ?_) h0
  have hp : pre.map f ++ [f x] <+: xs.map f := by
    have := hpre.map f
    simpa using this
  have := hY T (pre.map f) (f x) W1 hT hp hj hs hl
  simpa using this
/-- The hours at which a cloth possibly is fit. -/
def mayL (P : List Sp) (c : Fe) : List Nat := (List.range 37).filter (mayB P c)
/-- The hours at which one chance is fit, as a sequence. -/
theorem may_seq (P : List Sp) (c : Fe) (pa ma : Option Addr) (pc mc bf : Nat) (v : Value) (w w1 : World) (hok : okFe P c = true) (hI : ChIn P c pa ma pc mc bf v w) (hw : (w.alloc (.cells #[iv 0] 3)).alloc (.cells #[.func (.func 26) #[v] #[]] 51) = w1) :
    SeqL Try.prog 39 #[.pointer (some ⟨w.heap.size, 0, none⟩), .pointer (some ⟨w.heap.size + 1, 0, none⟩)] (fun (h : Nat) => #[iv h]) (fun k => k < w1.heap.size) (mayL P c) w1 := by
  have hB : Below w.heap.size w w1 := by rw [← hw]; exact bpush (bpush (Below.refl _ _) _) _
  have hz : w1.heap.size = w.heap.size + 2 := by rw [← hw]; simp
  have hr0 : w1.heap[w.heap.size]? = some (.cells #[iv 0] 3 (0, 0)) := by rw [← hw, Below.heap_alloc _ _ _ (by simp)]; exact heap_new _ _ _
  have hr1 : w1.heap[w.heap.size + 1]? = some (.cells #[.func (.func 26) #[v] #[]] 51 (0, 0)) := by
    rw [← hw]
    have := heap_new (w.alloc (.cells #[iv 0] 3)) #[.func (.func 26) #[v] #[]] 51
    rwa [World.size_alloc] at this
  exact when_seq (mayB P c) (fun k => k < w1.heap.size) w.heap.size (w.heap.size + 1) 26 v w1 (fun k hk => hk) (enters_of Try.func26 (by kernel_rfl) rfl)
    (fun W hW => ⟨by rw [cell_of_row _ _ _ _ _ _ ((hW.block w.heap.size (show w.heap.size < w1.heap.size by omega)).trans hr0)]; rfl, by rw [cell_of_row _ _ _ _ _ _ ((hW.block (w.heap.size + 1) (show w.heap.size + 1 < w1.heap.size by omega)).trans hr1)]; rfl⟩)
    (fun W hW h hh => chCan_any P c pa ma pc mc bf v h W hok hh (hI.heapEq (fun k hk => (hW.block k (show k < w1.heap.size by omega)).trans (hB.block k hk))))
def hoursI (l : List Nat) : List Int := l.map fun h : Nat => (h : Int)
set_option maxRecDepth 20000 in
set_option maxHeartbeats 3200000 in
theorem Fit_good (P : List Sp) (c : Fe) (pa ma : Option Addr) (pc mc : Nat) (w : World) (hs : SliceOf encS 2 w (.slice pa P.length pc) P) (hok : okFe P c = true) :
    Calls Try.prog 8 #[.agg (stcells c (.slice pa P.length pc) (.slice ma 0 mc)).toArray] w fun e w' => ∃ u v, e = .returned (.tuple #[u, v, iv 0]) ∧ Ints w' u (hoursI (sureL P c)) ∧ Ints w' v (hoursI (mayL P c)) ∧ Below w.heap.size w w' := by
  have HOP : Hid (∀ W, Below w.heap.size w W → Calls Try.prog 22 #[.agg (stcells c (.slice pa P.length pc) (.slice ma 0 mc)).toArray] W fun e w' => ∃ va vc bf, e = .returned (.tuple #[.slice va (gainsL c).length vc, iv 0]) ∧ ChIn P c pa ma pc mc bf (.slice va (gainsL c).length vc) w' ∧ Below W.heap.size W w') := fun W hb => kopen_good P c pa ma pc mc W (hs.below hb) hok
  have hlen : ∀ p : Nat → Bool, ((List.range 37).filter p).length ≤ 37 := fun p => by
    have := List.length_filter_le p (List.range 37)
    simpa using this
  have HC1 : Hid (∀ W w1 bf v, ChIn P c pa ma pc mc bf v W → (W.alloc (.cells #[iv 0] 3)).alloc (.cells #[.func (.func 25) #[v] #[]] 51) = w1 → Calls Try.prog 23 #[.func (.func 39) #[] #[.pointer (some ⟨W.heap.size, 0, none⟩), .pointer (some ⟨W.heap.size + 1, 0, none⟩)]] w1 fun e w' => ∃ v, e = .returned v ∧ Owns encI 1 3 w1.heap.size w' v (hoursI (sureL P c)) ∧ Below w1.heap.size w1 w') := fun W w1 bf v h hw =>
    collect_any _ _ (fun k => k < w1.heap.size) (hoursI (sureL P c)) w1 (enters_of Try.func39 (by kernel_rfl) rfl) (SeqL.mapK (enc := fun x : Int => #[iv x]) (fun h : Nat => (h : Int)) (sure_seq P c pa ma pc mc bf v W w1 hok h hw)) (fun k hk => hk) (by have := hlen (sureB P c); simp only [hoursI, List.length_map, sureL]; omega)
  have HC2 : Hid (∀ W w1 bf v, ChIn P c pa ma pc mc bf v W → (W.alloc (.cells #[iv 0] 3)).alloc (.cells #[.func (.func 26) #[v] #[]] 51) = w1 → Calls Try.prog 23 #[.func (.func 39) #[] #[.pointer (some ⟨W.heap.size, 0, none⟩), .pointer (some ⟨W.heap.size + 1, 0, none⟩)]] w1 fun e w' => ∃ v, e = .returned v ∧ Owns encI 1 3 w1.heap.size w' v (hoursI (mayL P c)) ∧ Below w1.heap.size w1 w') := fun W w1 bf v h hw =>
    collect_any _ _ (fun k => k < w1.heap.size) (hoursI (mayL P c)) w1 (enters_of Try.func39 (by kernel_rfl) rfl) (SeqL.mapK (enc := fun x : Int => #[iv x]) (fun h : Nat => (h : Int)) (may_seq P c pa ma pc mc bf v W w1 hok h hw)) (fun k hk => hk) (by have := hlen (mayB P c); simp only [hoursI, List.length_map, mayL]; omega)
  have hl1 : (hoursI (sureL P c)).length ≤ 37 := by have := hlen (sureB P c); simpa [hoursI, sureL] using this
  have hl2 : (hoursI (mayL P c)).length ≤ 37 := by have := hlen (mayB P c); simpa [hoursI, mayL] using this
  have HL := Lib.hid (And.intro hl1 hl2)
  clear hs hok hlen hl1 hl2
  obtain ⟨Wn, hWn⟩ : ∃ Wn : World, w.alloc (.cells (stcells c (.slice pa P.length pc) (.slice ma 0 mc)).toArray 35) = Wn := ⟨_, rfl⟩
  have hBw : Below w.heap.size w Wn := by rw [← hWn]; exact bpush (Below.refl _ _) _
  have hrw : Wn.heap[w.heap.size]? = some (.cells (stcells c (.slice pa P.length pc) (.slice ma 0 mc)).toArray 35 (0, 0)) := by rw [← hWn]; exact heap_new _ _ _
  have c0 : Wn.cell? ⟨w.heap.size, 0, none⟩ = some (.slice pa P.length pc) := by rw [cell_of_row _ _ _ _ _ _ hrw]; rfl
  have c1 : Wn.cell? ⟨w.heap.size, 1, none⟩ = some (iv c.sl) := by rw [cell_of_row _ _ _ _ _ _ hrw]; rfl
  have c2 : Wn.cell? ⟨w.heap.size, 2, none⟩ = some (iv c.sh) := by rw [cell_of_row _ _ _ _ _ _ hrw]; rfl
  have c3 : Wn.cell? ⟨w.heap.size, 3, none⟩ = some (iv c.wl) := by rw [cell_of_row _ _ _ _ _ _ hrw]; rfl
  have c4 : Wn.cell? ⟨w.heap.size, 4, none⟩ = some (iv c.wh) := by rw [cell_of_row _ _ _ _ _ _ hrw]; rfl
  have c5 : Wn.cell? ⟨w.heap.size, 5, none⟩ = some (iv c.turn) := by rw [cell_of_row _ _ _ _ _ _ hrw]; rfl
  have c6 : Wn.cell? ⟨w.heap.size, 6, none⟩ = some (iv c.start) := by rw [cell_of_row _ _ _ _ _ _ hrw]; rfl
  have c7 : Wn.cell? ⟨w.heap.size, 7, none⟩ = some (iv c.full) := by rw [cell_of_row _ _ _ _ _ _ hrw]; rfl
  have c8 : Wn.cell? ⟨w.heap.size, 8, none⟩ = some (iv c.harm) := by rw [cell_of_row _ _ _ _ _ _ hrw]; rfl
  have c9 : Wn.cell? ⟨w.heap.size, 9, none⟩ = some (.slice ma 0 mc) := by rw [cell_of_row _ _ _ _ _ _ hrw]; rfl
  have HBW := Lib.hid hBw
  simp only [stcells] at hWn HOP ⊢
  clear hBw hrw
  go_enter Try.func8, Try.ntmps8
  go_wp2_with fail
  refine (HOP.out _ HBW.out).mono ?_
  rintro e w1 ⟨va, vc, bf, rfl, hci, hb1⟩
  have HCI := Lib.hid hci; have HB1 := Lib.hid (bstep HBW.out hb1)
  clear hci hb1 c0 c1 c2 c3 c4 c5 c6 c7 c8 c9 hWn
  go_wp2_with fail
  refine (when_any _ _ _).mono ?_
  rintro e w2 ⟨rfl, hw2⟩
  have HCA := Lib.hid (HC1.out w1 w2 bf _ HCI.out hw2)
  have HB2 : Hid (Below w.heap.size w w2) := by show Below _ _ _; rw [← hw2]; exact bstep HB1.out (bpush (bpush (Below.refl _ _) _) _)
  have HCI2 : Hid (ChIn P c pa ma pc mc bf (.slice va (gainsL c).length vc) w2) := by show ChIn _ _ _ _ _ _ _ _ _; rw [← hw2]; exact HCI.out.below (bpush (bpush (Below.refl _ _) _) _)
  clear hw2
  go_wp2_with fail
  refine HCA.out.mono ?_
  rintro e w3 ⟨u, rfl, ho3, hb3⟩
  have HO3 := Lib.hid ho3; have HB3 := Lib.hid (bstep HB2.out hb3); have HCI3 := Lib.hid (HCI2.out.below hb3)
  obtain ⟨ua, uc, rfl⟩ := ho3.len
  clear ho3 hb3
  go_wp2_with fail
  refine (when_any _ _ _).mono ?_
  rintro e w4 ⟨rfl, hw4⟩
  have HCB := Lib.hid (HC2.out w3 w4 bf _ HCI3.out hw4)
  have hb4 : Below w3.heap.size w3 w4 := by rw [← hw4]; exact bpush (bpush (Below.refl _ _) _) _
  have HB4 := Lib.hid (bstep HB3.out hb4)
  have HO4 := Lib.hid (HO3.out.kept hb4)
  clear hw4 hb4
  go_wp2_with fail
  refine HCB.out.mono ?_
  rintro e w5 ⟨v, rfl, ho5, hb5⟩
  obtain ⟨ta, tc, rfl⟩ := ho5.len
  have HI5 := Lib.hid (And.intro ((Owns.slice HO4.out encI_len (by have := HL.out.1; omega)).below hb5) (Owns.slice ho5 encI_len (by have := HL.out.2; omega)))
  have HB5 := Lib.hid (bstep HB4.out hb5)
  clear ho5 hb5
  go_wp2_with fail
  exact bodyPost_ret (v := .tuple #[.slice ua (hoursI (sureL P c)).length uc, .slice ta (hoursI (mayL P c)).length tc, iv 0]) (by simp [results, Try.results8, go_sem]) rfl ⟨_, _, rfl, HI5.out.1, HI5.out.2, HB5.out⟩
end Go.Proofs.Yteoejhldmeompaa
