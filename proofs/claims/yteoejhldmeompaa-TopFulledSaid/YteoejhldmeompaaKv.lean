/- All chances of package stock: whether one of them is fit at an hour; the hours at which a cloth is fit. -/
import Derived.Test.YteoejhldmeompaaKs
import Derived.Test.YteoejhldmeompaaKm
import Derived.Test.YteoejhldmeompaaClc
namespace Go.Proofs.Yteoejhldmeompaa
open Go Go.RowKit Go.Shelf

set_option maxRecDepth 20000 in
set_option maxHeartbeats 3200000 in
theorem chIdx_any (gf : FuncId) (lb : Array Value) (bf : Nat) (pred : Chc → Bool) (xs : List Chc) (v : Value) (w : World) (eg : ∀ args w, (callFunc gf args).run Try.prog w = .ok (.enter gf args) w) (hs : SliceOf (ccells bf) 9 w v xs)
    (hg : ∀ x ∈ xs, ∀ W : World, Below w.heap.size w W → Calls Try.prog gf (#[.agg (ccells bf x).toArray] ++ lb) W fun e W' => e = .returned (.bool (pred x)) ∧ Below W.heap.size W W') :
    Calls Try.prog 67 #[v, .func (.func gf) #[] lb] w fun e w' => ∃ i : Int, e = .returned (iv i) ∧ decide (0 ≤ i) = xs.any pred ∧ Below w.heap.size w w' := by
  have HG := Lib.hid hg; clear hg
  obtain ⟨a, cap, rfl, hm, hc⟩ := hs
  simp only [ccells] at HG
  go_enter Try.func67, Try.ntmps67
  go_wp2
  go_loopw [8] (fun i wr => ∃ k : Nat, k ≤ xs.length ∧ i = iv k ∧ (xs.take k).any pred = false ∧ Below w.heap.size w wr) (fun i _ => xs.length - (intOf i).toNat)
  case atStart => exact ⟨0, Nat.zero_le _, rfl, by simp, Below.refl _ _⟩
  case round =>
    obtain ⟨k, hk, rfl, hall, hbw⟩ := hrel
    have HA := Lib.hid hall; clear hall
    by_cases hlt : k < xs.length
    · obtain ⟨x, hx⟩ := getElem?_of_lt hlt
      obtain ⟨b, off, rfl, hj⟩ := hc k x hx
      have hcell : ∀ j u, (ccells bf x)[j]? = some u → wr.cell? ⟨b, off + k * 9 + j, none⟩ = some u := fun j u hu => (hbw.cell (p := ⟨b, _, none⟩) (lt_of_cell (hj j u hu))).trans (hj j u hu)
      have hm2 := List.mem_of_getElem? hx
      have HX := Lib.hid hx; have HM := Lib.hid hm2; clear hx hj hc hm2
      have i0 : (k : Int) < (xs.length : Int) := by omega
      have i1 : (0 : Int) ≤ (k : Int) := by omega
      have e0 : wr.cell? ⟨b, off + k * 9, none⟩ = some (.pointer (some ⟨bf, 0, none⟩)) := hcell 0 _ rfl
      have e1 : wr.cell? ⟨b, off + k * 9 + 1, none⟩ = some (iv x.s) := hcell 1 _ rfl
      have e2 : wr.cell? ⟨b, off + k * 9 + 2, none⟩ = some (iv x.k) := hcell 2 _ rfl
      have e3 : wr.cell? ⟨b, off + k * 9 + 3, none⟩ = some (iv x.l0) := hcell 3 _ rfl
      have e4 : wr.cell? ⟨b, off + k * 9 + 4, none⟩ = some (iv x.h0) := hcell 4 _ rfl
      have e5 : wr.cell? ⟨b, off + k * 9 + 5, none⟩ = some (iv x.l1) := hcell 5 _ rfl
      have e6 : wr.cell? ⟨b, off + k * 9 + 6, none⟩ = some (iv x.h1) := hcell 6 _ rfl
      have e7 : wr.cell? ⟨b, off + k * 9 + 7, none⟩ = some (iv x.l2) := hcell 7 _ rfl
      have e8 : wr.cell? ⟨b, off + k * 9 + 8, none⟩ = some (iv x.h2) := hcell 8 _ rfl
      clear hcell
      cases hp : pred x
      · have HT : Hid ((xs.take (k + 1)).any pred = false) := by
          have h1 : xs.take (k + 1) = xs.take k ++ [x] := by rw [List.take_add_one, HX.out]; rfl
          rw [Hid, h1, List.any_append, HA.out]; simp [hp]
        have HP := Lib.hid hp; clear hp
        go_wp2_with fail
        refine (HG.out x HM.out _ hbw).mono ?_
        rintro e w1 ⟨he, hb⟩
        rw [HP.out] at he; subst he
        go_wp2_with fail
        go_roundw
        case rel => exact ⟨k + 1, by omega, by go_num, HT.out, bstep hbw hb⟩
        case measure => simp [intOf]; omega
      · have HT : Hid (xs.any pred = true) := List.any_eq_true.2 ⟨x, HM.out, hp⟩
        have HP := Lib.hid hp; clear hp
        go_wp2_with fail
        refine (HG.out x HM.out _ hbw).mono ?_
        rintro e w1 ⟨he, hb⟩
        rw [HP.out] at he; subst he
        go_wp2_with fail
        go_ret
        exact ⟨k, rfl, by rw [HT.out]; exact decide_eq_true (by omega), bstep hbw hb⟩
    · obtain rfl : k = xs.length := by omega
      have HT : Hid (xs.any pred = false) := by have := HA.out; rwa [List.take_of_length_le (Nat.le_refl _)] at this
      clear hc
      go_wp2
      go_ret
      exact ⟨-1, rfl, by rw [HT.out]; rfl, hbw⟩
set_option maxRecDepth 20000 in
set_option maxHeartbeats 3200000 in
theorem can1c_any (n : Nat) (c : Fe) (pa ma : Option Addr) (pc mc bf bh : Nat) (x : Chc) (hour : Nat) (w : World) (hn : n ≤ 3) (hh : hour ≤ 36) (hx : okG x) (hq : ∀ p, p < n → okP (x.p p)) (hbh : w.cell? ⟨bh, 0, none⟩ = some (iv hour))
    (hf : w.heap[bf]? = some (.cells (frow c (.slice pa n pc) (.slice ma 0 mc) n 36) 133 (0, 0))) :
    Calls Try.prog 44 #[.agg (ccells bf x).toArray, .pointer (some ⟨bh, 0, none⟩)] w fun e w' => e = .returned (.bool (canB n c x hour)) ∧ Below w.heap.size w w' := by
  have hbl : bf < w.heap.size := (Array.getElem?_eq_some_iff.1 hf).1
  obtain ⟨Wn, hWn⟩ : ∃ Wn : World, w.alloc (.cells (ccells bf x).toArray 105) = Wn := ⟨_, rfl⟩
  have hBw : Below w.heap.size w Wn := by rw [← hWn]; exact bpush (Below.refl _ _) _
  have hrw : Wn.heap[w.heap.size]? = some (.cells (ccells bf x).toArray 105 (0, 0)) := by rw [← hWn]; exact heap_new _ _ _
  have hc := kcell hBw hbh
  have HFT := Lib.hid (canFit_any n c pa ma pc mc bf x hour Wn hn hh hx hq ((hBw.block bf hbl).trans hf))
  have HBW := Lib.hid hBw
  have e0 : Wn.cell? ⟨w.heap.size, 0, none⟩ = some (.pointer (some ⟨bf, 0, none⟩)) := by rw [cell_of_row _ _ _ _ _ _ hrw]; rfl
  have e1 : Wn.cell? ⟨w.heap.size, 1, none⟩ = some (iv x.s) := by rw [cell_of_row _ _ _ _ _ _ hrw]; rfl
  have e2 : Wn.cell? ⟨w.heap.size, 2, none⟩ = some (iv x.k) := by rw [cell_of_row _ _ _ _ _ _ hrw]; rfl
  have e3 : Wn.cell? ⟨w.heap.size, 3, none⟩ = some (iv x.l0) := by rw [cell_of_row _ _ _ _ _ _ hrw]; rfl
  have e4 : Wn.cell? ⟨w.heap.size, 4, none⟩ = some (iv x.h0) := by rw [cell_of_row _ _ _ _ _ _ hrw]; rfl
  have e5 : Wn.cell? ⟨w.heap.size, 5, none⟩ = some (iv x.l1) := by rw [cell_of_row _ _ _ _ _ _ hrw]; rfl
  have e6 : Wn.cell? ⟨w.heap.size, 6, none⟩ = some (iv x.h1) := by rw [cell_of_row _ _ _ _ _ _ hrw]; rfl
  have e7 : Wn.cell? ⟨w.heap.size, 7, none⟩ = some (iv x.l2) := by rw [cell_of_row _ _ _ _ _ _ hrw]; rfl
  have e8 : Wn.cell? ⟨w.heap.size, 8, none⟩ = some (iv x.h2) := by rw [cell_of_row _ _ _ _ _ _ hrw]; rfl
  simp only [ccells] at hWn HFT ⊢
  clear hrw hBw hf hx hq hbh
  go_enter Try.func44, Try.ntmps44
  go_wp2_with fail
  refine HFT.out.mono ?_
  rintro e w2 ⟨rfl, hb2⟩
  have HB2 := Lib.hid (bstep HBW.out hb2)
  clear hb2 e0 e1 e2 e3 e4 e5 e6 e7 e8
  go_wp2_with fail
  go_ret
  exact ⟨rfl, HB2.out⟩
/-- Whether a cloth possibly is fit at an hour. -/
def mayB (P : List Sp) (c : Fe) (hour : Nat) : Bool := (chL P c).any fun x => canB P.length c x hour
set_option maxHeartbeats 1600000 in
theorem chCon_any (gf : FuncId) (lb : Array Value) (bf : Nat) (pred : Chc → Bool) (xs : List Chc) (v : Value) (w : World) (eg : ∀ args w, (callFunc gf args).run Try.prog w = .ok (.enter gf args) w) (hs : SliceOf (ccells bf) 9 w v xs)
    (hg : ∀ x ∈ xs, ∀ W : World, Below w.heap.size w W → Calls Try.prog gf (#[.agg (ccells bf x).toArray] ++ lb) W fun e W' => e = .returned (.bool (pred x)) ∧ Below W.heap.size W W') :
    Calls Try.prog 43 #[v, .func (.func gf) #[] lb] w fun e w' => e = .returned (.bool (xs.any pred)) ∧ Below w.heap.size w w' := by
  have HI := Lib.hid (chIdx_any gf lb bf pred xs v w eg hs hg)
  clear eg hs hg
  go_enter Try.func43, Try.ntmps43
  go_wp2_with fail
  refine HI.out.mono ?_
  rintro e w1 ⟨i, rfl, hi, hb⟩
  have HE := Lib.hid hi; have HB := Lib.hid hb
  clear hi hb
  go_wp2_with fail
  go_ret
  exact ⟨by rw [← HE.out]; rfl, HB.out⟩
set_option maxRecDepth 20000 in
set_option maxHeartbeats 3200000 in
theorem chCan_any (P : List Sp) (c : Fe) (pa ma : Option Addr) (pc mc bf : Nat) (v : Value) (hour : Nat) (w : World) (hok : okFe P c = true) (hh : hour ≤ 36) (hI : ChIn P c pa ma pc mc bf v w) :
    Calls Try.prog 26 #[v, iv hour] w fun e w' => e = .returned (.bool (mayB P c hour)) ∧ Below w.heap.size w w' := by
  have hn : P.length ≤ 3 := by
    simp only [okFe, Bool.and_eq_true] at hok
    have := inB_iff.1 hok.1.1
    omega
  obtain ⟨Wn, hWn⟩ : ∃ Wn : World, w.alloc (.cells #[iv hour] 3) = Wn := ⟨_, rfl⟩
  have hBw : Below w.heap.size w Wn := by rw [← hWn]; exact bpush (Below.refl _ _) _
  have hrw : Wn.heap[w.heap.size]? = some (.cells #[iv hour] 3 (0, 0)) := by rw [← hWn]; exact heap_new _ _ _
  have hcw : Wn.cell? ⟨w.heap.size, 0, none⟩ = some (iv hour) := by rw [cell_of_row _ _ _ _ _ _ hrw]; rfl
  have hIn := hI.below hBw
  have HAL := Lib.hid (chCon_any 44 #[.pointer (some ⟨w.heap.size, 0, none⟩)] bf (fun x => canB P.length c x hour) (chL P c) v Wn (enters_of Try.func44 (by kernel_rfl) rfl) hIn.ch
    (fun x hx W hb => can1c_any P.length c pa ma pc mc bf w.heap.size x hour W hn hh (chL_ok hok x hx).1 (chL_ok hok x hx).2 (kcell hb hcw) (hIn.below hb).fe))
  have HBW := Lib.hid hBw
  clear hI hIn hrw hcw hBw hok
  go_enter Try.func26, Try.ntmps26
  go_wp2_with fail
  refine HAL.out.mono ?_
  rintro e w2 ⟨rfl, hb2⟩
  have HB2 := Lib.hid (bstep HBW.out hb2)
  clear hb2
  go_wp2_with fail
  go_ret
  exact ⟨rfl, HB2.out⟩
end Go.Proofs.Yteoejhldmeompaa
