/- All chances of package stock: whether they are fit at an hour. -/
import Derived.Test.YtdhkgpfcanekkaaKj
namespace Go.Proofs.Ytdhkgpfcanekkaa
open Go Go.RowKit Go.Shelf

set_option maxRecDepth 20000 in
set_option maxHeartbeats 3200000 in
theorem chAll_any (gf : FuncId) (lb : Array Value) (bf : Nat) (pred : Chc → Bool) (xs : List Chc) (v : Value) (w : World) (eg : ∀ args w, (callFunc gf args).run Try.prog w = .ok (.enter gf args) w) (hs : SliceOf (ccells bf) 9 w v xs)
    (hg : ∀ x ∈ xs, ∀ W : World, Below w.heap.size w W → Calls Try.prog gf (#[.agg (ccells bf x).toArray] ++ lb) W fun e W' => e = .returned (.bool (pred x)) ∧ Below W.heap.size W W') :
    Calls Try.prog 66 #[.func (.func gf) #[] lb, v] w fun e w' => e = .returned (.bool (xs.all pred)) ∧ Below w.heap.size w w' := by
  have HG := Lib.hid hg; clear hg
  obtain ⟨a, cap, rfl, hm, hc⟩ := hs
  simp only [ccells] at HG
  go_enter Try.func66, Try.ntmps66
  go_wp2
  go_loopw [9, 6] (fun i _ wr => ∃ k : Nat, k ≤ xs.length ∧ i = iv k ∧ (xs.take k).all pred = true ∧ Below w.heap.size w wr) (fun i _ _ => xs.length - (intOf i).toNat)
  case atStart => exact ⟨0, Nat.zero_le _, rfl, by simp, Below.refl _ _⟩
  case round =>
    obtain ⟨k, hk, rfl, hall, hbw⟩ := hrel
    have HA := Lib.hid hall; clear hall
    by_cases hlt : k < xs.length
    · obtain ⟨x, hx⟩ := getElem?_of_lt hlt
      obtain ⟨b, off, rfl, hj⟩ := hc k x hx
      have hcell : ∀ j u, (ccells bf x)[j]? = some u → wr.cell? ⟨b, off + k * 9 + j, none⟩ = some u := fun j u hu => (hbw.cell (p := ⟨b, _, none⟩) (lt_of_cell (hj j u hu))).trans (hj j u hu)
      have HX := Lib.hid hx; have HM := Lib.hid (List.mem_of_getElem? hx); clear hx hj hc
      have e0 : wr.cell? ⟨b, off + k * 9, none⟩ = some (.pointer (some ⟨bf, 0, none⟩)) := hcell 0 _ rfl
      have e1 : wr.cell? ⟨b, off + k * 9 + 1, none⟩ = some (iv x.s) := hcell 1 _ rfl
      have e2 : wr.cell? ⟨b, off + k * 9 + 2, none⟩ = some (iv x.k) := hcell 2 _ rfl
      have e3 : wr.cell? ⟨b, off + k * 9 + 3, none⟩ = some (iv x.l0) := hcell 3 _ rfl
      have e4 : wr.cell? ⟨b, off + k * 9 + 4, none⟩ = some (iv x.h0) := hcell 4 _ rfl
      have e5 : wr.cell? ⟨b, off + k * 9 + 5, none⟩ = some (iv x.l1) := hcell 5 _ rfl
      have e6 : wr.cell? ⟨b, off + k * 9 + 6, none⟩ = some (iv x.h1) := hcell 6 _ rfl
      have e7 : wr.cell? ⟨b, off + k * 9 + 7, none⟩ = some (iv x.l2) := hcell 7 _ rfl
      have e8 : wr.cell? ⟨b, off + k * 9 + 8, none⟩ = some (iv x.h2) := hcell 8 _ rfl
      clear hcell
      cases hp : pred x
      · have HP := Lib.hid hp; clear hp
        go_wp2_with fail
        refine (HG.out x HM.out _ (bpush hbw _)).mono ?_
        rintro e w1 ⟨he, hb⟩
        rw [HP.out] at he; subst he
        go_wp2_with fail
        go_ret
        exact ⟨by rw [all_false_of _ HX.out HP.out]; rfl, bstep (bpush hbw _) hb⟩
      · have HP := Lib.hid hp; clear hp
        go_wp2_with fail
        refine (HG.out x HM.out _ (bpush hbw _)).mono ?_
        rintro e w1 ⟨he, hb⟩
        rw [HP.out] at he; subst he
        go_wp2_with fail
        go_roundw
        case rel => exact ⟨k + 1, by omega, by go_num, all_take_succ _ HX.out HA.out HP.out, bstep (bpush hbw _) hb⟩
        case measure => simp [intOf]; omega
    · obtain rfl : k = xs.length := by omega
      have HT : Hid (xs.all pred = true) := by have := HA.out; rwa [List.take_of_length_le (Nat.le_refl _)] at this
      clear hc
      go_wp2
      go_ret
      exact ⟨by rw [HT.out]; rfl, hbw⟩
theorem gRow_mem {s w0 : Int} {g : Int × Int} : ∀ f j, g ∈ gRow s w0 j f → g.1 = s ∧ w0 + (j : Int) ≤ g.2 ∧ g.2 < w0 + (j : Int) + (f : Int)
  | 0, j, h => by simp [gRow] at h
  | f + 1, j, h => by
    simp only [gRow, List.mem_cons] at h
    rcases h with rfl | h
    · exact ⟨rfl, by show w0 + (j : Int) ≤ w0 + (j : Int); omega, by show w0 + (j : Int) < w0 + (j : Int) + ((f + 1 : Nat) : Int); omega⟩
    · have := gRow_mem f (j + 1) h
      omega
theorem gAll_mem {s0 w0 : Int} {M : Nat} {g : Int × Int} : ∀ f i, g ∈ gAll s0 w0 M i f → (s0 + (i : Int) ≤ g.1 ∧ g.1 < s0 + (i : Int) + (f : Int)) ∧ w0 ≤ g.2 ∧ g.2 < w0 + (M : Int)
  | 0, i, h => by simp [gAll] at h
  | f + 1, i, h => by
    simp only [gAll, List.mem_append] at h
    rcases h with h | h
    · have := gRow_mem M 0 h
      omega
    · have := gAll_mem f (i + 1) h
      omega
theorem gains_bd {n : Nat} {c : Fe} (hb : vBeat n c = true) : ∀ g ∈ gainsL c, (c.sl ≤ g.1 ∧ g.1 ≤ c.sh) ∧ (c.wl ≤ g.2 ∧ g.2 ≤ c.wh) ∧ (0 ≤ c.sl ∧ c.sh ≤ 50) ∧ 0 ≤ c.wl ∧ c.wh ≤ 50 := by
  intro g hg
  have h := gAll_mem _ _ hg
  simp only [vBeat, vGain, Bool.and_eq_true, vSpan, inB_iff] at hb
  obtain ⟨⟨⟨⟨⟨b1, b2⟩, b3, b4⟩, b5, b6⟩, ⟨⟨b7, b8⟩, b9, b10⟩, b11, b12⟩, -⟩ := hb
  omega
theorem chL_ok {P : List Sp} {c : Fe} (hok : okFe P c = true) : ∀ x ∈ chL P c, okG x ∧ ∀ p, p < P.length → okP (x.p p) := by
  intro x hx
  simp only [okFe, Bool.and_eq_true] at hok
  obtain ⟨⟨h1, h2⟩, hb⟩ := hok
  obtain ⟨n1, n3⟩ := inB_iff.1 h1
  obtain ⟨g, hg, rfl⟩ := List.mem_map.1 hx
  have hgb := gains_bd hb g hg
  refine ⟨by unfold okG chOf; simp only; omega, fun p hp => ?_⟩
  have hv : ∀ q ∈ P, okP q := fun q hq => by
    have := List.all_eq_true.1 h2 q hq
    simp only [vPart, vSpan, Bool.and_eq_true, inB_iff] at this
    unfold okP; omega
  have hq := hv P[p] (List.getElem_mem hp)
  have : (chOf P g).p p = P[p] := by
    match P, p, n3, hp with
    | [a], 0, _, _ => rfl
    | [a, b], 0, _, _ => rfl
    | [a, b], 1, _, _ => rfl
    | [a, b, d], 0, _, _ => rfl
    | [a, b, d], 1, _, _ => rfl
    | [a, b, d], 2, _, _ => rfl
    | a :: b :: d :: e :: r, _, h, _ => simp at h; omega
  rw [this]; exact hq
set_option maxRecDepth 20000 in
set_option maxHeartbeats 3200000 in
theorem fit1c_any (n : Nat) (c : Fe) (pa ma : Option Addr) (pc mc bf bh : Nat) (x : Chc) (hour : Nat) (w : World) (hn : n ≤ 3) (hh : hour ≤ 36) (hx : okG x) (hq : ∀ p, p < n → okP (x.p p)) (hbh : w.cell? ⟨bh, 0, none⟩ = some (iv hour))
    (hf : w.heap[bf]? = some (.cells (frow c (.slice pa n pc) (.slice ma 0 mc) n 36) 135 (0, 0))) :
    Calls Try.prog 67 #[.agg (ccells bf x).toArray, .pointer (some ⟨bh, 0, none⟩)] w fun e w' => e = .returned (.bool (fitB n c x hour)) ∧ Below w.heap.size w w' := by
  have hbl : bf < w.heap.size := (Array.getElem?_eq_some_iff.1 hf).1
  obtain ⟨Wn, hWn⟩ : ∃ Wn : World, w.alloc (.cells (ccells bf x).toArray 143) = Wn := ⟨_, rfl⟩
  have hBw : Below w.heap.size w Wn := by rw [← hWn]; exact bpush (Below.refl _ _) _
  have hrw : Wn.heap[w.heap.size]? = some (.cells (ccells bf x).toArray 143 (0, 0)) := by rw [← hWn]; exact heap_new _ _ _
  have hc := kcell hBw hbh
  have HFT := Lib.hid (fit_any n c pa ma pc mc bf x hour Wn hn hh hx hq ((hBw.block bf hbl).trans hf))
  have HBW := Lib.hid hBw
  have e0 : Wn.cell? ⟨w.heap.size, 0, none⟩ = some (.pointer (some ⟨bf, 0, none⟩)) := by rw [cell_of_row _ _ _ _ _ _ hrw]; rfl
  have e1 : Wn.cell? ⟨w.heap.size, 1, none⟩ = some (iv x.s) := by rw [cell_of_row _ _ _ _ _ _ hrw]; rfl
  have e2 : Wn.cell? ⟨w.heap.size, 2, none⟩ = some (iv x.k) := by rw [cell_of_row _ _ _ _ _ _ hrw]; rfl
  have e3 : Wn.cell? ⟨w.heap.size, 3, none⟩ = some (iv x.l0) := by rw [cell_of_row _ _ _ _ _ _ hrw]; rfl
  have e4 : Wn.cell? ⟨w.heap.size, 4, none⟩ = some (iv x.h0) := by rw [cell_of_row _ _ _ _ _ _ hrw]; rfl
  have e5 : Wn.cell? ⟨w.heap.size, 5, none⟩ = some (iv x.l1) := by rw [cell_of_row _ _ _ _ _ _ hrw]; rfl
  have e6 : Wn.cell? ⟨w.heap.size, 6, none⟩ = some (iv x.h1) := by rw [cell_of_row _ _ _ _ _ _ hrw]; rfl
  have e7 : Wn.cell? ⟨w.heap.size, 7, none⟩ = some (iv x.l2) := by rw [cell_of_row _ _ _ _ _ _ hrw]; rfl
  have e8 : Wn.cell? ⟨w.heap.size, 8, none⟩ = some (iv x.h2) := by rw [cell_of_row _ _ _ _ _ _ hrw]; rfl
  simp only [ccells] at hWn HFT ⊢
  clear hrw hBw hf hx hq hbh
  go_enter Try.func67, Try.ntmps67
  go_wp2_with fail
  refine HFT.out.mono ?_
  rintro e w2 ⟨rfl, hb2⟩
  have HB2 := Lib.hid (bstep HBW.out hb2)
  clear hb2 e0 e1 e2 e3 e4 e5 e6 e7 e8
  go_wp2_with fail
  go_ret
  exact ⟨rfl, HB2.out⟩
/-- Whether a cloth surely is fit at an hour. -/
def sureB (P : List Sp) (c : Fe) (hour : Nat) : Bool := (chL P c).all fun x => fitB P.length c x hour
set_option maxRecDepth 20000 in
set_option maxHeartbeats 3200000 in
theorem chFit_any (P : List Sp) (c : Fe) (pa ma : Option Addr) (pc mc bf : Nat) (v : Value) (hour : Nat) (w : World) (hok : okFe P c = true) (hh : hour ≤ 36) (hI : ChIn P c pa ma pc mc bf v w) :
    Calls Try.prog 49 #[v, iv hour] w fun e w' => e = .returned (.bool (sureB P c hour)) ∧ Below w.heap.size w w' := by
  have hn : P.length ≤ 3 := by
    simp only [okFe, Bool.and_eq_true] at hok
    have := inB_iff.1 hok.1.1
    omega
  obtain ⟨Wn, hWn⟩ : ∃ Wn : World, w.alloc (.cells #[iv hour] 3) = Wn := ⟨_, rfl⟩
  have hBw : Below w.heap.size w Wn := by rw [← hWn]; exact bpush (Below.refl _ _) _
  have hrw : Wn.heap[w.heap.size]? = some (.cells #[iv hour] 3 (0, 0)) := by rw [← hWn]; exact heap_new _ _ _
  have hcw : Wn.cell? ⟨w.heap.size, 0, none⟩ = some (iv hour) := by rw [cell_of_row _ _ _ _ _ _ hrw]; rfl
  have hIn := hI.below hBw
  have HAL := Lib.hid (chAll_any 67 #[.pointer (some ⟨w.heap.size, 0, none⟩)] bf (fun x => fitB P.length c x hour) (chL P c) v Wn (enters_of Try.func67 (by kernel_rfl) rfl) hIn.ch
    (fun x hx W hb => fit1c_any P.length c pa ma pc mc bf w.heap.size x hour W hn hh (chL_ok hok x hx).1 (chL_ok hok x hx).2 (kcell hb hcw) (hIn.below hb).fe))
  have HBW := Lib.hid hBw
  clear hI hIn hrw hcw hBw hok
  go_enter Try.func49, Try.ntmps49
  go_wp2_with fail
  refine HAL.out.mono ?_
  rintro e w2 ⟨rfl, hb2⟩
  have HB2 := Lib.hid (bstep HBW.out hb2)
  clear hb2
  go_wp2_with fail
  go_ret
  exact ⟨rfl, HB2.out⟩
end Go.Proofs.Ytdhkgpfcanekkaa
