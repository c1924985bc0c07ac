/- Shares of a load. -/
import Derived.Test.YtfdahmdehmhllaaPa
import Derived.Test.YtfdahmdehmhllaaTb
import Derived.Test.YtfdahmdehmhllaaMb
import Derived.Test.YtfdahmdehmhllaaSj
import Derived.Deep.DeepCutAuto
import Derived.Deep.OwnRows
namespace Go.Proofs.Ytfdahmdehmhllaa
open Go Go.RowKit Go.Shelf
attribute [local go_sem] Oper.semAt_some
attribute [local go_sem ↓] Go.wp_at_zero Go.wp_at_succ

set_option maxRecDepth 20000 in
set_option maxHeartbeats 3200000 in
theorem total_int {K : Int} (xs : List Int) (v : Value) (w : World) (hK : 0 ≤ K ∧ K ≤ 100000000) (hb : ∀ x ∈ xs, -K ≤ x ∧ x ≤ K) (hl : xs.length ≤ 1000000) (hs : Ints w v xs) :
    Calls Try.prog 53 #[v] w fun e w' => e = .returned (iv xs.sum) ∧ Below w.heap.size w w' := by
  obtain ⟨aa, ac, rfl, hal, hac⟩ := hs
  have HA := Lib.hid hac; clear hac
  have HP : Hid (∀ k, k ≤ xs.length → -1000000000000000 ≤ (xs.take k).sum ∧ (xs.take k).sum ≤ 1000000000000000) := fun k hk => by
    have h := sum_bdk hK.1 (xs.take k) (fun x hx => hb x (List.mem_of_mem_take hx))
    rw [List.length_take] at h
    have h2 : K * ((min k xs.length : Nat) : Int) ≤ 100000000 * 1000000 := Int.mul_le_mul hK.2 (by omega) (by omega) (by omega)
    omega
  clear hb hK
  go_enter Try.func53, Try.ntmps53
  go_wp2_with fail
  go_loopw [8, 5, 3] (fun i _ n wr => ∃ k : Nat, k ≤ xs.length ∧ i = iv k ∧ n = iv (xs.take k).sum ∧ Below w.heap.size w wr) (fun i _ _ _ => xs.length - (intOf i).toNat)
  case atStart => exact ⟨0, Nat.zero_le _, rfl, by simp, Below.refl _ _⟩
  case round =>
    obtain ⟨k, hk, rfl, rfl, hbw⟩ := hrel
    by_cases hlt : k < xs.length
    · obtain ⟨x, hx⟩ := getElem?_of_lt hlt
      obtain ⟨p, po, rfl, hpj⟩ := HA.out k x hx
      have c0 := hpj 0 (iv x) rfl
      simp only [Nat.mul_one, Nat.add_zero] at c0
      have d0 := kcell hbw c0
      have HS := Lib.hid (take_sum_succ hx)
      obtain ⟨b1, b2⟩ := HP.out k hk
      obtain ⟨b3, b4⟩ := HP.out (k + 1) hlt
      rw [HS.out] at b3 b4
      have HB := Lib.hid hbw
      have i0 : (0 : Int) ≤ (k : Int) := by omega
      have i1 : (k : Int) < (xs.length : Int) := by omega
      clear hpj hx c0 hbw
      generalize (xs.take k).sum = s at *
      have g1 : IntKind.i64.wrap (s + x) = s + x := IntWalk.i64_in _ ⟨by omega, by omega⟩
      go_wp2_with fail
      go_roundw
      case rel => exact ⟨k + 1, by omega, by go_num, by rw [HS.out], HB.out⟩
      case measure => simp [intOf]; omega
    · obtain rfl : k = xs.length := by omega
      go_wp2_with fail
      go_ret
      exact ⟨by rw [List.take_length]; rfl, hbw⟩

set_option maxRecDepth 20000 in
set_option maxHeartbeats 1600000 in
theorem idx_any (xs : List Int) (x : Int) (v : Value) (w : World) (hm : x ∈ xs) (hs : Ints w v xs) : Calls Try.prog 54 #[v, iv x] w fun e w' => e = .returned (iv (atI x xs : Nat)) ∧ w' = w := by
  obtain ⟨a, cap, rfl, hm, hc⟩ := hs
  go_enter Try.func54, Try.ntmps54
  go_wp2_with fail
  go_loopw [8, 5] (fun i _ wr => ∃ k : Nat, k ≤ xs.length ∧ i = iv k ∧ Hid (∀ y ∈ xs.take k, y ≠ x) ∧ wr = w) (fun i _ _ => xs.length - (intOf i).toNat)
  case atStart => exact ⟨0, Nat.zero_le _, rfl, by simp [Hid], rfl⟩
  case round =>
    obtain ⟨k, hk, rfl, HA, rfl⟩ := hrel
    by_cases hlt : k < xs.length
    · obtain ⟨y, hy⟩ := getElem?_of_lt hlt
      obtain ⟨b, off, rfl, hj⟩ := hc k y hy
      have hcell : wr.cell? ⟨b, off + k, none⟩ = some (iv y) := by have h := hj 0 (iv y) rfl; rwa [Nat.mul_one, Nat.add_zero] at h
      have HY := Lib.hid hy; clear hy hj hc
      by_cases h0 : x = y
      · subst h0
        have hb : (x == x) = true := by simp
        have HM := Lib.hid (atI_of HY.out HA.out)
        go_wp2_with fail
        go_ret
        exact ⟨by rw [HM.out]; rfl, rfl⟩
      · have hb : (x == y) = false := by simpa using h0
        clear h0
        have HN : Hid (∀ z ∈ xs.take (k + 1), z ≠ x) := by
          intro z hz
          rw [List.take_add_one, HY.out] at hz
          simp only [Option.toList_some, List.mem_append, List.mem_singleton] at hz
          rcases hz with hz | rfl
          · exact HA.out z hz
          · intro e; subst e; simp at hb
        go_wp2_with fail
        go_roundw
        case rel => exact ⟨k + 1, by omega, by go_num, HN, trivial⟩
        case measure => simp [intOf]; omega
    · obtain rfl : k = xs.length := by omega
      exfalso
      have := HA.out x (by rw [List.take_length]; assumption)
      exact this rfl

theorem ite_max (m y : Int) : (if m < y then y else m) = max m y := by simp only [Int.max_def]; split <;> split <;> omega
theorem mxL_take {xs : List Int} {k : Nat} {y : Int} (hk : 0 < k) (hy : xs[k]? = some y) : mxL (xs.take (k + 1)) = max (mxL (xs.take k)) y := by
  rw [List.take_add_one, hy]
  cases xs with
  | nil => simp at hy
  | cons x t =>
    obtain ⟨j, rfl⟩ : ∃ j, k = j + 1 := ⟨k - 1, by omega⟩
    simp [mxL, List.take_succ_cons]
set_option maxRecDepth 20000 in
set_option maxHeartbeats 1600000 in
theorem max_any (xs : List Int) (v : Value) (w : World) (hne : 0 < xs.length) (hs : Ints w v xs) : Calls Try.prog 55 #[v] w fun e w' => e = .returned (iv (mxL xs)) ∧ w' = w := by
  obtain ⟨a, cap, rfl, hm, hc⟩ := hs
  obtain ⟨y0, hy0⟩ := getElem?_of_lt hne
  obtain ⟨b, off, rfl, hj0⟩ := hc 0 y0 hy0
  have hcell0 : w.cell? ⟨b, off, none⟩ = some (iv y0) := by have h := hj0 0 (iv y0) rfl; simpa using h
  have HC : Hid (∀ k y, xs[k]? = some y → w.cell? ⟨b, off + k, none⟩ = some (iv y)) := fun k y hy => by
    obtain ⟨b', o', he, hj⟩ := hc k y hy
    simp only [Option.some.injEq, Addr.mk.injEq, and_true] at he
    obtain ⟨rfl, rfl⟩ := he
    have h := hj 0 (iv y) rfl; rwa [Nat.mul_one, Nat.add_zero] at h
  have n0 : ¬ ((xs.length : Int) < 1) := by omega
  have HM1 : Hid (mxL (xs.take 1) = y0) := by
    cases xs with
    | nil => simp at hne
    | cons x t => simp at hy0; subst hy0; rfl
  clear hj0 hc
  go_enter Try.func55, Try.ntmps55
  go_wp2_with fail
  go_loopw [4, 3] (fun i m wr => ∃ k : Nat, 1 ≤ k ∧ k ≤ xs.length ∧ i = iv k ∧ m = iv (mxL (xs.take k)) ∧ wr = w) (fun i _ _ => xs.length - (intOf i).toNat)
  case atStart => exact ⟨1, Nat.le_refl _, hne, rfl, by rw [HM1.out], rfl⟩
  case round =>
    obtain ⟨k, hk1, hk, rfl, rfl, rfl⟩ := hrel
    by_cases hlt : k < xs.length
    · obtain ⟨y, hy⟩ := getElem?_of_lt hlt
      have hcell := HC.out k y hy
      have HT := Lib.hid (mxL_take hk1 hy)
      have i0 : (0 : Int) ≤ (k : Int) := by omega
      have i1 : (k : Int) < (xs.length : Int) := by omega
      clear hy hcell0
      generalize mxL (xs.take k) = m at *
      go_wp2_with fail
      go_roundw
      case rel => exact ⟨k + 1, by omega, by omega, by go_num, by rw [HT.out, ← ite_max], trivial⟩
      case measure => simp [intOf]; omega
    · obtain rfl : k = xs.length := by omega
      go_wp2_with fail
      go_ret
      exact ⟨by rw [List.take_length]; rfl, rfl⟩

/-- A list that is filled up to a place. -/
def fillTo (L : List Int) (n k : Nat) : List Int := L.take k ++ List.replicate (n - k) 0
theorem fillTo_len {L : List Int} {n k : Nat} (hL : L.length = n) (hk : k ≤ n) : (fillTo L n k).length = n := by simp [fillTo]; omega
theorem fillTo_zero (L : List Int) (n : Nat) : fillTo L n 0 = List.replicate n 0 := by simp [fillTo]
theorem fillTo_all {L : List Int} {n : Nat} (hL : L.length = n) : fillTo L n n = L := by subst hL; simp [fillTo]
theorem fillTo_succ {L : List Int} {n k : Nat} {x : Int} (hL : L.length = n) (hx : L[k]? = some x) : (fillTo L n k).set k x = fillTo L n (k + 1) := by
  have hlt := (List.getElem?_eq_some_iff.1 hx).1
  have ht : L.take (k + 1) = L.take k ++ [x] := by rw [List.take_add_one, hx]; rfl
  unfold fillTo
  rw [ht, show n - k = (n - (k + 1)) + 1 by omega, List.replicate_succ, List.set_append_right _ _ (by simp; omega)]
  simp [Nat.min_eq_left (Nat.le_of_lt hlt)]
theorem made_rowP (n : Nat) : madeCells #[.int .i64 0] n = rowI (List.replicate n 0) := by
  apply Array.ext'
  rw [toList_madeCells_one]
  simp [rowI]
theorem rowI_slice {w : World} {g c : Nat} {t : TypeId} {f : List Int} (h : w.heap[g]? = some (.cells (rowI f) t (0, 0))) (hl : f.length ≤ 1000000) : Ints w (.slice (some ⟨g, 0, none⟩) f.length c) f := by
  refine ⟨some ⟨g, 0, none⟩, c, rfl, by omega, fun i x hx => ⟨g, 0, rfl, fun j u hu => ?_⟩⟩
  rcases j with _ | j
  · simp [encI] at hu; subst hu
    have hlt := (List.getElem?_eq_some_iff.1 hx).1
    have := cell_rowI h hlt
    rw [Nat.mul_one, Nat.add_zero, Nat.zero_add, this, List.getD_eq_getElem?_getD, hx]; rfl
  · simp [encI] at hu
theorem quo_bd {m p s : Int} (hm : 0 ≤ m ∧ m ≤ 100000) (hp : 1 ≤ p ∧ p ≤ 100) (hs : 1 ≤ s ∧ s ≤ 600) :
    (0 ≤ m * p ∧ m * p ≤ 10000000) ∧ (0 ≤ (m * p).tdiv s ∧ (m * p).tdiv s ≤ 10000000) ∧ 0 ≤ (m * p).tmod s ∧ (m * p).tmod s ≤ 600 := by
  have h0 : 0 ≤ m * p := Int.mul_nonneg hm.1 (by omega)
  have h1 : m * p ≤ 100000 * 100 := Int.mul_le_mul hm.2 hp.2 (by omega) (by omega)
  refine ⟨⟨h0, by omega⟩, ?_, ?_⟩
  · rw [Int.tdiv_eq_ediv_of_nonneg h0]
    exact ⟨Int.ediv_nonneg h0 (by omega), Int.le_trans (Int.ediv_le_self _ h0) (by omega)⟩
  · rw [Int.tmod_eq_emod_of_nonneg h0]
    exact ⟨Int.emod_nonneg _ (by omega), by have := Int.emod_lt_of_pos (m * p) (show 0 < s by omega); omega⟩
/-- Two lists of one's own, in blocks of their own. -/
def TwoRows (n : Nat) (A B : List Int) (w : World) (g1 g2 : Nat) (wx : World) : Prop :=
  (g1 ≠ g2 ∧ w.heap.size ≤ g1 ∧ w.heap.size ≤ g2) ∧ wx.heap[g1]? = some (.cells (rowI A) 3 (0, 0)) ∧ wx.heap[g2]? = some (.cells (rowI B) 3 (0, 0)) ∧ Below w.heap.size w wx ∧ A.length = n ∧ B.length = n
theorem TwoRows.swap {n : Nat} {A B : List Int} {w wx : World} {g1 g2 : Nat} (h : TwoRows n A B w g1 g2 wx) : TwoRows n B A w g2 g1 wx := ⟨⟨Ne.symm h.1.1, h.1.2.2, h.1.2.1⟩, h.2.2.1, h.2.1, h.2.2.2.1, h.2.2.2.2.2, h.2.2.2.2.1⟩
theorem two_made {n : Nat} {w w1 : World} (hb : Below w.heap.size w w1) : TwoRows n (List.replicate n 0) (List.replicate n 0) w w1.heap.size (w1.heap.size + 1) (((w1.alloc (.cells (rowI (List.replicate n 0)) 3)).alloc (.cells (rowI (List.replicate n 0)) 3)).drew) := by
  have hz := hb.size
  refine ⟨⟨by omega, hz, by omega⟩, ?_, ?_, Below.drew (bpush (bpush hb _) _), by simp, by simp⟩
  · exact heapD rfl
  · exact heapB (by simp)
theorem TwoRows.set {n : Nat} {A B : List Int} {w wx : World} {g1 g2 : Nat} (h : TwoRows n A B w g1 g2 wx) (i j : Nat) (x y : Int) : TwoRows n (A.set i x) (B.set j y) w g1 g2 ((wx.setCell ⟨g1, i, none⟩ (iv x)).setCell ⟨g2, j, none⟩ (iv y)) := by
  obtain ⟨⟨h1, h2, h3⟩, h4, h5, h6, h7, h8⟩ := h
  refine ⟨⟨h1, h2, h3⟩, ?_, ?_, bput (bput h6 (p := ⟨g1, i, none⟩) h2 _) (p := ⟨g2, j, none⟩) h3 _, by simpa using h7, by simpa using h8⟩
  · rw [Below.heap_setCell _ _ _ _ h1, heap_setCell_same _ _ _ _ _ _ h4, rowI_set]
  · rw [heap_setCell_same _ _ _ _ _ _ ((Below.heap_setCell _ _ _ _ (Ne.symm h1)).trans h5), rowI_set]
theorem TwoRows.below {n : Nat} {A B : List Int} {w wx wy : World} {g1 g2 : Nat} (h : TwoRows n A B w g1 g2 wx) (hb : Below wx.heap.size wx wy) : TwoRows n A B w g1 g2 wy := by
  obtain ⟨h0, h4, h5, h6, h7, h8⟩ := h
  exact ⟨h0, (hb.block _ (Array.getElem?_eq_some_iff.1 h4).1).trans h4, (hb.block _ (Array.getElem?_eq_some_iff.1 h5).1).trans h5, bstep h6 hb, h7, h8⟩
theorem TwoRows.cells {n k : Nat} {A B : List Int} {w wx : World} {g1 g2 : Nat} (h : TwoRows n A B w g1 g2 wx) (hk : k < n) : wx.cell? ⟨g1, k, none⟩ = some (iv (A.getD k 0)) ∧ wx.cell? ⟨g2, k, none⟩ = some (iv (B.getD k 0)) ∧ wx.frozen? ⟨g1, k, none⟩ = false ∧ wx.frozen? ⟨g2, k, none⟩ = false :=
  ⟨cell_rowI h.2.1 (by rw [h.2.2.2.2.1]; exact hk), cell_rowI h.2.2.1 (by rw [h.2.2.2.2.2]; exact hk), frozen_of_row _ _ _ _ _ h.2.1, frozen_of_row _ _ _ _ _ h.2.2.1⟩
theorem cset_far {W : World} {b k o i : Nat} {v : Value} (hne : k ≠ b) : (W.setCell ⟨b, i, none⟩ v).cell? ⟨k, o, none⟩ = W.cell? ⟨k, o, none⟩ := World.cell?_of_block (Below.heap_setCell _ _ _ _ hne)
theorem fset_far {W : World} {b k o i : Nat} {v : Value} (hne : k ≠ b) : (W.setCell ⟨b, i, none⟩ v).frozen? ⟨k, o, none⟩ = W.frozen? ⟨k, o, none⟩ := World.frozen?_of_block (Below.heap_setCell _ _ _ _ hne)
set_option maxRecDepth 20000 in
set_option maxHeartbeats 6400000 in
theorem shares_good (P : List Int) (m : Int) (pa : Option Addr) (pc : Nat) (w : World) (hP : ∀ p ∈ P, 1 ≤ p ∧ p ≤ 100) (hl : 1 ≤ P.length ∧ P.length ≤ 6) (hm : 0 ≤ m ∧ m ≤ 100000) (hs : Ints w (.slice pa P.length pc) P) :
    Calls Try.prog 35 #[.slice pa P.length pc, iv m] w fun e w' => ∃ g, w.heap.size ≤ g ∧ e = .returned (.slice (some ⟨g, 0, none⟩) P.length P.length) ∧ w'.heap[g]? = some (.cells (rowI (payL P m)) 3 (0, 0)) ∧ Below w.heap.size w w' := by
  have HS := Lib.hid hs
  have hs1 := sum_one hP
  have HT := Lib.hid (total_int (K := 100) P _ w ⟨by omega, by omega⟩ (fun x hx => by have := hP x hx; omega) (by omega) hs)
  obtain ⟨S, hS⟩ : ∃ S, P.sum = S := ⟨_, rfl⟩
  rw [hS] at HT hs1
  have HL1 : Hid ((shrL P m).length = P.length ∧ (rstL P m).length = P.length) := by simp [Hid, shrL, rstL]
  have HG : Hid (∀ (k : Nat) (p : Int), P[k]? = some p → (shrL P m)[k]? = some ((m * p).tdiv S) ∧ (rstL P m)[k]? = some ((m * p).tmod S)) := fun k p hp => by
    simp only [shrL, rstL, List.getElem?_map, hp, Option.map_some, hS, and_self]
  have HBD : Hid ((∀ x ∈ shrL P m, 0 ≤ x ∧ x ≤ 10000000) ∧ ∀ x ∈ rstL P m, 0 ≤ x ∧ x ≤ 600) := by
    constructor
    · intro x hx
      obtain ⟨p, hp, rfl⟩ := List.mem_map.1 hx
      rw [hS]; exact (quo_bd hm (hP p hp) (by omega)).2.1
    · intro x hx
      obtain ⟨p, hp, rfl⟩ := List.mem_map.1 hx
      rw [hS]; exact (quo_bd hm (hP p hp) (by omega)).2.2
  have HPP := Lib.hid hP
  have hmk : ∀ W : World, (Instr.makeSlice 49 (.int .i64 (P.length : Int)) (.int .i64 (P.length : Int))).run Try.prog W = .ok (.slice (some ⟨W.heap.size, 0, none⟩) P.length P.length) (W.alloc (.cells (rowI (List.replicate P.length 0)) 3)) := fun W => by
    rw [← made_rowP]
    exact run_make_row' 49 3 (.int .i64 0) 8 Try.underlying49 info3 rfl .i64 .i64 P.length (by omega) (by omega) W
  have hS0 : ¬ S = 0 := by omega
  clear hs hP hS
  go_enter Try.func35, Try.ntmps35
  go_wp2_with fail
  refine HT.out.mono ?_
  rintro e w1 ⟨rfl, hb1⟩
  have HB1 := Lib.hid hb1; clear hb1
  go_upto_region 1 with (fail)
  go_cut [6, 7] (fun s6 s7 wx => ∃ g1 g2, s6 = .slice (some ⟨g1, 0, none⟩) P.length P.length ∧ s7 = .slice (some ⟨g2, 0, none⟩) P.length P.length ∧ Hid (TwoRows P.length (List.replicate P.length 0) (List.replicate P.length 0) w g1 g2 wx))
  case first =>
    go_region
    all_goals
      go_wp2_with fail
      go_meet
      first
        | exact ⟨_, _, rfl, rfl, two_made HB1.out⟩
        | exact ⟨_, _, rfl, rfl, (two_made HB1.out).swap⟩
  case rest =>
    obtain ⟨g1, g2, rfl, rfl, HW⟩ := hcut
    go_wp2_with fail
    go_loopw [21, 8, 9] (fun i _ _ wr => ∃ k : Nat, k ≤ P.length ∧ i = iv k ∧ Hid (TwoRows P.length (fillTo (shrL P m) P.length k) (fillTo (rstL P m) P.length k) w g1 g2 wr)) (fun i _ _ _ => P.length - (intOf i).toNat)
    case atStart => exact ⟨0, Nat.zero_le _, rfl, by rw [fillTo_zero, fillTo_zero]; exact HW⟩
    case round =>
      obtain ⟨k, hk, rfl, HR⟩ := hrel
      by_cases hlt : k < P.length
      · obtain ⟨p, hp⟩ := getElem?_of_lt hlt
        obtain ⟨q1, q2⟩ := HG.out k p hp
        obtain ⟨r1, r2, r3, r4⟩ := HR.out.cells hlt
        have hn12 := HR.out.1.1
        obtain ⟨b, off, rfl, c0⟩ : ∃ b off, pa = some ⟨b, off, none⟩ ∧ wr.cell? ⟨b, off + k, none⟩ = some (iv p) := by
          obtain ⟨a', c', hv, -, hcs⟩ := HS.out.below HR.out.2.2.2.1
          obtain ⟨b, off, ha, hj⟩ := hcs k p hp
          simp only [Value.slice.injEq] at hv
          have h := hj 0 (iv p) rfl
          rw [Nat.mul_one, Nat.add_zero] at h
          exact ⟨b, off, hv.1.trans ha, h⟩
        have HF1 := Lib.hid (fillTo_succ HL1.out.1 q1); have HF2 := Lib.hid (fillTo_succ HL1.out.2 q2)
        obtain ⟨⟨y1, y2⟩, ⟨y3, y4⟩, y5, y6⟩ := quo_bd hm (HPP.out p (List.mem_of_getElem? hp)) (show 1 ≤ S ∧ S ≤ 600 by omega)
        have w1e : IntKind.i64.wrap (m * p) = m * p := IntWalk.i64_in _ ⟨by omega, by omega⟩
        have w2e : IntKind.i64.wrap ((m * p).tdiv S) = (m * p).tdiv S := IntWalk.i64_in _ ⟨by omega, by omega⟩
        have w3e : IntKind.i64.wrap ((m * p).tmod S) = (m * p).tmod S := IntWalk.i64_in _ ⟨by omega, by omega⟩
        have i0 : (0 : Int) ≤ (k : Int) := by omega
        have i1 : (k : Int) < (P.length : Int) := by omega
        have e1 : ∀ u, (wr.setCell ⟨g2, k, none⟩ u).cell? ⟨g1, k, none⟩ = some (iv ((fillTo (shrL P m) P.length k).getD k 0)) := fun u => (cset_far hn12).trans r1
        have e2 : ∀ u, (wr.setCell ⟨g1, k, none⟩ u).cell? ⟨g2, k, none⟩ = some (iv ((fillTo (rstL P m) P.length k).getD k 0)) := fun u => (cset_far (Ne.symm hn12)).trans r2
        have e3 : ∀ u, (wr.setCell ⟨g2, k, none⟩ u).frozen? ⟨g1, k, none⟩ = false := fun u => (fset_far hn12).trans r3
        have e4 : ∀ u, (wr.setCell ⟨g1, k, none⟩ u).frozen? ⟨g2, k, none⟩ = false := fun u => (fset_far (Ne.symm hn12)).trans r4
        generalize (fillTo (shrL P m) P.length k).getD k 0 = o1 at *
        generalize (fillTo (rstL P m) P.length k).getD k 0 = o2 at *
        clear hp q1 q2 hmk y1 y2 y3 y4 y5 y6 hm hs1 hn12
        go_wp2_with fail
        go_region
        all_goals
          go_wp2_with fail
          go_roundw
          case rel =>
            refine ⟨k + 1, by omega, by go_num, ?_⟩
            rw [← HF1.out, ← HF2.out]
            first
              | exact (HR.out.set _ _ _ _).below (Below.drew (Below.refl _ _))
              | exact (HR.out.swap.set _ _ _ _).swap.below (Below.drew (Below.refl _ _))
          case measure => simp [intOf]; omega
      · obtain rfl : k = P.length := by omega
        have hr := HR.out
        rw [fillTo_all HL1.out.1, fillTo_all HL1.out.2] at hr
        have HR0 := Lib.hid hr
        have HT2 := Lib.hid (fun (W : World) (h : wr.heap[g1]? = W.heap[g1]?) => total_int (K := 10000000) (shrL P m) (.slice (some ⟨g1, 0, none⟩) P.length P.length) W ⟨by omega, by omega⟩ (fun x hx => by have := HBD.out.1 x hx; omega) (by rw [HL1.out.1]; omega) (by
          have := rowI_slice (c := P.length) (h.symm.trans hr.2.1) (by rw [HL1.out.1]; omega)
          rw [HL1.out.1] at this; exact this))
        obtain ⟨M, hM⟩ : ∃ M, (m - (shrL P m).sum).toNat = M := ⟨_, rfl⟩
        have hsum := sum_bdk (K := 10000000) (by omega) (shrL P m) (fun x hx => by have := HBD.out.1 x hx; omega)
        have hsum0 : 0 ≤ (shrL P m).sum := by
          have : ∀ l : List Int, (∀ x ∈ l, 0 ≤ x ∧ x ≤ 10000000) → 0 ≤ l.sum := by
            intro l; induction l with
            | nil => intro _; simp
            | cons a l ih => intro h; have h1 := h a (by simp); have h2 := ih (fun x hx => h x (by simp [hx])); simp only [List.sum_cons]; omega
          exact this _ HBD.out.1
        rw [HL1.out.1] at hsum
        have HPAY : Hid (payL P m = (payS (shrL P m) (rstL P m) M).1) := by rw [← hM]; rfl
        generalize (shrL P m).sum = T at *
        have g1w : IntKind.i64.wrap (m - T) = m - T := IntWalk.i64_in _ ⟨by omega, by omega⟩
        clear hr hk hlt hsum
        go_wp2_with fail
        refine (HT2.out _ rfl).mono ?_
        rintro e w2 ⟨rfl, hb2⟩
        have HR2 := Lib.hid (HR0.out.below hb2)
        clear hb2
        go_wp2_with fail
        go_loopw [47, 10] (fun i _ wr => ∃ j : Nat, j ≤ M ∧ i = iv j ∧ Hid (TwoRows P.length (payS (shrL P m) (rstL P m) j).1 (payS (shrL P m) (rstL P m) j).2 w g1 g2 wr)) (fun i _ _ => M - (intOf i).toNat)
        case atStart => exact ⟨0, Nat.zero_le _, rfl, HR2.out⟩
        case round =>
          obtain ⟨j, hj, rfl, HX⟩ := hrel
          by_cases hlt : j < M
          · have hlen : (payS (shrL P m) (rstL P m) j).1.length = P.length ∧ (payS (shrL P m) (rstL P m) j).2.length = P.length := by
              have := payS_len (shrL P m) (rstL P m) j
              exact ⟨this.1.trans HL1.out.1, this.2.trans HL1.out.2⟩
            have hbd := payS_bd (B := 10000000) (C := 600) HBD.out.1 HBD.out.2 (by omega) (by omega) j
            have HNX : Hid (payS (shrL P m) (rstL P m) (j + 1) = ((payS (shrL P m) (rstL P m) j).1.set (atI (mxL (payS (shrL P m) (rstL P m) j).2) (payS (shrL P m) (rstL P m) j).2) ((payS (shrL P m) (rstL P m) j).1.getD (atI (mxL (payS (shrL P m) (rstL P m) j).2) (payS (shrL P m) (rstL P m) j).2) 0 + 1), (payS (shrL P m) (rstL P m) j).2.set (atI (mxL (payS (shrL P m) (rstL P m) j).2) (payS (shrL P m) (rstL P m) j).2) 0)) := rfl
            generalize (payS (shrL P m) (rstL P m) j).1 = A at *
            generalize (payS (shrL P m) (rstL P m) j).2 = B at *
            obtain ⟨hA, hB⟩ := hlen
            have hBi := rowI_slice (c := P.length) HX.out.2.2.1 (by omega)
            rw [hB] at hBi
            have hne : B ≠ [] := by intro e; rw [e] at hB; simp at hB; omega
            have hmem := mxL_mem hne
            have hat := atI_lt hmem
            have HMX := Lib.hid (fun W (h : Ints W (.slice (some ⟨g2, 0, none⟩) P.length P.length) B) => max_any B _ W (by omega) h)
            have HIX := Lib.hid (fun W (h : Ints W (.slice (some ⟨g2, 0, none⟩) P.length P.length) B) => idx_any B _ _ W hmem h)
            have HBi := Lib.hid hBi
            clear hBi hne hmem
            generalize mxL B = mx at *
            generalize atI mx B = q at *
            have hq : q < P.length := by omega
            obtain ⟨r1, r2, r3, r4⟩ := HX.out.cells hq
            have hn12 := HX.out.1.1
            have hv := hbd.1 (A.getD q 0) (by rw [List.getD_eq_getElem?_getD, List.getElem?_eq_getElem (by omega), Option.getD_some]; exact List.getElem_mem _)
            have e2 : ∀ u, (wr.setCell ⟨g1, q, none⟩ u).cell? ⟨g2, q, none⟩ = some (iv (B.getD q 0)) := fun u => (cset_far (Ne.symm hn12)).trans r2
            have e4 : ∀ u, (wr.setCell ⟨g1, q, none⟩ u).frozen? ⟨g2, q, none⟩ = false := fun u => (fset_far (Ne.symm hn12)).trans r4
            generalize A.getD q 0 = va at *
            generalize B.getD q 0 = vb at *
            have hw : IntKind.i64.wrap (va + 1) = va + 1 := IntWalk.i64_in _ ⟨by omega, by omega⟩
            have i0 : (0 : Int) ≤ (q : Int) := by omega
            have i1 : (q : Int) < (P.length : Int) := by omega
            have j1 : (j : Int) < m - T := by omega
            clear hbd hv hA hB hat hn12
            go_wp2_with fail
            refine (HMX.out _ HBi.out).mono ?_
            rintro e w5 ⟨rfl, rfl⟩
            go_wp2_with fail
            refine (HIX.out _ HBi.out).mono ?_
            rintro e w6 ⟨rfl, rfl⟩
            go_wp2_with fail
            go_roundw
            case rel =>
              refine ⟨j + 1, by omega, by go_num, ?_⟩
              rw [HNX.out]
              exact HX.out.set _ _ _ _
            case measure => simp [intOf]; omega
          · obtain rfl : j = M := by omega
            have j1 : ¬ ((j : Int) < m - T) := by omega
            go_wp2_with fail
            go_ret
            rw [HPAY.out]
            exact ⟨g1, HX.out.1.2.1, rfl, HX.out.2.1, HX.out.2.2.2.1⟩
end Go.Proofs.Ytfdahmdehmhllaa
