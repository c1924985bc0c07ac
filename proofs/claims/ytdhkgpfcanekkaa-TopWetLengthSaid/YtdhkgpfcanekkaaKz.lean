/- A cloth made of bytes with a truth: ElmBolt.truth, at, made; elmAfter. -/
import Derived.Test.YtdhkgpfcanekkaaKu
import Derived.Test.YtdhkgpfcanekkaaMc
namespace Go.Proofs.Ytdhkgpfcanekkaa
open Go Go.RowKit Go.Shelf
attribute [local go_sem ↓] Go.wp_at_zero Go.wp_at_succ

/-- What a quantity truly was at first, and its true rate. -/
def ebF (b : Nat → Int) (i : Nat) : Int := 60 + b (4 * i)
def ebR (b : Nat → Int) (i : Nat) : Int := 2 + b (4 * i + 1) % 40
def ebT (b : Nat → Int) (i : Nat) : Tk := ⟨ebF b i - b (4 * i + 2) % 9, ebF b i + b (4 * i + 2) / 16 % 9, ebR b i - b (4 * i + 3) % 3, ebR b i + b (4 * i + 3) / 16 % 4⟩
/-- What it truly is at an hour. -/
def ebA (b : Nat → Int) (i h : Nat) : Int := aft (ebF b i) (ebR b i) h
theorem ebT_valid {b : Nat → Int} (hb : ∀ i, 0 ≤ b i ∧ b i ≤ 255) (i : Nat) : vTrack (ebT b i) = true := by
  have h0 := hb (4 * i); have h1 := hb (4 * i + 1); have h2 := hb (4 * i + 2); have h3 := hb (4 * i + 3)
  simp only [vTrack, vRate, Bool.and_eq_true, vSpan_iff, ebT, ebF, ebR]
  omega
theorem ebT_in {b : Nat → Int} (hb : ∀ i, 0 ≤ b i ∧ b i ≤ 255) (i h : Nat) : (qAt (ebT b i) h).1 ≤ ebA b i h ∧ ebA b i h ≤ (qAt (ebT b i) h).2 := by
  have h0 := hb (4 * i); have h1 := hb (4 * i + 1); have h2 := hb (4 * i + 2); have h3 := hb (4 * i + 3)
  have hm : (ebF b i, ebR b i) ∈ crs (ebT b i) := mem_crs (by simp only [ebT, ebF, ebR]; omega) (by simp only [ebT, ebF, ebR]; omega) (by simp only [ebT, ebF, ebR]; omega) (by simp only [ebT, ebF, ebR]; omega)
  have hne : ((crs (ebT b i)).map fun p => aft p.1 p.2 h) ≠ [] := by
    intro e; rw [List.map_eq_nil_iff] at e; rw [e] at hm; cases hm
  obtain ⟨-, -, -, h4⟩ := strOf_spec _ hne
  have := h4 (ebA b i h) (List.mem_map.2 ⟨_, hm, rfl⟩)
  exact this

set_option maxRecDepth 20000 in
set_option maxHeartbeats 1600000 in
theorem elmTruth_any (b : Nat → Int) (k : Nat) (w : World) (hb : ∀ i, 0 ≤ b i ∧ b i ≤ 255) (hk : k < 3) :
    Calls Try.prog 17 #[.agg (fyCells b), iv k] w fun e w' => e = .returned (.tuple #[iv (ebF b k), iv (ebR b k)]) ∧ Below w.heap.size w w' := by
  obtain ⟨h0, h0'⟩ := hb (4 * k); obtain ⟨h1, h1'⟩ := hb (4 * k + 1)
  have hF : ebF b k = 60 + b (4 * k) := rfl
  have hR : ebR b k = 2 + b (4 * k + 1) % 40 := rfl
  have t1 : (b (4 * k + 1)).tmod 40 = b (4 * k + 1) % 40 := Int.tmod_eq_emod_of_nonneg h1
  have g0 : IntKind.i64.wrap (b (4 * k)) = b (4 * k) := IntWalk.i64_in _ ⟨by omega, by omega⟩
  have g1 : IntKind.i64.wrap (b (4 * k + 1)) = b (4 * k + 1) := IntWalk.i64_in _ ⟨by omega, by omega⟩
  have g2 : IntKind.i64.wrap (60 + b (4 * k)) = 60 + b (4 * k) := IntWalk.i64_in _ ⟨by omega, by omega⟩
  have g3 : IntKind.i64.wrap (2 + b (4 * k + 1) % 40) = 2 + b (4 * k + 1) % 40 := IntWalk.i64_in _ ⟨by omega, by omega⟩
  obtain ⟨Wn, hWn⟩ : ∃ Wn : World, w.alloc (.cells (fyCells b) 25) = Wn := ⟨_, rfl⟩
  have hBw : Below w.heap.size w Wn := by rw [← hWn]; exact bpush (Below.refl _ _) _
  have hrw : Wn.heap[w.heap.size]? = some (.cells (fyCells b) 25 (0, 0)) := by rw [← hWn]; exact heap_new _ _ _
  have HBW := Lib.hid hBw
  have i0 : (0 : Int) ≤ (k : Int) := by omega
  have i1 : (k : Int) < 3 := by omega
  have x0 : Wn.cell? ⟨w.heap.size, k * 4, none⟩ = some (u8 (b (4 * k))) := by
    rw [cell_of_row _ _ _ _ _ _ hrw]; obtain rfl | rfl | rfl : k = 0 ∨ k = 1 ∨ k = 2 := by omega
    all_goals rfl
  have x1 : Wn.cell? ⟨w.heap.size, k * 4 + 1, none⟩ = some (u8 (b (4 * k + 1))) := by
    rw [cell_of_row _ _ _ _ _ _ hrw]; obtain rfl | rfl | rfl : k = 0 ∨ k = 1 ∨ k = 2 := by omega
    all_goals rfl
  have x2 : Wn.cell? ⟨w.heap.size, k * 4 + 2, none⟩ = some (u8 (b (4 * k + 2))) := by
    rw [cell_of_row _ _ _ _ _ _ hrw]; obtain rfl | rfl | rfl : k = 0 ∨ k = 1 ∨ k = 2 := by omega
    all_goals rfl
  have x3 : Wn.cell? ⟨w.heap.size, k * 4 + 3, none⟩ = some (u8 (b (4 * k + 3))) := by
    rw [cell_of_row _ _ _ _ _ _ hrw]; obtain rfl | rfl | rfl : k = 0 ∨ k = 1 ∨ k = 2 := by omega
    all_goals rfl
  simp only [fyCells] at hWn ⊢
  rw [hF, hR]
  clear hrw hBw hb hF hR
  generalize b (4 * k) = q0 at *
  generalize b (4 * k + 1) = q1 at *
  generalize b (4 * k + 2) = q2 at *
  generalize b (4 * k + 3) = q3 at *
  go_enter Try.func17, Try.ntmps17
  go_wp2_with fail
  go_quiet (fail)
  go_wp2_with fail
  exact bodyPost_ret (v := .tuple #[iv (60 + q0), iv (2 + q1 % 40)]) (by simp [results, Try.results17, go_sem]) rfl ⟨rfl, by repeat (first | exact HBW.out | refine Below.drew ?_ | refine bdrewN ?_ _ | refine bpush ?_ _)⟩

set_option maxRecDepth 20000 in
set_option maxHeartbeats 1600000 in
theorem elmAfter_any (x r : Int) (h : Nat) (w : World) (hx : 0 ≤ x) (hx' : x ≤ 1000000) (hr : 0 ≤ r) (hr' : r ≤ 1000) (hh : h ≤ 1000000) :
    Calls Try.prog 22 #[iv x, iv r, iv h] w fun e w' => e = .returned (iv (aft x r h)) ∧ Below w.heap.size w w' := by
  go_enter Try.func22, Try.ntmps22
  go_wp2_with fail
  go_loopw [0, 7] (fun v i wr => ∃ k : Nat, k ≤ h ∧ i = iv k ∧ v = iv (aft x r k) ∧ Below w.heap.size w wr) (fun _ i _ => h - (intOf i).toNat)
  case atStart => exact ⟨0, Nat.zero_le _, rfl, rfl, Below.refl _ _⟩
  case round =>
    obtain ⟨k, hk, rfl, rfl, hbw⟩ := hrel
    by_cases hlt : k < h
    · obtain ⟨y0, y1⟩ := aft_bd hx hr hr' k
      have hn : aft x r (k + 1) = aft x r k - aft x r k * r / 1000 := rfl
      have HN := Lib.hid hn; clear hn
      generalize aft x r k = y at *
      have m0 : 0 ≤ y * r := Int.mul_nonneg y0 hr
      have m1 : y * r ≤ 1000000 * 1000 := Int.mul_le_mul (by omega) hr' hr (by omega)
      generalize hm : y * r = m at *
      have d0 : m.tdiv 1000 = m / 1000 := Int.tdiv_eq_ediv_of_nonneg m0
      have g0 : IntKind.i64.wrap m = m := IntWalk.i64_in _ ⟨by omega, by omega⟩
      have g1 : IntKind.i64.wrap (m / 1000) = m / 1000 := IntWalk.i64_in _ ⟨by omega, by omega⟩
      have g2 : IntKind.i64.wrap (y - m / 1000) = y - m / 1000 := IntWalk.i64_in _ ⟨by omega, by omega⟩
      have hlt' : (k : Int) < (h : Int) := by omega
      go_wp2_with fail
      go_roundw
      case rel =>
        exact ⟨k + 1, by omega, by go_num, by rw [HN.out], hbw⟩
      case measure => simp [intOf]; omega
    · obtain rfl : k = h := by omega
      go_wp2_with fail
      go_ret
      exact ⟨rfl, hbw⟩

set_option maxRecDepth 20000 in
set_option maxHeartbeats 1600000 in
theorem elmAt_any (b : Nat → Int) (k h : Nat) (w : World) (hb : ∀ i, 0 ≤ b i ∧ b i ≤ 255) (hk : k < 3) (hh : h ≤ 1000000) :
    Calls Try.prog 9 #[.agg (fyCells b), iv k, iv h] w fun e w' => e = .returned (iv (ebA b k h)) ∧ Below w.heap.size w w' := by
  obtain ⟨h0, h0'⟩ := hb (4 * k); obtain ⟨h1, h1'⟩ := hb (4 * k + 1)
  have bF : 0 ≤ ebF b k ∧ ebF b k ≤ 1000000 := by simp only [ebF]; omega
  have bR : 0 ≤ ebR b k ∧ ebR b k ≤ 1000 := by simp only [ebR]; omega
  have HBN := Lib.hid hb
  have HA : Hid (aft (ebF b k) (ebR b k) h = ebA b k h) := rfl
  obtain ⟨Wn, hWn⟩ : ∃ Wn : World, w.alloc (.cells (fyCells b) 25) = Wn := ⟨_, rfl⟩
  have hBw : Below w.heap.size w Wn := by rw [← hWn]; exact bpush (Below.refl _ _) _
  have hrw : Wn.heap[w.heap.size]? = some (.cells (fyCells b) 25 (0, 0)) := by rw [← hWn]; exact heap_new _ _ _
  have HBW := Lib.hid hBw
  have l0 : Wn.cell? ⟨w.heap.size, 0, none⟩ = some (u8 (b 0)) := by rw [cell_of_row _ _ _ _ _ _ hrw]; rfl
  have l1 : Wn.cell? ⟨w.heap.size, 1, none⟩ = some (u8 (b 1)) := by rw [cell_of_row _ _ _ _ _ _ hrw]; rfl
  have l2 : Wn.cell? ⟨w.heap.size, 2, none⟩ = some (u8 (b 2)) := by rw [cell_of_row _ _ _ _ _ _ hrw]; rfl
  have l3 : Wn.cell? ⟨w.heap.size, 3, none⟩ = some (u8 (b 3)) := by rw [cell_of_row _ _ _ _ _ _ hrw]; rfl
  have l4 : Wn.cell? ⟨w.heap.size, 4, none⟩ = some (u8 (b 4)) := by rw [cell_of_row _ _ _ _ _ _ hrw]; rfl
  have l5 : Wn.cell? ⟨w.heap.size, 5, none⟩ = some (u8 (b 5)) := by rw [cell_of_row _ _ _ _ _ _ hrw]; rfl
  have l6 : Wn.cell? ⟨w.heap.size, 6, none⟩ = some (u8 (b 6)) := by rw [cell_of_row _ _ _ _ _ _ hrw]; rfl
  have l7 : Wn.cell? ⟨w.heap.size, 7, none⟩ = some (u8 (b 7)) := by rw [cell_of_row _ _ _ _ _ _ hrw]; rfl
  have l8 : Wn.cell? ⟨w.heap.size, 8, none⟩ = some (u8 (b 8)) := by rw [cell_of_row _ _ _ _ _ _ hrw]; rfl
  have l9 : Wn.cell? ⟨w.heap.size, 9, none⟩ = some (u8 (b 9)) := by rw [cell_of_row _ _ _ _ _ _ hrw]; rfl
  have l10 : Wn.cell? ⟨w.heap.size, 10, none⟩ = some (u8 (b 10)) := by rw [cell_of_row _ _ _ _ _ _ hrw]; rfl
  have l11 : Wn.cell? ⟨w.heap.size, 11, none⟩ = some (u8 (b 11)) := by rw [cell_of_row _ _ _ _ _ _ hrw]; rfl
  simp only [fyCells] at hWn ⊢
  clear hrw hBw h0 h0' h1 h1' hb
  go_enter Try.func9, Try.ntmps9
  go_wp2_with fail
  refine (elmTruth_any b k _ HBN.out hk).mono ?_
  rintro e w1 ⟨rfl, hb1⟩
  have HB1 := Lib.hid (bstep HBW.out hb1)
  clear hb1 l0 l1 l2 l3 l4 l5 l6 l7 l8 l9 l10 l11
  go_wp2_with fail
  refine (elmAfter_any _ _ h _ bF.1 bF.2 bR.1 bR.2 hh).mono ?_
  rintro e w2 ⟨rfl, hb2⟩
  rw [HA.out]
  go_wp2_with fail
  go_ret
  exact ⟨rfl, bstep HB1.out hb2⟩
end Go.Proofs.Ytdhkgpfcanekkaa
