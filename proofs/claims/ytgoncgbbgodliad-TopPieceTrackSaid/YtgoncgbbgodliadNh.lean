/- Package theft: how long a piece was at least; Least. -/
import Derived.Test.YtgoncgbbgodliadNg
import Derived.Test.YtgoncgbbgodliadSj
import Derived.Deep.RegionLaw
namespace Go.Proofs.Ytgoncgbbgodliad
open Go Go.RowKit Go.Shelf
attribute [local go_sem] Oper.semAt_some
attribute [local go_sem ↓] Go.wp_at_zero Go.wp_at_succ

/-- What x becomes when it is washed. -/
def wsh (r x : Int) : Int := x - x * r / 1000
def befGo (r y : Int) : Nat → Int → Int
  | 0, x => x
  | f + 1, x => if wsh r x < y then befGo r y f (x + 1) else x
/-- The least length that becomes so long. -/
def bef (r y : Int) : Int := befGo r y y.toNat y
/-- So long before n washings. -/
def lstN (r y : Int) : Nat → Int
  | 0 => y
  | n + 1 => bef r (lstN r y n)
theorem wsh_two {r y : Int} (hr : 0 ≤ r ∧ r ≤ 500) (hy : 0 ≤ y) : y ≤ wsh r (2 * y) := by
  unfold wsh
  have h1 : 2 * y * r ≤ y * 1000 := by
    rw [Int.mul_comm 2 y, Int.mul_assoc]
    exact Int.mul_le_mul_of_nonneg_left (by omega) hy
  have h2 : 0 ≤ 2 * y * r := Int.mul_nonneg (by omega) hr.1
  generalize 2 * y * r = m at *
  omega
theorem befGo_spec {r y : Int} (hr : 0 ≤ r ∧ r ≤ 500) (hy : 0 ≤ y) : ∀ (f : Nat) (x : Int), y ≤ x → x + f = 2 * y → y ≤ wsh r (befGo r y f x) ∧ x ≤ befGo r y f x ∧ befGo r y f x ≤ 2 * y ∧ ∀ z, x ≤ z → z < befGo r y f x → wsh r z < y
  | 0, x, h1, h2 => by
    obtain rfl : x = 2 * y := by omega
    exact ⟨wsh_two hr hy, Int.le_refl _, Int.le_refl _, fun z h3 h4 => by simp only [befGo] at h4; omega⟩
  | f + 1, x, h1, h2 => by
    unfold befGo
    split
    · rename_i hlt
      obtain ⟨a, b, c, d⟩ := befGo_spec hr hy f (x + 1) (by omega) (by omega)
      exact ⟨a, by omega, c, fun z h3 h4 => by
        by_cases hz : z = x
        · rw [hz]; exact hlt
        · exact d z (by omega) h4⟩
    · exact ⟨by omega, Int.le_refl _, by omega, fun z h3 h4 => by omega⟩
theorem bef_spec {r y : Int} (hr : 0 ≤ r ∧ r ≤ 500) (hy : 0 ≤ y) : y ≤ wsh r (bef r y) ∧ y ≤ bef r y ∧ bef r y ≤ 2 * y ∧ ∀ z, y ≤ z → z < bef r y → wsh r z < y :=
  befGo_spec hr hy y.toNat y (Int.le_refl _) (by omega)
theorem lstN_bd {r y : Int} (hr : 0 ≤ r ∧ r ≤ 500) (hy : 1 ≤ y ∧ y ≤ 600) : ∀ n : Nat, y ≤ lstN r y n ∧ lstN r y n ≤ 600 * 2 ^ n
  | 0 => by simp [lstN]; omega
  | n + 1 => by
    obtain ⟨h1, h2⟩ := lstN_bd hr hy n
    obtain ⟨-, a, b, -⟩ := bef_spec (y := lstN r y n) hr (by omega)
    have e : (600 : Int) * 2 ^ (n + 1) = 2 * (600 * 2 ^ n) := by rw [Int.pow_succ]; omega
    rw [e, lstN]; omega

set_option maxRecDepth 20000 in
set_option maxHeartbeats 3200000 in
theorem before_any (y r : Int) (w : World) (hy : 0 ≤ y ∧ y ≤ 1000000) (hr : 0 ≤ r ∧ r ≤ 500) :
    Calls Try.prog 29 #[iv y, iv r] w fun e w' => e = .returned (iv (bef r y)) ∧ Below w.heap.size w w' := by
  have HW2 := Lib.hid (wsh_two hr hy.1)
  go_enter Try.func29, Try.ntmps29
  go_wp2_with fail
  go_loopw [5] (fun v wr => ∃ (x : Int) (f : Nat), y ≤ x ∧ Hid (x + (f : Int) = 2 * y) ∧ v = iv x ∧ Hid (bef r y = befGo r y f x) ∧ Hid (Below w.heap.size w wr)) (fun v _ => (2 * y + 1 - intOf v).toNat)
  case atStart => exact ⟨y, y.toNat, Int.le_refl _, by simp only [Hid]; omega, rfl, rfl, Below.refl _ _⟩
  case round =>
    obtain ⟨x, f, hx, HF, rfl, HV, HB⟩ := hrel
    have hx2 : x ≤ 2 * y := by have := HF.out; omega
    have m0 : 0 ≤ x * r := Int.mul_nonneg (by omega) hr.1
    have m1 : x * r ≤ 2000000 * 500 := Int.mul_le_mul (by omega) hr.2 hr.1 (by omega)
    have HWX : Hid (wsh r x = x - x * r / 1000) := rfl
    generalize hm : x * r = m at *
    have d0 : m.tdiv 1000 = m / 1000 := Int.tdiv_eq_ediv_of_nonneg m0
    have g0 : IntKind.i64.wrap m = m := IntWalk.i64_in _ ⟨by omega, by omega⟩
    have g1 : IntKind.i64.wrap (m / 1000) = m / 1000 := IntWalk.i64_in _ ⟨by omega, by omega⟩
    have g2 : IntKind.i64.wrap (x - m / 1000) = x - m / 1000 := IntWalk.i64_in _ ⟨by omega, by omega⟩
    have g3 : IntKind.i64.wrap (x + 1) = x + 1 := IntWalk.i64_in _ ⟨by omega, by omega⟩
    by_cases hlt : x - m / 1000 < y
    · have HNX : Hid (∃ f' : Nat, x + 1 + (f' : Int) = 2 * y ∧ bef r y = befGo r y f' (x + 1)) := by
        have h1 := HF.out; have h2 := HV.out; have h3 := HWX.out
        rcases f with _ | f
        · obtain rfl : x = 2 * y := by omega
          have := HW2.out
          rw [h3] at this; omega
        · refine ⟨f, by omega, ?_⟩
          rw [h2, befGo, if_pos (by rw [h3]; exact hlt)]
      obtain ⟨f', hf1, hf2⟩ := HNX.out
      have HF1 := Lib.hid hf1; have HF2 := Lib.hid hf2
      have HM : Hid ((2 * y + 1 - (x + 1)).toNat < (2 * y + 1 - x).toNat) := by simp only [Hid]; omega
      clear hf1 hf2
      go_wp2_with fail
      go_roundw
      case rel => exact ⟨x + 1, f', by omega, HF1, by go_num, HF2, HB⟩
      case measure => simpa [intOf] using HM.out
    · have HE : Hid (bef r y = x) := by
        have h2 := HV.out; have h3 := HWX.out
        simp only [Hid]; rw [h2]
        rcases f with _ | f
        · rfl
        · rw [befGo, if_neg (by rw [h3]; exact hlt)]
      go_wp2_with fail
      go_ret
      exact ⟨by rw [HE.out]; rfl, HB.out⟩

theorem vTc_iff {c : Tc} (h : vTc c = true) : (1 ≤ c.ll ∧ c.ll ≤ c.lh ∧ c.lh ≤ 600) ∧ (0 ≤ c.rl ∧ c.rl ≤ 100) ∧ (1 ≤ c.tl ∧ c.tl ≤ c.th ∧ c.th ≤ 99) := by
  simp only [vTc, vSpan, Bool.and_eq_true, okSpan_iff, inB_iff] at h
  omega
theorem vTp_iff {p : Tp} (h : vTp p = true) : (1 ≤ p.lo ∧ p.lo ≤ 600) ∧ (0 ≤ p.off ∧ p.off ≤ 20) ∧ (1 ≤ p.th ∧ p.th ≤ 99) ∧ (0 ≤ p.wl ∧ p.wl ≤ p.wh ∧ p.wh ≤ 5) := by
  simp only [vTp, Bool.and_eq_true, okSpan_iff, inB_iff] at h
  omega
/-- How long a piece was at least, if it is of a cloth. -/
def leastI (p : Tp) (c : Tc) : Int := lstN c.rl (max 1 (p.lo - p.off)) p.wl.toNat
theorem leastI_bd {p : Tp} {c : Tc} (hp : vTp p = true) (hc : vTc c = true) : 1 ≤ leastI p c ∧ leastI p c ≤ 19200 := by
  obtain ⟨p1, p2, -, p4⟩ := vTp_iff hp
  obtain ⟨-, c2, -⟩ := vTc_iff hc
  obtain ⟨h1, h2⟩ := lstN_bd (r := c.rl) (y := max 1 (p.lo - p.off)) ⟨c2.1, by omega⟩ ⟨by omega, by omega⟩ p.wl.toNat
  refine ⟨by unfold leastI; omega, Int.le_trans h2 ?_⟩
  have h3 : p.wl.toNat ≤ 5 := by omega
  generalize p.wl.toNat = n at h3
  rcases n with _ | _ | _ | _ | _ | _ | n <;> first | decide | omega
set_option maxRecDepth 20000 in
set_option maxHeartbeats 6400000 in
theorem least_any (p : Tp) (c : Tc) (w : World) (hp : vTp p = true) (hc : vTc c = true) :
    Calls Try.prog 16 #[.agg (encTp p).toArray, .agg (encTc c).toArray] w fun e w' => e = .returned (iv (leastI p c)) ∧ Below w.heap.size w w' := by
  obtain ⟨p1, p2, -, p4⟩ := vTp_iff hp
  obtain ⟨-, c2, -⟩ := vTc_iff hc
  have HLB := Lib.hid (lstN_bd (r := c.rl) (y := max 1 (p.lo - p.off)) ⟨c2.1, by omega⟩ ⟨by omega, by omega⟩)
  have HLI : Hid (leastI p c = lstN c.rl (max 1 (p.lo - p.off)) p.wl.toNat) := rfl
  clear hp hc
  obtain ⟨lo, off, th, wl, wh, pm, le, ri⟩ := p
  obtain ⟨ll, lh, rl, rh, tl, tth, cm⟩ := c
  dsimp only at p1 p2 p4 c2 HLB HLI
  obtain ⟨wn, rfl⟩ := Int.eq_ofNat_of_zero_le p4.1
  rw [Int.toNat_natCast] at HLI
  have hwn : wn ≤ 5 := by omega
  obtain ⟨w0, hw0⟩ : ∃ W : World, (w.alloc (.cells #[iv lo, iv off, iv th, iv wn, iv wh, .string pm, .string le, .string ri] 39)).alloc (.cells #[iv ll, iv lh, iv rl, iv rh, iv tl, iv tth, .string cm] 44) = W := ⟨_, rfl⟩
  have HB0 : Hid (Below w.heap.size w w0) := by rw [← hw0]; exact bpush (bpush (Below.refl _ _) _) _
  have HR0 : Hid (w0.heap[w.heap.size]? = some (.cells #[iv lo, iv off, iv th, iv wn, iv wh, .string pm, .string le, .string ri] 39 (0, 0))) := by rw [← hw0]; exact (Below.heap_alloc _ _ _ (by simp)).trans (heap_new _ _ _)
  have HR1 : Hid (w0.heap[w.heap.size + 1]? = some (.cells #[iv ll, iv lh, iv rl, iv rh, iv tl, iv tth, .string cm] 44 (0, 0))) := by rw [← hw0]; exact heapA (by simp)
  have hz1 : w.heap.size + 1 < w0.heap.size := (Array.getElem?_eq_some_iff.1 HR1.out).1
  have c0 : w0.cell? ⟨w.heap.size, 0, none⟩ = some (iv lo) := by rw [cell_of_row _ _ _ _ _ _ HR0.out]; rfl
  have c1 : w0.cell? ⟨w.heap.size, 1, none⟩ = some (iv off) := by rw [cell_of_row _ _ _ _ _ _ HR0.out]; rfl
  have c3 : w0.cell? ⟨w.heap.size, 3, none⟩ = some (iv wn) := by rw [cell_of_row _ _ _ _ _ _ HR0.out]; rfl
  have g0 : IntKind.i64.wrap (lo - off) = lo - off := IntWalk.i64_in _ ⟨by omega, by omega⟩
  have HBF := Lib.hid (fun (y : Int) (W : World) (h1 : 0 ≤ y ∧ y ≤ 1000000) => before_any y rl W h1 ⟨c2.1, by omega⟩)
  simp only [encTp, encTc]
  have HFIN : Hid (∀ W : World, Below w0.heap.size w0 W → W.cell? ⟨w.heap.size + 1, 2, none⟩ = some (iv rl)) := fun W hb => kcellN hb (by rw [cell_of_row _ _ _ _ _ _ HR1.out]; rfl)
  clear HR0 HR1
  by_cases hmx : 1 < lo - off
  · have hy0 : max 1 (lo - off) = lo - off := by omega
    rw [hy0] at HLB HLI
    clear hy0
    go_enter Try.func16, Try.ntmps16
    go_wp2_with fail
    clear hw0 c0 c1 c3
    go_loopw [5, 15] (fun v i wr => ∃ k : Nat, k ≤ wn ∧ i = iv k ∧ v = iv (lstN rl (lo - off) k) ∧ Hid (Below w0.heap.size w0 wr)) (fun _ i _ => wn - (intOf i).toNat)
    case atStart => exact ⟨0, Nat.zero_le _, rfl, rfl, Below.refl _ _⟩
    case round =>
      obtain ⟨k, hk, rfl, rfl, HB⟩ := hrel
      by_cases hlt : k < wn
      · have hlb := HLB.out k
        have h5 : (2 : Int) ^ k ≤ 32 := by
          have : k ≤ 5 := by omega
          rcases k with _ | _ | _ | _ | _ | _ | k <;> first | decide | omega
        have HNX : Hid (lstN rl (lo - off) (k + 1) = bef rl (lstN rl (lo - off) k)) := rfl
        have c2' := HFIN.out _ HB.out
        have HBK := Lib.hid (fun W : World => HBF.out (lstN rl (lo - off) k) W ⟨by omega, by omega⟩)
        have y1 : decide ((k : Int) < (wn : Int)) = true := decide_eq_true (by omega)
        have y2 : decide (k < wn) = true := decide_eq_true hlt
        clear hlb h5
        generalize lstN rl (lo - off) k = y at *
        go_wp2_with fail
        refine (HBK.out _).mono ?_
        rintro e w1 ⟨rfl, hb1⟩
        have HB1 := Lib.hid (bstep HB.out hb1)
        clear hb1
        go_wp2_with fail
        go_roundw
        case rel => exact ⟨k + 1, by omega, by go_num, by rw [HNX.out], HB1⟩
        case measure => simp [intOf]; omega
      · obtain rfl : k = wn := by omega
        have y1 : decide ((k : Int) < (k : Int)) = false := decide_eq_false (by omega)
        go_wp2_with fail
        go_ret
        exact ⟨by rw [HLI.out]; rfl, bstep HB0.out HB.out⟩
  · have hy0 : max 1 (lo - off) = 1 := by omega
    rw [hy0] at HLB HLI
    clear hy0
    go_enter Try.func16, Try.ntmps16
    go_wp2_with fail
    clear hw0 c0 c1 c3
    go_loopw [5, 15] (fun v i wr => ∃ k : Nat, k ≤ wn ∧ i = iv k ∧ v = iv (lstN rl (1) k) ∧ Hid (Below w0.heap.size w0 wr)) (fun _ i _ => wn - (intOf i).toNat)
    case atStart => exact ⟨0, Nat.zero_le _, rfl, rfl, Below.refl _ _⟩
    case round =>
      obtain ⟨k, hk, rfl, rfl, HB⟩ := hrel
      by_cases hlt : k < wn
      · have hlb := HLB.out k
        have h5 : (2 : Int) ^ k ≤ 32 := by
          have : k ≤ 5 := by omega
          rcases k with _ | _ | _ | _ | _ | _ | k <;> first | decide | omega
        have HNX : Hid (lstN rl (1) (k + 1) = bef rl (lstN rl (1) k)) := rfl
        have c2' := HFIN.out _ HB.out
        have HBK := Lib.hid (fun W : World => HBF.out (lstN rl (1) k) W ⟨by omega, by omega⟩)
        have y1 : decide ((k : Int) < (wn : Int)) = true := decide_eq_true (by omega)
        have y2 : decide (k < wn) = true := decide_eq_true hlt
        clear hlb h5
        generalize lstN rl (1) k = y at *
        go_wp2_with fail
        refine (HBK.out _).mono ?_
        rintro e w1 ⟨rfl, hb1⟩
        have HB1 := Lib.hid (bstep HB.out hb1)
        clear hb1
        go_wp2_with fail
        go_roundw
        case rel => exact ⟨k + 1, by omega, by go_num, by rw [HNX.out], HB1⟩
        case measure => simp [intOf]; omega
      · obtain rfl : k = wn := by omega
        have y1 : decide ((k : Int) < (k : Int)) = false := decide_eq_false (by omega)
        go_wp2_with fail
        go_ret
        exact ⟨by rw [HLI.out]; rfl, bstep HB0.out HB.out⟩
end Go.Proofs.Ytgoncgbbgodliad
