/- quantity.courses of package cloth: the iterator. -/
import Derived.Test.YtdhkgpfcanekkaaAga
namespace Go.Proofs.Ytdhkgpfcanekkaa
open Go Go.RowKit
attribute [local go_sem] Oper.semAt_some

def ups (lo : Int) (n : Nat) : List Int := (List.range n).map fun (i : Nat) => lo + (i : Int)
theorem ups_zero (lo : Int) : ups lo 0 = [] := rfl
theorem ups_succ (lo : Int) (n : Nat) : ups lo (n + 1) = ups lo n ++ [lo + (n : Int)] := by simp [ups, List.range_succ]
/-- The first x rates, with one length. -/
def rowOf (t : Tk) (x : Int) (n : Nat) : List (Int × Int) := (ups t.rl n).map fun r => (x, r)
def crsTo (t : Tk) (i : Nat) : List (Int × Int) := (ups t.fl i).flatMap fun x => rowOf t x (t.rh + 1 - t.rl).toNat
/-- All lengths with all rates, in their order. -/
def crs (t : Tk) : List (Int × Int) := crsTo t (t.fh + 1 - t.fl).toNat
theorem crsTo_succ (t : Tk) (i : Nat) : crsTo t (i + 1) = crsTo t i ++ rowOf t (t.fl + (i : Int)) (t.rh + 1 - t.rl).toNat := by simp [crsTo, ups_succ]
theorem rowOf_succ (t : Tk) (x : Int) (n : Nat) : rowOf t x (n + 1) = rowOf t x n ++ [(x, t.rl + (n : Int))] := by simp [rowOf, ups_succ]
theorem ups_prefix (lo : Int) {a b : Nat} (h : a ≤ b) : ups lo a <+: ups lo b := by
  obtain ⟨c, rfl⟩ := Nat.le.dest h
  simp only [ups, List.range_add, List.map_append]
  exact List.prefix_append _ _
theorem rowOf_prefix (t : Tk) (x : Int) {a b : Nat} (h : a ≤ b) : rowOf t x a <+: rowOf t x b := by
  obtain ⟨c, hc⟩ := ups_prefix t.rl h
  exact ⟨c.map fun r => (x, r), by rw [rowOf, rowOf, ← hc, List.map_append]⟩
theorem crsTo_prefix (t : Tk) {a b : Nat} (h : a ≤ b) : crsTo t a <+: crsTo t b := by
  obtain ⟨c, hc⟩ := ups_prefix t.fl h
  exact ⟨_, by rw [crsTo, crsTo, ← hc, List.flatMap_append]⟩
theorem crs_prefix (t : Tk) {i j : Nat} (hi : i < (t.fh + 1 - t.fl).toNat) (hj : j < (t.rh + 1 - t.rl).toNat) : (crsTo t i ++ rowOf t (t.fl + (i : Int)) j) ++ [(t.fl + (i : Int), t.rl + (j : Int))] <+: crs t := by
  refine List.IsPrefix.trans ?_ (crsTo_prefix t (show i + 1 ≤ (t.fh + 1 - t.fl).toNat from hi))
  rw [crsTo_succ, List.append_assoc, ← rowOf_succ]
  exact List.prefix_append_right_inj _ |>.2 (rowOf_prefix t _ hj)

theorem vSpan_iff {l h lo hi apart : Int} : vSpan l h lo hi apart = true ↔ lo ≤ l ∧ l ≤ hi ∧ lo ≤ h ∧ h ≤ hi ∧ 0 ≤ h - l ∧ h - l ≤ apart := by simp [vSpan, inB]; omega

set_option maxRecDepth 20000 in
set_option maxHeartbeats 3200000 in
theorem courses_seq (S : Nat → Prop) (Bq : Nat) (hSq : S Bq) (t : Tk) (what : Int) (mv : Value) (ht : vTrack t = true) (w0 : World) (hS : ∀ k, S k → k < w0.heap.size)
    (hq : w0.heap[Bq]? = some (.cells (qcells t what mv) 56 (0, 0))) :
    SeqL Try.prog 53 #[.pointer (some ⟨Bq, 0, none⟩)] (fun (p : Int × Int) => #[tval p.1 p.2]) S (crs t) w0 := by
  intro n l J Jx W hW hJ hJx hY h0
  simp only [vTrack, vRate, Bool.and_eq_true, vSpan_iff] at ht
  obtain ⟨⟨h1, h2, h3, h4, h5, h6⟩, h7, h8, h9, h10, h11, h12⟩ := ht
  have hcell : ∀ (wr : World), SameOn S W wr → (wr.cell? ⟨Bq, 0, none⟩ = some (iv t.fl) ∧ wr.cell? ⟨Bq, 1, none⟩ = some (iv t.fh) ∧ wr.cell? ⟨Bq, 2, none⟩ = some (iv t.rl) ∧ wr.cell? ⟨Bq, 3, none⟩ = some (iv t.rh)) := by
    intro wr hs
    have hb := ((hW.trans hs).block Bq hSq).trans hq
    refine ⟨?_, ?_, ?_, ?_⟩ <;> rw [cell_of_row _ _ _ _ _ _ hb] <;> rfl
  have HC := Lib.hid hcell; clear hcell
  have HY := Lib.hid hY; clear hY
  have HJ := Lib.hid hJ; clear hJ
  have HX := Lib.hid hJx; clear hJx
  have HS := Lib.hid (show ∀ k, S k → k < W.heap.size from fun k hk => Nat.lt_of_lt_of_le (hS k hk) hW.size); clear hS
  clear hq hW
  obtain ⟨c0, c1, c2, c3⟩ := HC.out W (SameOn.refl _ _)
  refine callsIn_of_wp Try.func53 rfl trivial ?_ rfl
  simp only [Try.ntmps53, List.size_toArray, List.length_cons, List.length_nil, Nat.reduceAdd, Nat.reduceSub, Array.replicate_succ, Array.replicate_zero, List.push_toArray, List.append_toArray, List.nil_append, List.cons_append]
  gi_wp2
  gi_loopw [3, 4] (fun f _ wr => ∃ i : Nat, i ≤ (t.fh + 1 - t.fl).toNat ∧ f = iv (t.fl + (i : Int)) ∧ SameOn S W wr ∧ J noBlock (crsTo t i) wr) (fun f _ _ => (t.fh + 1 - intOf f).toNat)
  case atStart => exact ⟨0, Nat.zero_le _, by simp, SameOn.refl _ _, h0⟩
  case round =>
    obtain ⟨i, hi, rfl, hsr, hj⟩ := hrel
    have HJr := Lib.hid hj; clear hj
    have HSr := Lib.hid hsr; clear hsr
    obtain ⟨d0, d1, d2, d3⟩ := HC.out wr HSr.out
    by_cases hlt : i < (t.fh + 1 - t.fl).toNat
    · have hle : t.fl + (i : Int) ≤ t.fh := by omega
      gi_wp2
      obtain ⟨wo, rfl⟩ : ∃ wo : World, wo = wr := ⟨_, rfl⟩
      gi_loopw [4] (fun r wr => ∃ j : Nat, j ≤ (t.rh + 1 - t.rl).toNat ∧ r = iv (t.rl + (j : Int)) ∧ SameOn S W wr ∧ J noBlock (crsTo t i ++ rowOf t (t.fl + (i : Int)) j) wr) (fun r _ => (t.rh + 1 - intOf r).toNat)
      case atStart => exact ⟨0, Nat.zero_le _, by simp, HSr.out, by simpa [rowOf, ups] using HJr.out⟩
      case round =>
        obtain ⟨j, hjj, rfl, hsr, hj⟩ := hrel
        have HJ2 := Lib.hid hj; clear hj
        have HS2 := Lib.hid hsr; clear hsr
        clear d0 d1 d2 d3 c0 c1 c2 c3
        obtain ⟨d0, d1, d2, d3⟩ := HC.out wr HS2.out
        by_cases hlt2 : j < (t.rh + 1 - t.rl).toNat
        · have hle2 : t.rl + (j : Int) ≤ t.rh := by omega
          gi_wp2_with fail
          refine (callsIn_wide.2 (course_any (t.fl + (i : Int)) (t.rl + (j : Int)) wr (by omega) (by omega) (by omega) (by omega))).mono ?_
          rintro e w1 ⟨rfl, hb1⟩
          have hsw : W.heap.size ≤ wr.heap.size := HS2.out.size
          have hs1 : SameOn S wr w1 := SameOn.of_below hb1 (fun k hk => Nat.lt_of_lt_of_le (HS.out k hk) hsw)
          have hj1 : J noBlock (crsTo t i ++ rowOf t (t.fl + (i : Int)) j) w1 := (HJ.out _).turn _ _ _ (fun _ h => h.elim) hsw HJ2.out (Turn.of_below hb1)
          obtain ⟨fn, tmps, assign, body, hy, hR⟩ := HY.out noBlock _ (t.fl + (i : Int), t.rl + (j : Int)) w1 (fun _ h => h.elim) (crs_prefix t hlt hlt2) hj1 (Nat.le_trans hsw hb1.size) (fun _ h => h.elim)
          have HR := Lib.hid hR; clear hR
          have HS1 := Lib.hid hs1; clear hs1
          clear hj1 hb1 d0 d1 d2 d3
          dsimp only at hy
          gi_wp2_with fail
          refine HR.out.mono ?_
          rintro e w2 (⟨rfl, hj2, hk2⟩ | ⟨rfl, hx2, hk2⟩)
          · have HJ3 := Lib.hid hj2; clear hj2
            have HS3 := Lib.hid (HS2.out.trans (HS1.out.trans (hk2.mono (fun _ h => .inl h)))); clear hk2
            gi_wp2_with fail
            go_roundw
            case rel => exact ⟨j + 1, by omega, by go_num, HS3.out, by rw [rowOf_succ, ← List.append_assoc]; exact HJ3.out⟩
            case measure => simp [intOf]; omega
          · have HX2 := Lib.hid hx2; clear hx2
            have HZ2 := Lib.hid (show W.heap.size ≤ w2.heap.size from Nat.le_trans hsw (Nat.le_trans HS1.out.size hk2.size)); clear hk2
            gi_wp2_with fail
            refine bodyPost_ret (results_none rfl _ _ _) rfl ?_
            exact ⟨⟨_, rfl⟩, HZ2.out, .inr HX2.out⟩
        · have hle2 : ¬ t.rl + (j : Int) ≤ t.rh := by omega
          obtain rfl : j = (t.rh + 1 - t.rl).toNat := by omega
          gi_wp2_with fail
          go_roundw
          case rel => exact ⟨i + 1, by omega, by go_num, HS2.out, by rw [crsTo_succ]; exact HJ2.out⟩
          case measure => simp [intOf]; omega
    · have hle : ¬ t.fl + (i : Int) ≤ t.fh := by omega
      obtain rfl : i = (t.fh + 1 - t.fl).toNat := by omega
      gi_wp2
      go_end0
      exact ⟨⟨_, rfl⟩, HSr.out.size, .inl HJr.out⟩
end Go.Proofs.Ytdhkgpfcanekkaa
