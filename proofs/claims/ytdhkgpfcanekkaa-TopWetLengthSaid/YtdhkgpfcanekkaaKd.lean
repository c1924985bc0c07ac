/- lay of package stock. -/
import Derived.Test.YtdhkgpfcanekkaaKc
namespace Go.Proofs.Ytdhkgpfcanekkaa
open Go Go.RowKit

/-- A felt that was laid: where it lies. -/
def LayRes (c : Fe) (pv mv : Value) (n : Nat) (w : World) (e : Ending) (w' : World) : Prop :=
  ∃ b, e = .returned (.pointer (some ⟨b, 0, none⟩)) ∧ w'.heap[b]? = some (.cells (frow c pv mv n 36) 135 (0, 0)) ∧ w.heap.size ≤ b ∧ Below w.heap.size w w'

theorem frow_store {c : Fe} {pv mv : Value} {n k : Nat} {W : World} {b : Nat} {x y z : Value} (h : W.heap[b]? = some (.cells (frow c pv mv n k) 135 (0, 0))) (hx : x = iv (shr n c (k + 1) 0)) (hy : y = iv (shr n c (k + 1) 1)) (hz : z = iv (shr n c (k + 1) 2)) :
    (((W.setCell ⟨b, 10 + (k + 1) * 3, none⟩ x).setCell ⟨b, 10 + (k + 1) * 3 + 1, none⟩ y).setCell ⟨b, 10 + (k + 1) * 3 + 2, none⟩ z).heap[b]? = some (.cells (frow c pv mv n (k + 1)) 135 (0, 0)) := by
  subst hx hy hz
  rw [heap_setCell_same _ _ _ _ _ _ (heap_setCell_same _ _ _ _ _ _ (heap_setCell_same _ _ _ _ _ _ h)), frow_step]

theorem cast1 {A B : Nat} (h : B = A + 1) : Value.int .i64 ((A : Int) + 1) = iv (B : Int) := by subst h; simp
theorem cast0 {A B : Nat} (h : B = A) : Value.int .i64 (A : Int) = iv (B : Int) := by subst h; rfl
theorem heap_alloc_drew2 {W : World} {b : Nat} (o : Obj) (h : b < W.heap.size) : ((W.alloc o).drew.drew).heap[b]? = W.heap[b]? := Below.heap_alloc _ _ _ h

set_option maxRecDepth 20000 in
set_option maxHeartbeats 3200000 in
theorem lay_any (c : Fe) (pa ma : Option Addr) (n pc mn mc : Nat) (w : World) (n1 : 1 ≤ n) (n3 : n ≤ 3) (hb : vBeat n c = true) :
    Calls Try.prog 45 #[.agg (stcells c (.slice pa n pc) (.slice ma mn mc)).toArray] w (LayRes c (.slice pa n pc) (.slice ma mn mc) n w) := by
  simp only [vBeat, Bool.and_eq_true, decide_eq_true_eq] at hb
  obtain ⟨-, -, ht, hst, -⟩ := hb
  obtain ⟨t1, t2⟩ := inB_iff.1 ht
  obtain ⟨s1, s2⟩ := inB_iff.1 hst
  have HH : Hid (∀ k : Nat, k < 36 → ∃ q h : Nat, q ≤ 36 ∧ h < n ∧ (k : Int).tdiv c.turn = q ∧ (c.start + (q : Int)).tmod (n : Int) = h ∧ hitI n c k = h) := by
    intro k hk
    have q0 : 0 ≤ (k : Int) / c.turn := Int.ediv_nonneg (by omega) (by omega)
    have q1 : (k : Int) / c.turn ≤ k := Int.ediv_le_self _ (by omega)
    have r0 : 0 ≤ (c.start + (k : Int) / c.turn) % (n : Int) := Int.emod_nonneg _ (by omega)
    have r1 : (c.start + (k : Int) / c.turn) % (n : Int) < n := Int.emod_lt_of_pos _ (by omega)
    refine ⟨((k : Int) / c.turn).toNat, hitI n c k, by omega, by unfold hitI; omega, ?_, ?_, rfl⟩
    · rw [Int.tdiv_eq_ediv_of_nonneg (by omega)]; omega
    · rw [Int.toNat_of_nonneg q0, Int.tmod_eq_emod_of_nonneg (by omega)]; unfold hitI; omega
  have HSI := Lib.hid (sinfoF c (.slice pa n pc) (.slice ma mn mc) n 0)
  have HBU := Lib.hid (builtF c pa ma n pc mn mc n)
  clear ht hst
  have e5 : ∀ k, (frow c (.slice pa n pc) (.slice ma mn mc) n k)[5]? = some (iv c.turn) := fun k => frow_head _ _ _ _ _ _ rfl
  have e6 : ∀ k, (frow c (.slice pa n pc) (.slice ma mn mc) n k)[6]? = some (iv c.start) := fun k => frow_head _ _ _ _ _ _ rfl
  clear e5 e6
  obtain ⟨fr, hfr⟩ : ∃ fr, fr = frow c (.slice pa n pc) (.slice ma mn mc) n := ⟨_, rfl⟩
  have HFR := Lib.hid hfr
  rw [← hfr] at HBU
  clear hfr
  obtain ⟨sl, sh, wl, wh, turn, start, full, harm⟩ := c
  simp only [stcells] at *
  have tz : (turn == 0) = false := by rw [beq_eq_false_iff_ne]; omega
  have tz0 : ¬ turn = 0 := by omega
  have nz : ((n : Int) == 0) = false := by rw [beq_eq_false_iff_ne]; omega
  have nz0 : ¬ n = 0 := by omega
  go_enter Try.func45, Try.ntmps45
  go_wp2_with (first | (with_reducible change wpList _ _ _ (Oper.mk _ (Op.build 135 _) _ _ _ _ :: _) _ _; refine L_val rfl (run_build_row1 135 _ _ rfl _ rfl (fr 0) HBU.out) ?_))
  go_loopw [9, 5, 4] (fun i _ _ wr => ∃ k : Nat, k ≤ 36 ∧ i = iv k ∧ wr.heap[w.heap.size + 1]? = some (.cells (fr k) 135 (0, 0)) ∧ wr.heap[w.heap.size]? = some (.cells #[.slice pa n pc, iv sl, iv sh, iv wl, iv wh, iv turn, iv start, iv full, iv harm, .slice ma mn mc] 83 (0, 0)) ∧ Below w.heap.size w wr) (fun i _ _ _ => 36 - (intOf i).toNat)
  case atStart =>
    refine ⟨0, by omega, rfl, ?_, ?_, (by repeat (first | exact Below.refl _ _ | refine Below.drew ?_ | refine bpush ?_ _ | refine bput ?_ (by simp) _ | (refine bstep ?_ (by assumption))))⟩
    · have := heap_new (w.alloc (.cells #[.slice pa n pc, iv sl, iv sh, iv wl, iv wh, iv turn, iv start, iv full, iv harm, .slice ma mn mc] 83)) (fr 0) 135
      simpa using this
    · rw [Below.heap_alloc _ _ _ (by simp)]; exact heap_new _ _ _
  case round =>
    obtain ⟨k, hk, rfl, hf, hc, hbw⟩ := hrel
    have HF := Lib.hid hf; clear hf
    have HC := Lib.hid hc
    have HB := Lib.hid hbw; clear hbw
    have hsz : w.heap.size + 1 < wr.heap.size := (Array.getElem?_eq_some_iff.1 HF.out).1
    have hs0 : w.heap.size < wr.heap.size := by omega
    have hs1 : ¬ wr.heap.size = w.heap.size := by omega
    have hs2 : ¬ w.heap.size = wr.heap.size := by omega
    have hs3 : ¬ wr.heap.size = w.heap.size + 1 := by omega
    have hs4 : ¬ w.heap.size + 1 = wr.heap.size := by omega
    have d0 : wr.cell? ⟨w.heap.size, 0, none⟩ = some (.slice pa n pc) := by rw [cell_of_row _ _ _ _ _ _ hc]; rfl
    have d5 : wr.cell? ⟨w.heap.size, 5, none⟩ = some (iv turn) := by rw [cell_of_row _ _ _ _ _ _ hc]; rfl
    have d6 : wr.cell? ⟨w.heap.size, 6, none⟩ = some (iv start) := by rw [cell_of_row _ _ _ _ _ _ hc]; rfl
    clear hc
    by_cases hlt : k < 36
    · obtain ⟨q, h, q36, hn, hq, hm, hh⟩ := HH.out k hlt
      have a0 : wr.cell? ⟨w.heap.size + 1, 10 + k * 3, none⟩ = some (iv (shr n ⟨sl, sh, wl, wh, turn, start, full, harm⟩ k 0)) := by rw [cell_of_row _ _ _ _ _ _ HF.out, HFR.out]; have := frow_at ⟨sl, sh, wl, wh, turn, start, full, harm⟩ (.slice pa n pc) (.slice ma mn mc) n k k 0 hk (by omega); rw [if_pos (Nat.le_refl k)] at this; exact this
      have a1 : wr.cell? ⟨w.heap.size + 1, 10 + k * 3 + 1, none⟩ = some (iv (shr n ⟨sl, sh, wl, wh, turn, start, full, harm⟩ k 1)) := by rw [cell_of_row _ _ _ _ _ _ HF.out, HFR.out]; have := frow_at ⟨sl, sh, wl, wh, turn, start, full, harm⟩ (.slice pa n pc) (.slice ma mn mc) n k k 1 hk (by omega); rw [if_pos (Nat.le_refl k)] at this; exact this
      have a2 : wr.cell? ⟨w.heap.size + 1, 10 + k * 3 + 2, none⟩ = some (iv (shr n ⟨sl, sh, wl, wh, turn, start, full, harm⟩ k 2)) := by rw [cell_of_row _ _ _ _ _ _ HF.out, HFR.out]; have := frow_at ⟨sl, sh, wl, wh, turn, start, full, harm⟩ (.slice pa n pc) (.slice ma mn mc) n k k 2 hk (by omega); rw [if_pos (Nat.le_refl k)] at this; exact this
      have b0 : wr.cell? ⟨w.heap.size + 1, 10 + (k + 1) * 3, none⟩ = some (iv 0) := by rw [cell_of_row _ _ _ _ _ _ HF.out, HFR.out]; have := frow_at ⟨sl, sh, wl, wh, turn, start, full, harm⟩ (.slice pa n pc) (.slice ma mn mc) n k (k + 1) 0 (by omega) (by omega); rw [if_neg (by omega)] at this; exact this
      have b1 : wr.cell? ⟨w.heap.size + 1, 10 + (k + 1) * 3 + 1, none⟩ = some (iv 0) := by rw [cell_of_row _ _ _ _ _ _ HF.out, HFR.out]; have := frow_at ⟨sl, sh, wl, wh, turn, start, full, harm⟩ (.slice pa n pc) (.slice ma mn mc) n k (k + 1) 1 (by omega) (by omega); rw [if_neg (by omega)] at this; exact this
      have b2 : wr.cell? ⟨w.heap.size + 1, 10 + (k + 1) * 3 + 2, none⟩ = some (iv 0) := by rw [cell_of_row _ _ _ _ _ _ HF.out, HFR.out]; have := frow_at ⟨sl, sh, wl, wh, turn, start, full, harm⟩ (.slice pa n pc) (.slice ma mn mc) n k (k + 1) 2 (by omega) (by omega); rw [if_neg (by omega)] at this; exact this
      have f0 : ∀ o, wr.frozen? ⟨w.heap.size + 1, o, none⟩ = false := fun o => frozen_of_row _ _ _ _ _ HF.out
      have g0 := shr_le n ⟨sl, sh, wl, wh, turn, start, full, harm⟩ 0 k
      have g1 := shr_le n ⟨sl, sh, wl, wh, turn, start, full, harm⟩ 1 k
      have g2 := shr_le n ⟨sl, sh, wl, wh, turn, start, full, harm⟩ 2 k
      have HS0 : Hid (shr n ⟨sl, sh, wl, wh, turn, start, full, harm⟩ (k + 1) 0 = shr n ⟨sl, sh, wl, wh, turn, start, full, harm⟩ k 0 + (if 0 = h then 1 else 0)) := by rw [← hh]; rfl
      have HS1 : Hid (shr n ⟨sl, sh, wl, wh, turn, start, full, harm⟩ (k + 1) 1 = shr n ⟨sl, sh, wl, wh, turn, start, full, harm⟩ k 1 + (if 1 = h then 1 else 0)) := by rw [← hh]; rfl
      have HS2 : Hid (shr n ⟨sl, sh, wl, wh, turn, start, full, harm⟩ (k + 1) 2 = shr n ⟨sl, sh, wl, wh, turn, start, full, harm⟩ k 2 + (if 2 = h then 1 else 0)) := by rw [← hh]; rfl
      have HST : Hid (∀ W : World, W.heap[w.heap.size + 1]? = some (.cells (fr k) 135 (0, 0)) → ∀ x y z : Value, x = iv (shr n ⟨sl, sh, wl, wh, turn, start, full, harm⟩ (k + 1) 0) → y = iv (shr n ⟨sl, sh, wl, wh, turn, start, full, harm⟩ (k + 1) 1) → z = iv (shr n ⟨sl, sh, wl, wh, turn, start, full, harm⟩ (k + 1) 2) → (((W.setCell ⟨w.heap.size + 1, 10 + (k + 1) * 3, none⟩ x).setCell ⟨w.heap.size + 1, 10 + (k + 1) * 3 + 1, none⟩ y).setCell ⟨w.heap.size + 1, 10 + (k + 1) * 3 + 2, none⟩ z).heap[w.heap.size + 1]? = some (.cells (fr (k + 1)) 135 (0, 0))) := by
        intro W hW x y z hx hy hz
        rw [HFR.out] at hW ⊢
        exact frow_store hW hx hy hz
      generalize shr n ⟨sl, sh, wl, wh, turn, start, full, harm⟩ k 0 = A0 at *
      generalize shr n ⟨sl, sh, wl, wh, turn, start, full, harm⟩ (k + 1) 0 = B0 at *
      generalize shr n ⟨sl, sh, wl, wh, turn, start, full, harm⟩ k 1 = A1 at *
      generalize shr n ⟨sl, sh, wl, wh, turn, start, full, harm⟩ (k + 1) 1 = B1 at *
      generalize shr n ⟨sl, sh, wl, wh, turn, start, full, harm⟩ k 2 = A2 at *
      generalize shr n ⟨sl, sh, wl, wh, turn, start, full, harm⟩ (k + 1) 2 = B2 at *
      clear hh
      rcases h with _ | _ | _ | h
      · have hm0 : (start + (q : Int)).tmod (n : Int) = 0 := by rw [hm]; rfl
        clear hm
        go_wp2_with fail
        go_region
        go_wp2_with fail
        go_region
        go_wp2_with fail
        go_roundw
        case rel => exact ⟨k + 1, by omega, by go_num, (by rw [heap_alloc_drew2 _ (by simp; omega)]; exact HST.out _ HF.out _ _ _ (by first | exact cast1 (by simpa [Hid] using HS0.out) | exact cast0 (by simpa [Hid] using HS0.out)) (by first | exact cast1 (by simpa [Hid] using HS1.out) | exact cast0 (by simpa [Hid] using HS1.out)) (by first | exact cast1 (by simpa [Hid] using HS2.out) | exact cast0 (by simpa [Hid] using HS2.out))), (by rw [heap_alloc_drew2 _ (by simp; omega), heap_setCell_other _ _ _ _ (by simp), heap_setCell_other _ _ _ _ (by simp), heap_setCell_other _ _ _ _ (by simp)]; exact HC.out), (by repeat (first | exact HB.out | refine Below.drew ?_ | refine bpush ?_ _ | refine bput ?_ (by simp) _))⟩
        case measure => simp [intOf]; omega
      · have hm0 : (start + (q : Int)).tmod (n : Int) = 1 := by rw [hm]; rfl
        clear hm
        go_wp2_with fail
        go_region
        go_wp2_with fail
        go_region
        go_wp2_with fail
        go_roundw
        case rel => exact ⟨k + 1, by omega, by go_num, (by rw [heap_alloc_drew2 _ (by simp; omega)]; exact HST.out _ HF.out _ _ _ (by first | exact cast1 (by simpa [Hid] using HS0.out) | exact cast0 (by simpa [Hid] using HS0.out)) (by first | exact cast1 (by simpa [Hid] using HS1.out) | exact cast0 (by simpa [Hid] using HS1.out)) (by first | exact cast1 (by simpa [Hid] using HS2.out) | exact cast0 (by simpa [Hid] using HS2.out))), (by rw [heap_alloc_drew2 _ (by simp; omega), heap_setCell_other _ _ _ _ (by simp), heap_setCell_other _ _ _ _ (by simp), heap_setCell_other _ _ _ _ (by simp)]; exact HC.out), (by repeat (first | exact HB.out | refine Below.drew ?_ | refine bpush ?_ _ | refine bput ?_ (by simp) _))⟩
        case measure => simp [intOf]; omega
      · have hm0 : (start + (q : Int)).tmod (n : Int) = 2 := by rw [hm]; rfl
        clear hm
        go_wp2_with fail
        go_region
        go_wp2_with fail
        go_region
        go_wp2_with fail
        go_roundw
        case rel => exact ⟨k + 1, by omega, by go_num, (by rw [heap_alloc_drew2 _ (by simp; omega)]; exact HST.out _ HF.out _ _ _ (by first | exact cast1 (by simpa [Hid] using HS0.out) | exact cast0 (by simpa [Hid] using HS0.out)) (by first | exact cast1 (by simpa [Hid] using HS1.out) | exact cast0 (by simpa [Hid] using HS1.out)) (by first | exact cast1 (by simpa [Hid] using HS2.out) | exact cast0 (by simpa [Hid] using HS2.out))), (by rw [heap_alloc_drew2 _ (by simp; omega), heap_setCell_other _ _ _ _ (by simp), heap_setCell_other _ _ _ _ (by simp), heap_setCell_other _ _ _ _ (by simp)]; exact HC.out), (by repeat (first | exact HB.out | refine Below.drew ?_ | refine bpush ?_ _ | refine bput ?_ (by simp) _))⟩
        case measure => simp [intOf]; omega
      · exact absurd hn (by omega)
    · obtain rfl : k = 36 := by omega
      go_wp2_with fail
      go_ret
      exact ⟨_, rfl, by have := HF.out; rwa [HFR.out] at this, by omega, HB.out⟩
end Go.Proofs.Ytdhkgpfcanekkaa
