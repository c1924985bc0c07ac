/- The gains of a felt, one after another. -/
import Derived.Test.YtdhkgpfcanekkaaKd
import Derived.Test.YtdhkgpfcanekkaaMb
namespace Go.Proofs.Ytdhkgpfcanekkaa
open Go Go.RowKit Go.Shelf
attribute [local go_sem] Oper.semAt_some
attribute [local go_sem ↓] Go.wp_at_zero Go.wp_at_succ

def gRow (s w0 : Int) : Nat → Nat → List (Int × Int)
  | _, 0 => []
  | j, f + 1 => (s, w0 + (j : Int)) :: gRow s w0 (j + 1) f
def gAll (s0 w0 : Int) (M : Nat) : Nat → Nat → List (Int × Int)
  | _, 0 => []
  | i, f + 1 => gRow (s0 + (i : Int)) w0 0 M ++ gAll s0 w0 M (i + 1) f
/-- The gains of a felt. -/
def gainsL (c : Fe) : List (Int × Int) := gAll c.sl c.wl (c.wh + 1 - c.wl).toNat 0 (c.sh + 1 - c.sl).toNat
def encG (g : Int × Int) : Array Value := #[.agg #[iv g.1, iv g.2]]

set_option maxRecDepth 20000 in
set_option maxHeartbeats 6400000 in
theorem gains_seq (S : Nat → Prop) (bx bf : Nat) (hSf : S bf) (c : Fe) (pv mv : Value) (n : Nat) (hb : vBeat n c = true) (w0 : World) (hS : ∀ k, S k → k < w0.heap.size)
    (hf : w0.heap[bf]? = some (.cells (frow c pv mv n 36) 135 (0, 0)))
    (hxx : ∀ W, SameOn S w0 W → W.cell? ⟨bx, 0, none⟩ = some (.pointer (some ⟨bf, 0, none⟩))) :
    SeqL Try.prog 72 #[.pointer (some ⟨bx, 0, none⟩)] encG S (gainsL c) w0 := by
  intro nn l J Jx W hW hJ hJx hY h0
  simp only [vBeat, vGain, Bool.and_eq_true, vSpan, inB_iff] at hb
  obtain ⟨⟨⟨⟨⟨b1, b2⟩, b3, b4⟩, b5, b6⟩, ⟨⟨b7, b8⟩, b9, b10⟩, b11, b12⟩, -⟩ := hb
  obtain ⟨sl, sh, wl, wh, turn, start, full, harm⟩ := c
  simp only at b1 b2 b3 b4 b5 b6 b7 b8 b9 b10 b11 b12
  have hC : Hid (∀ wr, SameOn S W wr → wr.cell? ⟨bx, 0, none⟩ = some (.pointer (some ⟨bf, 0, none⟩)) ∧ wr.cell? ⟨bf, 1, none⟩ = some (iv sl) ∧ wr.cell? ⟨bf, 2, none⟩ = some (iv sh) ∧ wr.cell? ⟨bf, 3, none⟩ = some (iv wl) ∧ wr.cell? ⟨bf, 4, none⟩ = some (iv wh)) := by
    intro wr hs
    have h1 := ((hW.trans hs).block bf hSf).trans hf
    refine ⟨hxx wr (hW.trans hs), ?_, ?_, ?_, ?_⟩ <;> rw [cell_of_row _ _ _ _ _ _ h1]
    · exact frow_head _ _ _ _ _ 1 rfl
    · exact frow_head _ _ _ _ _ 2 rfl
    · exact frow_head _ _ _ _ _ 3 rfl
    · exact frow_head _ _ _ _ _ 4 rfl
  have HW := Lib.hid (show ∀ k, S k → k < W.heap.size from fun k hk => Nat.lt_of_lt_of_le (hS k hk) hW.size)
  have HY := Lib.hid hY
  have HJ := Lib.hid hJ
  have HX := Lib.hid hJx
  have HJ0 := Lib.hid h0
  clear hf hxx hY hJ hJx hS hW hSf h0
  obtain ⟨N, hN⟩ : ∃ N : Nat, (N : Int) = sh + 1 - sl := ⟨(sh + 1 - sl).toNat, by omega⟩
  obtain ⟨M, hM⟩ : ∃ M : Nat, (M : Int) = wh + 1 - wl := ⟨(wh + 1 - wl).toNat, by omega⟩
  have hXS : Hid (gainsL ⟨sl, sh, wl, wh, turn, start, full, harm⟩ = gAll sl wl M 0 N) := by
    have e1 : (sh + 1 - sl).toNat = N := by omega
    have e2 : (wh + 1 - wl).toNat = M := by omega
    simp only [Hid, gainsL, e1, e2]
  generalize gainsL ⟨sl, sh, wl, wh, turn, start, full, harm⟩ = xs at *
  obtain ⟨x0, s1, s2, s3, s4⟩ := hC.out W (SameOn.refl _ _)
  refine callsIn_of_wp Try.func72 rfl trivial ?_ rfl
  simp only [Try.ntmps72, List.size_toArray, List.length_cons, List.length_nil, Nat.reduceAdd, Nat.reduceSub, Array.replicate_succ, Array.replicate_zero, List.push_toArray, List.append_toArray, List.nil_append, List.cons_append]
  gi_wp2_with fail
  clear x0 s1 s2 s3 s4
  gi_loopw [3, 4] (fun s _ wr => ∃ (i : Nat) (pre : List (Int × Int)), i ≤ N ∧ s = iv (sl + (i : Int)) ∧ Hid (xs = pre ++ gAll sl wl M i (N - i)) ∧ SameOn S W wr ∧ J noBlock pre wr) (fun s _ _ => (sh + 1 - intOf s).toNat)
  case atStart => exact ⟨0, [], Nat.zero_le _, by simp, by rw [hXS.out]; rfl, SameOn.refl _ _, HJ0.out⟩
  case round =>
    obtain ⟨i, pre, hi, rfl, HXK, hsr, hjr⟩ := hrel
    have HSr := Lib.hid hsr; clear hsr
    have HJr := Lib.hid hjr; clear hjr
    have hsw : W.heap.size ≤ wr.heap.size := HSr.out.size
    obtain ⟨x0, s1, s2, s3, s4⟩ := hC.out wr HSr.out
    by_cases hlt : i < N
    · have hle : sl + (i : Int) ≤ sh := by omega
      have HX1 : Hid (xs = (pre ++ []) ++ (gRow (sl + (i : Int)) wl 0 M ++ gAll sl wl M (i + 1) (N - (i + 1)))) := by
        have := HXK.out
        rw [show N - i = (N - (i + 1)) + 1 from by omega] at this
        rw [this]; simp [Hid, gAll]
      gi_wp2_with fail
      have HC := Lib.hid hC.out
      clear x0 s1 s2 s3 s4
      gi_loopw [4] (fun y wr => ∃ (j : Nat) (pq : List (Int × Int)), j ≤ M ∧ y = iv (wl + (j : Int)) ∧ Hid (xs = pq ++ (gRow (sl + (i : Int)) wl j (M - j) ++ gAll sl wl M (i + 1) (N - (i + 1)))) ∧ SameOn S W wr ∧ J noBlock pq wr) (fun y _ => (wh + 1 - intOf y).toNat)
      case atStart => exact ⟨0, pre, Nat.zero_le _, by simp, by have := HX1.out; rw [List.append_nil] at this; exact this, HSr.out, HJr.out⟩
      case round =>
        obtain ⟨j, pq, hj, rfl, HXQ, hsq, hjq⟩ := hrel
        have HSq := Lib.hid hsq; clear hsq
        have HJq := Lib.hid hjq; clear hjq
        have hsw2 : W.heap.size ≤ wr.heap.size := HSq.out.size
        obtain ⟨x0, s1, s2, s3, s4⟩ := HC.out wr HSq.out
        by_cases hlt2 : j < M
        · have hle2 : wl + (j : Int) ≤ wh := by omega
          have HX2 : Hid (xs = (pq ++ [(sl + (i : Int), wl + (j : Int))]) ++ (gRow (sl + (i : Int)) wl (j + 1) (M - (j + 1)) ++ gAll sl wl M (i + 1) (N - (i + 1)))) := by
            have := HXQ.out
            rw [show M - j = (M - (j + 1)) + 1 from by omega] at this
            rw [this]; simp [Hid, gRow]
          have hpre : (pq ++ [(sl + (i : Int), wl + (j : Int))]) <+: xs := ⟨_, HX2.out.symm⟩
          obtain ⟨fn, tmps, assign, body, hy, hR⟩ := HY.out noBlock _ _ wr (fun _ h => h.elim) hpre HJq.out hsw2 (fun _ h => h.elim)
          have HR := Lib.hid hR; clear hR hpre
          unfold encG at hy
          try dsimp only at hy
          gi_wp2_with fail
          refine HR.out.mono ?_
          rintro e w4 (⟨rfl, hj4, hk4⟩ | ⟨rfl, hx4, hk4⟩)
          · have HJ4 := Lib.hid hj4; clear hj4
            have HS4 := Lib.hid (HSq.out.trans (hk4.mono (fun _ h => .inl h))); clear hk4
            gi_wp2_with fail
            go_roundw
            case rel => exact ⟨j + 1, _, by omega, by go_num, HX2, HS4.out, HJ4.out⟩
            case measure => simp [intOf]; omega
          · have HX2 := Lib.hid hx4; clear hx4
            have HZ2 := Lib.hid (show W.heap.size ≤ w4.heap.size from Nat.le_trans hsw2 hk4.size); clear hk4
            gi_wp2_with fail
            refine bodyPost_ret (results_none rfl _ _ _) rfl ?_
            exact ⟨⟨_, rfl⟩, HZ2.out, .inr HX2.out⟩
        · obtain rfl : j = M := by omega
          have hle2 : wh < wl + (j : Int) := by omega
          gi_wp2_with fail
          go_roundw
          case rel => exact ⟨i + 1, _, by omega, by go_num, by have := HXQ.out; rw [Nat.sub_self] at this; simpa [Hid, gRow] using this, HSq.out, HJq.out⟩
          case measure => simp [intOf]; omega
    · obtain rfl : i = N := by omega
      have hle : sh < sl + (i : Int) := by omega
      have HXE : Hid (xs = pre) := by have := HXK.out; rw [Nat.sub_self] at this; simpa [Hid, gAll] using this
      gi_wp2_with fail
      go_end0
      exact ⟨⟨_, rfl⟩, hsw, .inl (by rw [HXE.out]; exact HJr.out)⟩
end Go.Proofs.Ytdhkgpfcanekkaa
