/- The hours at which a condition holds; the first one. -/
import Derived.Test.YtdhkgpfcanekkaaKo
namespace Go.Proofs.Ytdhkgpfcanekkaa
open Go Go.RowKit Go.Shelf
attribute [local go_sem] Oper.semAt_some

theorem range_pre {a b : Nat} (h : a ≤ b) : List.range a <+: List.range b := by
  have : (List.range b).take a = List.range a := by rw [List.take_range, Nat.min_eq_left h]
  rw [← this]; exact List.take_prefix _ _
set_option maxRecDepth 20000 in
set_option maxHeartbeats 6400000 in
theorem when_seq (pred : Nat → Bool) (S : Nat → Prop) (bx bh : Nat) (hf : FuncId) (v : Value) (w0 : World) (hS : ∀ k, S k → k < w0.heap.size) (eg : ∀ args w, (callFunc hf args).run Try.prog w = .ok (.enter hf args) w)
    (hx : ∀ W, SameOn S w0 W → W.cell? ⟨bx, 0, none⟩ = some (iv 0) ∧ W.cell? ⟨bh, 0, none⟩ = some (.func (.func hf) #[v] #[]))
    (hh : ∀ W, SameOn S w0 W → ∀ h : Nat, h ≤ 36 → Calls Try.prog hf #[v, iv h] W fun e W' => e = .returned (.bool (pred h)) ∧ Below W.heap.size W W') :
    SeqL Try.prog 65 #[.pointer (some ⟨bx, 0, none⟩), .pointer (some ⟨bh, 0, none⟩)] (fun (h : Nat) => #[iv h]) S ((List.range 37).filter pred) w0 := by
  intro nn l J Jx W hW hJ hJx hY h0
  have HW := Lib.hid (show ∀ k, S k → k < W.heap.size from fun k hk => Nat.lt_of_lt_of_le (hS k hk) hW.size)
  have HC : Hid (∀ wr, SameOn S W wr → wr.cell? ⟨bx, 0, none⟩ = some (iv 0) ∧ wr.cell? ⟨bh, 0, none⟩ = some (.func (.func hf) #[v] #[])) := fun wr hs => hx wr (hW.trans hs)
  have HH : Hid (∀ wr, SameOn S W wr → ∀ h : Nat, h ≤ 36 → Calls Try.prog hf #[v, iv h] wr fun e W' => e = .returned (.bool (pred h)) ∧ Below wr.heap.size wr W') := fun wr hs => hh wr (hW.trans hs)
  have HY := Lib.hid hY
  have HJ := Lib.hid hJ
  have HX := Lib.hid hJx
  have HJ0 := Lib.hid h0
  clear hY hJ hJx hS hW h0 hx hh
  refine callsIn_of_wp Try.func65 rfl trivial ?_ rfl
  simp only [Try.ntmps65, List.size_toArray, List.length_cons, List.length_nil, Nat.reduceAdd, Nat.reduceSub, Array.replicate_succ, Array.replicate_zero, List.push_toArray, List.append_toArray, List.nil_append, List.cons_append]
  gi_wp2_with fail
  gi_loopw [5] (fun s wr => ∃ k : Nat, k ≤ 37 ∧ s = iv k ∧ SameOn S W wr ∧ J noBlock ((List.range k).filter pred) wr) (fun s _ => 37 - (intOf s).toNat)
  case atStart => exact ⟨0, Nat.zero_le _, rfl, SameOn.refl _ _, HJ0.out⟩
  case round =>
    obtain ⟨k, hk, rfl, hsr, hjr⟩ := hrel
    have HSr := Lib.hid hsr; clear hsr
    have HJr := Lib.hid hjr; clear hjr
    have hsw : W.heap.size ≤ wr.heap.size := HSr.out.size
    by_cases hlt : k < 37
    · obtain ⟨c0, c1⟩ := HC.out wr HSr.out
      have i0 : (k : Int) < 37 := by omega
      have i1 : (0 : Int) ≤ (k : Int) := by omega
      gi_wp2_with fail
      refine (callsIn_wide.2 (HH.out wr HSr.out k (by omega))).mono ?_
      rintro e w2 ⟨rfl, hb2⟩
      have HS2 := Lib.hid (HSr.out.trans (SameOn.of_below hb2 (fun j hj => by have := HW.out j hj; omega)))
      have HJ2 := Lib.hid ((HJ.out _).turn noBlock wr w2 (fun _ h => h.elim) hsw HJr.out (Turn.of_below hb2))
      have hsw2 : W.heap.size ≤ w2.heap.size := HS2.out.size
      clear hb2 c0 c1
      cases hp : pred k with
      | false =>
        have HFL : Hid ((List.range (k + 1)).filter pred = (List.range k).filter pred) := by simp [Hid, List.range_succ, List.filter_append, hp]
        clear hp
        gi_wp2_with fail
        go_roundw
        case rel => exact ⟨k + 1, by omega, by go_num, HS2.out, by rw [HFL.out]; exact HJ2.out⟩
        case measure => simp [intOf]; omega
      | true =>
        have HFL : Hid ((List.range (k + 1)).filter pred = (List.range k).filter pred ++ [k]) := by simp [Hid, List.range_succ, List.filter_append, hp]
        have hpre : ((List.range k).filter pred ++ [k]) <+: (List.range 37).filter pred := by
          rw [← HFL.out]; exact (range_pre (by omega)).filter _
        clear hp
        obtain ⟨fn, tmps, assign, body, hy, hR⟩ := HY.out noBlock _ k w2 (fun _ h => h.elim) hpre HJ2.out hsw2 (fun _ h => h.elim)
        have HR := Lib.hid hR; clear hR hpre
        try dsimp only at hy
        gi_wp2_with fail
        refine HR.out.mono ?_
        rintro e w4 (⟨rfl, hj4, hk4⟩ | ⟨rfl, hx4, hk4⟩)
        · have HJ4 := Lib.hid hj4; clear hj4
          have HS4 := Lib.hid (HS2.out.trans (hk4.mono (fun _ h => .inl h))); clear hk4
          gi_wp2_with fail
          go_roundw
          case rel => exact ⟨k + 1, by omega, by go_num, HS4.out, by rw [HFL.out]; exact HJ4.out⟩
          case measure => simp [intOf]; omega
        · have HX2 := Lib.hid hx4; clear hx4
          have HZ2 := Lib.hid (show W.heap.size ≤ w4.heap.size from Nat.le_trans hsw2 hk4.size); clear hk4
          gi_wp2_with fail
          refine bodyPost_ret (results_none rfl _ _ _) rfl ?_
          exact ⟨⟨_, rfl⟩, HZ2.out, .inr HX2.out⟩
    · obtain rfl : k = 37 := by omega
      gi_wp2_with fail
      go_end0
      exact ⟨⟨_, rfl⟩, hsw, .inl HJr.out⟩
set_option maxHeartbeats 800000 in
theorem when_any (hf : FuncId) (v : Value) (w : World) :
    Calls Try.prog 48 #[iv 0, .func (.func hf) #[v] #[]] w fun e w' => e = .returned (.func (.func 65) #[] #[.pointer (some ⟨w.heap.size, 0, none⟩), .pointer (some ⟨w.heap.size + 1, 0, none⟩)]) ∧ (w.alloc (.cells #[iv 0] 3)).alloc (.cells #[.func (.func hf) #[v] #[]] 119) = w' := by
  go_enter Try.func48, Try.ntmps48
  go_wp2_with fail
  go_ret
  exact ⟨rfl, rfl⟩
end Go.Proofs.Ytdhkgpfcanekkaa
