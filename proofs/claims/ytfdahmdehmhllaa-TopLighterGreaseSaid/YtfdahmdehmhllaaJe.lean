/- What the pounds of a mix do together. -/
import Derived.Test.YtfdahmdehmhllaaHe
namespace Go.Proofs.Ytfdahmdehmhllaa
open Go Go.RowKit Go.Shelf

/-- A list of one's own, and a job, in blocks of their own. -/
def OneRow (n : Nat) (A : List Int) (jc : Array Value) (w : World) (g bj : Nat) (wx : World) : Prop :=
  (g ≠ bj ∧ w.heap.size ≤ g ∧ w.heap.size ≤ bj) ∧ wx.heap[g]? = some (.cells (rowI A) 3 (0, 0)) ∧ wx.heap[bj]? = some (.cells jc 74 (0, 0)) ∧ Below w.heap.size w wx ∧ A.length = n
theorem OneRow.set {n : Nat} {A : List Int} {jc : Array Value} {w wx : World} {g bj : Nat} (h : OneRow n A jc w g bj wx) (i : Nat) (x : Int) : OneRow n (A.set i x) jc w g bj (wx.setCell ⟨g, i, none⟩ (iv x)) := by
  obtain ⟨⟨h1, h2, h3⟩, h4, h5, h6, h7⟩ := h
  refine ⟨⟨h1, h2, h3⟩, ?_, ?_, bput h6 (p := ⟨g, i, none⟩) h2 _, by simpa using h7⟩
  · rw [heap_setCell_same _ _ _ _ _ _ h4, rowI_set]
  · rw [Below.heap_setCell _ _ _ _ (Ne.symm h1), h5]
theorem OneRow.below {n : Nat} {A : List Int} {jc : Array Value} {w wx wy : World} {g bj : Nat} (h : OneRow n A jc w g bj wx) (hb : Below wx.heap.size wx wy) : OneRow n A jc w g bj wy := by
  obtain ⟨h0, h4, h5, h6, h7⟩ := h
  exact ⟨h0, (hb.block _ (Array.getElem?_eq_some_iff.1 h4).1).trans h4, (hb.block _ (Array.getElem?_eq_some_iff.1 h5).1).trans h5, bstep h6 hb, h7⟩
theorem togL_at {f : So → Int} {L : List So} {M : List Int} {k : Nat} {s : So} {m : Int} (hm : M[k]? = some m) (hs : L[k]? = some s) : (togL f L M)[k]? = some (m * f s) := by
  unfold togL
  rw [List.getElem?_map, List.getElem?_zip_eq_some.2 (⟨hm, hs⟩ : M[k]? = some (m, s).1 ∧ L[k]? = some (m, s).2)]; rfl
theorem prod_bd {m x : Int} (hm : 0 ≤ m ∧ m ≤ 12) (hx : 0 ≤ x ∧ x ≤ 1000000) : 0 ≤ m * x ∧ m * x ≤ 12000000 := by
  have h0 : 0 ≤ m * x := Int.mul_nonneg hm.1 hx.1
  have h1 : m * x ≤ 12 * 1000000 := Int.mul_le_mul hm.2 hx.2 (by omega) (by omega)
  omega
theorem togL_bd {f : So → Int} {L : List So} {M : List Int} (hM : ∀ m ∈ M, 0 ≤ m ∧ m ≤ 12) (hF : ∀ s ∈ L, 0 ≤ f s ∧ f s ≤ 1000000) : ∀ x ∈ togL f L M, 0 ≤ x ∧ x ≤ 12000000 := by
  intro x hx
  obtain ⟨⟨m, s⟩, hp, rfl⟩ := List.mem_map.1 hx
  exact prod_bd (hM m (List.of_mem_zip hp).1) (hF s (List.of_mem_zip hp).2)
set_option maxRecDepth 20000 in
set_option maxHeartbeats 3200000 in
theorem together_any (f : So → Int) (gf : FuncId) (c : Gc) (L : List So) (M : List Int) (sa va : Option Addr) (sc vc : Nat) (w : World) (eg : ∀ args w, (callFunc gf args).run Try.prog w = .ok (.enter gf args) w)
    (hf : ∀ s W, Calls Try.prog gf #[.agg (encSo s).toArray] W fun e W' => e = .returned (iv (f s)) ∧ Below W.heap.size W W') (hL : L.length = M.length) (hl : M.length ≤ 4) (hM : ∀ m ∈ M, 0 ≤ m ∧ m ≤ 12) (hF : ∀ s ∈ L, 0 ≤ f s ∧ f s ≤ 1000000)
    (hs : SliceOf encSo 5 w (.slice sa L.length sc) L) (hm : Ints w (.slice va M.length vc) M) :
    Calls Try.prog 48 #[jv c (.slice sa L.length sc), .slice va M.length vc, .func (.func gf) #[] #[]] w fun e w' => e = .returned (iv (togL f L M).sum) ∧ Below w.heap.size w w' := by
  have HTL : Hid ((togL f L M).length = M.length) := by simp [Hid, togL, hL]
  rw [hL] at hs ⊢
  have HBD := Lib.hid (togL_bd hM hF)
  have HS := Lib.hid hs; have HM := Lib.hid hm; have HMB := Lib.hid hM; have HFB := Lib.hid hF; have HF := Lib.hid hf
  have hmk : ∀ W : World, (Instr.makeSlice 49 (.int .i64 (M.length : Int)) (.int .i64 (M.length : Int))).run Try.prog W = .ok (.slice (some ⟨W.heap.size, 0, none⟩) M.length M.length) (W.alloc (.cells (rowI (List.replicate M.length 0)) 3)) := fun W => by
    rw [← made_rowP]
    exact run_make_row' 49 3 (.int .i64 0) 8 Try.underlying49 info3 rfl .i64 .i64 M.length (by omega) (by omega) W
  clear hs hm hM hF hf
  go_enter Try.func48, Try.ntmps48
  go_wp2_with fail
  go_loopw [15, 8, 9] (fun i _ _ wr => ∃ k : Nat, k ≤ M.length ∧ i = iv k ∧ Hid (OneRow M.length (fillTo (togL f L M) M.length k) #[iv c.wl, iv c.wh, iv c.gl, iv c.gh, iv c.be, .slice sa M.length sc] w (w.heap.size + 1) w.heap.size wr)) (fun i _ _ _ => M.length - (intOf i).toNat)
  case atStart =>
    refine ⟨0, Nat.zero_le _, rfl, ⟨by omega, by omega, by omega⟩, ?_, ?_, bpush (bpush (Below.refl _ _) _) _, fillTo_len HTL.out (by omega)⟩
    · rw [fillTo_zero]
      have := heap_new (w.alloc (.cells #[iv c.wl, iv c.wh, iv c.gl, iv c.gh, iv c.be, .slice sa M.length sc] 74)) (rowI (List.replicate M.length 0)) 3
      rwa [World.size_alloc] at this
    · rw [Below.heap_alloc _ _ _ (by simp)]; exact heap_new _ _ _
  case round =>
    obtain ⟨k, hk, rfl, HR⟩ := hrel
    have hbw := HR.out.2.2.2.1
    by_cases hlt : k < M.length
    · obtain ⟨m, hm⟩ := getElem?_of_lt hlt
      obtain ⟨s, hs⟩ := getElem?_of_lt (show k < L.length by omega)
      have HQ := Lib.hid (fillTo_succ HTL.out (togL_at (f := f) hm hs))
      obtain ⟨vb, vof, rfl, c0⟩ : ∃ b off, va = some ⟨b, off, none⟩ ∧ wr.cell? ⟨b, off + k, none⟩ = some (iv m) := by
        obtain ⟨a', c', hv, -, hcs⟩ := HM.out.below hbw
        obtain ⟨b, off, ha, hj⟩ := hcs k m hm
        simp only [Value.slice.injEq] at hv
        have h := hj 0 (iv m) rfl
        rw [Nat.mul_one, Nat.add_zero] at h
        exact ⟨b, off, hv.1.trans ha, h⟩
      obtain ⟨sb, sof, rfl, hsc⟩ : ∃ b off, sa = some ⟨b, off, none⟩ ∧ ∀ j u, (encSo s)[j]? = some u → wr.cell? ⟨b, off + k * 5 + j, none⟩ = some u := by
        obtain ⟨a', c', hv, -, hcs⟩ := HS.out.below hbw
        obtain ⟨b, off, ha, hj⟩ := hcs k s hs
        simp only [Value.slice.injEq] at hv
        exact ⟨b, off, hv.1.trans ha, hj⟩
      have d0 := hsc 0 _ rfl
      have d1 := hsc 1 _ rfl
      have d2 := hsc 2 _ rfl
      have d3 := hsc 3 _ rfl
      have d4 := hsc 4 _ rfl
      simp only [Nat.add_zero] at d0
      have b5 : wr.cell? ⟨w.heap.size, 5, none⟩ = some (.slice (some ⟨sb, sof, none⟩) M.length sc) := by rw [cell_of_row _ _ _ _ _ _ HR.out.2.2.1]; rfl
      obtain ⟨p1, p2⟩ := prod_bd (HMB.out m (List.mem_of_getElem? hm)) (HFB.out s (List.mem_of_getElem? hs))
      have hwr : IntKind.i64.wrap (m * f s) = m * f s := IntWalk.i64_in _ ⟨by omega, by omega⟩
      have i0 : (0 : Int) ≤ (k : Int) := by omega
      have i1 : (k : Int) < (M.length : Int) := by omega
      have HFS := Lib.hid (HF.out s)
      clear hsc hm hs hmk hbw p1 p2
      go_wp2_with fail
      refine (HFS.out _).mono ?_
      rintro e w5 ⟨rfl, hb5⟩
      have HR5 := Lib.hid (HR.out.below hb5)
      have r1 : w5.cell? ⟨w.heap.size + 1, k, none⟩ = some (iv ((fillTo (togL f L M) M.length k).getD k 0)) := cell_rowI HR5.out.2.1 (by rw [HR5.out.2.2.2.2]; exact hlt)
      have r2 : w5.frozen? ⟨w.heap.size + 1, k, none⟩ = false := frozen_of_row _ _ _ _ _ HR5.out.2.1
      generalize (fillTo (togL f L M) M.length k).getD k 0 = o1 at *
      clear hb5 c0 d0 d1 d2 d3 d4 b5
      go_wp2_with fail
      go_roundw
      case rel =>
        refine ⟨k + 1, by omega, by go_num, ?_⟩
        rw [← HQ.out]
        exact HR5.out.set _ _
      case measure => simp [intOf]; omega
    · obtain rfl : k = M.length := by omega
      have hr := HR.out
      rw [fillTo_all HTL.out] at hr
      have HT := Lib.hid (total_int (K := 12000000) (togL f L M) (.slice (some ⟨w.heap.size + 1, 0, none⟩) M.length M.length) wr ⟨by omega, by omega⟩ (fun x hx => by have := HBD.out x hx; omega) (by rw [HTL.out]; omega) (by
        have := rowI_slice (c := M.length) hr.2.1 (by rw [HTL.out]; omega)
        rw [HTL.out] at this; exact this))
      have HBW := Lib.hid hbw
      clear hr hbw hk
      go_wp2_with fail
      refine HT.out.mono ?_
      rintro e w6 ⟨rfl, hb6⟩
      have HB6 := Lib.hid (bstep HBW.out hb6); clear hb6
      go_wp2_with fail
      go_ret
      exact ⟨rfl, HB6.out⟩
end Go.Proofs.Ytfdahmdehmhllaa
