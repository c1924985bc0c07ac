/- The mill and the stream made of bytes, for the elm laws. -/
import Derived.Test.YtgoncgbbgodliaaGk
namespace Go.Proofs.Ytgoncgbbgodliaa
open Go Go.RowKit Go.Shelf
attribute [local go_sem ↓] Go.wp_at_zero Go.wp_at_succ

def emN (V : List (Int × Int)) : Nat := if V.length = 0 then 1 else min V.length 12
def emSp (V : List (Int × Int)) (i : Nat) : Sp := ((V.getD i (20, 4)).1 % 80, (V.getD i (20, 4)).1 % 80 + (V.getD i (20, 4)).2 % 20)
def emL (V : List (Int × Int)) (k : Nat) : List Sp := (List.range k).map (emSp V)
def emMl (m0 m1 m2 m3 m4 : Int) : Ml := ⟨1 + m0 % 6, m1 % 20, 30, 40, 10 + m2, min (10 + m2) m3, min (10 + m2) (min (10 + m2) m3 + m4 % 20)⟩
/-- A mill lies at p, and can be written. -/
def EmCut (Wn : World) (v0 v1 v2 v3 v4 v5 v6 : Int) (p : Value) (wx : World) : Prop := ∃ g, p = .pointer (some ⟨g, 0, none⟩) ∧ Wn.heap.size ≤ g ∧ g < wx.heap.size ∧ Below Wn.heap.size Wn wx ∧
  (wx.cell? ⟨g, 0, none⟩ = some (iv v0) ∧ wx.cell? ⟨g, 1, none⟩ = some (iv v1) ∧ wx.cell? ⟨g, 2, none⟩ = some (iv v2) ∧ wx.cell? ⟨g, 3, none⟩ = some (iv v3) ∧ wx.cell? ⟨g, 4, none⟩ = some (iv v4) ∧ wx.cell? ⟨g, 5, none⟩ = some (iv v5) ∧ wx.cell? ⟨g, 6, none⟩ = some (iv v6)) ∧ wx.frozen? ⟨g, 5, none⟩ = false ∧ wx.frozen? ⟨g, 6, none⟩ = false
theorem emA {Wn w3 : World} {v0 v1 v2 v3 v4 v5 v6 : Int} {t : TypeId} (h : Below Wn.heap.size Wn w3) : EmCut Wn v0 v1 v2 v3 v4 v5 v6 (.pointer (some ⟨w3.heap.size, 0, none⟩)) (w3.alloc (.cells #[iv v0, iv v1, iv v2, iv v3, iv v4, iv v5, iv v6] t)) := by
  have hr := heap_new w3 #[iv v0, iv v1, iv v2, iv v3, iv v4, iv v5, iv v6] t
  refine ⟨_, rfl, h.size, by simp, bpush h _, ⟨?_, ?_, ?_, ?_, ?_, ?_, ?_⟩, ?_, ?_⟩ <;> first | (rw [cell_of_row _ _ _ _ _ _ hr]; rfl) | (unfold World.frozen?; rw [hr]; rfl)
theorem frozen7 {W : World} {g : Nat} {v0 v1 v2 v3 v4 v5 v6 : Value} {o : Nat} (h : W.frozen? ⟨g, o, none⟩ = false) : (((((((W.setCell ⟨g, 0, none⟩ v0).setCell ⟨g, 1, none⟩ v1).setCell ⟨g, 2, none⟩ v2).setCell ⟨g, 3, none⟩ v3).setCell ⟨g, 4, none⟩ v4).setCell ⟨g, 5, none⟩ v5).setCell ⟨g, 6, none⟩ v6).frozen? ⟨g, o, none⟩ = false := by
  go_simp
theorem emB {Wn w3 : World} {g : Nat} {v0 v1 v2 v3 v4 v5 v6 : Int} (h : Below Wn.heap.size Wn w3) (hg : Wn.heap.size ≤ g)
    (k0 : w3.cell? ⟨g, 0, none⟩ = some (iv 0)) (k1 : w3.cell? ⟨g, 1, none⟩ = some (iv 0)) (k2 : w3.cell? ⟨g, 2, none⟩ = some (iv 0)) (k3 : w3.cell? ⟨g, 3, none⟩ = some (iv 0)) (k4 : w3.cell? ⟨g, 4, none⟩ = some (iv 0)) (k5 : w3.cell? ⟨g, 5, none⟩ = some (iv 0)) (k6 : w3.cell? ⟨g, 6, none⟩ = some (iv 0)) (f5 : w3.frozen? ⟨g, 5, none⟩ = false) (f6 : w3.frozen? ⟨g, 6, none⟩ = false) :
    EmCut Wn v0 v1 v2 v3 v4 v5 v6 (.pointer (some ⟨g, 0, none⟩)) (((((((w3.setCell ⟨g, 0, none⟩ (iv v0)).setCell ⟨g, 1, none⟩ (iv v1)).setCell ⟨g, 2, none⟩ (iv v2)).setCell ⟨g, 3, none⟩ (iv v3)).setCell ⟨g, 4, none⟩ (iv v4)).setCell ⟨g, 5, none⟩ (iv v5)).setCell ⟨g, 6, none⟩ (iv v6)) := by
  obtain ⟨g', e, h1, h2, h3, h4⟩ := fbB (v0 := v0) (v1 := v1) (v2 := v2) (v3 := v3) (v4 := v4) (v5 := v5) (v6 := v6) h hg k0 k1 k2 k3 k4 k5 k6
  simp only [Value.pointer.injEq, Option.some.injEq, Addr.mk.injEq, and_true] at e
  subst e
  exact ⟨g, rfl, h1, h2, h3, h4, frozen7 f5, frozen7 f6⟩
/-- A mill lies in block g. -/
structure EmAt (wc : World) (v0 v1 v2 v3 v4 v5 v6 : Int) (g : Nat) (wx : World) : Prop where
  B : Below wc.heap.size wc wx ∨ ∃ w5 : World, Below wc.heap.size wc w5 ∧ wx = (w5.setCell ⟨g, 5, none⟩ (iv v5)).setCell ⟨g, 6, none⟩ (iv v6)
  k : wx.cell? ⟨g, 0, none⟩ = some (iv v0) ∧ wx.cell? ⟨g, 1, none⟩ = some (iv v1) ∧ wx.cell? ⟨g, 2, none⟩ = some (iv v2) ∧ wx.cell? ⟨g, 3, none⟩ = some (iv v3) ∧ wx.cell? ⟨g, 4, none⟩ = some (iv v4) ∧ wx.cell? ⟨g, 5, none⟩ = some (iv v5) ∧ wx.cell? ⟨g, 6, none⟩ = some (iv v6)
theorem EmAt.below {w wc wx : World} {v0 v1 v2 v3 v4 v5 v6 : Int} {g : Nat} (h : EmAt wc v0 v1 v2 v3 v4 v5 v6 g wx) (hb : Below w.heap.size w wc) (hg : w.heap.size ≤ g) : Below w.heap.size w wx := by
  rcases h.B with h1 | ⟨w5, h1, rfl⟩
  · exact bstep hb h1
  · exact bput (p := ⟨g, 6, none⟩) (bput (p := ⟨g, 5, none⟩) (bstep hb h1) hg _) hg _
theorem EmAt.size {wc wx : World} {v0 v1 v2 v3 v4 v5 v6 : Int} {g : Nat} (h : EmAt wc v0 v1 v2 v3 v4 v5 v6 g wx) : wc.heap.size ≤ wx.heap.size := by
  rcases h.B with h1 | ⟨w5, h1, rfl⟩
  · exact h1.size
  · have := h1.size; simpa [World.setCell] using this
theorem EmAt.block {wc wx : World} {v0 v1 v2 v3 v4 v5 v6 : Int} {g k : Nat} (h : EmAt wc v0 v1 v2 v3 v4 v5 v6 g wx) (hk : k < wc.heap.size) (hne : k ≠ g) : wx.heap[k]? = wc.heap[k]? := by
  rcases h.B with h1 | ⟨w5, h1, rfl⟩
  · exact h1.block k hk
  · exact ((Below.heap_setCell _ _ _ _ hne).trans (Below.heap_setCell _ _ _ _ hne)).trans (h1.block k hk)
theorem emC {wc w5 : World} {v0 v1 v2 v3 v4 x5 x6 v5 v6 : Int} {g : Nat} (hb : Below wc.heap.size wc w5) (k0 : wc.cell? ⟨g, 0, none⟩ = some (iv v0)) (k1 : wc.cell? ⟨g, 1, none⟩ = some (iv v1)) (k2 : wc.cell? ⟨g, 2, none⟩ = some (iv v2)) (k3 : wc.cell? ⟨g, 3, none⟩ = some (iv v3)) (k4 : wc.cell? ⟨g, 4, none⟩ = some (iv v4)) (k5 : wc.cell? ⟨g, 5, none⟩ = some (iv x5)) (k6 : wc.cell? ⟨g, 6, none⟩ = some (iv x6)) :
    EmAt wc v0 v1 v2 v3 v4 v5 v6 g ((w5.setCell ⟨g, 5, none⟩ (iv v5)).setCell ⟨g, 6, none⟩ (iv v6)) := by
  have q0 := kcell hb k0; have q1 := kcell hb k1; have q2 := kcell hb k2; have q3 := kcell hb k3; have q4 := kcell hb k4; have q5 := kcell hb k5; have q6 := kcell hb k6
  refine ⟨.inr ⟨w5, hb, rfl⟩, ?_, ?_, ?_, ?_, ?_, ?_, ?_⟩
  all_goals go_simp
set_option maxRecDepth 20000 in
set_option maxHeartbeats 12800000 in
theorem emMade_any (m0 m1 m2 m3 m4 : Int) (fv : Value) (V : List (Int × Int)) (w : World) (h0 : 0 ≤ m0 ∧ m0 ≤ 255) (h1 : 0 ≤ m1 ∧ m1 ≤ 255) (h2 : 0 ≤ m2 ∧ m2 ≤ 255) (h3 : 0 ≤ m3 ∧ m3 ≤ 255) (h4 : 0 ≤ m4 ∧ m4 ≤ 255) (hV : ∀ p ∈ V, (0 ≤ p.1 ∧ p.1 ≤ 255) ∧ (0 ≤ p.2 ∧ p.2 ≤ 255)) (hf : SliceU enc2 2 w fv V) :
    Calls Try.prog 5 #[.agg #[u8 m0, u8 m1, u8 m2, u8 m3, u8 m4, fv]] w (FbRes (emMl m0 m1 m2 m3 m4) (emL V (emN V)) w) := by
  obtain ⟨i0, hi, hz0, hz1, hz2⟩ := info_parts infoSpG
  have HI := Lib.hid hi; have HZ0 := Lib.hid hz0; have HZ1 := Lib.hid hz1; have HZ2 := Lib.hid hz2
  have HF := Lib.hid hf; have HVV := Lib.hid hV
  obtain ⟨fa, fc, rfl, hfl, -⟩ := hf
  obtain ⟨a0, a0'⟩ := h0; obtain ⟨a1, a1'⟩ := h1; obtain ⟨a2, a2'⟩ := h2; obtain ⟨a3, a3'⟩ := h3; obtain ⟨a4, a4'⟩ := h4
  clear hi hz0 hz1 hz2 hV
  obtain ⟨K, hK⟩ : ∃ K, 1 + m0 % 6 = K := ⟨_, rfl⟩
  obtain ⟨T, hT⟩ : ∃ T, m1 % 20 = T := ⟨_, rfl⟩
  obtain ⟨H, hH⟩ : ∃ H, 10 + m2 = H := ⟨_, rfl⟩
  obtain ⟨nl, hnl⟩ : ∃ nl, min H m3 = nl := ⟨_, rfl⟩
  obtain ⟨nh, hnh⟩ : ∃ nh, min H (nl + m4 % 20) = nh := ⟨_, rfl⟩
  have HRR : Hid (emMl m0 m1 m2 m3 m4 = ⟨K, T, 30, 40, H, nl, nh⟩) := by show _ = _; simp only [emMl, hK, hT, hH, hnl, hnh]
  have hK1 : 1 ≤ K ∧ K ≤ 6 := by omega
  have hH1 : 10 ≤ H ∧ H ≤ 265 := by omega
  have hnl1 : 0 ≤ nl ∧ nl ≤ 265 := by omega
  go_enter Try.func5, Try.ntmps5
  have e0 : IntKind.i64.wrap m0 = m0 := IntWalk.i64_in _ ⟨by omega, by omega⟩
  have e1 : IntKind.i64.wrap m1 = m1 := IntWalk.i64_in _ ⟨by omega, by omega⟩
  have e2 : IntKind.i64.wrap m2 = m2 := IntWalk.i64_in _ ⟨by omega, by omega⟩
  have e3 : IntKind.i64.wrap m3 = m3 := IntWalk.i64_in _ ⟨by omega, by omega⟩
  have e4 : IntKind.i64.wrap m4 = m4 := IntWalk.i64_in _ ⟨by omega, by omega⟩
  have f0 : m0.tmod 6 = m0 % 6 := Int.tmod_eq_emod_of_nonneg a0
  have f1 : m1.tmod 20 = T := by rw [Int.tmod_eq_emod_of_nonneg a1, hT]
  have f4 : m4.tmod 20 = m4 % 20 := Int.tmod_eq_emod_of_nonneg a4
  have g0 : IntKind.i64.wrap (1 + m0 % 6) = K := by rw [IntWalk.i64_in _ ⟨by omega, by omega⟩, hK]
  have g2 : IntKind.i64.wrap (10 + m2) = H := by rw [IntWalk.i64_in _ ⟨by omega, by omega⟩, hH]
  have g4 : IntKind.i64.wrap (nl + m4 % 20) = nl + m4 % 20 := IntWalk.i64_in _ ⟨by omega, by omega⟩
  obtain ⟨Wn, hWn⟩ : ∃ Wn : World, (w.alloc (.cells #[u8 m0, u8 m1, u8 m2, u8 m3, u8 m4, .slice fa V.length fc] 30)).alloc (.cells #[.int .i64 0, .int .i64 0, .int .i64 0, .int .i64 0, .int .i64 0, .int .i64 0, .int .i64 0] 40) = Wn := ⟨_, rfl⟩
  have hBw : Below w.heap.size w Wn := by rw [← hWn]; exact (by repeat (first | exact Below.refl _ _ | refine Below.drew ?_ | refine bpush ?_ _ | refine bput ?_ (by simp) _ | (refine bstep ?_ (by assumption))))
  have hb0 : Wn.heap[w.heap.size]? = some (.cells #[u8 m0, u8 m1, u8 m2, u8 m3, u8 m4, .slice fa V.length fc] 30 (0, 0)) := by rw [← hWn]; exact heapC rfl
  have hb1 : Wn.heap[w.heap.size + 1]? = some (.cells #[.int .i64 0, .int .i64 0, .int .i64 0, .int .i64 0, .int .i64 0, .int .i64 0, .int .i64 0] 40 (0, 0)) := by rw [← hWn]; exact heapA (by simp)
  have hz : Wn.heap.size = w.heap.size + 2 := by rw [← hWn]; simp
  have HB0 := Lib.hid hb0; have HB1 := Lib.hid hb1; have HZ := Lib.hid hz
  have hz1 : w.heap.size + 2 ≤ Wn.heap.size := by omega
  have c0 : Wn.cell? ⟨w.heap.size, 0, none⟩ = some (u8 m0) := by rw [cell_of_row _ _ _ _ _ _ hb0]; rfl
  have c1 : Wn.cell? ⟨w.heap.size, 1, none⟩ = some (u8 m1) := by rw [cell_of_row _ _ _ _ _ _ hb0]; rfl
  have c2 : Wn.cell? ⟨w.heap.size, 2, none⟩ = some (u8 m2) := by rw [cell_of_row _ _ _ _ _ _ hb0]; rfl
  have hBn : Below Wn.heap.size Wn Wn := Below.refl _ _
  have HWN := Lib.hid hWn
  have HK1 := Lib.hid hK1; have HH1 := Lib.hid hH1; have HNL1 := Lib.hid hnl1
  clear hb0 hb1 hz hWn hK hT hH hK1 hH1 hnl1
  go_wp2_with fail
  rw [HWN.out]
  go_cut [4] (fun p wx => EmCut Wn K T 30 40 H 0 0 p wx)
  case first =>
    clear e3 e4 f4 g4 hnl hnh
    go_region_held3 (fun w' => w'.cell? ⟨w.heap.size, 0, none⟩ = some (Ytgoncgbbgodliaa.u8 m0) ∧ w'.cell? ⟨w.heap.size, 1, none⟩ = some (Ytgoncgbbgodliaa.u8 m1) ∧ w'.cell? ⟨w.heap.size, 2, none⟩ = some (Ytgoncgbbgodliaa.u8 m2) ∧ Below Wn.heap.size Wn w')
      (first | (with_reducible exact ⟨kcell (bpush (Below.refl _ _) _) hS0.out.1, kcell (bpush (Below.refl _ _) _) hS0.out.2.1, kcell (bpush (Below.refl _ _) _) hS0.out.2.2, bpush hSt _⟩) | ((with_reducible refine ⟨(cset7 ?_).trans hS0.out.1, (cset7 ?_).trans hS0.out.2.1, (cset7 ?_).trans hS0.out.2.2, bset7 hSt ?_⟩) <;> omega) | (with_reducible exact ⟨hS0.out.1, hS0.out.2.1, hS0.out.2.2, hSt⟩) | (refine ⟨?_, ?_, ?_, ?_⟩ <;> first | exact Below.drew (by assumption) | assumption) | (go_split_ands; refine ⟨?_, ?_, ?_, ?_⟩ <;> first | assumption | exact kcell (bpush (Below.refl _ _) _) (by assumption) | exact bpush (by assumption) _))
      (first | ((with_reducible refine (elmSpan_any _ _ _).mono ?_); rintro e w3 ⟨rfl, hbK⟩; have hSt : Below Wn.heap.size Wn w3 := bstep (And.right (And.right (And.right (by assumption)))) hbK; have hS0 : Hid (w3.cell? ⟨w.heap.size, 0, none⟩ = some (Ytgoncgbbgodliaa.u8 m0) ∧ w3.cell? ⟨w.heap.size, 1, none⟩ = some (Ytgoncgbbgodliaa.u8 m1) ∧ w3.cell? ⟨w.heap.size, 2, none⟩ = some (Ytgoncgbbgodliaa.u8 m2)) := ⟨kcell hbK (And.left (by assumption)), kcell hbK (And.left (And.right (by assumption))), kcell hbK (And.left (And.right (And.right (by assumption))))⟩; obtain ⟨hKc, hKf⟩ := bcell hbK; have hKz := hbK.size; (try simp [Nat.add_one_le_iff] at hKz); have hSz := hSt.size))
    all_goals
      go_wp2_with fail
      go_meet
      first
        | (with_reducible exact emA hSt)
        | (refine emB hSt (by omega) ?_ ?_ ?_ ?_ ?_ ?_ ?_ ?_ ?_ <;> (go_simp; done))
  case rest =>
    obtain ⟨g, rfl, hg, hgz, hBc, ⟨k0, k1, k2, k3, k4, k5, k6⟩, y5, y6⟩ := hcut
    have HB0x := Lib.hid ((hBc.block w.heap.size (by omega)).trans HB0.out)
    have HB1x := Lib.hid ((hBc.block (w.heap.size + 1) (by omega)).trans HB1.out)
    have HBC := Lib.hid (hBw.trans (hBc.mono (by omega)))
    have c3 : wc.cell? ⟨w.heap.size, 3, none⟩ = some (Ytgoncgbbgodliaa.u8 m3) := by rw [cell_of_row _ _ _ _ _ _ HB0x.out]; rfl
    have c4 : wc.cell? ⟨w.heap.size, 4, none⟩ = some (Ytgoncgbbgodliaa.u8 m4) := by rw [cell_of_row _ _ _ _ _ _ HB0x.out]; rfl
    have HG := Lib.hid (show Wn.heap.size ≤ g ∧ g < wc.heap.size from ⟨hg, hgz⟩)
    clear c0 c1 c2 hBn hBc hBw hg
    have hmin : (m3 < H → nl = m3) ∧ (¬ m3 < H → nl = H) := by omega
    have hmin2 : (nl + m4 % 20 < H → nh = nl + m4 % 20) ∧ (¬ nl + m4 % 20 < H → nh = H) := by omega
    have HM1 := Lib.hid hmin; have HM2 := Lib.hid hmin2
    clear hmin hmin2 hnl hnh
    go_upto_region 2 with (fail)
    go_cut [5] (fun n wx => n = iv nl ∧ wx = wc)
    case first =>
      by_cases hm : m3 < H
      · have HE := Lib.hid (HM1.out.1 hm)
        go_wp2_with fail
        go_meet
        exact ⟨by rw [HE.out], rfl⟩
      · have HE := Lib.hid (HM1.out.2 hm)
        go_wp2_with fail
        go_meet
        exact ⟨by rw [HE.out], rfl⟩
    case rest =>
      obtain ⟨rfl, hwx⟩ := hcut
      subst hwx
      obtain ⟨wo, hwo⟩ : ∃ W, W = wc := ⟨_, rfl⟩
      subst hwo
      go_upto_region 3 with (fail)
      go_cut [] (fun wx => EmAt wo K T 30 40 H nl nh g wx)
      case first =>
        by_cases hm : nl + m4 % 20 < H
        · have HE := Lib.hid (HM2.out.1 hm)
          go_wp2_with fail
          refine (elmSpan_any _ _ _).mono ?_
          rintro e w5 ⟨rfl, hb5⟩
          have q5 := kcell hb5 k5; have q6 := kcell hb5 k6
          have y5' := kfrozen hb5 k5 y5; have y6' := kfrozen hb5 k6 y6
          have HB5 := Lib.hid hb5
          clear hb5
          go_wp2_with fail
          go_meet
          have h := emC (v5 := nl) (v6 := nh) HB5.out k0 k1 k2 k3 k4 k5 k6
          rw [show iv nh = iv (nl + m4 % 20) by rw [HE.out]] at h
          exact h
        · have HE := Lib.hid (HM2.out.2 hm)
          go_wp2_with fail
          refine (elmSpan_any _ _ _).mono ?_
          rintro e w5 ⟨rfl, hb5⟩
          have q5 := kcell hb5 k5; have q6 := kcell hb5 k6
          have y5' := kfrozen hb5 k5 y5; have y6' := kfrozen hb5 k6 y6
          have HB5 := Lib.hid hb5
          clear hb5
          go_wp2_with fail
          go_meet
          have h := emC (v5 := nl) (v6 := nh) HB5.out k0 k1 k2 k3 k4 k5 k6
          rw [show iv nh = iv H by rw [HE.out]] at h
          exact h
      case rest =>
        have hzw : w.heap.size + 2 ≤ wo.heap.size := by have := HG.out; omega
        have hgw1 : w.heap.size ≠ g := by have := HG.out; omega
        have hgw2 : w.heap.size + 1 ≠ g := by have := HG.out; omega
        have HK := Lib.hid hcut.k
        have hbwc : Below w.heap.size w wc := hcut.below HBC.out (by have := HG.out; omega)
        have HBC2 := Lib.hid hbwc
        have HB0c := Lib.hid ((hcut.block (by omega) hgw1).trans HB0x.out)
        have HB1c := Lib.hid ((hcut.block (by omega) hgw2).trans HB1x.out)
        have hwc : w.heap.size + 2 ≤ wc.heap.size := Nat.le_trans hzw hcut.size
        have HFc := Lib.hid (SliceU.below HF.out hbwc)
        have HG : Hid (Wn.heap.size ≤ g ∧ g < wc.heap.size) := by have := HG.out; have := hcut.size; exact ⟨by omega, by omega⟩
        clear k0 k1 k2 k3 k4 k5 k6 y5 y6 c3 c4 e0 e1 e2 e3 e4 f0 f1 f4 g0 g2 g4 hbwc hcut HBC HB0x HB1x HM1 HM2 HF HB0 HB1 hgw1 hgw2 hzw
        have hN12 : emN V ≤ 12 := by unfold emN; split <;> omega
        go_wp2_with fail
        go_loopw [6, 7] (fun tv i wr => ∃ k : Nat, k ≤ emN V ∧ i = iv k ∧ Hid (Owns encS 2 33 wc.heap.size wr tv (emL V k)) ∧ Hid (Below wc.heap.size wc wr)) (fun _ i _ => 12 - (intOf i).toNat)
        case atStart => exact ⟨0, by omega, rfl, Lib.hid (owns_empty encS 2 _ _ wc (Nat.le_refl _)), Lib.hid (bpush (Below.refl _ _) _)⟩
        case round =>
          obtain ⟨k, hk, rfl, HO, HW⟩ := hrel
          have hs : wc.heap.size ≤ wr.heap.size := HW.out.size
          have HR0 := Lib.hid ((HW.out.block w.heap.size (by omega)).trans HB0c.out)
          have c4 : wr.cell? ⟨w.heap.size, 5, none⟩ = some (.slice fa V.length fc) := by rw [cell_of_row _ _ _ _ _ _ HR0.out]; rfl
          have hlk : (emL V k).length = k := by simp [emL]
          by_cases hlt : k < emN V
          · have hw0 : w.heap.size ≠ wr.heap.size := by omega
            by_cases hkl : k < V.length
            · obtain ⟨p, hp⟩ : ∃ p, V[k]? = some p := ⟨V[k], List.getElem?_eq_getElem hkl⟩
              obtain ⟨⟨p0, p0'⟩, ⟨p1, p1'⟩⟩ := HVV.out p (List.mem_of_getElem? hp)
              obtain ⟨q0, q1⟩ := p
              dsimp only at p0 p0' p1 p1'
              have HT : Hid (emL V (k + 1) = emL V k ++ [(q0 % 80, q0 % 80 + q1 % 20)]) := by simp [Hid, emL, List.range_succ, emSp, List.getD, hp]
              have hfr := SliceU.below HFc.out HW.out
              obtain ⟨a', c', hv, -, hcs⟩ := hfr
              obtain ⟨fb, fo, hfa, hj⟩ := hcs k (q0, q1) hp
              have hfa2 : fa = some ⟨fb, fo, none⟩ := by simp only [Value.slice.injEq] at hv; rw [hv.1, hfa]
              clear hv hcs hfa
              subst hfa2
              have x0 : wr.cell? ⟨fb, fo + k * 2, none⟩ = some (Ytgoncgbbgodliaa.u8 q0) := hj 0 _ rfl
              have x1 : wr.cell? ⟨fb, fo + k * 2 + 1, none⟩ = some (Ytgoncgbbgodliaa.u8 q1) := hj 1 _ rfl
              have hfb : fb < wr.heap.size := lt_of_cell x0
              have xA0 : ∀ o, (wr.alloc o).cell? ⟨fb, fo + k * 2, none⟩ = some (Ytgoncgbbgodliaa.u8 q0) := fun o => (World.cell?_alloc_old _ _ _ (by show fb ≠ wr.heap.size; omega)).trans x0
              have xA1 : ∀ o, (wr.alloc o).cell? ⟨fb, fo + k * 2 + 1, none⟩ = some (Ytgoncgbbgodliaa.u8 q1) := fun o => (World.cell?_alloc_old _ _ _ (by show fb ≠ wr.heap.size; omega)).trans x1
              have cA : ∀ o, (wr.alloc o).cell? ⟨w.heap.size, 5, none⟩ = some (.slice (some ⟨fb, fo, none⟩) V.length fc) := fun o => (World.cell?_alloc_old _ _ _ (by show w.heap.size ≠ wr.heap.size; omega)).trans c4
              clear hj
              have t1 : q0.tmod 80 = q0 % 80 := Int.tmod_eq_emod_of_nonneg p0
              have t2 : q1.tmod 20 = q1 % 20 := Int.tmod_eq_emod_of_nonneg p1
              have r1 : 0 ≤ q0 % 80 ∧ q0 % 80 ≤ 79 := by omega
              have r2 : 0 ≤ q1 % 20 ∧ q1 % 20 ≤ 19 := by omega
              obtain ⟨r1, r1'⟩ := r1; obtain ⟨r2, r2'⟩ := r2
              have g1 : IntKind.i64.wrap q0 = q0 := IntWalk.i64_in _ ⟨by omega, by omega⟩
              have g2 : IntKind.i64.wrap q1 = q1 := IntWalk.i64_in _ ⟨by omega, by omega⟩
              have g3 : IntKind.i64.wrap (q0 % 80 + q1 % 20) = q0 % 80 + q1 % 20 := IntWalk.i64_in _ ⟨by omega, by omega⟩
              have hki : (k : Int) < (V.length : Int) := by omega
              have hk0i : (0 : Int) ≤ (k : Int) := by omega
              have hk12 : (k : Int) < 12 := by omega
              by_cases hk0 : k = 0
              · subst hk0
                have zA0 : ∀ o, (wr.alloc o).cell? ⟨fb, fo, none⟩ = some (Ytgoncgbbgodliaa.u8 q0) := fun o => (congrArg (fun x => (wr.alloc o).cell? ⟨fb, x, none⟩) (by omega)).trans (xA0 o)
                have zA1 : ∀ o, (wr.alloc o).cell? ⟨fb, fo + 1, none⟩ = some (Ytgoncgbbgodliaa.u8 q1) := fun o => (congrArg (fun x => (wr.alloc o).cell? ⟨fb, x, none⟩) (by omega)).trans (xA1 o)
                go_wp2_with fail
                refine (elmSpan_any _ _ _).mono ?_
                rintro e w1 ⟨rfl, hb1⟩
                have hBX : Below wr.heap.size wr w1 := bstep (by repeat (first | exact Below.refl _ _ | refine Below.drew ?_ | refine bpush ?_ _ | refine bput ?_ (by simp) _ | (refine bstep ?_ (by assumption)))) hb1
                have HBX := Lib.hid hBX
                have HO1 := Lib.hid (Owns.kept HO.out hBX)
                have hb2 : Hid ((emL V 0).length + 1 ≤ maxLen ∧ ((emL V 0).length + 1) * 16 ≤ 140737488355328) := by rw [hlk]; simp [Hid]; unfold maxLen; omega
                have hb3 : Hid (wc.heap.size ≤ (w1.alloc (.cells #[iv (q0 % 80), iv (q0 % 80 + q1 % 20)] 33)).heap.size) := by have := hBX.size; simp [Hid]; omega
                clear hBX hb1
                go_wp2_with (at_builtin; refine L_append1 ((q0 % 80, q0 % 80 + q1 % 20) : Sp) rfl _ _ 31 rfl Try.underlying31 HI.out HZ0.out HZ1.out HZ2.out rfl Nat.two_pos encS_len (encS_one _) rfl rfl (Owns.kept HO1.out (bpush (Below.refl _ _) _)) (encS_cell ?_ ?_) hb2.out hb3.out ?_; go_simp; go_simp; intro v' w3 hown3 hbe3 hg3)
                have HO3 := Lib.hid (show Owns encS 2 33 wc.heap.size w3 v' (emL V (0 + 1)) by rw [HT.out]; exact hown3)
                go_roundw
                case rel =>
                  refine ⟨0 + 1, ?_, ?_, HO3, Lib.hid ((HW.out.trans ((bpush HBX.out _).mono (by omega))).trans hbe3)⟩
                  · omega
                  · first | rfl | go_num
                case measure => first | (simp [intOf]; done) | (simp [intOf]; omega)
              · have hz0 : ¬ (k : Int) = 0 := by omega
                have hz0' : ((k : Int) == 0) = false := by simpa using hz0
                go_wp2_with fail
                refine (elmSpan_any _ _ _).mono ?_
                rintro e w1 ⟨rfl, hb1⟩
                have hBX : Below wr.heap.size wr w1 := bstep (by repeat (first | exact Below.refl _ _ | refine Below.drew ?_ | refine bpush ?_ _ | refine bput ?_ (by simp) _ | (refine bstep ?_ (by assumption)))) hb1
                have HBX := Lib.hid hBX
                have HO1 := Lib.hid (Owns.kept HO.out hBX)
                have hb2 : Hid ((emL V k).length + 1 ≤ maxLen ∧ ((emL V k).length + 1) * 16 ≤ 140737488355328) := by rw [hlk]; simp [Hid]; unfold maxLen; omega
                have hb3 : Hid (wc.heap.size ≤ (w1.alloc (.cells #[iv (q0 % 80), iv (q0 % 80 + q1 % 20)] 33)).heap.size) := by have := hBX.size; simp [Hid]; omega
                clear hBX hb1
                go_wp2_with (at_builtin; refine L_append1 ((q0 % 80, q0 % 80 + q1 % 20) : Sp) rfl _ _ 31 rfl Try.underlying31 HI.out HZ0.out HZ1.out HZ2.out rfl Nat.two_pos encS_len (encS_one _) rfl rfl (Owns.kept HO1.out (bpush (Below.refl _ _) _)) (encS_cell ?_ ?_) hb2.out hb3.out ?_; go_simp; go_simp; intro v' w3 hown3 hbe3 hg3)
                have HO3 := Lib.hid (show Owns encS 2 33 wc.heap.size w3 v' (emL V (k + 1)) by rw [HT.out]; exact hown3)
                go_roundw
                case rel =>
                  refine ⟨k + 1, ?_, ?_, HO3, Lib.hid ((HW.out.trans ((bpush HBX.out _).mono (by omega))).trans hbe3)⟩
                  · omega
                  · first | rfl | go_num
                case measure => first | (simp [intOf]; done) | (simp [intOf]; omega)
            · have hv : V.length = 0 := by unfold emN at hlt; split at hlt <;> omega
              have hk0 : k = 0 := by unfold emN at hlt; split at hlt <;> omega
              subst hk0
              have cA : ∀ o, (wr.alloc o).cell? ⟨w.heap.size, 5, none⟩ = some (.slice fa V.length fc) := fun o => (World.cell?_alloc_old _ _ _ (by show w.heap.size ≠ wr.heap.size; omega)).trans c4
              have HT : Hid (emL V (0 + 1) = emL V 0 ++ [(20, 24)]) := by have e := List.eq_nil_of_length_eq_zero hv; simp [Hid, emL, List.range_succ, emSp, e]
              clear hv
              go_wp2_with fail
              refine (elmSpan_any _ _ _).mono ?_
              rintro e w1 ⟨rfl, hb1⟩
              have hBX : Below wr.heap.size wr w1 := bstep (by repeat (first | exact Below.refl _ _ | refine Below.drew ?_ | refine bpush ?_ _ | refine bput ?_ (by simp) _ | (refine bstep ?_ (by assumption)))) hb1
              have HBX := Lib.hid hBX
              have HO1 := Lib.hid (Owns.kept HO.out hBX)
              have hb2 : Hid ((emL V 0).length + 1 ≤ maxLen ∧ ((emL V 0).length + 1) * 16 ≤ 140737488355328) := by rw [hlk]; simp [Hid]; unfold maxLen; omega
              have hb3 : Hid (wc.heap.size ≤ (w1.alloc (.cells #[iv (20), iv (24)] 33)).heap.size) := by have := hBX.size; simp [Hid]; omega
              clear hBX hb1
              go_wp2_with (at_builtin; refine L_append1 ((20, 24) : Sp) rfl _ _ 31 rfl Try.underlying31 HI.out HZ0.out HZ1.out HZ2.out rfl Nat.two_pos encS_len (encS_one _) rfl rfl (Owns.kept HO1.out (bpush (Below.refl _ _) _)) (encS_cell ?_ ?_) hb2.out hb3.out ?_; go_simp; go_simp; intro v' w3 hown3 hbe3 hg3)
              have HO3 := Lib.hid (show Owns encS 2 33 wc.heap.size w3 v' (emL V (0 + 1)) by rw [HT.out]; exact hown3)
              go_roundw
              case rel =>
                refine ⟨0 + 1, ?_, ?_, HO3, Lib.hid ((HW.out.trans ((bpush HBX.out _).mono (by omega))).trans hbe3)⟩
                · omega
                · first | rfl | go_num
              case measure => first | (simp [intOf]; done) | (simp [intOf]; omega)
          · have hz0 : ¬ (k : Int) = 0 := by unfold emN at hlt; split at hlt <;> omega
            have hz0' : ((k : Int) == 0) = false := by simpa using hz0
            have hge : V.length ≤ k ∨ 12 ≤ k := by unfold emN at hlt; split at hlt <;> omega
            obtain ⟨j0, j1, j2, j3, j4, j5, j6⟩ := HK.out
            have i0' : wr.cell? ⟨g, 0, none⟩ = some (iv K) := (HW.out.cell (p := ⟨g, 0, none⟩) HG.out.2).trans j0
            have i1' : wr.cell? ⟨g, 1, none⟩ = some (iv T) := (HW.out.cell (p := ⟨g, 1, none⟩) HG.out.2).trans j1
            have i2' : wr.cell? ⟨g, 2, none⟩ = some (iv 30) := (HW.out.cell (p := ⟨g, 2, none⟩) HG.out.2).trans j2
            have i3' : wr.cell? ⟨g, 3, none⟩ = some (iv 40) := (HW.out.cell (p := ⟨g, 3, none⟩) HG.out.2).trans j3
            have i4' : wr.cell? ⟨g, 4, none⟩ = some (iv H) := (HW.out.cell (p := ⟨g, 4, none⟩) HG.out.2).trans j4
            have i5' : wr.cell? ⟨g, 5, none⟩ = some (iv nl) := (HW.out.cell (p := ⟨g, 5, none⟩) HG.out.2).trans j5
            have i6' : wr.cell? ⟨g, 6, none⟩ = some (iv nh) := (HW.out.cell (p := ⟨g, 6, none⟩) HG.out.2).trans j6
            clear j0 j1 j2 j3 j4 j5 j6
            have HR1 := Lib.hid ((HW.out.block (w.heap.size + 1) (by omega)).trans HB1c.out)
            have d0 : wr.cell? ⟨w.heap.size + 1, 0, none⟩ = some (.int .i64 0) := by rw [cell_of_row _ _ _ _ _ _ HR1.out]; rfl
            have d1 : wr.cell? ⟨w.heap.size + 1, 1, none⟩ = some (.int .i64 0) := by rw [cell_of_row _ _ _ _ _ _ HR1.out]; rfl
            have d2 : wr.cell? ⟨w.heap.size + 1, 2, none⟩ = some (.int .i64 0) := by rw [cell_of_row _ _ _ _ _ _ HR1.out]; rfl
            have d3 : wr.cell? ⟨w.heap.size + 1, 3, none⟩ = some (.int .i64 0) := by rw [cell_of_row _ _ _ _ _ _ HR1.out]; rfl
            have d4 : wr.cell? ⟨w.heap.size + 1, 4, none⟩ = some (.int .i64 0) := by rw [cell_of_row _ _ _ _ _ _ HR1.out]; rfl
            have d5 : wr.cell? ⟨w.heap.size + 1, 5, none⟩ = some (.int .i64 0) := by rw [cell_of_row _ _ _ _ _ _ HR1.out]; rfl
            have d6 : wr.cell? ⟨w.heap.size + 1, 6, none⟩ = some (.int .i64 0) := by rw [cell_of_row _ _ _ _ _ _ HR1.out]; rfl
            have y0 : wr.frozen? ⟨w.heap.size + 1, 0, none⟩ = false := by unfold World.frozen?; rw [HR1.out]; rfl
            have y1 : wr.frozen? ⟨w.heap.size + 1, 1, none⟩ = false := by unfold World.frozen?; rw [HR1.out]; rfl
            have y2 : wr.frozen? ⟨w.heap.size + 1, 2, none⟩ = false := by unfold World.frozen?; rw [HR1.out]; rfl
            have y3 : wr.frozen? ⟨w.heap.size + 1, 3, none⟩ = false := by unfold World.frozen?; rw [HR1.out]; rfl
            have y4 : wr.frozen? ⟨w.heap.size + 1, 4, none⟩ = false := by unfold World.frozen?; rw [HR1.out]; rfl
            have y5 : wr.frozen? ⟨w.heap.size + 1, 5, none⟩ = false := by unfold World.frozen?; rw [HR1.out]; rfl
            have y6 : wr.frozen? ⟨w.heap.size + 1, 6, none⟩ = false := by unfold World.frozen?; rw [HR1.out]; rfl
            have hgw : w.heap.size + 1 ≠ g := by have := HG.out.1; omega
            have hkN : k = emN V := by omega
            have HOE : Hid (Owns encS 2 33 wc.heap.size wr u6 (emL V (emN V))) := by rw [← hkN]; exact HO
            have HL1 : w.heap.size + 1 < wc.heap.size := by omega
            clear hkN
            by_cases hkl : (k : Int) < (V.length : Int)
            · have hk12 : ¬ (k : Int) < 12 := by omega
              clear hge
              go_wp2_with fail
              exact bodyPost_ret (fb_results Try.results5 _ _ (w.heap.size + 1) 40 #[iv K, iv T, iv 30, iv 40, iv H, iv nl, iv nh] (0, 0) _ rfl (heap_set7 HR1.out) Try.underlying40 rfl (by kernel_rfl)) rfl (fb_end (Nat.le_succ _) HL1 HBC2.out HW.out HOE.out HRR.out)
            · clear hge
              go_wp2_with fail
              exact bodyPost_ret (fb_results Try.results5 _ _ (w.heap.size + 1) 40 #[iv K, iv T, iv 30, iv 40, iv H, iv nl, iv nh] (0, 0) _ rfl (heap_set7 HR1.out) Try.underlying40 rfl (by kernel_rfl)) rfl (fb_end (Nat.le_succ _) HL1 HBC2.out HW.out HOE.out HRR.out)
end Go.Proofs.Ytgoncgbbgodliaa
