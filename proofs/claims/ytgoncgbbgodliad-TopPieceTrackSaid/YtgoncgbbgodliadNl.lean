/- TopPieceTrack's walk. -/
import Derived.Test.YtgoncgbbgodliadNk
import Derived.Test.YtgoncgbbgodliadNe
import Derived.Test.YtgoncgbbgodliadKt
import Derived.Test.YtgoncgbbgodliadKu
import Derived.Deep.RegionLaw
import Derived.Deep.CutBlock
import Derived.Deep.DeepCutAuto
namespace Go.Proofs.Ytgoncgbbgodliad
open Go Go.RowKit Go.Shelf
attribute [local go_sem] Oper.semAt_some
attribute [local go_sem ↓] Go.wp_at_zero Go.wp_at_succ

abbrev u16v (n : Int) : Value := .int .u16 n
theorem tcs1 {w : World} {g cap : Nat} {c : Tc} {t : TypeId} (h : w.heap[g]? = some (.cells #[iv c.ll, iv c.lh, iv c.rl, iv c.rh, iv c.tl, iv c.th, .string c.mark] t (0, 0))) : SliceOf encTc 7 w (.slice (some ⟨g, 0, none⟩) 1 cap) [c] := by
  refine ⟨_, cap, rfl, by simp, fun i p hp => ⟨g, 0, rfl, fun j u hu => ?_⟩⟩
  rw [cell_of_row _ _ _ _ _ _ h]
  rcases i with _ | i
  · simp at hp; subst hp
    rcases j with _ | _ | _ | _ | _ | _ | _ | j <;> simp [encTc] at hu ⊢ <;> exact hu
  · simp at hp
theorem tps1 {w : World} {g cap : Nat} {c : Tp} {t : TypeId} (h : w.heap[g]? = some (.cells #[iv c.lo, iv c.off, iv c.th, iv c.wl, iv c.wh, .string c.mark, .string c.le, .string c.ri] t (0, 0))) : SliceOf encTp 8 w (.slice (some ⟨g, 0, none⟩) 1 cap) [c] := by
  refine ⟨_, cap, rfl, by simp, fun i p hp => ⟨g, 0, rfl, fun j u hu => ?_⟩⟩
  rw [cell_of_row _ _ _ _ _ _ h]
  rcases i with _ | i
  · simp at hp; subst hp
    rcases j with _ | _ | _ | _ | _ | _ | _ | _ | j <;> simp [encTp] at hu ⊢ <;> exact hu
  · simp at hp
/-- What Least says. -/
def LsRes (m : Int) (W : World) (e : Ending) (w' : World) : Prop := ∃ b o c, e = .returned (.tuple #[.slice (some ⟨b, o, none⟩) 1 c, iv 0]) ∧ w'.cell? ⟨b, o, none⟩ = some (iv m) ∧ Below W.heap.size W w'
/-- Behind Least. -/
def LsCut (m : Int) (W : World) (l e : Value) (wx : World) : Prop := ∃ b o c, l = .slice (some ⟨b, o, none⟩) 1 c ∧ e = iv 0 ∧ wx.cell? ⟨b, o, none⟩ = some (iv m) ∧ Below W.heap.size W wx
/-- The piece has been laid. -/
def PkCut (L off : Int) (n : Nat) (W : World) (p : Value) (wx : World) : Prop :=
  ∃ gp, p = .pointer (some ⟨gp, 0, none⟩) ∧ wx.heap[gp]? = some (.cells #[iv L, iv off, iv 20, iv n, iv n, .string pkE, .string pkE, .string pkE] 39 (0, 0)) ∧ Below W.heap.size W wx
theorem pk_done1 (L off : Int) (n : Nat) (W : World) : PkCut L off n W (.pointer (some ⟨W.heap.size + 1, 0, none⟩)) ((W.alloc (.cells #[iv n, iv n] 29)).alloc (.cells #[.int .i64 L, .int .i64 off, .int .i64 20, .int .i64 n, .int .i64 n, .string { data := #[] }, .string { data := #[] }, .string { data := #[] }] 39)).drew :=
  ⟨_, rfl, heapB (by simp), (bpush (bpush (Below.refl _ _) _) _).drew⟩
theorem pk_done2 (L off : Int) (n : Nat) (W : World) : PkCut L off n W (.pointer (some ⟨W.heap.size, 0, none⟩)) ((W.alloc (.cells #[.int .i64 L, .int .i64 off, .int .i64 20, .int .i64 n, .int .i64 n, .string { data := #[] }, .string { data := #[] }, .string { data := #[] }] 39)).alloc (.cells #[iv n, iv n] 29)).drew :=
  ⟨_, rfl, heapD rfl, (bpush (bpush (Below.refl _ _) _) _).drew⟩
set_option maxRecDepth 20000 in
set_option maxHeartbeats 25600000 in
theorem piece_walk (lg v0 v1 v2 : Int) (w : World) (hlg : 0 ≤ lg ∧ lg ≤ 65535) (h0 : 0 ≤ v0 ∧ v0 ≤ 255) (h1 : 0 ≤ v1 ∧ v1 ≤ 255) (h2 : 0 ≤ v2 ∧ v2 ≤ 255) :
    Calls Try.prog 3 #[u16v lg, .agg #[u8 v0, u8 v1, u8 v2]] w fun e w' => e = .returned (.bool true) ∧ Below w.heap.size w w' := by
  obtain ⟨s0, hs0⟩ : ∃ s0, lg % 580 = s0 := ⟨_, rfl⟩
  obtain ⟨r, hr⟩ : ∃ r, v0 % 101 = r := ⟨_, rfl⟩
  obtain ⟨n, hn⟩ : ∃ n : Nat, v1 % 6 = (n : Int) := Int.eq_ofNat_of_zero_le (by omega)
  obtain ⟨off, hoff⟩ : ∃ off, v2 % 21 = off := ⟨_, rfl⟩
  have b0 : 0 ≤ s0 ∧ s0 ≤ 579 := by omega
  have b1 : 0 ≤ r ∧ r ≤ 100 := by omega
  have b2 : n ≤ 5 := by omega
  have b3 : 0 ≤ off ∧ off ≤ 20 := by omega
  obtain ⟨L, m, hL, hm, ⟨p1, p2⟩, ⟨p3, p4⟩, ⟨p5, p6⟩, hp7⟩ := piece_plain (f := 10 + s0) (n := n) ⟨by omega, by omega⟩ b1 b3
  have HP7 := Lib.hid hp7
  have HLE := Lib.hid hm
  have HAL := Lib.hid hL
  clear hp7 hm hL
  have HAT : Hid (∀ (x : Int) (W : World) (g : Nat), 1 ≤ x → x ≤ 600 → SliceOf encT 4 W (.slice (some ⟨g, 0, none⟩) 3 3) (trkL x r) → Calls Try.prog 6 #[.agg #[.slice (some ⟨g, 0, none⟩) 3 3, .slice none 0 0], iv n] W fun e w' => ∃ rg rc, e = .returned (.tuple #[.slice (some ⟨rg, 0, none⟩) 3 rc, iv 0]) ∧ (w'.cell? ⟨rg, 0, none⟩ = some (iv (aft x r n)) ∧ w'.cell? ⟨rg, 1, none⟩ = some (iv (aft x r n))) ∧ Below W.heap.size W w') := fun x W g hx1 hx2 h => by
    refine (at3_any _ _ _ n (trk_valid ⟨hx1, hx2⟩ b1) (by omega) _ (.slice none 0 0) W h (SliceOf.nil _ _ _ _ _)).mono ?_
    rintro e w' ⟨rv, rfl, ho, hb⟩
    obtain ⟨rg, rc, rfl⟩ := owns_addr ho (by simp)
    have hs := Owns.slice ho encS_len (by simp)
    have h0 := sl_cellsS (k := 0) hs rfl
    dsimp only at h0
    rw [qAt_exact] at h0
    exact ⟨rg, rc, rfl, h0, hb⟩
  have HCK := Lib.hid (pk_chk (L := L) (off := off) (r := r) (n := n) ⟨p1, by omega⟩ b3 b1 b2)
  have t0 : lg.tmod 580 = s0 := by rw [← hs0]; exact Int.tmod_eq_emod_of_nonneg hlg.1
  have t1 : v0.tmod 101 = r := by rw [← hr]; exact Int.tmod_eq_emod_of_nonneg h0.1
  have t2 : v1.tmod 6 = (n : Int) := by rw [← hn]; exact Int.tmod_eq_emod_of_nonneg h1.1
  have t3 : v2.tmod 21 = off := by rw [← hoff]; exact Int.tmod_eq_emod_of_nonneg h2.1
  clear hs0 hr hn hoff
  obtain ⟨w0, hw0⟩ : ∃ W : World, w.alloc (.cells #[u8 v0, u8 v1, u8 v2] 23) = W := ⟨_, rfl⟩
  have HB0 : Hid (Below w.heap.size w w0) := by rw [← hw0]; exact bpush (Below.refl _ _) _
  have hr0 : w0.heap[w.heap.size]? = some (.cells #[u8 v0, u8 v1, u8 v2] 23 (0, 0)) := by rw [← hw0]; exact heap_new _ _ _
  have HV0 := Lib.hid hr0
  have c0 : w0.cell? ⟨w.heap.size, 0, none⟩ = some (u8 v0) := by rw [cell_of_row _ _ _ _ _ _ hr0]; rfl
  have c1 : w0.cell? ⟨w.heap.size, 1, none⟩ = some (u8 v1) := by rw [cell_of_row _ _ _ _ _ _ hr0]; rfl
  have hz0 : w.heap.size < w0.heap.size := (Array.getElem?_eq_some_iff.1 hr0).1
  have e0 : IntKind.i64.wrap lg = lg := IntWalk.i64_in _ ⟨by omega, by omega⟩
  have e1 : IntKind.i64.wrap v0 = v0 := IntWalk.i64_in _ ⟨by omega, by omega⟩
  have e2 : IntKind.i64.wrap v1 = v1 := IntWalk.i64_in _ ⟨by omega, by omega⟩
  have e3 : IntKind.i64.wrap v2 = v2 := IntWalk.i64_in _ ⟨by omega, by omega⟩
  have e4 : IntKind.i64.wrap s0 = s0 := IntWalk.i64_in _ ⟨by omega, by omega⟩
  have e5 : IntKind.i64.wrap (10 + s0) = 10 + s0 := IntWalk.i64_in _ ⟨by omega, by omega⟩
  have e6 : IntKind.i64.wrap r = r := IntWalk.i64_in _ ⟨by omega, by omega⟩
  have e7 : IntKind.i64.wrap (n : Int) = (n : Int) := IntWalk.i64_in _ ⟨by omega, by omega⟩
  have e8 : IntKind.i64.wrap off = off := IntWalk.i64_in _ ⟨by omega, by omega⟩
  clear hr0
  go_enter Try.func3, Try.ntmps3
  go_wp2_with fail
  clear hw0
  go_region
  obtain ⟨W1, hW1⟩ : ∃ W : World, (w0.alloc (.cells #[.int .i64 r] 3)).drew = W := ⟨_, rfl⟩
  have hB1 : Below w0.heap.size w0 W1 := by rw [← hW1]; exact (bpush (Below.refl _ _) _).drew
  have HB1 := Lib.hid (bstep HB0.out hB1)
  have HV1 := Lib.hid (krowN hB1 HV0.out)
  have HR1 : Hid (W1.heap[w0.heap.size]? = some (.cells #[iv r] 3 (0, 0))) := by rw [← hW1]; exact heap_new _ _ _
  have hrc : W1.cell? ⟨w0.heap.size, 0, none⟩ = some (iv r) := by rw [cell_of_row _ _ _ _ _ _ HR1.out]; rfl
  rw [hW1]
  clear hW1 hB1 c0 c1 hz0 t0 t1 t2 e0 e1 e2 e4 e5 e6 e7
  go_wp2_with fail
  refine (track_any (10 + s0) r w0.heap.size _ hrc).mono ?_
  rintro e w2 ⟨g2, rfl, hs2, hb2⟩
  have HS2 := Lib.hid hs2
  have HB2 := Lib.hid (bstep HB1.out hb2)
  have HV2 := Lib.hid (krowN hb2 HV1.out)
  have HR2 := Lib.hid (krowN hb2 HR1.out)
  clear hs2 hb2 hrc
  go_wp2_with fail
  refine (HAT.out (10 + s0) _ _ (by omega) (by omega) HS2.out).mono ?_
  rintro e w3 ⟨rg, rc, rfl, ⟨k0, k1⟩, hb3⟩
  rw [HAL.out] at k0 k1
  have HB3 := Lib.hid (bstep HB2.out hb3)
  have HV3 := Lib.hid (krowN hb3 HV2.out)
  have HR3 := Lib.hid (krowN hb3 HR2.out)
  clear hb3
  have x1 : decide (L < 1) = false := decide_eq_false (by omega)
  have x2 : decide (10 + s0 < L) = false := decide_eq_false (by omega)
  have x3 : (L == L) = true := by simp
  have x4 : ¬ (L < 1) := by omega
  have x5 : ¬ (10 + s0 < L) := by omega
  go_wp2_with fail
  go_quiet (fail)
  go_wp2_with fail
  have HB4 : Hid (Below w.heap.size w (w3.drewN nq)) := bdrewNn HB3.out nq
  have HV4 : Hid ((w3.drewN nq).heap[w.heap.size]? = some (.cells #[u8 v0, u8 v1, u8 v2] 23 (0, 0))) := HV3.out
  have HR4 : Hid ((w3.drewN nq).heap[w0.heap.size]? = some (.cells #[iv r] 3 (0, 0))) := HR3.out
  have k0 : (w3.drewN nq).cell? ⟨rg, 0, none⟩ = some (iv L) := k0
  clear k1 x1 x2 x3 x4 x5
  generalize w3.drewN nq = W4 at *
  have c2 : W4.cell? ⟨w.heap.size, 2, none⟩ = some (u8 v2) := by rw [cell_of_row _ _ _ _ _ _ HV4.out]; rfl
  have hrg : rg < W4.heap.size := lt_of_cell k0
  have hrg1 : rg < W4.heap.size + 1 := by omega
  have hws : w.heap.size < W4.heap.size := lt_of_cell c2
  have hws1 : w.heap.size < W4.heap.size + 1 := by omega
  go_cut [11] (fun p wx => PkCut L off n W4 p wx)
  case first =>
    go_region_law (first | (go_simp; go_at_call 5; refine (elmSpan_exact _ _ _).mono ?_; rintro e _ ⟨rfl, rfl⟩))
    all_goals
      go_wp2_with fail
      go_meet
      first
        | exact pk_done1 _ _ _ _
        | exact pk_done2 _ _ _ _
  case rest =>
    rename World => wA
    obtain ⟨gp, rfl, hp5, hb5⟩ := hcut
    have HP5 := Lib.hid hp5
    have HB5 := Lib.hid (bstep HB4.out hb5)
    have HR5 := Lib.hid (krowN hb5 HR4.out)
    clear hp5 hb5 k0 c2 hrg hrg1 hws hws1 t3 e3 e8
    have d0 : wA.cell? ⟨gp, 0, none⟩ = some (iv L) := by rw [cell_of_row _ _ _ _ _ _ HP5.out]; rfl
    have d1 : wA.cell? ⟨gp, 1, none⟩ = some (iv off) := by rw [cell_of_row _ _ _ _ _ _ HP5.out]; rfl
    have d2 : wA.cell? ⟨gp, 2, none⟩ = some (iv 20) := by rw [cell_of_row _ _ _ _ _ _ HP5.out]; rfl
    have d3 : wA.cell? ⟨gp, 3, none⟩ = some (iv n) := by rw [cell_of_row _ _ _ _ _ _ HP5.out]; rfl
    have d4 : wA.cell? ⟨gp, 4, none⟩ = some (iv n) := by rw [cell_of_row _ _ _ _ _ _ HP5.out]; rfl
    have d5 : wA.cell? ⟨gp, 5, none⟩ = some (.string pkE) := by rw [cell_of_row _ _ _ _ _ _ HP5.out]; rfl
    have d6 : wA.cell? ⟨gp, 6, none⟩ = some (.string pkE) := by rw [cell_of_row _ _ _ _ _ _ HP5.out]; rfl
    have d7 : wA.cell? ⟨gp, 7, none⟩ = some (.string pkE) := by rw [cell_of_row _ _ _ _ _ _ HP5.out]; rfl
    have c0 : wA.cell? ⟨w0.heap.size, 0, none⟩ = some (iv r) := by rw [cell_of_row _ _ _ _ _ _ HR5.out]; rfl
    have hbc : Below wA.heap.size wA wA := Below.refl _ _
    have HST := Lib.hid (fun (W : World) => elmStolen_any 600 r pkA W)
    have HLS : Hid (∀ (W : World) (gc gl : Nat), W.heap[gc]? = some (.cells #[iv 600, iv 600, iv r, iv r, iv 20, iv 20, .string pkA] 44 (0, 0)) → W.heap[gl]? = some (.cells #[iv L, iv off, iv 20, iv n, iv n, .string pkE, .string pkE, .string pkE] 39 (0, 0)) → Calls Try.prog 7 #[.slice (some ⟨gc, 0, none⟩) 1 1, .slice (some ⟨gl, 0, none⟩) 1 1, iv 0] W (LsRes m W)) := fun W gc gl h1 h2 => by
      refine (Least_good [⟨600, 600, r, r, 20, 20, pkA⟩] [⟨L, off, 20, n, n, pkE, pkE, pkE⟩] (some ⟨gc, 0, none⟩) (some ⟨gl, 0, none⟩) 1 1 0 ⟨600, 600, r, r, 20, 20, pkA⟩ W (tcs1 h1) (tps1 h2) (by intro c hc; simp at hc; subst hc; exact pkA_asc) (by intro c hc; simp at hc; subst hc; exact ⟨pkE_asc, pkE_asc, pkE_asc⟩) HCK.out rfl).mono ?_
      rintro e w' ⟨v, rfl, hv, hb⟩
      have hl : lsts [⟨L, off, 20, n, n, pkE, pkE, pkE⟩] ⟨600, 600, r, r, 20, 20, pkA⟩ 1 = [m] := by simp only [lsts, List.take_succ_cons, List.take_zero, List.map_cons, List.map_nil]; rw [HLE.out]
      rw [show ([⟨L, off, 20, n, n, pkE, pkE, pkE⟩] : List Tp).length = 1 from rfl, hl] at hv
      have hv2 := hv
      obtain ⟨va, vc, rfl, -, -⟩ := hv2
      obtain ⟨b, o, rfl⟩ := slice_addrN hv (by simp)
      exact ⟨b, o, vc, rfl, by have := intcellN hv (show ([m] : List Int)[0]? = some m from rfl); simpa using this, hb⟩
    have HLS2 : Hid (∀ (W : World), Calls Try.prog 7 #[.slice (some ⟨W.heap.size, 0, none⟩) 1 1, .slice (some ⟨W.heap.size + 1, 0, none⟩) 1 1, iv 0] ((W.alloc (.cells #[iv 600, iv 600, iv r, iv r, iv 20, iv 20, .string pkA] 44)).alloc (.cells #[iv L, iv off, iv 20, iv n, iv n, .string pkE, .string pkE, .string pkE] 39)) (LsRes m ((W.alloc (.cells #[iv 600, iv 600, iv r, iv r, iv 20, iv 20, .string pkA] 44)).alloc (.cells #[iv L, iv off, iv 20, iv n, iv n, .string pkE, .string pkE, .string pkE] 39)))) := fun W => HLS.out _ _ _ (heap_new1 _ _ _ _) (heapA (by simp))
    have HLS3 : Hid (∀ (W : World), Calls Try.prog 7 #[.slice (some ⟨W.heap.size + 1, 0, none⟩) 1 1, .slice (some ⟨W.heap.size, 0, none⟩) 1 1, iv 0] ((W.alloc (.cells #[iv L, iv off, iv 20, iv n, iv n, .string pkE, .string pkE, .string pkE] 39)).alloc (.cells #[iv 600, iv 600, iv r, iv r, iv 20, iv 20, .string pkA] 44)) (LsRes m ((W.alloc (.cells #[iv L, iv off, iv 20, iv n, iv n, .string pkE, .string pkE, .string pkE] 39)).alloc (.cells #[iv 600, iv 600, iv r, iv r, iv 20, iv 20, .string pkA] 44)))) := fun W => HLS.out _ _ _ (heapA (by simp)) (heap_new1 _ _ _ _)
    have HLS4 : Hid (∀ (W : World), W.heap[wA.heap.size]? = some (.cells #[iv L, iv off, iv 20, iv n, iv n, .string pkE, .string pkE, .string pkE] 39 (0, 0)) → Calls Try.prog 7 #[.slice (some ⟨W.heap.size, 0, none⟩) 1 1, .slice (some ⟨wA.heap.size, 0, none⟩) 1 1, iv 0] (W.alloc (.cells #[iv 600, iv 600, iv r, iv r, iv 20, iv 20, .string pkA] 44)) (LsRes m (W.alloc (.cells #[iv 600, iv 600, iv r, iv r, iv 20, iv 20, .string pkA] 44)))) := fun W h => HLS.out _ _ _ (heap_new _ _ _) (krowN (bpush (Below.refl _ _) _) h)
    go_wp2_with fail
    go_cut [12, 13] (fun l e wx => LsCut m wA l e wx)
    case first =>
      go_region_held3 (fun w' => w'.cell? ⟨w0.heap.size, 0, none⟩ = some (iv r) ∧ w'.cell? ⟨gp, 0, none⟩ = some (iv L) ∧ w'.cell? ⟨gp, 1, none⟩ = some (iv off) ∧ w'.cell? ⟨gp, 2, none⟩ = some (iv 20) ∧ w'.cell? ⟨gp, 3, none⟩ = some (iv n) ∧ w'.cell? ⟨gp, 4, none⟩ = some (iv n) ∧ w'.cell? ⟨gp, 5, none⟩ = some (.string pkE) ∧ w'.cell? ⟨gp, 6, none⟩ = some (.string pkE) ∧ w'.cell? ⟨gp, 7, none⟩ = some (.string pkE) ∧ Below wA.heap.size wA w')
        (first | (go_split_ands; refine ⟨?_, ?_, ?_, ?_, ?_, ?_, ?_, ?_, ?_, ?_⟩ <;> first | exact kcellN hbK (by assumption) | exact bstep (by assumption) hbK) | (go_split_ands; refine ⟨?_, ?_, ?_, ?_, ?_, ?_, ?_, ?_, ?_, ?_⟩ <;> first | exact kcellN (bpush (Below.refl _ _) _) (by assumption) | exact bpush (by assumption) _) | (refine ⟨?_, ?_, ?_, ?_, ?_, ?_, ?_, ?_, ?_, ?_⟩ <;> first | exact Below.drew (by assumption) | assumption))
        (first | (go_split_ands; (with_reducible refine (HST.out _).mono ?_); rintro e w6 ⟨rfl, hbK⟩; (try have hLr : w6.heap[wA.heap.size]? = some (.cells #[iv L, iv off, iv 20, iv n, iv n, .string pkE, .string pkE, .string pkE] 39 (0, 0)) := krowN hbK (heapA rfl))) | (go_split_ands; (with_reducible refine (HLS2.out _).mono ?_); rintro e w7 ⟨b7, o7, c7, rfl, hm7, hbK⟩) | (go_split_ands; (with_reducible refine (HLS3.out _).mono ?_); rintro e w7 ⟨b7, o7, c7, rfl, hm7, hbK⟩) | (go_split_ands; (with_reducible refine (HLS4.out _ hLr).mono ?_); rintro e w7 ⟨b7, o7, c7, rfl, hm7, hbK⟩))
      all_goals
        rename_i hHeld
        have hbL := hHeld.2.2.2.2.2.2.2.2.2
        clear hHeld
        go_wp2_with fail
        go_meet
        exact ⟨b7, o7, c7, rfl, rfl, hm7, hbL⟩
    case rest =>
      rename World => wB
      obtain ⟨b7, o7, c7, rfl, rfl, hm7, hb7⟩ := hcut
      have HB7 := Lib.hid (bstep HB5.out hb7)
      have HP7r := Lib.hid (krowN hb7 HP5.out)
      have HR7 := Lib.hid (krowN hb7 HR5.out)
      have HM7 := Lib.hid hm7
      clear hb7 d0 d1 d2 d3 d4 d5 d6 d7 c0 hbc HST HLS HLS2 HLS3 HLS4
      have x1 : decide (m < 1) = false := decide_eq_false (by omega)
      have x2 : decide (10 + s0 < m) = false := decide_eq_false (by omega)
      have x4 : ¬ (m < 1) := by omega
      have x5 : ¬ (10 + s0 < m) := by omega
      go_wp2_with fail
      clear x1 x2 x4 x5 hm7
      go_loopw [14] (fun i wr => ∃ k : Nat, k ≤ 2 ∧ i = iv k ∧ Hid (Below wB.heap.size wB wr)) (fun i _ => 2 - (intOf i).toNat)
      case atStart => exact ⟨0, by omega, rfl, Below.refl _ _⟩
      case round =>
        obtain ⟨k, hk, rfl, HBR⟩ := hrel
        rename World => wR
        have hm7 := kcellN HBR.out HM7.out
        have HPR := Lib.hid (krowN HBR.out HP7r.out)
        have HRR := Lib.hid (krowN HBR.out HR7.out)
        have hrc : wR.cell? ⟨w0.heap.size, 0, none⟩ = some (iv r) := by rw [cell_of_row _ _ _ _ _ _ HRR.out]; rfl
        by_cases hlt : k < 2
        · obtain rfl | rfl : k = 0 ∨ k = 1 := by omega
          · have g1 : IntKind.i64.wrap m = m := IntWalk.i64_in _ ⟨by omega, by omega⟩
            have x1 : decide (m < 1) = false := decide_eq_false (by omega)
            have x4 : ¬ (m < 1) := by omega
            have hx1 : 1 ≤ m ∧ m ≤ 600 := by omega
            go_wp2_with fail
            refine (track_any (m) r w0.heap.size _ hrc).mono ?_
            rintro e w2a ⟨g2a, rfl, hs2, hb2⟩
            have HS2a := Lib.hid hs2
            have HB2a := Lib.hid (bstep HBR.out hb2)
            have HPR2 := Lib.hid (krowN hb2 HPR.out)
            clear hs2 hb2 hrc hm7 g1 x1 x4
            go_wp2_with fail
            refine (HAT.out (m) _ _ hx1.1 hx1.2 HS2a.out).mono ?_
            rintro e w3a ⟨rga, rca, rfl, ⟨k0, k1⟩, hb3⟩
            have HB3a := Lib.hid (bstep HB2a.out hb3)
            have HPR3 := Lib.hid (krowN hb3 HPR2.out)
            have a5 := p5
            have a6 := p6
            clear hb3 k1
            generalize aft (m) r n = q at *
            have d0 : w3a.cell? ⟨gp, 0, none⟩ = some (iv L) := by rw [cell_of_row _ _ _ _ _ _ HPR3.out]; rfl
            have d1 : w3a.cell? ⟨gp, 1, none⟩ = some (iv off) := by rw [cell_of_row _ _ _ _ _ _ HPR3.out]; rfl
            have g2 : IntKind.i64.wrap (L - off) = L - off := IntWalk.i64_in _ ⟨by omega, by omega⟩
            have g3 : IntKind.i64.wrap (L + off) = L + off := IntWalk.i64_in _ ⟨by omega, by omega⟩
            have y1 : decide (L - off ≤ q) = true := decide_eq_true a5
            have y2 : decide (L + off < q) = false := decide_eq_false (by omega)
            have y3 : ¬ (L + off < q) := by omega
            clear a5 a6
            go_wp2_with fail
            go_quiet (fail)
            go_wp2_with fail
            go_roundw
            case rel => exact ⟨0 + 1, by omega, by go_num, bdrewNn HB3a.out _⟩
            case measure => simp [intOf]
          · by_cases hm1 : m = 1
            · have g1 : IntKind.i64.wrap (m - 1) = m - 1 := IntWalk.i64_in _ ⟨by omega, by omega⟩
              have x1 : decide (m - 1 < 1) = true := decide_eq_true (by omega)
              have x4 : m - 1 < 1 := by omega
              clear hm1
              go_wp2_with fail
              go_roundw
              case rel => exact ⟨2, by omega, by go_num, HBR⟩
              case measure => simp [intOf]
            · obtain ⟨q5, q6⟩ := HP7.out (by omega)
              have g1 : IntKind.i64.wrap (m - 1) = m - 1 := IntWalk.i64_in _ ⟨by omega, by omega⟩
              have x1 : decide (m - 1 < 1) = false := decide_eq_false (by omega)
              have x4 : ¬ (m - 1 < 1) := by omega
              have hx1 : 1 ≤ m - 1 ∧ m - 1 ≤ 600 := by omega
              go_wp2_with fail
              refine (track_any (m - 1) r w0.heap.size _ hrc).mono ?_
              rintro e w2a ⟨g2a, rfl, hs2, hb2⟩
              have HS2a := Lib.hid hs2
              have HB2a := Lib.hid (bstep HBR.out hb2)
              have HPR2 := Lib.hid (krowN hb2 HPR.out)
              clear hs2 hb2 hrc hm7 g1 x1 x4
              go_wp2_with fail
              refine (HAT.out (m - 1) _ _ hx1.1 hx1.2 HS2a.out).mono ?_
              rintro e w3a ⟨rga, rca, rfl, ⟨k0, k1⟩, hb3⟩
              have HB3a := Lib.hid (bstep HB2a.out hb3)
              have HPR3 := Lib.hid (krowN hb3 HPR2.out)
              have a5 := q5
              have a6 := q6
              clear hb3 k1
              generalize aft (m - 1) r n = q at *
              have d0 : w3a.cell? ⟨gp, 0, none⟩ = some (iv L) := by rw [cell_of_row _ _ _ _ _ _ HPR3.out]; rfl
              have d1 : w3a.cell? ⟨gp, 1, none⟩ = some (iv off) := by rw [cell_of_row _ _ _ _ _ _ HPR3.out]; rfl
              have g2 : IntKind.i64.wrap (L - off) = L - off := IntWalk.i64_in _ ⟨by omega, by omega⟩
              have g3 : IntKind.i64.wrap (L + off) = L + off := IntWalk.i64_in _ ⟨by omega, by omega⟩
              have y1 : decide (L - off ≤ q) = false := decide_eq_false (by omega)
              have y2 : decide (L + off < q) = false := decide_eq_false (by omega)
              have y3 : ¬ (L + off < q) := by omega
              have y4 : ¬ (L - off ≤ q) := by omega
              clear a5 a6
              go_wp2_with fail
              go_quiet (fail)
              go_wp2_with fail
              go_roundw
              case rel => exact ⟨1 + 1, by omega, by go_num, bdrewNn HB3a.out _⟩
              case measure => simp [intOf]
        · obtain rfl : k = 2 := by omega
          clear hm7 hrc
          go_wp2_with fail
          refine (elmFulled_any _).mono ?_
          rintro e w8 ⟨rfl, hb8⟩
          go_wp2_with fail
          refine (elmThief_any _).mono ?_
          rintro e w9 ⟨rfl, hb9⟩
          go_wp2_with fail
          go_ret
          exact ⟨rfl, bstep (bstep (bstep HB7.out HBR.out) hb8) hb9⟩
end Go.Proofs.Ytgoncgbbgodliad
