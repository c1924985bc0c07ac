/- A raw cloth and a stream made of bytes. -/
import Derived.Test.YtfdahmdehmhllaaSj
import Derived.Deep.RegionLaw
import Derived.RegionTactic
import Derived.Deep.DeepCutAuto
import Derived.Deep.CutBlock
namespace Go.Proofs.Ytfdahmdehmhllaa
open Go Go.RowKit Go.Shelf
attribute [local go_sem ↓] Go.wp_at_zero Go.wp_at_succ

abbrev u8 (n : Int) : Value := .int .u8 n
def fyT (b : Nat → Int) (i : Nat) : Tk := ⟨100 + b (4 * i), 100 + b (4 * i) + 2 * (b (4 * i + 1) % 20), b (4 * i + 2) % 70, b (4 * i + 2) % 70 + b (4 * i + 3) % 20⟩
def fyCells (b : Nat → Int) : Array Value := #[u8 (b 0), u8 (b 1), u8 (b 2), u8 (b 3), u8 (b 4), u8 (b 5), u8 (b 6), u8 (b 7), u8 (b 8), u8 (b 9), u8 (b 10), u8 (b 11)]

theorem bstep2 {B : Nat} {w W W1 : World} (h : Below (B + 2) w W) (hs : B + 3 ≤ W.heap.size) (hb : Below W.heap.size W W1) : Below (B + 2) w W1 := h.trans (hb.mono (by omega))
theorem bstep3 {B : Nat} {w W : World} (h : Below (B + 2) w W) (hs : B + 3 ≤ W.heap.size) (o : Obj) : Below (B + 2) w (W.alloc o) := bstep2 h hs (bpush (Below.refl _ _) o)
theorem bblk {W W1 : World} {k : Nat} {o : Obj} (hb : Below W.heap.size W W1) (h : W.heap[k]? = some o) : W1.heap[k]? = some o := (hb.block k (Array.getElem?_eq_some_iff.1 h).1).trans h
theorem heap_setA {W : World} {b : Nat} {x y u : Value} {t : TypeId} (h : W.heap[b]? = some (.cells #[x, y] t (0, 0))) : (W.setCell ⟨b, 0, none⟩ u).heap[b]? = some (.cells #[u, y] t (0, 0)) := by
  have h1 := heap_setCell_same W b 0 #[x, y] t u h
  simpa using h1
theorem grown_setA (W : World) (b : Nat) (u : Value) : W.grownBy (W.setCell ⟨b, 0, none⟩ u) (some b) :=
  ⟨rfl, rfl, rfl, by simp [World.setCell], fun k hk hne => Below.heap_setCell _ _ _ _ (fun e => hne (by rw [e]))⟩

/-- What holds of memory after k rounds. -/
structure FyInv (b : Nat → Int) (w : World) (k : Nat) (tv : Value) (wr : World) : Prop where
  B : Below w.heap.size w wr
  S : w.heap.size + 3 ≤ wr.heap.size
  h0 : wr.heap[w.heap.size]? = some (.cells (fyCells b) 25 (0, 0))
  h1 : wr.heap[w.heap.size + 1]? = some (.cells #[.slice none 0 0, .slice none 0 0] 33 (0, 0))
  h2 : wr.heap[w.heap.size + 1 + 1]? = some (.cells #[tv, .slice none 0 0] 33 (0, 0))
  O : Owns encT 4 56 (w.heap.size + 3) wr tv ((List.range k).map (fyT b))
def FyNext (b : Nat → Int) (w : World) (k : Nat) (wr : World) : Prop := ∃ tv, FyInv b w k tv wr
theorem fy_done {b : Nat → Int} {w wr w3 : World} {k g' n cap : Nat} {tv : Value} {tk : Tk} (h : FyInv b w k tv wr) (hT : (List.range (k + 1)).map (fyT b) = (List.range k).map (fyT b) ++ [tk])
    (hO3 : Owns encT 4 56 (w.heap.size + 3) w3 (.slice (some ⟨g', 0, none⟩) n cap) ((List.range k).map (fyT b) ++ [tk])) (n4 : Below (w.heap.size + 2) wr w3)
    (n7 : w3.heap[w.heap.size + 1 + 1]? = some (.cells #[tv, .slice none 0 0] 33 (0, 0))) : FyNext b w (k + 1) (w3.setCell ⟨w.heap.size + 1 + 1, 0, none⟩ (.slice (some ⟨g', 0, none⟩) n cap)) := by
  have hs := h.S
  have HN4 := n4.setCell (p := ⟨w.heap.size + 1 + 1, 0, none⟩) (Nat.le_refl _) (.slice (some ⟨g', 0, none⟩) n cap)
  refine ⟨_, h.B.trans (HN4.mono (by omega)), Nat.le_trans h.S HN4.size, (HN4.block w.heap.size (by omega)).trans h.h0, (HN4.block (w.heap.size + 1) (by omega)).trans h.h1, heap_setA n7, ?_⟩
  rw [hT]
  refine World.ownsRow.kept hO3 (grown_setA _ _ _) (.inr (fun e => ?_))
  have := (World.ownsRow.lt hO3 g' rfl).1
  simp only [Value.ownBlock, Option.some.injEq] at e; omega

set_option maxRecDepth 20000 in
set_option maxHeartbeats 25600000 in
theorem fyMade_any (b : Nat → Int) (w : World) (hb : ∀ i, 0 ≤ b i ∧ b i ≤ 255) :
    Calls Try.prog 4 #[.agg (fyCells b)] w fun e w' => ∃ tv, e = .returned (.agg #[tv, .slice none 0 0]) ∧ Owns encT 4 56 w.heap.size w' tv [fyT b 0, fyT b 1, fyT b 2] ∧ Below w.heap.size w w' := by
  obtain ⟨i0, hi, hz0, hz1, hz2⟩ := info_parts info71
  have HI := Lib.hid hi; have HZ0 := Lib.hid hz0; have HZ1 := Lib.hid hz1; have HZ2 := Lib.hid hz2
  clear hi hz0 hz1 hz2
  have HBN := Lib.hid hb; clear hb
  obtain ⟨Wn, hWn⟩ : ∃ Wn : World, ((w.alloc (.cells (fyCells b) 25)).alloc (.cells #[.slice none 0 0, .slice none 0 0] 33)).alloc (.cells #[.slice none 0 0, .slice none 0 0] 33) = Wn := ⟨_, rfl⟩
  have hBw : Below w.heap.size w Wn := by rw [← hWn]; exact (by repeat (first | exact Below.refl _ _ | refine Below.drew ?_ | refine bpush ?_ _ | refine bput ?_ (by simp) _ | (refine bstep ?_ (by assumption))))
  have hsz : Wn.heap.size = w.heap.size + 3 := by rw [← hWn]; simp
  have hr0 : Wn.heap[w.heap.size]? = some (.cells (fyCells b) 25 (0, 0)) := by
    rw [← hWn, Below.heap_alloc _ _ _ (by simp; omega), Below.heap_alloc _ _ _ (by simp)]; exact heap_new _ _ _
  have hr1 : Wn.heap[w.heap.size + 1]? = some (.cells #[.slice none 0 0, .slice none 0 0] 33 (0, 0)) := by
    rw [← hWn, Below.heap_alloc _ _ _ (by simp)]; exact heapA (by simp)
  have hr2 : Wn.heap[w.heap.size + 1 + 1]? = some (.cells #[.slice none 0 0, .slice none 0 0] 33 (0, 0)) := by
    rw [← hWn]; exact heapA (by simp)
  have HBw := Lib.hid hBw; have HSZ := Lib.hid hsz; have HR0 := Lib.hid hr0; have HR1 := Lib.hid hr1; have HR2 := Lib.hid hr2
  clear hBw hsz hr0 hr1 hr2
  simp only [fyCells] at hWn ⊢
  have HWn := Lib.hid hWn; clear hWn
  go_enter Try.func4, Try.ntmps4
  go_wp2_with fail
  rw [HWn.out]
  clear HWn
  go_loopw [4] (fun i wr => ∃ (k : Nat) (tv : Value), k ≤ 3 ∧ i = iv k ∧ Hid (FyInv b w k tv wr)) (fun i _ => 3 - (intOf i).toNat)
  case atStart => exact ⟨0, .slice none 0 0, by omega, rfl, HBw.out, (by rw [HSZ.out]; omega), HR0.out, HR1.out, HR2.out, Owns.nil _ _ _ _ _⟩
  case round =>
    obtain ⟨k, tv, hk, rfl, HV⟩ := hrel
    have HS := Lib.hid HV.out.S; have H0 := Lib.hid HV.out.h0; have H1 := Lib.hid HV.out.h1; have H2 := Lib.hid HV.out.h2; have HO := Lib.hid HV.out.O
    by_cases hlt : k < 3
    · have x0 : wr.cell? ⟨w.heap.size, k * 4, none⟩ = some (u8 (b (4 * k))) := by
        rw [cell_of_row _ _ _ _ _ _ H0.out]; obtain rfl | rfl | rfl : k = 0 ∨ k = 1 ∨ k = 2 := by omega
        all_goals rfl
      have x1 : wr.cell? ⟨w.heap.size, k * 4 + 1, none⟩ = some (u8 (b (4 * k + 1))) := by
        rw [cell_of_row _ _ _ _ _ _ H0.out]; obtain rfl | rfl | rfl : k = 0 ∨ k = 1 ∨ k = 2 := by omega
        all_goals rfl
      have x2 : wr.cell? ⟨w.heap.size, k * 4 + 2, none⟩ = some (u8 (b (4 * k + 2))) := by
        rw [cell_of_row _ _ _ _ _ _ H0.out]; obtain rfl | rfl | rfl : k = 0 ∨ k = 1 ∨ k = 2 := by omega
        all_goals rfl
      have x3 : wr.cell? ⟨w.heap.size, k * 4 + 3, none⟩ = some (u8 (b (4 * k + 3))) := by
        rw [cell_of_row _ _ _ _ _ _ H0.out]; obtain rfl | rfl | rfl : k = 0 ∨ k = 1 ∨ k = 2 := by omega
        all_goals rfl
      obtain ⟨p0, p0'⟩ := HBN.out (4 * k); obtain ⟨p1, p1'⟩ := HBN.out (4 * k + 1); obtain ⟨p2, p2'⟩ := HBN.out (4 * k + 2); obtain ⟨p3, p3'⟩ := HBN.out (4 * k + 3)
      have HTk : Hid ((List.range (k + 1)).map (fyT b) = (List.range k).map (fyT b) ++ [⟨100 + b (4 * k), 100 + b (4 * k) + 2 * (b (4 * k + 1) % 20), b (4 * k + 2) % 70, b (4 * k + 2) % 70 + b (4 * k + 3) % 20⟩]) := by simp [Hid, List.range_succ, fyT]
      have i0 : (0 : Int) ≤ (k : Int) := by omega
      have i1 : (k : Int) < 3 := by omega
      generalize b (4 * k) = q0 at *
      generalize b (4 * k + 1) = q1 at *
      generalize b (4 * k + 2) = q2 at *
      generalize b (4 * k + 3) = q3 at *
      go_upto_block 1 with (fail)
      go_cut [] (fun wx => FyNext b w (k + 1) wx)
      case first =>
        go_wp2_with fail
        go_quiet (fail)
        go_wp2_with fail
        have hz : wr.heap.size < ((wr.alloc (.cells #[.int .u8 q0, .int .u8 q1, .int .u8 q2, .int .u8 q3] 22)).drewN nq).heap.size := by simp
        have hc1 : ((wr.alloc (.cells #[.int .u8 q0, .int .u8 q1, .int .u8 q2, .int .u8 q3] 22)).drewN nq).cell? ⟨wr.heap.size, 1, none⟩ = some (u8 q1) := by go_simp
        have hc3 : ((wr.alloc (.cells #[.int .u8 q0, .int .u8 q1, .int .u8 q2, .int .u8 q3] 22)).drewN nq).cell? ⟨wr.heap.size, 3, none⟩ = some (u8 q3) := by go_simp
        have hB7 : Below wr.heap.size wr ((wr.alloc (.cells #[.int .u8 q0, .int .u8 q1, .int .u8 q2, .int .u8 q3] 22)).drewN nq) := bdrewN (bpush (Below.refl _ _) _) _
        generalize ((wr.alloc (.cells #[.int .u8 q0, .int .u8 q1, .int .u8 q2, .int .u8 q3] 22)).drewN nq) = W7 at *
        have hs2 := HS.out
        have H27 := Lib.hid ((hB7.block (w.heap.size + 1 + 1) (by omega)).trans H2.out)
        have d0 : W7.cell? ⟨w.heap.size + 1 + 1, 0, none⟩ = some tv := by rw [cell_of_row _ _ _ _ _ _ H27.out]; rfl
        have d1 : W7.frozen? ⟨w.heap.size + 1 + 1, 0, none⟩ = false := by unfold World.frozen?; rw [H27.out]; rfl
        have hl1 : w.heap.size + 1 + 1 < W7.heap.size := (Array.getElem?_eq_some_iff.1 H27.out).1
        have HB7 := Lib.hid hB7
        have HO7 := Lib.hid (Owns.kept HO.out hB7)
        clear x0 x1 x2 x3 hB7
        have hO7 : Hid (Owns encT 4 56 (w.heap.size + 3) W7.drew tv ((List.range k).map (fyT b))) := HO7.out
        have z0 : W7.drew.cell? ⟨w.heap.size + 1 + 1, 0, none⟩ = some tv := d0
        have z1 : W7.drew.frozen? ⟨w.heap.size + 1 + 1, 0, none⟩ = false := d1
        have z2 : W7.drew.cell? ⟨wr.heap.size, 1, none⟩ = some (u8 q1) := hc1
        have z3 : W7.drew.cell? ⟨wr.heap.size, 3, none⟩ = some (u8 q3) := hc3
        have z4 : Below (w.heap.size + 2) wr W7.drew := HB7.out.drew.mono (by omega)
        have z6 : w.heap.size + 3 ≤ W7.drew.heap.size := Nat.le_trans hs2 HB7.out.size
        have z8 : w.heap.size + 1 + 1 < W7.heap.size := z6
        have z7 : Hid (W7.drew.heap[w.heap.size + 1 + 1]? = some (.cells #[tv, .slice none 0 0] 33 (0, 0))) := H27.out
        clear d0 d1 hc1 hc3 hz hl1
        have t1 : q1.tmod 20 = q1 % 20 := Int.tmod_eq_emod_of_nonneg p1
        have t3 : q3.tmod 20 = q3 % 20 := Int.tmod_eq_emod_of_nonneg p3
        have r1 : 0 ≤ q1 % 20 ∧ q1 % 20 ≤ 19 := by omega
        have r3 : 0 ≤ q3 % 20 ∧ q3 % 20 ≤ 19 := by omega
        have r2 : 0 ≤ q2 % 70 ∧ q2 % 70 ≤ 69 := by omega
        obtain ⟨r1a, r1b⟩ := r1; obtain ⟨r3a, r3b⟩ := r3; obtain ⟨r2a, r2b⟩ := r2
        generalize q1 % 20 = s1 at *
        generalize q3 % 20 = s3 at *
        generalize q2 % 70 = s2 at *
        have g1 : IntKind.i64.wrap q1 = q1 := IntWalk.i64_in _ ⟨by omega, by omega⟩
        have g3 : IntKind.i64.wrap q3 = q3 := IntWalk.i64_in _ ⟨by omega, by omega⟩
        have g4 : IntKind.i64.wrap (2 * s1) = 2 * s1 := IntWalk.i64_in _ ⟨by omega, by omega⟩
        have g5 : IntKind.i64.wrap (100 + q0 + 2 * s1) = 100 + q0 + 2 * s1 := IntWalk.i64_in _ ⟨by omega, by omega⟩
        have g6 : IntKind.i64.wrap (s2 + s3) = s2 + s3 := IntWalk.i64_in _ ⟨by omega, by omega⟩
        have hbb2 : Hid (((List.range k).map (fyT b)).length + 1 ≤ maxLen ∧ (((List.range k).map (fyT b)).length + 1) * 32 ≤ 140737488355328) := by simp [Hid]; unfold maxLen; omega
        have HT := HTk
        have HLk : Hid (((List.range k).map (fyT b)).length = k) := by simp [Hid]
        clear H0 H1 HO7 HO HTk H27 HSZ HR0 HR1 HR2 HBw HBN HB7
        go_region_law (first | (go_simp; go_at_call 8; refine (firSpan_any _ _ _).mono ?_; rintro e w1 ⟨rfl, hb1⟩; have m0 : w1.cell? ⟨w.heap.size + 1 + 1, 0, none⟩ = some tv := kcell hb1 (by assumption); have m1 : w1.frozen? ⟨w.heap.size + 1 + 1, 0, none⟩ = false := kfrozen hb1 (v := tv) (by assumption) (by assumption); have m2 : w1.cell? ⟨wr.heap.size, 1, none⟩ = some (u8 q1) := kcell hb1 (by assumption); have m3 : w1.cell? ⟨wr.heap.size, 3, none⟩ = some (u8 q3) := kcell hb1 (by assumption); have m4 : Below (w.heap.size + 2) wr w1 := bstep2 (by assumption) (by assumption) hb1; have m6 : w.heap.size + 3 ≤ w1.heap.size := Nat.le_trans (by assumption) hb1.size; have m8 : w.heap.size + 1 + 1 < w1.heap.size := m6; have m7 : Hid (w1.heap[w.heap.size + 1 + 1]? = some (.cells #[tv, .slice none 0 0] 33 (0, 0))) := bblk hb1 (Hid.out (by assumption)); have m5 : Hid (Owns encT 4 56 (w.heap.size + 3) w1 tv ((List.range k).map (fyT b))) := Owns.kept (Hid.out (by assumption)) hb1) | (refine S_append1 (⟨100 + q0, 100 + q0 + 2 * s1, s2, s2 + s3⟩ : Tk) (by rfl) _ _ 30 (by rfl) Try.underlying30 HI.out HZ0.out HZ1.out HZ2.out rfl Nat.four_pos' encT_len (encT_one _) (by rfl) (by rfl) (Owns.kept (Hid.out (by assumption)) (bpush (Below.refl _ _) _)) (encT_cell (heap_new _ _ _)) hbb2.out (Nat.le_trans (by assumption) (bpush (Below.refl _ _) _).size) ?_; intro g' cap w3 hown hbe hg; have n0 : w3.cell? ⟨w.heap.size + 1 + 1, 0, none⟩ = some tv := (hbe.cell (p := ⟨w.heap.size + 1 + 1, 0, none⟩) (Nat.lt_succ_self _)).trans (kcell (bpush (Below.refl _ _) _) (by assumption)); have n1 : w3.frozen? ⟨w.heap.size + 1 + 1, 0, none⟩ = false := (hbe.frozen (p := ⟨w.heap.size + 1 + 1, 0, none⟩) (Nat.lt_succ_self _)).trans (kfrozen (bpush (Below.refl _ _) _) (v := tv) (by assumption) (by assumption)); have n4 : Below (w.heap.size + 2) wr w3 := (bstep3 (by assumption) (by assumption) _).trans (hbe.mono (Nat.le_succ _)); have n7 : Hid (w3.heap[w.heap.size + 1 + 1]? = some (.cells #[tv, .slice none 0 0] 33 (0, 0))) := (hbe.block (w.heap.size + 1 + 1) (Nat.lt_succ_self _)).trans (bblk (bpush (Below.refl _ _) _) (Hid.out (by assumption)))))
        all_goals
          go_wp2_with fail
          go_meet
          have hown2 := hown
          rw [HLk.out] at hown2
          exact fy_done HV.out HT.out hown2 n4 n7.out
      case rest =>
        obtain ⟨tv2, hv2⟩ := hcut
        have HV2 := Lib.hid hv2; clear hv2
        clear x0 x1 x2 x3
        go_wp2_with fail
        go_roundw
        case rel => exact ⟨k + 1, tv2, by omega, by go_num, HV2.out⟩
        case measure => simp [intOf]; omega
    · obtain rfl : k = 3 := by omega
      have c0 : wr.cell? ⟨w.heap.size + 1 + 1, 0, none⟩ = some tv := by rw [cell_of_row _ _ _ _ _ _ H2.out]; rfl
      have c1 : wr.cell? ⟨w.heap.size + 1 + 1, 1, none⟩ = some (.slice none 0 0) := by rw [cell_of_row _ _ _ _ _ _ H2.out]; rfl
      have r0 := heap_set2 (u := tv) (v := .slice none 0 0) H1.out
      have HR0' := Lib.hid r0
      have hf0 : wr.frozen? ⟨w.heap.size + 1, 0, none⟩ = false := by unfold World.frozen?; rw [H1.out]; rfl
      have hf1 : wr.frozen? ⟨w.heap.size + 1, 1, none⟩ = false := by unfold World.frozen?; rw [H1.out]; rfl
      have d0 : wr.cell? ⟨w.heap.size + 1, 0, none⟩ = some (.slice none 0 0) := by rw [cell_of_row _ _ _ _ _ _ H1.out]; rfl
      have d1 : wr.cell? ⟨w.heap.size + 1, 1, none⟩ = some (.slice none 0 0) := by rw [cell_of_row _ _ _ _ _ _ H1.out]; rfl
      obtain ⟨ta, tc, rfl⟩ := HO.out.len
      clear r0
      go_wp2_with fail
      have hO := World.ownsRow.kept HO.out (grown_set2 wr (w.heap.size + 1) (.slice ta ((List.range 3).map (fyT b)).length tc) (.slice none 0 0)) (by
        cases hv : (Value.slice ta ((List.range 3).map (fyT b)).length tc).ownBlock with
        | none => exact .inl rfl
        | some q =>
          have := (World.ownsRow.lt HO.out q hv).1
          refine .inr (fun e => ?_)
          simp only [Option.some.injEq] at e; omega)
      exact bodyPost_ret (results_cell_row (fn := Try.f4) Try.results4 _ _ (w.heap.size + 1) 33 #[.slice ta ((List.range 3).map (fyT b)).length tc, .slice none 0 0] (0, 0) _ rfl HR0'.out Try.underlying33 rfl (by kernel_rfl)) rfl ⟨_, rfl, Owns.base2 hO (by omega), bput (bput HV.out.B (by simp) _) (by simp) _⟩
end Go.Proofs.Ytfdahmdehmhllaa
