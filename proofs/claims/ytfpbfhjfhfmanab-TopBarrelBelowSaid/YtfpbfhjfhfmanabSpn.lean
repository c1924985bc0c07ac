/- quantities.spans of package cloth, with the two functions that it is handed. -/
import Derived.Test.YtfpbfhjfhfmanabBox
namespace Go.Proofs.Ytfpbfhjfhfmanab
open Go Go.RowKit Go.Shelf
attribute [local go_sem] Oper.semAt_some

set_option maxRecDepth 20000 in
set_option maxHeartbeats 1600000 in
theorem numAt_any (x r : Int) (bh h : Nat) (w : World) (hh : h ≤ 48) (hc : w.cell? ⟨bh, 0, none⟩ = some (iv h)) :
    Calls Try.prog 14 #[tval x r, .pointer (some ⟨bh, 0, none⟩)] w fun e w' => e = .returned (iv (aft x r h)) ∧ Below w.heap.size w w' := by
  have hr : (tvals x r)[1 + h]? = some (iv (aft x r h)) := tvals_hour x r h hh
  have i0 : (h : Int) < 49 := by omega
  have hlt := lt_of_cell hc
  go_enter Try.func14, Try.ntmps14
  go_wp2_with fail
  go_ret
  exact ⟨rfl, (by repeat (first | exact Below.refl _ _ | refine Below.drew ?_ | refine bpush ?_ _ | refine bput ?_ (by simp) _ | (refine bstep ?_ (by assumption))))⟩
def strOf (l : List Int) : Str := l.foldl Str.add ⟨0, 0, 0⟩
theorem strOf_snoc (l : List Int) (x : Int) : strOf (l ++ [x]) = (strOf l).add x := by simp [strOf]
theorem foldl_n (l : List Int) : ∀ s : Str, (l.foldl Str.add s).n = s.n + l.length := by
  induction l with
  | nil => intro s; rfl
  | cons x l ih =>
    intro s
    rw [List.foldl_cons, ih, List.length_cons, Str.add]
    split <;> simp_all <;> omega
theorem strOf_n (l : List Int) : (strOf l).n = l.length := by rw [strOf, foldl_n]; simp
/-- From the least to the greatest of some numbers. -/
def hull (l : List Int) : Sp := ((strOf l).l, (strOf l).h)
/-- For the first k quantities from the least to the greatest number of their truths. -/
def spansTo (f : Int × Int → Int) (ta tb tc : Tk) (M : List Ms) : Nat → List Sp
  | 0 => []
  | k + 1 => spansTo f ta tb tc M k ++ [hull ((trs (tk3 ta tb tc k) (k : Int) M).map f)]
theorem spansTo_len (f : Int × Int → Int) (ta tb tc : Tk) (M : List Ms) (k : Nat) : (spansTo f ta tb tc M k).length = k := by
  induction k with
  | zero => rfl
  | succ k ih => simp [spansTo, ih]
theorem info72 : (Try.prog.info? 40).map (fun i => (i.zero, i.size, i.bytes)) = some (some (.agg #[.int .i64 0, .int .i64 0]), 2, 16) := by kernel_rfl
theorem encS_len (p : Sp) : (encS p).length = 2 := rfl
theorem encS_one (p : Sp) : ∀ u ∈ encS p, u.oneCell' = true := by intro u hu; simp [encS] at hu; rcases hu with rfl | rfl <;> rfl
theorem encS_cell {w : World} {g : Nat} {p : Sp} (h : w.cell? ⟨g, 0, none⟩ = some (iv p.1)) (h' : w.cell? ⟨g, 1, none⟩ = some (iv p.2)) : ∀ j u, (encS p)[j]? = some u → w.cell? ⟨g, j, none⟩ = some u := by
  intro j u hu
  rcases j with _ | _ | j
  · simp [encS] at hu; subst hu; exact h
  · simp [encS] at hu; subst hu; exact h'
  · simp [encS] at hu
theorem crs_len (t : Tk) (ht : vTrack t = true) : (crs t).length ≤ 2000 := by
  simp only [vTrack, vRate, Bool.and_eq_true, vSpan_iff] at ht
  have h1 : (crs t).length = (t.fh + 1 - t.fl).toNat * (t.rh + 1 - t.rl).toNat := by
    simp only [crs, crsTo, rowOf, ups, List.length_flatMap, List.length_map, List.length_range, List.map_const', List.sum_replicate_nat]
  rw [h1]
  have h2 : (t.fh + 1 - t.fl).toNat ≤ 61 := by omega
  have h3 : (t.rh + 1 - t.rl).toNat ≤ 31 := by omega
  calc _ ≤ 61 * 31 := Nat.mul_le_mul h2 h3
    _ ≤ 2000 := by omega
theorem trs_len (t : Tk) (what : Int) (M : List Ms) (ht : vTrack t = true) : (trs t what M).length ≤ 2000 := Nat.le_trans (List.length_filter_le _ _) (crs_len t ht)
theorem PutB.turn {b : Nat} {o : Obj} {w w' : World} (h : PutB b o w w') : Turn (fun k => k = b) w w' := ⟨h.os, h.tape, h.output, by rw [h.size]; exact Nat.le_refl _, fun k _ hk => h.other k hk⟩
theorem marks_cons (D : Nat) (Ds : List Nat) : (({ target := .collected D, args := #[] } : Deferred) :: Ds.map fun D => { target := .collected D, args := #[] }) = (D :: Ds).map fun D => { target := .collected D, args := #[] } := rfl

set_option maxRecDepth 20000 in
set_option maxHeartbeats 6400000 in
theorem spansAt_any (ta tb tc : Tk) (ma : Option Addr) (mn mc : Nat) (M : List Ms) (bh h : Nat) (w : World) (hh : h ≤ 48) (hbh : w.cell? ⟨bh, 0, none⟩ = some (iv h)) (ht : [ta, tb, tc].all vTrack = true) (hm : M.all vMeas = true) (hl : M.length ≤ 1000000) (hs : SliceOf encM 4 w (.slice ma mn mc) M) :
    Calls Try.prog 13 #[.agg (qs ta tb tc (.slice ma mn mc)), .func (.func 14) #[] #[.pointer (some ⟨bh, 0, none⟩)]] w fun e w' => ∃ v, e = .returned v ∧ Owns encS 2 40 (w.heap.size + 2) w' v (spansTo (fun p => aft p.1 p.2 h) ta tb tc M 3) ∧ Below w.heap.size w w' := by
  obtain ⟨i0, hi, hz0, hz1, hz2⟩ := info_parts info72
  have HI := Lib.hid hi; have HI0 := Lib.hid hz0; have HI1 := Lib.hid hz1; have HI2 := Lib.hid hz2
  clear hi hz0 hz1 hz2
  have HS := Lib.hid hs; clear hs
  have HT := Lib.hid ht; clear ht
  have HM := Lib.hid hm; clear hm
  have HBH := Lib.hid hbh
  have hbl := lt_of_cell hbh
  clear hbh
  refine (callsIn_wide (n := 3)).1 ?_
  refine callsIn_of_wp_marks Try.func13 rfl trivial ?_ rfl
  simp only [Try.ntmps13, List.size_toArray, List.length_cons, List.length_nil, Nat.reduceAdd, Nat.reduceSub, Array.replicate_succ, Array.replicate_zero, List.push_toArray, List.append_toArray, List.nil_append, List.cons_append]
  gi_wp2_with (with_reducible change wpListIn _ _ _ _ _ (Oper.mk _ (Op.load 55 _) _ _ _ _ :: _) _ _; refine LI_val rfl (fun c h => by cases h) (fun c h => by cases h) (run_load_row 55 _ rfl _ rfl 55 (qs ta tb tc (.slice ma mn mc)) _ ((Below.heap_alloc _ _ _ (World.size_alloc _ _ ▸ Nat.lt_succ_self _)).trans (heap_new _ _ _)) Try.underlying55 rfl (sinfoS ta tb tc (.slice ma mn mc) 3)) ?_)
  have hB0 : Below w.heap.size w ((w.alloc (.cells (qs ta tb tc (.slice ma mn mc)) 55)).alloc (.cells #[.func (.func 14) #[] #[.pointer (some ⟨bh, 0, none⟩)]] 63)) := (by repeat (first | exact Below.refl _ _ | refine Below.drew ?_ | refine bpush ?_ _ | refine bput ?_ (by simp) _ | (refine bstep ?_ (by assumption))))
  have hz0 : ((w.alloc (.cells (qs ta tb tc (.slice ma mn mc)) 55)).alloc (.cells #[.func (.func 14) #[] #[.pointer (some ⟨bh, 0, none⟩)]] 63)).heap.size = w.heap.size + 2 := by simp
  have hc0 : ((w.alloc (.cells (qs ta tb tc (.slice ma mn mc)) 55)).alloc (.cells #[.func (.func 14) #[] #[.pointer (some ⟨bh, 0, none⟩)]] 63)).cell? ⟨w.heap.size + 1, 0, none⟩ = some (.func (.func 14) #[] #[.pointer (some ⟨bh, 0, none⟩)]) := by go_simp
  generalize ((w.alloc (.cells (qs ta tb tc (.slice ma mn mc)) 55)).alloc (.cells #[.func (.func 14) #[] #[.pointer (some ⟨bh, 0, none⟩)]] 63)) = W0 at *
  have HB0 := Lib.hid hB0; clear hB0
  have HZ0 := Lib.hid hz0; clear hz0
  have HC0 := Lib.hid hc0; clear hc0
  refine wpIn_loop (fun a wr => ∃ (k : Nat) (ki : Int) (v : Value) (Ds : List Nat) (u6 u7 u8 u9 u12 u13 u14 u15 u16 u17 u18 u19 u20 u21 u22 u23 u24 u25 u26 u27 : Value), k ≤ 3 ∧ ki = (k : Int) ∧
    a = { tmps := #[.agg (qs ta tb tc (.slice ma mn mc)), .func (.func 14) #[] #[.pointer (some ⟨bh, 0, none⟩)], .pointer (some ⟨w.heap.size, 0, none⟩), .pointer (some ⟨w.heap.size + 1, 0, none⟩), .slice none 0 0, v, u6, u7, u8, u9, .agg (qs ta tb tc (.slice ma mn mc)), .int .i64 ki, u12, u13, u14, u15, u16, u17, u18, u19, u20, u21, u22, u23, u24, u25, u26, u27], defers := Ds.map fun D => { target := .collected D, args := #[] } } ∧
    Owns encS 2 40 (w.heap.size + 2) wr v (spansTo (fun p => aft p.1 p.2 h) ta tb tc M k) ∧ Below (w.heap.size + 2) W0 wr ∧ Ds.Nodup ∧ (∀ D, D ∈ Ds → w.heap.size + 2 ≤ D ∧ wr.heap[D]? = some (.deferred (some []))))
    (fun a _ => 3 - (intOf (a.tmps.getD 11 undef)).toNat) ?start ?round
  case start => exact ⟨0, 0, .slice none 0 0, [], _, _, _, _, _, _, _, _, _, _, _, _, _, _, _, _, _, _, _, _, by omega, rfl, rfl, Owns.nil _ _ _ _ _, Below.refl _ _, List.nodup_nil, fun _ h => by cases h⟩
  case round =>
    rintro a wr ⟨k, ki, v, Ds, u6, u7, u8, u9, u12, u13, u14, u15, u16, u17, u18, u19, u20, u21, u22, u23, u24, u25, u26, u27, hk, rfl, rfl, hown, hbw, hnd, hds⟩
    have HO := Lib.hid hown; clear hown
    have HBW := Lib.hid hbw; clear hbw
    have HND := Lib.hid hnd; clear hnd
    have HDS := Lib.hid hds; clear hds
    have hszr : w.heap.size + 2 ≤ wr.heap.size := by have := HBW.out.size; have := HZ0.out; omega
    by_cases hlt : k < 3
    · have hidx := index_qs ta tb tc ma mn mc k hlt
      have hvt : vTrack (tk3 ta tb tc k) = true := tk3_ok HT.out k
      have HSP : Hid (spansTo (fun p => aft p.1 p.2 h) ta tb tc M (k + 1) = spansTo (fun p => aft p.1 p.2 h) ta tb tc M k ++ [hull ((trs (tk3 ta tb tc k) (k : Int) M).map fun p => aft p.1 p.2 h)]) := rfl
      generalize htk : tk3 ta tb tc k = tt at *
      clear htk
      have HOK := Lib.hid (show QOk tt (k : Int) (.slice ma mn mc) M w from ⟨hvt, HM.out, hl, HS.out⟩)
      have HTL := Lib.hid (trs_len tt (k : Int) M hvt)
      clear hvt
      gi_wp2_with fail
      refine (callsIn_wide.2 (truths_any _ _)).mono ?_
      rintro e w' ⟨rfl, rfl⟩
      have hb1 : Below w.heap.size w ((wr.alloc (.cells #[.int .i64 tt.fl, .int .i64 tt.fh, .int .i64 tt.rl, .int .i64 tt.rh, .int .i64 (k : Int), .slice ma mn mc] 53)).alloc (.cells #[.int .i64 0, .int .i64 0, .int .i64 0] 66)) := bpush (bpush (HB0.out.trans (HBW.out.mono (by omega))) _) _
      have hbw1 : Below (w.heap.size + 2) W0 ((wr.alloc (.cells #[.int .i64 tt.fl, .int .i64 tt.fh, .int .i64 tt.rl, .int .i64 tt.rh, .int .i64 (k : Int), .slice ma mn mc] 53)).alloc (.cells #[.int .i64 0, .int .i64 0, .int .i64 0] 66)) := (HBW.out.alloc hszr _).alloc (by simp; omega) _
      have hsz1 : ((wr.alloc (.cells #[.int .i64 tt.fl, .int .i64 tt.fh, .int .i64 tt.rl, .int .i64 tt.rh, .int .i64 (k : Int), .slice ma mn mc] 53)).alloc (.cells #[.int .i64 0, .int .i64 0, .int .i64 0] 66)).heap.size = wr.heap.size + 2 := by simp
      have hst1 : ((wr.alloc (.cells #[.int .i64 tt.fl, .int .i64 tt.fh, .int .i64 tt.rl, .int .i64 tt.rh, .int .i64 (k : Int), .slice ma mn mc] 53)).alloc (.cells #[.int .i64 0, .int .i64 0, .int .i64 0] 66)).heap[wr.heap.size + 1]? = some (.cells (Str.cells ⟨0, 0, 0⟩) 66 (0, 0)) := by
        have := heap_new (wr.alloc (.cells #[.int .i64 tt.fl, .int .i64 tt.fh, .int .i64 tt.rl, .int .i64 tt.rh, .int .i64 (k : Int), .slice ma mn mc] 53)) (Str.cells ⟨0, 0, 0⟩) 66
        rw [World.size_alloc] at this; exact this
      have hwr1 : Below wr.heap.size wr ((wr.alloc (.cells #[.int .i64 tt.fl, .int .i64 tt.fh, .int .i64 tt.rl, .int .i64 tt.rh, .int .i64 (k : Int), .slice ma mn mc] 53)).alloc (.cells #[.int .i64 0, .int .i64 0, .int .i64 0] 66)) := (by repeat (first | exact Below.refl _ _ | refine Below.drew ?_ | refine bpush ?_ _ | refine bput ?_ (by simp) _ | (refine bstep ?_ (by assumption))))
      generalize ((wr.alloc (.cells #[.int .i64 tt.fl, .int .i64 tt.fh, .int .i64 tt.rl, .int .i64 tt.rh, .int .i64 (k : Int), .slice ma mn mc] 53)).alloc (.cells #[.int .i64 0, .int .i64 0, .int .i64 0] 66)) = W1 at *
      have HB1 := Lib.hid hb1; clear hb1
      have HBW1 := Lib.hid hbw1; clear hbw1
      have HZ1 := Lib.hid hsz1; clear hsz1
      have HST1 := Lib.hid hst1; clear hst1
      have HWR1 := Lib.hid hwr1; clear hwr1
      gi_wp2_with fail
      have hzz := HZ1.out
      have hzq := HZ0.out
      have hseq := truths_at HOK.out HB1.out
      refine rangeB (gf := 37) (lb := #[.pointer (some ⟨W1.heap.size, 0, none⟩)]) rfl (enters_of Try.func37 (by kernel_rfl) rfl)
        hseq (fun _ => rfl) (fun k hk => ?_) (fun k => k = wr.heap.size + 1) (fun k hk => ?_) (fun k hk hx => ?_)
        (fun pre W => W.heap[wr.heap.size + 1]? = some (.cells (strOf (pre.map fun p => aft p.1 p.2 h)).cells 66 (0, 0)) ∧ pre.length ≤ 2000) (fun _ _ => False)
        (fun s W W' hi hx => ⟨(hx _ rfl).trans hi.1, hi.2⟩) (fun _ _ _ h => h.elim) ⟨?_, by simp⟩ ?round2 ?done2 ?stop2
      · simp; omega
      · simp; omega
      · omega
      · exact (Below.heap_alloc _ _ _ (by omega)).trans HST1.out
      case stop2 =>
        rintro c W _ hf _
        exact hf.elim
      case round2 =>
        rintro l pre ⟨x, r⟩ W hpre htn ⟨hi1, hi2⟩ K hK
        have HK := Lib.hid hK; clear hK
        go_simp
        gi_step
        gi_step
        refine LI_val rfl (fun c h => by cases h) (fun c h => by cases h) (run_alloc_row 62 zeroT zinfo120 rfl) ?_
        refine LI_skip rfl (fun c h => by cases h) (fun c h => by cases h) (run_store_row 62 _ _ rfl W.heap.size ?_ (tvals x r) ?_ 62 zeroT ?_ ?_ ?_ ?_) ?_
        · rfl
        · rfl
        · exact heap_new _ _ _
        · exact sinfoV _ _
        · rw [tvals_size, zeroT_size]
        · exact tpart_one _ _ _
        gi_wp2_with fail
        go_simp
        refine HK.out _ _ (bpush (Below.refl _ _) _) ?_
        clear HK
        rintro W2 ht2 ⟨hj1, hj2⟩ hs2 hcell
        have hT9 := Lib.hid (hcell W.heap.size _ (heap_new W (tvals x r) 62) rfl)
        have HT2 := Lib.hid ht2; clear ht2
        have HJ1 := Lib.hid hj1; clear hj1
        clear hcell htn hi1 hi2
        have hlow : ∀ k, k < w.heap.size + 2 → W2.heap[k]? = W0.heap[k]? := fun k hk => (HT2.out.same k (by simp; omega) (by omega)).trans ((Below.heap_alloc _ _ _ (by omega)).trans (HBW1.out.block k hk))
        have hcl : W2.cell? ⟨w.heap.size + 1, 0, none⟩ = some (.func (.func 14) #[] #[.pointer (some ⟨bh, 0, none⟩)]) := (World.cell?_of_block (hlow _ (by simp))).trans HC0.out
        have hbh2 : W2.cell? ⟨bh, 0, none⟩ = some (iv h) := (World.cell?_of_block ((hlow bh (by omega)).trans (HB0.out.block bh hbl))).trans HBH.out
        have hlen : (pre ++ [(x, r)]).length ≤ 2000 := Nat.le_trans hpre.length_le HTL.out
        have hs3 : wr.heap.size + 1 < W2.heap.size := (Array.getElem?_eq_some_iff.1 HJ1.out).1
        clear hlow hs2 hseq hidx hpre
        gi_wp2_with (with_reducible change wpListIn _ _ _ _ _ (Oper.mk _ (Op.load 62 _) _ _ _ _ :: _) _ _; refine LI_val rfl (fun c h => by cases h) (fun c h => by cases h) (run_load_row 62 _ rfl _ rfl 62 (tvals x r) _ hT9.out Try.underlying62 rfl (sinfoV x r)) ?_)
        refine (CallsIn.inRound l (callsIn_wide.2 (numAt_any x r bh h W2 hh hbh2))).mono ?_
        rintro e w1 ⟨rfl, hb1⟩
        have hj3 := (hb1.block (wr.heap.size + 1) hs3).trans HJ1.out
        have HTA := Lib.hid (Turn.of_below (T := fun k => k = wr.heap.size + 1) hb1)
        clear hb1 hcl hbh2
        gi_wp2_with fail
        refine (CallsIn.inRound l (callsIn_wide.2 (add_any _ (aft x r h) (wr.heap.size + 1) w1 hj3 (by rw [strOf_n, List.length_map]; omega)))).mono ?_
        rintro e w2 ⟨rfl, hp⟩
        have HP := Lib.hid hp; clear hp hj3
        gi_wp2_with fail
        refine ⟨HTA.out.trans HP.out.turn, ?_, hlen⟩
        rw [List.map_append, List.map_cons, List.map_nil, strOf_snoc]
        exact HP.out.this
      case done2 =>
        rintro W htn ⟨hi1, hi2⟩ hK
        have HTN := Lib.hid htn; clear htn
        have hs3 : wr.heap.size + 1 < W.heap.size := (Array.getElem?_eq_some_iff.1 hi1).1
        have e0 : W.cell? ⟨wr.heap.size + 1, 0, none⟩ = some (iv (hull ((trs tt (k : Int) M).map fun p => aft p.1 p.2 h)).1) := by rw [cell_of_row _ _ _ _ _ _ hi1]; rfl
        have e1 : W.cell? ⟨wr.heap.size + 1, 1, none⟩ = some (iv (hull ((trs tt (k : Int) M).map fun p => aft p.1 p.2 h)).2) := by rw [cell_of_row _ _ _ _ _ _ hi1]; rfl
        have HKD := Lib.hid hK; clear hK hi1 hi2 hseq hidx
        generalize hull ((trs tt (k : Int) M).map fun p => aft p.1 p.2 h) = hl2 at *
        have hszW : wr.heap.size + 3 ≤ W.heap.size := by have := HTN.out.size; simp at this; omega
        have hg : wr.grownBy W (some (wr.heap.size + 1)) := ⟨HTN.out.os.trans HWR1.out.os, HTN.out.tape.trans HWR1.out.tape, HTN.out.output.trans HWR1.out.output, by omega, fun k hk _ => (HTN.out.same k (by simp; omega) (by omega)).trans ((Below.heap_alloc _ _ _ (by omega)).trans (HWR1.out.block k hk))⟩
        have HOW : Hid (Owns encS 2 40 (w.heap.size + 2) W v (spansTo (fun p => aft p.1 p.2 h) ta tb tc M k)) := by
          refine World.ownsRow.kept HO.out hg ?_
          cases hv : v.ownBlock with
          | none => exact .inl rfl
          | some g =>
            have := (World.ownsRow.lt HO.out g hv).2
            refine .inr (fun e => ?_)
            simp only [Option.some.injEq] at e; omega
        have HGW := Lib.hid (show ∀ D, D ∈ Ds → w.heap.size + 2 ≤ D ∧ W.heap[D]? = some (.deferred (some [])) ∧ D < wr.heap.size from fun D hD => by
          have h1 := HDS.out D hD
          have h2 : D < wr.heap.size := (Array.getElem?_eq_some_iff.1 h1.2).1
          exact ⟨h1.1, (hg.block D h2 (by simp; omega)).trans h1.2, h2⟩)
        have HBL : Hid (Below (w.heap.size + 2) W0 W) := HBW.out.trans ⟨hg.os, hg.tape, hg.output, hg.size, fun k hk => hg.block k (by omega) (by simp; omega)⟩
        have hb2 : (spansTo (fun p => aft p.1 p.2 h) ta tb tc M k).length + 1 ≤ maxLen ∧ ((spansTo (fun p => aft p.1 p.2 h) ta tb tc M k).length + 1) * 16 ≤ 140737488355328 := by rw [spansTo_len]; unfold maxLen; omega
        have hb3 : w.heap.size + 2 ≤ (W.alloc (.cells #[iv hl2.1, iv hl2.2] 40)).heap.size := by simp; omega
        clear hg
        gi_wp2_with (gi_at_builtin; refine LI_append1 hl2 rfl _ _ 31 rfl Try.underlying31 HI.out HI0.out HI1.out HI2.out rfl Nat.two_pos encS_len (encS_one _) rfl rfl (Owns.kept HOW.out (bpush (Below.refl _ _) _)) (encS_cell ?_ ?_) hb2 hb3 ?_; go_simp; go_simp; intro v' w3 hown3 hbe3 hg3)
        have hbw3 : Below (w.heap.size + 2) W0 w3 := (HBL.out.alloc (by omega) _).trans hbe3
        have hdd : ∀ D, D < W.heap.size → D ≠ wr.heap.size + 1 → w.heap.size + 2 ≤ D → W.heap[D]? = some (.deferred (some [])) → w3.heap[D]? = some (.deferred (some [])) := by
          intro D h1 h2 h3 h4
          refine (hg3.block D (by simp; omega) (fun e => ?_)).trans ((Below.heap_alloc _ _ _ h1).trans h4)
          have hv : v.ownBlock = some D := e.symm
          have := HOW.out
          rcases this.2 with ⟨hn, _⟩ | ⟨g, cap, cur, hv2, _, hh2, _⟩
          · rw [hn] at hv; cases hv
          · rw [hv2] at hv
            simp only [Value.ownBlock, Option.some.injEq] at hv
            subst hv
            rw [hh2] at h4; cases h4
        have hkd2 : W.heap[wr.heap.size + 2 + 1]? = some (.deferred (some [])) := by
          have := HKD.out
          rw [World.size_alloc, hzz] at this; exact this
        refine ⟨⟨k + 1, (k : Int) + 1, v', (wr.heap.size + 2 + 1) :: Ds, _, _, _, _, _, _, _, _, _, _, _, _, _, _, _, _, _, _, _, _, by omega, by omega, rfl, by rw [HSP.out]; exact hown3, hbw3, ?_, ?_⟩, by simp [intOf]; omega⟩
        · refine List.nodup_cons.2 ⟨fun hD => ?_, HND.out⟩
          have := (HGW.out _ hD).2.2
          omega
        · intro D hD
          rcases List.mem_cons.1 hD with rfl | hD
          · exact ⟨by omega, hdd _ (Array.getElem?_eq_some_iff.1 hkd2).1 (by omega) (by omega) hkd2⟩
          · have := HGW.out D hD
            exact ⟨this.1, hdd D (by omega) (by omega) this.1 this.2.1⟩
    · obtain rfl : k = 3 := by omega
      gi_wp2_with fail
      refine leaves_marks Ds wr HND.out (fun D hD => (HDS.out D hD).2) (fun W' ht hs => ?_)
      refine ⟨_, results_tmp rfl _ _ _, v, rfl, ?_, ?_⟩
      · rcases HO.out.2 with ⟨hn, h0⟩ | ⟨g, cap, cur, hv2, hgb, hh2, hrest⟩
        · exact ⟨HO.out.1, .inl ⟨hn, h0⟩⟩
        · have hgl : g < wr.heap.size := (Array.getElem?_eq_some_iff.1 hh2).1
          refine ⟨HO.out.1, .inr ⟨g, cap, cur, hv2, hgb, (ht.same g hgl (fun hm => ?_)).trans hh2, hrest⟩⟩
          have := (HDS.out g hm).2
          rw [hh2] at this; cases this
      · have h1 : Below w.heap.size w wr := HB0.out.trans (HBW.out.mono (by omega))
        exact h1.trans (ht.below (fun D hD => by have := (HDS.out D hD).1; omega) (by omega))
end Go.Proofs.Ytfpbfhjfhfmanab
