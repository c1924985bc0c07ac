/- Package theft: the fewest sights against a person; the thieves. -/
import Derived.Test.YtdalilllakdamaaNc
namespace Go.Proofs.Ytdalilllakdamaa
open Go Go.RowKit Go.Shelf
attribute [local go_sem] Oper.semAt_some
attribute [local go_sem ↓] Go.wp_at_zero Go.wp_at_succ

/-- The sights against a person at k minutes. -/
def wtLists (S : List Sg) (p gl : Int) (k : Nat) : List (List Int) := (List.range k).map fun i : Nat => wtL S p (gl + i)
theorem wtLists_succ (S : List Sg) (p gl : Int) (k : Nat) : wtLists S p gl (k + 1) = wtLists S p gl k ++ [wtL S p (gl + k)] := by simp [wtLists, List.range_succ]
theorem wtLists_len (S : List Sg) (p gl : Int) (k : Nat) : (wtLists S p gl k).length = k := by simp [wtLists]
theorem wtL_len (S : List Sg) (p m : Int) : (wtL S p m).length ≤ S.length := by
  unfold wtL; rw [List.length_map]; exact wtTo_len _ _ _ _
/-- The fewest sights that must be false if a person was on the field. -/
def fewW (S : List Sg) (p gl gh : Int) : List Int := (wtLists S p gl (gh - gl + 1).toNat).getD (minIx (wtLists S p gl (gh - gl + 1).toNat) ((gh - gl + 1).toNat - 1)) []
/-- There is none just if there is none at some minute. -/
theorem fewW_nil {S : List Sg} {p gl gh : Int} (h : gl ≤ gh) : fewW S p gl gh = [] ↔ ∃ k : Nat, gl + (k : Int) ≤ gh ∧ wtL S p (gl + k) = [] := by
  unfold fewW
  generalize hn : (gh - gl + 1).toNat = N
  have hN : (N : Int) = gh - gl + 1 := by omega
  constructor
  · intro h0
    refine ⟨minIx (wtLists S p gl N) (N - 1), ?_, ?_⟩
    · have := minIx_le (wtLists S p gl N) (N - 1); omega
    · have hlt : minIx (wtLists S p gl N) (N - 1) < N := by have := minIx_le (wtLists S p gl N) (N - 1); omega
      generalize minIx (wtLists S p gl N) (N - 1) = q at *
      rw [List.getD_eq_getElem?_getD] at h0
      simp only [wtLists, List.getElem?_map, List.getElem?_range hlt, Option.map_some, Option.getD_some] at h0
      exact h0
  · rintro ⟨k, hk, h0⟩
    have hs := minIx_short (wtLists S p gl N) (N - 1) k (by omega)
    have hg : (wtLists S p gl N).getD k [] = [] := by
      rw [List.getD_eq_getElem?_getD]
      simp only [wtLists, List.getElem?_map, List.getElem?_range (show k < N by omega), Option.map_some, Option.getD_some]
      exact h0
    rw [hg] at hs
    exact List.eq_nil_of_length_eq_zero (by simpa using hs)
set_option maxRecDepth 20000 in
set_option maxHeartbeats 6400000 in
theorem wtFewest_any (n gl gh p : Int) (S : List Sg) (sa : Option Addr) (sc : Nat) (w : World) (hS : SliceOf encSg 3 w (.slice sa S.length sc) S) (hok : WtOk n gl gh S) :
    Calls Try.prog 28 #[.agg #[iv n, .slice sa S.length sc, iv gl, iv gh], iv p] w fun e w' => ∃ v, e = .returned v ∧ Ints w' v (fewW S p gl gh) ∧ Below w.heap.size w w' := by
  obtain ⟨i0, hi, hz0, hz1, hz2⟩ := info_parts info40
  obtain ⟨g1, g2, g3, g4, g5⟩ := okSpan_iff.1 hok.g
  have hsl := hok.l
  obtain ⟨w0, hw0⟩ : ∃ W : World, w.alloc (.cells #[iv n, .slice sa S.length sc, iv gl, iv gh] 58) = W := ⟨_, rfl⟩
  have HB0 : Hid (Below w.heap.size w w0) := by rw [← hw0]; exact bpush (Below.refl _ _) _
  have HR0 : Hid (w0.heap[w.heap.size]? = some (.cells #[iv n, .slice sa S.length sc, iv gl, iv gh] 58 (0, 0))) := by rw [← hw0]; exact heap_new _ _ _
  have hz : w.heap.size < w0.heap.size := (Array.getElem?_eq_some_iff.1 HR0.out).1
  have HA : Hid (∀ (m : Int) (W : World), Below w0.heap.size w0 W → 0 ≤ m → m ≤ 1440 → Calls Try.prog 35 #[.agg #[iv n, .slice sa S.length sc, iv gl, iv gh], iv p, iv m] W fun e w' => ∃ v, e = .returned v ∧ Owns encI 1 3 W.heap.size w' v (wtL S p m) ∧ Below W.heap.size W w') := fun m W hb h1 h2 => wtAgainst_any n gl gh p m S sa sc W (hS.below (bstep HB0.out hb)) hok.s ⟨h1, h2⟩ (by omega)
  have HFW : Hid (fewW S p gl gh = (wtLists S p gl (gh - gl + 1).toNat).getD (minIx (wtLists S p gl (gh - gl + 1).toNat) ((gh - gl + 1).toNat - 1)) []) := rfl
  have HWL := Lib.hid (fun m => wtL_len S p m)
  clear hS hok
  obtain ⟨N, hN⟩ : ∃ N : Nat, (gh - gl + 1).toNat = N := ⟨_, rfl⟩
  rw [hN] at HFW
  have HNN : Hid ((N : Int) = gh - gl + 1) := by simp only [Hid]; omega
  clear hN
  have c2 : w0.cell? ⟨w.heap.size, 2, none⟩ = some (iv gl) := by rw [cell_of_row _ _ _ _ _ _ HR0.out]; rfl
  go_enter Try.func28, Try.ntmps28
  go_wp2_with fail
  clear hw0 c2
  go_loopw [6, 5] (fun i l wr => ∃ (k : Nat) (mi : Int) (vals : List Value), k ≤ N ∧ mi = gl + k ∧ i = iv mi ∧ Hid (LL w0 l vals (wtLists S p gl k) wr)) (fun i _ _ => (gh + 1 - intOf i).toNat)
  case atStart => exact ⟨0, gl, [], by omega, by omega, rfl, LL.nil (Below.refl _ _)⟩
  case round =>
    obtain ⟨k, mi, vals, hk, hmi, rfl, HL⟩ := hrel
    have hm0 : 0 ≤ mi := by omega
    have HMI := Lib.hid hmi
    clear hmi
    have hr := (HL.out.b.block _ hz).trans HR0.out
    have c0 : wr.cell? ⟨w.heap.size, 0, none⟩ = some (iv n) := by rw [cell_of_row _ _ _ _ _ _ hr]; rfl
    have c1 : wr.cell? ⟨w.heap.size, 1, none⟩ = some (.slice sa S.length sc) := by rw [cell_of_row _ _ _ _ _ _ hr]; rfl
    have c2 : wr.cell? ⟨w.heap.size, 2, none⟩ = some (iv gl) := by rw [cell_of_row _ _ _ _ _ _ hr]; rfl
    have c3 : wr.cell? ⟨w.heap.size, 3, none⟩ = some (iv gh) := by rw [cell_of_row _ _ _ _ _ _ hr]; rfl
    clear hr
    have HVL : Hid (vals.length = k) := by simp only [Hid]; rw [HL.out.l, wtLists_len]
    by_cases hlt : mi ≤ gh
    · have HSU := Lib.hid (wtLists_succ S p gl k)
      rw [← HMI.out] at HSU
      have HK1 : Hid (k + 1 ≤ N ∧ mi + 1 = gl + ((k + 1 : Nat) : Int)) := by have := HMI.out; have := HNN.out; simp only [Hid]; omega
      have hkN : k ≤ 1441 := by have := HMI.out; omega
      have hm1 : mi ≤ 1440 := by omega
      have w1 : IntKind.i64.wrap (mi + 1) = mi + 1 := IntWalk.i64_in _ ⟨by omega, by omega⟩
      have hb2 : vals.length + 1 ≤ maxLen ∧ (vals.length + 1) * 24 ≤ 140737488355328 := by have := HVL.out; unfold maxLen; omega
      have HAM := Lib.hid (HA.out mi)
      generalize wtL S p mi = ys at *
      go_wp2_with fail
      refine (HAM.out _ HL.out.b hm0 hm1).mono ?_
      rintro e wA ⟨x, rfl, hx, hbA⟩
      obtain ⟨xa, xc, rfl⟩ := Owns.len hx
      have HX := Lib.hid hx; have HBA := Lib.hid hbA
      have h1c : ∀ u ∈ encVal (.slice xa ys.length xc), u.oneCell' = true := fun u hu => by
        simp only [encVal, List.mem_singleton] at hu; subst hu; simp [Value.oneCell']
      have hO := Lib.hid ((HL.out.below hbA).o)
      have hb3 : ∀ o, w0.heap.size ≤ (wA.alloc o).heap.size := fun o => by have := HL.out.b.size; have := HBA.out.size; simp; omega
      clear hx hbA c0 c1 c2 c3
      go_wp2_with (at_builtin; refine L_append3 (.slice xa ys.length xc) rfl _ _ 81 rfl Try.underlying81 hi hz0 hz1 hz2 rfl Nat.one_pos encVal_len h1c rfl rfl (Owns.kept hO.out (bpush (Below.refl _ _) _)) (encVal_cell ?_) hb2 (hb3 _) ?_; go_simp; intro g' c' w3 hown3 hbe3 hg3 hl3)
      go_roundw
      case rel => exact ⟨k + 1, mi + 1, vals ++ [.slice xa ys.length xc], HK1.out.1, HK1.out.2, by go_num, by rw [HSU.out]; exact LL.more HL.out HBA.out HX.out (bpush (Below.refl _ _) _) hown3 hbe3 hg3 hl3⟩
      case measure => simp [intOf]; omega
    · obtain rfl : k = N := by have := HMI.out; have := HNN.out; omega
      have hk1 : 1 ≤ k ∧ k ≤ 1441 := by have := HNN.out; omega
      have hn1 : 0 < vals.length := by have := HVL.out; omega
      have hn2 : vals.length ≤ 1000000 := by have := HVL.out; omega
      have hLs := HL.out.lst hn2 (fun xs hxs => by
        unfold wtLists at hxs
        obtain ⟨i, -, rfl⟩ := List.mem_map.1 hxs
        have := HWL.out (gl + i); omega)
      obtain ⟨la, lc, rfl⟩ := Owns.len HL.out.o
      have HM := Lib.hid (fun W (hb : Below wr.heap.size wr W) => minFunc_any (wtLists S p gl k) vals la lc W (hLs.below hb) hn1 hn2)
      have HLs := Lib.hid hLs
      have hml := minIx_le (wtLists S p gl k) (vals.length - 1)
      obtain ⟨x, hx⟩ := getElem?_of_lt (show minIx (wtLists S p gl k) (vals.length - 1) < vals.length by omega)
      obtain ⟨xs, hxs⟩ := getElem?_of_lt (show minIx (wtLists S p gl k) (vals.length - 1) < (wtLists S p gl k).length by have := HVL.out; rw [wtLists_len]; omega)
      have HXI := Lib.hid (hLs.e _ x xs hx hxs)
      have HXE : Hid (vals.getD (minIx (wtLists S p gl k) (vals.length - 1)) undef = x) := getD_get hx
      rw [HVL.out] at hxs
      have HXS : Hid (fewW S p gl gh = xs) := HFW.out.trans (getD_get hxs)
      clear hLs hml hx hxs
      go_wp2_with fail
      refine (HM.out _ (Below.refl _ _)).mono ?_
      rintro e wB ⟨he, hbB⟩
      rw [HXE.out] at he; subst he
      go_wp2_with fail
      go_ret
      exact ⟨x, rfl, by rw [HXS.out]; exact HXI.out.below hbB, bstep (bstep HB0.out HL.out.b) hbB⟩

/-- The persons below k who can have been on the field. -/
def thTo (S : List Sg) (gl gh : Int) (k : Nat) : List Nat := (List.range k).filter fun p : Nat => (fewW S p gl gh).isEmpty
theorem thTo_succ (S : List Sg) (gl gh : Int) (k : Nat) : thTo S gl gh (k + 1) = thTo S gl gh k ++ if (fewW S k gl gh).isEmpty then [k] else [] := by
  unfold thTo; rw [List.range_succ, List.filter_append, List.filter_cons, List.filter_nil]
theorem thTo_len (S : List Sg) (gl gh : Int) (k : Nat) : (thTo S gl gh k).length ≤ k := by
  have := List.length_filter_le (fun p : Nat => (fewW S p gl gh).isEmpty) (List.range k)
  rw [List.length_range] at this; exact this
set_option maxRecDepth 20000 in
set_option maxHeartbeats 6400000 in
theorem thieves_any (n : Nat) (gl gh : Int) (S : List Sg) (sa : Option Addr) (sc : Nat) (w : World) (hS : SliceOf encSg 3 w (.slice sa S.length sc) S) (hok : WtOk n gl gh S) :
    Calls Try.prog 15 #[.agg #[iv n, .slice sa S.length sc, iv gl, iv gh]] w fun e w' => ∃ v, e = .returned v ∧ Owns encI 1 3 w.heap.size w' v (natI (thTo S gl gh n)) ∧ Below w.heap.size w w' := by
  obtain ⟨i0, hi, hz0, hz1, hz2⟩ := info_parts info3
  have hn8 := hok.nn
  obtain ⟨w0, hw0⟩ : ∃ W : World, w.alloc (.cells #[iv n, .slice sa S.length sc, iv gl, iv gh] 58) = W := ⟨_, rfl⟩
  have HB0 : Hid (Below w.heap.size w w0) := by rw [← hw0]; exact bpush (Below.refl _ _) _
  have HR0 : Hid (w0.heap[w.heap.size]? = some (.cells #[iv n, .slice sa S.length sc, iv gl, iv gh] 58 (0, 0))) := by rw [← hw0]; exact heap_new _ _ _
  have hz : w.heap.size < w0.heap.size := (Array.getElem?_eq_some_iff.1 HR0.out).1
  have HF : Hid (∀ (p : Nat) (W : World), Below w0.heap.size w0 W → Calls Try.prog 28 #[.agg #[iv n, .slice sa S.length sc, iv gl, iv gh], iv p] W fun e w' => ∃ v, e = .returned v ∧ Ints w' v (fewW S p gl gh) ∧ Below W.heap.size W w') := fun p W hb => wtFewest_any n gl gh p S sa sc W (hS.below (bstep HB0.out hb)) hok
  clear hS hok
  have c0 : w0.cell? ⟨w.heap.size, 0, none⟩ = some (iv n) := by rw [cell_of_row _ _ _ _ _ _ HR0.out]; rfl
  go_enter Try.func15, Try.ntmps15
  go_wp2_with fail
  clear hw0 c0
  go_loopw [7, 3] (fun i l wr => ∃ k : Nat, k ≤ n ∧ i = iv k ∧ Hid (Owns encI 1 3 w0.heap.size wr l (natI (thTo S gl gh k))) ∧ Hid (Below w0.heap.size w0 wr)) (fun i _ _ => n - (intOf i).toNat)
  case atStart => exact ⟨0, by omega, rfl, Owns.nil _ _ _ _ _, Below.refl _ _⟩
  case round =>
    obtain ⟨k, hk, rfl, HO, HB⟩ := hrel
    have hr := (HB.out.block _ hz).trans HR0.out
    have c0 : wr.cell? ⟨w.heap.size, 0, none⟩ = some (iv n) := by rw [cell_of_row _ _ _ _ _ _ hr]; rfl
    have c1 : wr.cell? ⟨w.heap.size, 1, none⟩ = some (.slice sa S.length sc) := by rw [cell_of_row _ _ _ _ _ _ hr]; rfl
    have c2 : wr.cell? ⟨w.heap.size, 2, none⟩ = some (iv gl) := by rw [cell_of_row _ _ _ _ _ _ hr]; rfl
    have c3 : wr.cell? ⟨w.heap.size, 3, none⟩ = some (iv gh) := by rw [cell_of_row _ _ _ _ _ _ hr]; rfl
    clear hr
    by_cases hlt : k < n
    · have HT := Lib.hid (thTo_succ S gl gh k)
      have hfl := thTo_len S gl gh k
      have HFK := Lib.hid (HF.out k)
      have y1 : decide ((k : Int) < (n : Int)) = true := decide_eq_true (by omega)
      have y2 : decide (k < n) = true := decide_eq_true hlt
      generalize fewW S (k : Int) gl gh = fw at *
      go_wp2_with fail
      refine (HFK.out _ HB.out).mono ?_
      rintro e wA ⟨x, rfl, hx, hbA⟩
      obtain ⟨xa, xc, rfl, -, -⟩ := hx
      have HOA := Lib.hid (Owns.kept HO.out hbA)
      have HBA := Lib.hid (bstep HB.out hbA)
      clear hbA c0 c1 c2 c3
      by_cases hf : fw.length = 0
      · have hfe : fw.isEmpty = true := by rw [List.eq_nil_of_length_eq_zero hf]; rfl
        rw [hfe, if_pos rfl] at HT
        have z1 : decide ((fw.length : Int) = 0) = true := decide_eq_true (by omega)
        have z2 : decide (fw.length = 0) = true := decide_eq_true hf
        have z3 : ((fw.length : Int) == 0) = true := by rw [beq_iff_eq]; omega
        have hb2 : (natI (thTo S gl gh k)).length + 1 ≤ maxLen ∧ ((natI (thTo S gl gh k)).length + 1) * 8 ≤ 140737488355328 := by simp only [natI, List.length_map]; unfold maxLen; omega
        have hb3 : ∀ o, w0.heap.size ≤ (wA.alloc o).heap.size := fun o => by have := HBA.out.size; simp; omega
        clear hfe
        go_wp2_with (at_builtin; refine L_append1 (k : Int) rfl _ _ 24 rfl Try.underlying24 hi hz0 hz1 hz2 rfl Nat.one_pos encI_len (encI_one _) rfl rfl (Owns.kept HOA.out (bpush (Below.refl _ _) _)) (encI_cell ?_) hb2 (hb3 _) ?_; go_simp; intro v' w2 hown2 hbe2 hg2)
        go_roundw
        case rel => exact ⟨k + 1, by omega, by go_num, by rw [HT.out]; simpa [natI, Hid] using hown2, (bpush HBA.out _).trans hbe2⟩
        case measure => simp [intOf]; omega
      · have hfe : fw.isEmpty = false := by cases fw with
          | nil => exact absurd rfl hf
          | cons a b => rfl
        rw [hfe, if_neg Bool.false_ne_true, List.append_nil] at HT
        have z1 : decide ((fw.length : Int) = 0) = false := decide_eq_false (by omega)
        have z2 : decide (fw.length = 0) = false := decide_eq_false hf
        have z3 : ((fw.length : Int) == 0) = false := by rw [beq_eq_false_iff_ne]; omega
        clear hfe
        go_wp2_with fail
        go_roundw
        case rel => exact ⟨k + 1, by omega, by go_num, by rw [HT.out]; exact HOA.out, HBA⟩
        case measure => simp [intOf]; omega
    · obtain rfl : k = n := by omega
      have y1 : decide ((k : Int) < (k : Int)) = false := decide_eq_false (by omega)
      go_wp2_with fail
      go_ret
      exact ⟨_, rfl, HO.out.base HB0.out.size, bstep HB0.out HB.out⟩
set_option maxRecDepth 20000 in
set_option maxHeartbeats 6400000 in
theorem Thieves_good (n : Nat) (gl gh : Int) (S : List Sg) (sa : Option Addr) (sc : Nat) (w : World) (hS : SliceOf encSg 3 w (.slice sa S.length sc) S) (hok : WtOk n gl gh S) :
    Calls Try.prog 6 #[iv n, .slice sa S.length sc, .agg #[iv gl, iv gh]] w fun e w' => ∃ v, e = .returned (.tuple #[v, iv 0]) ∧ Ints w' v (natI (thTo S gl gh n)) ∧ Below w.heap.size w w' := by
  have HO : Hid (∀ (W : World), Below w.heap.size w W → Calls Try.prog 14 #[iv n, .slice sa S.length sc, .agg #[iv gl, iv gh]] W fun e w' => e = .returned (.tuple #[.agg #[iv n, .slice sa S.length sc, iv gl, iv gh], iv 0]) ∧ Below W.heap.size W w') := fun W hb => openWatch_good n gl gh S sa sc W (hS.below hb) hok
  have HT : Hid (∀ (W : World), Below w.heap.size w W → Calls Try.prog 15 #[.agg #[iv n, .slice sa S.length sc, iv gl, iv gh]] W fun e w' => ∃ v, e = .returned v ∧ Owns encI 1 3 W.heap.size w' v (natI (thTo S gl gh n)) ∧ Below W.heap.size W w') := fun W hb => thieves_any n gl gh S sa sc W (hS.below hb) hok
  have hn8 := hok.nn
  have hfl := thTo_len S gl gh n
  clear hS hok
  go_enter Try.func6, Try.ntmps6
  go_wp2_with fail
  refine (HO.out _ (by repeat (first | exact Below.refl _ _ | refine Below.drew ?_ | refine bpush ?_ _ | refine bput ?_ (by simp) _ | (refine bstep ?_ (by assumption))))).mono ?_
  rintro e w1 ⟨rfl, hb1⟩
  have HB1 := Lib.hid (show Below w.heap.size w w1 from bstep (by repeat (first | exact Below.refl _ _ | refine Below.drew ?_ | refine bpush ?_ _ | refine bput ?_ (by simp) _ | (refine bstep ?_ (by assumption)))) hb1)
  clear hb1
  go_wp2_with fail
  refine (HT.out _ (bpush HB1.out _)).mono ?_
  rintro e w2 ⟨v, rfl, ho, hb2⟩
  have HO2 := Lib.hid (Owns.slice ho encI_len (by simp only [natI, List.length_map]; omega))
  have HB2 := Lib.hid (bstep (bpush HB1.out _) hb2)
  clear ho hb2
  go_wp2_with fail
  go_ret2
  exact ⟨v, rfl, HO2.out, HB2.out⟩
end Go.Proofs.Ytdalilllakdamaa
