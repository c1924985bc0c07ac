/- Package signs: Only, for texts of ASCII signs. -/
import Derived.Test.YtgoncgbbgodliadNa
import Derived.Lib.OthersKept
namespace Go.Proofs.Ytgoncgbbgodliad
open Go Go.RowKit Go.Shelf
attribute [local go_sem] Oper.semAt_some
attribute [local go_sem ↓] Go.wp_at_zero Go.wp_at_succ

abbrev rv (n : Int) : Value := .int .i32 n
def encR (n : Int) : List Value := [rv n]
/-- A text of ASCII signs. -/
def Asc (s : ByteArray) : Prop := ∀ i (h : i < s.size), (s[i]'h).toNat < 128
/-- The sign at a place. -/
def sgAt (s : ByteArray) (i : Nat) : Int := if h : i < s.size then ((s[i]'h).toNat : Int) else 0
theorem sgAt_of {s : ByteArray} {i : Nat} (h : i < s.size) : sgAt s i = ((s[i]'h).toNat : Int) := dif_pos h
/-- Whether the first k signs fulfil a condition. -/
def sgAll (s : ByteArray) (p : Int → Bool) (k : Nat) : Bool := (List.range k).all fun i => p (sgAt s i)
theorem sgAll_succ {s : ByteArray} {p : Int → Bool} {k : Nat} (h : sgAll s p k = true) (hp : p (sgAt s k) = true) : sgAll s p (k + 1) = true := by
  unfold sgAll at *; rw [List.range_succ, List.all_append, h]; simp [hp]
theorem sgAll_not {s : ByteArray} {p : Int → Bool} {k n : Nat} (hk : k < n) (hp : p (sgAt s k) = false) : sgAll s p n = false := by
  unfold sgAll; rw [List.all_eq_false]; exact ⟨k, List.mem_range.2 hk, by simp [hp]⟩
/-- What Only says. -/
def onlyB (s : ByteArray) (lo hi fi la : Int) (O : List Int) : Bool := inB lo hi s.size && sgAll s (fun c => (decide (fi ≤ c) && decide (c ≤ la)) || decide (c ∈ O)) s.size

theorem encR_cell {w : World} {b off n cap i : Nat} {xs : List Int} {x : Int} (h : SliceOf encR 1 w (.slice (some ⟨b, off, none⟩) n cap) xs) (hx : xs[i]? = some x) : w.cell? ⟨b, off + i, none⟩ = some (rv x) := by
  have := slice_cellN h hx 0 _ rfl
  simpa using this
set_option maxRecDepth 20000 in
set_option maxHeartbeats 3200000 in
theorem index32_any (O : List Int) (ov : Value) (v : Int) (w : World) (h : SliceOf encR 1 w ov O) :
    Calls Try.prog 78 #[ov, rv v] w fun e w' => (∃ r : Int, e = .returned (iv r) ∧ (0 ≤ r ↔ v ∈ O)) ∧ w = w' := by
  have HO := Lib.hid h
  obtain ⟨oa, oc, rfl, hl, -⟩ := h
  go_enter Try.func78, Try.ntmps78
  go_wp2_with fail
  go_loopw [8] (fun i wr => ∃ k : Nat, k ≤ O.length ∧ i = iv k ∧ Hid (v ∉ O.take k) ∧ wr = w) (fun i _ => O.length - (intOf i).toNat)
  case atStart => exact ⟨0, Nat.zero_le _, rfl, by simp [Hid], rfl⟩
  case round =>
    obtain ⟨k, hk, rfl, HN, rfl⟩ := hrel
    by_cases hlt : k < O.length
    · obtain ⟨b, off, rfl⟩ := slice_addrN HO.out (by omega)
      obtain ⟨x, hx⟩ := getElem?_of_lt hlt
      have c0 := encR_cell HO.out hx
      have HX := Lib.hid hx
      clear hx
      have q1 : (0 : Int) ≤ (k : Int) := by omega
      have q2 : (k : Int) < (O.length : Int) := by omega
      by_cases hv : v = x
      · have HM : Hid (0 ≤ (k : Int) ↔ v ∈ O) := ⟨fun _ => by rw [hv]; exact List.mem_of_getElem? HX.out, fun _ => q1⟩
        have e1 : (v == x) = true := by simpa using hv
        have e2 : decide (v = x) = true := by simpa using hv
        clear hv
        go_wp2_with fail
        go_ret
        exact ⟨⟨_, rfl, HM.out⟩, rfl⟩
      · have HN2 : Hid (v ∉ O.take (k + 1)) := by
          simp only [Hid]; rw [List.take_add_one, HX.out]
          intro hm
          rcases List.mem_append.1 hm with hm | hm
          · exact HN.out hm
          · simp at hm; exact hv hm
        have e1 : (v == x) = false := by simpa using hv
        go_wp2_with fail
        go_roundw
        case rel => exact ⟨k + 1, by omega, by go_num, HN2, trivial⟩
        case measure => simp [intOf]; omega
    · obtain rfl : k = O.length := by omega
      have HM : Hid (0 ≤ (-1 : Int) ↔ v ∈ O) := ⟨fun h => by omega, fun h => by have := HN.out; rw [List.take_length] at this; exact absurd h this⟩
      go_wp2_with fail
      go_ret
      exact ⟨⟨_, rfl, HM.out⟩, rfl⟩
set_option maxRecDepth 20000 in
set_option maxHeartbeats 3200000 in
theorem contains32_any (O : List Int) (ov : Value) (v : Int) (w : World) (h : SliceOf encR 1 w ov O) :
    Calls Try.prog 62 #[ov, rv v] w fun e w' => e = .returned (.bool (decide (v ∈ O))) ∧ w = w' := by
  have HI := Lib.hid (index32_any O ov v w h)
  clear h
  go_enter Try.func62, Try.ntmps62
  go_wp2_with fail
  refine HI.out.mono ?_
  rintro e w' ⟨⟨r, rfl, hr⟩, rfl⟩
  have HR : Hid (decide (v ∈ O) = decide (0 ≤ r)) := by
    by_cases h0 : 0 ≤ r
    · rw [Hid, decide_eq_true h0, decide_eq_true (hr.1 h0)]
    · rw [Hid, decide_eq_false h0, decide_eq_false (fun h => h0 (hr.2 h))]
  clear hr
  go_wp2_with fail
  go_ret
  exact ⟨by rw [HR.out]; rfl, rfl⟩

set_option maxRecDepth 20000 in
set_option maxHeartbeats 6400000 in
theorem only_any (s : ByteArray) (lo hi fi la : Int) (O : List Int) (ov : Value) (w : World) (hs : Asc s) (hO : SliceOf encR 1 w ov O) :
    Calls Try.prog 44 #[.string s, iv lo, iv hi, rv fi, rv la, ov] w fun e w' => e = .returned (.bool (onlyB s lo hi fi la O)) ∧ Below w.heap.size w w' := by
  have HO := Lib.hid hO; have HA := Lib.hid hs
  have HC := Lib.hid (fun (c : Int) (W : World) (h : SliceOf encR 1 W ov O) => contains32_any O ov c W h)
  clear hO hs
  cases h1 : inB lo hi (s.size : Int)
  · have HV : Hid (onlyB s lo hi fi la O = false) := by simp [Hid, onlyB, h1]
    have H1 := Lib.hid h1; clear h1
    go_enter Try.func44, Try.ntmps44
    go_wp2_with fail
    refine (within1 lo hi (s.size : Int) (by go_simp)).mono ?_
    rintro e w_ ⟨he, rfl⟩; rw [H1.out] at he; subst he
    go_wp2_with fail
    go_ret
    exact ⟨by rw [HV.out]; rfl, (by repeat (first | exact Below.refl _ _ | refine Below.drew ?_ | refine bpush ?_ _ | refine bput ?_ (by simp) _ | (refine bstep ?_ (by assumption))))⟩
  · have HV : Hid (onlyB s lo hi fi la O = sgAll s (fun c => (decide (fi ≤ c) && decide (c ≤ la)) || decide (c ∈ O)) s.size) := by simp [Hid, onlyB, h1]
    have H1 := Lib.hid h1; clear h1
    go_enter Try.func44, Try.ntmps44
    go_wp2_with fail
    refine (within1 lo hi (s.size : Int) (by go_simp)).mono ?_
    rintro e w_ ⟨he, rfl⟩; rw [H1.out] at he; subst he
    go_wp2_with fail
    have hk0 : ((w.alloc (.cells #[.int .i64 s.size] 3)).iter s 0).heap[w.heap.size + 1]? = some (.stringIter s 0) := by
      have h5 := World.iter_heap (w.alloc (.cells #[.int .i64 s.size] 3)) s 0
      simpa using h5
    have hb0 : Below w.heap.size w ((w.alloc (.cells #[.int .i64 s.size] 3)).iter s 0) := bpush (bpush (Below.refl _ _) _) _
    obtain ⟨P, hP⟩ : ∃ P : Int → Bool, P = fun c => (decide (fi ≤ c) && decide (c ≤ la)) || decide (c ∈ O) := ⟨_, rfl⟩
    rw [← hP] at HV
    have HP := Lib.hid hP
    clear hP
    go_loopw [14] (fun _ wr => ∃ pos : Nat, pos ≤ s.size ∧ Hid (wr.heap[w.heap.size + 1]? = some (.stringIter s pos)) ∧ Hid (sgAll s P pos = true) ∧ Hid (Below w.heap.size w wr)) (fun _ wr => s.size - wr.iterPos (w.heap.size + 1))
    case atStart => exact ⟨0, Nat.zero_le _, hk0, rfl, hb0⟩
    case round =>
      obtain ⟨pos, hps, HK, HG, HB⟩ := hrel
      clear hk0 hb0
      have hmu : Hid (wr.iterPos (w.heap.size + 1) = pos) := by simp [Hid, World.iterPos, HK.out]
      by_cases hp : pos < s.size
      · have hnext : ∀ ty, (Instr.next (.pointer (some ⟨w.heap.size + 1, 0, none⟩)) true ty).run Try.prog wr = _ := fun ty => Lib.run_next_ascii_at wr (w.heap.size + 1) s pos ty HK.out hp (HA.out pos hp)
        have HK1 := Lib.hid (Lib.iterAt_heap wr (w.heap.size + 1) s pos (pos + 1) HK.out)
        have HB1 : Hid (Below w.heap.size w (wr.iterAt (w.heap.size + 1) s (pos + 1))) := Lib.below_iterAt HB.out (by omega) s (pos + 1)
        have HSG : Hid (sgAt s pos = ((s[pos]'hp).toNat : Int)) := sgAt_of hp
        generalize wr.iterAt (w.heap.size + 1) s (pos + 1) = W1 at hnext HK1 HB1
        generalize ((s[pos]'hp).toNat : Int) = c at hnext HSG
        have HCC := Lib.hid (HC.out c)
        have HMU : Hid (∀ W2 : World, W2.heap[w.heap.size + 1]? = some (.stringIter s (pos + 1)) → s.size - W2.iterPos (w.heap.size + 1) < s.size - wr.iterPos (w.heap.size + 1)) := fun W2 h2 => by
          have := hmu.out
          have e2 : W2.iterPos (w.heap.size + 1) = pos + 1 := by simp [World.iterPos, h2]
          rw [this, e2]; omega
        have HPC : Hid (P (sgAt s pos) = ((decide (fi ≤ c) && decide (c ≤ la)) || decide (c ∈ O))) := by simp only [Hid]; rw [HSG.out, HP.out]
        clear hmu
        by_cases hin : fi ≤ c ∧ c ≤ la
        · obtain ⟨i1, i2⟩ := hin
          have HG2 : Hid (sgAll s P (pos + 1) = true) := sgAll_succ HG.out (by rw [HPC.out]; simp [i1, i2])
          go_wp2_with fail
          go_roundw
          case rel => exact ⟨pos + 1, by omega, HK1, HG2, HB1⟩
          case measure => exact HMU.out _ HK1.out
        · by_cases hm : c ∈ O
          · have HG2 : Hid (sgAll s P (pos + 1) = true) := sgAll_succ HG.out (by rw [HPC.out]; simp [hm])
            rw [decide_eq_true hm] at HCC
            clear hm
            by_cases h2 : c < fi
            · go_wp2_with fail
              refine (HCC.out _ (HO.out.below HB1.out)).mono ?_
              rintro e w2 ⟨rfl, rfl⟩
              go_wp2_with fail
              go_roundw
              case rel => exact ⟨pos + 1, by omega, HK1, HG2, HB1⟩
              case measure => exact HMU.out _ HK1.out
            · have h3 : la < c := by omega
              go_wp2_with fail
              refine (HCC.out _ (HO.out.below HB1.out)).mono ?_
              rintro e w2 ⟨rfl, rfl⟩
              go_wp2_with fail
              go_roundw
              case rel => exact ⟨pos + 1, by omega, HK1, HG2, HB1⟩
              case measure => exact HMU.out _ HK1.out
          · have HV2 : Hid (onlyB s lo hi fi la O = false) := by
              simp only [Hid]; rw [HV.out]
              refine sgAll_not hp ?_
              rw [HPC.out]
              simp only [hm, decide_false, Bool.or_false, Bool.and_eq_false_iff, decide_eq_false_iff_not]
              omega
            rw [decide_eq_false hm] at HCC
            clear hm
            by_cases h2 : c < fi
            · go_wp2_with fail
              refine (HCC.out _ (HO.out.below HB1.out)).mono ?_
              rintro e w2 ⟨rfl, rfl⟩
              go_wp2_with fail
              go_ret
              exact ⟨by rw [HV2.out]; rfl, HB1.out⟩
            · have h3 : la < c := by omega
              go_wp2_with fail
              refine (HCC.out _ (HO.out.below HB1.out)).mono ?_
              rintro e w2 ⟨rfl, rfl⟩
              go_wp2_with fail
              go_ret
              exact ⟨by rw [HV2.out]; rfl, HB1.out⟩
      · have hnext : ∀ ty, (Instr.next (.pointer (some ⟨w.heap.size + 1, 0, none⟩)) true ty).run Try.prog wr = _ := fun ty => Lib.run_next_end_at wr (w.heap.size + 1) s pos ty HK.out hp
        obtain rfl : pos = s.size := by omega
        have HV2 : Hid (onlyB s lo hi fi la O = true) := HV.out.trans HG.out
        go_wp2_with fail
        go_ret
        exact ⟨by rw [HV2.out]; rfl, HB.out⟩
end Go.Proofs.Ytgoncgbbgodliad
