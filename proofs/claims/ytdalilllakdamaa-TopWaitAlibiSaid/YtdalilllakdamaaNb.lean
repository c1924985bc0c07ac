/- Package theft: the sights against a person at a minute; the fewest of them; the thieves. -/
import Derived.Test.YtdalilllakdamaaNa
namespace Go.Proofs.Ytdalilllakdamaa
open Go Go.RowKit Go.Shelf
attribute [local go_sem] Oper.semAt_some
attribute [local go_sem ↓] Go.wp_at_zero Go.wp_at_succ

/-- Whether by a sight a person cannot have been on the field at a minute. -/
def wtB (p m : Int) (s : Sg) : Bool := decide (s.p = p) && decide (max (m - s.m) (s.m - m) < s.a)
def wtAt (S : List Sg) (p m : Int) (i : Nat) : Bool := match S[i]? with
  | some s => wtB p m s
  | none => false
/-- The numbers of these sights below k. -/
def wtTo (S : List Sg) (p m : Int) (k : Nat) : List Nat := (List.range k).filter (wtAt S p m)
def wtL (S : List Sg) (p m : Int) : List Int := (wtTo S p m S.length).map fun i : Nat => (i : Int)
def natI (o : List Nat) : List Int := o.map fun x : Nat => (x : Int)
theorem wtTo_succ (S : List Sg) (p m : Int) (k : Nat) : wtTo S p m (k + 1) = wtTo S p m k ++ if wtAt S p m k then [k] else [] := by
  unfold wtTo; rw [List.range_succ, List.filter_append, List.filter_cons, List.filter_nil]
theorem wtTo_len (S : List Sg) (p m : Int) (k : Nat) : (wtTo S p m k).length ≤ k := by
  have := List.length_filter_le (wtAt S p m) (List.range k)
  rw [List.length_range] at this; exact this

set_option maxRecDepth 20000 in
set_option maxHeartbeats 6400000 in
theorem wtAgainst_any (n gl gh p m : Int) (S : List Sg) (sa : Option Addr) (sc : Nat) (w : World) (hS : SliceOf encSg 3 w (.slice sa S.length sc) S) (hv : S.all (vSg n) = true) (hm : 0 ≤ m ∧ m ≤ 1440) (hl : S.length ≤ 1000) :
    Calls Try.prog 35 #[.agg #[iv n, .slice sa S.length sc, iv gl, iv gh], iv p, iv m] w fun e w' => ∃ v, e = .returned v ∧ Owns encI 1 3 w.heap.size w' v (wtL S p m) ∧ Below w.heap.size w w' := by
  obtain ⟨i0, hi, hz0, hz1, hz2⟩ := info_parts info3
  have HS := Lib.hid hS
  have HV := Lib.hid hv
  clear hS hv
  go_enter Try.func35, Try.ntmps35
  go_wp2_with fail
  go_loopw [13, 7] (fun i l wr => ∃ k : Nat, k ≤ S.length ∧ i = iv k ∧ Owns encI 1 3 w.heap.size wr l (natI (wtTo S p m k)) ∧ Below w.heap.size w wr) (fun i _ _ => S.length - (intOf i).toNat)
  case atStart => exact ⟨0, Nat.zero_le _, rfl, Owns.nil _ _ _ _ _, bpush (Below.refl _ _) _⟩
  case round =>
    obtain ⟨k, hk, rfl, hown, hbw⟩ := hrel
    have HO := Lib.hid hown; have HB := Lib.hid hbw
    clear hown hbw
    by_cases hlt : k < S.length
    · have hs1 := HS.out.below HB.out
      obtain ⟨b, off, rfl⟩ := slice_addrN hs1 (by omega)
      obtain ⟨x, hx⟩ := getElem?_of_lt hlt
      have hcell := slice_cellN hs1 hx
      have c0 := hcell 0 _ rfl
      have c1 := hcell 1 _ rfl
      have c2 := hcell 2 _ rfl
      simp only [Nat.add_zero] at c0
      have HT := Lib.hid (wtTo_succ S p m k)
      have HAT : Hid (wtAt S p m k = wtB p m x) := by simp [Hid, wtAt, hx]
      have hvx := vSg_iff.1 (List.all_eq_true.1 HV.out x (List.mem_of_getElem? hx))
      have hfl := wtTo_len S p m k
      clear hs1 hx hcell
      obtain ⟨p0, m0, a0⟩ := x
      simp only at hvx c0 c1 c2
      obtain ⟨v1, v2, v3⟩ := hvx
      rw [HAT.out] at HT
      have e1 : IntKind.i64.wrap (m - m0) = m - m0 := IntWalk.i64_in _ ⟨by omega, by omega⟩
      have e2 : IntKind.i64.wrap (m0 - m) = m0 - m := IntWalk.i64_in _ ⟨by omega, by omega⟩
      have hb2 : (natI (wtTo S p m k)).length + 1 ≤ maxLen ∧ ((natI (wtTo S p m k)).length + 1) * 8 ≤ 140737488355328 := by simp only [natI, List.length_map]; unfold maxLen; omega
      have hb3 : ∀ o1 o2, w.heap.size ≤ ((wr.alloc o1).alloc o2).heap.size := fun o1 o2 => by have := HB.out.size; simp; omega
      clear HAT
      by_cases hp : p0 = p
      · subst hp
        have hpp : (p0 == p0) = true := by simp
        by_cases hmx : m - m0 < m0 - m
        · by_cases hlt2 : m0 - m < a0
          · have hW : wtB p0 m ⟨p0, m0, a0⟩ = true := by show (decide (p0 = p0) && decide (max (m - m0) (m0 - m) < a0)) = true; rw [Bool.and_eq_true, decide_eq_true_eq, decide_eq_true_eq]; omega
            rw [hW, if_pos rfl] at HT
            clear hW
            go_wp2_with (at_builtin; refine L_append1 (k : Int) rfl _ _ 24 rfl Try.underlying24 hi hz0 hz1 hz2 rfl Nat.one_pos encI_len (encI_one _) rfl rfl (Owns.kept HO.out (bpush (bpush (Below.refl _ _) _) _)) (encI_cell ?_) hb2 (hb3 _ _) ?_; go_simp; intro v' w2 hown2 hbe2 hg2)
            go_roundw
            case rel => exact ⟨k + 1, by omega, by go_num, by rw [HT.out]; simpa [natI] using hown2, (bpush (bpush HB.out _) _).trans hbe2⟩
            case measure => simp [intOf]; omega
          · have hW : wtB p0 m ⟨p0, m0, a0⟩ = false := by show (decide (p0 = p0) && decide (max (m - m0) (m0 - m) < a0)) = false; rw [Bool.and_eq_false_iff, decide_eq_false_iff_not, decide_eq_false_iff_not]; omega
            rw [hW, if_neg Bool.false_ne_true, List.append_nil] at HT
            clear hW
            go_wp2_with fail
            go_roundw
            case rel => exact ⟨k + 1, by omega, by go_num, by rw [HT.out]; exact Owns.kept HO.out (bpush (Below.refl _ _) _), bpush HB.out _⟩
            case measure => simp [intOf]; omega
        · by_cases hlt2 : m - m0 < a0
          · have hW : wtB p0 m ⟨p0, m0, a0⟩ = true := by show (decide (p0 = p0) && decide (max (m - m0) (m0 - m) < a0)) = true; rw [Bool.and_eq_true, decide_eq_true_eq, decide_eq_true_eq]; omega
            rw [hW, if_pos rfl] at HT
            clear hW
            go_wp2_with (at_builtin; refine L_append1 (k : Int) rfl _ _ 24 rfl Try.underlying24 hi hz0 hz1 hz2 rfl Nat.one_pos encI_len (encI_one _) rfl rfl (Owns.kept HO.out (bpush (bpush (Below.refl _ _) _) _)) (encI_cell ?_) hb2 (hb3 _ _) ?_; go_simp; intro v' w2 hown2 hbe2 hg2)
            go_roundw
            case rel => exact ⟨k + 1, by omega, by go_num, by rw [HT.out]; simpa [natI] using hown2, (bpush (bpush HB.out _) _).trans hbe2⟩
            case measure => simp [intOf]; omega
          · have hW : wtB p0 m ⟨p0, m0, a0⟩ = false := by show (decide (p0 = p0) && decide (max (m - m0) (m0 - m) < a0)) = false; rw [Bool.and_eq_false_iff, decide_eq_false_iff_not, decide_eq_false_iff_not]; omega
            rw [hW, if_neg Bool.false_ne_true, List.append_nil] at HT
            clear hW
            go_wp2_with fail
            go_roundw
            case rel => exact ⟨k + 1, by omega, by go_num, by rw [HT.out]; exact Owns.kept HO.out (bpush (Below.refl _ _) _), bpush HB.out _⟩
            case measure => simp [intOf]; omega
      · have hW : wtB p m ⟨p0, m0, a0⟩ = false := by simp only [wtB, Bool.and_eq_false_iff, decide_eq_false_iff_not]; exact .inl hp
        have hpp : (p0 == p) = false := by simpa using hp
        rw [hW, if_neg Bool.false_ne_true, List.append_nil] at HT
        clear hW
        go_wp2_with fail
        go_roundw
        case rel => exact ⟨k + 1, by omega, by go_num, by rw [HT.out]; exact Owns.kept HO.out (bpush (Below.refl _ _) _), bpush HB.out _⟩
        case measure => simp [intOf]; omega
    · obtain rfl : k = S.length := by omega
      go_wp2_with fail
      go_ret
      exact ⟨_, rfl, HO.out, HB.out⟩
end Go.Proofs.Ytdalilllakdamaa
