/- Turns: ranks that are valid. -/
import Derived.Test.YtdalilllakdamaaQl
namespace Go.Proofs.Ytdalilllakdamaa
open Go Go.RowKit Go.Shelf
attribute [local go_sem] Oper.semAt_some

set_option maxRecDepth 20000 in
set_option maxHeartbeats 1600000 in
theorem index_any (xs : List Int) (x : Int) (v : Value) (w : World) (hs : Ints w v xs) : Calls Try.prog 54 #[v, iv x] w fun e w' => (∃ n : Int, e = .returned (iv n) ∧ (0 ≤ n ↔ x ∈ xs)) ∧ w' = w := by
  obtain ⟨a, cap, rfl, hm, hc⟩ := hs
  go_enter Try.func54, Try.ntmps54
  go_wp2_with fail
  go_loopw [8, 5] (fun i _ wr => ∃ k : Nat, k ≤ xs.length ∧ i = iv k ∧ Hid (∀ y ∈ xs.take k, y ≠ x) ∧ wr = w) (fun i _ _ => xs.length - (intOf i).toNat)
  case atStart => exact ⟨0, Nat.zero_le _, rfl, by simp [Hid], rfl⟩
  case round =>
    obtain ⟨k, hk, rfl, HA, rfl⟩ := hrel
    by_cases hlt : k < xs.length
    · obtain ⟨y, hy⟩ := getElem?_of_lt hlt
      obtain ⟨b, off, rfl, hj⟩ := hc k y hy
      have hcell : wr.cell? ⟨b, off + k, none⟩ = some (iv y) := by have h := hj 0 (iv y) rfl; rwa [Nat.mul_one, Nat.add_zero] at h
      have HY := Lib.hid hy; clear hy hj hc
      by_cases h0 : x = y
      · subst h0
        have hb : (x == x) = true := by simp
        have HM := Lib.hid (List.mem_of_getElem? HY.out)
        go_wp2_with fail
        go_ret
        exact ⟨⟨(k : Int), rfl, by simp [HM.out]⟩, rfl⟩
      · have hb : (x == y) = false := by simpa using h0
        clear h0
        have HN : Hid (∀ z ∈ xs.take (k + 1), z ≠ x) := by
          intro z hz
          rw [List.take_add_one, HY.out] at hz
          simp only [Option.toList_some, List.mem_append, List.mem_singleton] at hz
          rcases hz with hz | rfl
          · exact HA.out z hz
          · intro e; subst e; simp at hb
        go_wp2_with fail
        go_roundw
        case rel => exact ⟨k + 1, by omega, by go_num, HN, trivial⟩
        case measure => simp [intOf]; omega
    · obtain rfl : k = xs.length := by omega
      have HN : Hid (¬ x ∈ xs) := fun h => HA.out x (by rwa [List.take_length]) rfl
      clear hc
      go_wp2_with fail
      go_ret
      exact ⟨⟨-1, rfl, by have := HN.out; constructor <;> intro h; omega; exact absurd h this⟩, rfl⟩
set_option maxRecDepth 20000 in
set_option maxHeartbeats 1600000 in
theorem contains_any (xs : List Int) (x : Int) (v : Value) (w : World) (hs : Ints w v xs) : Calls Try.prog 48 #[v, iv x] w fun e w' => e = .returned (.bool (decide (x ∈ xs))) ∧ w' = w := by
  have HI := Lib.hid (index_any xs x v w hs)
  clear hs
  go_enter Try.func48, Try.ntmps48
  go_wp2_with fail
  refine HI.out.mono ?_
  rintro e w1 ⟨⟨n, rfl, hn⟩, rfl⟩
  by_cases h : 0 ≤ n
  · have HN : Hid (decide (x ∈ xs) = true) := decide_eq_true (hn.1 h)
    clear hn
    go_wp2_with fail
    go_ret
    exact ⟨by rw [HN.out]; first | rfl | (simp; omega), rfl⟩
  · have HN : Hid (decide (x ∈ xs) = false) := decide_eq_false (fun hm => h (hn.2 hm))
    clear hn
    go_wp2_with fail
    go_ret
    exact ⟨by rw [HN.out]; first | rfl | (simp; omega), rfl⟩

set_option maxRecDepth 20000 in
set_option maxHeartbeats 3200000 in
theorem allI_any (gf : FuncId) (cb : Array Value) (p : Int → Bool) (xs : List Int) (la : Option Addr) (lc : Nat) (w : World) (eg : ∀ args w, (callFunc gf args).run Try.prog w = .ok (.enter gf args) w)
    (hf : ∀ x ∈ xs, ∀ W, Below w.heap.size w W → Calls Try.prog gf (#[iv x] ++ cb) W fun e w' => e = .returned (.bool (p x)) ∧ Below W.heap.size W w') (hs : Ints w (.slice la xs.length lc) xs) :
    Calls Try.prog 46 #[.func (.func gf) #[] cb, .slice la xs.length lc] w fun e w' => e = .returned (.bool (xs.all p)) ∧ Below w.heap.size w w' := by
  have HF := Lib.hid hf; have HS := Lib.hid hs
  have hlen := hs.len
  clear hf hs
  go_enter Try.func46, Try.ntmps46
  go_wp2_with fail
  go_loopw [9] (fun i wr => ∃ k : Nat, k ≤ xs.length ∧ i = iv k ∧ Hid ((xs.take k).all p = true) ∧ Below w.heap.size w wr) (fun i _ => xs.length - (intOf i).toNat)
  case atStart => exact ⟨0, Nat.zero_le _, rfl, by simp [Hid], Below.refl _ _⟩
  case round =>
    obtain ⟨k, hk, rfl, HA, hbw⟩ := hrel
    have HB := Lib.hid hbw
    clear hbw
    by_cases hlt : k < xs.length
    · obtain ⟨x, hx⟩ := getElem?_of_lt hlt
      have hs1 := HS.out.below HB.out
      obtain ⟨b, off, rfl⟩ := slice_addr hs1 (by omega)
      have c0 : wr.cell? ⟨b, off + k, none⟩ = some (iv x) := int_cell hs1 hx
      have HC := Lib.hid (HF.out x (List.mem_of_getElem? hx) wr HB.out)
      have HX := Lib.hid hx
      clear hs1 hx
      cases hp : p x
      · have HP := Lib.hid hp
        rw [hp] at HC; clear hp
        go_wp2_with fail
        refine HC.out.mono ?_
        rintro e w1 ⟨rfl, hb1⟩
        have HB1 := Lib.hid (bstep HB.out hb1)
        clear hb1
        go_wp2_with fail
        go_ret
        exact ⟨by rw [all_false_of _ HX.out HP.out]; rfl, HB1.out⟩
      · have HP := Lib.hid hp
        rw [hp] at HC; clear hp
        go_wp2_with fail
        refine HC.out.mono ?_
        rintro e w1 ⟨rfl, hb1⟩
        have HB1 := Lib.hid (bstep HB.out hb1)
        clear hb1
        go_wp2_with fail
        go_roundw
        case rel => exact ⟨k + 1, by omega, by go_num, all_take_succ _ HX.out HA.out HP.out, HB1.out⟩
        case measure => simp [intOf]; omega
    · obtain rfl : k = xs.length := by omega
      have HT : Hid (xs.all p = true) := by have := HA.out; rwa [List.take_length] at this
      go_wp2_with fail
      go_ret
      exact ⟨by rw [HT.out]; rfl, HB.out⟩

theorem natEqQ {a b : Nat} (h : a = b) : ((a : Int) == (b : Int)) = true := by rw [beq_iff_eq]; omega
theorem natEqQF {a b : Nat} (h : ¬ a = b) : ((a : Int) == (b : Int)) = false := by rw [beq_eq_false_iff_ne]; omega
/-- Each number once. -/
def eachB (n : Nat) (l : List Int) : Bool := decide (l.length = n) && (natsTo n).all fun x => decide (x ∈ l)
set_option maxRecDepth 20000 in
set_option maxHeartbeats 1600000 in
theorem each1_any (x : Int) (l : List Int) (b : Nat) (v : Value) (W : World) (hb : W.cell? ⟨b, 0, none⟩ = some v) (hv : ∃ a n c, v = .slice a n c) (hs : Ints W v l) :
    Calls Try.prog 47 #[iv x, .pointer (some ⟨b, 0, none⟩)] W fun e w' => e = .returned (.bool (decide (x ∈ l))) ∧ Below W.heap.size W w' := by
  obtain ⟨a, n, c, rfl⟩ := hv
  have HC := Lib.hid (contains_any l x _ W hs)
  clear hs
  go_enter Try.func47, Try.ntmps47
  go_wp2_with fail
  refine HC.out.mono ?_
  rintro e w1 ⟨rfl, rfl⟩
  go_wp2_with fail
  go_ret
  exact ⟨rfl, Below.refl _ _⟩
set_option maxRecDepth 20000 in
set_option maxHeartbeats 3200000 in
theorem each_any (n : Nat) (l : List Int) (a : Option Addr) (c : Nat) (w : World) (hn : n ≤ 1000000) (hs : Ints w (.slice a l.length c) l) :
    Calls Try.prog 38 #[iv n, .slice a l.length c] w fun e w' => e = .returned (.bool (eachB n l)) ∧ Below w.heap.size w w' := by
  by_cases h : l.length = n
  · have hl : ((l.length : Int) == (n : Int)) = true := natEqQ h
    have HV : Hid (eachB n l = (natsTo n).all fun x => decide (x ∈ l)) := by simp [Hid, eachB, h]
    have hb0 : Below w.heap.size w (w.alloc (.cells #[.slice a l.length c] 24)) := (by repeat (first | exact Below.refl _ _ | refine Below.drew ?_ | refine bpush ?_ _ | refine bput ?_ (by simp) _ | (refine bstep ?_ (by assumption))))
    have hc0 : (w.alloc (.cells #[.slice a l.length c] 24)).cell? ⟨w.heap.size, 0, none⟩ = some (.slice a l.length c) := by go_simp
    have HB := Lib.hid hb0; have HC := Lib.hid hc0; have HS := Lib.hid hs
    clear hb0 hc0 hs h
    go_enter Try.func38, Try.ntmps38
    go_wp2_with fail
    refine (numbers_any n _ hn).mono ?_
    rintro e w1 ⟨rfl, hr, hb⟩
    generalize (w.alloc (.cells #[.slice a l.length c] 24)) = Wa at *
    have hal := allI_any 47 #[.pointer (some ⟨w.heap.size, 0, none⟩)] (fun x => decide (x ∈ l)) (natsTo n) (some ⟨Wa.heap.size, 0, none⟩) n w1 (enters_of Try.func47 (by kernel_rfl) rfl)
      (fun x _ W hW => each1_any x l w.heap.size _ W (kcellQ hW (kcellQ hb HC.out)) ⟨_, _, _, rfl⟩ (((HS.out.below HB.out).below hb).below hW)) (ints_row hr rfl (by rw [natsTo_len]; exact hn))
    rw [natsTo_len] at hal
    have HAL := Lib.hid hal; have HB1 := Lib.hid (bstep HB.out hb)
    clear hal hb hr
    go_wp2_with fail
    refine HAL.out.mono ?_
    rintro e w2 ⟨rfl, hb2⟩
    have HB2 := Lib.hid (bstep HB1.out hb2)
    clear hb2
    go_wp2_with fail
    go_ret
    exact ⟨by rw [HV.out]; rfl, HB2.out⟩
  · have hl : ((l.length : Int) == (n : Int)) = false := natEqQF h
    have HV : Hid (eachB n l = false) := by simp [Hid, eachB, h]
    clear hs h
    go_enter Try.func38, Try.ntmps38
    go_wp2_with fail
    go_ret
    exact ⟨by rw [HV.out]; rfl, (by repeat (first | exact Below.refl _ _ | refine Below.drew ?_ | refine bpush ?_ _ | refine bput ?_ (by simp) _ | (refine bstep ?_ (by assumption))))⟩

def vRanks (R : List Int) : Bool := inB 1 6 (R.length : Int) && eachB R.length R
set_option maxRecDepth 20000 in
set_option maxHeartbeats 3200000 in
theorem validRanks_any (R : List Int) (a : Option Addr) (c : Nat) (w : World) (hs : Ints w (.slice a R.length c) R) (hl : R.length ≤ 1000000) :
    Calls Try.prog 29 #[.slice a R.length c] w fun e w' => e = .returned (.bool (vRanks R)) ∧ Below w.heap.size w w' := by
  have HE := Lib.hid (fun (W : World) (hb : Below w.heap.size w W) => each_any R.length R a c W hl (hs.below hb))
  clear hs
  cases h : inB 1 6 (R.length : Int)
  · have HV : Hid (vRanks R = false) := by simp [Hid, vRanks, h]
    have H := Lib.hid h; clear h
    go_enter Try.func29, Try.ntmps29
    go_wp2_with fail
    refine (within1 1 6 (R.length : Int) (by go_simp)).mono ?_
    rintro e w1 ⟨he, rfl⟩; rw [H.out] at he; subst he
    go_wp2_with fail
    go_ret
    exact ⟨by rw [HV.out]; rfl, (by repeat (first | exact Below.refl _ _ | refine Below.drew ?_ | refine bpush ?_ _ | refine bput ?_ (by simp) _ | (refine bstep ?_ (by assumption))))⟩
  · have HV : Hid (vRanks R = eachB R.length R) := by simp [Hid, vRanks, h]
    have H := Lib.hid h; clear h
    go_enter Try.func29, Try.ntmps29
    go_wp2_with fail
    refine (within1 1 6 (R.length : Int) (by go_simp)).mono ?_
    rintro e w1 ⟨he, rfl⟩; rw [H.out] at he; subst he
    go_wp2_with fail
    refine (HE.out _ (by repeat (first | exact Below.refl _ _ | refine Below.drew ?_ | refine bpush ?_ _ | refine bput ?_ (by simp) _ | (refine bstep ?_ (by assumption))))).mono ?_
    rintro e w2 ⟨rfl, hb2⟩
    go_wp2_with fail
    go_ret
    exact ⟨by rw [HV.out]; rfl, bstep (by repeat (first | exact Below.refl _ _ | refine Below.drew ?_ | refine bpush ?_ _ | refine bput ?_ (by simp) _ | (refine bstep ?_ (by assumption)))) hb2⟩
end Go.Proofs.Ytdalilllakdamaa
