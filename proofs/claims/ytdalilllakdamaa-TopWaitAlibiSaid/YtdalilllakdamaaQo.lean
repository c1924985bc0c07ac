/- Turns: the queue of a day, opened. -/
import Derived.Test.YtdalilllakdamaaQn
namespace Go.Proofs.Ytdalilllakdamaa
open Go Go.RowKit Go.Shelf
attribute [local go_sem] Oper.semAt_some

theorem tChk_zero {C : List Ct} {R : List Int} (h : tChk C R = 0) : vRanks R = true ∧ C.length ≤ 10 ∧ C.all (vCloth R.length) = true := by
  unfold tChk at h
  split at h
  · rename_i h1
    split at h
    · cases h
    · split at h
      · rename_i h3; exact ⟨h1, by omega, h3⟩
      · cases h
  · cases h
theorem ctAt_mem {C : List Ct} {a : Nat} (h : a < C.length) : ctAt C a ∈ C := List.mem_of_getElem? (ctAt_get h)
theorem vCloth_iff {n : Nat} {c : Ct} : vCloth n c = true ↔ (0 ≤ c.we ∧ c.we ≤ (n : Int) - 1) ∧ (0 ≤ c.co ∧ c.co ≤ 200) ∧ (1 ≤ c.lo ∧ c.lo ≤ c.hi ∧ c.hi ≤ 20) := by
  simp only [vCloth, Bool.and_eq_true, inB_iff, okSpan_iff]
  constructor <;> intro h <;> omega
theorem day_ok {C : List Ct} {R : List Int} (h : tChk C R = 0) {a : Nat} (ha : a < C.length) : (0 ≤ (ctAt C a).we ∧ (ctAt C a).we < R.length) ∧ (0 ≤ (ctAt C a).co ∧ (ctAt C a).co ≤ 200) ∧ (1 ≤ (ctAt C a).lo ∧ (ctAt C a).lo ≤ (ctAt C a).hi ∧ (ctAt C a).hi ≤ 20) := by
  have := vCloth_iff.1 (List.all_eq_true.1 (tChk_zero h).2.2 _ (ctAt_mem ha))
  omega
theorem day_we {C : List Ct} {R : List Int} (h : tChk C R = 0) : WeOk C R := fun _ ha => (day_ok h ha).1
theorem vRanks_len {R : List Int} (h : vRanks R = true) : 1 ≤ R.length ∧ R.length ≤ 6 := by
  simp only [vRanks, Bool.and_eq_true, inB_iff] at h; omega
theorem day_ct {C : List Ct} {R : List Int} (h : tChk C R = 0) : CtOk C := fun a ha => by
  have := day_ok h ha
  have := vRanks_len (tChk_zero h).1
  omega
theorem day_qu {C : List Ct} {R : List Int} {o : List Nat} {k : Nat} (h : tChk C R = 0) (ho : OrdC C R (List.range C.length) o) (hk : 1 ≤ k ∧ k ≤ 1000) : QuOk C o k := by
  refine ⟨day_ct h, fun x hx => List.mem_range.1 (ho.1.mem_iff.1 hx), hk, ?_⟩
  have := ho.1.length_eq
  have := (tChk_zero h).2.1
  simp at *; omega

set_option maxHeartbeats 800000 in
theorem validStocks_any (k : Int) (w : World) : Calls Try.prog 19 #[iv k] w fun e w' => e = .returned (.bool (inB 1 5 k)) ∧ Below w.heap.size w w' := by
  go_enter Try.func19, Try.ntmps19
  go_wp2_with fail
  refine (within1 1 5 k (by go_simp)).mono ?_
  rintro e w1 ⟨rfl, rfl⟩
  go_wp2_with fail
  go_ret
  exact ⟨rfl, (by repeat (first | exact Below.refl _ _ | refine Below.drew ?_ | refine bpush ?_ _ | refine bput ?_ (by simp) _ | (refine bstep ?_ (by assumption))))⟩
def OpenRes (C : List Ct) (R : List Int) (cv rv : Value) (k : Int) (w : World) (e : Ending) (w' : World) : Prop :=
  ∃ (o : List Nat) (g oc : Nat), e = .returned (.tuple #[qv cv rv k (.slice (some ⟨g, 0, none⟩) o.length oc), iv 0]) ∧ OrdC C R (List.range C.length) o ∧ Owns encI 1 3 w.heap.size w' (.slice (some ⟨g, 0, none⟩) o.length oc) (ordI o) ∧ Below w.heap.size w w'
set_option maxRecDepth 20000 in
set_option maxHeartbeats 6400000 in
theorem openT_good (C : List Ct) (R : List Int) (ca : Option Addr) (ra rb cc rc k : Nat) (w : World) (hC : SliceOf encC 4 w (.slice ca C.length cc) C) (hR : Ints w (.slice (some ⟨ra, rb, none⟩) R.length rc) R) (hchk : tChk C R = 0) (hk : 1 ≤ k ∧ k ≤ 5) :
    Calls Try.prog 10 #[.agg #[.slice ca C.length cc, .slice (some ⟨ra, rb, none⟩) R.length rc], iv k] w (OpenRes C R (.slice ca C.length cc) (.slice (some ⟨ra, rb, none⟩) R.length rc) k w) := by
  have hz := tChk_zero hchk
  have hrl := vRanks_len hz.1
  have HCK := Lib.hid (fun (W : World) (hb : Below w.heap.size w W) => tCheck_any C R ca (some ⟨ra, rb, none⟩) cc rc W (hC.below hb) (hR.below hb) (by omega))
  have HAL := Lib.hid (fun (W : World) (hb : Below w.heap.size w W) => all_any C R ca ra rb cc rc k W (hC.below hb) (hR.below hb) (by omega) (day_we hchk))
  have HK : Hid (inB 1 5 (k : Int) = true) := by unfold Hid; rw [inB_iff]; omega
  have HZ := Lib.hid hchk
  clear hC hR hchk hz hrl
  go_enter Try.func10, Try.ntmps10
  go_wp2_with fail
  refine (HCK.out _ (by repeat (first | exact Below.refl _ _ | refine Below.drew ?_ | refine bpush ?_ _ | refine bput ?_ (by simp) _ | (refine bstep ?_ (by assumption))))).mono ?_
  rintro e w1 ⟨he, hb1⟩; rw [HZ.out] at he; subst he
  have d0 : w1.cell? ⟨w.heap.size, 0, none⟩ = some (.slice ca C.length cc) := kcellQ hb1 (by go_simp)
  have d1 : w1.cell? ⟨w.heap.size, 1, none⟩ = some (.slice (some ⟨ra, rb, none⟩) R.length rc) := kcellQ hb1 (by go_simp)
  have q0 : w1.cell? ⟨w.heap.size + 1, 0, none⟩ = some (.slice none 0 0) := kcellQ hb1 (by go_simp)
  have q1 : w1.cell? ⟨w.heap.size + 1, 1, none⟩ = some (.slice none 0 0) := kcellQ hb1 (by go_simp)
  have q2 : w1.cell? ⟨w.heap.size + 1, 2, none⟩ = some (iv 0) := kcellQ hb1 (by go_simp)
  have q3 : w1.cell? ⟨w.heap.size + 1, 3, none⟩ = some (.slice none 0 0) := kcellQ hb1 (by go_simp)
  have f0 : w1.frozen? ⟨w.heap.size + 1, 0, none⟩ = false := (hb1.frozen (p := ⟨w.heap.size + 1, 0, none⟩) (by simp)).trans (by go_simp)
  have f1 : w1.frozen? ⟨w.heap.size + 1, 1, none⟩ = false := (hb1.frozen (p := ⟨w.heap.size + 1, 1, none⟩) (by simp)).trans (by go_simp)
  have f2 : w1.frozen? ⟨w.heap.size + 1, 2, none⟩ = false := (hb1.frozen (p := ⟨w.heap.size + 1, 2, none⟩) (by simp)).trans (by go_simp)
  have f3 : w1.frozen? ⟨w.heap.size + 1, 3, none⟩ = false := (hb1.frozen (p := ⟨w.heap.size + 1, 3, none⟩) (by simp)).trans (by go_simp)
  have HB1 := Lib.hid (show Below w.heap.size w w1 from bstep (by repeat (first | exact Below.refl _ _ | refine Below.drew ?_ | refine bpush ?_ _ | refine bput ?_ (by simp) _ | (refine bstep ?_ (by assumption)))) hb1)
  have hl0 := lt_of_cell d0
  have hl1 := lt_of_cell q0
  clear hb1
  go_wp2_with fail
  refine (validStocks_any (k : Int) _).mono ?_
  rintro e w2 ⟨he, hb2⟩; rw [HK.out] at he; subst he
  have d0' := kcellQ hb2 d0
  have d1' := kcellQ hb2 d1
  have q0' := kcellQ hb2 q0
  have q1' := kcellQ hb2 q1
  have q2' := kcellQ hb2 q2
  have q3' := kcellQ hb2 q3
  have f0' := kfrozenQ hb2 q0 f0
  have f1' := kfrozenQ hb2 q1 f1
  have f2' := kfrozenQ hb2 q2 f2
  have f3' := kfrozenQ hb2 q3 f3
  have HB2 := Lib.hid (bstep HB1.out hb2)
  have HL1 := Lib.hid (Nat.lt_of_lt_of_le hl1 hb2.size)
  clear d0 d1 q0 q1 q2 q3 f0 f1 f2 f3 hb2 hl0 hl1
  go_wp2_with fail
  refine (HAL.out _ HB2.out).mono ?_
  rintro e w3 ⟨o, g, oc, rfl, hord, ho3, hb3⟩
  have u0 := kcellQ hb3 q0'
  have u1 := kcellQ hb3 q1'
  have u2 := kcellQ hb3 q2'
  have u3 := kcellQ hb3 q3'
  have v0 := kfrozenQ hb3 q0' f0'
  have v1 := kfrozenQ hb3 q1' f1'
  have v2 := kfrozenQ hb3 q2' f2'
  have v3 := kfrozenQ hb3 q3' f3'
  have HB3 := Lib.hid (bstep HB2.out hb3); have HO3 := Lib.hid ho3; have HORD := Lib.hid hord
  clear d0' d1' q0' q1' q2' q3' f0' f1' f2' f3' hb3 ho3 hord
  go_wp2_with fail
  refine bodyPost_ret (v := .tuple #[qv (.slice ca C.length cc) (.slice (some ⟨ra, rb, none⟩) R.length rc) k (.slice (some ⟨g, 0, none⟩) o.length oc), iv 0]) (by simp [results, Try.results10, go_sem, u0, u1, u2, u3]) rfl ?_
  refine ⟨o, g, oc, rfl, HORD.out, ?_, bput (bput (bput (bput HB3.out (by simp) _) (by simp) _) (by simp) _) (by simp) _⟩
  have hl1 := HL1.out
  have ho := owns_set (owns_set (owns_set (owns_set HO3.out (g := w.heap.size + 1) (by omega) 0 (.slice ca C.length cc)) (g := w.heap.size + 1) (by omega) 1 (.slice (some ⟨ra, rb, none⟩) R.length rc)) (g := w.heap.size + 1) (by omega) 2 (.int .i64 k)) (g := w.heap.size + 1) (by omega) 3 (.slice (some ⟨g, 0, none⟩) o.length oc)
  exact owns_low ho (by omega)
end Go.Proofs.Ytdalilllakdamaa
