/- Turns: when all are done. -/
import Derived.Test.YtkialkfplhhenaaQo
namespace Go.Proofs.Ytkialkfplhhenaa
open Go Go.RowKit Go.Shelf
attribute [local go_sem] Oper.semAt_some
attribute [local go_sem ↓] Go.wp_at_zero Go.wp_at_succ

theorem quIn_of {C : List Ct} {o : List Nat} {ca : Option Addr} {cc g oc base : Nat} {w w' : World} (hC : SliceOf encC 4 w (.slice ca C.length cc) C) (hb : Below w.heap.size w w') (ho : Owns encI 1 3 base w' (.slice (some ⟨g, 0, none⟩) o.length oc) (ordI o)) (hl : o.length ≤ 1000) : QuIn w' ca (some ⟨g, 0, none⟩) cc oc C o :=
  ⟨hC.below hb, Owns.slice ho encI_len (by rw [ordI_len]; omega)⟩
/-- What Ends returns. -/
def EndsRes (C : List Ct) (R : List Int) (k : Nat) (w : World) (e : Ending) (w' : World) : Prop :=
  ∃ o : List Nat, OrdC C R (List.range C.length) o ∧ e = .returned (.tuple #[.agg #[iv (endL (visL (coOf C) (loOf C) (List.replicate k 0) o)), iv (endL (visL (coOf C) (hiOf C) (List.replicate k 0) o))], iv 0]) ∧ Below w.heap.size w w'

set_option maxRecDepth 20000 in
set_option maxHeartbeats 6400000 in
theorem Ends_good (C : List Ct) (R : List Int) (ca : Option Addr) (ra rb cc rc k : Nat) (w : World) (hC : SliceOf encC 4 w (.slice ca C.length cc) C) (hR : Ints w (.slice (some ⟨ra, rb, none⟩) R.length rc) R) (hchk : tChk C R = 0) (hk : 1 ≤ k ∧ k ≤ 5) :
    Calls Try.prog 8 #[.agg #[.slice ca C.length cc, .slice (some ⟨ra, rb, none⟩) R.length rc], iv k] w (EndsRes C R k w) := by
  have HOP := Lib.hid (fun (W : World) (hb : Below w.heap.size w W) => openT_good C R ca ra rb cc rc k W (hC.below hb) (hR.below hb) hchk hk)
  have HC := Lib.hid hC
  have HCK := Lib.hid hchk
  clear hC hR hchk
  go_enter Try.func8, Try.ntmps8
  go_wp2_with fail
  refine (HOP.out _ (by repeat (first | exact Below.refl _ _ | refine Below.drew ?_ | refine bpush ?_ _ | refine bput ?_ (by simp) _ | (refine bstep ?_ (by assumption))))).mono ?_
  rintro e w1 ⟨o, g, oc, rfl, hord, ho1, hb1⟩
  have hB1 : Below w.heap.size w w1 := bstep (by repeat (first | exact Below.refl _ _ | refine Below.drew ?_ | refine bpush ?_ _ | refine bput ?_ (by simp) _ | (refine bstep ?_ (by assumption)))) hb1
  have hqu := day_qu HCK.out hord ⟨hk.1, by omega⟩
  have hq := quIn_of HC.out hB1 ho1 hqu.len
  have s0 : w1.cell? ⟨w.heap.size + 1, 0, none⟩ = some (iv 0) := kcellQ hb1 (by go_simp)
  have s1 : w1.cell? ⟨w.heap.size + 1, 1, none⟩ = some (iv 0) := kcellQ hb1 (by go_simp)
  have t0 : w1.frozen? ⟨w.heap.size + 1, 0, none⟩ = false := (hb1.frozen (p := ⟨w.heap.size + 1, 0, none⟩) (by simp)).trans (by go_simp)
  have t1 : w1.frozen? ⟨w.heap.size + 1, 1, none⟩ = false := (hb1.frozen (p := ⟨w.heap.size + 1, 1, none⟩) (by simp)).trans (by go_simp)
  have HQU := Lib.hid hqu; have HQ := Lib.hid hq; have HB1 := Lib.hid hB1; have HORD := Lib.hid hord
  have hl1 := lt_of_cell s0
  clear hb1 ho1 hord hqu hq hB1
  obtain ⟨Wn, hWn⟩ : ∃ Wn : World, w1.alloc (.cells #[.slice ca C.length cc, .slice (some ⟨ra, rb, none⟩) R.length rc, iv k, .slice (some ⟨g, 0, none⟩) o.length oc] 59) = Wn := ⟨_, rfl⟩
  have hBn : Below w1.heap.size w1 Wn := by rw [← hWn]; exact bpush (Below.refl _ _) _
  have q0 : Wn.cell? ⟨w1.heap.size, 0, none⟩ = some (.slice ca C.length cc) := by subst hWn; go_simp
  have q1 : Wn.cell? ⟨w1.heap.size, 1, none⟩ = some (.slice (some ⟨ra, rb, none⟩) R.length rc) := by subst hWn; go_simp
  have q2 : Wn.cell? ⟨w1.heap.size, 2, none⟩ = some (iv k) := by subst hWn; go_simp
  have q3 : Wn.cell? ⟨w1.heap.size, 3, none⟩ = some (.slice (some ⟨g, 0, none⟩) o.length oc) := by subst hWn; go_simp
  have s0 := kcellQ hBn s0
  have s1 := kcellQ hBn s1
  have t0 : Wn.frozen? ⟨w.heap.size + 1, 0, none⟩ = false := (hBn.frozen (p := ⟨w.heap.size + 1, 0, none⟩) hl1).trans t0
  have t1 : Wn.frozen? ⟨w.heap.size + 1, 1, none⟩ = false := (hBn.frozen (p := ⟨w.heap.size + 1, 1, none⟩) hl1).trans t1
  have HBn := Lib.hid hBn
  have HLO := Lib.hid (fun (W : World) (hb : Below Wn.heap.size Wn W) => (endLo_any ca (some ⟨g, 0, none⟩) cc oc k (.slice (some ⟨ra, rb, none⟩) R.length rc) C o W (QuIn.below (w := Wn) (HQ.out.below HBn.out) hb) HQU.out).mono (R' := fun e w' => e = .returned (iv (endL (visL (coOf C) (loOf C) (List.replicate k 0) o))) ∧ Below Wn.heap.size Wn w') (fun _ _ h => ⟨h.1, bstep hb h.2⟩))
  have HHI := Lib.hid (fun (W : World) (hb : Below Wn.heap.size Wn W) => (endHi_any ca (some ⟨g, 0, none⟩) cc oc k (.slice (some ⟨ra, rb, none⟩) R.length rc) C o W (QuIn.below (w := Wn) (HQ.out.below HBn.out) hb) HQU.out).mono (R' := fun e w' => e = .returned (iv (endL (visL (coOf C) (hiOf C) (List.replicate k 0) o))) ∧ Below Wn.heap.size Wn w') (fun _ _ h => ⟨h.1, bstep hb h.2⟩))
  clear hBn
  generalize hlo : endL (visL (coOf C) (loOf C) (List.replicate k 0) o) = lo at *
  generalize hhi : endL (visL (coOf C) (hiOf C) (List.replicate k 0) o) = hi at *
  have HLH := Lib.hid (And.intro hlo hhi)
  clear hlo hhi
  go_wp2_with fail
  clear hWn
  have hD : Below Wn.heap.size Wn Wn.drew := (Below.refl _ _).drew
  go_region_with (first | ((with_reducible refine (HLO.out _ (by assumption)).mono ?_); rintro e wL ⟨rfl, hbL⟩; have lq0 := kcellQ hbL q0; have lq1 := kcellQ hbL q1; have lq2 := kcellQ hbL q2; have lq3 := kcellQ hbL q3; have ls0 := kcellQ hbL s0; have ls1 := kcellQ hbL s1; have lt0 := kfrozenQ hbL s0 t0; have lt1 := kfrozenQ hbL s1 t1) | ((with_reducible refine (HHI.out _ (by assumption)).mono ?_); rintro e wH ⟨rfl, hbH⟩; have mq0 := kcellQ hbH q0; have mq1 := kcellQ hbH q1; have mq2 := kcellQ hbH q2; have mq3 := kcellQ hbH q3; have ms0 := kcellQ hbH s0; have ms1 := kcellQ hbH s1; have mt0 := kfrozenQ hbH s0 t0; have mt1 := kfrozenQ hbH s1 t1))
  all_goals
    have HBH := Lib.hid (bstep HB1.out (bstep HBn.out hbH))
    clear hbH hbL hD mq0 mq1 mq2 mq3 lq0 lq1 lq2 lq3 ls0 ls1 lt0 lt1 q0 q1 q2 q3 s0 s1 t0 t1
    go_wp2_with fail
    refine bodyPost_ret (v := .tuple #[.agg #[iv lo, iv hi], iv 0]) (by simp [results, Try.results8, go_sem, ms0, ms1]) rfl ?_
    exact ⟨o, HORD.out, by rw [HLH.out.1, HLH.out.2], bput (bput HBH.out (by simp) _) (by simp) _⟩
end Go.Proofs.Ytkialkfplhhenaa
