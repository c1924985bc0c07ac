/- How late a cloth can be hung: the calls from outside, at valid fields. -/
import Derived.Test.YtiellodbdidgoaaGc
namespace Go.Proofs.Ytiellodbdidgoaa
open Go Go.RowKit Go.Shelf
attribute [local go_sem ↓] Go.wp_at_zero Go.wp_at_succ

set_option maxHeartbeats 400000 in
theorem validNum_any (k n : Nat) (w : World) (hn : n ≤ 1000) :
    Calls Try.prog 20 #[iv k, iv n] w fun e w' => e = .returned (.bool (inB 0 ((n : Int) - 1) k)) ∧ Below w.heap.size w w' := by
  have hw : IntKind.i64.wrap ((n : Int) - 1) = (n : Int) - 1 := IntWalk.i64_in _ ⟨by omega, by omega⟩
  go_enter Try.func20, Try.ntmps20
  go_wp2_with fail
  refine (within1 0 ((n : Int) - 1) k (by go_simp)).mono ?_
  rintro e w3 ⟨rfl, rfl⟩
  go_wp2_with fail
  go_ret
  exact ⟨rfl, (by repeat (first | exact Below.refl _ _ | refine Below.drew ?_ | refine bpush ?_ _ | refine bput ?_ (by simp) _ | (refine bstep ?_ (by assumption))))⟩
theorem sinfoDr (cs : Array Value) (h : cs.size = 5) : (Try.prog.info? 66).map (·.size) = some cs.size := by rw [h]; kernel_rfl
def zdr : Array Value := #[.slice none 0 0, .slice none 0 0, iv 0, iv 0, .slice none 0 0]

/-- What there is when a call of a field in some weather begins. -/
structure FdIn (C : List Tn) (R : List Int) (gap str : Int) (S : List Sp) (ca ra wa : Option Addr) (cc rc wc : Nat) (w : World) : Prop where
  cl : SliceOf encN 4 w (.slice ca C.length cc) C
  fr : Ints w (.slice ra R.length rc) R
  we : SliceOf encS 2 w (.slice wa S.length wc) S
theorem FdIn.below {C : List Tn} {R : List Int} {gap str : Int} {S : List Sp} {ca ra wa : Option Addr} {cc rc wc : Nat} {w w' : World} (h : FdIn C R gap str S ca ra wa cc rc wc w) (hb : Below w.heap.size w w') : FdIn C R gap str S ca ra wa cc rc wc w' :=
  ⟨h.cl.below hb, h.fr.below hb, h.we.below hb⟩
/-- A valid field in valid weather. -/
structure FdOk (C : List Tn) (R : List Int) (gap str : Int) (S : List Sp) : Prop where
  ck : fdChk ⟨C, R, gap, str⟩ = 0
  sl : 1 ≤ S.length ∧ S.length ≤ 24
  sv : S.all vWth = true
theorem FdOk.len {C : List Tn} {R : List Int} {gap str : Int} {S : List Sp} (h : FdOk C R gap str S) : C.length ≤ 7 := (fdChk_zero h.ck).1
theorem FdOk.tn {C : List Tn} {R : List Int} {gap str : Int} {S : List Sp} (h : FdOk C R gap str S) {k : Nat} {c : Tn} (hk : C[k]? = some c) : vTn c = true := by
  have := (fdChk_zero h.ck).2.2
  simp only [vFd, Bool.and_eq_true, List.all_eq_true] at this
  exact this.1 c (List.mem_of_getElem? hk)

set_option maxRecDepth 20000 in
set_option maxHeartbeats 3200000 in
theorem fdOpen_good (C : List Tn) (R : List Int) (gap str : Int) (S : List Sp) (ca ra wa : Option Addr) (cc rc wc hour : Nat) (w : World) (hI : FdIn C R gap str S ca ra wa cc rc wc w) (hok : FdOk C R gap str S) (hh : hour ≤ S.length) :
    Calls Try.prog 19 #[.agg #[.slice ca C.length cc, .slice ra R.length rc, iv gap, iv str], .slice wa S.length wc, iv hour] w fun e w' => e = .returned (.tuple #[.agg #[.slice ca C.length cc, .slice ra R.length rc, iv gap, iv str, .slice wa S.length wc], iv 0]) ∧ Below w.heap.size w w' := by
  have HI := Lib.hid hI
  have HC := Lib.hid (fun (W : World) (h : FdIn C R gap str S ca ra wa cc rc wc W) => by have := fdCheck_any C R gap str ca ra cc rc W h.cl h.fr; rw [hok.ck] at this; exact this)
  have HA := Lib.hid (fun (W : World) (h : FdIn C R gap str S ca ra wa cc rc wc W) => by have := allW_any S _ W h.we; rw [hok.sv] at this; exact this)
  have H1 : Hid (inB 1 24 (S.length : Int) = true) := by have := hok.sl; exact inB_iff.2 ⟨by omega, by omega⟩
  have H2 : Hid (inB 0 (S.length : Int) (hour : Int) = true) := inB_iff.2 ⟨by omega, by omega⟩
  have HSI := Lib.hid (sinfoDr #[.slice ca C.length cc, .slice ra R.length rc, iv gap, iv str, .slice wa S.length wc] rfl)
  have HON : Hid (#[.slice ca C.length cc, .slice ra R.length rc, iv gap, iv str, .slice wa S.length wc].all (fun v : Value => v.oneCell') = true) := by simp [Hid, Value.oneCell']
  clear hI hok hh
  go_enter Try.func19, Try.ntmps19
  go_wp2_with fail
  refine (HC.out _ (HI.out.below (by repeat (first | exact Below.refl _ _ | refine Below.drew ?_ | refine bpush ?_ _ | refine bput ?_ (by simp) _ | (refine bstep ?_ (by assumption)))))).mono ?_
  rintro e w1 ⟨rfl, hb⟩
  have hr1 := Lib.hid ((hb.block (w.heap.size + 1) (by simp)).trans (by have := heap_new (w.alloc (.cells #[.slice ca C.length cc, .slice ra R.length rc, iv gap, iv str] 43)) zdr 66; simp only [World.size_alloc] at this; exact this))
  have HB := Lib.hid (show Below w.heap.size w w1 from bstep (by repeat (first | exact Below.refl _ _ | refine Below.drew ?_ | refine bpush ?_ _ | refine bput ?_ (by simp) _ | (refine bstep ?_ (by assumption)))) hb)
  obtain ⟨hbc, hbf⟩ := bcell hb
  have hbz := hb.size
  simp [Nat.add_one_le_iff] at hbz
  clear hb
  have hlt0 : w.heap.size < w1.heap.size := by omega
  go_wp2_with fail
  refine (within1 1 24 (S.length : Int) (by go_simp)).mono ?_
  rintro e w3 ⟨he, rfl⟩; rw [H1.out] at he; subst he
  go_wp2_with fail
  refine (HA.out _ (HI.out.below (bstep HB.out (by repeat (first | exact Below.refl _ _ | refine Below.drew ?_ | refine bpush ?_ _ | refine bput ?_ (by simp) _ | (refine bstep ?_ (by assumption))))))).mono ?_
  rintro e w2 ⟨rfl, hb2⟩
  have hr2 := Lib.hid ((hb2.block (w.heap.size + 1) (by simp; omega)).trans ((Below.heap_alloc _ _ _ (by omega)).trans hr1.out))
  have c20 : w2.cell? ⟨w.heap.size, 0, none⟩ = some (.slice ca C.length cc) := (hb2.cell (p := ⟨w.heap.size, 0, none⟩) (by simp; omega)).trans (by go_simp)
  have c21 : w2.cell? ⟨w.heap.size, 1, none⟩ = some (.slice ra R.length rc) := (hb2.cell (p := ⟨w.heap.size, 1, none⟩) (by simp; omega)).trans (by go_simp)
  have c22 : w2.cell? ⟨w.heap.size, 2, none⟩ = some (iv gap) := (hb2.cell (p := ⟨w.heap.size, 2, none⟩) (by simp; omega)).trans (by go_simp)
  have c23 : w2.cell? ⟨w.heap.size, 3, none⟩ = some (iv str) := (hb2.cell (p := ⟨w.heap.size, 3, none⟩) (by simp; omega)).trans (by go_simp)
  have HB2 := Lib.hid (bstep (bstep HB.out (by repeat (first | exact Below.refl _ _ | refine Below.drew ?_ | refine bpush ?_ _ | refine bput ?_ (by simp) _ | (refine bstep ?_ (by assumption))))) hb2)
  have hz2 := hb2.size
  simp at hz2
  clear hb2
  have hlt2 : w.heap.size < w2.heap.size := by omega
  go_wp2_with fail
  refine (within1 0 (S.length : Int) hour (by go_simp)).mono ?_
  rintro e w3 ⟨he, rfl⟩; rw [H2.out] at he; subst he
  go_wp2_with (with_reducible change wpList _ _ _ (Oper.mk _ (Op.store 66 _ _) _ _ _ _ :: _) _ _; refine L_skip rfl (run_store_row 66 _ _ rfl _ rfl #[.slice ca C.length cc, .slice ra R.length rc, iv gap, iv str, .slice wa S.length wc] rfl 66 zdr ((Below.heap_alloc _ _ _ (by omega)).trans hr2.out) HSI.out rfl HON.out) ?_)
  exact bodyPost_ret (results_row_tmp (fn := Try.f19) Try.results19 _ rfl (heap_setRow_same ((Below.heap_alloc _ _ _ (by omega)).trans hr2.out)) Try.underlying66 rfl HSI.out) rfl ⟨rfl, bsetRow (bstep HB2.out (by repeat (first | exact Below.refl _ _ | refine Below.drew ?_ | refine bpush ?_ _ | refine bput ?_ (by simp) _ | (refine bstep ?_ (by assumption))))) (by omega) _⟩

def lateV : Option Nat → Value
  | some h => .tuple #[iv h, iv 0]
  | none => .tuple #[iv 0, iv 9]
set_option maxRecDepth 20000 in
set_option maxHeartbeats 3200000 in
theorem Late_good (C : List Tn) (R : List Int) (gap str : Int) (S : List Sp) (ca ra wa : Option Addr) (cc rc wc k rain : Nat) (c : Tn) (w : World) (hI : FdIn C R gap str S ca ra wa cc rc wc w) (hok : FdOk C R gap str S) (hh : rain ≤ S.length) (hk : C[k]? = some c) :
    Calls Try.prog 9 #[.agg #[.slice ca C.length cc, .slice ra R.length rc, iv gap, iv str], .slice wa S.length wc, iv k, iv rain] w fun e w' => e = .returned (lateV (lateO c S rain)) ∧ Below w.heap.size w w' := by
  have HI := Lib.hid hI
  have HO := Lib.hid (fun (W : World) (h : FdIn C R gap str S ca ra wa cc rc wc W) => fdOpen_good C R gap str S ca ra wa cc rc wc rain W h hok hh)
  have HL := Lib.hid (fun (W : World) (h : FdIn C R gap str S ca ra wa cc rc wc W) => late_any C ca ra wa cc R.length rc wc k gap str rain S c W h.cl hk h.we hok.sv hok.sl.2 hh (hok.tn hk))
  have H1 : Hid (inB 0 ((C.length : Int) - 1) (k : Int) = true) := by have := (List.getElem?_eq_some_iff.1 hk).1; exact inB_iff.2 ⟨by omega, by omega⟩
  have hlen := hok.len
  have HN := Lib.hid (fun (W : World) => by have := validNum_any k C.length W (by omega); rw [H1.out] at this; exact this)
  clear hI hok hh hk hlen
  go_enter Try.func9, Try.ntmps9
  go_wp2_with fail
  refine (HO.out _ (HI.out.below (by repeat (first | exact Below.refl _ _ | refine Below.drew ?_ | refine bpush ?_ _ | refine bput ?_ (by simp) _ | (refine bstep ?_ (by assumption)))))).mono ?_
  rintro e w1 ⟨rfl, hb⟩
  have HB := Lib.hid (show Below w.heap.size w w1 from bstep (by repeat (first | exact Below.refl _ _ | refine Below.drew ?_ | refine bpush ?_ _ | refine bput ?_ (by simp) _ | (refine bstep ?_ (by assumption)))) hb)
  obtain ⟨hbc, hbf⟩ := bcell hb
  have hbz := hb.size
  simp [Nat.add_one_le_iff] at hbz
  clear hb
  have hlt0 : w.heap.size < w1.heap.size := by omega
  go_wp2_with fail
  refine (HN.out _).mono ?_
  rintro e w2 ⟨rfl, hb2⟩
  have HB2 := Lib.hid (bstep (bstep HB.out (by repeat (first | exact Below.refl _ _ | refine Below.drew ?_ | refine bpush ?_ _ | refine bput ?_ (by simp) _ | (refine bstep ?_ (by assumption))))) hb2)
  obtain ⟨hb2c, hb2f⟩ := bcell hb2
  have hb2z := hb2.size
  simp [Nat.add_one_le_iff] at hb2z
  clear hb2
  go_wp2_with fail
  refine (HL.out _ (HI.out.below HB2.out)).mono ?_
  rintro e w3 ⟨rfl, hb3⟩
  have HB3 := Lib.hid (bstep HB2.out hb3)
  clear hb3
  cases hL : lateO c S rain
  · have HV := Lib.hid hL; clear hL
    unfold foundV
    go_wp2_with fail
    go_ret2
    exact ⟨by rw [HV.out]; rfl, HB3.out⟩
  · have HV := Lib.hid hL; clear hL
    unfold foundV
    go_wp2_with fail
    go_ret2
    exact ⟨by rw [HV.out]; rfl, HB3.out⟩
end Go.Proofs.Ytiellodbdidgoaa
