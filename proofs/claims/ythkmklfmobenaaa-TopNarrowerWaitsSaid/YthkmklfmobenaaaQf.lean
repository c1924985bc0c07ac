/- Turns: whether nobody waits for too long. -/
import Derived.Test.YthkmklfmobenaaaQe
namespace Go.Proofs.Ythkmklfmobenaaa
open Go Go.RowKit Go.Shelf
attribute [local go_sem] Oper.semAt_some

def patW (limit : Int) (l : List (Nat × Int)) : Bool := l.all fun p => decide (p.2 ≤ limit)
theorem patL_wait (C : List Ct) (limit : Int) (l : List (Nat × Int × Int)) : patL (coOf C) limit l = patW limit (l.map (waitV C)) := by
  simp only [patL, patW, List.all_map]; rfl

set_option maxRecDepth 20000 in
set_option maxHeartbeats 6400000 in
theorem patient_any (ca oa : Option Addr) (cc oc k : Nat) (rv : Value) (C : List Ct) (o : List Nat) (limit : Int) (w : World) (hq : QuIn w ca oa cc oc C o) (hk : QuOk C o k) :
    Calls Try.prog 27 #[qv (.slice ca C.length cc) rv k (.slice oa o.length oc), iv limit] w fun e w' => e = .returned (.bool (patW limit (waitL C k o))) ∧ Below w.heap.size w w' := by
  have hseq := waits_seq (fun j => j < w.heap.size) C o ca oa cc oc k rv w (fun j hj => hj) (fun W h => ⟨SliceOf.heapEq hq.cl (fun j hj => h.block j hj), SliceOf.heapEq hq.od (fun j hj => h.block j hj)⟩) hk
  have HSEQ := Lib.hid hseq
  clear hseq hq hk
  generalize waitL C k o = xs at *
  refine (callsIn_wide (n := 3)).1 ?_
  have hBa : Below w.heap.size w (((w.alloc (.cells #[.slice ca C.length cc, rv, iv k, .slice oa o.length oc] 73)).alloc (.cells #[iv limit] 3)).alloc (.cells #[.bool false] 4)) := (by repeat (first | exact Below.refl _ _ | refine Below.drew ?_ | refine bpush ?_ _ | refine bput ?_ (by simp) _ | (refine bstep ?_ (by assumption))))
  have hza : (((w.alloc (.cells #[.slice ca C.length cc, rv, iv k, .slice oa o.length oc] 73)).alloc (.cells #[iv limit] 3)).alloc (.cells #[.bool false] 4)).heap.size = w.heap.size + 3 := by simp
  have hla : (((w.alloc (.cells #[.slice ca C.length cc, rv, iv k, .slice oa o.length oc] 73)).alloc (.cells #[iv limit] 3)).alloc (.cells #[.bool false] 4)).heap[w.heap.size + 2]? = some (.cells #[.bool false] 4 (0, 0)) := by
    have := heap_new ((w.alloc (.cells #[.slice ca C.length cc, rv, iv k, .slice oa o.length oc] 73)).alloc (.cells #[iv limit] 3)) #[.bool false] 4
    simpa only [World.size_alloc] using this
  have hma : (((w.alloc (.cells #[.slice ca C.length cc, rv, iv k, .slice oa o.length oc] 73)).alloc (.cells #[iv limit] 3)).alloc (.cells #[.bool false] 4)).heap[w.heap.size + 1]? = some (.cells #[iv limit] 3 (0, 0)) := by
    rw [Below.heap_alloc _ _ _ (by simp)]
    have := heap_new (w.alloc (.cells #[.slice ca C.length cc, rv, iv k, .slice oa o.length oc] 73)) #[iv limit] 3
    simpa only [World.size_alloc] using this
  have HBa := Lib.hid hBa; have HZa := Lib.hid hza; have HLa := Lib.hid hla; have HMa := Lib.hid hma
  clear hBa hza hla hma
  refine callsIn_of_wp_marks Try.func27 rfl trivial ?_ rfl
  simp only [Try.ntmps27, List.size_toArray, List.length_cons, List.length_nil, Nat.reduceAdd, Nat.reduceSub, Array.replicate_succ, Array.replicate_zero, List.push_toArray, List.append_toArray, List.nil_append, List.cons_append]
  gi_wp2_with fail
  generalize (((w.alloc (.cells #[.slice ca C.length cc, rv, iv k, .slice oa o.length oc] 73)).alloc (.cells #[iv limit] 3)).alloc (.cells #[.bool false] 4)) = Wa at *
  have hza := HZa.out
  have hsq : SeqP Try.prog 44 #[qv (.slice ca C.length cc) rv k (.slice oa o.length oc)] #[] encW (fun j => j < w.heap.size) xs Wa := fun n l J Jx W hW => HSEQ.out n l J Jx W ((SameOn.of_below HBa.out (fun j hj => hj)).trans hW)
  have hg2 : ¬ w.heap.size + 1 = w.heap.size + 2 := by omega
  refine rangePB (gf := 44) (pb := #[qv (.slice ca C.length cc) rv k (.slice oa o.length oc)]) (lb := #[]) rfl (enters_of Try.func44 (by kernel_rfl) rfl) hsq (fun _ => rfl) (fun j hj => by omega) (fun j => j = w.heap.size + 2) (fun j hj => by omega) (fun j hj hx => by omega)
    (fun pre W => patW limit pre = true ∧ W.heap[w.heap.size + 2]? = some (.cells #[.bool false] 4 (0, 0))) (fun c W => c = .ret ∧ patW limit xs = false ∧ W.heap[w.heap.size + 2]? = some (.cells #[.bool false] 4 (0, 0)))
    (fun s W W' hi hx => ⟨hi.1, (hx _ rfl).trans hi.2⟩) (fun c W W' hi hx => ⟨hi.1, hi.2.1, (hx _ rfl).trans hi.2.2⟩) ⟨rfl, HLa.out⟩ ?round ?done ?stop
  case round =>
    rintro l pre ⟨c, hr⟩ W hpre htn ⟨hp, hi⟩ K hK
    have HK := Lib.hid hK; clear hK
    have HM := Lib.hid ((htn.same (w.heap.size + 1) (by omega) (by omega)).trans HMa.out)
    have hms : w.heap.size + 1 < W.heap.size := (Array.getElem?_eq_some_iff.1 HM.out).1
    have HN : Hid (patW limit (pre ++ [(c, hr)]) = (patW limit pre && decide (hr ≤ limit))) := by simp [Hid, patW]
    have HNx : Hid (hr > limit → patW limit xs = false) := fun h => by
      unfold patW
      rw [List.all_eq_false]
      exact ⟨_, mem_of_prefix hpre, by simp; omega⟩
    have HP := Lib.hid hp
    clear hpre htn hi hp
    unfold encW
    go_simp
    gi_wp2_with fail
    refine HK.out _ _ (Below.refl _ _) ?_
    clear HK
    rintro W2 ht2 ⟨-, hi2⟩ hs2 hcell
    have hm2 := hcell _ _ HM.out rfl
    have HI := Lib.hid hi2
    have c0 : W2.cell? ⟨w.heap.size + 2, 0, none⟩ = some (.bool false) := by rw [cell_of_row _ _ _ _ _ _ hi2]; rfl
    have f0 : W2.frozen? ⟨w.heap.size + 2, 0, none⟩ = false := by unfold World.frozen?; rw [hi2]; rfl
    have c1 : W2.cell? ⟨w.heap.size + 1, 0, none⟩ = some (iv limit) := by rw [cell_of_row _ _ _ _ _ _ hm2]; rfl
    clear ht2 hi2 hs2 hcell hm2 hms
    by_cases hgt : limit < hr
    · have HF := Lib.hid (HNx.out hgt)
      gi_wp2_with fail
      exact ⟨turn_setQ (T := fun j => j = w.heap.size + 2) rfl _ _, rfl, HF.out, heap_set1Q HI.out⟩
    · have HT : Hid (patW limit (pre ++ [(c, hr)]) = true) := by unfold Hid; rw [HN.out, HP.out]; simp; omega
      gi_wp2_with fail
      exact ⟨Turn.refl _ _, HT.out, HI.out⟩
  case done =>
    rintro W htn ⟨hp, hi⟩ hK
    have HT := Lib.hid htn; have HP := Lib.hid hp; have HI := Lib.hid hi
    have c0 : W.cell? ⟨w.heap.size + 2, 0, none⟩ = some (.bool false) := by rw [cell_of_row _ _ _ _ _ _ hi]; rfl
    have f0 : W.frozen? ⟨w.heap.size + 2, 0, none⟩ = false := by unfold World.frozen?; rw [hi]; rfl
    have HKD := Lib.hid hK
    clear htn hi hK hp
    gi_wp2_with fail
    have hK2 : (W.setCell ⟨w.heap.size + 2, 0, none⟩ (.bool true)).heap[Wa.heap.size]? = some (.deferred (some [])) := (Below.heap_setCell _ _ _ _ (by simp; omega)).trans HKD.out
    refine ⟨by simp, .inl ⟨_, _, rfl, run_takeDeferred hK2, ?_⟩⟩
    have hbel : Below w.heap.size w W := HBa.out.trans (HT.out.below (fun j hj => by omega) (by omega))
    refine ⟨_, results_cell1 Try.results27 _ rfl Try.underlying4 rfl (put_cell hK2 (World.cell?_setCell_same' _ _ _ (by rw [c0]; rfl))), ?_, put_below (bput hbel (by dsimp only; omega) _) (by omega)⟩
    rw [HP.out]
  case stop =>
    rintro c W htn ⟨rfl, hp, hi⟩ hK
    have HT := Lib.hid htn; have HP := Lib.hid hp
    have c0 : W.cell? ⟨w.heap.size + 2, 0, none⟩ = some (.bool false) := by rw [cell_of_row _ _ _ _ _ _ hi]; rfl
    have HKD := Lib.hid hK
    clear htn hi hK hp
    gi_wp2_with fail
    refine ⟨by simp, .inl ⟨_, _, rfl, run_takeDeferred HKD.out, ?_⟩⟩
    have hbel : Below w.heap.size w W := HBa.out.trans (HT.out.below (fun j hj => by omega) (by omega))
    refine ⟨_, results_cell1 Try.results27 _ rfl Try.underlying4 rfl (put_cell HKD.out c0), ?_, put_below hbel (by omega)⟩
    rw [HP.out]
end Go.Proofs.Ythkmklfmobenaaa
