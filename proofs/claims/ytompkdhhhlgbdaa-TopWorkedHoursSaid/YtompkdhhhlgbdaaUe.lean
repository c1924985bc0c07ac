/- quantity.hoursIn of package cloth. -/
import Derived.Test.YtompkdhhhlgbdaaBhr
import Derived.Test.YtompkdhhhlgbdaaSj
namespace Go.Proofs.Ytompkdhhhlgbdaa
open Go Go.RowKit Go.Shelf
attribute [local go_sem] Oper.semAt_some

/-- A row of 49 answers. -/
def crow (f : Nat → Bool) : Array Value := Array.ofFn (n := 49) fun i => .bool (f i.val)
theorem crow_get (f : Nat → Bool) (i : Nat) : (crow f)[i]? = if i < 49 then some (.bool (f i)) else none := by
  simp only [crow, Array.getElem?_ofFn]
  split <;> rfl
theorem crow_size (f : Nat → Bool) : (crow f).size = 49 := by simp [crow]
theorem crow_congr {f g : Nat → Bool} (h : ∀ j, j < 49 → f j = g j) : crow f = crow g := by
  apply Array.ext_getElem?
  intro i
  rw [crow_get, crow_get]
  split
  · rw [h i (by omega)]
  · rfl
theorem crow_at (f : Nat → Bool) {j : Nat} (hj : j < 49) : (crow f)[j]? = some (.bool (f j)) := by rw [crow_get, if_pos hj]
theorem crow_set (f : Nat → Bool) {j : Nat} (b : Bool) (hj : j < 49) : (crow f).setIfInBounds j (.bool b) = crow (fun k => if k = j then b else f k) := by
  apply Array.ext_getElem?
  intro i
  simp only [Array.getElem?_setIfInBounds, crow_size, crow_get]
  by_cases h : j = i
  · subst h; rw [if_pos rfl, if_pos hj, if_pos hj, if_pos rfl]
  · rw [if_neg h, if_neg (fun e : i = j => h e.symm)]
theorem crow_one (f : Nat → Bool) : (crow f).all (·.oneCell') = true := by
  rw [Array.all_eq_true]
  intro i hi
  have h := crow_get f i
  rw [Array.getElem?_eq_getElem hi] at h
  rw [crow_size] at hi
  rw [if_pos hi] at h
  rw [Option.some.inj h]
  rfl
def zeroC : Array Value := Array.replicate 49 (.bool false)
theorem zeroC_eq : zeroC = crow (fun _ => false) := by
  apply Array.ext_getElem?
  intro i
  rw [crow_get, zeroC, Array.getElem?_replicate]
theorem zinfoC : (Try.prog.info? 113).map (·.zero) = some (some (.agg (crow (fun _ => false)))) := by rw [← zeroC_eq]; kernel_rfl
theorem sinfoC (f : Nat → Bool) : (Try.prog.info? 113).map (·.size) = some (crow f).size := by rw [crow_size]; kernel_rfl
theorem crow_sz (f g : Nat → Bool) : (crow f).size = (crow g).size := by rw [crow_size, crow_size]

/-- Whether a truth's size at an hour lies in a span. -/
def canF (lo hi : Int) (L : List (Int × Int)) (j : Nat) : Bool := L.any fun p => inB lo hi (aft p.1 p.2 j)
theorem canF_snoc (lo hi : Int) (L : List (Int × Int)) (x r : Int) (j : Nat) : canF lo hi (L ++ [(x, r)]) j = (canF lo hi L j || inB lo hi (aft x r j)) := by simp [canF]
theorem csucc (lo hi : Int) (L : List (Int × Int)) (x r : Int) {k : Nat} (hk : k < 49) {b : Bool} (hb : b = (canF lo hi L k || inB lo hi (aft x r k))) :
    (crow fun j => if j < k then canF lo hi (L ++ [(x, r)]) j else canF lo hi L j).setIfInBounds k (.bool b) = crow fun j => if j < k + 1 then canF lo hi (L ++ [(x, r)]) j else canF lo hi L j := by
  rw [crow_set _ _ hk]
  apply crow_congr
  intro j _
  by_cases h : j = k
  · subst h; rw [if_pos rfl, if_pos (by omega), canF_snoc, hb]
  · rw [if_neg h]
    by_cases h2 : j < k
    · rw [if_pos h2, if_pos (by omega)]
    · rw [if_neg h2, if_neg (by omega)]
theorem turn_put {T : Nat → Prop} {W : World} {b : Nat} (hb : T b) (o : Nat) (v : Value) : Turn T W (W.setCell ⟨b, o, none⟩ v) :=
  ⟨rfl, rfl, rfl, by simp [World.setCell], fun k _ hk => Below.heap_setCell _ _ _ _ (fun e => hk (e ▸ hb))⟩

set_option maxRecDepth 20000 in
set_option maxHeartbeats 6400000 in
theorem hoursIn_any (t : Tk) (what : Int) (mv : Value) (M : List Ms) (lo hi : Int) (w : World) (hq : QOk t what mv M w) :
    Calls Try.prog 51 #[.agg (qcells t what mv), .agg #[iv lo, iv hi]] w fun e w' => e = .returned (.agg (crow (canF lo hi (trs t what M)))) ∧ Below w.heap.size w w' := by
  have HQ := Lib.hid hq
  clear hq
  refine (callsIn_wide (n := 3)).1 ?_
  refine callsIn_of_wp_marks Try.func51 rfl trivial ?_ rfl
  simp only [Try.ntmps51, List.size_toArray, List.length_cons, List.length_nil, Nat.reduceAdd, Nat.reduceSub, Array.replicate_succ, Array.replicate_zero, List.push_toArray, List.append_toArray, List.nil_append, List.cons_append]
  gi_wp2_with (first | (with_reducible change wpListIn _ _ _ _ _ (Oper.mk _ (Op.load 83 _) _ _ _ _ :: _) _ _; refine LI_val rfl (fun c h => by cases h) (fun c h => by cases h) (run_load_row 83 _ rfl _ rfl 83 (qcells t what mv) _ ((Below.heap_alloc _ _ _ (by simp; omega)).trans ((Below.heap_alloc _ _ _ (by simp; omega)).trans ((Below.heap_alloc _ _ _ (by simp)).trans (heap_new _ _ _)))) Try.underlying83 rfl (sinfo111 t what mv)) ?_) | (with_reducible change wpListIn _ _ _ _ _ (Oper.mk _ (Op.alloc 113) _ _ _ _ :: _) _ _; refine LI_val rfl (fun c h => by cases h) (fun c h => by cases h) (run_alloc_row 113 (crow (fun _ => false)) zinfoC rfl) ?_))
  refine (callsIn_wide.2 (truths_any _ _)).mono ?_
  rintro e w' ⟨rfl, rfl⟩
  have hb1 : Below w.heap.size w ((((w.alloc (.cells (qcells t what mv) 83)).alloc (.cells #[iv lo, iv hi] 36)).alloc (.cells (crow (fun _ => false)) 113)).alloc (.cells (crow (fun _ => false)) 113)) := (by repeat (first | exact Below.refl _ _ | refine Below.drew ?_ | refine bpush ?_ _ | refine bput ?_ (by simp) _ | (refine bstep ?_ (by assumption))))
  have hz1 : ((((w.alloc (.cells (qcells t what mv) 83)).alloc (.cells #[iv lo, iv hi] 36)).alloc (.cells (crow (fun _ => false)) 113)).alloc (.cells (crow (fun _ => false)) 113)).heap.size = w.heap.size + 4 := by simp
  have hrs : ((((w.alloc (.cells (qcells t what mv) 83)).alloc (.cells #[iv lo, iv hi] 36)).alloc (.cells (crow (fun _ => false)) 113)).alloc (.cells (crow (fun _ => false)) 113)).heap[w.heap.size + 1]? = some (.cells #[iv lo, iv hi] 36 (0, 0)) := by
    rw [Below.heap_alloc _ _ _ (by simp <;> omega)]; exact heapC (by simp)
  have hr2 : ((((w.alloc (.cells (qcells t what mv) 83)).alloc (.cells #[iv lo, iv hi] 36)).alloc (.cells (crow (fun _ => false)) 113)).alloc (.cells (crow (fun _ => false)) 113)).heap[w.heap.size + 1 + 1]? = some (.cells (crow (fun _ => false)) 113 (0, 0)) := heapC (by simp)
  have hr3 : ((((w.alloc (.cells (qcells t what mv) 83)).alloc (.cells #[iv lo, iv hi] 36)).alloc (.cells (crow (fun _ => false)) 113)).alloc (.cells (crow (fun _ => false)) 113)).heap[w.heap.size + 1 + 1 + 1]? = some (.cells (crow (fun _ => false)) 113 (0, 0)) := heapA (by simp)
  generalize ((((w.alloc (.cells (qcells t what mv) 83)).alloc (.cells #[iv lo, iv hi] 36)).alloc (.cells (crow (fun _ => false)) 113)).alloc (.cells (crow (fun _ => false)) 113)) = W1 at *
  have HB1 := Lib.hid hb1; clear hb1
  have HZ1 := Lib.hid hz1; clear hz1
  have HRS := Lib.hid hrs; clear hrs
  have HR2 := Lib.hid hr2; clear hr2
  have HR3 := Lib.hid hr3; clear hr3
  gi_wp2_with fail
  have hzz := HZ1.out
  have hseq := truths_at HQ.out HB1.out
  refine rangeB (gf := 75) (lb := #[.pointer (some ⟨W1.heap.size, 0, none⟩)]) rfl (enters_of Try.func75 (by kernel_rfl) rfl)
    hseq (fun _ => rfl) (fun k hk => ?_) (fun k => k = w.heap.size + 1 + 1 + 1) (fun k hk => ?_) (fun k hk hx => ?_)
    (fun pre W => W.heap[w.heap.size + 1 + 1 + 1]? = some (.cells (crow (canF lo hi pre)) 113 (0, 0))) (fun _ _ => False)
    (fun s W W' hi hx => (hx _ rfl).trans hi) (fun _ _ _ h => h.elim) ?_ ?round ?done ?stop
  · simp; omega
  · simp; omega
  · omega
  · exact (Below.heap_alloc _ _ _ (by omega)).trans HR3.out
  case stop =>
    rintro c W _ hf _
    exact hf.elim
  case round =>
    rintro l pre ⟨x, r⟩ W hpre htn hi1 K hK
    have HK := Lib.hid hK; clear hK
    go_simp
    gi_step
    gi_step
    refine LI_val rfl (fun c h => by cases h) (fun c h => by cases h) (run_alloc_row 91 zeroT zinfo120 rfl) ?_
    refine LI_skip rfl (fun c h => by cases h) (fun c h => by cases h) (run_store_row 91 _ _ rfl W.heap.size ?_ (tvals x r) ?_ 91 zeroT ?_ ?_ ?_ ?_) ?_
    · rfl
    · rfl
    · exact heap_new _ _ _
    · exact sinfoV _ _
    · rw [tvals_size, zeroT_size]
    · exact tpart_one _ _ _
    gi_wp2_with fail
    go_simp
    refine HK.out _ _ (bpush (Below.refl _ _) _) ?_
    clear HK
    intro W2 ht2 hj1 hs2 hcell
    have hT4 := hcell W.heap.size _ (heap_new W (tvals x r) 91) rfl
    have HSP := Lib.hid ((ht2.same (w.heap.size + 1) (by simp; omega) (by omega)).trans ((Below.heap_alloc _ _ _ (by omega)).trans HRS.out))
    have HJ1 := Lib.hid hj1; clear hj1
    have HT4 := Lib.hid hT4; clear hT4
    clear hcell htn hi1 ht2 hseq hpre
    gi_wp2_with (with_reducible change wpListIn _ _ _ _ _ (Oper.mk _ (Op.load 89 _) _ _ _ _ :: _) _ _; refine LI_val rfl (fun c h => by cases h) (fun c h => by cases h) (run_load_sizes _ rfl W.heap.size rfl 91 x r HT4.out) ?_)
    gi_loopw [14, 7, 8] (fun i _ _ wr => ∃ k : Nat, k ≤ 49 ∧ i = iv k ∧ wr.heap[w.heap.size + 1 + 1 + 1]? = some (.cells (crow fun j => if j < k then canF lo hi (pre ++ [(x, r)]) j else canF lo hi pre j) 113 (0, 0)) ∧ Turn (fun k => k = w.heap.size + 1 + 1 + 1) W2 wr) (fun i _ _ _ => 49 - (intOf i).toNat)
    case atStart => exact ⟨0, by omega, rfl, by rw [HJ1.out]; rfl, Turn.refl _ _⟩
    case round =>
      obtain ⟨k, hk, rfl, hb, htw⟩ := hrel
      have HB := Lib.hid hb; clear hb
      have HTW := Lib.hid htw; clear htw
      by_cases hlt : k < 49
      · have hidx := index_sz x r hlt
        have hlt' : (k : Int) < 49 := by omega
        have hk0 : (0 : Int) ≤ (k : Int) := by omega
        have c0 : wr.cell? ⟨w.heap.size + 1 + 1 + 1, k, none⟩ = some (.bool (canF lo hi pre k)) := by
          rw [cell_of_row _ _ _ _ _ _ HB.out, crow_at _ hlt, if_neg (by omega)]
        have f0 : wr.frozen? ⟨w.heap.size + 1 + 1 + 1, k, none⟩ = false := frozen_of_row _ _ _ _ _ HB.out
        have hsp := (HTW.out.same (w.heap.size + 1) (Array.getElem?_eq_some_iff.1 HSP.out).1 (by omega)).trans HSP.out
        have s0 : wr.cell? ⟨w.heap.size + 1, 0, none⟩ = some (iv lo) := by rw [cell_of_row _ _ _ _ _ _ hsp]; rfl
        have s1 : wr.cell? ⟨w.heap.size + 1, 1, none⟩ = some (iv hi) := by rw [cell_of_row _ _ _ _ _ _ hsp]; rfl
        have l1 : w.heap.size + 1 + 1 + 1 < wr.heap.size := lt_of_cell c0
        clear hsp
        cases hcb : canF lo hi pre k
        · rw [hcb] at c0
          have HN := Lib.hid (csucc lo hi pre x r hlt (b := inB lo hi (aft x r k)) (by rw [hcb]; rfl))
          clear hcb
          gi_wp2_with fail
          refine (CallsIn.inRound l (callsIn_wide.2 (within1 lo hi (aft x r k) (by go_simp)))).mono ?_
          rintro e w2 ⟨rfl, rfl⟩
          gi_wp2_with fail
          refine ⟨⟨k + 1, by omega, by go_num, ?_, (HTW.out.trans (turn_put (T := fun k => k = w.heap.size + 1 + 1 + 1) rfl k _)).trans (Turn.of_below (bpush (Below.refl _ _) _))⟩, by simp [intOf]; omega⟩
          rw [← HN.out]
          exact (Below.heap_alloc _ _ _ (by simpa [World.setCell] using l1)).trans (heap_setCell_same _ _ k _ _ _ HB.out)
        · rw [hcb] at c0
          have HN := Lib.hid (csucc lo hi pre x r hlt (b := true) (by rw [hcb]; rfl))
          clear hcb
          gi_wp2_with fail
          refine ⟨⟨k + 1, by omega, by go_num, ?_, HTW.out.trans (turn_put (T := fun k => k = w.heap.size + 1 + 1 + 1) rfl k _)⟩, by simp [intOf]; omega⟩
          rw [← HN.out]
          exact heap_setCell_same _ _ k _ _ _ HB.out
      · obtain rfl : k = 49 := by omega
        gi_wp2_with fail
        refine ⟨HTW.out, ?_⟩
        show wr.heap[w.heap.size + 1 + 1 + 1]? = _
        rw [HB.out, crow_congr (g := canF lo hi (pre ++ [(x, r)])) (fun j hj => by rw [if_pos hj])]
  case done =>
    rintro W htn hi1 hK
    have HI := Lib.hid hi1; clear hi1
    have HTN := Lib.hid htn; clear htn
    have HK := Lib.hid hK; clear hK
    have hr2 := Lib.hid ((HTN.out.same (w.heap.size + 1 + 1) (by simp; omega) (by omega)).trans ((Below.heap_alloc _ _ _ (by omega)).trans HR2.out))
    clear hseq
    gi_wp2_with (first | (with_reducible change wpListIn _ _ _ _ _ (Oper.mk _ (Op.load 113 _) _ _ _ _ :: _) _ _; refine LI_val rfl (fun c h => by cases h) (fun c h => by cases h) (run_load_row 113 _ rfl _ rfl 113 (crow (canF lo hi (trs t what M))) _ HI.out Try.underlying113 rfl (sinfoC _)) ?_) | (with_reducible change wpListIn _ _ _ _ _ (Oper.mk _ (Op.store 113 _ _) _ _ _ _ :: _) _ _; refine LI_skip rfl (fun c h => by cases h) (fun c h => by cases h) (run_store_row 113 _ _ rfl _ rfl (crow (canF lo hi (trs t what M))) rfl 113 _ hr2.out (sinfoC _) (crow_sz _ _) (crow_one _)) ?_))
    have hD : (W.setRow (w.heap.size + 1 + 1) (crow (canF lo hi (trs t what M)))).heap[(W1.alloc (.cells (qcells t what mv) 83)).heap.size]? = some (.deferred (some [])) := (heap_setRow_other _ _ _ _ (by simp; omega)).trans HK.out
    refine ⟨by simp, .inl ⟨_, _, rfl, run_takeDeferred hD, ?_⟩⟩
    have hrow : ((W.setRow (w.heap.size + 1 + 1) (crow (canF lo hi (trs t what M)))).putObj (W1.alloc (.cells (qcells t what mv) 83)).heap.size (.deferred none)).heap[w.heap.size + 1 + 1]? = some (.cells (crow (canF lo hi (trs t what M))) 113 (0, 0)) := (World.putObj_heap_other (by simp; omega)).trans (heap_setRow_same hr2.out)
    refine ⟨_, results_cell_row (fn := Try.f51) Try.results51 _ _ (w.heap.size + 1 + 1) 113 (crow (canF lo hi (trs t what M))) (0, 0) _ rfl hrow Try.underlying113 rfl (sinfoC _), rfl, put_below (bsetRow ?_ (by omega) _) (by simp; omega)⟩
    exact ((bpush HB1.out _).trans (HTN.out.below (B := w.heap.size) (fun k hk => by omega) (by simp; omega)))
end Go.Proofs.Ytompkdhhhlgbdaa
