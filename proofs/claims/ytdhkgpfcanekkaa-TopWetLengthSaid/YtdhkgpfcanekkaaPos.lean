/- quantity.possible of package cloth: whether a quantity has a truth. -/
import Derived.Test.YtdhkgpfcanekkaaTrs
namespace Go.Proofs.Ytdhkgpfcanekkaa
open Go Go.RowKit Go.Shelf
attribute [local go_sem] Oper.semAt_some

theorem SliceOf.heapEq {α : Type} {enc : α → List Value} {sz : Nat} {w w' : World} {v : Value} {xs : List α} (h : SliceOf enc sz w v xs) (hb : ∀ k, k < w.heap.size → w'.heap[k]? = w.heap[k]?) : SliceOf enc sz w' v xs := by
  obtain ⟨a, cap, rfl, hl, hc⟩ := h
  refine ⟨a, cap, rfl, hl, fun i x hx => ?_⟩
  obtain ⟨b, off, ha, hj⟩ := hc i x hx
  exact ⟨b, off, ha, fun j u hu => (World.cell?_of_block (hb b (lt_of_cell (hj j u hu)))).trans (hj j u hu)⟩
theorem low_cell {B : Nat} {W W' : World} (hb : Below B W W') {b o : Nat} {v : Value} (hB : b < B) (h : W.cell? ⟨b, o, none⟩ = some v) : W'.cell? ⟨b, o, none⟩ = some v := (hb.cell (p := ⟨b, o, none⟩) hB).trans h
theorem low_frozen {B : Nat} {W W' : World} (hb : Below B W W') {b o : Nat} (hB : b < B) {v : Bool} (h : W.frozen? ⟨b, o, none⟩ = v) : W'.frozen? ⟨b, o, none⟩ = v := (hb.frozen (p := ⟨b, o, none⟩) hB).trans h
theorem put_cell {W : World} {D : Nat} {ds : List Deferred} {o : Obj} (hK : W.heap[D]? = some (.deferred (some ds))) {a : Addr} {v : Value} (h : W.cell? a = some v) : (W.putObj D o).cell? a = some v := by
  refine (World.cell?_of_block (World.putObj_heap_other (fun e => ?_))).trans h
  unfold World.cell? at h; rw [e, hK] at h; cases h
theorem put_below {w W : World} {D : Nat} {o : Obj} (h : Below w.heap.size w W) (hD : w.heap.size ≤ D) : Below w.heap.size w (W.putObj D o) :=
  h.trans ⟨rfl, rfl, rfl, by simp, fun k hk => World.putObj_heap_other (by omega)⟩

theorem run_loadVar_one {P : Program} {w : World} {ty : TypeId} {a : Addr} {v : Value} {d : TypeDesc} (hu : P.underlying ty = some d) (hd : (match d with | .struct _ | .array _ _ => true | _ => false) = false) (hc : w.cell? a = some v) :
    (loadVar ty a).run P w = .ok v w := by
  have hagg : (isAgg ty).run P w = .ok false w := by
    unfold isAgg
    rw [Sem.run_bind, run_underlying hu w]
    cases d <;> simp_all
  simp [loadVar, Sem.run_bind, hagg, load, Sem.run, hc]
theorem results_cell1 {P : Program} {fn : Func} {w : World} {p : Tmp} {ty : TypeId} {a : Addr} {v : Value} {d : TypeDesc} (h : fn.results = #[.cell p ty]) (tmps : Array Value) (hp : tmps.getD p undef = .pointer (some a))
    (hu : P.underlying ty = some d) (hd : (match d with | .struct _ | .array _ _ => true | _ => false) = false) (hc : w.cell? a = some v) : (results fn tmps).run P w = .ok v w := by
  have hp' : tmps[p]?.getD undef = .pointer (some a) := by simpa using hp
  simp [results, h, hp', asAddr, run_loadVar_one hu hd hc]
/-- What a quantity's value is made of, and that it is valid. -/
structure QOk (t : Tk) (what : Int) (mv : Value) (M : List Ms) (w : World) : Prop where
  tk : vTrack t = true
  ms : M.all vMeas = true
  len : M.length ≤ 1000000
  sl : SliceOf encM 4 w mv M
theorem QOk.below {t : Tk} {what : Int} {mv : Value} {M : List Ms} {w w' : World} (h : QOk t what mv M w) (hb : Below w.heap.size w w') : QOk t what mv M w' := ⟨h.tk, h.ms, h.len, h.sl.below hb⟩

/-- The truths, from a box made behind w. -/
theorem truths_at {t : Tk} {what : Int} {mv : Value} {M : List Ms} {w W : World} (hq : QOk t what mv M w) (hb : Below w.heap.size w W) :
    SeqL Try.prog 39 #[.pointer (some ⟨W.heap.size, 0, none⟩)] (fun (p : Int × Int) => #[tval p.1 p.2]) (fun k => k < w.heap.size ∨ k = W.heap.size) (trs t what M) (W.alloc (.cells (qcells t what mv) 56)) := by
  refine truths_seq _ W.heap.size (.inr rfl) t what mv M hq.tk hq.ms hq.len _ (fun k hk => ?_) (heap_new _ _ _) (fun W' h => hq.sl.heapEq (fun k hk => ?_))
  · have := hb.size
    simp; omega
  · exact (h.block k (.inl hk)).trans ((Below.heap_alloc _ _ _ (Nat.lt_of_lt_of_le hk hb.size)).trans (hb.block k hk))

set_option maxRecDepth 20000 in
set_option maxHeartbeats 3200000 in
theorem possible_any (t : Tk) (what : Int) (mv : Value) (M : List Ms) (w : World) (hq : QOk t what mv M w) :
    Calls Try.prog 38 #[.agg (qcells t what mv)] w fun e w' => e = .returned (.bool (!(trs t what M).isEmpty)) ∧ Below w.heap.size w w' := by
  have HQ := Lib.hid hq; clear hq
  refine (callsIn_wide (n := 3)).1 ?_
  refine callsIn_of_wp_marks Try.func38 rfl trivial ?_ rfl
  simp only [Try.ntmps38, List.size_toArray, List.length_cons, List.length_nil, Nat.reduceAdd, Nat.reduceSub, Array.replicate_succ, Array.replicate_zero, List.push_toArray, List.append_toArray, List.nil_append, List.cons_append]
  gi_wp2_with ((with_reducible change wpListIn _ _ _ _ _ (Oper.mk _ (Op.load 56 _) _ _ _ _ :: _) _ _; refine LI_val rfl (fun c h => by cases h) (fun c h => by cases h) (run_load_row 56 _ rfl _ rfl 56 (qcells t what mv) _ ((Below.heap_alloc _ _ _ (by simp)).trans (heap_new _ _ _)) Try.underlying56 rfl (sinfo111 t what mv)) ?_))
  refine (callsIn_wide.2 (truths_any _ _)).mono ?_
  rintro e w' ⟨rfl, rfl⟩
  have hb : Below w.heap.size w ((w.alloc (.cells (qcells t what mv) 56)).alloc (.cells #[.bool false] 4)) := (by repeat (first | exact Below.refl _ _ | refine Below.drew ?_ | refine bpush ?_ _ | refine bput ?_ (by simp) _ | (refine bstep ?_ (by assumption))))
  have hsz : ((w.alloc (.cells (qcells t what mv) 56)).alloc (.cells #[.bool false] 4)).heap.size = w.heap.size + 2 := by simp
  have hseq := Lib.hid (truths_at HQ.out hb)
  have hc0 : ((w.alloc (.cells (qcells t what mv) 56)).alloc (.cells #[.bool false] 4)).cell? ⟨w.heap.size + 1, 0, none⟩ = some (.bool false) := by go_simp
  have hf0 : ((w.alloc (.cells (qcells t what mv) 56)).alloc (.cells #[.bool false] 4)).frozen? ⟨w.heap.size + 1, 0, none⟩ = false := by go_simp
  generalize ((w.alloc (.cells (qcells t what mv) 56)).alloc (.cells #[.bool false] 4)) = W0 at *
  have HZ := Lib.hid hsz; clear hsz
  gi_wp2_with fail
  have hzz := HZ.out
  have hz1 : (W0.alloc (.cells (qcells t what mv) 56)).heap.size = w.heap.size + 3 := by simp; omega
  refine rangeL (gf := 39) (lb := #[.pointer (some ⟨W0.heap.size, 0, none⟩)]) rfl (enters_of Try.func39 (by kernel_rfl) rfl)
    hseq.out (fun _ => rfl) (fun k hk => ?_)
    (fun _ pre W => pre = [] ∧ W.cell? ⟨w.heap.size + 1, 0, none⟩ = some (.bool false) ∧ W.frozen? ⟨w.heap.size + 1, 0, none⟩ = false ∧ Below w.heap.size w W)
    (fun c _ W => c = .ret ∧ trs t what M ≠ [] ∧ W.cell? ⟨w.heap.size + 1, 0, none⟩ = some (.bool true) ∧ Below w.heap.size w W)
    (fun s => Stable.of_low (fun W W' hB h hbl => ?_)) (fun c => Stable.of_low (fun W W' hB h hbl => ?_)) ?_ ?round ?done ?stop
  · simp; omega
  · exact ⟨h.1, low_cell hbl (by omega) h.2.1, low_frozen hbl (by omega) h.2.2.1, h.2.2.2.trans (hbl.mono (by omega))⟩
  · exact ⟨h.1, h.2.1, low_cell hbl (by omega) h.2.2.1, h.2.2.2.trans (hbl.mono (by omega))⟩
  · exact ⟨rfl, by rw [World.cell?_alloc_lt _ _ _ (by simp; omega)]; exact hc0, by rw [World.frozen?_of_block (w := W0) (Below.heap_alloc _ _ _ (by simp; omega))]; exact hf0, bpush hb _⟩
  case round =>
    rintro l T pre ⟨x, r⟩ W hTl hTs hsz hpre ⟨h1, h2, h3, h4⟩ K hK
    have HK := Lib.hid hK; clear hK
    have H4 := Lib.hid h4; clear h4
    have Hne : Hid (trs t what M ≠ []) := List.ne_nil_of_mem (mem_of_prefix hpre)
    clear h1 hpre
    go_simp
    gi_wp2_with fail
    refine HK.out _ _ (SameOn.refl _ _) ?_
    clear HK
    intro W2 hb2
    have e1 := (hb2.cell ⟨w.heap.size + 1, 0, none⟩).trans h2
    have e2 := (hb2.frozen ⟨w.heap.size + 1, 0, none⟩).trans h3
    have H5 := Lib.hid (H4.out.trans (hb2.turn.below (B := w.heap.size) (fun k hk => by have := hTl k hk; omega) (by omega)))
    have hTlow := Lib.hid hTl
    clear hb2 h2 h3 hTl hTs
    gi_wp2_with fail
    refine ⟨(SameOn.refl _ _).setCell ?_ _, rfl, Hne, World.cell?_setCell_same' _ _ _ (by rw [e1]; rfl), bput H5.out (by simp) _⟩
    rintro (h | h)
    · dsimp only at h; omega
    · have := hTlow.out _ h; dsimp only at this; omega
  case done =>
    rintro T W hTD hTl hsz ⟨h1, h2, h3, h4⟩ hK
    have h5 := Lib.hid h4; clear h4
    have h1' := Lib.hid h1; clear h1
    gi_wp2_with fail
    have hK2 : (W.setCell ⟨w.heap.size + 1, 0, none⟩ (.bool false)).heap[(W0.alloc (.cells (qcells t what mv) 56)).heap.size]? = some (.deferred (some [])) := (Below.heap_setCell _ _ _ _ (by simp; omega)).trans hK
    refine ⟨by simp, .inl ⟨_, _, rfl, run_takeDeferred hK2, ?_⟩⟩
    refine ⟨_, results_cell1 Try.results38 _ rfl Try.underlying4 rfl (put_cell hK2 (World.cell?_setCell_same' _ _ _ (by rw [h2]; rfl))), ?_, put_below (bput h5.out (by simp) _) (by omega)⟩
    rw [h1'.out]; rfl
  case stop =>
    rintro T c W hTD hTl hsz ⟨rfl, h1, h2, h3⟩ hK
    have H1 := Lib.hid h1; clear h1
    gi_wp2_with fail
    refine ⟨by simp, .inl ⟨_, _, rfl, run_takeDeferred hK, ?_⟩⟩
    refine ⟨_, results_cell1 Try.results38 _ rfl Try.underlying4 rfl (put_cell hK h2), ?_, put_below h3 (by omega)⟩
    have : (trs t what M).isEmpty = false := by simpa using H1.out
    rw [this]; rfl
end Go.Proofs.Ytdhkgpfcanekkaa
