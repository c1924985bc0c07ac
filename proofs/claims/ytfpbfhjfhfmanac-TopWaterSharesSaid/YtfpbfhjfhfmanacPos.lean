/- quantity.possible of package cloth: whether a quantity has a truth. -/
import Derived.Test.YtfpbfhjfhfmanacTrs
namespace Go.Proofs.Ytfpbfhjfhfmanac
open Go Go.RowKit Go.Shelf
attribute [local go_sem] Oper.semAt_some

theorem SliceOf.heapEq {α : Type} {enc : α → List Value} {sz : Nat} {w w' : World} {v : Value} {xs : List α} (h : SliceOf enc sz w v xs) (hb : ∀ k, k < w.heap.size → w'.heap[k]? = w.heap[k]?) : SliceOf enc sz w' v xs := by
  obtain ⟨a, cap, rfl, hl, hc⟩ := h
  refine ⟨a, cap, rfl, hl, fun i x hx => ?_⟩
  obtain ⟨b, off, ha, hj⟩ := hc i x hx
  exact ⟨b, off, ha, fun j u hu => (World.cell?_of_block (hb b (lt_of_cell (hj j u hu)))).trans (hj j u hu)⟩
theorem low_cell {B : Nat} {W W' : World} (hb : Below B W W') {b o : Nat} {v : Value} (hB : b < B) (h : W.cell? ⟨b, o, none⟩ = some v) : W'.cell? ⟨b, o, none⟩ = some v := (hb.cell (p := ⟨b, o, none⟩) hB).trans h
theorem low_frozen {B : Nat} {W W' : World} (hb : Below B W W') {b o : Nat} (hB : b < B) {v : Bool} (h : W.frozen? ⟨b, o, none⟩ = v) : W'.frozen? ⟨b, o, none⟩ = v := (hb.frozen (p := ⟨b, o, none⟩) hB).trans h
theorem put_cell {W : World} {D : Nat} {ds : List Deferred} {o : Obj} (hK : W.heap[D]? = some (.deferred (some ds))) {a : Addr} {v : Value} (h : W.cell? a = some v) : (W.putObj D o).cell? a = some v := by
  refine (World.cell?_of_block (World.putObj_heap_other (fun e => ?_))).trans h
  unfold World.cell? at h; rw [e, hK] at h; cases h
theorem put_below {w W : World} {D : Nat} {o : Obj} (h : Below w.heap.size w W) (hD : w.heap.size ≤ D) : Below w.heap.size w (W.putObj D o) :=
  h.trans ⟨rfl, rfl, rfl, by simp, fun k hk => World.putObj_heap_other (by omega)⟩

theorem run_loadVar_one {P : Program} {w : World} {ty : TypeId} {a : Addr} {v : Value} {d : TypeDesc} (hu : P.underlying ty = some d) (hd : (match d with | .struct _ | .array _ _ => true | _ => false) = false) (hc : w.cell? a = some v) :
    (loadVar ty a).run P w = .ok v w := by
  have hagg : (isAgg ty).run P w = .ok false w := by
    unfold isAgg
    rw [Sem.run_bind, run_underlying hu w]
    cases d <;> simp_all
  simp [loadVar, Sem.run_bind, hagg, load, Sem.run, hc]
theorem results_cell1 {P : Program} {fn : Func} {w : World} {p : Tmp} {ty : TypeId} {a : Addr} {v : Value} {d : TypeDesc} (h : fn.results = #[.cell p ty]) (tmps : Array Value) (hp : tmps.getD p undef = .pointer (some a))
    (hu : P.underlying ty = some d) (hd : (match d with | .struct _ | .array _ _ => true | _ => false) = false) (hc : w.cell? a = some v) : (results fn tmps).run P w = .ok v w := by
  have hp' : tmps[p]?.getD undef = .pointer (some a) := by simpa using hp
  simp [results, h, hp', asAddr, run_loadVar_one hu hd hc]
/-- What a quantity's value is made of, and that it is valid. -/
structure QOk (t : Tk) (what : Int) (mv : Value) (M : List Ms) (w : World) : Prop where
  tk : vTrack t = true
  ms : M.all vMeas = true
  len : M.length ≤ 1000000
  sl : SliceOf encM 4 w mv M
theorem QOk.below {t : Tk} {what : Int} {mv : Value} {M : List Ms} {w w' : World} (h : QOk t what mv M w) (hb : Below w.heap.size w w') : QOk t what mv M w' := ⟨h.tk, h.ms, h.len, h.sl.below hb⟩

end Go.Proofs.Ytfpbfhjfhfmanac
