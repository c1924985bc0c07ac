/- quantity.byHour of package cloth. -/
import Derived.Test.YteoejhldmeompaaAt
import Derived.RegionTactic
namespace Go.Proofs.Yteoejhldmeompaa
open Go Go.RowKit Go.Shelf
attribute [local go_sem] Oper.semAt_some

/-- A row in which the stretch at o has become s. -/
def put3 (cs : Array Value) (o : Nat) (s : Str) : Array Value := ((cs.setIfInBounds o (iv s.l)).setIfInBounds (o + 1) (iv s.h)).setIfInBounds (o + 2) (iv s.n)
theorem put3_size (cs : Array Value) (o : Nat) (s : Str) : (put3 cs o s).size = cs.size := by simp [put3]
theorem set_set {cs : Array Value} {i : Nat} {a b : Value} : (cs.setIfInBounds i a).setIfInBounds i b = cs.setIfInBounds i b := by
  apply Array.ext_getElem?
  intro j
  simp only [Array.getElem?_setIfInBounds, Array.size_setIfInBounds]
  split <;> rfl
theorem set_comm {cs : Array Value} {i j : Nat} {a b : Value} (h : i ≠ j) : (cs.setIfInBounds i a).setIfInBounds j b = (cs.setIfInBounds j b).setIfInBounds i a := by
  apply Array.ext_getElem?
  intro k
  simp only [Array.getElem?_setIfInBounds, Array.size_setIfInBounds]
  by_cases h1 : j = k
  · subst h1; rw [if_pos rfl, if_neg h, if_pos rfl]
  · rw [if_neg h1]
    by_cases h2 : i = k
    · rw [if_pos h2, if_pos h2]
    · rw [if_neg h2, if_neg h2, if_neg h1]

set_option maxRecDepth 20000 in
set_option maxHeartbeats 3200000 in
theorem add_at (s : Str) (x : Int) (b o : Nat) (T : TypeId) (cs : Array Value) (w : World) (hb : w.heap[b]? = some (.cells cs T (0, 0))) (hn : s.n ≤ 1000000) (h0 : cs[o]? = some (iv s.l)) (h1 : cs[o + 1]? = some (iv s.h)) (h2 : cs[o + 2]? = some (iv s.n)) :
    Calls Try.prog 34 #[.pointer (some ⟨b, o, none⟩), iv x] w fun e w' => e = .returned (.tuple #[]) ∧ PutB b (.cells (put3 cs o (s.add x)) T (0, 0)) w w' := by
  obtain ⟨l, h, n⟩ := s
  have c0 : w.cell? ⟨b, o, none⟩ = some (iv l) := by rw [cell_of_row _ _ _ _ _ _ hb]; exact h0
  have c1 : w.cell? ⟨b, o + 1, none⟩ = some (iv h) := by rw [cell_of_row _ _ _ _ _ _ hb]; exact h1
  have c2 : w.cell? ⟨b, o + 2, none⟩ = some (iv n) := by rw [cell_of_row _ _ _ _ _ _ hb]; exact h2
  have f0 : w.frozen? ⟨b, o, none⟩ = false := frozen_of_row _ _ _ _ _ hb
  have f1 : w.frozen? ⟨b, o + 1, none⟩ = false := frozen_of_row _ _ _ _ _ hb
  have f2 : w.frozen? ⟨b, o + 2, none⟩ = false := frozen_of_row _ _ _ _ _ hb
  have hlt0 : o < cs.size := (Array.getElem?_eq_some_iff.1 h0).1
  have hlt1 : o + 1 < cs.size := (Array.getElem?_eq_some_iff.1 h1).1
  have HB := Lib.hid (PutB.refl hb); clear hb
  have H2 := Lib.hid h2; clear h0 h1 h2
  dsimp only at hn
  by_cases h0 : n = 0
  · subst h0
    have HS : Hid (put3 ((cs.setIfInBounds o (iv x)).setIfInBounds (o + 1) (iv x)) o ⟨x, x, 1⟩ = put3 cs o (({ l := l, h := h, n := 0 } : Str).add x)) := by
      simp only [Hid, put3, Str.add, if_true]
      rw [set_comm (i := o + 1) (j := o) (by omega), set_set, set_set]
    go_enter Try.func34, Try.ntmps34
    go_wp2_with fail
    have HP := Lib.hid ((HB.out.set o (iv x)).set (o + 1) (iv x))
    generalize ((w.setCell ⟨b, o, none⟩ (.int .i64 x)).setCell ⟨b, o + 1, none⟩ (.int .i64 x)) = W at *
    clear c0 c1 c2 f0 f1 f2
    have c0 : W.cell? ⟨b, o, none⟩ = some (iv x) := by
      rw [cell_of_row _ _ _ _ _ _ HP.out.this, Array.getElem?_setIfInBounds, if_neg (by omega), Array.getElem?_setIfInBounds, if_pos rfl, if_pos hlt0]
    have c1 : W.cell? ⟨b, o + 1, none⟩ = some (iv x) := by
      rw [cell_of_row _ _ _ _ _ _ HP.out.this, Array.getElem?_setIfInBounds, if_pos rfl, if_pos (by simpa using hlt1)]
    have c2 : W.cell? ⟨b, o + 2, none⟩ = some (iv 0) := by
      rw [cell_of_row _ _ _ _ _ _ HP.out.this, Array.getElem?_setIfInBounds, if_neg (by omega), Array.getElem?_setIfInBounds, if_neg (by omega)]; exact H2.out
    have f0 : W.frozen? ⟨b, o, none⟩ = false := frozen_of_row _ _ _ _ _ HP.out.this
    have f1 : W.frozen? ⟨b, o + 1, none⟩ = false := frozen_of_row _ _ _ _ _ HP.out.this
    have f2 : W.frozen? ⟨b, o + 2, none⟩ = false := frozen_of_row _ _ _ _ _ HP.out.this
    clear hlt0 hlt1
    go_region
    go_wp2_with fail
    go_end0
    refine ⟨rfl, ?_⟩
    rw [← HS.out]
    exact (((HP.out.set o (iv x)).set (o + 1) (iv x)).set (o + 2) (iv 1)).drew
  · have e0 : ((n : Int) == 0) = false := by simp [h0]
    clear hlt0 hlt1
    go_enter Try.func34, Try.ntmps34
    go_wp2_with fail
    go_region
    have HA : Hid (({ l := l, h := h, n := n } : Str).add x = ⟨if x < l then x else l, if h < x then x else h, n + 1⟩) := by simp [Hid, Str.add, h0]
    generalize (if x < l then x else l) = m1 at *
    generalize (if h < x then x else h) = m2 at *
    go_wp2_with fail
    go_end0
    refine ⟨rfl, ?_⟩
    rw [HA.out]
    exact (((HB.out.set o (iv m1)).set (o + 1) (iv m2)).set (o + 2) (iv ((n : Int) + 1))).drew

/-- A row of 49 stretches. -/
def brow (f : Nat → Str) : Array Value := Array.ofFn (n := 147) fun i => if i.val % 3 = 0 then iv (f (i.val / 3)).l else if i.val % 3 = 1 then iv (f (i.val / 3)).h else iv (f (i.val / 3)).n
theorem brow_get (f : Nat → Str) (i : Nat) : (brow f)[i]? = if i < 147 then some (if i % 3 = 0 then iv (f (i / 3)).l else if i % 3 = 1 then iv (f (i / 3)).h else iv (f (i / 3)).n) else none := by
  simp only [brow, Array.getElem?_ofFn]
  split <;> rfl
theorem brow_size (f : Nat → Str) : (brow f).size = 147 := by simp [brow]
theorem brow_congr {f g : Nat → Str} (h : ∀ j, j < 49 → f j = g j) : brow f = brow g := by
  apply Array.ext_getElem?
  intro i
  rw [brow_get, brow_get]
  split
  · rw [h (i / 3) (by omega)]
  · rfl
theorem brow_l (f : Nat → Str) {j : Nat} (hj : j < 49) : (brow f)[j * 3]? = some (iv (f j).l) := by
  rw [brow_get, if_pos (by omega), if_pos (by omega), show j * 3 / 3 = j by omega]
theorem brow_h (f : Nat → Str) {j : Nat} (hj : j < 49) : (brow f)[j * 3 + 1]? = some (iv (f j).h) := by
  rw [brow_get, if_pos (by omega), if_neg (by omega), if_pos (by omega), show (j * 3 + 1) / 3 = j by omega]
theorem brow_n (f : Nat → Str) {j : Nat} (hj : j < 49) : (brow f)[j * 3 + 2]? = some (iv (f j).n) := by
  rw [brow_get, if_pos (by omega), if_neg (by omega), if_neg (by omega), show (j * 3 + 2) / 3 = j by omega]
theorem brow_put (f : Nat → Str) (j : Nat) (s : Str) (hj : j < 49) : put3 (brow f) (j * 3) s = brow (fun k => if k = j then s else f k) := by
  apply Array.ext_getElem?
  intro i
  simp only [put3, Array.getElem?_setIfInBounds, Array.size_setIfInBounds, brow_size, brow_get]
  by_cases h2 : j * 3 + 2 = i
  · subst h2
    rw [if_pos rfl, if_pos (by omega), if_pos (by omega), if_neg (by omega), if_neg (by omega), show (j * 3 + 2) / 3 = j by omega, if_pos rfl]
  · rw [if_neg h2]
    by_cases h1 : j * 3 + 1 = i
    · subst h1
      rw [if_pos rfl, if_pos (by omega), if_pos (by omega), if_neg (by omega), if_pos (by omega), show (j * 3 + 1) / 3 = j by omega, if_pos rfl]
    · rw [if_neg h1]
      by_cases h0 : j * 3 = i
      · subst h0
        rw [if_pos rfl, if_pos (by omega), if_pos (by omega), if_pos (by omega), show j * 3 / 3 = j by omega, if_pos rfl]
      · rw [if_neg h0, if_neg (show ¬ i / 3 = j by omega)]
theorem brow_one (f : Nat → Str) : (brow f).all (·.oneCell') = true := by
  rw [Array.all_eq_true]
  intro i hi
  have h := brow_get f i
  rw [Array.getElem?_eq_getElem hi] at h
  rw [brow_size] at hi
  rw [if_pos hi] at h
  rw [Option.some.inj h]
  split
  · rfl
  · split <;> rfl
def zeroB : Array Value := Array.replicate 147 (iv 0)
theorem zeroB_eq : zeroB = brow (fun _ => ⟨0, 0, 0⟩) := by
  apply Array.ext_getElem?
  intro i
  rw [brow_get, zeroB, Array.getElem?_replicate]
  split
  · split
    · rfl
    · split <;> rfl
  · rfl
theorem zinfo128 : (Try.prog.info? 71).map (·.zero) = some (some (.agg (brow (fun _ => ⟨0, 0, 0⟩)))) := by rw [← zeroB_eq]; kernel_rfl
theorem sinfo128 (f : Nat → Str) : (Try.prog.info? 71).map (·.size) = some (brow f).size := by rw [brow_size]; kernel_rfl
theorem brow_sz (f g : Nat → Str) : (brow f).size = (brow g).size := by rw [brow_size, brow_size]

/-- The sizes of a truth, hour by hour. -/
def tsizes (x r : Int) : Array Value := Array.ofFn (n := 49) fun i => iv (aft x r i.val)
theorem tsizes_get (x r : Int) {h : Nat} (hh : h < 49) : (tsizes x r)[h]? = some (iv (aft x r h)) := by
  simp only [tsizes, Array.getElem?_ofFn]; rw [dif_pos hh]
theorem sinfo118 (x r : Int) : (Try.prog.info? 91).map (·.size) = some (tsizes x r).size := by rw [show (tsizes x r).size = 49 by simp [tsizes]]; kernel_rfl
theorem index_sz (x r : Int) {h : Nat} (hh : h < 49) (w : World) : (Instr.index 91 (.agg (tsizes x r)) (.int .i64 (h : Int))).run Try.prog w = .ok (iv (aft x r h)) w := by
  have h1 := tsizes_get x r hh
  simp [Instr.index, go_sem, h1]
  intro h3; omega
theorem run_load_sizes {a : Act} {o : Oper} {w : World} (x : Operand) (ho : o.op = .load 91 x) (g : Nat) (hx : a.eval x = .pointer (some ⟨g, 1, none⟩)) (t : TypeId) (y r : Int) (hg : w.heap[g]? = some (.cells (tvals y r) t (0, 0))) :
    (execOp a.eval o).run Try.prog w = .ok (.value (.agg (tsizes y r))) w := by
  have hl : (loadCells ⟨g, 1, none⟩ (tsizes y r).toList.length).run Try.prog w = .ok (tsizes y r).toList.toArray w :=
    run_loadCells_list (P := Try.prog) w ⟨g, 1, none⟩ (tsizes y r).toList (fun j v hv => by
      have hadd : (⟨g, 1, none⟩ : Addr).add j = ⟨g, 1 + j, none⟩ := by unfold Addr.add; split <;> simp_all
      rw [hadd, cell_of_row w g _ _ t _ hg]
      have hj : j < 49 := by have := (List.getElem?_eq_some_iff.1 hv).1; simpa [tsizes] using this
      rw [Array.getElem?_toList, tsizes_get _ _ hj] at hv
      rw [tvals_hour _ _ _ (by omega)]; exact hv)
  have hagg : (isAgg 91).run Try.prog w = .ok true w := by
    unfold isAgg
    rw [Sem.run_bind, run_underlying Try.underlying91 w]; rfl
  cases hq : Try.prog.info? 91 with
  | none => have := sinfo118 y r; rw [hq] at this; simp at this
  | some i =>
    have hs : i.size = (tsizes y r).size := by have := sinfo118 y r; rw [hq] at this; simpa using this
    simp only [Array.length_toList, Array.toArray_toList] at hl
    unfold execOp
    simp only [ho, hx, Instr.loadAt, Instr.sureAddr, Sem.run_bind, Sem.run_pure, Result.andThen_ok]
    simp [loadVar, Sem.run_bind, hagg, sizeOf, typeInfo, hq, hs, hl]

def hourStr (L : List (Int × Int)) (j : Nat) : Str := strOf (L.map fun p => aft p.1 p.2 j)
theorem hourStr_snoc (L : List (Int × Int)) (x r : Int) (j : Nat) : hourStr (L ++ [(x, r)]) j = (hourStr L j).add (aft x r j) := by simp [hourStr, strOf_snoc]
theorem hourStr_n (L : List (Int × Int)) (j : Nat) : (hourStr L j).n = L.length := by simp [hourStr, strOf_n]
theorem bsucc (L : List (Int × Int)) (x r : Int) (k : Nat) (hk : k < 49) :
    put3 (brow fun j => if j < k then hourStr (L ++ [(x, r)]) j else hourStr L j) (k * 3) ((hourStr L k).add (aft x r k)) = brow fun j => if j < k + 1 then hourStr (L ++ [(x, r)]) j else hourStr L j := by
  rw [brow_put _ _ _ hk]
  apply brow_congr
  intro j _
  by_cases h : j = k
  · subst h; rw [if_pos rfl, if_pos (by omega), hourStr_snoc]
  · rw [if_neg h]
    by_cases h2 : j < k
    · rw [if_pos h2, if_pos (by omega)]
    · rw [if_neg h2, if_neg (by omega)]

set_option maxRecDepth 20000 in
set_option maxHeartbeats 6400000 in
theorem byHour_any (t : Tk) (what : Int) (mv : Value) (M : List Ms) (w : World) (hq : QOk t what mv M w) :
    Calls Try.prog 18 #[.agg (qcells t what mv)] w fun e w' => e = .returned (.agg (brow (hourStr (trs t what M)))) ∧ Below w.heap.size w w' := by
  have HQ := Lib.hid hq
  have HTL := Lib.hid (trs_len t what M hq.tk)
  clear hq
  refine (callsIn_wide (n := 3)).1 ?_
  refine callsIn_of_wp_marks Try.func18 rfl trivial ?_ rfl
  simp only [Try.ntmps18, List.size_toArray, List.length_cons, List.length_nil, Nat.reduceAdd, Nat.reduceSub, Array.replicate_succ, Array.replicate_zero, List.push_toArray, List.append_toArray, List.nil_append, List.cons_append]
  gi_wp2_with (first | (with_reducible change wpListIn _ _ _ _ _ (Oper.mk _ (Op.load 62 _) _ _ _ _ :: _) _ _; refine LI_val rfl (fun c h => by cases h) (fun c h => by cases h) (run_load_row 62 _ rfl _ rfl 62 (qcells t what mv) _ ((Below.heap_alloc _ _ _ (by simp; omega)).trans ((Below.heap_alloc _ _ _ (by simp)).trans (heap_new _ _ _))) Try.underlying62 rfl (sinfo111 t what mv)) ?_) | (with_reducible change wpListIn _ _ _ _ _ (Oper.mk _ (Op.alloc 71) _ _ _ _ :: _) _ _; refine LI_val rfl (fun c h => by cases h) (fun c h => by cases h) (run_alloc_row 71 (brow (fun _ => ⟨0, 0, 0⟩)) zinfo128 rfl) ?_))
  refine (callsIn_wide.2 (truths_any _ _)).mono ?_
  rintro e w' ⟨rfl, rfl⟩
  have hb1 : Below w.heap.size w (((w.alloc (.cells (qcells t what mv) 62)).alloc (.cells (brow (fun _ => ⟨0, 0, 0⟩)) 71)).alloc (.cells (brow (fun _ => ⟨0, 0, 0⟩)) 71)) := (by repeat (first | exact Below.refl _ _ | refine Below.drew ?_ | refine bpush ?_ _ | refine bput ?_ (by simp) _ | (refine bstep ?_ (by assumption))))
  have hz1 : (((w.alloc (.cells (qcells t what mv) 62)).alloc (.cells (brow (fun _ => ⟨0, 0, 0⟩)) 71)).alloc (.cells (brow (fun _ => ⟨0, 0, 0⟩)) 71)).heap.size = w.heap.size + 3 := by simp
  have hr3 : (((w.alloc (.cells (qcells t what mv) 62)).alloc (.cells (brow (fun _ => ⟨0, 0, 0⟩)) 71)).alloc (.cells (brow (fun _ => ⟨0, 0, 0⟩)) 71)).heap[w.heap.size + 2]? = some (.cells (brow (fun _ => ⟨0, 0, 0⟩)) 71 (0, 0)) := by
    have := heap_new ((w.alloc (.cells (qcells t what mv) 62)).alloc (.cells (brow (fun _ => ⟨0, 0, 0⟩)) 71)) (brow (fun _ => ⟨0, 0, 0⟩)) 71
    simp only [World.size_alloc] at this; exact this
  have hr2 : (((w.alloc (.cells (qcells t what mv) 62)).alloc (.cells (brow (fun _ => ⟨0, 0, 0⟩)) 71)).alloc (.cells (brow (fun _ => ⟨0, 0, 0⟩)) 71)).heap[w.heap.size + 1]? = some (.cells (brow (fun _ => ⟨0, 0, 0⟩)) 71 (0, 0)) := by
    rw [Below.heap_alloc _ _ _ (by simp)]
    have := heap_new (w.alloc (.cells (qcells t what mv) 62)) (brow (fun _ => ⟨0, 0, 0⟩)) 71
    simp only [World.size_alloc] at this; exact this
  generalize (((w.alloc (.cells (qcells t what mv) 62)).alloc (.cells (brow (fun _ => ⟨0, 0, 0⟩)) 71)).alloc (.cells (brow (fun _ => ⟨0, 0, 0⟩)) 71)) = W1 at *
  have HB1 := Lib.hid hb1; clear hb1
  have HZ1 := Lib.hid hz1; clear hz1
  have HR2 := Lib.hid hr2; clear hr2
  have HR3 := Lib.hid hr3; clear hr3
  gi_wp2_with fail
  have hzz := HZ1.out
  have hseq := truths_at HQ.out HB1.out
  refine rangeB (gf := 54) (lb := #[.pointer (some ⟨W1.heap.size, 0, none⟩)]) rfl (enters_of Try.func54 (by kernel_rfl) rfl)
    hseq (fun _ => rfl) (fun k hk => ?_) (fun k => k = w.heap.size + 2) (fun k hk => ?_) (fun k hk hx => ?_)
    (fun pre W => W.heap[w.heap.size + 2]? = some (.cells (brow (hourStr pre)) 71 (0, 0))) (fun _ _ => False)
    (fun s W W' hi hx => (hx _ rfl).trans hi) (fun _ _ _ h => h.elim) ?_ ?round ?done ?stop
  · simp; omega
  · simp; omega
  · omega
  · exact (Below.heap_alloc _ _ _ (by omega)).trans HR3.out
  case stop =>
    rintro c W _ hf _
    exact hf.elim
  case round =>
    rintro l pre ⟨x, r⟩ W hpre htn hi1 K hK
    have HK := Lib.hid hK; clear hK
    go_simp
    gi_step
    gi_step
    refine LI_val rfl (fun c h => by cases h) (fun c h => by cases h) (run_alloc_row 93 zeroT zinfo120 rfl) ?_
    refine LI_skip rfl (fun c h => by cases h) (fun c h => by cases h) (run_store_row 93 _ _ rfl W.heap.size ?_ (tvals x r) ?_ 93 zeroT ?_ ?_ ?_ ?_) ?_
    · rfl
    · rfl
    · exact heap_new _ _ _
    · exact sinfoV _ _
    · rw [tvals_size, zeroT_size]
    · exact tpart_one _ _ _
    gi_wp2_with fail
    go_simp
    refine HK.out _ _ (bpush (Below.refl _ _) _) ?_
    clear HK
    intro W2 ht2 hj1 hs2 hcell
    have hT4 := hcell W.heap.size _ (heap_new W (tvals x r) 93) rfl
    have hlen : pre.length ≤ 2000 := by have h1 := hpre.length_le; have h2 := HTL.out; simp at h1; omega
    have HJ1 := Lib.hid hj1; clear hj1
    have HT4 := Lib.hid hT4; clear hT4
    clear hcell htn hi1 ht2 hseq hpre
    gi_wp2_with (with_reducible change wpListIn _ _ _ _ _ (Oper.mk _ (Op.load 91 _) _ _ _ _ :: _) _ _; refine LI_val rfl (fun c h => by cases h) (fun c h => by cases h) (run_load_sizes _ rfl W.heap.size rfl 93 x r HT4.out) ?_)
    gi_loopw [12, 5, 6, 19] (fun i _ _ _ wr => ∃ k : Nat, k ≤ 49 ∧ i = iv k ∧ wr.heap[w.heap.size + 2]? = some (.cells (brow fun j => if j < k then hourStr (pre ++ [(x, r)]) j else hourStr pre j) 71 (0, 0)) ∧ Turn (fun k => k = w.heap.size + 2) W2 wr) (fun i _ _ _ _ => 49 - (intOf i).toNat)
    case atStart => exact ⟨0, by omega, rfl, by rw [HJ1.out]; rfl, Turn.refl _ _⟩
    case round =>
      obtain ⟨k, hk, rfl, hb, htw⟩ := hrel
      have HB := Lib.hid hb; clear hb
      have HTW := Lib.hid htw; clear htw
      by_cases hlt : k < 49
      · have hidx := index_sz x r hlt
        have hlt' : (k : Int) < 49 := by omega
        gi_wp2_with fail
        refine (CallsIn.inRound l (callsIn_wide.2 (add_at (hourStr pre k) (aft x r k) (w.heap.size + 2) (k * 3) _ _ wr HB.out (by rw [hourStr_n]; omega) ?_ ?_ ?_))).mono ?_
        · rw [brow_l _ hlt, if_neg (by omega)]
        · rw [brow_h _ hlt, if_neg (by omega)]
        · rw [brow_n _ hlt, if_neg (by omega)]
        rintro e w2 ⟨rfl, hp⟩
        rw [bsucc _ _ _ _ hlt] at hp
        have HP := Lib.hid hp; clear hp
        gi_wp2_with fail
        go_roundw
        case rel => exact ⟨k + 1, by omega, by go_num, HP.out.this, HTW.out.trans HP.out.turn⟩
        case measure => simp [intOf]; omega
      · obtain rfl : k = 49 := by omega
        gi_wp2_with fail
        refine ⟨HTW.out, ?_⟩
        show wr.heap[w.heap.size + 2]? = _
        rw [HB.out, brow_congr (g := hourStr (pre ++ [(x, r)])) (fun j hj => by rw [if_pos hj])]
  case done =>
    rintro W htn hi1 hK
    have HI := Lib.hid hi1; clear hi1
    have HTN := Lib.hid htn; clear htn
    have HK := Lib.hid hK; clear hK
    have hr2 := Lib.hid ((HTN.out.same (w.heap.size + 1) (by simp; omega) (by omega)).trans ((Below.heap_alloc _ _ _ (by omega)).trans HR2.out))
    clear hseq
    gi_wp2_with (first | (with_reducible change wpListIn _ _ _ _ _ (Oper.mk _ (Op.load 71 _) _ _ _ _ :: _) _ _; refine LI_val rfl (fun c h => by cases h) (fun c h => by cases h) (run_load_row 71 _ rfl _ rfl 71 (brow (hourStr (trs t what M))) _ HI.out Try.underlying71 rfl (sinfo128 _)) ?_) | (with_reducible change wpListIn _ _ _ _ _ (Oper.mk _ (Op.store 71 _ _) _ _ _ _ :: _) _ _; refine LI_skip rfl (fun c h => by cases h) (fun c h => by cases h) (run_store_row 71 _ _ rfl _ rfl (brow (hourStr (trs t what M))) rfl 71 _ hr2.out (sinfo128 _) (brow_sz _ _) (brow_one _)) ?_))
    have hD : (W.setRow (w.heap.size + 1) (brow (hourStr (trs t what M)))).heap[(W1.alloc (.cells (qcells t what mv) 62)).heap.size]? = some (.deferred (some [])) := (heap_setRow_other _ _ _ _ (by simp; omega)).trans HK.out
    refine ⟨by simp, .inl ⟨_, _, rfl, run_takeDeferred hD, ?_⟩⟩
    have hrow : ((W.setRow (w.heap.size + 1) (brow (hourStr (trs t what M)))).putObj (W1.alloc (.cells (qcells t what mv) 62)).heap.size (.deferred none)).heap[w.heap.size + 1]? = some (.cells (brow (hourStr (trs t what M))) 71 (0, 0)) := (World.putObj_heap_other (by simp; omega)).trans (heap_setRow_same hr2.out)
    refine ⟨_, results_cell_row (fn := Try.f18) Try.results18 _ _ (w.heap.size + 1) 71 (brow (hourStr (trs t what M))) (0, 0) _ rfl hrow Try.underlying71 rfl (sinfo128 _), rfl, put_below (bsetRow ?_ (by omega) _) (by simp; omega)⟩
    exact ((bpush HB1.out _).trans (HTN.out.below (B := w.heap.size) (fun k hk => by omega) (by simp; omega)))
end Go.Proofs.Yteoejhldmeompaa
