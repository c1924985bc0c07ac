/- quantity.byHour of package cloth. -/
import Derived.Test.YtfdahmdehmhllaaAt
import Derived.RegionTactic
namespace Go.Proofs.Ytfdahmdehmhllaa
open Go Go.RowKit Go.Shelf
attribute [local go_sem] Oper.semAt_some

/-- A row in which the stretch at o has become s. -/
def put3 (cs : Array Value) (o : Nat) (s : Str) : Array Value := ((cs.setIfInBounds o (iv s.l)).setIfInBounds (o + 1) (iv s.h)).setIfInBounds (o + 2) (iv s.n)
theorem put3_size (cs : Array Value) (o : Nat) (s : Str) : (put3 cs o s).size = cs.size := by simp [put3]
theorem set_set {cs : Array Value} {i : Nat} {a b : Value} : (cs.setIfInBounds i a).setIfInBounds i b = cs.setIfInBounds i b := by
  apply Array.ext_getElem?
  intro j
  simp only [Array.getElem?_setIfInBounds, Array.size_setIfInBounds]
  split <;> rfl
theorem set_comm {cs : Array Value} {i j : Nat} {a b : Value} (h : i ≠ j) : (cs.setIfInBounds i a).setIfInBounds j b = (cs.setIfInBounds j b).setIfInBounds i a := by
  apply Array.ext_getElem?
  intro k
  simp only [Array.getElem?_setIfInBounds, Array.size_setIfInBounds]
  by_cases h1 : j = k
  · subst h1; rw [if_pos rfl, if_neg h, if_pos rfl]
  · rw [if_neg h1]
    by_cases h2 : i = k
    · rw [if_pos h2, if_pos h2]
    · rw [if_neg h2, if_neg h2, if_neg h1]

set_option maxRecDepth 20000 in
set_option maxHeartbeats 3200000 in
theorem add_at (s : Str) (x : Int) (b o : Nat) (T : TypeId) (cs : Array Value) (w : World) (hb : w.heap[b]? = some (.cells cs T (0, 0))) (hn : s.n ≤ 1000000) (h0 : cs[o]? = some (iv s.l)) (h1 : cs[o + 1]? = some (iv s.h)) (h2 : cs[o + 2]? = some (iv s.n)) :
    Calls Try.prog 27 #[.pointer (some ⟨b, o, none⟩), iv x] w fun e w' => e = .returned (.tuple #[]) ∧ PutB b (.cells (put3 cs o (s.add x)) T (0, 0)) w w' := by
  obtain ⟨l, h, n⟩ := s
  have c0 : w.cell? ⟨b, o, none⟩ = some (iv l) := by rw [cell_of_row _ _ _ _ _ _ hb]; exact h0
  have c1 : w.cell? ⟨b, o + 1, none⟩ = some (iv h) := by rw [cell_of_row _ _ _ _ _ _ hb]; exact h1
  have c2 : w.cell? ⟨b, o + 2, none⟩ = some (iv n) := by rw [cell_of_row _ _ _ _ _ _ hb]; exact h2
  have f0 : w.frozen? ⟨b, o, none⟩ = false := frozen_of_row _ _ _ _ _ hb
  have f1 : w.frozen? ⟨b, o + 1, none⟩ = false := frozen_of_row _ _ _ _ _ hb
  have f2 : w.frozen? ⟨b, o + 2, none⟩ = false := frozen_of_row _ _ _ _ _ hb
  have hlt0 : o < cs.size := (Array.getElem?_eq_some_iff.1 h0).1
  have hlt1 : o + 1 < cs.size := (Array.getElem?_eq_some_iff.1 h1).1
  have HB := Lib.hid (PutB.refl hb); clear hb
  have H2 := Lib.hid h2; clear h0 h1 h2
  dsimp only at hn
  by_cases h0 : n = 0
  · subst h0
    have HS : Hid (put3 ((cs.setIfInBounds o (iv x)).setIfInBounds (o + 1) (iv x)) o ⟨x, x, 1⟩ = put3 cs o (({ l := l, h := h, n := 0 } : Str).add x)) := by
      simp only [Hid, put3, Str.add, if_true]
      rw [set_comm (i := o + 1) (j := o) (by omega), set_set, set_set]
    go_enter Try.func27, Try.ntmps27
    go_wp2_with fail
    have HP := Lib.hid ((HB.out.set o (iv x)).set (o + 1) (iv x))
    generalize ((w.setCell ⟨b, o, none⟩ (.int .i64 x)).setCell ⟨b, o + 1, none⟩ (.int .i64 x)) = W at *
    clear c0 c1 c2 f0 f1 f2
    have c0 : W.cell? ⟨b, o, none⟩ = some (iv x) := by
      rw [cell_of_row _ _ _ _ _ _ HP.out.this, Array.getElem?_setIfInBounds, if_neg (by omega), Array.getElem?_setIfInBounds, if_pos rfl, if_pos hlt0]
    have c1 : W.cell? ⟨b, o + 1, none⟩ = some (iv x) := by
      rw [cell_of_row _ _ _ _ _ _ HP.out.this, Array.getElem?_setIfInBounds, if_pos rfl, if_pos (by simpa using hlt1)]
    have c2 : W.cell? ⟨b, o + 2, none⟩ = some (iv 0) := by
      rw [cell_of_row _ _ _ _ _ _ HP.out.this, Array.getElem?_setIfInBounds, if_neg (by omega), Array.getElem?_setIfInBounds, if_neg (by omega)]; exact H2.out
    have f0 : W.frozen? ⟨b, o, none⟩ = false := frozen_of_row _ _ _ _ _ HP.out.this
    have f1 : W.frozen? ⟨b, o + 1, none⟩ = false := frozen_of_row _ _ _ _ _ HP.out.this
    have f2 : W.frozen? ⟨b, o + 2, none⟩ = false := frozen_of_row _ _ _ _ _ HP.out.this
    clear hlt0 hlt1
    go_region
    go_wp2_with fail
    go_end0
    refine ⟨rfl, ?_⟩
    rw [← HS.out]
    exact (((HP.out.set o (iv x)).set (o + 1) (iv x)).set (o + 2) (iv 1)).drew
  · have e0 : ((n : Int) == 0) = false := by simp [h0]
    clear hlt0 hlt1
    go_enter Try.func27, Try.ntmps27
    go_wp2_with fail
    go_region
    have HA : Hid (({ l := l, h := h, n := n } : Str).add x = ⟨if x < l then x else l, if h < x then x else h, n + 1⟩) := by simp [Hid, Str.add, h0]
    generalize (if x < l then x else l) = m1 at *
    generalize (if h < x then x else h) = m2 at *
    go_wp2_with fail
    go_end0
    refine ⟨rfl, ?_⟩
    rw [HA.out]
    exact (((HB.out.set o (iv m1)).set (o + 1) (iv m2)).set (o + 2) (iv ((n : Int) + 1))).drew

/-- A row of 49 stretches. -/
def brow (f : Nat → Str) : Array Value := Array.ofFn (n := 147) fun i => if i.val % 3 = 0 then iv (f (i.val / 3)).l else if i.val % 3 = 1 then iv (f (i.val / 3)).h else iv (f (i.val / 3)).n
theorem brow_get (f : Nat → Str) (i : Nat) : (brow f)[i]? = if i < 147 then some (if i % 3 = 0 then iv (f (i / 3)).l else if i % 3 = 1 then iv (f (i / 3)).h else iv (f (i / 3)).n) else none := by
  simp only [brow, Array.getElem?_ofFn]
  split <;> rfl
theorem brow_size (f : Nat → Str) : (brow f).size = 147 := by simp [brow]
theorem brow_congr {f g : Nat → Str} (h : ∀ j, j < 49 → f j = g j) : brow f = brow g := by
  apply Array.ext_getElem?
  intro i
  rw [brow_get, brow_get]
  split
  · rw [h (i / 3) (by omega)]
  · rfl
theorem brow_l (f : Nat → Str) {j : Nat} (hj : j < 49) : (brow f)[j * 3]? = some (iv (f j).l) := by
  rw [brow_get, if_pos (by omega), if_pos (by omega), show j * 3 / 3 = j by omega]
theorem brow_h (f : Nat → Str) {j : Nat} (hj : j < 49) : (brow f)[j * 3 + 1]? = some (iv (f j).h) := by
  rw [brow_get, if_pos (by omega), if_neg (by omega), if_pos (by omega), show (j * 3 + 1) / 3 = j by omega]
theorem brow_n (f : Nat → Str) {j : Nat} (hj : j < 49) : (brow f)[j * 3 + 2]? = some (iv (f j).n) := by
  rw [brow_get, if_pos (by omega), if_neg (by omega), if_neg (by omega), show (j * 3 + 2) / 3 = j by omega]
theorem brow_put (f : Nat → Str) (j : Nat) (s : Str) (hj : j < 49) : put3 (brow f) (j * 3) s = brow (fun k => if k = j then s else f k) := by
  apply Array.ext_getElem?
  intro i
  simp only [put3, Array.getElem?_setIfInBounds, Array.size_setIfInBounds, brow_size, brow_get]
  by_cases h2 : j * 3 + 2 = i
  · subst h2
    rw [if_pos rfl, if_pos (by omega), if_pos (by omega), if_neg (by omega), if_neg (by omega), show (j * 3 + 2) / 3 = j by omega, if_pos rfl]
  · rw [if_neg h2]
    by_cases h1 : j * 3 + 1 = i
    · subst h1
      rw [if_pos rfl, if_pos (by omega), if_pos (by omega), if_neg (by omega), if_pos (by omega), show (j * 3 + 1) / 3 = j by omega, if_pos rfl]
    · rw [if_neg h1]
      by_cases h0 : j * 3 = i
      · subst h0
        rw [if_pos rfl, if_pos (by omega), if_pos (by omega), if_pos (by omega), show j * 3 / 3 = j by omega, if_pos rfl]
      · rw [if_neg h0, if_neg (show ¬ i / 3 = j by omega)]
theorem brow_one (f : Nat → Str) : (brow f).all (·.oneCell') = true := by
  rw [Array.all_eq_true]
  intro i hi
  have h := brow_get f i
  rw [Array.getElem?_eq_getElem hi] at h
  rw [brow_size] at hi
  rw [if_pos hi] at h
  rw [Option.some.inj h]
  split
  · rfl
  · split <;> rfl
def zeroB : Array Value := Array.replicate 147 (iv 0)
theorem zeroB_eq : zeroB = brow (fun _ => ⟨0, 0, 0⟩) := by
  apply Array.ext_getElem?
  intro i
  rw [brow_get, zeroB, Array.getElem?_replicate]
  split
  · split
    · rfl
    · split <;> rfl
  · rfl
theorem brow_sz (f g : Nat → Str) : (brow f).size = (brow g).size := by rw [brow_size, brow_size]

/-- The sizes of a truth, hour by hour. -/
def tsizes (x r : Int) : Array Value := Array.ofFn (n := 49) fun i => iv (aft x r i.val)
theorem tsizes_get (x r : Int) {h : Nat} (hh : h < 49) : (tsizes x r)[h]? = some (iv (aft x r h)) := by
  simp only [tsizes, Array.getElem?_ofFn]; rw [dif_pos hh]
theorem sinfo118 (x r : Int) : (Try.prog.info? 68).map (·.size) = some (tsizes x r).size := by rw [show (tsizes x r).size = 49 by simp [tsizes]]; kernel_rfl
theorem index_sz (x r : Int) {h : Nat} (hh : h < 49) (w : World) : (Instr.index 68 (.agg (tsizes x r)) (.int .i64 (h : Int))).run Try.prog w = .ok (iv (aft x r h)) w := by
  have h1 := tsizes_get x r hh
  simp [Instr.index, go_sem, h1]
  intro h3; omega
theorem run_load_sizes {a : Act} {o : Oper} {w : World} (x : Operand) (ho : o.op = .load 68 x) (g : Nat) (hx : a.eval x = .pointer (some ⟨g, 1, none⟩)) (t : TypeId) (y r : Int) (hg : w.heap[g]? = some (.cells (tvals y r) t (0, 0))) :
    (execOp a.eval o).run Try.prog w = .ok (.value (.agg (tsizes y r))) w := by
  have hl : (loadCells ⟨g, 1, none⟩ (tsizes y r).toList.length).run Try.prog w = .ok (tsizes y r).toList.toArray w :=
    run_loadCells_list (P := Try.prog) w ⟨g, 1, none⟩ (tsizes y r).toList (fun j v hv => by
      have hadd : (⟨g, 1, none⟩ : Addr).add j = ⟨g, 1 + j, none⟩ := by unfold Addr.add; split <;> simp_all
      rw [hadd, cell_of_row w g _ _ t _ hg]
      have hj : j < 49 := by have := (List.getElem?_eq_some_iff.1 hv).1; simpa [tsizes] using this
      rw [Array.getElem?_toList, tsizes_get _ _ hj] at hv
      rw [tvals_hour _ _ _ (by omega)]; exact hv)
  have hagg : (isAgg 68).run Try.prog w = .ok true w := by
    unfold isAgg
    rw [Sem.run_bind, run_underlying Try.underlying68 w]; rfl
  cases hq : Try.prog.info? 68 with
  | none => have := sinfo118 y r; rw [hq] at this; simp at this
  | some i =>
    have hs : i.size = (tsizes y r).size := by have := sinfo118 y r; rw [hq] at this; simpa using this
    simp only [Array.length_toList, Array.toArray_toList] at hl
    unfold execOp
    simp only [ho, hx, Instr.loadAt, Instr.sureAddr, Sem.run_bind, Sem.run_pure, Result.andThen_ok]
    simp [loadVar, Sem.run_bind, hagg, sizeOf, typeInfo, hq, hs, hl]

def hourStr (L : List (Int × Int)) (j : Nat) : Str := strOf (L.map fun p => aft p.1 p.2 j)
theorem hourStr_snoc (L : List (Int × Int)) (x r : Int) (j : Nat) : hourStr (L ++ [(x, r)]) j = (hourStr L j).add (aft x r j) := by simp [hourStr, strOf_snoc]
theorem hourStr_n (L : List (Int × Int)) (j : Nat) : (hourStr L j).n = L.length := by simp [hourStr, strOf_n]
theorem bsucc (L : List (Int × Int)) (x r : Int) (k : Nat) (hk : k < 49) :
    put3 (brow fun j => if j < k then hourStr (L ++ [(x, r)]) j else hourStr L j) (k * 3) ((hourStr L k).add (aft x r k)) = brow fun j => if j < k + 1 then hourStr (L ++ [(x, r)]) j else hourStr L j := by
  rw [brow_put _ _ _ hk]
  apply brow_congr
  intro j _
  by_cases h : j = k
  · subst h; rw [if_pos rfl, if_pos (by omega), hourStr_snoc]
  · rw [if_neg h]
    by_cases h2 : j < k
    · rw [if_pos h2, if_pos (by omega)]
    · rw [if_neg h2, if_neg (by omega)]

end Go.Proofs.Ytfdahmdehmhllaa
