import Derived.Test.YtdalilllakdamaaLog
import Derived.Deep.RegionHeld3
import Derived.IntWalk
import Derived.OwnWalk
import Derived.OwnWalkIn
/- Slices that read as lists; what of memory stays: plain lemmas about worlds. -/
namespace Go.Proofs.Ytdalilllakdamaa
open Go Go.RowKit

abbrev iv (n : Int) : Value := .int .i64 n

/-- The slice v reads as the list xs, each element of sz cells. -/
def SliceOf {α : Type} (enc : α → List Value) (sz : Nat) (w : World) (v : Value) (xs : List α) : Prop :=
  ∃ a cap, v = .slice a xs.length cap ∧ xs.length ≤ 140737488355328 ∧
    ∀ i x, xs[i]? = some x → ∃ b off, a = some ⟨b, off, none⟩ ∧ ∀ j u, (enc x)[j]? = some u → w.cell? ⟨b, off + i * sz + j, none⟩ = some u

theorem lt_of_cell {w : World} {b o : Nat} {v : Value} (h : w.cell? ⟨b, o, none⟩ = some v) : b < w.heap.size := World.block_lt_of_cell? w _ h

/-- What the walk wants behind a call that has only made memory. -/
theorem bcell {W w1 : World} (hb : Below W.heap.size W w1) : (∀ b o, b < W.heap.size → w1.cell? ⟨b, o, none⟩ = W.cell? ⟨b, o, none⟩) ∧ (∀ b o, b < W.heap.size → w1.frozen? ⟨b, o, none⟩ = W.frozen? ⟨b, o, none⟩) :=
  ⟨fun b o h => hb.cell (p := ⟨b, o, none⟩) h, fun b o h => hb.frozen (p := ⟨b, o, none⟩) h⟩

theorem bpush {w w1 : World} (h : Below w.heap.size w w1) (o : Obj) : Below w.heap.size w (w1.alloc o) := h.alloc h.size o
theorem bput {w w1 : World} (h : Below w.heap.size w w1) {p : Addr} (hp : w.heap.size ≤ p.block) (v : Value) : Below w.heap.size w (w1.setCell p v) := h.setCell hp v
theorem bstep {w w1 w2 : World} (h : Below w.heap.size w w1) (k : Below w1.heap.size w1 w2) : Below w.heap.size w w2 := h.trans (k.mono h.size)

theorem SliceOf.below {α : Type} {enc : α → List Value} {sz : Nat} {w w' : World} {v : Value} {xs : List α} (h : SliceOf enc sz w v xs) (hb : Below w.heap.size w w') : SliceOf enc sz w' v xs := by
  obtain ⟨a, cap, rfl, hl, hc⟩ := h
  refine ⟨a, cap, rfl, hl, fun i x hx => ?_⟩
  obtain ⟨b, off, ha, hj⟩ := hc i x hx
  exact ⟨b, off, ha, fun j u hu => (hb.cell (p := ⟨b, _, none⟩) (lt_of_cell (hj j u hu))).trans (hj j u hu)⟩

theorem SliceOf.cellsEq {α : Type} {enc : α → List Value} {sz : Nat} {w w' : World} {v : Value} {xs : List α} (h : SliceOf enc sz w v xs) (hb : ∀ a u, w.cell? a = some u → w'.cell? a = some u) : SliceOf enc sz w' v xs := by
  obtain ⟨a, cap, rfl, hl, hc⟩ := h
  refine ⟨a, cap, rfl, hl, fun i x hx => ?_⟩
  obtain ⟨b, off, ha, hj⟩ := hc i x hx
  exact ⟨b, off, ha, fun j u hu => hb _ _ (hj j u hu)⟩

theorem SliceOf.len {α : Type} {enc : α → List Value} {sz : Nat} {w : World} {v : Value} {xs : List α} (h : SliceOf enc sz w v xs) : xs.length ≤ 140737488355328 := by
  obtain ⟨a, cap, rfl, hl, hc⟩ := h; exact hl

theorem SliceOf.nil {α : Type} (enc : α → List Value) (sz : Nat) (w : World) (a : Option Addr) (cap : Nat) : SliceOf enc sz w (.slice a 0 cap) [] :=
  ⟨a, cap, rfl, by simp, by simp⟩

def encI (n : Int) : List Value := [iv n]
abbrev Ints := SliceOf encI 1

theorem ints1 {w : World} {b off cap : Nat} {x : Int} (h : w.cell? ⟨b, off, none⟩ = some (iv x)) : Ints w (.slice (some ⟨b, off, none⟩) 1 cap) [x] := by
  refine ⟨_, cap, rfl, by simp, fun i y hy => ⟨b, off, rfl, fun j u hu => ?_⟩⟩
  rcases i with _ | i
  · simp at hy; subst hy
    rcases j with _ | j
    · simp [encI] at hu; subst hu; simpa using h
    · simp [encI] at hu
  · simp at hy
theorem ints2 {w : World} {b off cap : Nat} {x y : Int} (h : w.cell? ⟨b, off, none⟩ = some (iv x)) (h' : w.cell? ⟨b, off + 1, none⟩ = some (iv y)) : Ints w (.slice (some ⟨b, off, none⟩) 2 cap) [x, y] := by
  refine ⟨_, cap, rfl, by simp, fun i z hz => ⟨b, off, rfl, fun j u hu => ?_⟩⟩
  rcases j with _ | j
  · simp [encI] at hu; subst hu
    rcases i with _ | _ | i
    · simp at hz; subst hz; simpa using h
    · simp at hz; subst hz; simpa using h'
    · simp at hz
  · simp [encI] at hu

/-- The numbers between two others, all of them. -/
def inB (lo hi x : Int) : Bool := decide (lo ≤ x) && decide (x ≤ hi)
theorem inB_iff {lo hi x : Int} : inB lo hi x = true ↔ lo ≤ x ∧ x ≤ hi := by simp [inB]

theorem all_take_succ {α : Type} (p : α → Bool) {xs : List α} {k : Nat} {x : α} (hx : xs[k]? = some x) (h : (xs.take k).all p = true) (hp : p x = true) : (xs.take (k + 1)).all p = true := by
  rw [List.take_add_one, hx]; simp [List.all_append]; exact ⟨by simpa using h, hp⟩
theorem all_false_of {α : Type} (p : α → Bool) {xs : List α} {k : Nat} {x : α} (hx : xs[k]? = some x) (hp : p x = false) : xs.all p = false := by
  rw [List.all_eq_false]; exact ⟨x, List.mem_of_getElem? hx, by simp [hp]⟩
theorem getElem?_of_lt {α : Type} {xs : List α} {k : Nat} (h : k < xs.length) : ∃ x, xs[k]? = some x := ⟨xs[k], by simp [h]⟩
end Go.Proofs.Ytdalilllakdamaa

/- Whole rows of cells, made, stored and read at once; walks inside a round and outside. -/
namespace Go.Proofs.Ytdalilllakdamaa
open Go Go.RowKit

section
variable {P : Program} {ops : Array Oper} {rest : List Oper} {o : Oper} {a : Act} {w w' : World} {Q : Exit → Act → World → Prop}

theorem L_val (hgd : Region.wanted o (yielded ops a.tmps) = true) {v : Value} (hrun : (execOp a.eval o).run P w = .ok (.value v) w') (h : wpList P ops Q rest (a.put o.dst v) w') : wpList P ops Q (o :: rest) a w :=
  wpList_step fun K hK => by rw [if_pos hgd]; unfold Oper.wp; rw [hrun]; exact hK _ _ h
theorem L_skip (hgd : Region.wanted o (yielded ops a.tmps) = true) (hrun : (execOp a.eval o).run P w = .ok .skip w') (h : wpList P ops Q rest (a.put o.dst undef) w') : wpList P ops Q (o :: rest) a w :=
  wpList_step fun K hK => by rw [if_pos hgd]; unfold Oper.wp; rw [hrun]; exact hK _ _ h
theorem LI_val {F : Fence} {n : Nat} (hgd : Region.wanted o (yielded ops a.tmps) = true) (hc : ∀ c, o.op ≠ .call c) (hd : ∀ c, o.op ≠ .defer c) {v : Value} (hrun : (execOp a.eval o).run P w = .ok (.value v) w') (h : wpListIn F n P ops Q rest (a.put o.dst v) w') : wpListIn F n P ops Q (o :: rest) a w :=
  wpListIn_step fun K hK => by
    rw [if_pos hgd]
    refine ⟨?_, ?_⟩
    · intro f hf; cases ho : o.op <;> simp_all [Oper.about]
    · rw [Oper.semAt_eq _ _ _ hd, hrun]; exact hK _ _ h
theorem LI_skip {F : Fence} {n : Nat} (hgd : Region.wanted o (yielded ops a.tmps) = true) (hc : ∀ c, o.op ≠ .call c) (hd : ∀ c, o.op ≠ .defer c) (hrun : (execOp a.eval o).run P w = .ok .skip w') (h : wpListIn F n P ops Q rest (a.put o.dst undef) w') : wpListIn F n P ops Q (o :: rest) a w :=
  wpListIn_step fun K hK => by
    rw [if_pos hgd]
    refine ⟨?_, ?_⟩
    · intro f hf; cases ho : o.op <;> simp_all [Oper.about]
    · rw [Oper.semAt_eq _ _ _ hd, hrun]; exact hK _ _ h

theorem run_alloc_row (ty : TypeId) (z : Array Value) (hz : (P.info? ty).map (·.zero) = some (some (.agg z))) (ho : o.op = .alloc ty) :
    (execOp a.eval o).run P w = .ok (.value (.pointer (some ⟨w.heap.size, 0, none⟩))) (w.alloc (.cells z ty)) := by
  cases hq : P.info? ty with
  | none => simp [hq] at hz
  | some i =>
    have hz' : i.zero = some (.agg z) := by simpa [hq] using hz
    simp [execOp, ho, Instr.alloc, zeroValue, typeInfo, Sem.run_bind, hq, hz', Result.andThen, newVar, newRow, Value.cells]
theorem run_load_row (ty : TypeId) (x : Operand) (ho : o.op = .load ty x) (g : Nat) (hx : a.eval x = .pointer (some ⟨g, 0, none⟩)) (t : TypeId) (cs : Array Value) (d : TypeDesc) (hg : w.heap[g]? = some (.cells cs t (0, 0)))
    (hu : P.underlying ty = some d) (hd : (match d with | .struct _ | .array _ _ => true | _ => false) = true) (hi : (P.info? ty).map (·.size) = some cs.size) :
    (execOp a.eval o).run P w = .ok (.value (.agg cs)) w := by
  unfold execOp
  simp only [ho, hx, Instr.loadAt, Instr.sureAddr, Sem.run_bind, Sem.run_pure, Result.andThen_ok, run_loadVar_row w g t ty cs (0, 0) d hg hu hd hi]
theorem run_store_row (ty : TypeId) (x y : Operand) (ho : o.op = .store ty x y) (g : Nat) (hx : a.eval x = .pointer (some ⟨g, 0, none⟩)) (cs : Array Value) (hy : a.eval y = .agg cs) (t : TypeId) (old : Array Value) (hg : w.heap[g]? = some (.cells old t (0, 0)))
    (hi : (P.info? ty).map (·.size) = some cs.size) (hs : old.size = cs.size) (h1 : cs.all (·.oneCell') = true) :
    (execOp a.eval o).run P w = .ok .skip (w.setRow g cs) := by
  unfold execOp
  simp only [ho, hx, hy, Instr.storeAt, Instr.sureAddr, Sem.run_bind, Sem.run_pure, Result.andThen_ok, run_storeVar_row (P := P) w g t ty old cs hg hi hs h1]
theorem run_build_row1 (ty : TypeId) (j : Nat) (x : Operand) (ho : o.op = .build ty #[(j, x)]) (v : Value) (hx : a.eval x = v) (cells : Array Value) (h : P.built ty [(j, v)] = some cells) :
    (execOp a.eval o).run P w = .ok (.value (.agg cells)) w := by
  subst hx
  have h' : P.built ty (#[(j, a.eval x)] : Array (Nat × Value)).toList = some cells := h
  unfold execOp
  simp only [ho, Sem.run_bind, List.map_toArray, List.map_cons, List.map_nil, run_build w ty _ cells h', Result.andThen_ok]
  rfl
end

@[go_sem] theorem setRow_alloc (w : World) (g : Nat) (z cs : Array Value) (t : TypeId) (hg : g = w.heap.size) : (w.alloc (.cells z t)).setRow g cs = w.alloc (.cells cs t) := by
  subst hg
  simp only [World.setRow, World.alloc]
  congr 1
  apply Array.ext_getElem?
  intro i
  rw [Array.getElem?_modify, Array.getElem?_push, Array.getElem?_push]
  split <;> split <;> simp_all
theorem heap_setRow_same {w : World} {g : Nat} {old cs : Array Value} {t : TypeId} (hg : w.heap[g]? = some (.cells old t (0, 0))) : (w.setRow g cs).heap[g]? = some (.cells cs t (0, 0)) := setRow_heap w g old cs t (0, 0) hg
theorem heap_setRow_other (w : World) (g k : Nat) (cs : Array Value) (h : k ≠ g) : (w.setRow g cs).heap[k]? = w.heap[k]? := by
  simp only [World.setRow, Array.getElem?_modify]
  rw [if_neg (by omega)]
theorem bsetRow {w w1 : World} (h : Below w.heap.size w w1) {g : Nat} (hg : w.heap.size ≤ g) (cs : Array Value) : Below w.heap.size w (w1.setRow g cs) :=
  h.trans ⟨rfl, rfl, rfl, by simp, fun k hk => heap_setRow_other _ _ _ _ (by omega)⟩
end Go.Proofs.Ytdalilllakdamaa

/- The checks of package cloth: within, all, valid.. -/
namespace Go.Proofs.Ytdalilllakdamaa
open Go Go.RowKit

set_option maxHeartbeats 400000 in
theorem within_any (lo hi : Int) (xs : List Int) (v : Value) (w : World) (hs : Ints w v xs) :
    Calls Try.prog 23 #[iv lo, iv hi, v] w fun e w' => e = .returned (.bool (xs.all (inB lo hi))) ∧ w = w' := by
  obtain ⟨a, cap, rfl, hm, hc⟩ := hs
  go_enter Try.func23, Try.ntmps23
  go_wp2
  go_loop [11, 8] (fun i _ => ∃ k : Nat, k ≤ xs.length ∧ i = iv k ∧ (xs.take k).all (inB lo hi) = true) (fun i _ => xs.length - (intOf i).toNat)
  case atStart => exact ⟨0, Nat.zero_le _, rfl, by simp⟩
  case round =>
    obtain ⟨k, hk, rfl, hall⟩ := hrel
    have HA := Lib.hid hall; clear hall
    by_cases hlt : k < xs.length
    · obtain ⟨x, hx⟩ := getElem?_of_lt hlt
      obtain ⟨b, off, rfl, hj⟩ := hc k x hx
      have hcell := hj 0 (iv x) rfl
      simp only [Nat.mul_one, Nat.add_zero] at hcell
      have HX := Lib.hid hx; clear hx
      clear hj hc
      by_cases hin : lo ≤ x ∧ x ≤ hi
      · obtain ⟨h1, h2⟩ := hin
        have hp : Hid (inB lo hi x = true) := inB_iff.2 ⟨h1, h2⟩
        go_wp2
        go_round
        case rel => exact ⟨k + 1, by omega, by go_num, all_take_succ _ HX.out HA.out hp.out⟩
        case measure => simp [intOf]; omega
      · have hp : Hid (inB lo hi x = false) := by simp only [Hid, inB]; simpa using hin
        by_cases h1 : x < lo
        · go_wp2
          go_ret
          exact ⟨by rw [all_false_of _ HX.out hp.out]; rfl, rfl⟩
        · have h2 : hi < x := by omega
          go_wp2
          go_ret
          exact ⟨by rw [all_false_of _ HX.out hp.out]; rfl, rfl⟩
    · obtain rfl : k = xs.length := by omega
      have HT : Hid (xs.all (inB lo hi) = true) := by have := HA.out; rwa [List.take_of_length_le (Nat.le_refl _)] at this
      clear hc
      go_wp2
      go_ret
      exact ⟨by rw [HT.out]; rfl, rfl⟩

def vSpan (l h lo hi apart : Int) : Bool := inB lo hi l && inB lo hi h && inB 0 apart (h - l)
/-- A span from lo to hi. -/
def okSpan (l h lo hi : Int) : Bool := inB lo hi l && inB lo hi h && decide (l ≤ h)
theorem okSpan_iff {l h lo hi : Int} : okSpan l h lo hi = true ↔ lo ≤ l ∧ l ≤ hi ∧ lo ≤ h ∧ h ≤ hi ∧ l ≤ h := by simp [okSpan, inB]; omega

set_option maxHeartbeats 400000 in
theorem okSpan_any (l h lo hi : Int) (w : World) :
    Calls Try.prog 24 #[.agg #[iv l, iv h], iv lo, iv hi] w fun e w' => e = .returned (.bool (okSpan l h lo hi)) ∧ Below w.heap.size w w' := by
  cases hp : [l, h].all (inB lo hi)
  · have HB := Lib.hid hp
    have HV : Hid (okSpan l h lo hi = false) := by
      simp only [Hid]; rw [Bool.eq_false_iff]; intro hh; simp [okSpan, inB] at hh hp; omega
    clear hp
    go_enter Try.func24, Try.ntmps24
    go_wp2_with fail
    refine (within_any lo hi [l, h] _ _ (ints2 (by go_simp) (by go_simp))).mono ?_
    rintro e w' ⟨he, rfl⟩; rw [HB.out] at he; subst he
    go_wp2_with fail
    go_ret
    exact ⟨by rw [HV.out]; rfl, (by repeat (first | exact Below.refl _ _ | refine Below.drew ?_ | refine bpush ?_ _ | refine bput ?_ (by simp) _ | (refine bstep ?_ (by assumption))))⟩
  · have HB := Lib.hid hp
    have HV : Hid (okSpan l h lo hi = decide (l ≤ h)) := by
      simp [Hid, okSpan, inB] at hp ⊢; omega
    clear hp
    go_enter Try.func24, Try.ntmps24
    go_wp2_with fail
    refine (within_any lo hi [l, h] _ _ (ints2 (by go_simp) (by go_simp))).mono ?_
    rintro e w' ⟨he, rfl⟩; rw [HB.out] at he; subst he
    go_wp2_with fail
    go_ret
    exact ⟨by rw [HV.out]; rfl, (by repeat (first | exact Below.refl _ _ | refine Below.drew ?_ | refine bpush ?_ _ | refine bput ?_ (by simp) _ | (refine bstep ?_ (by assumption))))⟩

theorem within1 (lo hi x : Int) {b off cap : Nat} {w : World} (h : w.cell? ⟨b, off, none⟩ = some (iv x)) :
    Calls Try.prog 23 #[iv lo, iv hi, .slice (some ⟨b, off, none⟩) 1 cap] w fun e w' => e = .returned (.bool (inB lo hi x)) ∧ w = w' := by
  refine (within_any lo hi [x] _ _ (ints1 h)).mono ?_
  rintro e w' ⟨rfl, rfl⟩; exact ⟨by simp, rfl⟩

def vRate (l h : Int) : Bool := vSpan l h 0 100 30
def vSize (l h : Int) : Bool := vSpan l h 0 2000 2000

theorem vSize_ok (l h : Int) : vSize l h = okSpan l h 0 2000 := by
  rw [Bool.eq_iff_iff, okSpan_iff]; simp [vSize, vSpan, inB]; omega
structure Tk where
  (fl fh rl rh : Int)
structure Ms where
  (what hour reading off : Int)
def encT (t : Tk) : List Value := [iv t.fl, iv t.fh, iv t.rl, iv t.rh]
def encM (m : Ms) : List Value := [iv m.what, iv m.hour, iv m.reading, iv m.off]
def vTrack (t : Tk) : Bool := vSpan t.fl t.fh 1 2000 60 && vRate t.rl t.rh
def vMeas (m : Ms) : Bool := inB 0 2 m.what && (inB 0 48 m.hour && (inB 0 2000 m.reading && inB 0 20 m.off))

end Go.Proofs.Ytdalilllakdamaa

/- The checks of package cloth: validMeasure, all, Check. -/
namespace Go.Proofs.Ytdalilllakdamaa
open Go Go.RowKit

/-- A span. -/
abbrev Sp := Int × Int
def encS (p : Sp) : List Value := [iv p.1, iv p.2]
def vSizeP (p : Sp) : Bool := vSize p.1 p.2
def vRateP (p : Sp) : Bool := vRate p.1 p.2
end Go.Proofs.Ytdalilllakdamaa

/- Check of package cloth. -/
namespace Go.Proofs.Ytdalilllakdamaa
open Go Go.RowKit

def check (T : List Tk) (M : List Ms) : Int :=
  if T.length = 3 ∧ T.all vTrack = true then (if 8 < M.length then 5 else if M.all vMeas = true then 0 else 2) else 4

end Go.Proofs.Ytdalilllakdamaa

/- Truths: what a quantity is hour by hour, as a row of 50 cells; course and fits of package cloth. -/
namespace Go.Proofs.Ytdalilllakdamaa
open Go Go.RowKit

/-- What x becomes by the rate r in so many hours. -/
def aft (x r : Int) : Nat → Int
  | 0 => x
  | h + 1 => aft x r h - aft x r h * r / 1000

theorem aft_bd {x r : Int} (hx : 0 ≤ x) (hr : 0 ≤ r) (hr' : r ≤ 1000) : ∀ h, 0 ≤ aft x r h ∧ aft x r h ≤ x
  | 0 => ⟨hx, Int.le_refl _⟩
  | h + 1 => by
    obtain ⟨h1, h2⟩ := aft_bd hx hr hr' h
    unfold aft
    have h3 : 0 ≤ aft x r h * r := Int.mul_nonneg h1 hr
    have h4 : aft x r h * r ≤ aft x r h * 1000 := Int.mul_le_mul_of_nonneg_left hr' h1
    omega

/-- The row of a truth, filled in up to hour k. -/
def tpart (x r : Int) (k : Nat) : Array Value := Array.ofFn (n := 50) fun i => if i.val = 0 then iv r else if i.val ≤ k then iv (aft x r (i.val - 1)) else iv 0
def tvals (x r : Int) : Array Value := tpart x r 49
def zeroT : Array Value := Array.replicate 50 (iv 0)
theorem tpart_size (x r : Int) (k : Nat) : (tpart x r k).size = 50 := by simp [tpart]
theorem tvals_size (x r : Int) : (tvals x r).size = 50 := tpart_size x r 49
theorem tpart_get (x r : Int) (k i : Nat) : (tpart x r k)[i]? = if i < 50 then some (if i = 0 then iv r else if i ≤ k then iv (aft x r (i - 1)) else iv 0) else none := by
  simp only [tpart, Array.getElem?_ofFn]
  split <;> rfl
theorem zeroT_get (i : Nat) : zeroT[i]? = if i < 50 then some (iv 0) else none := by
  simp only [zeroT, Array.getElem?_replicate]
theorem zeroT_size : zeroT.size = 50 := by simp [zeroT]
theorem tpart_zero (x r : Int) : zeroT.setIfInBounds 0 (iv r) = tpart x r 0 := by
  apply Array.ext_getElem?
  intro i
  rw [Array.getElem?_setIfInBounds, tpart_get, zeroT_get, zeroT_size]
  by_cases h : 0 = i
  · subst h; simp
  · rw [if_neg h]
    split
    · rw [if_neg (by omega), if_neg (by omega)]
    · rfl
theorem tpart_succ (x r : Int) (k : Nat) : (tpart x r k).setIfInBounds (1 + k) (iv (aft x r k)) = tpart x r (k + 1) := by
  apply Array.ext_getElem?
  intro i
  rw [Array.getElem?_setIfInBounds, tpart_get, tpart_get, tpart_size]
  by_cases h : 1 + k = i
  · subst h
    rw [if_pos rfl]
    split
    · rw [if_neg (by omega), if_pos (by omega)]; congr 3; omega
    · rfl
  · rw [if_neg h]
    split
    · by_cases h0 : i = 0
      · rw [if_pos h0, if_pos h0]
      · rw [if_neg h0, if_neg h0]
        by_cases hk : i ≤ k
        · rw [if_pos hk, if_pos (by omega)]
        · rw [if_neg hk, if_neg (by omega)]
    · rfl
theorem tvals_rate (x r : Int) : (tvals x r)[0]? = some (iv r) := by rw [tvals, tpart_get]; simp
theorem tvals_hour (x r : Int) (h : Nat) (hh : h ≤ 48) : (tvals x r)[1 + h]? = some (iv (aft x r h)) := by
  rw [tvals, tpart_get, if_pos (by omega), if_neg (by omega), if_pos (by omega)]
  congr 3; omega
theorem tpart_one (x r : Int) (k : Nat) : (tpart x r k).all (·.oneCell') = true := by
  rw [Array.all_eq_true]
  intro i hi
  have h := tpart_get x r k i
  rw [Array.getElem?_eq_getElem hi] at h
  rw [tpart_size] at hi
  rw [if_pos hi] at h
  rw [Option.some.inj h]
  split
  · rfl
  · split <;> rfl
abbrev tval (x r : Int) : Value := .agg (tvals x r)

theorem heap_new (w : World) (z : Array Value) (t : TypeId) : (w.alloc (.cells z t)).heap[w.heap.size]? = some (.cells z t (0, 0)) := World.alloc_heap_new w _

end Go.Proofs.Ytdalilllakdamaa

/- truth.fits of package cloth. -/
namespace Go.Proofs.Ytdalilllakdamaa
open Go Go.RowKit

def fitsM (x r : Int) (m : Ms) : Bool := inB (-m.off) m.off (aft x r m.hour.toNat - m.reading)

end Go.Proofs.Ytdalilllakdamaa

/- Slices that a call appends to: owned rows as lists; append as one step. -/
namespace Go.Proofs.Ytdalilllakdamaa
open Go Go.RowKit

theorem flatMap_get {α : Type} {enc : α → List Value} {sz : Nat} (he : ∀ x, (enc x).length = sz) : ∀ (xs : List α) (i : Nat) (x : α), xs[i]? = some x → ∀ j u, (enc x)[j]? = some u → (xs.flatMap enc)[i * sz + j]? = some u
  | [], i, x, h, _, _, _ => by simp at h
  | y :: ys, 0, x, h, j, u, hu => by
    simp only [List.getElem?_cons_zero, Option.some.injEq] at h; subst h
    have hj : j < (enc y).length := (List.getElem?_eq_some_iff.1 hu).1
    simp only [List.flatMap_cons, Nat.zero_mul, Nat.zero_add]
    rw [List.getElem?_append_left hj]; exact hu
  | y :: ys, i + 1, x, h, j, u, hu => by
    simp only [List.getElem?_cons_succ] at h
    simp only [List.flatMap_cons]
    rw [List.getElem?_append_right (by rw [he]; exact Nat.le_trans (Nat.le_mul_of_pos_left _ (by omega)) (Nat.le_add_right _ _))]
    rw [he, show (i + 1) * sz + j - sz = i * sz + j from by rw [Nat.add_mul]; omega]
    exact flatMap_get he ys i x h j u hu
theorem flatMap_len {α : Type} {enc : α → List Value} {sz : Nat} (he : ∀ x, (enc x).length = sz) (xs : List α) : (xs.flatMap enc).length = xs.length * sz := by
  induction xs with
  | nil => simp
  | cons y ys ih => simp only [List.flatMap_cons, List.length_append, he, ih, List.length_cons, Nat.add_mul]; omega

/-- The slice v lies in memory that the call has made from block number base on, and holds xs. -/
abbrev Owns {α : Type} (enc : α → List Value) (sz : Nat) (e : TypeId) (base : Nat) (w : World) (v : Value) (xs : List α) : Prop := w.ownsRow base e sz v xs.length (xs.flatMap enc)

theorem Owns.slice {α : Type} {enc : α → List Value} {sz : Nat} {e base : Nat} {w : World} {v : Value} {xs : List α} (h : Owns enc sz e base w v xs) (he : ∀ x, (enc x).length = sz) (hb : xs.length ≤ 140737488355328) : SliceOf enc sz w v xs := by
  obtain ⟨h1, h2⟩ := h
  rcases h2 with ⟨rfl, h0⟩ | ⟨g, cap, cur, rfl, hg, hh, r1, r2, r3, r4⟩
  · have : xs = [] := List.eq_nil_of_length_eq_zero h0
    subst this; exact SliceOf.nil _ _ _ _ _
  · refine ⟨some ⟨g, 0, none⟩, cap, rfl, hb, fun i x hx => ⟨g, 0, rfl, fun j u hu => ?_⟩⟩
    have hget := flatMap_get he xs i x hx j u hu
    rw [cell_of_row _ _ _ _ _ _ hh, Nat.zero_add, ← Array.getElem?_toList]
    rw [← r4, List.getElem?_take] at hget
    split at hget
    · exact hget
    · simp at hget
theorem Owns.nil {α : Type} (enc : α → List Value) (sz e base : Nat) (w : World) : Owns enc sz e base w (.slice none 0 0) [] := World.ownsRow_nil w base e sz
theorem Owns.kept {α : Type} {enc : α → List Value} {sz : Nat} {e base : Nat} {w w' : World} {v : Value} {xs : List α} (h : Owns enc sz e base w v xs) (hb : Below w.heap.size w w') : Owns enc sz e base w' v xs :=
  World.ownsRow.kept (row := none) h ⟨hb.os, hb.tape, hb.output, hb.size, fun k hk _ => hb.block k hk⟩ (by cases v.ownBlock <;> simp)
theorem Owns.len {α : Type} {enc : α → List Value} {sz : Nat} {e base : Nat} {w : World} {v : Value} {xs : List α} (h : Owns enc sz e base w v xs) : ∃ a cap, v = .slice a xs.length cap := by
  rcases h.2 with ⟨rfl, h0⟩ | ⟨g, cap, cur, rfl, _⟩
  · exact ⟨none, 0, by rw [h0]⟩
  · exact ⟨_, _, rfl⟩

section
variable {P : Program} {ops : Array Oper} {rest : List Oper} {o : Oper} {a : Act} {w : World} {Q : Exit → Act → World → Prop}

theorem below_of_own {α : Type} {enc : α → List Value} {sz e base : Nat} {v : Value} {xs : List α} (hown : Owns enc sz e base w v xs) (b3 : base ≤ w.heap.size) {w' : World} (hg : w.grownBy w' v.ownBlock) : Below base w w' :=
  (Below.refl base w).grown hg b3 (fun k hk => (hown.lt k hk).1)

/-- s = append(s, y) -/
theorem L_append1 {α : Type} {enc : α → List Value} {sz e base bytes : Nat} {i : TypeInfo} {z v : Value} {xs : List α} {g c : Nat} (y : α)
    (hg : o.guard = none) (s x : Operand) (t : TypeId) (hop : o.op = Op.call { callee := Callee.builtin Builtin.append, args := #[s, x], argTypes := #[t, t] })
    (h1 : P.underlying t = some (.slice e)) (h2 : P.info? e = some i) (h3 : i.zero = some z) (h4 : i.size = sz) (h5 : i.bytes = bytes) (h6 : z.cells.size = sz) (h7 : 0 < sz)
    (he : ∀ x, (enc x).length = sz) (h1c : ∀ u ∈ enc y, u.oneCell' = true)
    (hs : a.eval s = v) (hx : a.eval x = .slice (some ⟨g, 0, none⟩) 1 c) (hown : Owns enc sz e base w v xs) (hc : ∀ j u, (enc y)[j]? = some u → w.cell? ⟨g, j, none⟩ = some u)
    (b2 : xs.length + 1 ≤ maxLen ∧ (xs.length + 1) * bytes ≤ 140737488355328) (b3 : base ≤ w.heap.size)
    (hK : ∀ v' w', Owns enc sz e base w' v' (xs ++ [y]) → Below base w w' → w.grownBy w' v.ownBlock → wpList P ops Q rest (a.put o.dst v') w') : wpList P ops Q (o :: rest) a w := by
  refine wpList_append_own w hg s x t hop base e i z sz bytes h1 h2 h3 h4 h5 h6 h7 v xs.length (xs.flatMap enc) hs hown ⟨g, 0, none⟩ 1 c (enc y) hx (by rw [he]; omega) (fun j u hu => ?_) h1c b2.1 b2.2 b3 (fun v' w' r1 r2 _ => ?_)
  · have hadd : (⟨g, 0, none⟩ : Addr).add j = ⟨g, j, none⟩ := by unfold Addr.add; split <;> simp_all
    rw [hadd]; exact hc j u hu
  · refine hK v' w' ?_ (below_of_own hown b3 r2) r2
    show w'.ownsRow base e sz v' (xs ++ [y]).length ((xs ++ [y]).flatMap enc)
    simpa using r1
theorem LI_append1 {F : Fence} {n : Nat} {α : Type} {enc : α → List Value} {sz e base bytes : Nat} {i : TypeInfo} {z v : Value} {xs : List α} {g c : Nat} (y : α)
    (hg : o.guard = none) (s x : Operand) (t : TypeId) (hop : o.op = Op.call { callee := Callee.builtin Builtin.append, args := #[s, x], argTypes := #[t, t] })
    (h1 : P.underlying t = some (.slice e)) (h2 : P.info? e = some i) (h3 : i.zero = some z) (h4 : i.size = sz) (h5 : i.bytes = bytes) (h6 : z.cells.size = sz) (h7 : 0 < sz)
    (he : ∀ x, (enc x).length = sz) (h1c : ∀ u ∈ enc y, u.oneCell' = true)
    (hs : a.eval s = v) (hx : a.eval x = .slice (some ⟨g, 0, none⟩) 1 c) (hown : Owns enc sz e base w v xs) (hc : ∀ j u, (enc y)[j]? = some u → w.cell? ⟨g, j, none⟩ = some u)
    (b2 : xs.length + 1 ≤ maxLen ∧ (xs.length + 1) * bytes ≤ 140737488355328) (b3 : base ≤ w.heap.size)
    (hK : ∀ v' w', Owns enc sz e base w' v' (xs ++ [y]) → Below base w w' → w.grownBy w' v.ownBlock → wpListIn F n P ops Q rest (a.put o.dst v') w') : wpListIn F n P ops Q (o :: rest) a w := by
  refine wpListIn_append_own w hg s x t hop base e i z sz bytes h1 h2 h3 h4 h5 h6 h7 v xs.length (xs.flatMap enc) hs hown ⟨g, 0, none⟩ 1 c (enc y) hx (by rw [he]; omega) (fun j u hu => ?_) h1c b2.1 b2.2 b3 (fun v' w' r1 r2 _ => ?_)
  · have hadd : (⟨g, 0, none⟩ : Addr).add j = ⟨g, j, none⟩ := by unfold Addr.add; split <;> simp_all
    rw [hadd]; exact hc j u hu
  · refine hK v' w' ?_ (below_of_own hown b3 r2) r2
    show w'.ownsRow base e sz v' (xs ++ [y]).length ((xs ++ [y]).flatMap enc)
    simpa using r1
end

theorem encI_len (n : Int) : (encI n).length = 1 := rfl
theorem encI_one (n : Int) : ∀ u ∈ encI n, u.oneCell' = true := by intro u hu; simp [encI] at hu; subst hu; rfl
theorem encI_cell {w : World} {g : Nat} {y : Int} (h : w.cell? ⟨g, 0, none⟩ = some (iv y)) : ∀ j u, (encI y)[j]? = some u → w.cell? ⟨g, j, none⟩ = some u := by
  intro j u hu
  rcases j with _ | j
  · simp [encI] at hu; subst hu; exact h
  · simp [encI] at hu
theorem info3 : (Try.prog.info? 3).map (fun i => (i.zero, i.size, i.bytes)) = some (some (.int .i64 0), 1, 8) := by kernel_rfl
end Go.Proofs.Ytdalilllakdamaa

/- quantity.against of package cloth. -/
namespace Go.Proofs.Ytdalilllakdamaa
open Go Go.RowKit

/-- Measuring number k is of this quantity, and wrong if x and r are true. -/
def bad (what : Int) (M : List Ms) (x r : Int) (k : Nat) : Bool :=
  match M[k]? with
  | some m => (m.what == what) && !fitsM x r m
  | none => false
def agTo (what : Int) (M : List Ms) (x r : Int) : Nat → List Int
  | 0 => []
  | k + 1 => agTo what M x r k ++ if bad what M x r k then [(k : Int)] else []
def ag (what : Int) (M : List Ms) (x r : Int) : List Int := agTo what M x r M.length
theorem agTo_len (what : Int) (M : List Ms) (x r : Int) (k : Nat) : (agTo what M x r k).length ≤ k := by
  induction k with
  | zero => simp [agTo]
  | succ k ih => simp only [agTo, List.length_append]; split <;> simp <;> omega

theorem bpush2 {w W wr : World} (h : Below (w.heap.size + 2) W wr) (hz : w.heap.size + 1 < wr.heap.size) (o : Obj) : Below (w.heap.size + 2) W (wr.alloc o) := h.alloc hz o
/-- The cells of a quantity. -/
def qcells (t : Tk) (what : Int) (mv : Value) : Array Value := #[iv t.fl, iv t.fh, iv t.rl, iv t.rh, iv what, mv]

end Go.Proofs.Ytdalilllakdamaa

/- quantity.courses of package cloth: the iterator. -/
namespace Go.Proofs.Ytdalilllakdamaa
open Go Go.RowKit
attribute [local go_sem] Oper.semAt_some

def ups (lo : Int) (n : Nat) : List Int := (List.range n).map fun (i : Nat) => lo + (i : Int)
theorem ups_zero (lo : Int) : ups lo 0 = [] := rfl
theorem ups_succ (lo : Int) (n : Nat) : ups lo (n + 1) = ups lo n ++ [lo + (n : Int)] := by simp [ups, List.range_succ]
/-- The first x rates, with one length. -/
def rowOf (t : Tk) (x : Int) (n : Nat) : List (Int × Int) := (ups t.rl n).map fun r => (x, r)
def crsTo (t : Tk) (i : Nat) : List (Int × Int) := (ups t.fl i).flatMap fun x => rowOf t x (t.rh + 1 - t.rl).toNat
/-- All lengths with all rates, in their order. -/
def crs (t : Tk) : List (Int × Int) := crsTo t (t.fh + 1 - t.fl).toNat
theorem crsTo_succ (t : Tk) (i : Nat) : crsTo t (i + 1) = crsTo t i ++ rowOf t (t.fl + (i : Int)) (t.rh + 1 - t.rl).toNat := by simp [crsTo, ups_succ]
theorem rowOf_succ (t : Tk) (x : Int) (n : Nat) : rowOf t x (n + 1) = rowOf t x n ++ [(x, t.rl + (n : Int))] := by simp [rowOf, ups_succ]
theorem ups_prefix (lo : Int) {a b : Nat} (h : a ≤ b) : ups lo a <+: ups lo b := by
  obtain ⟨c, rfl⟩ := Nat.le.dest h
  simp only [ups, List.range_add, List.map_append]
  exact List.prefix_append _ _
theorem rowOf_prefix (t : Tk) (x : Int) {a b : Nat} (h : a ≤ b) : rowOf t x a <+: rowOf t x b := by
  obtain ⟨c, hc⟩ := ups_prefix t.rl h
  exact ⟨c.map fun r => (x, r), by rw [rowOf, rowOf, ← hc, List.map_append]⟩
theorem crsTo_prefix (t : Tk) {a b : Nat} (h : a ≤ b) : crsTo t a <+: crsTo t b := by
  obtain ⟨c, hc⟩ := ups_prefix t.fl h
  exact ⟨_, by rw [crsTo, crsTo, ← hc, List.flatMap_append]⟩
theorem crs_prefix (t : Tk) {i j : Nat} (hi : i < (t.fh + 1 - t.fl).toNat) (hj : j < (t.rh + 1 - t.rl).toNat) : (crsTo t i ++ rowOf t (t.fl + (i : Int)) j) ++ [(t.fl + (i : Int), t.rl + (j : Int))] <+: crs t := by
  refine List.IsPrefix.trans ?_ (crsTo_prefix t (show i + 1 ≤ (t.fh + 1 - t.fl).toNat from hi))
  rw [crsTo_succ, List.append_assoc, ← rowOf_succ]
  exact List.prefix_append_right_inj _ |>.2 (rowOf_prefix t _ hj)

theorem vSpan_iff {l h lo hi apart : Int} : vSpan l h lo hi apart = true ↔ lo ≤ l ∧ l ≤ hi ∧ lo ≤ h ∧ h ≤ hi ∧ 0 ≤ h - l ∧ h - l ≤ apart := by simp [vSpan, inB]; omega

end Go.Proofs.Ytdalilllakdamaa

/- quantity.truths of package cloth: the iterator over an iterator. -/
namespace Go.Proofs.Ytdalilllakdamaa
open Go Go.RowKit Go.Shelf
attribute [local go_sem] Oper.semAt_some

def good (what : Int) (M : List Ms) (p : Int × Int) : Bool := (ag what M p.1 p.2).isEmpty
/-- The truths of a quantity. -/
def trs (t : Tk) (what : Int) (M : List Ms) : List (Int × Int) := (crs t).filter (good what M)

theorem qcells_size (t : Tk) (what : Int) (mv : Value) : (qcells t what mv).size = 6 := rfl
theorem Turn.alloc {T : Nat → Prop} {a b : World} (h : Turn T a b) (o : Obj) : Turn T a (b.alloc o) :=
  ⟨h.os, h.tape, h.output, by have := h.size; simp; omega, fun k hk hn => (Below.heap_alloc _ _ _ (by have := h.size; omega)).trans (h.same k hk hn)⟩
theorem Turn.trans {T : Nat → Prop} {a b c : World} (h : Turn T a b) (k : Turn T b c) : Turn T a c :=
  ⟨k.os.trans h.os, k.tape.trans h.tape, k.output.trans h.output, Nat.le_trans h.size k.size, fun i hi hn => (k.same i (Nat.lt_of_lt_of_le hi h.size) hn).trans (h.same i hi hn)⟩
theorem Turn.refl (T : Nat → Prop) (a : World) : Turn T a a := ⟨rfl, rfl, rfl, Nat.le_refl _, fun _ _ _ => rfl⟩
theorem Turn.mono {T T' : Nat → Prop} {a b : World} (h : Turn T a b) (ht : ∀ k, T k → T' k) : Turn T' a b := ⟨h.os, h.tape, h.output, h.size, fun k hk hn => h.same k hk (fun h' => hn (ht k h'))⟩

theorem crs_mem {t : Tk} {x r : Int} (h : (x, r) ∈ crs t) : t.fl ≤ x ∧ x ≤ t.fh ∧ t.rl ≤ r ∧ r ≤ t.rh := by
  simp only [crs, crsTo, rowOf, ups, List.mem_flatMap, List.mem_map, List.mem_range] at h
  obtain ⟨y, ⟨i, hi, rfl⟩, z, ⟨j, hj, rfl⟩, he⟩ := h
  simp only [Prod.mk.injEq] at he
  omega
theorem mem_of_prefix {α : Type} {pre xs : List α} {x : α} (h : (pre ++ [x]) <+: xs) : x ∈ xs := h.subset (by simp)
theorem round_any {m m' l' : Nat} {P : Program} {l : Nat} {f : FuncId} {tmps : Array Value} {assign body : Code} {w : World} {R : Ending → World → Prop} (h : RoundIn Fence.wide m P l f tmps assign body w R) : RoundIn (Fence.wide.inRound l') m' P l f tmps assign body w R :=
  ⟨h.1, fun c cs _ => h.2 c cs (room_wide _)⟩
theorem prefix_filter {α : Type} (p : α → Bool) {pre xs : List α} {x : α} (h : (pre ++ [x]) <+: xs) (hx : p x = true) : (pre.filter p ++ [x]) <+: xs.filter p := by
  have := h.filter p
  simpa [List.filter_append, hx] using this

end Go.Proofs.Ytdalilllakdamaa

/- quantity.possible of package cloth: whether a quantity has a truth. -/
namespace Go.Proofs.Ytdalilllakdamaa
open Go Go.RowKit Go.Shelf
attribute [local go_sem] Oper.semAt_some

theorem SliceOf.heapEq {α : Type} {enc : α → List Value} {sz : Nat} {w w' : World} {v : Value} {xs : List α} (h : SliceOf enc sz w v xs) (hb : ∀ k, k < w.heap.size → w'.heap[k]? = w.heap[k]?) : SliceOf enc sz w' v xs := by
  obtain ⟨a, cap, rfl, hl, hc⟩ := h
  refine ⟨a, cap, rfl, hl, fun i x hx => ?_⟩
  obtain ⟨b, off, ha, hj⟩ := hc i x hx
  exact ⟨b, off, ha, fun j u hu => (World.cell?_of_block (hb b (lt_of_cell (hj j u hu)))).trans (hj j u hu)⟩
theorem low_cell {B : Nat} {W W' : World} (hb : Below B W W') {b o : Nat} {v : Value} (hB : b < B) (h : W.cell? ⟨b, o, none⟩ = some v) : W'.cell? ⟨b, o, none⟩ = some v := (hb.cell (p := ⟨b, o, none⟩) hB).trans h
theorem low_frozen {B : Nat} {W W' : World} (hb : Below B W W') {b o : Nat} (hB : b < B) {v : Bool} (h : W.frozen? ⟨b, o, none⟩ = v) : W'.frozen? ⟨b, o, none⟩ = v := (hb.frozen (p := ⟨b, o, none⟩) hB).trans h
theorem put_cell {W : World} {D : Nat} {ds : List Deferred} {o : Obj} (hK : W.heap[D]? = some (.deferred (some ds))) {a : Addr} {v : Value} (h : W.cell? a = some v) : (W.putObj D o).cell? a = some v := by
  refine (World.cell?_of_block (World.putObj_heap_other (fun e => ?_))).trans h
  unfold World.cell? at h; rw [e, hK] at h; cases h
theorem put_below {w W : World} {D : Nat} {o : Obj} (h : Below w.heap.size w W) (hD : w.heap.size ≤ D) : Below w.heap.size w (W.putObj D o) :=
  h.trans ⟨rfl, rfl, rfl, by simp, fun k hk => World.putObj_heap_other (by omega)⟩

theorem run_loadVar_one {P : Program} {w : World} {ty : TypeId} {a : Addr} {v : Value} {d : TypeDesc} (hu : P.underlying ty = some d) (hd : (match d with | .struct _ | .array _ _ => true | _ => false) = false) (hc : w.cell? a = some v) :
    (loadVar ty a).run P w = .ok v w := by
  have hagg : (isAgg ty).run P w = .ok false w := by
    unfold isAgg
    rw [Sem.run_bind, run_underlying hu w]
    cases d <;> simp_all
  simp [loadVar, Sem.run_bind, hagg, load, Sem.run, hc]
theorem results_cell1 {P : Program} {fn : Func} {w : World} {p : Tmp} {ty : TypeId} {a : Addr} {v : Value} {d : TypeDesc} (h : fn.results = #[.cell p ty]) (tmps : Array Value) (hp : tmps.getD p undef = .pointer (some a))
    (hu : P.underlying ty = some d) (hd : (match d with | .struct _ | .array _ _ => true | _ => false) = false) (hc : w.cell? a = some v) : (results fn tmps).run P w = .ok v w := by
  have hp' : tmps[p]?.getD undef = .pointer (some a) := by simpa using hp
  simp [results, h, hp', asAddr, run_loadVar_one hu hd hc]
/-- What a quantity's value is made of, and that it is valid. -/
structure QOk (t : Tk) (what : Int) (mv : Value) (M : List Ms) (w : World) : Prop where
  tk : vTrack t = true
  ms : M.all vMeas = true
  len : M.length ≤ 1000000
  sl : SliceOf encM 4 w mv M
theorem QOk.below {t : Tk} {what : Int} {mv : Value} {M : List Ms} {w w' : World} (h : QOk t what mv M w) (hb : Below w.heap.size w w') : QOk t what mv M w' := ⟨h.tk, h.ms, h.len, h.sl.below hb⟩

end Go.Proofs.Ytdalilllakdamaa
