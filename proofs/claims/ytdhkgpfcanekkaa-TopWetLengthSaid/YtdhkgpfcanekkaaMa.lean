import Derived.Test.YtdhkgpfcanekkaaLog
import Derived.Deep.RegionHeld3
import Derived.IntWalk
/- Slices that read as lists; what of memory stays: plain lemmas about worlds. -/
namespace Go.Proofs.Ytdhkgpfcanekkaa
open Go Go.RowKit

abbrev iv (n : Int) : Value := .int .i64 n

/-- The slice v reads as the list xs, each element of sz cells. -/
def SliceOf {α : Type} (enc : α → List Value) (sz : Nat) (w : World) (v : Value) (xs : List α) : Prop :=
  ∃ a cap, v = .slice a xs.length cap ∧ xs.length ≤ 140737488355328 ∧
    ∀ i x, xs[i]? = some x → ∃ b off, a = some ⟨b, off, none⟩ ∧ ∀ j u, (enc x)[j]? = some u → w.cell? ⟨b, off + i * sz + j, none⟩ = some u

theorem lt_of_cell {w : World} {b o : Nat} {v : Value} (h : w.cell? ⟨b, o, none⟩ = some v) : b < w.heap.size := World.block_lt_of_cell? w _ h

/-- What the walk wants behind a call that has only made memory. -/
theorem bcell {W w1 : World} (hb : Below W.heap.size W w1) : (∀ b o, b < W.heap.size → w1.cell? ⟨b, o, none⟩ = W.cell? ⟨b, o, none⟩) ∧ (∀ b o, b < W.heap.size → w1.frozen? ⟨b, o, none⟩ = W.frozen? ⟨b, o, none⟩) :=
  ⟨fun b o h => hb.cell (p := ⟨b, o, none⟩) h, fun b o h => hb.frozen (p := ⟨b, o, none⟩) h⟩

theorem bpush {w w1 : World} (h : Below w.heap.size w w1) (o : Obj) : Below w.heap.size w (w1.alloc o) := h.alloc h.size o
theorem bput {w w1 : World} (h : Below w.heap.size w w1) {p : Addr} (hp : w.heap.size ≤ p.block) (v : Value) : Below w.heap.size w (w1.setCell p v) := h.setCell hp v
theorem bstep {w w1 w2 : World} (h : Below w.heap.size w w1) (k : Below w1.heap.size w1 w2) : Below w.heap.size w w2 := h.trans (k.mono h.size)

theorem SliceOf.below {α : Type} {enc : α → List Value} {sz : Nat} {w w' : World} {v : Value} {xs : List α} (h : SliceOf enc sz w v xs) (hb : Below w.heap.size w w') : SliceOf enc sz w' v xs := by
  obtain ⟨a, cap, rfl, hl, hc⟩ := h
  refine ⟨a, cap, rfl, hl, fun i x hx => ?_⟩
  obtain ⟨b, off, ha, hj⟩ := hc i x hx
  exact ⟨b, off, ha, fun j u hu => (hb.cell (p := ⟨b, _, none⟩) (lt_of_cell (hj j u hu))).trans (hj j u hu)⟩

theorem SliceOf.cellsEq {α : Type} {enc : α → List Value} {sz : Nat} {w w' : World} {v : Value} {xs : List α} (h : SliceOf enc sz w v xs) (hb : ∀ a u, w.cell? a = some u → w'.cell? a = some u) : SliceOf enc sz w' v xs := by
  obtain ⟨a, cap, rfl, hl, hc⟩ := h
  refine ⟨a, cap, rfl, hl, fun i x hx => ?_⟩
  obtain ⟨b, off, ha, hj⟩ := hc i x hx
  exact ⟨b, off, ha, fun j u hu => hb _ _ (hj j u hu)⟩

theorem SliceOf.len {α : Type} {enc : α → List Value} {sz : Nat} {w : World} {v : Value} {xs : List α} (h : SliceOf enc sz w v xs) : xs.length ≤ 140737488355328 := by
  obtain ⟨a, cap, rfl, hl, hc⟩ := h; exact hl

theorem SliceOf.nil {α : Type} (enc : α → List Value) (sz : Nat) (w : World) (a : Option Addr) (cap : Nat) : SliceOf enc sz w (.slice a 0 cap) [] :=
  ⟨a, cap, rfl, by simp, by simp⟩

def encI (n : Int) : List Value := [iv n]
abbrev Ints := SliceOf encI 1

theorem ints1 {w : World} {b off cap : Nat} {x : Int} (h : w.cell? ⟨b, off, none⟩ = some (iv x)) : Ints w (.slice (some ⟨b, off, none⟩) 1 cap) [x] := by
  refine ⟨_, cap, rfl, by simp, fun i y hy => ⟨b, off, rfl, fun j u hu => ?_⟩⟩
  rcases i with _ | i
  · simp at hy; subst hy
    rcases j with _ | j
    · simp [encI] at hu; subst hu; simpa using h
    · simp [encI] at hu
  · simp at hy
theorem ints2 {w : World} {b off cap : Nat} {x y : Int} (h : w.cell? ⟨b, off, none⟩ = some (iv x)) (h' : w.cell? ⟨b, off + 1, none⟩ = some (iv y)) : Ints w (.slice (some ⟨b, off, none⟩) 2 cap) [x, y] := by
  refine ⟨_, cap, rfl, by simp, fun i z hz => ⟨b, off, rfl, fun j u hu => ?_⟩⟩
  rcases j with _ | j
  · simp [encI] at hu; subst hu
    rcases i with _ | _ | i
    · simp at hz; subst hz; simpa using h
    · simp at hz; subst hz; simpa using h'
    · simp at hz
  · simp [encI] at hu

/-- The numbers between two others, all of them. -/
def inB (lo hi x : Int) : Bool := decide (lo ≤ x) && decide (x ≤ hi)
theorem inB_iff {lo hi x : Int} : inB lo hi x = true ↔ lo ≤ x ∧ x ≤ hi := by simp [inB]

theorem all_take_succ {α : Type} (p : α → Bool) {xs : List α} {k : Nat} {x : α} (hx : xs[k]? = some x) (h : (xs.take k).all p = true) (hp : p x = true) : (xs.take (k + 1)).all p = true := by
  rw [List.take_add_one, hx]; simp [List.all_append]; exact ⟨by simpa using h, hp⟩
theorem all_false_of {α : Type} (p : α → Bool) {xs : List α} {k : Nat} {x : α} (hx : xs[k]? = some x) (hp : p x = false) : xs.all p = false := by
  rw [List.all_eq_false]; exact ⟨x, List.mem_of_getElem? hx, by simp [hp]⟩
theorem getElem?_of_lt {α : Type} {xs : List α} {k : Nat} (h : k < xs.length) : ∃ x, xs[k]? = some x := ⟨xs[k], by simp [h]⟩
end Go.Proofs.Ytdhkgpfcanekkaa

/- Whole rows of cells, made, stored and read at once; walks inside a round and outside. -/
namespace Go.Proofs.Ytdhkgpfcanekkaa
open Go Go.RowKit

section
variable {P : Program} {ops : Array Oper} {rest : List Oper} {o : Oper} {a : Act} {w w' : World} {Q : Exit → Act → World → Prop}

theorem L_val (hgd : Region.wanted o (yielded ops a.tmps) = true) {v : Value} (hrun : (execOp a.eval o).run P w = .ok (.value v) w') (h : wpList P ops Q rest (a.put o.dst v) w') : wpList P ops Q (o :: rest) a w :=
  wpList_step fun K hK => by rw [if_pos hgd]; unfold Oper.wp; rw [hrun]; exact hK _ _ h
theorem L_skip (hgd : Region.wanted o (yielded ops a.tmps) = true) (hrun : (execOp a.eval o).run P w = .ok .skip w') (h : wpList P ops Q rest (a.put o.dst undef) w') : wpList P ops Q (o :: rest) a w :=
  wpList_step fun K hK => by rw [if_pos hgd]; unfold Oper.wp; rw [hrun]; exact hK _ _ h
theorem LI_val {F : Fence} {n : Nat} (hgd : Region.wanted o (yielded ops a.tmps) = true) (hc : ∀ c, o.op ≠ .call c) (hd : ∀ c, o.op ≠ .defer c) {v : Value} (hrun : (execOp a.eval o).run P w = .ok (.value v) w') (h : wpListIn F n P ops Q rest (a.put o.dst v) w') : wpListIn F n P ops Q (o :: rest) a w :=
  wpListIn_step fun K hK => by
    rw [if_pos hgd]
    refine ⟨?_, ?_⟩
    · intro f hf; cases ho : o.op <;> simp_all [Oper.about]
    · rw [Oper.semAt_eq _ _ _ hd, hrun]; exact hK _ _ h
theorem LI_skip {F : Fence} {n : Nat} (hgd : Region.wanted o (yielded ops a.tmps) = true) (hc : ∀ c, o.op ≠ .call c) (hd : ∀ c, o.op ≠ .defer c) (hrun : (execOp a.eval o).run P w = .ok .skip w') (h : wpListIn F n P ops Q rest (a.put o.dst undef) w') : wpListIn F n P ops Q (o :: rest) a w :=
  wpListIn_step fun K hK => by
    rw [if_pos hgd]
    refine ⟨?_, ?_⟩
    · intro f hf; cases ho : o.op <;> simp_all [Oper.about]
    · rw [Oper.semAt_eq _ _ _ hd, hrun]; exact hK _ _ h

theorem run_alloc_row (ty : TypeId) (z : Array Value) (hz : (P.info? ty).map (·.zero) = some (some (.agg z))) (ho : o.op = .alloc ty) :
    (execOp a.eval o).run P w = .ok (.value (.pointer (some ⟨w.heap.size, 0, none⟩))) (w.alloc (.cells z ty)) := by
  cases hq : P.info? ty with
  | none => simp [hq] at hz
  | some i =>
    have hz' : i.zero = some (.agg z) := by simpa [hq] using hz
    simp [execOp, ho, Instr.alloc, zeroValue, typeInfo, Sem.run_bind, hq, hz', Result.andThen, newVar, newRow, Value.cells]
theorem run_load_row (ty : TypeId) (x : Operand) (ho : o.op = .load ty x) (g : Nat) (hx : a.eval x = .pointer (some ⟨g, 0, none⟩)) (t : TypeId) (cs : Array Value) (d : TypeDesc) (hg : w.heap[g]? = some (.cells cs t (0, 0)))
    (hu : P.underlying ty = some d) (hd : (match d with | .struct _ | .array _ _ => true | _ => false) = true) (hi : (P.info? ty).map (·.size) = some cs.size) :
    (execOp a.eval o).run P w = .ok (.value (.agg cs)) w := by
  unfold execOp
  simp only [ho, hx, Instr.loadAt, Instr.sureAddr, Sem.run_bind, Sem.run_pure, Result.andThen_ok, run_loadVar_row w g t ty cs (0, 0) d hg hu hd hi]
theorem run_store_row (ty : TypeId) (x y : Operand) (ho : o.op = .store ty x y) (g : Nat) (hx : a.eval x = .pointer (some ⟨g, 0, none⟩)) (cs : Array Value) (hy : a.eval y = .agg cs) (t : TypeId) (old : Array Value) (hg : w.heap[g]? = some (.cells old t (0, 0)))
    (hi : (P.info? ty).map (·.size) = some cs.size) (hs : old.size = cs.size) (h1 : cs.all (·.oneCell') = true) :
    (execOp a.eval o).run P w = .ok .skip (w.setRow g cs) := by
  unfold execOp
  simp only [ho, hx, hy, Instr.storeAt, Instr.sureAddr, Sem.run_bind, Sem.run_pure, Result.andThen_ok, run_storeVar_row (P := P) w g t ty old cs hg hi hs h1]
theorem run_build_row1 (ty : TypeId) (j : Nat) (x : Operand) (ho : o.op = .build ty #[(j, x)]) (v : Value) (hx : a.eval x = v) (cells : Array Value) (h : P.built ty [(j, v)] = some cells) :
    (execOp a.eval o).run P w = .ok (.value (.agg cells)) w := by
  subst hx
  have h' : P.built ty (#[(j, a.eval x)] : Array (Nat × Value)).toList = some cells := h
  unfold execOp
  simp only [ho, Sem.run_bind, List.map_toArray, List.map_cons, List.map_nil, run_build w ty _ cells h', Result.andThen_ok]
  rfl
end

@[go_sem] theorem setRow_alloc (w : World) (g : Nat) (z cs : Array Value) (t : TypeId) (hg : g = w.heap.size) : (w.alloc (.cells z t)).setRow g cs = w.alloc (.cells cs t) := by
  subst hg
  simp only [World.setRow, World.alloc]
  congr 1
  apply Array.ext_getElem?
  intro i
  rw [Array.getElem?_modify, Array.getElem?_push, Array.getElem?_push]
  split <;> split <;> simp_all
theorem heap_setRow_same {w : World} {g : Nat} {old cs : Array Value} {t : TypeId} (hg : w.heap[g]? = some (.cells old t (0, 0))) : (w.setRow g cs).heap[g]? = some (.cells cs t (0, 0)) := setRow_heap w g old cs t (0, 0) hg
theorem heap_setRow_other (w : World) (g k : Nat) (cs : Array Value) (h : k ≠ g) : (w.setRow g cs).heap[k]? = w.heap[k]? := by
  simp only [World.setRow, Array.getElem?_modify]
  rw [if_neg (by omega)]
theorem bsetRow {w w1 : World} (h : Below w.heap.size w w1) {g : Nat} (hg : w.heap.size ≤ g) (cs : Array Value) : Below w.heap.size w (w1.setRow g cs) :=
  h.trans ⟨rfl, rfl, rfl, by simp, fun k hk => heap_setRow_other _ _ _ _ (by omega)⟩
end Go.Proofs.Ytdhkgpfcanekkaa

/- The checks of package cloth: within, all, valid.. -/
namespace Go.Proofs.Ytdhkgpfcanekkaa
open Go Go.RowKit

set_option maxHeartbeats 400000 in
theorem within_any (lo hi : Int) (xs : List Int) (v : Value) (w : World) (hs : Ints w v xs) :
    Calls Try.prog 14 #[iv lo, iv hi, v] w fun e w' => e = .returned (.bool (xs.all (inB lo hi))) ∧ w = w' := by
  obtain ⟨a, cap, rfl, hm, hc⟩ := hs
  go_enter Try.func14, Try.ntmps14
  go_wp2
  go_loop [11, 8] (fun i _ => ∃ k : Nat, k ≤ xs.length ∧ i = iv k ∧ (xs.take k).all (inB lo hi) = true) (fun i _ => xs.length - (intOf i).toNat)
  case atStart => exact ⟨0, Nat.zero_le _, rfl, by simp⟩
  case round =>
    obtain ⟨k, hk, rfl, hall⟩ := hrel
    have HA := Lib.hid hall; clear hall
    by_cases hlt : k < xs.length
    · obtain ⟨x, hx⟩ := getElem?_of_lt hlt
      obtain ⟨b, off, rfl, hj⟩ := hc k x hx
      have hcell := hj 0 (iv x) rfl
      simp only [Nat.mul_one, Nat.add_zero] at hcell
      have HX := Lib.hid hx; clear hx
      clear hj hc
      by_cases hin : lo ≤ x ∧ x ≤ hi
      · obtain ⟨h1, h2⟩ := hin
        have hp : Hid (inB lo hi x = true) := inB_iff.2 ⟨h1, h2⟩
        go_wp2
        go_round
        case rel => exact ⟨k + 1, by omega, by go_num, all_take_succ _ HX.out HA.out hp.out⟩
        case measure => simp [intOf]; omega
      · have hp : Hid (inB lo hi x = false) := by simp only [Hid, inB]; simpa using hin
        by_cases h1 : x < lo
        · go_wp2
          go_ret
          exact ⟨by rw [all_false_of _ HX.out hp.out]; rfl, rfl⟩
        · have h2 : hi < x := by omega
          go_wp2
          go_ret
          exact ⟨by rw [all_false_of _ HX.out hp.out]; rfl, rfl⟩
    · obtain rfl : k = xs.length := by omega
      have HT : Hid (xs.all (inB lo hi) = true) := by have := HA.out; rwa [List.take_of_length_le (Nat.le_refl _)] at this
      clear hc
      go_wp2
      go_ret
      exact ⟨by rw [HT.out]; rfl, rfl⟩

def vSpan (l h lo hi apart : Int) : Bool := inB lo hi l && inB lo hi h && inB 0 apart (h - l)
/-- A span from lo to hi. -/
def okSpan (l h lo hi : Int) : Bool := inB lo hi l && inB lo hi h && decide (l ≤ h)
theorem okSpan_iff {l h lo hi : Int} : okSpan l h lo hi = true ↔ lo ≤ l ∧ l ≤ hi ∧ lo ≤ h ∧ h ≤ hi ∧ l ≤ h := by simp [okSpan, inB]; omega

set_option maxHeartbeats 400000 in
theorem okSpan_any (l h lo hi : Int) (w : World) :
    Calls Try.prog 56 #[.agg #[iv l, iv h], iv lo, iv hi] w fun e w' => e = .returned (.bool (okSpan l h lo hi)) ∧ Below w.heap.size w w' := by
  cases hp : [l, h].all (inB lo hi)
  · have HB := Lib.hid hp
    have HV : Hid (okSpan l h lo hi = false) := by
      simp only [Hid]; rw [Bool.eq_false_iff]; intro hh; simp [okSpan, inB] at hh hp; omega
    clear hp
    go_enter Try.func56, Try.ntmps56
    go_wp2_with fail
    refine (within_any lo hi [l, h] _ _ (ints2 (by go_simp) (by go_simp))).mono ?_
    rintro e w' ⟨he, rfl⟩; rw [HB.out] at he; subst he
    go_wp2_with fail
    go_ret
    exact ⟨by rw [HV.out]; rfl, (by repeat (first | exact Below.refl _ _ | refine Below.drew ?_ | refine bpush ?_ _ | refine bput ?_ (by simp) _ | (refine bstep ?_ (by assumption))))⟩
  · have HB := Lib.hid hp
    have HV : Hid (okSpan l h lo hi = decide (l ≤ h)) := by
      simp [Hid, okSpan, inB] at hp ⊢; omega
    clear hp
    go_enter Try.func56, Try.ntmps56
    go_wp2_with fail
    refine (within_any lo hi [l, h] _ _ (ints2 (by go_simp) (by go_simp))).mono ?_
    rintro e w' ⟨he, rfl⟩; rw [HB.out] at he; subst he
    go_wp2_with fail
    go_ret
    exact ⟨by rw [HV.out]; rfl, (by repeat (first | exact Below.refl _ _ | refine Below.drew ?_ | refine bpush ?_ _ | refine bput ?_ (by simp) _ | (refine bstep ?_ (by assumption))))⟩

set_option maxHeartbeats 400000 in
theorem validSpan_any (l h lo hi apart : Int) (w : World) (h0 : 0 ≤ lo) (h1 : hi ≤ 1000000) :
    Calls Try.prog 50 #[.agg #[iv l, iv h], iv lo, iv hi, iv apart] w fun e w' => e = .returned (.bool (vSpan l h lo hi apart)) ∧ Below w.heap.size w w' := by
  cases hp : okSpan l h lo hi
  · have HB := Lib.hid hp
    have HV : Hid (vSpan l h lo hi apart = false) := by
      simp only [Hid]; rw [Bool.eq_false_iff]; intro hh; simp [vSpan, inB] at hh; simp [okSpan, inB] at hp; omega
    clear hp
    go_enter Try.func50, Try.ntmps50
    go_wp2_with fail
    refine (okSpan_any l h lo hi _).mono ?_
    rintro e w1 ⟨he, hb⟩; rw [HB.out] at he; subst he
    go_wp2_with fail
    go_ret
    exact ⟨by rw [HV.out]; rfl, (by repeat (first | exact Below.refl _ _ | refine Below.drew ?_ | refine bpush ?_ _ | refine bput ?_ (by simp) _ | (refine bstep ?_ (by assumption))))⟩
  · have HB := Lib.hid hp
    obtain ⟨p1, p2, p3, p4, p5⟩ := okSpan_iff.1 hp
    have HV : Hid (vSpan l h lo hi apart = decide (h - l ≤ apart)) := by
      simp [Hid, vSpan, inB, p1, p2, p3, p4]; omega
    clear hp
    go_enter Try.func50, Try.ntmps50
    go_wp2_with fail
    refine (okSpan_any l h lo hi _).mono ?_
    rintro e w1 ⟨he, hb⟩; rw [HB.out] at he; subst he
    obtain ⟨hbc, hbf⟩ := bcell hb
    have hbz := hb.size
    simp [Nat.add_one_le_iff] at hbz
    go_wp2_with fail
    go_ret
    exact ⟨by rw [HV.out]; rfl, (by repeat (first | exact Below.refl _ _ | refine Below.drew ?_ | refine bpush ?_ _ | refine bput ?_ (by simp) _ | (refine bstep ?_ (by assumption))))⟩

theorem within1 (lo hi x : Int) {b off cap : Nat} {w : World} (h : w.cell? ⟨b, off, none⟩ = some (iv x)) :
    Calls Try.prog 14 #[iv lo, iv hi, .slice (some ⟨b, off, none⟩) 1 cap] w fun e w' => e = .returned (.bool (inB lo hi x)) ∧ w = w' := by
  refine (within_any lo hi [x] _ _ (ints1 h)).mono ?_
  rintro e w' ⟨rfl, rfl⟩; exact ⟨by simp, rfl⟩

def vRate (l h : Int) : Bool := vSpan l h 0 100 30
def vSize (l h : Int) : Bool := vSpan l h 0 2000 2000

set_option maxHeartbeats 400000 in
theorem validRate_any (l h : Int) (w : World) :
    Calls Try.prog 51 #[.agg #[iv l, iv h]] w fun e w' => e = .returned (.bool (vRate l h)) ∧ Below w.heap.size w w' := by
  go_enter Try.func51, Try.ntmps51
  go_wp2_with fail
  refine (validSpan_any l h 0 100 30 _ (by omega) (by omega)).mono ?_
  rintro e w' ⟨rfl, hb⟩
  go_wp2_with fail
  go_ret
  exact ⟨rfl, (by repeat (first | exact Below.refl _ _ | refine Below.drew ?_ | refine bpush ?_ _ | refine bput ?_ (by simp) _ | (refine bstep ?_ (by assumption))))⟩

theorem vSize_ok (l h : Int) : vSize l h = okSpan l h 0 2000 := by
  rw [Bool.eq_iff_iff, okSpan_iff]; simp [vSize, vSpan, inB]; omega
structure Tk where
  (fl fh rl rh : Int)
structure Ms where
  (what hour reading off : Int)
def encT (t : Tk) : List Value := [iv t.fl, iv t.fh, iv t.rl, iv t.rh]
def encM (m : Ms) : List Value := [iv m.what, iv m.hour, iv m.reading, iv m.off]
def vTrack (t : Tk) : Bool := vSpan t.fl t.fh 1 2000 60 && vRate t.rl t.rh
def vMeas (m : Ms) : Bool := inB 0 2 m.what && (inB 0 48 m.hour && (inB 0 2000 m.reading && inB 0 20 m.off))

set_option maxHeartbeats 800000 in
theorem validTrack_any (t : Tk) (w : World) :
    Calls Try.prog 35 #[.agg (encT t).toArray] w fun e w' => e = .returned (.bool (vTrack t)) ∧ Below w.heap.size w w' := by
  obtain ⟨a, b, c, d⟩ := t
  simp only [encT]
  cases h1 : vSpan a b 1 2000 60
  · go_enter Try.func35, Try.ntmps35
    go_wp2_with fail
    refine (validSpan_any a b 1 2000 60 _ (by omega) (by omega)).mono ?_
    rintro e w' ⟨rfl, hb⟩
    go_wp2_with fail
    go_ret
    exact ⟨by simp [vTrack, h1], (by repeat (first | exact Below.refl _ _ | refine Below.drew ?_ | refine bpush ?_ _ | refine bput ?_ (by simp) _ | (refine bstep ?_ (by assumption))))⟩
  · go_enter Try.func35, Try.ntmps35
    go_wp2_with fail
    refine (validSpan_any a b 1 2000 60 _ (by omega) (by omega)).mono ?_
    rintro e w1 ⟨rfl, hb⟩
    obtain ⟨hbc, hbf⟩ := bcell hb
    have hbz := hb.size
    simp [Nat.add_one_le_iff] at hbz
    go_wp2_with fail
    refine (validRate_any c d _).mono ?_
    rintro e w2 ⟨rfl, hb2⟩
    go_wp2_with fail
    go_ret
    exact ⟨by simp [vTrack, h1], (by repeat (first | exact Below.refl _ _ | refine Below.drew ?_ | refine bpush ?_ _ | refine bput ?_ (by simp) _ | (refine bstep ?_ (by assumption))))⟩

set_option maxHeartbeats 400000 in
theorem validWhat_any (a : Int) (w : World) :
    Calls Try.prog 52 #[iv a] w fun e w' => e = .returned (.bool (inB 0 2 a)) ∧ Below w.heap.size w w' := by
  go_enter Try.func52, Try.ntmps52
  go_wp2_with fail
  refine (within1 0 2 a (by go_simp)).mono ?_
  rintro e w' ⟨rfl, rfl⟩
  go_wp2_with fail
  go_ret
  exact ⟨rfl, (by repeat (first | exact Below.refl _ _ | refine Below.drew ?_ | refine bpush ?_ _ | refine bput ?_ (by simp) _ | (refine bstep ?_ (by assumption))))⟩
end Go.Proofs.Ytdhkgpfcanekkaa

/- The checks of package cloth: validMeasure, all, Check. -/
namespace Go.Proofs.Ytdhkgpfcanekkaa
open Go Go.RowKit

set_option maxHeartbeats 1600000 in
theorem validMeasure_any (m : Ms) (w : World) :
    Calls Try.prog 37 #[.agg (encM m).toArray] w fun e w' => e = .returned (.bool (vMeas m)) ∧ Below w.heap.size w w' := by
  obtain ⟨a, b, c, d⟩ := m
  simp only [encM]
  cases h1 : inB 0 2 a
  · go_enter Try.func37, Try.ntmps37
    go_wp2_with fail
    refine (validWhat_any a _).mono ?_
    rintro e w1 ⟨rfl, hb⟩
    obtain ⟨hbc, hbf⟩ := bcell hb
    have hbz := hb.size
    simp [Nat.add_one_le_iff] at hbz
    
    go_wp2_with fail
    go_ret
    exact ⟨by simp [vMeas, h1], (by repeat (first | exact Below.refl _ _ | refine Below.drew ?_ | refine bpush ?_ _ | refine bput ?_ (by simp) _ | (refine bstep ?_ (by assumption))))⟩
  cases h2 : inB 0 48 b
  · go_enter Try.func37, Try.ntmps37
    go_wp2_with fail
    refine (validWhat_any a _).mono ?_
    rintro e w1 ⟨rfl, hb⟩
    obtain ⟨hbc, hbf⟩ := bcell hb
    have hbz := hb.size
    simp [Nat.add_one_le_iff] at hbz
    go_wp2_with fail
    refine (within1 0 48 b (by go_simp)).mono ?_
    rintro e w_ ⟨rfl, rfl⟩
    go_wp2_with fail
    go_ret
    exact ⟨by simp [vMeas, h1, h2], (by repeat (first | exact Below.refl _ _ | refine Below.drew ?_ | refine bpush ?_ _ | refine bput ?_ (by simp) _ | (refine bstep ?_ (by assumption))))⟩
  cases h3 : inB 0 2000 c
  · go_enter Try.func37, Try.ntmps37
    go_wp2_with fail
    refine (validWhat_any a _).mono ?_
    rintro e w1 ⟨rfl, hb⟩
    obtain ⟨hbc, hbf⟩ := bcell hb
    have hbz := hb.size
    simp [Nat.add_one_le_iff] at hbz
    go_wp2_with fail
    refine (within1 0 48 b (by go_simp)).mono ?_
    rintro e w_ ⟨rfl, rfl⟩
    go_wp2_with fail
    refine (within1 0 2000 c (by go_simp)).mono ?_
    rintro e w_ ⟨rfl, rfl⟩
    go_wp2_with fail
    go_ret
    exact ⟨by simp [vMeas, h1, h2, h3], (by repeat (first | exact Below.refl _ _ | refine Below.drew ?_ | refine bpush ?_ _ | refine bput ?_ (by simp) _ | (refine bstep ?_ (by assumption))))⟩
  · go_enter Try.func37, Try.ntmps37
    go_wp2_with fail
    refine (validWhat_any a _).mono ?_
    rintro e w1 ⟨rfl, hb⟩
    obtain ⟨hbc, hbf⟩ := bcell hb
    have hbz := hb.size
    simp [Nat.add_one_le_iff] at hbz
    go_wp2_with fail
    refine (within1 0 48 b (by go_simp)).mono ?_
    rintro e w_ ⟨rfl, rfl⟩
    go_wp2_with fail
    refine (within1 0 2000 c (by go_simp)).mono ?_
    rintro e w_ ⟨rfl, rfl⟩
    go_wp2_with fail
    refine (within1 0 20 d (by go_simp)).mono ?_
    rintro e w_ ⟨rfl, rfl⟩
    go_wp2_with fail
    go_ret
    exact ⟨by simp [vMeas, h1, h2, h3], (by repeat (first | exact Below.refl _ _ | refine Below.drew ?_ | refine bpush ?_ _ | refine bput ?_ (by simp) _ | (refine bstep ?_ (by assumption))))⟩

set_option maxHeartbeats 1600000 in
theorem allT_any (xs : List Tk) (v : Value) (w : World) (hs : SliceOf encT 4 w v xs) :
    Calls Try.prog 34 #[.func (.func 35) #[] #[], v] w fun e w' => e = .returned (.bool (xs.all vTrack)) ∧ Below w.heap.size w w' := by
  obtain ⟨a, cap, rfl, hm, hc⟩ := hs
  go_enter Try.func34, Try.ntmps34
  go_wp2
  go_loopw [9, 6] (fun i _ wr => ∃ k : Nat, k ≤ xs.length ∧ i = iv k ∧ (xs.take k).all vTrack = true ∧ Below w.heap.size w wr) (fun i _ _ => xs.length - (intOf i).toNat)
  case atStart => exact ⟨0, Nat.zero_le _, rfl, by simp, Below.refl _ _⟩
  case round =>
    obtain ⟨k, hk, rfl, hall, hbw⟩ := hrel
    have HA := Lib.hid hall; clear hall
    by_cases hlt : k < xs.length
    · obtain ⟨x, hx⟩ := getElem?_of_lt hlt
      obtain ⟨b, off, rfl, hj⟩ := hc k x hx
      have hcell : ∀ j u, (encT x)[j]? = some u → wr.cell? ⟨b, off + k * 4 + j, none⟩ = some u := fun j u hu => (hbw.cell (p := ⟨b, _, none⟩) (lt_of_cell (hj j u hu))).trans (hj j u hu)
      have HX := Lib.hid hx; clear hx hj hc
      have c0 := hcell 0 _ rfl
      have c1 := hcell 1 _ rfl
      have c2 := hcell 2 _ rfl
      have c3 := hcell 3 _ rfl
      simp only [Nat.add_zero] at c0
      clear hcell
      cases hp : vTrack x
      · have HP := Lib.hid hp; clear hp
        go_wp2_with fail
        refine (validTrack_any x _).mono ?_
        rintro e w1 ⟨he, hb⟩
        rw [HP.out] at he; subst he
        go_wp2_with fail
        go_ret
        exact ⟨by rw [all_false_of _ HX.out HP.out]; rfl, bstep (bpush hbw _) hb⟩
      · have HP := Lib.hid hp; clear hp
        go_wp2_with fail
        refine (validTrack_any x _).mono ?_
        rintro e w1 ⟨he, hb⟩
        rw [HP.out] at he; subst he
        go_wp2_with fail
        go_roundw
        case rel => exact ⟨k + 1, by omega, by go_num, all_take_succ _ HX.out HA.out HP.out, bstep (bpush hbw _) hb⟩
        case measure => simp [intOf]; omega
    · obtain rfl : k = xs.length := by omega
      have HT : Hid (xs.all vTrack = true) := by have := HA.out; rwa [List.take_of_length_le (Nat.le_refl _)] at this
      clear hc
      go_wp2
      go_ret
      exact ⟨by rw [HT.out]; rfl, hbw⟩

set_option maxHeartbeats 1600000 in
theorem allM_any (xs : List Ms) (v : Value) (w : World) (hs : SliceOf encM 4 w v xs) :
    Calls Try.prog 36 #[.func (.func 37) #[] #[], v] w fun e w' => e = .returned (.bool (xs.all vMeas)) ∧ Below w.heap.size w w' := by
  obtain ⟨a, cap, rfl, hm, hc⟩ := hs
  go_enter Try.func36, Try.ntmps36
  go_wp2
  go_loopw [9, 6] (fun i _ wr => ∃ k : Nat, k ≤ xs.length ∧ i = iv k ∧ (xs.take k).all vMeas = true ∧ Below w.heap.size w wr) (fun i _ _ => xs.length - (intOf i).toNat)
  case atStart => exact ⟨0, Nat.zero_le _, rfl, by simp, Below.refl _ _⟩
  case round =>
    obtain ⟨k, hk, rfl, hall, hbw⟩ := hrel
    have HA := Lib.hid hall; clear hall
    by_cases hlt : k < xs.length
    · obtain ⟨x, hx⟩ := getElem?_of_lt hlt
      obtain ⟨b, off, rfl, hj⟩ := hc k x hx
      have hcell : ∀ j u, (encM x)[j]? = some u → wr.cell? ⟨b, off + k * 4 + j, none⟩ = some u := fun j u hu => (hbw.cell (p := ⟨b, _, none⟩) (lt_of_cell (hj j u hu))).trans (hj j u hu)
      have HX := Lib.hid hx; clear hx hj hc
      have c0 := hcell 0 _ rfl
      have c1 := hcell 1 _ rfl
      have c2 := hcell 2 _ rfl
      have c3 := hcell 3 _ rfl
      simp only [Nat.add_zero] at c0
      clear hcell
      cases hp : vMeas x
      · have HP := Lib.hid hp; clear hp
        go_wp2_with fail
        refine (validMeasure_any x _).mono ?_
        rintro e w1 ⟨he, hb⟩
        rw [HP.out] at he; subst he
        go_wp2_with fail
        go_ret
        exact ⟨by rw [all_false_of _ HX.out HP.out]; rfl, bstep (bpush hbw _) hb⟩
      · have HP := Lib.hid hp; clear hp
        go_wp2_with fail
        refine (validMeasure_any x _).mono ?_
        rintro e w1 ⟨he, hb⟩
        rw [HP.out] at he; subst he
        go_wp2_with fail
        go_roundw
        case rel => exact ⟨k + 1, by omega, by go_num, all_take_succ _ HX.out HA.out HP.out, bstep (bpush hbw _) hb⟩
        case measure => simp [intOf]; omega
    · obtain rfl : k = xs.length := by omega
      have HT : Hid (xs.all vMeas = true) := by have := HA.out; rwa [List.take_of_length_le (Nat.le_refl _)] at this
      clear hc
      go_wp2
      go_ret
      exact ⟨by rw [HT.out]; rfl, hbw⟩

/-- A span. -/
abbrev Sp := Int × Int
def encS (p : Sp) : List Value := [iv p.1, iv p.2]
def vSizeP (p : Sp) : Bool := vSize p.1 p.2
def vRateP (p : Sp) : Bool := vRate p.1 p.2
theorem validRateP_any (p : Sp) (w : World) : Calls Try.prog 51 #[.agg (encS p).toArray] w fun e w' => e = .returned (.bool (vRateP p)) ∧ Below w.heap.size w w' := validRate_any p.1 p.2 w

set_option maxHeartbeats 1600000 in
theorem allR_any (xs : List Sp) (v : Value) (w : World) (hs : SliceOf encS 2 w v xs) :
    Calls Try.prog 57 #[.func (.func 51) #[] #[], v] w fun e w' => e = .returned (.bool (xs.all vRateP)) ∧ Below w.heap.size w w' := by
  obtain ⟨a, cap, rfl, hm, hc⟩ := hs
  go_enter Try.func57, Try.ntmps57
  go_wp2
  go_loopw [9, 6] (fun i _ wr => ∃ k : Nat, k ≤ xs.length ∧ i = iv k ∧ (xs.take k).all vRateP = true ∧ Below w.heap.size w wr) (fun i _ _ => xs.length - (intOf i).toNat)
  case atStart => exact ⟨0, Nat.zero_le _, rfl, by simp, Below.refl _ _⟩
  case round =>
    obtain ⟨k, hk, rfl, hall, hbw⟩ := hrel
    have HA := Lib.hid hall; clear hall
    by_cases hlt : k < xs.length
    · obtain ⟨x, hx⟩ := getElem?_of_lt hlt
      obtain ⟨b, off, rfl, hj⟩ := hc k x hx
      have hcell : ∀ j u, (encS x)[j]? = some u → wr.cell? ⟨b, off + k * 2 + j, none⟩ = some u := fun j u hu => (hbw.cell (p := ⟨b, _, none⟩) (lt_of_cell (hj j u hu))).trans (hj j u hu)
      have HX := Lib.hid hx; clear hx hj hc
      have c0 := hcell 0 _ rfl
      have c1 := hcell 1 _ rfl
      simp only [Nat.add_zero] at c0
      clear hcell
      cases hp : vRateP x
      · have HP := Lib.hid hp; clear hp
        go_wp2_with fail
        refine (validRateP_any x _).mono ?_
        rintro e w1 ⟨he, hb⟩
        rw [HP.out] at he; subst he
        go_wp2_with fail
        go_ret
        exact ⟨by rw [all_false_of _ HX.out HP.out]; rfl, bstep (bpush hbw _) hb⟩
      · have HP := Lib.hid hp; clear hp
        go_wp2_with fail
        refine (validRateP_any x _).mono ?_
        rintro e w1 ⟨he, hb⟩
        rw [HP.out] at he; subst he
        go_wp2_with fail
        go_roundw
        case rel => exact ⟨k + 1, by omega, by go_num, all_take_succ _ HX.out HA.out HP.out, bstep (bpush hbw _) hb⟩
        case measure => simp [intOf]; omega
    · obtain rfl : k = xs.length := by omega
      have HT : Hid (xs.all vRateP = true) := by have := HA.out; rwa [List.take_of_length_le (Nat.le_refl _)] at this
      clear hc
      go_wp2
      go_ret
      exact ⟨by rw [HT.out]; rfl, hbw⟩

end Go.Proofs.Ytdhkgpfcanekkaa

/- Check of package cloth. -/
namespace Go.Proofs.Ytdhkgpfcanekkaa
open Go Go.RowKit

def check (T : List Tk) (M : List Ms) : Int :=
  if T.length = 3 ∧ T.all vTrack = true then (if 8 < M.length then 5 else if M.all vMeas = true then 0 else 2) else 4

set_option maxHeartbeats 1600000 in
theorem Check_any (T : List Tk) (M : List Ms) (tv mv : Value) (w : World) (ht : SliceOf encT 4 w tv T) (hm : SliceOf encM 4 w mv M) :
    Calls Try.prog 26 #[.agg #[tv, mv]] w fun e w' => e = .returned (iv (check T M)) ∧ Below w.heap.size w w' := by
  have ht' := Lib.hid ht
  have hm' := Lib.hid hm
  obtain ⟨ta, tc, rfl, htl, -⟩ := ht
  obtain ⟨ma, mc, rfl, hml, -⟩ := hm
  by_cases h3 : T.length = 3
  · have e1 : ((T.length : Int) != 3) = false := by simp [h3]
    cases hT : T.all vTrack
    · have hr : Hid (check T M = 4) := by simp [Hid, check, h3, hT]
      have h3' := Lib.hid h3
      have hT' := Lib.hid hT
      clear h3 hT
      go_enter Try.func26, Try.ntmps26
      go_wp2_with fail
      refine (allT_any T _ _ (ht'.out.below (by repeat (first | exact Below.refl _ _ | refine Below.drew ?_ | refine bpush ?_ _ | refine bput ?_ (by simp) _ | (refine bstep ?_ (by assumption)))))).mono ?_
      rintro e w1 ⟨he, hb⟩; rw [hT'.out] at he; subst he
      go_wp2_with fail
      go_ret
      exact ⟨by rw [hr.out]; rfl, (by repeat (first | exact Below.refl _ _ | refine Below.drew ?_ | refine bpush ?_ _ | refine bput ?_ (by simp) _ | (refine bstep ?_ (by assumption))))⟩
    · by_cases h8 : 8 < M.length
      · have hr : Hid (check T M = 5) := by simp [Hid, check, h3, hT, h8]
        have h3' := Lib.hid h3
        have hT' := Lib.hid hT
        clear h3 hT
        go_enter Try.func26, Try.ntmps26
        go_wp2_with fail
        refine (allT_any T _ _ (ht'.out.below (by repeat (first | exact Below.refl _ _ | refine Below.drew ?_ | refine bpush ?_ _ | refine bput ?_ (by simp) _ | (refine bstep ?_ (by assumption)))))).mono ?_
        rintro e w1 ⟨he, hb⟩; rw [hT'.out] at he; subst he
        obtain ⟨hbc, hbf⟩ := bcell hb
        have hbz := hb.size
        simp [Nat.add_one_le_iff] at hbz
        go_wp2_with fail
        go_ret
        exact ⟨by rw [hr.out]; rfl, (by repeat (first | exact Below.refl _ _ | refine Below.drew ?_ | refine bpush ?_ _ | refine bput ?_ (by simp) _ | (refine bstep ?_ (by assumption))))⟩
      · cases hM : M.all vMeas
        · have hr : Hid (check T M = 2) := by simp [Hid, check, h3, hT, h8, hM]
          have h3' := Lib.hid h3
          have hT' := Lib.hid hT
          have hM' := Lib.hid hM
          clear h3 hT hM
          go_enter Try.func26, Try.ntmps26
          go_wp2_with fail
          refine (allT_any T _ _ (ht'.out.below (by repeat (first | exact Below.refl _ _ | refine Below.drew ?_ | refine bpush ?_ _ | refine bput ?_ (by simp) _ | (refine bstep ?_ (by assumption)))))).mono ?_
          rintro e w1 ⟨he, hb⟩; rw [hT'.out] at he; subst he
          obtain ⟨hbc, hbf⟩ := bcell hb
          have hbz := hb.size
          simp [Nat.add_one_le_iff] at hbz
          go_wp2_with fail
          refine (allM_any M _ _ (hm'.out.below (by repeat (first | exact Below.refl _ _ | refine Below.drew ?_ | refine bpush ?_ _ | refine bput ?_ (by simp) _ | (refine bstep ?_ (by assumption)))))).mono ?_
          rintro e w2 ⟨he, hb2⟩; rw [hM'.out] at he; subst he
          go_wp2_with fail
          go_ret
          exact ⟨by rw [hr.out]; rfl, (by repeat (first | exact Below.refl _ _ | refine Below.drew ?_ | refine bpush ?_ _ | refine bput ?_ (by simp) _ | (refine bstep ?_ (by assumption))))⟩
        · have hr : Hid (check T M = 0) := by simp [Hid, check, h3, hT, h8, hM]
          have h3' := Lib.hid h3
          have hT' := Lib.hid hT
          have hM' := Lib.hid hM
          clear h3 hT hM
          go_enter Try.func26, Try.ntmps26
          go_wp2_with fail
          refine (allT_any T _ _ (ht'.out.below (by repeat (first | exact Below.refl _ _ | refine Below.drew ?_ | refine bpush ?_ _ | refine bput ?_ (by simp) _ | (refine bstep ?_ (by assumption)))))).mono ?_
          rintro e w1 ⟨he, hb⟩; rw [hT'.out] at he; subst he
          obtain ⟨hbc, hbf⟩ := bcell hb
          have hbz := hb.size
          simp [Nat.add_one_le_iff] at hbz
          go_wp2_with fail
          refine (allM_any M _ _ (hm'.out.below (by repeat (first | exact Below.refl _ _ | refine Below.drew ?_ | refine bpush ?_ _ | refine bput ?_ (by simp) _ | (refine bstep ?_ (by assumption)))))).mono ?_
          rintro e w2 ⟨he, hb2⟩; rw [hM'.out] at he; subst he
          go_wp2_with fail
          go_ret
          exact ⟨by rw [hr.out]; rfl, (by repeat (first | exact Below.refl _ _ | refine Below.drew ?_ | refine bpush ?_ _ | refine bput ?_ (by simp) _ | (refine bstep ?_ (by assumption))))⟩
  · have e1 : ((T.length : Int) != 3) = true := by simp; omega
    have hr : Hid (check T M = 4) := by simp [Hid, check, h3]
    have h3' := Lib.hid h3
    clear h3
    go_enter Try.func26, Try.ntmps26
    go_wp2_with fail
    go_ret
    exact ⟨by rw [hr.out]; rfl, (by repeat (first | exact Below.refl _ _ | refine Below.drew ?_ | refine bpush ?_ _ | refine bput ?_ (by simp) _ | (refine bstep ?_ (by assumption))))⟩
end Go.Proofs.Ytdhkgpfcanekkaa

/- Truths: what a quantity is hour by hour, as a row of 50 cells; course and fits of package cloth. -/
namespace Go.Proofs.Ytdhkgpfcanekkaa
open Go Go.RowKit

/-- What x becomes by the rate r in so many hours. -/
def aft (x r : Int) : Nat → Int
  | 0 => x
  | h + 1 => aft x r h - aft x r h * r / 1000

theorem aft_bd {x r : Int} (hx : 0 ≤ x) (hr : 0 ≤ r) (hr' : r ≤ 1000) : ∀ h, 0 ≤ aft x r h ∧ aft x r h ≤ x
  | 0 => ⟨hx, Int.le_refl _⟩
  | h + 1 => by
    obtain ⟨h1, h2⟩ := aft_bd hx hr hr' h
    unfold aft
    have h3 : 0 ≤ aft x r h * r := Int.mul_nonneg h1 hr
    have h4 : aft x r h * r ≤ aft x r h * 1000 := Int.mul_le_mul_of_nonneg_left hr' h1
    omega

/-- The row of a truth, filled in up to hour k. -/
def tpart (x r : Int) (k : Nat) : Array Value := Array.ofFn (n := 50) fun i => if i.val = 0 then iv r else if i.val ≤ k then iv (aft x r (i.val - 1)) else iv 0
def tvals (x r : Int) : Array Value := tpart x r 49
def zeroT : Array Value := Array.replicate 50 (iv 0)
theorem tpart_size (x r : Int) (k : Nat) : (tpart x r k).size = 50 := by simp [tpart]
theorem tvals_size (x r : Int) : (tvals x r).size = 50 := tpart_size x r 49
theorem tpart_get (x r : Int) (k i : Nat) : (tpart x r k)[i]? = if i < 50 then some (if i = 0 then iv r else if i ≤ k then iv (aft x r (i - 1)) else iv 0) else none := by
  simp only [tpart, Array.getElem?_ofFn]
  split <;> rfl
theorem zeroT_get (i : Nat) : zeroT[i]? = if i < 50 then some (iv 0) else none := by
  simp only [zeroT, Array.getElem?_replicate]
theorem zeroT_size : zeroT.size = 50 := by simp [zeroT]
theorem tpart_zero (x r : Int) : zeroT.setIfInBounds 0 (iv r) = tpart x r 0 := by
  apply Array.ext_getElem?
  intro i
  rw [Array.getElem?_setIfInBounds, tpart_get, zeroT_get, zeroT_size]
  by_cases h : 0 = i
  · subst h; simp
  · rw [if_neg h]
    split
    · rw [if_neg (by omega), if_neg (by omega)]
    · rfl
theorem tpart_succ (x r : Int) (k : Nat) : (tpart x r k).setIfInBounds (1 + k) (iv (aft x r k)) = tpart x r (k + 1) := by
  apply Array.ext_getElem?
  intro i
  rw [Array.getElem?_setIfInBounds, tpart_get, tpart_get, tpart_size]
  by_cases h : 1 + k = i
  · subst h
    rw [if_pos rfl]
    split
    · rw [if_neg (by omega), if_pos (by omega)]; congr 3; omega
    · rfl
  · rw [if_neg h]
    split
    · by_cases h0 : i = 0
      · rw [if_pos h0, if_pos h0]
      · rw [if_neg h0, if_neg h0]
        by_cases hk : i ≤ k
        · rw [if_pos hk, if_pos (by omega)]
        · rw [if_neg hk, if_neg (by omega)]
    · rfl
theorem tvals_rate (x r : Int) : (tvals x r)[0]? = some (iv r) := by rw [tvals, tpart_get]; simp
theorem tvals_hour (x r : Int) (h : Nat) (hh : h ≤ 48) : (tvals x r)[1 + h]? = some (iv (aft x r h)) := by
  rw [tvals, tpart_get, if_pos (by omega), if_neg (by omega), if_pos (by omega)]
  congr 3; omega
theorem tpart_one (x r : Int) (k : Nat) : (tpart x r k).all (·.oneCell') = true := by
  rw [Array.all_eq_true]
  intro i hi
  have h := tpart_get x r k i
  rw [Array.getElem?_eq_getElem hi] at h
  rw [tpart_size] at hi
  rw [if_pos hi] at h
  rw [Option.some.inj h]
  split
  · rfl
  · split <;> rfl
abbrev tval (x r : Int) : Value := .agg (tvals x r)

theorem zinfo120 : (Try.prog.info? 65).map (·.zero) = some (some (.agg zeroT)) := by kernel_rfl
theorem sinfo120 : (Try.prog.info? 65).map (·.size) = some 50 := by kernel_rfl

theorem built120 (x r : Int) : Try.prog.built 65 [(0, iv r)] = some (tpart x r 0) := by rw [← tpart_zero]; kernel_rfl
theorem sinfoP (x r : Int) (k : Nat) : (Try.prog.info? 65).map (·.size) = some (tpart x r k).size := by rw [tpart_size]; exact sinfo120
theorem sinfoV (x r : Int) : (Try.prog.info? 65).map (·.size) = some (tvals x r).size := sinfoP x r 49
theorem heap_new (w : World) (z : Array Value) (t : TypeId) : (w.alloc (.cells z t)).heap[w.heap.size]? = some (.cells z t (0, 0)) := World.alloc_heap_new w _

set_option maxRecDepth 20000 in
set_option maxHeartbeats 1600000 in
theorem course_any (x r : Int) (w : World) (hx : 0 ≤ x) (hx' : x ≤ 100000) (hr : 0 ≤ r) (hr' : r ≤ 1000) :
    Calls Try.prog 54 #[iv x, iv r] w fun e w' => e = .returned (tval x r) ∧ Below w.heap.size w w' := by
  go_enter Try.func54, Try.ntmps54
  go_wp2_with (first | (with_reducible change wpList _ _ _ (Oper.mk _ (Op.alloc 65) _ _ _ _ :: _) _ _; refine L_val rfl (run_alloc_row 65 zeroT zinfo120 rfl) ?_) | (with_reducible change wpList _ _ _ (Oper.mk _ (Op.build 65 _) _ _ _ _ :: _) _ _; refine L_val rfl (run_build_row1 65 _ _ rfl _ rfl (tpart x r 0) (built120 x r)) ?_) | (with_reducible change wpList _ _ _ (Oper.mk _ (Op.store 65 _ _) _ _ _ _ :: _) _ _; refine L_skip rfl (run_store_row 65 _ _ rfl _ rfl _ rfl 65 zeroT (by exact heap_new _ _ _) (by rw [tpart_size]; exact sinfo120) (by rw [tpart_size, zeroT_size]) (tpart_one _ _ _)) ?_))
  go_loopw [11, 7, 6] (fun i _ s wr => ∃ k : Nat, k ≤ 49 ∧ i = iv k ∧ s = iv (aft x r k) ∧ wr.heap[w.heap.size + 1]? = some (.cells (tpart x r k) 65 (0, 0)) ∧ wr.heap[w.heap.size]? = some (.cells zeroT 65 (0, 0)) ∧ Below w.heap.size w wr) (fun i _ _ _ => 49 - (intOf i).toNat)
  case atStart => exact ⟨0, by omega, rfl, rfl, by have := heap_new (w.alloc (.cells zeroT 65)) (tpart x r 0) 65; simpa using this, by rw [Below.heap_alloc _ _ _ (by simp)]; exact heap_new _ _ _, (by repeat (first | exact Below.refl _ _ | refine Below.drew ?_ | refine bpush ?_ _ | refine bput ?_ (by simp) _ | (refine bstep ?_ (by assumption))))⟩
  case round =>
    obtain ⟨k, hk, rfl, rfl, hb, hz, hbl⟩ := hrel
    obtain ⟨hs0, hs1⟩ := aft_bd (x := x) hx hr hr' k
    have HB := Lib.hid hb; clear hb
    have HZ := Lib.hid hz; clear hz
    by_cases hlt : k < 49
    · have hc : ∃ v, wr.cell? ⟨w.heap.size + 1, 1 + k, none⟩ = some v := ⟨_, by rw [cell_of_row _ _ _ _ _ _ HB.out, tpart_get, if_pos (by omega)]⟩
      obtain ⟨v0, hc⟩ := hc
      have hfz : wr.frozen? ⟨w.heap.size + 1, 1 + k, none⟩ = false := frozen_of_row _ _ _ _ _ HB.out
      have hm0 : 0 ≤ aft x r k * r := Int.mul_nonneg hs0 hr
      have hm1 : aft x r k * r ≤ 100000000 := by
        have h1 : aft x r k * r ≤ aft x r k * 1000 := Int.mul_le_mul_of_nonneg_left hr' hs0
        omega
      go_wp2
      go_roundw
      case rel =>
        refine ⟨k + 1, by omega, by go_num, rfl, ?_, ?_, bput hbl (by simp) _⟩
        · rw [heap_setCell_same _ _ _ _ _ _ HB.out, tpart_succ]
        · rw [heap_setCell_other _ _ _ _ (by simp)]; exact HZ.out
      case measure => simp [intOf]; omega
    · obtain rfl : k = 49 := by omega
      have hsz : w.heap.size + 1 < wr.heap.size := (Array.getElem?_eq_some_iff.1 HB.out).1
      go_wp2_with (first | (with_reducible change wpList _ _ _ (Oper.mk _ (Op.load 65 _) _ _ _ _ :: _) _ _; refine L_val rfl (run_load_row 65 _ rfl _ rfl 65 (tpart x r 49) _ HB.out Try.underlying65 rfl (sinfoP x r 49)) ?_) | (with_reducible change wpList _ _ _ (Oper.mk _ (Op.store 65 _ _) _ _ _ _ :: _) _ _; refine L_skip rfl (run_store_row 65 _ _ rfl _ rfl _ rfl 65 zeroT HZ.out (sinfoP x r 49) (by rw [tpart_size, zeroT_size]) (tpart_one _ _ _)) ?_))
      exact bodyPost_ret (results_cell_row (fn := Try.f54) Try.results54 _ _ w.heap.size 65 (tpart x r 49) (0, 0) _ rfl (heap_setRow_same HZ.out) Try.underlying65 rfl (sinfoP _ _ _)) rfl ⟨rfl, bsetRow hbl (Nat.le_refl _) _⟩
end Go.Proofs.Ytdhkgpfcanekkaa

/- truth.fits of package cloth. -/
namespace Go.Proofs.Ytdhkgpfcanekkaa
open Go Go.RowKit

def fitsM (x r : Int) (m : Ms) : Bool := inB (-m.off) m.off (aft x r m.hour.toNat - m.reading)

set_option maxRecDepth 20000 in
set_option maxHeartbeats 1600000 in
theorem fits_any (x r : Int) (m : Ms) (w : World) (hx : 0 ≤ x) (hx' : x ≤ 100000) (hr : 0 ≤ r) (hr' : r ≤ 1000) (hm : vMeas m = true) :
    Calls Try.prog 55 #[tval x r, .agg (encM m).toArray] w fun e w' => e = .returned (.bool (fitsM x r m)) ∧ Below w.heap.size w w' := by
  obtain ⟨a, b, c, d⟩ := m
  simp only [vMeas, inB, Bool.and_eq_true, decide_eq_true_eq] at hm
  obtain ⟨⟨h1, h2⟩, ⟨h3, h4⟩, ⟨h5, h6⟩, h7, h8⟩ := hm
  obtain ⟨n, rfl⟩ := Int.eq_ofNat_of_zero_le h3
  obtain ⟨hs0, hs1⟩ := aft_bd (x := x) hx hr hr' n
  have hh : (tvals x r)[1 + n]? = some (iv (aft x r n)) := tvals_hour x r n (by omega)
  simp only [encM]
  go_enter Try.func55, Try.ntmps55
  go_wp2_with fail
  have k1 : ((w.alloc (.cells (tvals x r) 65)).alloc (.cells #[iv a, iv n, iv c, iv d] 104)).cell? ⟨w.heap.size, 1 + n, none⟩ = some (iv (aft x r n)) := by go_simp
  have k2 : ((w.alloc (.cells (tvals x r) 65)).alloc (.cells #[iv a, iv n, iv c, iv d] 104)).cell? ⟨w.heap.size + 1, 1, none⟩ = some (iv n) := by go_simp
  have k3 : ((w.alloc (.cells (tvals x r) 65)).alloc (.cells #[iv a, iv n, iv c, iv d] 104)).cell? ⟨w.heap.size + 1, 2, none⟩ = some (iv c) := by go_simp
  have k4 : ((w.alloc (.cells (tvals x r) 65)).alloc (.cells #[iv a, iv n, iv c, iv d] 104)).cell? ⟨w.heap.size + 1, 3, none⟩ = some (iv d) := by go_simp
  have hB : Below w.heap.size w ((w.alloc (.cells (tvals x r) 65)).alloc (.cells #[iv a, iv n, iv c, iv d] 104)) := (by repeat (first | exact Below.refl _ _ | refine Below.drew ?_ | refine bpush ?_ _ | refine bput ?_ (by simp) _ | (refine bstep ?_ (by assumption))))
  have hz : w.heap.size + 1 < ((w.alloc (.cells (tvals x r) 65)).alloc (.cells #[iv a, iv n, iv c, iv d] 104)).heap.size := by simp
  generalize ((w.alloc (.cells (tvals x r) 65)).alloc (.cells #[iv a, iv n, iv c, iv d] 104)) = W at *
  clear hh
  have i1 : (n : Int) < 49 := by omega
  have i2 : IntKind.i64.wrap (aft x r n - c) = aft x r n - c := IntWalk.i64_in _ (by omega)
  have i3 : IntKind.i64.wrap (-d) = -d := IntWalk.i64_in _ (by omega)
  clear h1 h2 h4 h5 h6 h7 h8 hs0 hs1 hx hx' hr hr'
  go_region_held3 (fun w' => w'.cell? ⟨w.heap.size, 1 + n, none⟩ = some (iv (aft x r n)) ∧ w'.cell? ⟨w.heap.size + 1, 1, none⟩ = some (iv n) ∧ w'.cell? ⟨w.heap.size + 1, 2, none⟩ = some (iv c) ∧ w'.cell? ⟨w.heap.size + 1, 3, none⟩ = some (iv d)) (first | go_keep) ((go_at_call 14; refine (within1 (-d) d (aft x r n - c) ?_).mono ?_; go_simp; rintro e w_ ⟨rfl, rfl⟩))
  go_wp2
  go_ret
  exact ⟨rfl, (bpush hB _).drew⟩
end Go.Proofs.Ytdhkgpfcanekkaa
