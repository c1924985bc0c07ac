/- How many numbers an iterator yields, and their sum; steady plans. -/
import Derived.Test.YtiellodbdidgoaaSc
import Derived.Test.YtiellodbdidgoaaSpn
namespace Go.Proofs.Ytiellodbdidgoaa
open Go Go.RowKit Go.Shelf
attribute [local go_sem] Oper.semAt_some

theorem SeqL.later {α : Type} {P : Program} {gf : Nat} {lb : Array Value} {enc : α → Array Value} {S : Nat → Prop} {xs : List α} {w w' : World} (h : SeqL P gf lb enc S xs w) (hs : SameOn S w w') : SeqL P gf lb enc S xs w' :=
  fun n l J Jx W hW => h n l J Jx W (hs.trans hW)
theorem heap_set1 {W : World} {b : Nat} {v u : Value} {t : TypeId} (h : W.heap[b]? = some (.cells #[v] t (0, 0))) : (W.setCell ⟨b, 0, none⟩ u).heap[b]? = some (.cells #[u] t (0, 0)) := by
  have := heap_setCell_same W b 0 #[v] t u h
  simpa using this
theorem turn_set {W : World} {b : Nat} (v : Value) : Turn (fun k => k = b) W (W.setCell ⟨b, 0, none⟩ v) :=
  ⟨rfl, rfl, rfl, by simp [World.setCell], fun k _ hk => Below.heap_setCell _ _ _ _ hk⟩

set_option maxRecDepth 20000 in
set_option maxHeartbeats 3200000 in
theorem count_any (gf : FuncId) (lb : Array Value) (S : Nat → Prop) (xs : List Int) (w : World) (eg : ∀ args w, (callFunc gf args).run Try.prog w = .ok (.enter gf args) w)
    (hseq : SeqL Try.prog gf lb (fun (x : Int) => #[iv x]) S xs w) (hS : ∀ k, S k → k < w.heap.size) (hlen : xs.length ≤ 1000000) :
    Calls Try.prog 16 #[.func (.func gf) #[] lb] w fun e w' => e = .returned (iv xs.length) ∧ Below w.heap.size w w' := by
  have HQ := Lib.hid hseq; clear hseq
  have HEG := Lib.hid eg; clear eg
  refine (callsIn_wide (n := 3)).1 ?_
  refine callsIn_of_wp_marks Try.func16 rfl trivial ?_ rfl
  simp only [Try.ntmps16, List.size_toArray, List.length_cons, List.length_nil, Nat.reduceAdd, Nat.reduceSub, Array.replicate_succ, Array.replicate_zero, List.push_toArray, List.append_toArray, List.nil_append, List.cons_append]
  gi_wp2_with fail
  have hB0 : Below w.heap.size w (w.alloc (.cells #[.int .i64 0] 3)) := (by repeat (first | exact Below.refl _ _ | refine Below.drew ?_ | refine bpush ?_ _ | refine bput ?_ (by simp) _ | (refine bstep ?_ (by assumption))))
  have hg0 : (w.alloc (.cells #[.int .i64 0] 3)).heap[w.heap.size]? = some (.cells #[iv ((([] : List Int).length : Nat) : Int)] 3 (0, 0)) := heap_new _ _ _
  have hsz0 : (w.alloc (.cells #[.int .i64 0] 3)).heap.size = w.heap.size + 1 := by simp
  generalize (w.alloc (.cells #[.int .i64 0] 3)) = W0 at *
  have HB0 := Lib.hid hB0; clear hB0
  have HZ0 := Lib.hid hsz0; clear hsz0
  have HG0 := Lib.hid hg0; clear hg0
  have hz0 := HZ0.out
  refine rangeB (gf := gf) (lb := lb) rfl HEG.out (HQ.out.later (SameOn.of_below HB0.out hS)) (fun _ => rfl) (fun k hk => by have := hS k hk; omega) (fun k => k = w.heap.size) (fun k hk => by omega) (fun k hk hx => by have := hS k hk; omega)
    (fun pre W => W.heap[w.heap.size]? = some (.cells #[iv ((pre.length : Nat) : Int)] 3 (0, 0))) (fun _ _ => False)
    (fun s W W' hi hx => (hx _ rfl).trans hi) (fun _ _ _ h => h.elim) HG0.out ?round ?done ?stop
  case stop =>
    rintro c W _ hf _
    exact hf.elim
  case round =>
    rintro l pre x W hpre htn hi K hK
    have HK := Lib.hid hK; clear hK
    have hlp : pre.length < xs.length := by have := hpre.length_le; simp at this; omega
    clear hpre htn hi
    gi_wp2_with fail
    refine HK.out _ _ (Below.refl _ _) ?_
    clear HK
    rintro W2 ht2 hi2 hs2 hcell
    have HI := Lib.hid hi2
    have c0 : W2.cell? ⟨w.heap.size, 0, none⟩ = some (iv ((pre.length : Nat) : Int)) := by rw [cell_of_row _ _ _ _ _ _ hi2]; rfl
    have f0 : W2.frozen? ⟨w.heap.size, 0, none⟩ = false := by unfold World.frozen?; rw [hi2]; rfl
    clear ht2 hi2 hs2 hcell
    gi_wp2_with fail
    refine ⟨turn_set _, ?_⟩
    dsimp only
    rw [List.length_append, List.length_cons, List.length_nil]
    exact heap_set1 HI.out
  case done =>
    rintro W htn hi hK
    have HT := Lib.hid htn; clear htn
    have c0 : W.cell? ⟨w.heap.size, 0, none⟩ = some (iv ((xs.length : Nat) : Int)) := by rw [cell_of_row _ _ _ _ _ _ hi]; rfl
    clear hi
    have HKD := Lib.hid hK; clear hK
    gi_wp2_with fail
    refine ⟨by simp, .inl ⟨_, _, rfl, run_takeDeferred HKD.out, ?_⟩⟩
    have hbel : Below w.heap.size w W := HB0.out.trans (HT.out.below (fun k hk => by omega) (by omega))
    exact ⟨_, results_tmp rfl _ _ _, rfl, put_below hbel (by omega)⟩

/-- A plan in which k hammers go from an hour on: the first j hours are filled in. -/
def stdTo (n : Nat) (k fr : Int) (j : Nat) : List Int := (List.range n).map fun i => if i < j ∧ fr ≤ (i : Int) then k else 0
def stdy (n : Nat) (k fr : Int) : List Int := stdTo n k fr n
theorem stdTo_len (n : Nat) (k fr : Int) (j : Nat) : (stdTo n k fr j).length = n := by simp [stdTo]
theorem stdTo_get (n : Nat) (k fr : Int) (j i : Nat) : (stdTo n k fr j)[i]? = if i < n then some (if i < j ∧ fr ≤ (i : Int) then k else 0) else none := by
  unfold stdTo
  rw [List.getElem?_map]
  by_cases h : i < n
  · rw [List.getElem?_range h, if_pos h]; rfl
  · rw [if_neg h, List.getElem?_eq_none (by simp; omega)]; rfl
theorem stdTo_zero (n : Nat) (k fr : Int) : (stdTo n k fr 0).map iv = List.replicate n (iv 0) := by
  apply List.ext_getElem?; intro i
  rw [List.getElem?_map, stdTo_get, List.getElem?_replicate]
  split <;> simp
theorem stdTo_yes {n : Nat} {k fr : Int} {j : Nat} (h : fr ≤ (j : Int)) : (stdTo n k fr (j + 1)).map iv = ((stdTo n k fr j).map iv).set j (iv k) := by
  apply List.ext_getElem?; intro i
  rw [List.getElem?_map, List.getElem?_set, List.getElem?_map, stdTo_get, stdTo_get, List.length_map, stdTo_len]
  by_cases e : j = i
  · subst e
    rw [if_pos rfl]
    by_cases hn : j < n
    · rw [if_pos hn, if_pos hn, if_pos ⟨by omega, h⟩]; rfl
    · rw [if_neg hn, if_neg hn]; rfl
  · rw [if_neg e]
    have hc : (i < j + 1 ∧ fr ≤ (i : Int)) ↔ (i < j ∧ fr ≤ (i : Int)) := ⟨fun h2 => ⟨by omega, h2.2⟩, fun h2 => ⟨by omega, h2.2⟩⟩
    simp only [hc]
theorem stdTo_no {n : Nat} {k fr : Int} {j : Nat} (h : ¬ fr ≤ (j : Int)) : stdTo n k fr (j + 1) = stdTo n k fr j := by
  apply List.ext_getElem?; intro i
  rw [stdTo_get, stdTo_get]
  have hc : (i < j + 1 ∧ fr ≤ (i : Int)) ↔ (i < j ∧ fr ≤ (i : Int)) := ⟨fun h2 => ⟨by
    by_cases e : i = j
    · subst e; exact absurd h2.2 h
    · omega, h2.2⟩, fun h2 => ⟨by omega, h2.2⟩⟩
  simp only [hc]
theorem flatI (l : List Int) : l.flatMap encI = l.map iv := by
  induction l with
  | nil => rfl
  | cons a l ih => rw [List.flatMap_cons, ih]; rfl

set_option maxRecDepth 20000 in
set_option maxHeartbeats 3200000 in
theorem steady_any (m : Ml) (fa : Option Addr) (fn fc : Nat) (k fr : Int) (w : World) (hn : fn ≤ 1000000) :
    Calls Try.prog 18 #[.agg (vcells m (.slice fa fn fc)), iv k, iv fr] w fun e w' => e = .returned (.slice (some ⟨w.heap.size + 1, 0, none⟩) fn fn) ∧ w'.ownsRow (w.heap.size + 1) 3 1 (.slice (some ⟨w.heap.size + 1, 0, none⟩) fn fn) fn ((stdy fn k fr).map iv) ∧ Below w.heap.size w w' := by
  obtain ⟨i0, hi, hz0, hz1, hz2⟩ := info_parts info3
  obtain ⟨kk, t, bl, bh, h, nl, nh⟩ := m
  simp only [vcells]
  have HI := Lib.hid hi; have HZ0 := Lib.hid hz0; have HZ1 := Lib.hid hz1; have HZ2 := Lib.hid hz2
  have hby : i0.bytes * fn ≤ 281474976710656 := by rw [hz2]; omega
  have hml : fn ≤ maxLen := by unfold maxLen; omega
  have HBY := Lib.hid hby; have HML := Lib.hid hml
  clear hi hz0 hz1 hz2 hby hml
  go_enter Try.func18, Try.ntmps18
  go_wp2_with (with_reducible change wpList _ _ _ (Oper.mk _ (Op.makeSlice 41 _ _) _ _ _ _ :: _) _ _; refine wpList_make_full _ rfl _ _ 41 rfl (w.heap.size + 1) 3 i0 (.int .i64 0) 1 Try.underlying41 HI.out HZ0.out HZ1.out .i64 .i64 fn fn fn rfl rfl rfl rfl HBY.out HML.out (by simp) ?_; rw [World.size_alloc]; intro w1 hown hgrow)
  have hown0 : w1.ownsRow (w.heap.size + 1) 3 1 (.slice (some ⟨w.heap.size + 1, 0, none⟩) fn fn) fn ((stdTo fn k fr 0).map iv) := by
    rw [stdTo_zero]
    have := toList_madeCells_one (.int .i64 0) fn
    rw [← this]
    rw [Nat.mul_one] at hown
    exact hown
  have hb0 : Below w.heap.size w w1 := ((Below.refl _ _).alloc (Nat.le_refl _) _).trans ⟨hgrow.os, hgrow.tape, hgrow.output, hgrow.size, fun q hq => hgrow.block q (by simp; omega) (by simp)⟩
  have HOW := Lib.hid hown0
  have HB0 := Lib.hid hb0
  clear hown hgrow hown0 hb0
  go_wp2_with fail
  go_loopw [15] (fun i wr => ∃ j : Nat, j ≤ fn ∧ i = iv j ∧ wr.ownsRow (w.heap.size + 1) 3 1 (.slice (some ⟨w.heap.size + 1, 0, none⟩) fn fn) fn ((stdTo fn k fr j).map iv) ∧ Below w.heap.size w wr) (fun i _ => fn - (intOf i).toNat)
  case atStart => exact ⟨0, Nat.zero_le _, rfl, HOW.out, HB0.out⟩
  case round =>
    obtain ⟨j, hj, rfl, hown, hbw⟩ := hrel
    have HO := Lib.hid hown
    have HB := Lib.hid hbw; clear hbw
    by_cases hlt : j < fn
    · have hc : wr.cell? ⟨w.heap.size + 1, j, none⟩ = some (((stdTo fn k fr j).map iv).getD j undef) := by
        rw [World.ownsRow.cellAt hown j (by omega)]
        have : j < ((stdTo fn k fr j).map iv).length := by rw [List.length_map, stdTo_len]; exact hlt
        rw [List.getD_eq_getElem?_getD, List.getElem?_eq_getElem this]; rfl
      have hfz := World.ownsRow.frozenAt hown j
      generalize ((stdTo fn k fr j).map iv).getD j undef = old at *
      clear hown
      by_cases hfr : fr ≤ (j : Int)
      · go_wp2_with fail
        go_roundw
        case rel => exact ⟨j + 1, by omega, by go_num, by rw [stdTo_yes hfr]; exact (World.ownsRow.stored HO.out j (iv k)).1, bput HB.out (by simp) _⟩
        case measure => simp [intOf]; omega
      · go_wp2_with fail
        go_roundw
        case rel => exact ⟨j + 1, by omega, by go_num, by rw [stdTo_no hfr]; exact HO.out, HB.out⟩
        case measure => simp [intOf]; omega
    · obtain rfl : j = fn := by omega
      clear hown
      go_wp2_with fail
      go_ret
      exact ⟨rfl, HO.out, HB.out⟩
/-- A list of numbers is returned. -/
def IntsRes (n : Nat) (xs : List Int) (w : World) (e : Ending) (w' : World) : Prop := ∃ pa, e = .returned (.slice pa n n) ∧ Ints w' (.slice pa n n) xs ∧ Below w.heap.size w w'
theorem steady_ints (m : Ml) (fa : Option Addr) (fn fc : Nat) (k fr : Int) (w : World) (hn : fn ≤ 1000000) :
    Calls Try.prog 18 #[.agg (vcells m (.slice fa fn fc)), iv k, iv fr] w (IntsRes fn (stdy fn k fr) w) := by
  refine (steady_any m fa fn fc k fr w hn).mono ?_
  rintro e w' ⟨rfl, hown, hb⟩
  have hl : (stdy fn k fr).length = fn := stdTo_len _ _ _ _
  refine ⟨_, rfl, ?_, hb⟩
  have ho : Owns encI 1 3 (w.heap.size + 1) w' (.slice (some ⟨w.heap.size + 1, 0, none⟩) fn fn) (stdy fn k fr) := by
    unfold Owns; rw [hl, flatI]; exact hown
  exact ho.slice encI_len (by omega)
end Go.Proofs.Ytiellodbdidgoaa
