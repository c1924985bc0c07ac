/- How many numbers an iterator yields, and their sum; steady plans. -/
import Derived.Test.YtfpbfhjfhfmanacSc
import Derived.Test.YtfpbfhjfhfmanacSpn
namespace Go.Proofs.Ytfpbfhjfhfmanac
open Go Go.RowKit Go.Shelf
attribute [local go_sem] Oper.semAt_some

theorem SeqL.later {α : Type} {P : Program} {gf : Nat} {lb : Array Value} {enc : α → Array Value} {S : Nat → Prop} {xs : List α} {w w' : World} (h : SeqL P gf lb enc S xs w) (hs : SameOn S w w') : SeqL P gf lb enc S xs w' :=
  fun n l J Jx W hW => h n l J Jx W (hs.trans hW)
theorem heap_set1 {W : World} {b : Nat} {v u : Value} {t : TypeId} (h : W.heap[b]? = some (.cells #[v] t (0, 0))) : (W.setCell ⟨b, 0, none⟩ u).heap[b]? = some (.cells #[u] t (0, 0)) := by
  have := heap_setCell_same W b 0 #[v] t u h
  simpa using this
theorem turn_set {W : World} {b : Nat} (v : Value) : Turn (fun k => k = b) W (W.setCell ⟨b, 0, none⟩ v) :=
  ⟨rfl, rfl, rfl, by simp [World.setCell], fun k _ hk => Below.heap_setCell _ _ _ _ hk⟩

set_option maxRecDepth 20000 in
set_option maxHeartbeats 3200000 in
theorem count_any (gf : FuncId) (lb : Array Value) (S : Nat → Prop) (xs : List Int) (w : World) (eg : ∀ args w, (callFunc gf args).run Try.prog w = .ok (.enter gf args) w)
    (hseq : SeqL Try.prog gf lb (fun (x : Int) => #[iv x]) S xs w) (hS : ∀ k, S k → k < w.heap.size) (hlen : xs.length ≤ 1000000) :
    Calls Try.prog 29 #[.func (.func gf) #[] lb] w fun e w' => e = .returned (iv xs.length) ∧ Below w.heap.size w w' := by
  have HQ := Lib.hid hseq; clear hseq
  have HEG := Lib.hid eg; clear eg
  refine (callsIn_wide (n := 3)).1 ?_
  refine callsIn_of_wp_marks Try.func29 rfl trivial ?_ rfl
  simp only [Try.ntmps29, List.size_toArray, List.length_cons, List.length_nil, Nat.reduceAdd, Nat.reduceSub, Array.replicate_succ, Array.replicate_zero, List.push_toArray, List.append_toArray, List.nil_append, List.cons_append]
  gi_wp2_with fail
  have hB0 : Below w.heap.size w (w.alloc (.cells #[.int .i64 0] 3)) := (by repeat (first | exact Below.refl _ _ | refine Below.drew ?_ | refine bpush ?_ _ | refine bput ?_ (by simp) _ | (refine bstep ?_ (by assumption))))
  have hg0 : (w.alloc (.cells #[.int .i64 0] 3)).heap[w.heap.size]? = some (.cells #[iv ((([] : List Int).length : Nat) : Int)] 3 (0, 0)) := heap_new _ _ _
  have hsz0 : (w.alloc (.cells #[.int .i64 0] 3)).heap.size = w.heap.size + 1 := by simp
  generalize (w.alloc (.cells #[.int .i64 0] 3)) = W0 at *
  have HB0 := Lib.hid hB0; clear hB0
  have HZ0 := Lib.hid hsz0; clear hsz0
  have HG0 := Lib.hid hg0; clear hg0
  have hz0 := HZ0.out
  refine rangeB (gf := gf) (lb := lb) rfl HEG.out (HQ.out.later (SameOn.of_below HB0.out hS)) (fun _ => rfl) (fun k hk => by have := hS k hk; omega) (fun k => k = w.heap.size) (fun k hk => by omega) (fun k hk hx => by have := hS k hk; omega)
    (fun pre W => W.heap[w.heap.size]? = some (.cells #[iv ((pre.length : Nat) : Int)] 3 (0, 0))) (fun _ _ => False)
    (fun s W W' hi hx => (hx _ rfl).trans hi) (fun _ _ _ h => h.elim) HG0.out ?round ?done ?stop
  case stop =>
    rintro c W _ hf _
    exact hf.elim
  case round =>
    rintro l pre x W hpre htn hi K hK
    have HK := Lib.hid hK; clear hK
    have hlp : pre.length < xs.length := by have := hpre.length_le; simp at this; omega
    clear hpre htn hi
    gi_wp2_with fail
    refine HK.out _ _ (Below.refl _ _) ?_
    clear HK
    rintro W2 ht2 hi2 hs2 hcell
    have HI := Lib.hid hi2
    have c0 : W2.cell? ⟨w.heap.size, 0, none⟩ = some (iv ((pre.length : Nat) : Int)) := by rw [cell_of_row _ _ _ _ _ _ hi2]; rfl
    have f0 : W2.frozen? ⟨w.heap.size, 0, none⟩ = false := by unfold World.frozen?; rw [hi2]; rfl
    clear ht2 hi2 hs2 hcell
    gi_wp2_with fail
    refine ⟨turn_set _, ?_⟩
    dsimp only
    rw [List.length_append, List.length_cons, List.length_nil]
    exact heap_set1 HI.out
  case done =>
    rintro W htn hi hK
    have HT := Lib.hid htn; clear htn
    have c0 : W.cell? ⟨w.heap.size, 0, none⟩ = some (iv ((xs.length : Nat) : Int)) := by rw [cell_of_row _ _ _ _ _ _ hi]; rfl
    clear hi
    have HKD := Lib.hid hK; clear hK
    gi_wp2_with fail
    refine ⟨by simp, .inl ⟨_, _, rfl, run_takeDeferred HKD.out, ?_⟩⟩
    have hbel : Below w.heap.size w W := HB0.out.trans (HT.out.below (fun k hk => by omega) (by omega))
    exact ⟨_, results_tmp rfl _ _ _, rfl, put_below hbel (by omega)⟩

/-- A plan in which k hammers go from an hour on: the first j hours are filled in. -/
def stdTo (n : Nat) (k fr : Int) (j : Nat) : List Int := (List.range n).map fun i => if i < j ∧ fr ≤ (i : Int) then k else 0
def stdy (n : Nat) (k fr : Int) : List Int := stdTo n k fr n
theorem stdTo_len (n : Nat) (k fr : Int) (j : Nat) : (stdTo n k fr j).length = n := by simp [stdTo]
theorem stdTo_get (n : Nat) (k fr : Int) (j i : Nat) : (stdTo n k fr j)[i]? = if i < n then some (if i < j ∧ fr ≤ (i : Int) then k else 0) else none := by
  unfold stdTo
  rw [List.getElem?_map]
  by_cases h : i < n
  · rw [List.getElem?_range h, if_pos h]; rfl
  · rw [if_neg h, List.getElem?_eq_none (by simp; omega)]; rfl
theorem stdTo_zero (n : Nat) (k fr : Int) : (stdTo n k fr 0).map iv = List.replicate n (iv 0) := by
  apply List.ext_getElem?; intro i
  rw [List.getElem?_map, stdTo_get, List.getElem?_replicate]
  split <;> simp
theorem stdTo_yes {n : Nat} {k fr : Int} {j : Nat} (h : fr ≤ (j : Int)) : (stdTo n k fr (j + 1)).map iv = ((stdTo n k fr j).map iv).set j (iv k) := by
  apply List.ext_getElem?; intro i
  rw [List.getElem?_map, List.getElem?_set, List.getElem?_map, stdTo_get, stdTo_get, List.length_map, stdTo_len]
  by_cases e : j = i
  · subst e
    rw [if_pos rfl]
    by_cases hn : j < n
    · rw [if_pos hn, if_pos hn, if_pos ⟨by omega, h⟩]; rfl
    · rw [if_neg hn, if_neg hn]; rfl
  · rw [if_neg e]
    have hc : (i < j + 1 ∧ fr ≤ (i : Int)) ↔ (i < j ∧ fr ≤ (i : Int)) := ⟨fun h2 => ⟨by omega, h2.2⟩, fun h2 => ⟨by omega, h2.2⟩⟩
    simp only [hc]
theorem stdTo_no {n : Nat} {k fr : Int} {j : Nat} (h : ¬ fr ≤ (j : Int)) : stdTo n k fr (j + 1) = stdTo n k fr j := by
  apply List.ext_getElem?; intro i
  rw [stdTo_get, stdTo_get]
  have hc : (i < j + 1 ∧ fr ≤ (i : Int)) ↔ (i < j ∧ fr ≤ (i : Int)) := ⟨fun h2 => ⟨by
    by_cases e : i = j
    · subst e; exact absurd h2.2 h
    · omega, h2.2⟩, fun h2 => ⟨by omega, h2.2⟩⟩
  simp only [hc]
theorem flatI (l : List Int) : l.flatMap encI = l.map iv := by
  induction l with
  | nil => rfl
  | cons a l ih => rw [List.flatMap_cons, ih]; rfl

/-- A list of numbers is returned. -/
def IntsRes (n : Nat) (xs : List Int) (w : World) (e : Ending) (w' : World) : Prop := ∃ pa, e = .returned (.slice pa n n) ∧ Ints w' (.slice pa n n) xs ∧ Below w.heap.size w w'
end Go.Proofs.Ytfpbfhjfhfmanac
