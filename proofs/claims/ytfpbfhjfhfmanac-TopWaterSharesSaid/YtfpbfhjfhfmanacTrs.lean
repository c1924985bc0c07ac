/- quantity.truths of package cloth: the iterator over an iterator. -/
import Derived.Test.YtfpbfhjfhfmanacCrs
namespace Go.Proofs.Ytfpbfhjfhfmanac
open Go Go.RowKit Go.Shelf
attribute [local go_sem] Oper.semAt_some

def good (what : Int) (M : List Ms) (p : Int × Int) : Bool := (ag what M p.1 p.2).isEmpty
/-- The truths of a quantity. -/
def trs (t : Tk) (what : Int) (M : List Ms) : List (Int × Int) := (crs t).filter (good what M)

theorem qcells_size (t : Tk) (what : Int) (mv : Value) : (qcells t what mv).size = 6 := rfl
theorem Turn.alloc {T : Nat → Prop} {a b : World} (h : Turn T a b) (o : Obj) : Turn T a (b.alloc o) :=
  ⟨h.os, h.tape, h.output, by have := h.size; simp; omega, fun k hk hn => (Below.heap_alloc _ _ _ (by have := h.size; omega)).trans (h.same k hk hn)⟩
theorem Turn.trans {T : Nat → Prop} {a b c : World} (h : Turn T a b) (k : Turn T b c) : Turn T a c :=
  ⟨k.os.trans h.os, k.tape.trans h.tape, k.output.trans h.output, Nat.le_trans h.size k.size, fun i hi hn => (k.same i (Nat.lt_of_lt_of_le hi h.size) hn).trans (h.same i hi hn)⟩
theorem Turn.refl (T : Nat → Prop) (a : World) : Turn T a a := ⟨rfl, rfl, rfl, Nat.le_refl _, fun _ _ _ => rfl⟩
theorem Turn.mono {T T' : Nat → Prop} {a b : World} (h : Turn T a b) (ht : ∀ k, T k → T' k) : Turn T' a b := ⟨h.os, h.tape, h.output, h.size, fun k hk hn => h.same k hk (fun h' => hn (ht k h'))⟩

theorem crs_mem {t : Tk} {x r : Int} (h : (x, r) ∈ crs t) : t.fl ≤ x ∧ x ≤ t.fh ∧ t.rl ≤ r ∧ r ≤ t.rh := by
  simp only [crs, crsTo, rowOf, ups, List.mem_flatMap, List.mem_map, List.mem_range] at h
  obtain ⟨y, ⟨i, hi, rfl⟩, z, ⟨j, hj, rfl⟩, he⟩ := h
  simp only [Prod.mk.injEq] at he
  omega
theorem mem_of_prefix {α : Type} {pre xs : List α} {x : α} (h : (pre ++ [x]) <+: xs) : x ∈ xs := h.subset (by simp)
theorem round_any {m m' l' : Nat} {P : Program} {l : Nat} {f : FuncId} {tmps : Array Value} {assign body : Code} {w : World} {R : Ending → World → Prop} (h : RoundIn Fence.wide m P l f tmps assign body w R) : RoundIn (Fence.wide.inRound l') m' P l f tmps assign body w R :=
  ⟨h.1, fun c cs _ => h.2 c cs (room_wide _)⟩
theorem prefix_filter {α : Type} (p : α → Bool) {pre xs : List α} {x : α} (h : (pre ++ [x]) <+: xs) (hx : p x = true) : (pre.filter p ++ [x]) <+: xs.filter p := by
  have := h.filter p
  simpa [List.filter_append, hx] using this

end Go.Proofs.Ytfpbfhjfhfmanac
