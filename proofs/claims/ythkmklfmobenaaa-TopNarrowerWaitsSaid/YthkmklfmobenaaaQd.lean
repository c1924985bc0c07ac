/- Turns: when the last cloth is done. -/
import Derived.Test.YthkmklfmobenaaaQc
import Derived.Test.YthkmklfmobenaaaQp
import Derived.Test.YthkmklfmobenaaaPos
namespace Go.Proofs.Ythkmklfmobenaaa
open Go Go.RowKit Go.Shelf
attribute [local go_sem] Oper.semAt_some

theorem endL_snoc (pre : List (Nat × Int × Int)) (v : Nat × Int × Int) : endL (pre ++ [v]) = max (endL pre) v.2.2 := by simp [endL]
/-- What lies in memory of a queue: its slices read so in every later world. -/
structure QuIn (w : World) (ca oa : Option Addr) (cc oc : Nat) (C : List Ct) (o : List Nat) : Prop where
  cl : SliceOf encC 4 w (.slice ca C.length cc) C
  od : Ints w (.slice oa o.length oc) (ordI o)
theorem QuIn.below {w w' : World} {ca oa : Option Addr} {cc oc : Nat} {C : List Ct} {o : List Nat} (h : QuIn w ca oa cc oc C o) (hb : Below w.heap.size w w') : QuIn w' ca oa cc oc C o := ⟨h.cl.below hb, h.od.below hb⟩
/-- A valid queue. -/
structure QuOk (C : List Ct) (o : List Nat) (k : Nat) : Prop where
  ok : CtOk C
  lt : ∀ x ∈ o, x < C.length
  pos : 1 ≤ k ∧ k ≤ 1000
  len : o.length ≤ 1000
theorem vis_bd {C : List Ct} {sel : Nat → Int} : ∀ (o : List Nat) (f : List Int) (i : Nat), FrOk f i → 0 < f.length → (∀ x ∈ o, (0 ≤ coOf C x ∧ coOf C x ≤ 1000) ∧ 0 ≤ sel x ∧ sel x ≤ 1000) →
    ∀ v ∈ visL (coOf C) sel f o, v.1 ∈ o ∧ 0 ≤ v.2.1 ∧ v.2.1 ≤ 1000 + 1000 * ((i + o.length : Nat) : Int) ∧ 0 ≤ v.2.2 ∧ v.2.2 ≤ 2000 + 1000 * ((i + o.length : Nat) : Int)
  | [], _, _, _, _, _, v, hv => by simp [visL] at hv
  | x :: o, f, i, hf, hl, hx, v, hv => by
    obtain ⟨h1, h2⟩ := hx x (by simp)
    obtain ⟨t1, t2, h3⟩ := hf.step (c := coOf C x) (s := sel x) hl h1 h2
    simp only [visL, List.mem_cons] at hv
    rcases hv with rfl | hv
    · simp only [List.length_cons]; exact ⟨by simp, t1, by omega, by omega, by omega⟩
    · have := vis_bd o _ _ h3 (by rw [stepF_len]; exact hl) (fun y hy => hx y (by simp [hy])) v hv
      simp only [List.length_cons, List.mem_cons]
      refine ⟨.inr this.1, this.2.1, ?_, this.2.2.2.1, ?_⟩
      · have := this.2.2.1; omega
      · have := this.2.2.2.2; omega
theorem endL_bd {B : Int} (hB : 0 ≤ B) : ∀ (l : List (Nat × Int × Int)), (∀ v ∈ l, v.2.2 ≤ B) → 0 ≤ endL l ∧ endL l ≤ B := by
  intro l
  suffices h : ∀ (l : List (Nat × Int × Int)) (m : Int), 0 ≤ m → m ≤ B → (∀ v ∈ l, v.2.2 ≤ B) → 0 ≤ l.foldl (fun m v => max m v.2.2) m ∧ l.foldl (fun m v => max m v.2.2) m ≤ B from fun hl => h l 0 (Int.le_refl _) hB hl
  intro l
  induction l with
  | nil => intro m h1 h2 _; exact ⟨h1, h2⟩
  | cons v l ih =>
    intro m h1 h2 hl
    have hv := hl v (by simp)
    exact ih _ (by dsimp only; omega) (by dsimp only; omega) (fun u hu => hl u (by simp [hu]))
theorem SeqL.laterQ {α : Type} {P : Program} {gf : Nat} {lb : Array Value} {enc : α → Array Value} {S : Nat → Prop} {xs : List α} {w w' : World} (h : SeqL P gf lb enc S xs w) (hs : SameOn S w w') : SeqL P gf lb enc S xs w' :=
  fun n l J Jx W hW => h n l J Jx W (hs.trans hW)
theorem heap_set1Q {W : World} {b : Nat} {v u : Value} {t : TypeId} (h : W.heap[b]? = some (.cells #[v] t (0, 0))) : (W.setCell ⟨b, 0, none⟩ u).heap[b]? = some (.cells #[u] t (0, 0)) := by
  have := heap_setCell_same W b 0 #[v] t u h
  simpa using this

end Go.Proofs.Ythkmklfmobenaaa
