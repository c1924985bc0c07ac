import Derived.Test.YtdalilllakdamaaOpo
import Derived.Deep.RegionHeld3
import Derived.Deep.DrawnRows
import Derived.RegionTactic
import Derived.ChangeAlike
import Derived.Sort.LoopGhostIn
import Derived.Deep.QuietTactic
import Derived.BigQuiet
/- The checks of package stream: mills, streams, plans. -/
namespace Go.Proofs.Ytdalilllakdamaa
open Go Go.RowKit

/-- A mill. -/
structure Ml where
  (k t bl bh h nl nh : Int)
def encMl (m : Ml) : List Value := [iv m.k, iv m.t, iv m.bl, iv m.bh, iv m.h, iv m.nl, iv m.nh]
def vMill (m : Ml) : Bool := inB 1 8 m.k && (inB 0 100 m.t && (okSpan m.bl m.bh 0 5000 && (inB 0 500 m.h && okSpan m.nl m.nh 0 m.h)))

def vFlow (p : Sp) : Bool := okSpan p.1 p.2 0 500
def sChk (m : Ml) (F : List Sp) : Int :=
  if vMill m = true then (if 24 < F.length then 5 else if F.length = 0 then 7 else if F.all vFlow = true then 0 else 3) else 2
theorem sChk_zero {m : Ml} {F : List Sp} (h : sChk m F = 0) : vMill m = true ∧ F.length ≤ 24 ∧ 0 < F.length ∧ F.all vFlow = true := by
  unfold sChk at h
  split at h
  · split at h
    · omega
    · split at h
      · omega
      · split at h
        · exact ⟨by assumption, by omega, by omega, by assumption⟩
        · omega
  · omega

/-- The valley of a mill and a stream. -/
def vcells (m : Ml) (fv : Value) : Array Value := #[iv m.k, iv m.t, iv m.bl, iv m.bh, iv m.h, iv m.nl, iv m.nh, fv]
def zv : Array Value := #[iv 0, iv 0, iv 0, iv 0, iv 0, iv 0, iv 0, .slice none 0 0]
def openV (m : Ml) (F : List Sp) (fv : Value) : Array Value := if sChk m F = 0 then vcells m fv else zv

theorem vcells_one (m : Ml) (a : Option Addr) (n c : Nat) : (vcells m (.slice a n c)).all (·.oneCell') = true := by simp [vcells, Value.oneCell']
theorem zv_one : zv.all (·.oneCell') = true := by simp [zv, Value.oneCell']
end Go.Proofs.Ytdalilllakdamaa

/- How a pond fills, and what hammers leave. -/
namespace Go.Proofs.Ytdalilllakdamaa
open Go Go.RowKit
attribute [local go_sem ↓] Go.wp_at_zero Go.wp_at_succ

def fillL (H l f : Int) : Int := if H < l + f then H else l + f
def leftL (T H l f k : Int) : Int := fillL H l f - k * T

theorem kcell {W W1 : World} {b o : Nat} {v : Value} (hb : Below W.heap.size W W1) (h : W.cell? ⟨b, o, none⟩ = some v) : W1.cell? ⟨b, o, none⟩ = some v := (hb.cell (p := ⟨b, o, none⟩) (lt_of_cell h)).trans h

end Go.Proofs.Ytdalilllakdamaa

/- The iterator over the levels of a pond. -/
namespace Go.Proofs.Ytdalilllakdamaa
open Go Go.RowKit Go.Shelf
attribute [local go_sem] Oper.semAt_some
attribute [local go_sem ↓] Go.wp_at_zero Go.wp_at_succ

/-- How high a pond stands after each hour that has enough water: of each hour what comes, and the hammers. -/
def lvs (T H : Int) : Int → List (Int × Int) → List Int
  | _, [] => []
  | l, (f, k) :: r => if 0 ≤ leftL T H l f k then leftL T H l f k :: lvs T H (leftL T H l f k) r else []
def hrs (sel : Sp → Int) (F : List Sp) (plan : List Int) : List (Int × Int) := (F.map sel).zip plan
theorem hrs_drop {sel : Sp → Int} {F : List Sp} {plan : List Int} {k : Nat} {p : Sp} {x : Int} (hp : F[k]? = some p) (hx : plan[k]? = some x) : (hrs sel F plan).drop k = (sel p, x) :: (hrs sel F plan).drop (k + 1) := by
  have h : (hrs sel F plan)[k]? = some (sel p, x) := by simp [hrs, List.getElem?_zip_eq_some, hp, hx]
  obtain ⟨hk, he⟩ := List.getElem?_eq_some_iff.1 h
  rw [← he]; exact List.drop_eq_getElem_cons hk
theorem hrs_end {sel : Sp → Int} {F : List Sp} {plan : List Int} {k : Nat} (h : plan.length ≤ k) : (hrs sel F plan).drop k = [] := by
  apply List.drop_eq_nil_of_le; simp [hrs]; omega
/-- A row of cells, cell by cell. -/
theorem row8 {W : World} {b : Nat} {a0 a1 a2 a3 a4 a5 a6 a7 : Value} {t : TypeId} (h : W.heap[b]? = some (.cells #[a0, a1, a2, a3, a4, a5, a6, a7] t (0, 0))) :
    W.cell? ⟨b, 0, none⟩ = some a0 ∧ W.cell? ⟨b, 1, none⟩ = some a1 ∧ W.cell? ⟨b, 2, none⟩ = some a2 ∧ W.cell? ⟨b, 3, none⟩ = some a3 ∧ W.cell? ⟨b, 4, none⟩ = some a4 ∧ W.cell? ⟨b, 5, none⟩ = some a5 ∧ W.cell? ⟨b, 6, none⟩ = some a6 ∧ W.cell? ⟨b, 7, none⟩ = some a7 := by
  refine ⟨?_, ?_, ?_, ?_, ?_, ?_, ?_, ?_⟩ <;> (rw [cell_of_row _ _ _ _ _ _ h]; rfl)
theorem vMill_iff {m : Ml} : vMill m = true ↔ (1 ≤ m.k ∧ m.k ≤ 8) ∧ (0 ≤ m.t ∧ m.t ≤ 100) ∧ okSpan m.bl m.bh 0 5000 = true ∧ (0 ≤ m.h ∧ m.h ≤ 500) ∧ (0 ≤ m.nl ∧ m.nl ≤ m.h ∧ 0 ≤ m.nh ∧ m.nh ≤ m.h ∧ m.nl ≤ m.nh) := by
  simp only [vMill, Bool.and_eq_true, inB_iff, okSpan_iff]

end Go.Proofs.Ytdalilllakdamaa

/- stretch.add of package cloth. -/
namespace Go.Proofs.Ytdalilllakdamaa
open Go Go.RowKit Go.Shelf

/-- A stretch: its ends, and how many numbers it has. -/
structure Str where
  (l h : Int) (n : Nat)
def Str.cells (s : Str) : Array Value := #[iv s.l, iv s.h, iv s.n]
def Str.add (s : Str) (x : Int) : Str := if s.n = 0 then ⟨x, x, 1⟩ else ⟨if x < s.l then x else s.l, if s.h < x then x else s.h, s.n + 1⟩

/-- Block b alone has become o. -/
structure PutB (b : Nat) (o : Obj) (w w' : World) : Prop where
  os : w'.os = w.os
  tape : w'.tape = w.tape
  output : w'.output = w.output
  size : w'.heap.size = w.heap.size
  this : w'.heap[b]? = some o
  other : ∀ k, k ≠ b → w'.heap[k]? = w.heap[k]?
theorem PutB.below {b : Nat} {o : Obj} {w w1 w2 : World} (h : PutB b o w1 w2) (hb : Below w.heap.size w w1) (hB : w.heap.size ≤ b) : Below w.heap.size w w2 :=
  hb.trans ⟨h.os, h.tape, h.output, by rw [h.size]; exact Nat.le_refl _, fun k hk => h.other k (by omega)⟩

theorem PutB.set {b : Nat} {cs : Array Value} {t : TypeId} {w w' : World} (h : PutB b (.cells cs t (0, 0)) w w') (o : Nat) (v : Value) : PutB b (.cells (cs.setIfInBounds o v) t (0, 0)) w (w'.setCell ⟨b, o, none⟩ v) :=
  ⟨h.os, h.tape, h.output, by simp [h.size], heap_setCell_same _ _ _ _ _ _ h.this, fun k hk => (heap_setCell_other _ _ _ _ hk).trans (h.other k hk)⟩
theorem PutB.refl {b : Nat} {o : Obj} {w : World} (h : w.heap[b]? = some o) : PutB b o w w := ⟨rfl, rfl, rfl, rfl, h, fun _ _ => rfl⟩
theorem PutB.drew {b : Nat} {o : Obj} {w w' : World} (h : PutB b o w w') : PutB b o w w'.drew := ⟨h.os, h.tape, h.output, h.size, h.this, h.other⟩

end Go.Proofs.Ytdalilllakdamaa

/- A range over a function whose body writes some boxes of its own. -/
namespace Go.Proofs.Ytdalilllakdamaa
open Go Go.RowKit Go.Shelf

/-- How a round may be left: only the blocks of X have been turned. -/
def boxEnd {α : Type} (X : Nat → Prop) (I : List α → World → Prop) (Ix : Code → World → Prop) (xs : List α) (W : World) : Exit → Act → World → Prop
  | .normal, _, W' => Turn X W W' ∧ I xs W'
  | .ret, _, W' => Turn X W W' ∧ Ix .ret W'
  | .exit id, _, W' => Turn X W W' ∧ Ix (.exit id) W'
  | .goto t, _, W' => Turn X W W' ∧ Ix (.goto t) W'
  | .panic _, _, _ => False
  | .outgrown, _, _ => False

theorem Turn.high {X T : Nat → Prop} {w W W' : World} (h : Turn X w W) (hT : ∀ k, T k → w.heap.size ≤ k) (h' : Turn T W W') : Turn X w W' :=
  ⟨h'.os.trans h.os, h'.tape.trans h.tape, h'.output.trans h.output, Nat.le_trans h.size h'.size, fun k hk hn => (h'.same k (Nat.lt_of_lt_of_le hk h.size) (fun ht => by have := hT k ht; omega)).trans (h.same k hk hn)⟩
theorem Turn.sub {X : Nat → Prop} {w W W' : World} (h : Turn X w W) (h' : Turn X W W') : Turn X w W' := h.trans h'
theorem Turn.sameOn {X S : Nat → Prop} {W W' : World} (h : Turn X W W') (hS : ∀ k, S k → k < W.heap.size ∧ ¬ X k) : SameOn S W W' := ⟨h.size, fun k hk => h.same k (hS k hk).1 (hS k hk).2⟩

theorem rangeB {P : Program} {α : Type} {n : Nat} {g : Operand} {ps : Array Tmp} {assign body : Code} {Q : Exit → Act → World → Prop} {a : Act} {w : World}
    {gf : Nat} {lb : Array Value} (hg : a.eval g = .func (.func gf) #[] lb) (eg : ∀ args w, (callFunc gf args).run P w = .ok (.enter gf args) w)
    {enc : α → Array Value} {S : Nat → Prop} {xs : List α} (hseq : SeqL P gf lb enc S xs w) (hps : ∀ x, (enc x).size = ps.size) (hS : ∀ k, S k → k < w.heap.size)
    (X : Nat → Prop) (hX : ∀ k, X k → k < w.heap.size) (hSX : ∀ k, S k → ¬ X k)
    (I : List α → World → Prop) (Ix : Code → World → Prop) (hI : ∀ s W W', I s W → (∀ k, X k → W'.heap[k]? = W.heap[k]?) → I s W') (hIx : ∀ c W W', Ix c W → (∀ k, X k → W'.heap[k]? = W.heap[k]?) → Ix c W') (h0 : I [] w)
    (hround : ∀ (l : Nat) (pre : List α) (x : α) (W : World), (pre ++ [x]) <+: xs → Turn X w W → I pre W →
      ∀ K : Act → World → Prop, (∀ a1 W1, Below W.heap.size W W1 → (∀ W2, Turn X w W2 → I pre W2 → W2.heap.size = W1.heap.size → (∀ (k : Nat) (o : Obj), W1.heap[k]? = some o → Obj.isCells o = true → W2.heap[k]? = some o) → body.wpIn (Fence.wide.inRound l) (n - 1 - 1) P (boxEnd X I Ix (pre ++ [x]) W2) a1 W2) → K a1 W1) →
      assign.wpIn (Fence.wide.inRound l) (n - 1 - 1) P (Exit.then K (fun _ _ _ => False)) { tmps := (ps.zip (enc x)).foldl (fun t (p, v) => t.setIfInBounds p v) a.tmps, defers := [] } W)
    (hdone : ∀ W, Turn X w W → I xs W → W.heap[w.heap.size]? = some (.deferred (some [])) → Q .normal { a with defers := { target := .collected w.heap.size, args := #[] } :: a.defers } W)
    (hstop : ∀ c W, Turn X w W → Ix c W → W.heap[w.heap.size]? = some (.deferred (some [])) → c.wpIn Fence.wide n P Q { a with defers := { target := .collected w.heap.size, args := #[] } :: a.defers } W) :
    (Code.rangeFunc g ps assign body).wpIn Fence.wide n P Q a w := by
  have hst : ∀ (K : World → Prop), (∀ W W', K W → (∀ k, X k → W'.heap[k]? = W.heap[k]?) → K W') → Stable w.heap.size (fun _ W => Turn X w W ∧ K W) := by
    intro K hK
    refine ⟨fun _ _ _ h _ => h, fun T W W' hT hB ⟨h1, h2⟩ ht => ⟨h1.high hT ht, hK W W' h2 (fun k hk => ht.same k (by have := hX k hk; omega) (fun h => by have := hT k h; have := hX k hk; omega))⟩⟩
  refine rangeL hg eg hseq hps hS (fun _ s W => Turn X w W ∧ I s W) (fun c _ W => Turn X w W ∧ Ix c W) (fun s => hst _ (hI s)) (fun c => hst _ (hIx c)) ⟨Turn.refl _ _, h0⟩ ?_ ?_ ?_
  · intro l T pre x W hTl hTs hsz hpre ⟨ht, hi⟩ K hK
    refine hround l pre x W hpre ht hi K (fun a1 W1 hb hbody => ?_)
    have hST : ∀ k, both S T k → k < W.heap.size := by
      rintro k (h | h)
      · have := hS k h; omega
      · exact hTs k h
    refine hK a1 W1 (SameOn.of_below hb hST) (fun W2 hbump => ?_)
    have ht1 : Turn X w W1 := ht.trans (Turn.of_below hb)
    have ht2 : Turn X w W2 := ht1.high hTl hbump.turn
    have hi1 : I pre W1 := hI _ _ _ hi (fun k hk => hb.block k (by have := hX k hk; omega))
    have hi2 : I pre W2 := hI _ _ _ hi1 (fun k hk => hbump.turn.same k (by have := hX k hk; have := hb.size; omega) (fun h => by have := hTl k h; have := hX k hk; omega))
    refine wpIn_mono (hbody W2 ht2 hi2 hbump.size hbump.cells) ?_
    have hso : ∀ W3, Turn X W2 W3 → SameOn (both S T) W2 W3 := fun W3 h3 => h3.sameOn (fun k hk => ⟨by have := hST k hk; have := hb.size; have := hbump.size; omega, by
      rcases hk with h | h
      · exact hSX k h
      · intro hx; have := hTl k h; have := hX k hx; omega⟩)
    rintro e a3 W3 hp
    cases e with
    | normal => exact ⟨hso _ hp.1, ht2.trans hp.1, hp.2⟩
    | ret => exact ⟨hso _ hp.1, ht2.trans hp.1, hp.2⟩
    | exit id => exact ⟨hso _ hp.1, ht2.trans hp.1, hp.2⟩
    | goto t => exact ⟨hso _ hp.1, ht2.trans hp.1, hp.2⟩
    | panic ch => exact hp.elim
    | outgrown => exact hp.elim
  · intro T W _ _ _ ⟨ht, hi⟩ hK
    exact hdone W ht hi hK
  · intro T c W _ _ _ ⟨ht, hi⟩ hK
    exact hstop c W ht hi hK

/-- The marks of loops that are over are taken up, one after another. -/
theorem leaves_marks {n : Nat} {P : Program} {fn : Func} {tmps : Array Value} {R : Ending → World → Prop} : ∀ (Ds : List Nat) (W : World), Ds.Nodup → (∀ D, D ∈ Ds → W.heap[D]? = some (.deferred (some []))) →
    (∀ W', Turn (fun k => k ∈ Ds) W W' → W'.heap.size = W.heap.size → LeavesInM Fence.wide n P fn tmps R [] .returning W') →
    LeavesInM Fence.wide n P fn tmps R (Ds.map fun D => { target := .collected D, args := #[] }) .returning W
  | [], W, _, _, h => h W (Turn.refl _ _) rfl
  | D :: Ds, W, hn, hd, h => by
    have hD := hd D (by simp)
    refine ⟨by simp, .inl ⟨D, _, rfl, run_takeDeferred hD, leaves_marks Ds _ (List.nodup_cons.1 hn).2 (fun D' hD' => ?_) (fun W' ht hs => h W' ?_ ?_)⟩⟩
    · have hne : D' ≠ D := fun e => (List.nodup_cons.1 hn).1 (e ▸ hD')
      exact (World.putObj_heap_other hne).trans (hd D' (by simp [hD']))
    · exact (Turn.putObj (T := fun k => k ∈ D :: Ds) _ (by simp)).trans (ht.mono (fun k hk => by simp [hk]))
    · rw [hs]; simp
end Go.Proofs.Ytdalilllakdamaa

/- quantities.spans of package cloth, with the two functions that it is handed. -/
namespace Go.Proofs.Ytdalilllakdamaa
open Go Go.RowKit Go.Shelf
def strOf (l : List Int) : Str := l.foldl Str.add ⟨0, 0, 0⟩
theorem strOf_snoc (l : List Int) (x : Int) : strOf (l ++ [x]) = (strOf l).add x := by simp [strOf]
theorem foldl_n (l : List Int) : ∀ s : Str, (l.foldl Str.add s).n = s.n + l.length := by
  induction l with
  | nil => intro s; rfl
  | cons x l ih =>
    intro s
    rw [List.foldl_cons, ih, List.length_cons, Str.add]
    split <;> simp_all <;> omega
theorem strOf_n (l : List Int) : (strOf l).n = l.length := by rw [strOf, foldl_n]; simp
/-- From the least to the greatest of some numbers. -/
def hull (l : List Int) : Sp := ((strOf l).l, (strOf l).h)
/-- For the first k quantities from the least to the greatest number of their truths. -/
def spansTo (f : Int × Int → Int) (ta tb tc : Tk) (M : List Ms) : Nat → List Sp
  | 0 => []
  | k + 1 => spansTo f ta tb tc M k ++ [hull ((trs (tk3 ta tb tc k) (k : Int) M).map f)]
theorem spansTo_len (f : Int × Int → Int) (ta tb tc : Tk) (M : List Ms) (k : Nat) : (spansTo f ta tb tc M k).length = k := by
  induction k with
  | zero => rfl
  | succ k ih => simp [spansTo, ih]
theorem info72 : (Try.prog.info? 29).map (fun i => (i.zero, i.size, i.bytes)) = some (some (.agg #[.int .i64 0, .int .i64 0]), 2, 16) := by kernel_rfl
theorem encS_len (p : Sp) : (encS p).length = 2 := rfl
theorem encS_one (p : Sp) : ∀ u ∈ encS p, u.oneCell' = true := by intro u hu; simp [encS] at hu; rcases hu with rfl | rfl <;> rfl
theorem encS_cell {w : World} {g : Nat} {p : Sp} (h : w.cell? ⟨g, 0, none⟩ = some (iv p.1)) (h' : w.cell? ⟨g, 1, none⟩ = some (iv p.2)) : ∀ j u, (encS p)[j]? = some u → w.cell? ⟨g, j, none⟩ = some u := by
  intro j u hu
  rcases j with _ | _ | j
  · simp [encS] at hu; subst hu; exact h
  · simp [encS] at hu; subst hu; exact h'
  · simp [encS] at hu
theorem crs_len (t : Tk) (ht : vTrack t = true) : (crs t).length ≤ 2000 := by
  simp only [vTrack, vRate, Bool.and_eq_true, vSpan_iff] at ht
  have h1 : (crs t).length = (t.fh + 1 - t.fl).toNat * (t.rh + 1 - t.rl).toNat := by
    simp only [crs, crsTo, rowOf, ups, List.length_flatMap, List.length_map, List.length_range, List.map_const', List.sum_replicate_nat]
  rw [h1]
  have h2 : (t.fh + 1 - t.fl).toNat ≤ 61 := by omega
  have h3 : (t.rh + 1 - t.rl).toNat ≤ 31 := by omega
  calc _ ≤ 61 * 31 := Nat.mul_le_mul h2 h3
    _ ≤ 2000 := by omega
theorem trs_len (t : Tk) (what : Int) (M : List Ms) (ht : vTrack t = true) : (trs t what M).length ≤ 2000 := Nat.le_trans (List.length_filter_le _ _) (crs_len t ht)
theorem PutB.turn {b : Nat} {o : Obj} {w w' : World} (h : PutB b o w w') : Turn (fun k => k = b) w w' := ⟨h.os, h.tape, h.output, by rw [h.size]; exact Nat.le_refl _, fun k _ hk => h.other k hk⟩
theorem marks_cons (D : Nat) (Ds : List Nat) : (({ target := .collected D, args := #[] } : Deferred) :: Ds.map fun D => { target := .collected D, args := #[] }) = (D :: Ds).map fun D => { target := .collected D, args := #[] } := rfl

end Go.Proofs.Ytdalilllakdamaa

/- How many numbers an iterator yields, and their sum; steady plans. -/
namespace Go.Proofs.Ytdalilllakdamaa
open Go Go.RowKit Go.Shelf
attribute [local go_sem] Oper.semAt_some

theorem SeqL.later {α : Type} {P : Program} {gf : Nat} {lb : Array Value} {enc : α → Array Value} {S : Nat → Prop} {xs : List α} {w w' : World} (h : SeqL P gf lb enc S xs w) (hs : SameOn S w w') : SeqL P gf lb enc S xs w' :=
  fun n l J Jx W hW => h n l J Jx W (hs.trans hW)
theorem heap_set1 {W : World} {b : Nat} {v u : Value} {t : TypeId} (h : W.heap[b]? = some (.cells #[v] t (0, 0))) : (W.setCell ⟨b, 0, none⟩ u).heap[b]? = some (.cells #[u] t (0, 0)) := by
  have := heap_setCell_same W b 0 #[v] t u h
  simpa using this
theorem turn_set {W : World} {b : Nat} (v : Value) : Turn (fun k => k = b) W (W.setCell ⟨b, 0, none⟩ v) :=
  ⟨rfl, rfl, rfl, by simp [World.setCell], fun k _ hk => Below.heap_setCell _ _ _ _ hk⟩

/-- A plan in which k hammers go from an hour on: the first j hours are filled in. -/
def stdTo (n : Nat) (k fr : Int) (j : Nat) : List Int := (List.range n).map fun i => if i < j ∧ fr ≤ (i : Int) then k else 0
def stdy (n : Nat) (k fr : Int) : List Int := stdTo n k fr n
theorem stdTo_len (n : Nat) (k fr : Int) (j : Nat) : (stdTo n k fr j).length = n := by simp [stdTo]
theorem stdTo_get (n : Nat) (k fr : Int) (j i : Nat) : (stdTo n k fr j)[i]? = if i < n then some (if i < j ∧ fr ≤ (i : Int) then k else 0) else none := by
  unfold stdTo
  rw [List.getElem?_map]
  by_cases h : i < n
  · rw [List.getElem?_range h, if_pos h]; rfl
  · rw [if_neg h, List.getElem?_eq_none (by simp; omega)]; rfl
theorem stdTo_zero (n : Nat) (k fr : Int) : (stdTo n k fr 0).map iv = List.replicate n (iv 0) := by
  apply List.ext_getElem?; intro i
  rw [List.getElem?_map, stdTo_get, List.getElem?_replicate]
  split <;> simp
theorem stdTo_yes {n : Nat} {k fr : Int} {j : Nat} (h : fr ≤ (j : Int)) : (stdTo n k fr (j + 1)).map iv = ((stdTo n k fr j).map iv).set j (iv k) := by
  apply List.ext_getElem?; intro i
  rw [List.getElem?_map, List.getElem?_set, List.getElem?_map, stdTo_get, stdTo_get, List.length_map, stdTo_len]
  by_cases e : j = i
  · subst e
    rw [if_pos rfl]
    by_cases hn : j < n
    · rw [if_pos hn, if_pos hn, if_pos ⟨by omega, h⟩]; rfl
    · rw [if_neg hn, if_neg hn]; rfl
  · rw [if_neg e]
    have hc : (i < j + 1 ∧ fr ≤ (i : Int)) ↔ (i < j ∧ fr ≤ (i : Int)) := ⟨fun h2 => ⟨by omega, h2.2⟩, fun h2 => ⟨by omega, h2.2⟩⟩
    simp only [hc]
theorem stdTo_no {n : Nat} {k fr : Int} {j : Nat} (h : ¬ fr ≤ (j : Int)) : stdTo n k fr (j + 1) = stdTo n k fr j := by
  apply List.ext_getElem?; intro i
  rw [stdTo_get, stdTo_get]
  have hc : (i < j + 1 ∧ fr ≤ (i : Int)) ↔ (i < j ∧ fr ≤ (i : Int)) := ⟨fun h2 => ⟨by
    by_cases e : i = j
    · subst e; exact absurd h2.2 h
    · omega, h2.2⟩, fun h2 => ⟨by omega, h2.2⟩⟩
  simp only [hc]
theorem flatI (l : List Int) : l.flatMap encI = l.map iv := by
  induction l with
  | nil => rfl
  | cons a l ih => rw [List.flatMap_cons, ih]; rfl

/-- A list of numbers is returned. -/
def IntsRes (n : Nat) (xs : List Int) (w : World) (e : Ending) (w' : World) : Prop := ∃ pa, e = .returned (.slice pa n n) ∧ Ints w' (.slice pa n n) xs ∧ Below w.heap.size w w'
end Go.Proofs.Ytdalilllakdamaa

/- Lasts of package stream. -/
namespace Go.Proofs.Ytdalilllakdamaa
open Go Go.RowKit Go.Shelf
attribute [local go_sem ↓] Go.wp_at_zero Go.wp_at_succ

theorem kfrozen {W W1 : World} {b o : Nat} {v : Value} (hb : Below W.heap.size W W1) (h : W.cell? ⟨b, o, none⟩ = some v) (hf : W.frozen? ⟨b, o, none⟩ = false) : W1.frozen? ⟨b, o, none⟩ = false := (hb.frozen (p := ⟨b, o, none⟩) (lt_of_cell h)).trans hf

/-- Levels of a plan, if one end of each span is true. -/
def lvOf (sel : Sp → Int) (m : Ml) (F : List Sp) (plan : List Int) : List Int := lvs m.t m.h (sel (m.nl, m.nh)) (hrs sel F plan)
theorem lvs_len (T H : Int) : ∀ (r : List (Int × Int)) (l : Int), (lvs T H l r).length ≤ r.length
  | [], _ => by simp [lvs]
  | (f, k) :: r, l => by
    rw [lvs]
    split
    · rw [List.length_cons, List.length_cons]; have := lvs_len T H r (leftL T H l f k); omega
    · simp
theorem lvOf_len (sel : Sp → Int) (m : Ml) (F : List Sp) (plan : List Int) : (lvOf sel m F plan).length ≤ plan.length := by
  refine Nat.le_trans (lvs_len _ _ _ _) ?_
  simp [hrs]; omega

def lastErr (m : Ml) (F : List Sp) (k fr : Int) : Int := if sChk m F ≠ 0 then sChk m F else if inB 1 m.k k = true ∧ inB 0 ((F.length : Int) - 1) fr = true then 0 else 3
def lastOf (sel : Sp → Int) (m : Ml) (F : List Sp) (k fr : Int) : Int := if lastErr m F k fr = 0 then ((lvOf sel m F (stdy F.length k fr)).length : Int) - fr else 0
theorem openV_bad {m : Ml} {F : List Sp} (fv : Value) (h : sChk m F ≠ 0) : openV m F fv = zv := by simp [openV, h]
theorem openV_good {m : Ml} {F : List Sp} (fv : Value) (h : sChk m F = 0) : openV m F fv = vcells m fv := by simp [openV, h]
theorem encMl_cells (m : Ml) : (encMl m).toArray = #[iv m.k, iv m.t, iv m.bl, iv m.bh, iv m.h, iv m.nl, iv m.nh] := rfl

end Go.Proofs.Ytdalilllakdamaa

/- The busiest plans: begin, next, the iterator. -/
namespace Go.Proofs.Ytdalilllakdamaa
open Go Go.RowKit Go.Shelf
attribute [local go_sem] Oper.semAt_some
attribute [local go_sem ↓] Go.wp_at_zero Go.wp_at_succ

def mom (hour level : Int) : Value := .agg #[iv hour, iv level]
/-- The hammers of an hour, if as many go as can. -/
def mostOf (m : Ml) (l f : Int) : Int := if 0 < m.t then (if fillL m.h l f / m.t < m.k then fillL m.h l f / m.t else m.k) else m.k
def busy (m : Ml) : Int → List Sp → List Int
  | _, [] => []
  | l, p :: r => mostOf m l p.1 :: busy m (leftL m.t m.h l p.1 (mostOf m l p.1)) r
theorem fillL_bd {H l f : Int} (hH : 0 ≤ H) (h1 : 0 ≤ l) (h2 : 0 ≤ f) : 0 ≤ fillL H l f ∧ fillL H l f ≤ H := by unfold fillL; split <;> omega
theorem mostOf_bd {m : Ml} {l f : Int} (hm : vMill m = true) (h1 : 0 ≤ l) (h2 : 0 ≤ f) : 0 ≤ mostOf m l f ∧ mostOf m l f ≤ m.k ∧ 0 ≤ leftL m.t m.h l f (mostOf m l f) ∧ leftL m.t m.h l f (mostOf m l f) ≤ m.h := by
  obtain ⟨⟨m1, m2⟩, ⟨m3, m4⟩, -, ⟨m5, m6⟩, -⟩ := vMill_iff.1 hm
  obtain ⟨f1, f2⟩ := fillL_bd m5 h1 h2
  have key : ∀ x : Int, 0 ≤ x → x * m.t ≤ fillL m.h l f → 0 ≤ leftL m.t m.h l f x ∧ leftL m.t m.h l f x ≤ m.h := by
    intro x hx hxt
    have : 0 ≤ x * m.t := Int.mul_nonneg hx m3
    unfold leftL; omega
  unfold mostOf
  split
  · rename_i ht
    have q0 : 0 ≤ fillL m.h l f / m.t := Int.ediv_nonneg f1 m3
    have q1 : fillL m.h l f / m.t * m.t ≤ fillL m.h l f := Int.ediv_mul_le _ (by omega)
    split
    · rename_i hq
      exact ⟨q0, by omega, key _ q0 q1⟩
    · rename_i hq
      refine ⟨by omega, by omega, key _ (by omega) (Int.le_trans (Int.mul_le_mul_of_nonneg_right (by omega) m3) q1)⟩
  · rename_i ht
    have : m.t = 0 := by omega
    exact ⟨by omega, by omega, key _ (by omega) (by rw [this]; omega)⟩
theorem heap_new2 (W : World) (g : Nat) (a b : Value) (t : TypeId) : (((W.setCell ⟨g, 0, none⟩ a).setCell ⟨g, 1, none⟩ b).alloc (.cells #[a, b] t)).heap[W.heap.size]? = some (.cells #[a, b] t (0, 0)) := by
  have := heap_new ((W.setCell ⟨g, 0, none⟩ a).setCell ⟨g, 1, none⟩ b) #[a, b] t
  simpa using this
theorem turn_setAt {T : Nat → Prop} {W : World} {b : Nat} (hb : T b) (o : Nat) (v : Value) : Turn T W (W.setCell ⟨b, o, none⟩ v) :=
  ⟨rfl, rfl, rfl, by simp [World.setCell], fun k _ hk => Below.heap_setCell _ _ _ _ (fun e => hk (e ▸ hb))⟩

end Go.Proofs.Ytdalilllakdamaa

/- The sum of what an iterator yields. -/
namespace Go.Proofs.Ytdalilllakdamaa
open Go Go.RowKit Go.Shelf
end Go.Proofs.Ytdalilllakdamaa

/- fewest and Most of package stream. -/
namespace Go.Proofs.Ytdalilllakdamaa
open Go Go.RowKit Go.Shelf
theorem busy_all {m : Ml} (hm : vMill m = true) : ∀ (r : List Sp) (l : Int), 0 ≤ l → r.all vFlow = true → (busy m l r).length = r.length ∧ ∀ x ∈ busy m l r, 0 ≤ x ∧ x ≤ 8
  | [], l, _, _ => by simp [busy]
  | p :: r, l, hl, hr => by
    rw [List.all_cons, Bool.and_eq_true] at hr
    obtain ⟨a1, a2, a3, a4, a5⟩ := okSpan_iff.1 hr.1
    obtain ⟨o1, o2, o3, o4⟩ := mostOf_bd (l := l) (f := p.1) hm hl a1
    have hk := (vMill_iff.1 hm).1.2
    obtain ⟨h1, h2⟩ := busy_all hm r _ o3 hr.2
    refine ⟨by simp [busy, h1], ?_⟩
    intro x hx
    rw [busy, List.mem_cons] at hx
    rcases hx with rfl | hx
    · omega
    · exact h2 x hx
theorem sum_bd : ∀ (l : List Int), (∀ x ∈ l, 0 ≤ x ∧ x ≤ 8) → 0 ≤ l.sum ∧ l.sum ≤ 8 * (l.length : Int)
  | [], _ => by simp
  | a :: l, h => by
    have h1 := h a (by simp)
    have h2 := sum_bd l (fun x hx => h x (by simp [hx]))
    rw [List.sum_cons, List.length_cons]; omega
theorem drop_all {α : Type} {p : α → Bool} {l : List α} (h : l.all p = true) (n : Nat) : (l.drop n).all p = true := by
  rw [List.all_eq_true] at *; intro x hx; exact h x (List.mem_of_mem_drop hx)

/-- Whether one hammer more must go in an hour. -/
def fewC (m : Ml) (level : Int) (p : Sp) (r : List Sp) (x : Int) : Bool := decide (x + (busy m (leftL m.t m.h level p.1 x) r).sum < (busy m level (p :: r)).sum)
def leastF (c : Int → Bool) : Nat → Nat → Nat
  | 0, k => k
  | f + 1, k => if c (k : Int) = true then leastF c f (k + 1) else k
def few (m : Ml) (level : Int) (p : Sp) (r : List Sp) : Nat := leastF (fewC m level p r) (mostOf m level p.1).toNat 0
theorem fewC_most {m : Ml} {level : Int} {p : Sp} {r : List Sp} : fewC m level p r (mostOf m level p.1) = false := by
  simp [fewC, busy]

/-- The plan with the most hammers, the smallest list. -/
def mostP (m : Ml) : Int → List Sp → List Int
  | _, [] => []
  | l, p :: r => (few m l p r : Int) :: mostP m (leftL m.t m.h l p.1 (few m l p r)) r
theorem leastF_le (c : Int → Bool) : ∀ (f k : Nat), leastF c f k ≤ k + f
  | 0, k => by simp [leastF]
  | f + 1, k => by
    rw [leastF]; split
    · have := leastF_le c f (k + 1); omega
    · omega
theorem few_bd {m : Ml} {l : Int} {p : Sp} {r : List Sp} (hm : vMill m = true) (h1 : 0 ≤ l) (h2 : 0 ≤ p.1) : (few m l p r : Int) ≤ mostOf m l p.1 ∧ 0 ≤ leftL m.t m.h l p.1 (few m l p r) ∧ leftL m.t m.h l p.1 (few m l p r) ≤ 500 := by
  obtain ⟨o1, o2, o3, o4⟩ := mostOf_bd (l := l) (f := p.1) hm h1 h2
  have h3 := leastF_le (fewC m l p r) (mostOf m l p.1).toNat 0
  have h4 : (few m l p r : Int) ≤ mostOf m l p.1 := by unfold few; omega
  have ht0 := (vMill_iff.1 hm).2.1.1
  have hh5 := (vMill_iff.1 hm).2.2.2.1
  have e1 : (few m l p r : Int) * m.t ≤ mostOf m l p.1 * m.t := Int.mul_le_mul_of_nonneg_right h4 ht0
  have e2 : 0 ≤ (few m l p r : Int) * m.t := Int.mul_nonneg (by omega) ht0
  have e3 := (fillL_bd (H := m.h) (l := l) (f := p.1) (by omega) h1 h2).2
  refine ⟨h4, ?_⟩
  unfold leftL at o3 ⊢; omega
end Go.Proofs.Ytdalilllakdamaa

/- Most of package stream. -/
namespace Go.Proofs.Ytdalilllakdamaa
open Go Go.RowKit Go.Shelf
attribute [local go_sem ↓] Go.wp_at_zero Go.wp_at_succ

/-- A list of numbers, and an error. -/
def IntsErr (L : List Int) (err : Int) (w : World) (e : Ending) (w' : World) : Prop := ∃ v, e = .returned (.tuple #[v, iv err]) ∧ Owns encI 1 3 w.heap.size w' v L ∧ Below w.heap.size w w'
def mostL (m : Ml) (F : List Sp) : List Int := if sChk m F = 0 then mostP m m.nl F else []
theorem Owns.base2 {α : Type} {enc : α → List Value} {sz e base base' : Nat} {w : World} {v : Value} {xs : List α} (h : Owns enc sz e base w v xs) (hb : base' ≤ base) : Owns enc sz e base' w v xs := by
  refine ⟨h.1, ?_⟩
  rcases h.2 with h0 | ⟨g, cap, cur, h1, h2, h3⟩
  · exact .inl h0
  · exact .inr ⟨g, cap, cur, h1, Nat.le_trans hb h2, h3⟩
theorem bbase {B : Nat} {W w1 : World} (hb : Below B W w1) : (∀ b o, b < B → w1.cell? ⟨b, o, none⟩ = W.cell? ⟨b, o, none⟩) ∧ (∀ b o, b < B → w1.frozen? ⟨b, o, none⟩ = W.frozen? ⟨b, o, none⟩) :=
  ⟨fun b o h => hb.cell (p := ⟨b, o, none⟩) h, fun b o h => hb.frozen (p := ⟨b, o, none⟩) h⟩
theorem heap_set2 {W : World} {b : Nat} {x y u v : Value} {t : TypeId} (h : W.heap[b]? = some (.cells #[x, y] t (0, 0))) : ((W.setCell ⟨b, 0, none⟩ u).setCell ⟨b, 1, none⟩ v).heap[b]? = some (.cells #[u, v] t (0, 0)) := by
  have h1 := heap_setCell_same W b 0 #[x, y] t u h
  have h2 := heap_setCell_same _ b 1 _ t v h1
  simpa using h2
theorem grown_set2 (W : World) (b : Nat) (u v : Value) : W.grownBy ((W.setCell ⟨b, 0, none⟩ u).setCell ⟨b, 1, none⟩ v) (some b) :=
  ⟨rfl, rfl, rfl, by simp [World.setCell], fun k hk hne => by
    have : k ≠ b := fun e => hne (by rw [e])
    rw [Below.heap_setCell _ _ _ _ (by simpa using this), Below.heap_setCell _ _ _ _ (by simpa using this)]⟩

end Go.Proofs.Ytdalilllakdamaa

/- The small functions of the statements across the chapters: spans, copies, comparisons, and the known example. -/
namespace Go.Proofs.Ytdalilllakdamaa
open Go Go.RowKit Go.Shelf
theorem spans3 {w : World} {g cap : Nat} {a b c d e f : Int} {t : TypeId} (h : w.heap[g]? = some (.cells #[iv a, iv b, iv c, iv d, iv e, iv f] t (0, 0))) : SliceOf encS 2 w (.slice (some ⟨g, 0, none⟩) 3 cap) [(a, b), (c, d), (e, f)] := by
  refine ⟨_, cap, rfl, by simp, fun i p hp => ⟨g, 0, rfl, fun j u hu => ?_⟩⟩
  rw [cell_of_row _ _ _ _ _ _ h]
  rcases i with _ | _ | _ | i
  · simp at hp; subst hp; rcases j with _ | _ | j <;> simp [encS] at hu ⊢ <;> exact hu
  · simp at hp; subst hp; rcases j with _ | _ | j <;> simp [encS] at hu ⊢ <;> exact hu
  · simp at hp; subst hp; rcases j with _ | _ | j <;> simp [encS] at hu ⊢ <;> exact hu
  · simp at hp

theorem ints3 {w : World} {g cap : Nat} {a b c : Int} {t : TypeId} (h : w.heap[g]? = some (.cells #[iv a, iv b, iv c] t (0, 0))) : Ints w (.slice (some ⟨g, 0, none⟩) 3 cap) [a, b, c] := by
  refine ⟨_, cap, rfl, by simp, fun i p hp => ⟨g, 0, rfl, fun j u hu => ?_⟩⟩
  rw [cell_of_row _ _ _ _ _ _ h]
  rcases i with _ | _ | _ | i
  · simp at hp; subst hp; rcases j with _ | j <;> simp [encI] at hu ⊢ <;> exact hu
  · simp at hp; subst hp; rcases j with _ | j <;> simp [encI] at hu ⊢ <;> exact hu
  · simp at hp; subst hp; rcases j with _ | j <;> simp [encI] at hu ⊢ <;> exact hu
  · simp at hp
theorem bdrewN {B : Nat} {w w1 : World} (h : Below B w w1) (n : Nat) : Below B w (w1.drewN n) := ⟨h.os, h.tape, h.output, h.size, h.block⟩
theorem beq_take_succ {xs ys : List Int} {k : Nat} {x y : Int} (h : xs.take k = ys.take k) (hx : xs[k]? = some x) (hy : ys[k]? = some y) (he : x = y) : xs.take (k + 1) = ys.take (k + 1) := by
  rw [List.take_add_one, List.take_add_one, h, hx, hy, he]

def kMl : Ml := ⟨3, 10, 30, 40, 50, 20, 25⟩
def kFl : List Sp := [(10, 20), (0, 5), (15, 30)]
theorem kMost : mostL kMl kFl = [0, 1, 3] := by decide +kernel
theorem kChk : sChk kMl kFl = 0 := by decide +kernel

end Go.Proofs.Ytdalilllakdamaa
