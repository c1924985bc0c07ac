/- Turns: when each cloth is taken. -/
import Derived.Test.YtdalilllakdamaaQt
namespace Go.Proofs.Ytdalilllakdamaa
open Go Go.RowKit Go.Shelf
attribute [local go_sem] Oper.semAt_some

/-- What a list of spans holds, flat, when the visits are put at one side. -/
def put2 (off : Nat) (l : List (Nat × Int × Int)) (z : List Int) : List Int := l.foldl (fun z v => z.set (v.1 * 2 + off) v.2.1) z
theorem put2_snoc (off : Nat) (l : List (Nat × Int × Int)) (v : Nat × Int × Int) (z : List Int) : put2 off (l ++ [v]) z = (put2 off l z).set (v.1 * 2 + off) v.2.1 := by simp [put2]
theorem put2_len (off : Nat) : ∀ (l : List (Nat × Int × Int)) (z : List Int), (put2 off l z).length = z.length
  | [], _ => rfl
  | v :: l, z => by
    have := put2_len off l (z.set (v.1 * 2 + off) v.2.1)
    rw [List.length_set] at this
    exact this
theorem getD_set' (z : List Int) (i j : Nat) (v : Int) : (z.set i v).getD j 0 = if i = j ∧ j < z.length then v else z.getD j 0 := by
  simp only [List.getD_eq_getElem?_getD, List.getElem?_set]
  by_cases h : i = j
  · subst h
    by_cases hl : i < z.length
    · simp [hl]
    · simp [hl]
  · simp [h]
theorem put2_same {off : Nat} (ho : off < 2) : ∀ (l : List (Nat × Int × Int)) (z : List Int) (u : List Int), z.length = u.length * 2 → (∀ i, z.getD (i * 2 + off) 0 = u.getD i 0) → ∀ i, (put2 off l z).getD (i * 2 + off) 0 = (putTo l u).getD i 0
  | [], _, _, _, h, i => h i
  | v :: l, z, u, hl, h, i => by
    refine put2_same ho l (z.set (v.1 * 2 + off) v.2.1) (u.set v.1 v.2.1) (by simp [hl]) (fun j => ?_) i
    rw [getD_set', getD_set', h j]
    by_cases e : v.1 = j
    · subst e
      by_cases hj : v.1 < u.length
      · rw [if_pos ⟨rfl, by omega⟩, if_pos ⟨rfl, hj⟩]
      · rw [if_neg (by omega), if_neg (by omega)]
    · rw [if_neg (by omega), if_neg (by omega)]
theorem put2_other {off off' : Nat} (ho : off < 2) (ho' : off' < 2) (hne : off ≠ off') : ∀ (l : List (Nat × Int × Int)) (z : List Int) (i : Nat), (put2 off l z).getD (i * 2 + off') 0 = z.getD (i * 2 + off') 0
  | [], _, _ => rfl
  | v :: l, z, i => by
    refine (put2_other ho ho' hne l (z.set (v.1 * 2 + off) v.2.1) i).trans ?_
    rw [getD_set', if_neg (by omega)]
theorem infoSp : (Try.prog.info? 29).map (fun i => (i.zero, i.size, i.bytes)) = some (some (.agg #[.int .i64 0, .int .i64 0]), 2, 16) := by kernel_rfl
theorem made_row2 (n : Nat) : (madeCells (Value.cells (.agg #[.int .i64 0, .int .i64 0])) (n * 2)).toList = (List.replicate (n * 2) (0 : Int)).map iv := by
  refine List.ext_getElem? fun i => ?_
  by_cases h : i < n * 2
  · have h2 : i % 2 = 0 ∨ i % 2 = 1 := by omega
    simp only [madeCells, Value.cells, Array.toList_map, Array.toList_range, List.getElem?_map, List.getElem?_range h, Option.map_some, List.map_replicate, List.getElem?_replicate, if_pos h]
    rcases h2 with h2 | h2 <;> simp [h2]
  · rw [List.getElem?_eq_none (by simp [madeCells]; omega), List.getElem?_eq_none (by simp; omega)]
theorem heap_owns2 {w : World} {base g n : Nat} {e : TypeId} {xs : List Value} (h : w.ownsRow base e 2 (.slice (some ⟨g, 0, none⟩) n n) n xs) : w.heap[g]? = some (.cells xs.toArray e (0, 0)) := by
  rcases h.2 with ⟨h0, _⟩ | ⟨g', cap, cur, h0, hg, hh, h1, h2, h3, h4⟩
  · cases h0
  · cases h0
    rw [hh]
    congr 2
    apply Array.ext'
    rw [← h4, List.take_of_length_le]
    simp; omega
theorem wpListIn_make_full {F : Fence} {n : Nat} {P : Program} (w : World) {ops : Array Oper} {rest : List Oper} {o : Oper} {a : Act} {Q : Exit → Act → World → Prop}
    (hg : o.guard = none) (l c : Operand) (t : TypeId) (hop : o.op = Op.makeSlice t l c)
    (base : Nat) (e : TypeId) (i : TypeInfo) (z : Value) (size : Nat) (h1 : P.underlying t = some (.slice e)) (h2 : P.info? e = some i) (h3 : i.zero = some z) (h4 : i.size = size)
    (kl kc : IntKind) (L C : Int) (m : Nat) (hl : a.eval l = .int kl L) (hc : a.eval c = .int kc C) (hL : L = (m : Int)) (hC : C = (m : Int)) (b2 : i.bytes * m ≤ 281474976710656) (b3 : m ≤ maxLen) (b4 : base ≤ w.heap.size)
    (hK : ∀ w', w'.ownsRow base e size (.slice (some ⟨w.heap.size, 0, none⟩) m m) m (madeCells z.cells (m * size)).toList → w.grownBy w' none → wpListIn F n P ops Q rest (a.put o.dst (.slice (some ⟨w.heap.size, 0, none⟩) m m)) w') :
    wpListIn F n P ops Q (o :: rest) a w := by
  refine wpListIn_plain hg fun K hK' => ?_
  obtain ⟨w', hrun, r1, r2⟩ := run_make_full (P := P) w base t e i z size h1 h2 h3 h4 kl kc m b2 b3 b4
  subst hL
  subst hC
  unfold Oper.wpIn
  refine ⟨?_, ?_⟩
  · simp [Oper.about, hop]
  · rw [Oper.semAt_plain F _ _ (by rw [hop]; intro c hc'; cases hc')]
    simp [execOp, hop, hl, hc, hrun, Result.andThen]
    exact hK' _ _ (hK w' r1 r2)

theorem span_new {w : World} {base g n : Nat} {e : TypeId} (h : w.ownsRow base e 2 (.slice (some ⟨g, 0, none⟩) n n) n (madeCells (Value.cells (.agg #[.int .i64 0, .int .i64 0])) (n * 2)).toList) : w.heap[g]? = some (.cells (rowI (List.replicate (n * 2) 0)) e (0, 0)) := by
  have := heap_owns2 h
  rw [made_row2] at this
  exact this

/-- The list that Starts makes, flat. -/
def stF (C : List Ct) (k : Nat) (o : List Nat) : List Int :=
  put2 1 (visL (coOf C) (hiOf C) (List.replicate k 0) o) (put2 0 (visL (coOf C) (loOf C) (List.replicate k 0) o) (List.replicate (C.length * 2) 0))
theorem stF_len (C : List Ct) (k : Nat) (o : List Nat) : (stF C k o).length = C.length * 2 := by simp [stF, put2_len]
theorem stF_lo (C : List Ct) (k : Nat) (o : List Nat) (i : Nat) : (stF C k o).getD (i * 2) 0 = (putTo (visL (coOf C) (loOf C) (List.replicate k 0) o) (List.replicate C.length 0)).getD i 0 :=
  (put2_other (off := 1) (off' := 0) (by omega) (by omega) (by omega) _ _ i).trans (put2_same (off := 0) (by omega) _ _ _ (by simp) (fun j => by simp [List.getD_eq_getElem?_getD, List.getElem?_replicate]) i)
theorem stF_hi (C : List Ct) (k : Nat) (o : List Nat) (i : Nat) : (stF C k o).getD (i * 2 + 1) 0 = (putTo (visL (coOf C) (hiOf C) (List.replicate k 0) o) (List.replicate C.length 0)).getD i 0 :=
  put2_same (off := 1) (by omega) _ _ _ (by simp [put2_len]) (fun j => by
    rw [put2_other (off := 0) (off' := 1) (by omega) (by omega) (by omega)]
    simp [List.getD_eq_getElem?_getD, List.getElem?_replicate]; split <;> split <;> rfl) i
/-- What Starts returns. -/
def StartsRes (C : List Ct) (R : List Int) (k : Nat) (w : World) (e : Ending) (w' : World) : Prop :=
  ∃ (o : List Nat) (g : Nat), OrdC C R (List.range C.length) o ∧ w.heap.size ≤ g ∧ e = .returned (.tuple #[.slice (some ⟨g, 0, none⟩) C.length C.length, iv 0]) ∧ w'.heap[g]? = some (.cells (rowI (stF C k o)) 29 (0, 0)) ∧ Below w.heap.size w w'

set_option maxRecDepth 20000 in
set_option maxHeartbeats 12800000 in
theorem Starts_good (C : List Ct) (R : List Int) (ca : Option Addr) (ra rb cc rc k : Nat) (w : World) (hC : SliceOf encC 4 w (.slice ca C.length cc) C) (hR : Ints w (.slice (some ⟨ra, rb, none⟩) R.length rc) R) (hchk : tChk C R = 0) (hk : 1 ≤ k ∧ k ≤ 5) :
    Calls Try.prog 5 #[.agg #[.slice ca C.length cc, .slice (some ⟨ra, rb, none⟩) R.length rc], iv k] w (StartsRes C R k w) := by
  obtain ⟨i0, hi, hz0, hz1, hz2⟩ := info_parts infoSp
  have hln : C.length ≤ 1000 := by have := (tChk_zero hchk).2.1; omega
  have HI := Lib.hid hi; have HZ0 := Lib.hid hz0; have HZ1 := Lib.hid hz1
  have HBY := Lib.hid (show i0.bytes * C.length ≤ 281474976710656 by rw [hz2]; omega)
  have HML := Lib.hid (show C.length ≤ maxLen by unfold maxLen; omega)
  have HOP := Lib.hid (fun (W : World) (hb : Below w.heap.size w W) => openT_good C R ca ra rb cc rc k W (hC.below hb) (hR.below hb) hchk hk)
  have HC := Lib.hid hC
  have HCK := Lib.hid hchk
  have HK1 := Lib.hid hk
  clear hC hR hchk hi hz0 hz1 hz2 hk hln
  refine (callsIn_wide (n := 3)).1 ?_
  refine callsIn_of_wp_marks Try.func5 rfl trivial ?_ rfl
  simp only [Try.ntmps5, List.size_toArray, List.length_cons, List.length_nil, Nat.reduceAdd, Nat.reduceSub, Array.replicate_succ, Array.replicate_zero, List.push_toArray, List.append_toArray, List.nil_append, List.cons_append]
  gi_wp2_with fail
  have hbox : Below w.heap.size w (w.alloc (.cells #[.slice ca C.length cc, .slice (some ⟨ra, rb, none⟩) R.length rc] 27)) := (by repeat (first | exact Below.refl _ _ | refine Below.drew ?_ | refine bpush ?_ _ | refine bput ?_ (by simp) _ | (refine bstep ?_ (by assumption))))
  have hrow : (w.alloc (.cells #[.slice ca C.length cc, .slice (some ⟨ra, rb, none⟩) R.length rc] 27)).heap[w.heap.size]? = some (.cells #[.slice ca C.length cc, .slice (some ⟨ra, rb, none⟩) R.length rc] 27 (0, 0)) := heap_new _ _ _
  have hzb : (w.alloc (.cells #[.slice ca C.length cc, .slice (some ⟨ra, rb, none⟩) R.length rc] 27)).heap.size = w.heap.size + 1 := by simp
  have HBOX := Lib.hid hbox; have HROW := Lib.hid hrow; have HZB := Lib.hid hzb
  clear hbox hrow hzb
  generalize (w.alloc (.cells #[.slice ca C.length cc, .slice (some ⟨ra, rb, none⟩) R.length rc] 27)) = wA at *
  refine (callsIn_wide.2 (HOP.out _ HBOX.out)).mono ?_
  rintro e w1 ⟨o, g, oc, rfl, hord, ho1, hb1⟩
  have hB1 : Below w.heap.size w w1 := bstep HBOX.out hb1
  have hqu := day_qu HCK.out hord ⟨HK1.out.1, by have := HK1.out.2; omega⟩
  have hq := quIn_of HC.out hB1 ho1 hqu.len
  have hz1 := hb1.size
  have hr1 := (hb1.block w.heap.size (by have := HZB.out; omega)).trans HROW.out
  have HQU := Lib.hid hqu; have HQ := Lib.hid hq; have HB1 := Lib.hid hB1; have HORD := Lib.hid hord; have HR1 := Lib.hid hr1
  have HZ1w : Hid (w.heap.size + 1 ≤ w1.heap.size) := by have := HZB.out; unfold Hid; omega
  clear hb1 ho1 hord hqu hq hB1 hz1 hr1
  obtain ⟨Wn, hWn⟩ : ∃ Wn : World, w1.alloc (.cells #[.slice ca C.length cc, .slice (some ⟨ra, rb, none⟩) R.length rc, iv k, .slice (some ⟨g, 0, none⟩) o.length oc] 48) = Wn := ⟨_, rfl⟩
  have hBn : Below w1.heap.size w1 Wn := by rw [← hWn]; exact bpush (Below.refl _ _) _
  have hqn : Wn.heap[w1.heap.size]? = some (.cells #[.slice ca C.length cc, .slice (some ⟨ra, rb, none⟩) R.length rc, iv k, .slice (some ⟨g, 0, none⟩) o.length oc] 48 (0, 0)) := by rw [← hWn]; exact heap_new _ _ _
  have hzn : Wn.heap.size = w1.heap.size + 1 := by rw [← hWn]; simp
  have hdn := (hBn.block w.heap.size (by have := HZ1w.out; omega)).trans HR1.out
  have d0 : Wn.cell? ⟨w.heap.size, 0, none⟩ = some (.slice ca C.length cc) := by rw [cell_of_row _ _ _ _ _ _ hdn]; rfl
  have HBn := Lib.hid hBn; have HQn := Lib.hid hqn; have HZn := Lib.hid hzn
  clear hBn hqn hzn hdn
  gi_wp2_with (
    with_reducible change wpListIn _ _ _ _ _ (Oper.mk _ (Op.makeSlice 33 _ _) _ _ _ _ :: _) _ _
    refine wpListIn_make_full _ rfl _ _ 33 rfl Wn.heap.size 29 i0 (.agg #[.int .i64 0, .int .i64 0]) 2 Try.underlying33 HI.out HZ0.out HZ1.out .i64 .i64 C.length C.length C.length rfl rfl rfl rfl HBY.out HML.out (Nat.le_refl _) ?_
    intro w2 hown hgrow
    have hl2 := span_new hown
    have hB2 : Below Wn.heap.size Wn w2 := ⟨hgrow.os, hgrow.tape, hgrow.output, hgrow.size, fun q hq => hgrow.block q hq (by simp)⟩
    have hz2 : Wn.heap.size < w2.heap.size := (Array.getElem?_eq_some_iff.1 hl2).1
    have hq2 := (hB2.block _ (by have := HZn.out; omega)).trans HQn.out
    clear hown hgrow d0 hWn
    obtain ⟨W3, hW3⟩ : ∃ W : World, w2.alloc (.cells #[.slice (some ⟨Wn.heap.size, 0, none⟩) C.length C.length] 33) = W := ⟨_, rfl⟩
    have hB3 : Below w2.heap.size w2 W3 := by rw [← hW3]; exact bpush (Below.refl _ _) _
    have HCW3 : Hid (W3.heap[w2.heap.size]? = some (.cells #[.slice (some ⟨Wn.heap.size, 0, none⟩) C.length C.length] 33 (0, 0))) := by rw [← hW3]; exact heap_new _ _ _
    have HBW3 : Hid (Below w1.heap.size w1 W3) := by
      have hzn := HZn.out
      exact (HBn.out.trans (hB2.mono (by omega))).trans (hB3.mono (by omega))
    have HQW3 := Lib.hid ((hB3.block _ (by have := HZn.out; omega)).trans hq2)
    have HLW3 := Lib.hid ((hB3.block _ hz2).trans hl2)
    have HZW3 : Hid (w1.heap.size < Wn.heap.size ∧ Wn.heap.size < w2.heap.size ∧ w2.heap.size < W3.heap.size) := by
      have := HZn.out
      have hz3 : W3.heap.size = w2.heap.size + 1 := by rw [← hW3]; simp
      exact ⟨by omega, by omega, by omega⟩
    clear hB2 hB3 hl2 hq2 hz2
    have x0 : W3.cell? ⟨w1.heap.size, 0, none⟩ = some (.slice ca C.length cc) := by rw [cell_of_row _ _ _ _ _ _ HQW3.out]; rfl
    have x1 : W3.cell? ⟨w1.heap.size, 1, none⟩ = some (.slice (some ⟨ra, rb, none⟩) R.length rc) := by rw [cell_of_row _ _ _ _ _ _ HQW3.out]; rfl
    have x2 : W3.cell? ⟨w1.heap.size, 2, none⟩ = some (iv k) := by rw [cell_of_row _ _ _ _ _ _ HQW3.out]; rfl
    have x3 : W3.cell? ⟨w1.heap.size, 3, none⟩ = some (.slice (some ⟨g, 0, none⟩) o.length oc) := by rw [cell_of_row _ _ _ _ _ _ HQW3.out]; rfl)
  refine (callsIn_wide.2 (visits_any _ _ _ _ _ _)).mono ?_
  rintro e w4 ⟨rfl, hwy⟩
  clear x0 x1 x2 x3
  have hby : Below W3.heap.size W3 w4 := by rw [← hwy]; exact bpush (bpush (Below.refl _ _) _) _
  have hqy : w4.heap[W3.heap.size]? = some (.cells #[.slice ca C.length cc, .slice (some ⟨ra, rb, none⟩) R.length rc, iv k, .slice (some ⟨g, 0, none⟩) o.length oc] 48 (0, 0)) := by
    rw [← hwy, Below.heap_alloc _ _ _ (by simp)]; exact heap_new _ _ _
  have hsy : w4.heap[W3.heap.size + 1]? = some (.cells #[.func (.func 12) #[] #[]] 67 (0, 0)) := by
    rw [← hwy]
    have := heap_new (W3.alloc (.cells #[.slice ca C.length cc, .slice (some ⟨ra, rb, none⟩) R.length rc, iv k, .slice (some ⟨g, 0, none⟩) o.length oc] 48)) #[.func (.func 12) #[] #[]] 67
    rwa [World.size_alloc] at this
  have hzy : w4.heap.size = W3.heap.size + 2 := by rw [← hwy]; simp
  have hzx := HZW3.out
  have HBy := Lib.hid (HBW3.out.trans (hby.mono (by omega)))
  have HQy := Lib.hid ((hby.block _ (by omega)).trans HQW3.out)
  have HCy := Lib.hid ((hby.block _ (by omega)).trans HCW3.out)
  have HLy := Lib.hid ((hby.block _ (by omega)).trans HLW3.out)
  have HDy := Lib.hid (hby)
  have HZy := Lib.hid hzy
  have HSQ := Lib.hid (visitsLo_seq (fun j => j < w1.heap.size ∨ j = W3.heap.size ∨ j = W3.heap.size + 1) W3.heap.size (W3.heap.size + 1) (.inr (.inl rfl)) (.inr (.inr rfl)) C o ca (some ⟨g, 0, none⟩) cc oc k (.slice (some ⟨ra, rb, none⟩) R.length rc) w4 (fun j hj => by omega) hqy hsy
    (fun W hW => SliceOf.heapEq HQ.out.cl (fun j hj => (hW.block j (.inl hj)).trans (HBy.out.block j hj)))
    (fun W hW => SliceOf.heapEq HQ.out.od (fun j hj => (hW.block j (.inl hj)).trans (HBy.out.block j hj))) HQU.out.lt HQU.out.pos HQU.out.len HQU.out.ok)
  have HBD : Hid (∀ v ∈ visL (coOf C) (loOf C) (List.replicate k 0) o, v.1 < C.length) := fun v hv => HQU.out.lt _ (vis_bd o (List.replicate k 0) 0 (FrOk.zero k) (by have := HQU.out.pos; simp; omega) (fun x hx => by
    obtain ⟨k1, k2, k3, k4, k5, k6, k7, k8⟩ := HQU.out.ok x (HQU.out.lt x hx)
    exact ⟨⟨k3, k4⟩, by unfold loOf; omega, by unfold loOf; omega⟩) v hv).1
  clear hby hqy hsy hwy hzy hzx
  gi_wp2_with fail
  have hzx := HZW3.out; have hzy := HZy.out
  refine rangeB (gf := 21) (lb := #[.pointer (some ⟨W3.heap.size, 0, none⟩), .pointer (some ⟨W3.heap.size + 1, 0, none⟩)]) rfl (enters_of Try.func21 (by kernel_rfl) rfl) HSQ.out (fun _ => rfl) (fun j hj => by omega) (fun j => j = Wn.heap.size) (fun j hj => by omega) (fun j hj hx => by omega)
    (fun pre W => W.heap[Wn.heap.size]? = some (.cells (rowI (put2 0 pre (List.replicate (C.length * 2) 0))) 29 (0, 0))) (fun _ _ => False)
    (fun s W W' hi hx => (hx _ rfl).trans hi) (fun _ _ _ h => h.elim) HLy.out ?roundw4 ?donew4 ?stopw4
  case stopw4 =>
    rintro c W _ hf _
    exact hf.elim
  case roundw4 =>
    rintro l pre ⟨v1, v2, v3⟩ W hpre htn hi K hK
    have HK := Lib.hid hK; clear hK
    have hvb : v1 < C.length := HBD.out (v1, v2, v3) (hpre.subset (by simp))
    have HSM := Lib.hid (put2_snoc 0 pre (v1, v2, v3) (List.replicate (C.length * 2) 0))
    have hpl : (put2 0 pre (List.replicate (C.length * 2) 0)).length = C.length * 2 := (put2_len _ _ _).trans List.length_replicate
    have hwW := htn.size
    clear hpre htn hi
    unfold encV
    gi_wp2_with fail
    go_simp
    refine HK.out _ _ (bpush (Below.refl _ _) _) ?_
    clear HK
    rintro W2 ht2 hi2 hs2 hcell
    have HI2 := Lib.hid hi2
    have hv := hcell W.heap.size _ (heap_new W _ _) rfl
    have hc2 := (ht2.same w2.heap.size (by omega) (by omega)).trans HCy.out
    have c0 : W2.cell? ⟨w2.heap.size, 0, none⟩ = some (.slice (some ⟨Wn.heap.size, 0, none⟩) C.length C.length) := by rw [cell_of_row _ _ _ _ _ _ hc2]; rfl
    have cA : W2.cell? ⟨W.heap.size, 0, none⟩ = some (iv v1) := by rw [cell_of_row _ _ _ _ _ _ hv]; rfl
    have cB : W2.cell? ⟨W.heap.size, 1, none⟩ = some (iv v2) := by rw [cell_of_row _ _ _ _ _ _ hv]; rfl
    have cL := cell_rowI (i := v1 * 2) hi2 (by omega)
    have fL : W2.frozen? ⟨Wn.heap.size, v1 * 2, none⟩ = false := frozen_of_row _ _ _ _ _ hi2
    clear ht2 hi2 hs2 hcell hv hc2
    generalize (put2 0 pre (List.replicate (C.length * 2) 0)).getD (v1 * 2) 0 = old at *
    gi_wp2_with fail
    refine ⟨turn_setQ (T := fun j => j = Wn.heap.size) rfl _ _, ?_⟩
    dsimp only
    rw [HSM.out, heap_setCell_same _ _ _ _ _ _ HI2.out, rowI_set]
    all_goals rfl
  rintro w5 htn hi hK
  have HBw5 := Lib.hid (HBy.out.trans (htn.below (fun j hj => by omega) (by omega)))
  have HQw5 := Lib.hid ((htn.same _ (by omega) (by omega)).trans HQy.out)
  have HCw5 := Lib.hid ((htn.same _ (by omega) (by omega)).trans HCy.out)
  have HLw5 := Lib.hid hi
  have HZw5 : Hid (w1.heap.size < Wn.heap.size ∧ Wn.heap.size < w2.heap.size ∧ w2.heap.size < w5.heap.size) := by have := htn.size; exact ⟨by omega, by omega, by omega⟩
  have HKw5 := Lib.hid hK
  have HZ4 : Hid (Wn.heap.size < w4.heap.size ∧ w4.heap.size < w5.heap.size) := ⟨by omega, (Array.getElem?_eq_some_iff.1 hK).1⟩
  clear HBy HQy HCy HLy HSQ HBD htn hi hK hzx hzy
  have HF1 := Lib.hid (put2_len 0 (visL (coOf C) (loOf C) (List.replicate k 0) o) (List.replicate (C.length * 2) 0))
  obtain ⟨F1, hF1⟩ : ∃ F1, put2 0 (visL (coOf C) (loOf C) (List.replicate k 0) o) (List.replicate (C.length * 2) 0) = F1 := ⟨_, rfl⟩
  rw [hF1] at HF1 HLw5
  have HE1 := Lib.hid hF1
  clear hF1
  have x0 : w5.cell? ⟨w1.heap.size, 0, none⟩ = some (.slice ca C.length cc) := by rw [cell_of_row _ _ _ _ _ _ HQw5.out]; rfl
  have x1 : w5.cell? ⟨w1.heap.size, 1, none⟩ = some (.slice (some ⟨ra, rb, none⟩) R.length rc) := by rw [cell_of_row _ _ _ _ _ _ HQw5.out]; rfl
  have x2 : w5.cell? ⟨w1.heap.size, 2, none⟩ = some (iv k) := by rw [cell_of_row _ _ _ _ _ _ HQw5.out]; rfl
  have x3 : w5.cell? ⟨w1.heap.size, 3, none⟩ = some (.slice (some ⟨g, 0, none⟩) o.length oc) := by rw [cell_of_row _ _ _ _ _ _ HQw5.out]; rfl
  gi_wp2_with fail
  refine (callsIn_wide.2 (visits_any _ _ _ _ _ _)).mono ?_
  rintro e w6 ⟨rfl, hwy⟩
  clear x0 x1 x2 x3
  have hby : Below w5.heap.size w5 w6 := by rw [← hwy]; exact bpush (bpush (Below.refl _ _) _) _
  have hqy : w6.heap[w5.heap.size]? = some (.cells #[.slice ca C.length cc, .slice (some ⟨ra, rb, none⟩) R.length rc, iv k, .slice (some ⟨g, 0, none⟩) o.length oc] 48 (0, 0)) := by
    rw [← hwy, Below.heap_alloc _ _ _ (by simp)]; exact heap_new _ _ _
  have hsy : w6.heap[w5.heap.size + 1]? = some (.cells #[.func (.func 13) #[] #[]] 67 (0, 0)) := by
    rw [← hwy]
    have := heap_new (w5.alloc (.cells #[.slice ca C.length cc, .slice (some ⟨ra, rb, none⟩) R.length rc, iv k, .slice (some ⟨g, 0, none⟩) o.length oc] 48)) #[.func (.func 13) #[] #[]] 67
    rwa [World.size_alloc] at this
  have hzy : w6.heap.size = w5.heap.size + 2 := by rw [← hwy]; simp
  have hzx := HZw5.out
  have HBy := Lib.hid (HBw5.out.trans (hby.mono (by omega)))
  have HQy := Lib.hid ((hby.block _ (by omega)).trans HQw5.out)
  have HCy := Lib.hid ((hby.block _ (by omega)).trans HCw5.out)
  have HLy := Lib.hid ((hby.block _ (by omega)).trans HLw5.out)
  have HDy := Lib.hid (hby)
  have HZy := Lib.hid hzy
  have HSQ := Lib.hid (visitsHi_seq (fun j => j < w1.heap.size ∨ j = w5.heap.size ∨ j = w5.heap.size + 1) w5.heap.size (w5.heap.size + 1) (.inr (.inl rfl)) (.inr (.inr rfl)) C o ca (some ⟨g, 0, none⟩) cc oc k (.slice (some ⟨ra, rb, none⟩) R.length rc) w6 (fun j hj => by omega) hqy hsy
    (fun W hW => SliceOf.heapEq HQ.out.cl (fun j hj => (hW.block j (.inl hj)).trans (HBy.out.block j hj)))
    (fun W hW => SliceOf.heapEq HQ.out.od (fun j hj => (hW.block j (.inl hj)).trans (HBy.out.block j hj))) HQU.out.lt HQU.out.pos HQU.out.len HQU.out.ok)
  have HBD : Hid (∀ v ∈ visL (coOf C) (hiOf C) (List.replicate k 0) o, v.1 < C.length) := fun v hv => HQU.out.lt _ (vis_bd o (List.replicate k 0) 0 (FrOk.zero k) (by have := HQU.out.pos; simp; omega) (fun x hx => by
    obtain ⟨k1, k2, k3, k4, k5, k6, k7, k8⟩ := HQU.out.ok x (HQU.out.lt x hx)
    exact ⟨⟨k3, k4⟩, by unfold hiOf; omega, by unfold hiOf; omega⟩) v hv).1
  clear hby hqy hsy hwy hzy hzx
  gi_wp2_with fail
  have hzx := HZw5.out; have hzy := HZy.out
  refine rangeB (gf := 21) (lb := #[.pointer (some ⟨w5.heap.size, 0, none⟩), .pointer (some ⟨w5.heap.size + 1, 0, none⟩)]) rfl (enters_of Try.func21 (by kernel_rfl) rfl) HSQ.out (fun _ => rfl) (fun j hj => by omega) (fun j => j = Wn.heap.size) (fun j hj => by omega) (fun j hj hx => by omega)
    (fun pre W => W.heap[Wn.heap.size]? = some (.cells (rowI (put2 1 pre F1)) 29 (0, 0))) (fun _ _ => False)
    (fun s W W' hi hx => (hx _ rfl).trans hi) (fun _ _ _ h => h.elim) HLy.out ?roundw6 ?donew6 ?stopw6
  case stopw6 =>
    rintro c W _ hf _
    exact hf.elim
  case roundw6 =>
    rintro l pre ⟨v1, v2, v3⟩ W hpre htn hi K hK
    have HK := Lib.hid hK; clear hK
    have hvb : v1 < C.length := HBD.out (v1, v2, v3) (hpre.subset (by simp))
    have HSM := Lib.hid (put2_snoc 1 pre (v1, v2, v3) F1)
    have hpl : (put2 1 pre F1).length = C.length * 2 := (put2_len _ _ _).trans (HF1.out.trans List.length_replicate)
    have hwW := htn.size
    clear hpre htn hi
    unfold encV
    gi_wp2_with fail
    go_simp
    refine HK.out _ _ (bpush (Below.refl _ _) _) ?_
    clear HK
    rintro W2 ht2 hi2 hs2 hcell
    have HI2 := Lib.hid hi2
    have hv := hcell W.heap.size _ (heap_new W _ _) rfl
    have hc2 := (ht2.same w2.heap.size (by omega) (by omega)).trans HCy.out
    have c0 : W2.cell? ⟨w2.heap.size, 0, none⟩ = some (.slice (some ⟨Wn.heap.size, 0, none⟩) C.length C.length) := by rw [cell_of_row _ _ _ _ _ _ hc2]; rfl
    have cA : W2.cell? ⟨W.heap.size, 0, none⟩ = some (iv v1) := by rw [cell_of_row _ _ _ _ _ _ hv]; rfl
    have cB : W2.cell? ⟨W.heap.size, 1, none⟩ = some (iv v2) := by rw [cell_of_row _ _ _ _ _ _ hv]; rfl
    have cL := cell_rowI (i := v1 * 2 + 1) hi2 (by omega)
    have fL : W2.frozen? ⟨Wn.heap.size, v1 * 2 + 1, none⟩ = false := frozen_of_row _ _ _ _ _ hi2
    clear ht2 hi2 hs2 hcell hv hc2
    generalize (put2 1 pre F1).getD (v1 * 2 + 1) 0 = old at *
    gi_wp2_with fail
    refine ⟨turn_setQ (T := fun j => j = Wn.heap.size) rfl _ _, ?_⟩
    dsimp only
    rw [HSM.out, heap_setCell_same _ _ _ _ _ _ HI2.out, rowI_set]
    all_goals rfl
  rintro w7 htn hi hK
  have HBw7 := Lib.hid (HBy.out.trans (htn.below (fun j hj => by omega) (by omega)))
  have HQw7 := Lib.hid ((htn.same _ (by omega) (by omega)).trans HQy.out)
  have HCw7 := Lib.hid ((htn.same _ (by omega) (by omega)).trans HCy.out)
  have HLw7 := Lib.hid hi
  have HZw7 : Hid (w1.heap.size < Wn.heap.size ∧ Wn.heap.size < w2.heap.size ∧ w2.heap.size < w7.heap.size) := by have := htn.size; exact ⟨by omega, by omega, by omega⟩
  have HKw7 := Lib.hid hK
  have hz4 := HZ4.out
  have hdw := HDy.out.size
  have HK5 := Lib.hid ((htn.same w4.heap.size (by omega) (by omega)).trans ((HDy.out.block _ hz4.2).trans HKw5.out))
  have HN : Hid (w6.heap.size ≠ w4.heap.size ∧ w1.heap.size ≤ w4.heap.size ∧ w1.heap.size ≤ w6.heap.size ∧ Wn.heap.size < w6.heap.size) := ⟨by omega, by omega, by omega, by omega⟩
  clear hz4 hdw
  clear HBy HQy HCy HLy HSQ HBD htn hi hK hzx hzy
  have c0 : w7.cell? ⟨w2.heap.size, 0, none⟩ = some (.slice (some ⟨Wn.heap.size, 0, none⟩) C.length C.length) := by rw [cell_of_row _ _ _ _ _ _ HCw7.out]; rfl
  gi_wp2_with fail
  have hn := HN.out; have hz4 := HZ4.out; have hz7 := HZw7.out; have hz1w := HZ1w.out
  refine leaves_marks [w6.heap.size, w4.heap.size] w7 (by simp [hn.1]) (fun D hD => ?_) (fun W' ht hs => ?_)
  · rcases List.mem_cons.1 hD with rfl | hD
    · exact HKw7.out
    · rcases List.mem_cons.1 hD with rfl | hD
      · exact HK5.out
      · cases hD
  · refine ⟨_, results_tmp2 rfl _ _ _, o, Wn.heap.size, HORD.out, by omega, rfl, ?_, ?_⟩
    · unfold stF
      rw [HE1.out]
      refine (ht.same _ (by omega) (fun hm => ?_)).trans HLw7.out
      simp only [List.mem_cons, List.not_mem_nil, or_false] at hm
      omega
    · refine (HB1.out.trans (HBw7.out.mono (by omega))).trans (ht.below (fun D hD => ?_) (by omega))
      simp only [List.mem_cons, List.not_mem_nil, or_false] at hD
      omega
end Go.Proofs.Ytdalilllakdamaa
