/- Turns: the queue of some cloths. -/
import Derived.Test.YtdalilllakdamaaQj
import Derived.Test.YtdalilllakdamaaSl
import Derived.WalkLawsBesides
import Derived.Shelf.SlSortCmp.NoneTotal
namespace Go.Proofs.Ytdalilllakdamaa
open Go Go.RowKit Go.Shelf
attribute [local go_sem] Oper.semAt_some
attribute [local go_sem ↓] Go.wp_at_zero Go.wp_at_succ

/-- s = append(s, ys...), neither of them nil: the new one is not nil. -/
theorem L_appendN {P : Program} {ops : Array Oper} {rest : List Oper} {o : Oper} {a : Act} {w : World} {Q : Exit → Act → World → Prop} {α : Type} {enc : α → List Value} {sz e base bytes : Nat} {i : TypeInfo} {z v : Value} {xs : List α} {ad : Addr} {n c : Nat} (ys : List α)
    (hg : o.guard = none) (s x : Operand) (t : TypeId) (hop : o.op = Op.call { callee := Callee.builtin Builtin.append, args := #[s, x], argTypes := #[t, t] })
    (h1 : P.underlying t = some (.slice e)) (h2 : P.info? e = some i) (h3 : i.zero = some z) (h4 : i.size = sz) (h5 : i.bytes = bytes) (h6 : z.cells.size = sz) (h7 : 0 < sz)
    (he : ∀ x, (enc x).length = sz) (h1c : ∀ y, ∀ u ∈ enc y, u.oneCell' = true)
    (hs : a.eval s = v) (hx : a.eval x = .slice (some ad) n c) (hown : Owns enc sz e base w v xs) (hv : v ≠ .slice none 0 0) (hy : SliceOf enc sz w (.slice (some ad) n c) ys)
    (b2 : xs.length + ys.length ≤ maxLen ∧ (xs.length + ys.length) * bytes ≤ 140737488355328) (b3 : base ≤ w.heap.size)
    (hK : ∀ g cp w', Owns enc sz e base w' (.slice (some ⟨g, 0, none⟩) (xs ++ ys).length cp) (xs ++ ys) → Below base w w' → wpList P ops Q rest (a.put o.dst (.slice (some ⟨g, 0, none⟩) (xs ++ ys).length cp)) w') : wpList P ops Q (o :: rest) a w := by
  obtain ⟨hn, hnews⟩ := news_of_slice he hy
  refine wpList_append_own w hg s x t hop base e i z sz bytes h1 h2 h3 h4 h5 h6 h7 v xs.length (xs.flatMap enc) hs hown ad n c (ys.flatMap enc) hx (by rw [flatMap_len he, hn]) hnews (fun u hu => ?_) (by rw [hn]; exact b2.1) (by rw [hn]; exact b2.2) b3 (fun v' w' r1 r2 r3 => ?_)
  · obtain ⟨y, _, hu⟩ := List.mem_flatMap.1 hu
    exact h1c y u hu
  · have ho : Owns enc sz e base w' v' (xs ++ ys) := by
      show w'.ownsRow base e sz v' (xs ++ ys).length ((xs ++ ys).flatMap enc)
      rw [List.length_append, List.flatMap_append, ← hn]; exact r1
    have hb := below_of_own hown b3 r2
    have hne : v' ≠ .slice none 0 0 := fun h => hv (r3.1 h).1
    rcases ho.2 with ⟨h0, _⟩ | ⟨g, cp, cur, rfl, hr⟩
    · exact absurd h0 hne
    · exact hK g cp w' ho hb

set_option maxRecDepth 20000 in
set_option maxHeartbeats 1600000 in
theorem clone_any (L : List Int) (ad : Addr) (c : Nat) (w : World) (hl : L.length ≤ 1000000) (hf : Ints w (.slice (some ad) L.length c) L) :
    Calls Try.prog 39 #[.slice (some ad) L.length c] w fun e w' => ∃ g cp, e = .returned (.slice (some ⟨g, 0, none⟩) L.length cp) ∧ Owns encI 1 3 w.heap.size w' (.slice (some ⟨g, 0, none⟩) L.length cp) L ∧ Below w.heap.size w w' := by
  obtain ⟨i0, hi, hz0, hz1, hz2⟩ := info_parts info3
  have HI := Lib.hid hi; have HZ0 := Lib.hid hz0; have HZ1 := Lib.hid hz1; have HZ2 := Lib.hid hz2
  have HF := Lib.hid (SliceOf.below hf (bpush (Below.refl _ _) (.cells #[] 3)))
  have HB2 : Hid (([] : List Int).length + L.length ≤ maxLen ∧ (([] : List Int).length + L.length) * 8 ≤ 140737488355328) := by simp only [Hid, List.length_nil]; unfold maxLen; omega
  have HB3 : Hid (w.heap.size ≤ (w.alloc (.cells #[] 3)).heap.size) := by simp [Hid]
  clear hi hz0 hz1 hz2 hf
  have HNE : Hid ((Value.slice (some ⟨w.heap.size, 0, none⟩) 0 0) ≠ .slice none 0 0) := by intro h; cases h
  have hnil : ∀ W : World, (binOp .eql 24 (.slice (some ad) L.length c) (.slice none 0 0)).run Try.prog W = .ok (.bool false) W := fun W => Go.Lib.run_eql_slice_nil W 24 3 _ _ _ _ _ Try.underlying24
  go_enter Try.func39, Try.ntmps39
  go_wp2_with (at_builtin; refine L_appendN L rfl _ _ 24 rfl Try.underlying24 HI.out HZ0.out HZ1.out HZ2.out rfl Nat.one_pos encI_len encI_one rfl rfl (owns_empty encI 1 3 w.heap.size w (Nat.le_refl _)) HNE.out HF.out HB2.out HB3.out ?_; intro g cp w1 hown hbe)
  have HO := Lib.hid hown; have HBE := Lib.hid (bpush (Below.refl w.heap.size w) (.cells #[] 3) |>.trans hbe)
  clear hown hbe
  go_ret
  exact ⟨g, cp, rfl, HO.out, HBE.out⟩
theorem owns_low {α : Type} {enc : α → List Value} {sz e base base' : Nat} {w : World} {v : Value} {xs : List α} (h : Owns enc sz e base w v xs) (hb : base' ≤ base) : Owns enc sz e base' w v xs := by
  rcases h.2 with ⟨h0, h1⟩ | ⟨g, cap, cur, h0, hg, hr⟩
  · exact ⟨h.1, .inl ⟨h0, h1⟩⟩
  · exact ⟨h.1, .inr ⟨g, cap, cur, h0, by omega, hr⟩⟩
theorem sortN_any (ad : Option Addr) (cap : Nat) (fv : Value) (w : World) : Calls Try.prog 41 #[.slice ad 0 cap, fv] w fun e w' => e = .returned (.tuple #[]) ∧ w' = w := by
  have h := AnyF.slices_SortFunc_none (P := Try.prog) (ρ := Try.sortF_ren) { Try.sortF with } ad cap fv w
  have hnum : Try.sortF_ren.f 6 = 41 := by kernel_rfl
  rwa [hnum] at h
/-- The queue of some cloths. -/
def LineRes (C : List Ct) (R : List Int) (xs : List Nat) (cv rv : Value) (k : Int) (w : World) (e : Ending) (w' : World) : Prop :=
  ∃ (o : List Nat) (g oc : Nat), e = .returned (qv cv rv k (.slice (some ⟨g, 0, none⟩) o.length oc)) ∧ OrdC C R xs o ∧ Owns encI 1 3 w.heap.size w' (.slice (some ⟨g, 0, none⟩) o.length oc) (ordI o) ∧ Below w.heap.size w w'

set_option maxRecDepth 20000 in
set_option maxHeartbeats 6400000 in
theorem line_any (C : List Ct) (R : List Int) (xs : List Nat) (ca : Option Addr) (ad : Addr) (ra rb cc rc lc : Nat) (k : Int) (w : World) (hC : SliceOf encC 4 w (.slice ca C.length cc) C) (hR : Ints w (.slice (some ⟨ra, rb, none⟩) R.length rc) R) (hs : Ints w (.slice (some ad) xs.length lc) (ordI xs))
    (hx : ∀ x ∈ xs, x < C.length) (hl : xs.length ≤ 1000) (hlC : C.length ≤ 1000000) (hW : WeOk C R) :
    Calls Try.prog 33 #[.agg #[.slice ca C.length cc, .slice (some ⟨ra, rb, none⟩) R.length rc], iv k, .slice (some ad) xs.length lc] w (LineRes C R xs (.slice ca C.length cc) (.slice (some ⟨ra, rb, none⟩) R.length rc) k w) := by
  have HC := Lib.hid hC; have HR := Lib.hid hR; have HS := Lib.hid hs; have HX := Lib.hid hx; have HW := Lib.hid hW
  have hxl : (ordI xs).length = xs.length := ordI_len xs
  clear hC hR hs hx hW
  have hBa : Below w.heap.size w ((w.alloc (.cells #[.slice ca C.length cc, .slice (some ⟨ra, rb, none⟩) R.length rc] 27)).alloc (.cells #[.slice none 0 0, .slice none 0 0, iv 0, .slice none 0 0] 48)) := (by repeat (first | exact Below.refl _ _ | refine Below.drew ?_ | refine bpush ?_ _ | refine bput ?_ (by simp) _ | (refine bstep ?_ (by assumption))))
  have hza : ((w.alloc (.cells #[.slice ca C.length cc, .slice (some ⟨ra, rb, none⟩) R.length rc] 27)).alloc (.cells #[.slice none 0 0, .slice none 0 0, iv 0, .slice none 0 0] 48)).heap.size = w.heap.size + 2 := by simp
  have hda : ((w.alloc (.cells #[.slice ca C.length cc, .slice (some ⟨ra, rb, none⟩) R.length rc] 27)).alloc (.cells #[.slice none 0 0, .slice none 0 0, iv 0, .slice none 0 0] 48)).heap[w.heap.size]? = some (.cells #[.slice ca C.length cc, .slice (some ⟨ra, rb, none⟩) R.length rc] 27 (0, 0)) := by
    rw [Below.heap_alloc _ _ _ (by simp)]; exact heap_new _ _ _
  have hqa : ((w.alloc (.cells #[.slice ca C.length cc, .slice (some ⟨ra, rb, none⟩) R.length rc] 27)).alloc (.cells #[.slice none 0 0, .slice none 0 0, iv 0, .slice none 0 0] 48)).heap[w.heap.size + 1]? = some (.cells #[.slice none 0 0, .slice none 0 0, iv 0, .slice none 0 0] 48 (0, 0)) := by
    have := heap_new (w.alloc (.cells #[.slice ca C.length cc, .slice (some ⟨ra, rb, none⟩) R.length rc] 27)) #[.slice none 0 0, .slice none 0 0, iv 0, .slice none 0 0] 48
    rwa [World.size_alloc] at this
  have HBa := Lib.hid hBa; have HZa := Lib.hid hza; have HDa := Lib.hid hda; have HQa := Lib.hid hqa
  clear hBa hza hda hqa
  go_enter Try.func33, Try.ntmps33
  go_wp2_with fail
  generalize ((w.alloc (.cells #[.slice ca C.length cc, .slice (some ⟨ra, rb, none⟩) R.length rc] 27)).alloc (.cells #[.slice none 0 0, .slice none 0 0, iv 0, .slice none 0 0] 48)) = Wa at *
  have hcl := clone_any (ordI xs) ad lc Wa (by omega) (by rw [hxl]; exact HS.out.below HBa.out)
  rw [hxl] at hcl
  refine hcl.mono ?_
  rintro e w1 ⟨g, cp, rfl, ho1, hb1⟩
  have hz := HZa.out
  have HO1 := Lib.hid ho1
  have HB1 := Lib.hid (bstep HBa.out hb1)
  have HD1 := Lib.hid ((hb1.block w.heap.size (by omega)).trans HDa.out)
  have HQ1 := Lib.hid ((hb1.block (w.heap.size + 1) (by omega)).trans HQa.out)
  have HG : Hid (w.heap.size + 2 ≤ g ∧ g < w1.heap.size) := by
    have := World.ownsRow.lt ho1 g rfl
    unfold Hid; omega
  have d0 : w1.cell? ⟨w.heap.size, 0, none⟩ = some (.slice ca C.length cc) := by rw [cell_of_row _ _ _ _ _ _ HD1.out]; rfl
  have d1 : w1.cell? ⟨w.heap.size, 1, none⟩ = some (.slice (some ⟨ra, rb, none⟩) R.length rc) := by rw [cell_of_row _ _ _ _ _ _ HD1.out]; rfl
  clear ho1 hb1 hz hcl
  go_wp2_with fail
  refine (rounds_any C xs ca (some ad) cc lc _ w1 (HC.out.below HB1.out) (HS.out.below HB1.out) HX.out hl hlC).mono ?_
  rintro e w2 ⟨rfl, hr2, hb2⟩
  have HO2 := Lib.hid (Owns.kept HO1.out hb2)
  have HB2 := Lib.hid (bstep HB1.out hb2)
  have HD2 := Lib.hid ((hb2.block w.heap.size (by have := HG.out; omega)).trans HD1.out)
  have HQ2 := Lib.hid ((hb2.block (w.heap.size + 1) (by have := HG.out; omega)).trans HQ1.out)
  have HR2 := Lib.hid hr2
  have HZ2 := Lib.hid (show w1.heap.size + 2 ≤ w2.heap.size from (Array.getElem?_eq_some_iff.1 hr2).1)
  clear hr2 hb2 d0 d1
  go_wp2_with fail
  have hb3 : Below w2.heap.size w2 (w2.alloc (.cells #[.slice (some ⟨w1.heap.size + 1, 0, none⟩) C.length C.length] 24)) := bpush (Below.refl _ _) _
  have hB3 := bstep HB2.out hb3
  have hg := HG.out; have hz2 := HZ2.out
  have hsort : Calls Try.prog 41 #[.slice (some ⟨g, 0, none⟩) xs.length cp, .func (.func 42) #[] #[.pointer (some ⟨w.heap.size, 0, none⟩), .pointer (some ⟨w2.heap.size, 0, none⟩)]] (w2.alloc (.cells #[.slice (some ⟨w1.heap.size + 1, 0, none⟩) C.length C.length] 24)) fun e w' =>
      e = .returned (.tuple #[]) ∧ ∃ o : List Nat, OrdC C R xs o ∧ Owns encI 1 3 Wa.heap.size w' (.slice (some ⟨g, 0, none⟩) xs.length cp) (ordI o) ∧ (w2.alloc (.cells #[.slice (some ⟨w1.heap.size + 1, 0, none⟩) C.length C.length] 24)).grownBy w' (some g) := by
    by_cases hn : 0 < C.length
    · refine sortQ_any C R (rndL C xs) xs g cp Wa.heap.size w.heap.size w2.heap.size (w1.heap.size + 1) ra rb ca cc rc _ hn HX.out hl (rndTo_len _ _ _) (fun x hx => rndTo_get xs x hx (HX.out x hx)) HW.out (Owns.kept HO2.out hb3) (by omega) (by omega) (by omega) ((hb3.block _ (by omega)).trans HD2.out) (heap_new _ _ _) ((hb3.block _ (by omega)).trans HR2.out) ?_ ?_
      · exact fun W hW => SliceOf.heapEq HC.out (fun k hk => (hW k (by simp; omega) (by omega)).trans (hB3.block k hk))
      · exact fun W hW => SliceOf.heapEq HR.out (fun k hk => (hW k (by simp; omega) (by omega)).trans (hB3.block k hk))
    · have hx0 : xs = [] := List.eq_nil_iff_forall_not_mem.2 (fun x hx => by have := HX.out x hx; omega)
      have hO3 := Owns.kept HO2.out hb3
      subst hx0
      refine (sortN_any _ _ _ _).mono ?_
      rintro e w' ⟨rfl, rfl⟩
      exact ⟨rfl, [], ⟨List.Perm.refl _, List.Pairwise.nil⟩, hO3, World.grownBy.refl _ _⟩
  have HB3 := Lib.hid hB3
  have HD3 := Lib.hid ((hb3.block w.heap.size (by omega)).trans HD2.out)
  have HQ3 := Lib.hid ((hb3.block (w.heap.size + 1) (by omega)).trans HQ2.out)
  have HSO := Lib.hid hsort
  have HZ3 := Lib.hid (show w2.heap.size < (w2.alloc (.cells #[.slice (some ⟨w1.heap.size + 1, 0, none⟩) C.length C.length] 24)).heap.size by simp)
  clear hb3 hB3 hg hz2 hsort
  generalize (w2.alloc (.cells #[.slice (some ⟨w1.heap.size + 1, 0, none⟩) C.length C.length] 24)) = W3 at *
  refine HSO.out.mono ?_
  rintro e w4 ⟨rfl, o, hord, ho4, hg4⟩
  have hg := HG.out; have hz2 := HZ2.out; have hz3 := HZ3.out; have hza := HZa.out
  have hd4 := (hg4.block w.heap.size (by omega) (by simp; omega)).trans HD3.out
  have hq4 := (hg4.block (w.heap.size + 1) (by omega) (by simp; omega)).trans HQ3.out
  have hB4 : Below w.heap.size w w4 := HB3.out.trans ⟨hg4.os, hg4.tape, hg4.output, hg4.size, fun q hq => hg4.block q (by omega) (by simp; omega)⟩
  have hol : o.length = xs.length := hord.1.length_eq
  have d0 : w4.cell? ⟨w.heap.size, 0, none⟩ = some (.slice ca C.length cc) := by rw [cell_of_row _ _ _ _ _ _ hd4]; rfl
  have d1 : w4.cell? ⟨w.heap.size, 1, none⟩ = some (.slice (some ⟨ra, rb, none⟩) R.length rc) := by rw [cell_of_row _ _ _ _ _ _ hd4]; rfl
  have HO4 := Lib.hid ho4; have HB4 := Lib.hid hB4; have HORD := Lib.hid hord; have HQ4 := Lib.hid hq4; have HOL := Lib.hid hol
  have q0 : w4.cell? ⟨w.heap.size + 1, 0, none⟩ = some (.slice none 0 0) := by rw [cell_of_row _ _ _ _ _ _ hq4]; rfl
  have q1 : w4.cell? ⟨w.heap.size + 1, 1, none⟩ = some (.slice none 0 0) := by rw [cell_of_row _ _ _ _ _ _ hq4]; rfl
  have q2 : w4.cell? ⟨w.heap.size + 1, 2, none⟩ = some (iv 0) := by rw [cell_of_row _ _ _ _ _ _ hq4]; rfl
  have q3 : w4.cell? ⟨w.heap.size + 1, 3, none⟩ = some (.slice none 0 0) := by rw [cell_of_row _ _ _ _ _ _ hq4]; rfl
  have f0 : w4.frozen? ⟨w.heap.size + 1, 0, none⟩ = false := by unfold World.frozen?; rw [hq4]; rfl
  have f1 : w4.frozen? ⟨w.heap.size + 1, 1, none⟩ = false := by unfold World.frozen?; rw [hq4]; rfl
  have f2 : w4.frozen? ⟨w.heap.size + 1, 2, none⟩ = false := by unfold World.frozen?; rw [hq4]; rfl
  have f3 : w4.frozen? ⟨w.heap.size + 1, 3, none⟩ = false := by unfold World.frozen?; rw [hq4]; rfl
  clear hd4 hq4 hB4 hol ho4 hord hg4 hg hz2 hz3 hza hxl
  go_wp2_with fail
  refine bodyPost_ret (v := qv (.slice ca C.length cc) (.slice (some ⟨ra, rb, none⟩) R.length rc) k (.slice (some ⟨g, 0, none⟩) xs.length cp)) (by simp [results, Try.results33, go_sem, q0, q1, q2, q3]) rfl ?_
  refine ⟨o, g, cp, by rw [HOL.out], HORD.out, ?_, bput (bput (bput (bput HB4.out (by simp) _) (by simp) _) (by simp) _) (by simp) _⟩
  have hza := HZa.out
  have ho := owns_set (owns_set (owns_set (owns_set HO4.out (g := w.heap.size + 1) (by omega) 0 (.slice ca C.length cc)) (g := w.heap.size + 1) (by omega) 1 (.slice (some ⟨ra, rb, none⟩) R.length rc)) (g := w.heap.size + 1) (by omega) 2 (.int .i64 k)) (g := w.heap.size + 1) (by omega) 3 (.slice (some ⟨g, 0, none⟩) xs.length cp)
  rw [HOL.out]
  exact owns_low ho (by omega)
end Go.Proofs.Ytdalilllakdamaa
