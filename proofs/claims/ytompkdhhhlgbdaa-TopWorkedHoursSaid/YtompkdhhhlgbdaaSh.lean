/- Most of package stream. -/
import Derived.Test.YtompkdhhhlgbdaaSg
namespace Go.Proofs.Ytompkdhhhlgbdaa
open Go Go.RowKit Go.Shelf
attribute [local go_sem ↓] Go.wp_at_zero Go.wp_at_succ

/-- A list of numbers, and an error. -/
def IntsErr (L : List Int) (err : Int) (w : World) (e : Ending) (w' : World) : Prop := ∃ v, e = .returned (.tuple #[v, iv err]) ∧ Owns encI 1 3 w.heap.size w' v L ∧ Below w.heap.size w w'
def mostL (m : Ml) (F : List Sp) : List Int := if sChk m F = 0 then mostP m m.nl F else []
theorem Owns.base2 {α : Type} {enc : α → List Value} {sz e base base' : Nat} {w : World} {v : Value} {xs : List α} (h : Owns enc sz e base w v xs) (hb : base' ≤ base) : Owns enc sz e base' w v xs := by
  refine ⟨h.1, ?_⟩
  rcases h.2 with h0 | ⟨g, cap, cur, h1, h2, h3⟩
  · exact .inl h0
  · exact .inr ⟨g, cap, cur, h1, Nat.le_trans hb h2, h3⟩
theorem bbase {B : Nat} {W w1 : World} (hb : Below B W w1) : (∀ b o, b < B → w1.cell? ⟨b, o, none⟩ = W.cell? ⟨b, o, none⟩) ∧ (∀ b o, b < B → w1.frozen? ⟨b, o, none⟩ = W.frozen? ⟨b, o, none⟩) :=
  ⟨fun b o h => hb.cell (p := ⟨b, o, none⟩) h, fun b o h => hb.frozen (p := ⟨b, o, none⟩) h⟩
theorem heap_set2 {W : World} {b : Nat} {x y u v : Value} {t : TypeId} (h : W.heap[b]? = some (.cells #[x, y] t (0, 0))) : ((W.setCell ⟨b, 0, none⟩ u).setCell ⟨b, 1, none⟩ v).heap[b]? = some (.cells #[u, v] t (0, 0)) := by
  have h1 := heap_setCell_same W b 0 #[x, y] t u h
  have h2 := heap_setCell_same _ b 1 _ t v h1
  simpa using h2
theorem grown_set2 (W : World) (b : Nat) (u v : Value) : W.grownBy ((W.setCell ⟨b, 0, none⟩ u).setCell ⟨b, 1, none⟩ v) (some b) :=
  ⟨rfl, rfl, rfl, by simp [World.setCell], fun k hk hne => by
    have : k ≠ b := fun e => hne (by rw [e])
    rw [Below.heap_setCell _ _ _ _ (by simpa using this), Below.heap_setCell _ _ _ _ (by simpa using this)]⟩

set_option maxRecDepth 20000 in
set_option maxHeartbeats 12800000 in
theorem Most_any (m : Ml) (F : List Sp) (fv : Value) (w : World) (hf : SliceOf encS 2 w fv F) :
    Calls Try.prog 15 #[.agg (encMl m).toArray, fv] w (IntsErr (mostL m F) (sChk m F) w) := by
  have HF := Lib.hid hf
  obtain ⟨fa, fc, rfl, hfl, -⟩ := hf
  have hO := sOpen_any m F (.slice fa F.length fc)
  have HO := Lib.hid hO; clear hO
  by_cases hc : sChk m F = 0
  · obtain ⟨hm, hl24, hl0, hFv⟩ := sChk_zero hc
    have hV : openV m F (.slice fa F.length fc) = vcells m (.slice fa F.length fc) := openV_good _ hc
    have HPL : Hid (mostL m F = mostP m m.nl F) := by simp [Hid, mostL, hc]
    have HC := Lib.hid hc
    rw [hV, hc] at HO
    obtain ⟨i0, hi, hz0, hz1, hz2⟩ := info_parts info3
    have HI := Lib.hid hi; have HZ0 := Lib.hid hz0; have HZ1 := Lib.hid hz1; have HZ2 := Lib.hid hz2
    obtain ⟨-, -, -, ⟨m5, m6⟩, m7, m8, m9, m10, m11⟩ := vMill_iff.1 hm
    have HBG := Lib.hid (begin_any m (.slice fa F.length fc))
    have HFE : Hid (∀ (k : Nat) (p : Sp) (lev : Int) (w : World), F[k]? = some p → 0 ≤ lev → lev ≤ 500 → SliceOf encS 2 w (.slice fa F.length fc) F → Calls Try.prog 40 #[.agg (vcells m (.slice fa F.length fc)), .agg #[iv k, iv lev]] w fun e w' => e = .returned (iv (few m lev p (F.drop (k + 1)))) ∧ Below w.heap.size w w') :=
      fun k p lev w hp h1 h2 hs => fewest_any m fa fc F k p lev w hm hFv (by omega) hp h1 h2 hs
    have HNX : Hid (∀ (k : Nat) (p : Sp) (lev x : Int) (w : World), F[k]? = some p → 0 ≤ lev → lev ≤ 500 → 0 ≤ x → x ≤ 8 → SliceOf encS 2 w (.slice fa F.length fc) F → Calls Try.prog 41 #[.agg (vcells m (.slice fa F.length fc)), .agg #[iv k, iv lev], iv x] w fun e w' => e = .returned (.agg #[iv ((k : Int) + 1), iv (leftL m.t m.h lev p.1 x)]) ∧ Below w.heap.size w w') :=
      fun k p lev x w hp h1 h2 h3 h4 hs => next_any m fa fc F k p lev x w hm hFv (by omega) hp h1 h2 h3 h4 hs
    have HBD : Hid (∀ (k : Nat) (p : Sp) (lev : Int), F[k]? = some p → 0 ≤ lev → 0 ≤ (few m lev p (F.drop (k + 1)) : Int) ∧ (few m lev p (F.drop (k + 1)) : Int) ≤ 8 ∧ 0 ≤ leftL m.t m.h lev p.1 (few m lev p (F.drop (k + 1))) ∧ leftL m.t m.h lev p.1 (few m lev p (F.drop (k + 1))) ≤ 500) := fun k p lev hp hl => by
      obtain ⟨a1, a2, a3, a4, a5⟩ := okSpan_iff.1 (List.all_eq_true.1 hFv p (List.mem_of_getElem? hp))
      obtain ⟨b1, b2, b3⟩ := few_bd (r := F.drop (k + 1)) hm hl a1
      obtain ⟨o1, o2, o3, o4⟩ := mostOf_bd (l := lev) (f := p.1) hm hl a1
      have hk8 := (vMill_iff.1 hm).1.2
      exact ⟨by omega, by omega, b2, b3⟩
    clear hi hz0 hz1 hz2 hm hFv hV hc
    obtain ⟨PL, hPL⟩ : ∃ PL, PL = mostP m m.nl F := ⟨_, rfl⟩
    have HP := Lib.hid hPL; clear hPL
    obtain ⟨kk, t, bl, bh, h, nl, nh⟩ := m
    simp only [encMl, vcells] at *
    go_enter Try.func15, Try.ntmps15
    go_wp2_with fail
    refine (HO.out _ (HF.out.below (by repeat (first | exact Below.refl _ _ | refine Below.drew ?_ | refine bpush ?_ _ | refine bput ?_ (by simp) _ | (refine bstep ?_ (by assumption)))))).mono ?_
    rintro e w1 ⟨rfl, hb⟩
    have hB1 : Below w.heap.size w w1 := bstep (by repeat (first | exact Below.refl _ _ | refine Below.drew ?_ | refine bpush ?_ _ | refine bput ?_ (by simp) _ | (refine bstep ?_ (by assumption)))) hb
    have HB1 := Lib.hid hB1; clear hB1
    clear hb
    go_wp2_with fail
    refine (HBG.out _).mono ?_
    rintro e w2 ⟨rfl, hb2⟩
    have hv2 : w2.heap[w1.heap.size]? = some (.cells #[iv kk, iv t, iv bl, iv bh, iv h, iv nl, iv nh, .slice fa F.length fc] 73 (0, 0)) := (hb2.block _ (by simp)).trans (heap_new _ _ _)
    have hB2 : Below w.heap.size w w2 := bstep (bpush HB1.out _) hb2
    have hz2 : w1.heap.size < w2.heap.size := (Array.getElem?_eq_some_iff.1 hv2).1
    have hz1 : w.heap.size ≤ w1.heap.size := HB1.out.size
    have HV2 := Lib.hid hv2; clear hv2
    have HB2 := Lib.hid hB2; clear hB2
    clear hb2
    go_wp2_with fail
    go_loopw [8, 24] (fun pv i wr => ∃ (k : Nat) (lev : Int) (pre : List Int), k ≤ F.length ∧ i = iv k ∧ 0 ≤ lev ∧ lev ≤ 500 ∧ Hid (pre.length = k) ∧ Hid (PL = pre ++ mostP ⟨kk, t, bl, bh, h, nl, nh⟩ lev (F.drop k)) ∧ Hid (Owns encI 1 3 (w2.heap.size + 1) wr pv pre) ∧ Hid (wr.heap[w2.heap.size]? = some (.cells #[iv k, iv lev] 103 (0, 0))) ∧ Hid (wr.heap[w1.heap.size]? = some (.cells #[iv kk, iv t, iv bl, iv bh, iv h, iv nl, iv nh, .slice fa F.length fc] 73 (0, 0))) ∧ Hid (Below w.heap.size w wr)) (fun _ i _ => F.length - (intOf i).toNat)
    case atStart => exact ⟨0, nl, [], Nat.zero_le _, rfl, m7, by omega, rfl, HP.out, Owns.nil _ _ _ _ _, heap_new _ _ _, (Below.heap_alloc _ _ _ hz2).trans HV2.out, bpush HB2.out _⟩
    case round =>
      obtain ⟨k, lev, pre, hk, rfl, q1, q2, HPN, HPK, HOW, HM2, HV, HB⟩ := hrel
      have hs2 : w2.heap.size < wr.heap.size := (Array.getElem?_eq_some_iff.1 HM2.out).1
      have hs1 : w1.heap.size < wr.heap.size := by omega
      by_cases hlt : k < F.length
      · obtain ⟨p, hp⟩ := getElem?_of_lt hlt
        have HPP := Lib.hid hp
        obtain ⟨b1, b2, b3, b4⟩ := HBD.out k p lev hp q1
        have HPX : Hid (mostP ⟨kk, t, bl, bh, h, nl, nh⟩ lev (F.drop k) = (few ⟨kk, t, bl, bh, h, nl, nh⟩ lev p (F.drop (k + 1)) : Int) :: mostP ⟨kk, t, bl, bh, h, nl, nh⟩ (leftL t h lev p.1 (few ⟨kk, t, bl, bh, h, nl, nh⟩ lev p (F.drop (k + 1)))) (F.drop (k + 1))) := by
          obtain ⟨hk', he⟩ := List.getElem?_eq_some_iff.1 hp
          rw [List.drop_eq_getElem_cons hk', he]; rfl
        have HFk := Lib.hid (fun (w : World) hs => HFE.out k p lev w hp q1 q2 hs)
        clear hp
        obtain ⟨v0, v1, v2, v3, v4, v5, v6, v7⟩ := row8 HV.out
        have d0 : wr.cell? ⟨w2.heap.size, 0, none⟩ = some (iv k) := by rw [cell_of_row _ _ _ _ _ _ HM2.out]; rfl
        have d1 : wr.cell? ⟨w2.heap.size, 1, none⟩ = some (iv lev) := by rw [cell_of_row _ _ _ _ _ _ HM2.out]; rfl
        have HNk := Lib.hid (fun (x : Int) (w : World) h3 h4 hs => HNX.out k p lev x w HPP.out q1 q2 h3 h4 hs)
        generalize (few ⟨kk, t, bl, bh, h, nl, nh⟩ lev p (F.drop (k + 1)) : Int) = fw at *
        go_wp2_with fail
        refine (HFk.out _ (HF.out.below HB.out)).mono ?_
        rintro e w3 ⟨rfl, hb3⟩
        have hm3 := (hb3.block _ hs2).trans HM2.out
        have hv3 := (hb3.block _ hs1).trans HV.out
        have HO3 := Lib.hid (Owns.kept HOW.out hb3)
        have HB3 := Lib.hid (bstep HB.out hb3)
        have hz3 := hb3.size
        clear v0 v1 v2 v3 v4 v5 v6 v7 d0 d1 hb3
        obtain ⟨v0, v1, v2, v3, v4, v5, v6, v7⟩ := row8 hv3
        have d0 : w3.cell? ⟨w2.heap.size, 0, none⟩ = some (iv k) := by rw [cell_of_row _ _ _ _ _ _ hm3]; rfl
        have d1 : w3.cell? ⟨w2.heap.size, 1, none⟩ = some (iv lev) := by rw [cell_of_row _ _ _ _ _ _ hm3]; rfl
        have r1 : w1.heap.size < w2.heap.size + 1 := by omega
        have r2 : w2.heap.size < w2.heap.size + 1 := by omega
        have r3 : w1.heap.size < w3.heap.size := by omega
        have r4 : w2.heap.size < w3.heap.size := by omega
        have hb2 : pre.length + 1 ≤ maxLen ∧ (pre.length + 1) * 8 ≤ 140737488355328 := by rw [HPN.out]; unfold maxLen; omega
        have hb3 : w2.heap.size + 1 ≤ (w3.alloc (.cells #[iv fw] 3)).heap.size := by simp; omega
        have HB2' := Lib.hid hb2; have HB3' := Lib.hid hb3
        have HM3 := Lib.hid hm3; have HV3 := Lib.hid hv3
        clear hm3 hv3 hb2 hb3
        go_wp2_with (at_builtin; refine L_append1 fw rfl _ _ 57 rfl Try.underlying57 HI.out HZ0.out HZ1.out HZ2.out rfl Nat.one_pos encI_len (encI_one _) rfl rfl (Owns.kept HO3.out (bpush (Below.refl _ _) _)) (encI_cell ?_) HB2'.out HB3'.out ?_; go_simp; intro v' w4 hown4 hbe4 hg4; obtain ⟨hc4, hf4⟩ := bbase hbe4)
        have HO4 := Lib.hid hown4
        have HM4 := Lib.hid ((hbe4.block _ r2).trans ((Below.heap_alloc _ _ _ r4).trans HM3.out))
        have HV4 := Lib.hid ((hbe4.block _ r1).trans ((Below.heap_alloc _ _ _ r3).trans HV3.out))
        have hs4 := hbe4.size
        have HB4 := Lib.hid ((bpush HB3.out (.cells #[iv fw] 3)).trans (hbe4.mono (by have := HB2.out.size; omega)))
        clear hown4 hbe4 hg4 hc4 hf4
        refine (HNk.out fw _ b1 b2 (HF.out.below HB4.out)).mono ?_
        rintro e w5 ⟨rfl, hb5⟩
        have r5 : w2.heap.size < w4.heap.size := (Array.getElem?_eq_some_iff.1 HM4.out).1
        have r6 : w1.heap.size < w4.heap.size := by omega
        have hm5 := (hb5.block _ r5).trans HM4.out
        have e0 : w5.cell? ⟨w2.heap.size, 0, none⟩ = some (iv k) := by rw [cell_of_row _ _ _ _ _ _ hm5]; rfl
        have e1 : w5.cell? ⟨w2.heap.size, 1, none⟩ = some (iv lev) := by rw [cell_of_row _ _ _ _ _ _ hm5]; rfl
        have e2 : w5.frozen? ⟨w2.heap.size, 0, none⟩ = false := by unfold World.frozen?; rw [hm5]; rfl
        have e3 : w5.frozen? ⟨w2.heap.size, 1, none⟩ = false := by unfold World.frozen?; rw [hm5]; rfl
        have HM5 := Lib.hid hm5; clear hm5
        have HV5 := Lib.hid ((hb5.block _ r6).trans HV4.out)
        have HO5 := Lib.hid (Owns.kept HO4.out hb5)
        have HB5 := Lib.hid (bstep HB4.out hb5)
        clear hb5 v0 v1 v2 v3 v4 v5 v6 v7 d0 d1
        go_wp2_with fail
        go_roundw
        case rel =>
          refine ⟨k + 1, leftL t h lev p.1 fw, pre ++ [fw], by omega, by go_num, b3, b4, ?_, ?_, ?_, heap_set2 HM5.out, ?_, ?_⟩
          · rw [List.length_append, HPN.out]; rfl
          · have := HPK.out; rw [HPX.out] at this; rw [this]; simp [Hid]
          · refine World.ownsRow.kept HO5.out (grown_set2 _ _ _ _) ?_
            cases hv : v'.ownBlock with
            | none => exact .inl rfl
            | some q =>
              have := (World.ownsRow.lt HO5.out q hv).1
              refine .inr (fun e => ?_)
              simp only [Option.some.injEq] at e; omega
          · exact ((grown_set2 w5 w2.heap.size _ _).block w1.heap.size (Array.getElem?_eq_some_iff.1 HV5.out).1 (by simp; omega)).trans HV5.out
          · exact bput (bput HB5.out (by simp; omega) _) (by simp; omega) _
        case measure => simp [intOf]; omega
      · obtain rfl : k = F.length := by omega
        have HPE : Hid (PL = pre) := by have := HPK.out; rw [List.drop_length] at this; simpa [Hid, mostP] using this
        go_wp2_with fail
        go_ret2
        exact ⟨_, by rw [HC.out]; rfl, by rw [HPL.out, ← HP.out, HPE.out]; exact HOW.out.base2 (by omega), HB.out⟩
  · have e1 : (sChk m F != 0) = true := by simpa using hc
    have hV : openV m F (.slice fa F.length fc) = zv := openV_bad _ hc
    have HPL : Hid (mostL m F = []) := by simp [Hid, mostL, hc]
    rw [hV] at HO
    clear hc hV
    generalize sChk m F = ck at *
    obtain ⟨kk, t, bl, bh, h, nl, nh⟩ := m
    simp only [encMl, zv] at *
    go_enter Try.func15, Try.ntmps15
    go_wp2_with fail
    refine (HO.out _ (HF.out.below (by repeat (first | exact Below.refl _ _ | refine Below.drew ?_ | refine bpush ?_ _ | refine bput ?_ (by simp) _ | (refine bstep ?_ (by assumption)))))).mono ?_
    rintro e w1 ⟨rfl, hb⟩
    have HB := Lib.hid (show Below w.heap.size w w1 from bstep (by repeat (first | exact Below.refl _ _ | refine Below.drew ?_ | refine bpush ?_ _ | refine bput ?_ (by simp) _ | (refine bstep ?_ (by assumption)))) hb)
    clear hb
    go_wp2_with fail
    go_ret2
    exact ⟨_, rfl, by rw [HPL.out]; exact Owns.nil _ _ _ _ _, bpush HB.out _⟩
end Go.Proofs.Ytompkdhhhlgbdaa
