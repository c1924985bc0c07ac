/- Plain facts for TopBeatenLonger: what Lasts and At say of valid mills and of cloths without measurings. -/
import Derived.Test.YtdalilllakdamaaMb
import Derived.Test.YtdalilllakdamaaAt
namespace Go.Proofs.Ytdalilllakdamaa
open Go Go.RowKit Go.Shelf

theorem fillL_mono {H l l' f f' : Int} (h : l + f ≤ l' + f') : fillL H l f ≤ fillL H l' f' := by unfold fillL; split <;> split <;> omega
theorem lvs_mono {T H : Int} : ∀ (F : List Sp) (plan : List Int) (l l' : Int), (∀ p ∈ F, p.1 ≤ p.2) → l ≤ l' → (lvs T H l (hrs Prod.fst F plan)).length ≤ (lvs T H l' (hrs Prod.snd F plan)).length
  | [], plan, l, l', _, _ => by simp [hrs, lvs]
  | p :: F, [], l, l', _, _ => by simp [hrs, lvs]
  | p :: F, k :: plan, l, l', hF, hl => by
    have h1 := hF p (by simp)
    have h2 : leftL T H l p.1 k ≤ leftL T H l' p.2 k := by have := fillL_mono (H := H) (show l + p.1 ≤ l' + p.2 by omega); unfold leftL; omega
    show (if 0 ≤ leftL T H l p.1 k then leftL T H l p.1 k :: lvs T H (leftL T H l p.1 k) (hrs Prod.fst F plan) else []).length ≤ (if 0 ≤ leftL T H l' p.2 k then leftL T H l' p.2 k :: lvs T H (leftL T H l' p.2 k) (hrs Prod.snd F plan) else []).length
    by_cases h0 : 0 ≤ leftL T H l p.1 k
    · rw [if_pos h0, if_pos (by omega), List.length_cons, List.length_cons]
      have := lvs_mono (T := T) (H := H) F plan _ _ (fun q hq => hF q (by simp [hq])) h2
      omega
    · rw [if_neg h0]; simp
theorem lvs_ge {T H : Int} (hH : 0 ≤ H) : ∀ (n : Nat) (F : List Sp) (plan : List Int) (l : Int), (∀ p ∈ F, 0 ≤ p.1) → 0 ≤ l → (∀ i, i < n → plan[i]? = some 0) → n ≤ F.length → n ≤ (lvs T H l (hrs Prod.fst F plan)).length
  | 0, F, plan, l, _, _, _, _ => by simp
  | n + 1, [], plan, l, _, _, _, hn => by simp at hn
  | n + 1, p :: F, [], l, _, _, hp, _ => by have := hp 0 (by omega); simp at this
  | n + 1, p :: F, k :: plan, l, hF, hl, hp, hn => by
    have hk : k = 0 := by have := hp 0 (by omega); simpa using this
    subst hk
    have h1 := hF p (by simp)
    have h0 : 0 ≤ leftL T H l p.1 0 := by have := (fillL_bd (H := H) hH hl h1).1; unfold leftL; omega
    show n + 1 ≤ (if 0 ≤ leftL T H l p.1 0 then leftL T H l p.1 0 :: lvs T H (leftL T H l p.1 0) (hrs Prod.fst F plan) else []).length
    rw [if_pos h0, List.length_cons]
    have := lvs_ge (T := T) hH n F plan _ (fun q hq => hF q (by simp [hq])) h0 (fun i hi => by have := hp (i + 1) (by omega); simpa using this) (by simpa using hn)
    omega
theorem last_bd {m : Ml} {F : List Sp} {k fr : Int} (hc : sChk m F = 0) (hk : inB 1 m.k k = true) (hf : inB 0 ((F.length : Int) - 1) fr = true) :
    lastErr m F k fr = 0 ∧ 0 ≤ lastOf Prod.fst m F k fr ∧ lastOf Prod.fst m F k fr ≤ lastOf Prod.snd m F k fr ∧ lastOf Prod.snd m F k fr ≤ F.length := by
  have he : lastErr m F k fr = 0 := by simp [lastErr, hc, hk, hf]
  obtain ⟨hm, hl24, hl0, hFv⟩ := sChk_zero hc
  obtain ⟨-, -, -, ⟨m5, m6⟩, m7, m8, m9, m10, m11⟩ := vMill_iff.1 hm
  obtain ⟨q1, q2⟩ := inB_iff.1 hf
  have hFs : ∀ p ∈ F, 0 ≤ p.1 ∧ p.1 ≤ p.2 := fun p hp => by
    obtain ⟨a1, a2, a3, a4, a5⟩ := okSpan_iff.1 (List.all_eq_true.1 hFv p hp); exact ⟨a1, a5⟩
  have h1 : fr.toNat ≤ (lvOf Prod.fst m F (stdy F.length k fr)).length := by
    refine lvs_ge m5 fr.toNat F _ m.nl (fun p hp => (hFs p hp).1) m7 (fun i hi => ?_) (by omega)
    rw [stdy, stdTo_get, if_pos (by omega), if_neg (by omega)]
  have h2 : (lvOf Prod.fst m F (stdy F.length k fr)).length ≤ (lvOf Prod.snd m F (stdy F.length k fr)).length := lvs_mono F _ _ _ (fun p hp => (hFs p hp).2) m11
  have h3 := lvOf_len Prod.snd m F (stdy F.length k fr)
  rw [show (stdy F.length k fr).length = F.length from stdTo_len _ _ _ _] at h3
  refine ⟨he, ?_⟩
  rw [lastOf, lastOf, if_pos he, if_pos he]
  omega

theorem fold_spec : ∀ (l : List Int) (s : Str), s.n ≠ 0 → 0 ≤ s.n → s.l ≤ s.h → (l.foldl Str.add s).l ≤ s.l ∧ s.h ≤ (l.foldl Str.add s).h ∧ (∀ y ∈ l, (l.foldl Str.add s).l ≤ y ∧ y ≤ (l.foldl Str.add s).h) ∧ ((l.foldl Str.add s).l = s.l ∨ (l.foldl Str.add s).l ∈ l) ∧ ((l.foldl Str.add s).h = s.h ∨ (l.foldl Str.add s).h ∈ l)
  | [], s, _, _, _ => by simp
  | x :: l, s, hn, hn0, hs => by
    have e : s.add x = ⟨if x < s.l then x else s.l, if s.h < x then x else s.h, s.n + 1⟩ := by simp [Str.add, hn]
    have h1 : (s.add x).n ≠ 0 := by rw [e]; dsimp only; omega
    have h2 : 0 ≤ (s.add x).n := by rw [e]; dsimp only; omega
    have h3 : (s.add x).l ≤ (s.add x).h := by rw [e]; dsimp only; split <;> split <;> omega
    obtain ⟨a, b, c, d, f⟩ := fold_spec l (s.add x) h1 h2 h3
    have g1 : (s.add x).l ≤ s.l ∧ (s.add x).l ≤ x ∧ ((s.add x).l = s.l ∨ (s.add x).l = x) := by rw [e]; dsimp only; split <;> omega
    have g2 : s.h ≤ (s.add x).h ∧ x ≤ (s.add x).h ∧ ((s.add x).h = s.h ∨ (s.add x).h = x) := by rw [e]; dsimp only; split <;> omega
    rw [List.foldl_cons]
    refine ⟨by omega, by omega, ?_, ?_, ?_⟩
    · intro y hy
      rcases List.mem_cons.1 hy with rfl | hy
      · omega
      · exact c y hy
    · rcases d with d | d
      · rcases g1.2.2 with g | g
        · exact .inl (d.trans g)
        · exact .inr (by rw [d, g]; simp)
      · exact .inr (List.mem_cons_of_mem _ d)
    · rcases f with d | d
      · rcases g2.2.2 with g | g
        · exact .inl (d.trans g)
        · exact .inr (by rw [d, g]; simp)
      · exact .inr (List.mem_cons_of_mem _ d)
/-- The ends of a hull. -/
theorem strOf_spec : ∀ l : List Int, l ≠ [] → (strOf l).n = l.length ∧ (strOf l).l ∈ l ∧ (strOf l).h ∈ l ∧ ∀ y ∈ l, (strOf l).l ≤ y ∧ y ≤ (strOf l).h
  | [], h => absurd rfl h
  | x :: l, _ => by
    obtain ⟨a, b, c, d, f⟩ := fold_spec l ⟨x, x, 1⟩ (by dsimp only; omega) (by dsimp only; omega) (Int.le_refl _)
    have e : strOf (x :: l) = l.foldl Str.add ⟨x, x, 1⟩ := by rw [strOf, List.foldl_cons]; rfl
    refine ⟨strOf_n _, ?_, ?_, ?_⟩ <;> rw [e]
    · rcases d with d | d
      · rw [d]; simp
      · exact List.mem_cons_of_mem _ d
    · rcases f with d | d
      · rw [d]; simp
      · exact List.mem_cons_of_mem _ d
    · intro y hy
      rcases List.mem_cons.1 hy with rfl | hy
      · exact ⟨a, b⟩
      · exact c y hy
theorem aft_le {x r : Int} (hx : 0 ≤ x) (hr : 0 ≤ r) (hr' : r ≤ 1000) : ∀ {a b : Nat}, a ≤ b → aft x r b ≤ aft x r a := by
  intro a b h
  obtain ⟨c, rfl⟩ := Nat.le.dest h
  induction c with
  | zero => exact Int.le_refl _
  | succ c ih =>
    refine Int.le_trans ?_ (ih (by omega))
    have h1 := (aft_bd hx hr hr' (a + c)).1
    have h3 : 0 ≤ aft x r (a + c) * r := Int.mul_nonneg h1 hr
    show aft x r (a + c) - aft x r (a + c) * r / 1000 ≤ aft x r (a + c)
    have : 0 ≤ aft x r (a + c) * r / 1000 := Int.ediv_nonneg h3 (by omega)
    omega
/-- What a quantity can be at an hour, if nothing was measured. -/
def qAt (t : Tk) (h : Nat) : Sp := hull ((crs t).map fun p => aft p.1 p.2 h)
theorem mem_crs {t : Tk} {x r : Int} (h1 : t.fl ≤ x) (h2 : x ≤ t.fh) (h3 : t.rl ≤ r) (h4 : r ≤ t.rh) : (x, r) ∈ crs t := by
  simp only [crs, crsTo, rowOf, ups, List.mem_flatMap, List.mem_map, List.mem_range]
  exact ⟨x, ⟨(x - t.fl).toNat, by omega, by omega⟩, r, ⟨(r - t.rl).toNat, by omega, by omega⟩, rfl⟩
theorem qAt_zero {t : Tk} (ht : vTrack t = true) : qAt t 0 = (t.fl, t.fh) := by
  simp only [vTrack, vRate, Bool.and_eq_true, vSpan_iff] at ht
  have hne : ((crs t).map fun p => aft p.1 p.2 0) ≠ [] := by
    intro h
    have := mem_crs (t := t) (x := t.fl) (r := t.rl) (by omega) (by omega) (by omega) (by omega)
    rw [List.map_eq_nil_iff] at h; rw [h] at this; cases this
  obtain ⟨-, h2, h3, h4⟩ := strOf_spec _ hne
  have hin : ∀ y ∈ ((crs t).map fun p => aft p.1 p.2 0), t.fl ≤ y ∧ y ≤ t.fh := by
    intro y hy
    obtain ⟨⟨x, r⟩, hp, rfl⟩ := List.mem_map.1 hy
    have := crs_mem hp
    exact ⟨this.1, this.2.1⟩
  have a1 := hin _ h2
  have a2 := hin _ h3
  have b1 := h4 t.fl (List.mem_map.2 ⟨(t.fl, t.rl), mem_crs (by omega) (by omega) (by omega) (by omega), rfl⟩)
  have b2 := h4 t.fh (List.mem_map.2 ⟨(t.fh, t.rl), mem_crs (by omega) (by omega) (by omega) (by omega), rfl⟩)
  simp only [qAt, hull, Prod.mk.injEq]
  omega
theorem qAt_mono {t : Tk} (ht : vTrack t = true) {a b : Nat} (hab : a ≤ b) : (qAt t b).1 ≤ (qAt t a).1 ∧ (qAt t b).2 ≤ (qAt t a).2 := by
  have ht' := ht
  simp only [vTrack, vRate, Bool.and_eq_true, vSpan_iff] at ht
  have hne : ∀ h, ((crs t).map fun p => aft p.1 p.2 h) ≠ [] := by
    intro h e
    have := mem_crs (t := t) (x := t.fl) (r := t.rl) (by omega) (by omega) (by omega) (by omega)
    rw [List.map_eq_nil_iff] at e; rw [e] at this; cases this
  obtain ⟨-, h2, h3, h4⟩ := strOf_spec _ (hne a)
  obtain ⟨-, k2, k3, k4⟩ := strOf_spec _ (hne b)
  obtain ⟨⟨x, r⟩, hp, e1⟩ := List.mem_map.1 h2
  obtain ⟨⟨y, s⟩, hq, e2⟩ := List.mem_map.1 k3
  have c1 := crs_mem hp
  have c2 := crs_mem hq
  have d1 := aft_le (x := x) (r := r) (by omega) (by omega) (by omega) hab
  have d2 := aft_le (x := y) (r := s) (by omega) (by omega) (by omega) hab
  have f1 := (k4 _ (List.mem_map.2 ⟨(x, r), hp, rfl⟩)).1
  have f2 := (h4 _ (List.mem_map.2 ⟨(y, s), hq, rfl⟩)).2
  dsimp only at e1 e2 f1 f2
  simp only [qAt, hull]
  omega
theorem trs_nil (t : Tk) (what : Int) : trs t what [] = crs t := by
  unfold trs
  apply List.filter_eq_self.2
  intro p _
  simp [good, ag, agTo]
theorem check_nil {a b c : Tk} (h : [a, b, c].all vTrack = true) : check [a, b, c] [] = 0 := by simp only [check, List.length_cons, List.length_nil, h]; simp
theorem opn_nil {a b c : Tk} (h : [a, b, c].all vTrack = true) : opn [a, b, c] [] = 0 := by
  have hc := check_nil h
  have hh : ∀ t, vTrack t = true → ∀ w, has t w [] = true := by
    intro t ht w
    simp only [vTrack, vRate, Bool.and_eq_true, vSpan_iff] at ht
    have := mem_crs (t := t) (x := t.fl) (r := t.rl) (by omega) (by omega) (by omega) (by omega)
    simp only [has, trs_nil, Bool.not_eq_true', List.isEmpty_eq_false_iff]
    intro e; rw [e] at this; cases this
  simp only [List.all_cons, List.all_nil, Bool.and_true, Bool.and_eq_true] at h
  simp [opn, hc, hasAllT, hasAll, hh _ h.1, hh _ h.2.1, hh _ h.2.2]
theorem at_nil {a b c : Tk} {h : Nat} (hv : [a, b, c].all vTrack = true) (hh : h ≤ 48) : atErr [a, b, c] [] (h : Int) = 0 ∧ atL [a, b, c] [] (h : Int) = [qAt a h, qAt b h, qAt c h] := by
  have he : atErr [a, b, c] [] (h : Int) = 0 := by
    have : inB 0 48 (h : Int) = true := inB_iff.2 ⟨by omega, by omega⟩
    simp [atErr, opn_nil hv, this]
  refine ⟨he, ?_⟩
  simp only [atL, he, if_true, spansL, spansTo, trs_nil, tk3, Int.toNat_natCast]
  rfl
end Go.Proofs.Ytdalilllakdamaa
