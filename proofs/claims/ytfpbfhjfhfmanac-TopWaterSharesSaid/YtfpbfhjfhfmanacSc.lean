/- The iterator over the levels of a pond. -/
import Derived.Test.YtfpbfhjfhfmanacSb
namespace Go.Proofs.Ytfpbfhjfhfmanac
open Go Go.RowKit Go.Shelf
attribute [local go_sem] Oper.semAt_some
attribute [local go_sem ↓] Go.wp_at_zero Go.wp_at_succ

/-- How high a pond stands after each hour that has enough water: of each hour what comes, and the hammers. -/
def lvs (T H : Int) : Int → List (Int × Int) → List Int
  | _, [] => []
  | l, (f, k) :: r => if 0 ≤ leftL T H l f k then leftL T H l f k :: lvs T H (leftL T H l f k) r else []
def hrs (sel : Sp → Int) (F : List Sp) (plan : List Int) : List (Int × Int) := (F.map sel).zip plan
theorem hrs_drop {sel : Sp → Int} {F : List Sp} {plan : List Int} {k : Nat} {p : Sp} {x : Int} (hp : F[k]? = some p) (hx : plan[k]? = some x) : (hrs sel F plan).drop k = (sel p, x) :: (hrs sel F plan).drop (k + 1) := by
  have h : (hrs sel F plan)[k]? = some (sel p, x) := by simp [hrs, List.getElem?_zip_eq_some, hp, hx]
  obtain ⟨hk, he⟩ := List.getElem?_eq_some_iff.1 h
  rw [← he]; exact List.drop_eq_getElem_cons hk
theorem hrs_end {sel : Sp → Int} {F : List Sp} {plan : List Int} {k : Nat} (h : plan.length ≤ k) : (hrs sel F plan).drop k = [] := by
  apply List.drop_eq_nil_of_le; simp [hrs]; omega
/-- A row of cells, cell by cell. -/
theorem row8 {W : World} {b : Nat} {a0 a1 a2 a3 a4 a5 a6 a7 : Value} {t : TypeId} (h : W.heap[b]? = some (.cells #[a0, a1, a2, a3, a4, a5, a6, a7] t (0, 0))) :
    W.cell? ⟨b, 0, none⟩ = some a0 ∧ W.cell? ⟨b, 1, none⟩ = some a1 ∧ W.cell? ⟨b, 2, none⟩ = some a2 ∧ W.cell? ⟨b, 3, none⟩ = some a3 ∧ W.cell? ⟨b, 4, none⟩ = some a4 ∧ W.cell? ⟨b, 5, none⟩ = some a5 ∧ W.cell? ⟨b, 6, none⟩ = some a6 ∧ W.cell? ⟨b, 7, none⟩ = some a7 := by
  refine ⟨?_, ?_, ?_, ?_, ?_, ?_, ?_, ?_⟩ <;> (rw [cell_of_row _ _ _ _ _ _ h]; rfl)
theorem vMill_iff {m : Ml} : vMill m = true ↔ (1 ≤ m.k ∧ m.k ≤ 8) ∧ (0 ≤ m.t ∧ m.t ≤ 100) ∧ okSpan m.bl m.bh 0 5000 = true ∧ (0 ≤ m.h ∧ m.h ≤ 500) ∧ (0 ≤ m.nl ∧ m.nl ≤ m.h ∧ 0 ≤ m.nh ∧ m.nh ≤ m.h ∧ m.nl ≤ m.nh) := by
  simp only [vMill, Bool.and_eq_true, inB_iff, okSpan_iff]

set_option maxRecDepth 20000 in
set_option maxHeartbeats 6400000 in
theorem levels_seq (S : Nat → Prop) (be bv bp : Nat) (hSe : S be) (hSv : S bv) (hSp : S bp) (m : Ml) (fv pv : Value) (F : List Sp) (plan : List Int) (ef : FuncId) (sel : Sp → Int)
    (eg : ∀ args w, (callFunc ef args).run Try.prog w = .ok (.enter ef args) w)
    (hef : ∀ p w, Calls Try.prog ef #[.agg (encS p).toArray] w fun e w' => e = .returned (iv (sel p)) ∧ Below w.heap.size w w') (hsel : ∀ p hi, 0 ≤ p.1 → p.1 ≤ hi → 0 ≤ p.2 → p.2 ≤ hi → 0 ≤ sel p ∧ sel p ≤ hi)
    (hm : vMill m = true) (hF : F.all vFlow = true) (hP : plan.all (inB 0 8) = true) (hl : plan.length ≤ F.length) (w0 : World) (hS : ∀ k, S k → k < w0.heap.size)
    (hb : LvBox w0 be bv bp ef m fv pv) (hf : ∀ W, SameOn S w0 W → SliceOf encS 2 W fv F) (hp : ∀ W, SameOn S w0 W → Ints W pv plan) :
    SeqL Try.prog 30 #[.pointer (some ⟨be, 0, none⟩), .pointer (some ⟨bv, 0, none⟩), .pointer (some ⟨bp, 0, none⟩)] (fun (x : Int) => #[iv x]) S (lvs m.t m.h (sel (m.nl, m.nh)) (hrs sel F plan)) w0 := by
  intro n l J Jx W hW hJ hJx hY h0
  obtain ⟨⟨m1, m2⟩, ⟨m3, m4⟩, -, ⟨m5, m6⟩, m7, m8, m9, m10, m11⟩ := vMill_iff.1 hm
  clear hm
  obtain ⟨s1, s2⟩ := hsel (m.nl, m.nh) m.h m7 m8 m9 m10
  have hFs : Hid (∀ (k : Nat) (p : Sp), F[k]? = some p → 0 ≤ sel p ∧ sel p ≤ 500) := fun k p h => by
    have := List.all_eq_true.1 hF p (List.mem_of_getElem? h)
    obtain ⟨a1, a2, a3, a4, a5⟩ := okSpan_iff.1 this
    exact hsel p 500 a1 a2 a3 a4
  have hPs : Hid (∀ (k : Nat) (x : Int), plan[k]? = some x → 0 ≤ x ∧ x ≤ 8) := fun k x h => inB_iff.1 (List.all_eq_true.1 hP x (List.mem_of_getElem? h))
  obtain ⟨kk, t, bl, bh, h, nl, nh⟩ := m
  dsimp only at *
  have hC : Hid (∀ (wr : World), SameOn S W wr → LvBox wr be bv bp ef ⟨kk, t, bl, bh, h, nl, nh⟩ fv pv) := fun wr hs =>
    ⟨((hW.trans hs).block be hSe).trans hb.e, ((hW.trans hs).block bv hSv).trans hb.v, ((hW.trans hs).block bp hSp).trans hb.p⟩
  have HFV : Hid (∀ wr, SameOn S W wr → SliceOf encS 2 wr fv F) := fun wr hs => hf wr (hW.trans hs)
  have HPV : Hid (∀ wr, SameOn S W wr → Ints wr pv plan) := fun wr hs => hp wr (hW.trans hs)
  have HW := Lib.hid (show ∀ k, S k → k < W.heap.size from fun k hk => Nat.lt_of_lt_of_le (hS k hk) hW.size)
  have HEF := Lib.hid hef
  have HEG := Lib.hid eg
  obtain ⟨pa, pc, hpv, hpl, -⟩ := hp w0 (SameOn.refl _ _)
  obtain ⟨fa, fc, hfv, hfl, -⟩ := hf w0 (SameOn.refl _ _)
  subst hpv hfv
  have HY := Lib.hid hY
  have HJ := Lib.hid hJ
  have HX := Lib.hid hJx
  clear hf hp hb hsel hF hP hef eg hY hJ hJx hS hW
  obtain ⟨xs, hxs⟩ : ∃ xs, xs = lvs t h (sel (nl, nh)) (hrs sel F plan) := ⟨_, rfl⟩
  rw [← hxs] at HY ⊢
  have HXS := Lib.hid hxs; clear hxs
  have b0 := hC.out W (SameOn.refl _ _)
  have be0 : W.cell? ⟨be, 0, none⟩ = some (.func (.func ef) #[] #[]) := by rw [cell_of_row _ _ _ _ _ _ b0.e]; rfl
  have bp0 : W.cell? ⟨bp, 0, none⟩ = some (.slice pa plan.length pc) := by rw [cell_of_row _ _ _ _ _ _ b0.p]; rfl
  obtain ⟨v0, v1, v2, v3, v4, v5, v6, v7⟩ := row8 b0.v
  clear b0
  have eg' := HEG.out
  generalize hs0 : sel (nl, nh) = l0 at *
  have HS0 := Lib.hid hs0; clear hs0
  refine callsIn_of_wp Try.func30 rfl trivial ?_ rfl
  simp only [Try.ntmps30, List.size_toArray, List.length_cons, List.length_nil, Nat.reduceAdd, Nat.reduceSub, Array.replicate_succ, Array.replicate_zero, List.push_toArray, List.append_toArray, List.nil_append, List.cons_append]
  gi_wp2_with fail
  refine (callsIn_wide.2 (HEF.out (nl, nh) _)).mono ?_
  rintro e w1 ⟨rfl, hb1⟩
  rw [HS0.out]
  have hs1 : SameOn S W w1 := SameOn.of_below hb1 HW.out
  have hj1 : J noBlock [] w1 := (HJ.out _).turn _ _ _ (fun _ h => h.elim) (Nat.le_refl _) h0 (Turn.of_below hb1)
  have HS1 := Lib.hid hs1; clear hs1
  have HJ1 := Lib.hid hj1; clear hj1
  clear hb1 h0 be0 bp0 v0 v1 v2 v3 v4 v5 v6 v7
  have b0 := hC.out w1 HS1.out
  have bp0 : w1.cell? ⟨bp, 0, none⟩ = some (.slice pa plan.length pc) := by rw [cell_of_row _ _ _ _ _ _ b0.p]; rfl
  clear b0
  gi_wp2_with fail
  gi_loopw [5, 17] (fun lv i wr => ∃ (k : Nat) (lev : Int) (pre : List Int), k ≤ plan.length ∧ i = iv k ∧ lv = iv lev ∧ 0 ≤ lev ∧ lev ≤ h ∧ Hid (xs = pre ++ lvs t h lev ((hrs sel F plan).drop k)) ∧ SameOn S W wr ∧ J noBlock pre wr) (fun _ i _ => plan.length - (intOf i).toNat)
  case atStart => exact ⟨0, l0, [], Nat.zero_le _, rfl, rfl, s1, s2, by rw [HXS.out]; rfl, HS1.out, HJ1.out⟩
  case round =>
    obtain ⟨k, lev, pre, hk, rfl, rfl, q1, q2, HXK, hsr, hjr⟩ := hrel
    have HSr := Lib.hid hsr; clear hsr
    have HJr := Lib.hid hjr; clear hjr
    have hsw : W.heap.size ≤ wr.heap.size := HSr.out.size
    have b1 := hC.out wr HSr.out
    have be1 : wr.cell? ⟨be, 0, none⟩ = some (.func (.func ef) #[] #[]) := by rw [cell_of_row _ _ _ _ _ _ b1.e]; rfl
    obtain ⟨v0, v1, v2, v3, v4, v5, v6, v7⟩ := row8 b1.v
    clear b1 bp0
    by_cases hlt : k < plan.length
    · obtain ⟨x, hx⟩ := getElem?_of_lt hlt
      obtain ⟨p, hp⟩ := getElem?_of_lt (xs := F) (k := k) (by omega)
      obtain ⟨x1, x2⟩ := hPs.out k x hx
      obtain ⟨f1, f2⟩ := hFs.out k p hp
      obtain ⟨pa', pc', hpe, -, hpc⟩ := HPV.out wr HSr.out
      obtain ⟨pb, po, hpa, hpj⟩ := hpc k x hx
      have hcx := hpj 0 (iv x) rfl
      simp only [Nat.mul_one, Nat.add_zero] at hcx
      obtain ⟨fa', fc', hfe, -, hfc⟩ := HFV.out wr HSr.out
      obtain ⟨fb, fo, hfa, hfj⟩ := hfc k p hp
      have hc0 := hfj 0 (iv p.1) rfl
      have hc1 := hfj 1 (iv p.2) rfl
      simp only [Nat.add_zero] at hc0
      simp only [Value.slice.injEq] at hpe hfe
      obtain ⟨rfl, -, -⟩ := hpe
      obtain ⟨rfl, -, -⟩ := hfe
      subst hpa hfa
      have HXC : Hid (lvs t h lev ((hrs sel F plan).drop k) = if 0 ≤ leftL t h lev (sel p) x then leftL t h lev (sel p) x :: lvs t h (leftL t h lev (sel p) x) ((hrs sel F plan).drop (k + 1)) else []) := by
        rw [hrs_drop hp hx]; rfl
      clear hpc hpj hfc hfj hx hp
      have i0 : (0 : Int) ≤ (k : Int) := by omega
      have i1 : (k : Int) < (F.length : Int) := by omega
      have hE : ∀ w, Calls Try.prog ef #[.agg #[iv p.1, iv p.2]] w fun e w' => e = .returned (iv (sel p)) ∧ Below w.heap.size w w' := fun w => HEF.out p w
      have hK := fun w => work_any ⟨kk, t, bl, bh, h, nl, nh⟩ (.slice (some ⟨fb, fo, none⟩) F.length fc) lev (sel p) x w (by omega) (by omega) (by omega) (by omega) x1 (by omega) m3 (by dsimp only; omega) m5 (by dsimp only; omega)
      simp only [vcells] at hK
      have hLh : leftL t h lev (sel p) x ≤ h := by
        have : 0 ≤ x * t := Int.mul_nonneg x1 m3
        unfold leftL fillL; split <;> omega
      generalize sel p = fl at *
      generalize leftL t h lev fl x = ll at *
      have HE := Lib.hid hE
      have HK := Lib.hid hK
      clear hE hK
      gi_wp2_with fail
      refine wpIn_wide.2 ?_
      go_region_held3 (fun w' => w'.cell? ⟨be, 0, none⟩ = some (.func (.func ef) #[] #[]) ∧ w'.cell? ⟨bv, 0, none⟩ = some (iv kk) ∧ w'.cell? ⟨bv, 1, none⟩ = some (iv t) ∧ w'.cell? ⟨bv, 2, none⟩ = some (iv bl) ∧ w'.cell? ⟨bv, 3, none⟩ = some (iv bh) ∧ w'.cell? ⟨bv, 4, none⟩ = some (iv h) ∧ w'.cell? ⟨bv, 5, none⟩ = some (iv nl) ∧ w'.cell? ⟨bv, 6, none⟩ = some (iv nh) ∧ w'.cell? ⟨bv, 7, none⟩ = some (.slice (some ⟨fb, fo, none⟩) F.length fc) ∧ w'.cell? ⟨fb, fo + k * 2, none⟩ = some (iv p.1) ∧ w'.cell? ⟨fb, fo + k * 2 + 1, none⟩ = some (iv p.2)) (first | (go_split_ands; refine ⟨?_, ?_, ?_, ?_, ?_, ?_, ?_, ?_, ?_, ?_, ?_⟩ <;> first | exact kcell hbK (by assumption) | exact kcell hbE (by assumption)) | go_keep)
        (first | ((with_reducible refine (HE.out _).mono ?_); rintro e w2 ⟨rfl, hbE⟩) | ((with_reducible refine (HK.out _).mono ?_); rintro e w3 ⟨rfl, hbK⟩))
      rename_i hHeld
      have hbb : Below wr.heap.size wr w3 := ((Below.refl wr.heap.size wr).drew.trans hbE).trans (hbK.mono hbE.size)
      have hs3 : SameOn S wr w3 := SameOn.of_below hbb (fun k hk => Nat.lt_of_lt_of_le (HW.out k hk) hsw)
      have HJ3 := Lib.hid ((HJ.out _).turn _ _ _ (fun _ h => h.elim) hsw HJr.out (Turn.of_below hbb))
      have HS3 := Lib.hid (HSr.out.trans hs3)
      have hsz3 : W.heap.size ≤ w3.heap.size := Nat.le_trans hsw hbb.size
      clear hHeld hbE hbK hbb hs3 be1 v0 v1 v2 v3 v4 v5 v6 v7 hc0 hc1 hcx
      by_cases hll : 0 ≤ ll
      · have HX1 : Hid (xs = (pre ++ [ll]) ++ lvs t h ll ((hrs sel F plan).drop (k + 1))) := by
          have := HXK.out; rw [HXC.out, if_pos hll] at this; rw [this]; simp [Hid]
        have hpre : (pre ++ [ll]) <+: xs := ⟨_, HX1.out.symm⟩
        obtain ⟨fn, tmps, assign, body, hy, hR⟩ := HY.out noBlock _ ll w3 (fun _ h => h.elim) hpre HJ3.out hsz3 (fun _ h => h.elim)
        have HR := Lib.hid hR; clear hR hpre
        have hd : decide (0 ≤ ll) = true := by simpa using hll
        try dsimp only at hy
        gi_wp2_with fail
        refine HR.out.mono ?_
        rintro e w4 (⟨rfl, hj4, hk4⟩ | ⟨rfl, hx4, hk4⟩)
        · have HJ4 := Lib.hid hj4; clear hj4
          have HS4 := Lib.hid (HS3.out.trans (hk4.mono (fun _ h => .inl h))); clear hk4
          gi_wp2_with fail
          go_roundw
          case rel => exact ⟨k + 1, ll, pre ++ [ll], by omega, by go_num, rfl, hll, hLh, HX1, HS4.out, HJ4.out⟩
          case measure => simp [intOf]; omega
        · have HX2 := Lib.hid hx4; clear hx4
          have HZ2 := Lib.hid (show W.heap.size ≤ w4.heap.size from Nat.le_trans hsz3 hk4.size); clear hk4
          gi_wp2_with fail
          refine bodyPost_ret (results_none rfl _ _ _) rfl ?_
          exact ⟨⟨_, rfl⟩, HZ2.out, .inr HX2.out⟩
      · have HX1 : Hid (xs = pre) := by
          have := HXK.out; rw [HXC.out, if_neg hll] at this; rw [this]; simp [Hid]
        have hd : decide (0 ≤ ll) = false := by simpa using hll
        have hll2 : ll < 0 := by omega
        gi_wp2_with fail
        refine bodyPost_ret (results_none rfl _ _ _) rfl ?_
        exact ⟨⟨_, rfl⟩, hsz3, .inl (by rw [HX1.out]; exact HJ3.out)⟩
    · obtain rfl : k = plan.length := by omega
      have HXE : Hid (xs = pre) := by have := HXK.out; rw [hrs_end (Nat.le_refl _)] at this; simpa [Hid, lvs] using this
      gi_wp2_with fail
      go_end0
      exact ⟨⟨_, rfl⟩, hsw, .inl (by rw [HXE.out]; exact HJr.out)⟩
end Go.Proofs.Ytfpbfhjfhfmanac
