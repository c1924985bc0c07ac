/- The busiest plans: begin, next, the iterator. -/
import Derived.Test.YtghnkhpjblnabaaMb
import Derived.Sort.LoopGhostIn
namespace Go.Proofs.Ytghnkhpjblnabaa
open Go Go.RowKit Go.Shelf
attribute [local go_sem] Oper.semAt_some
attribute [local go_sem ↓] Go.wp_at_zero Go.wp_at_succ

def mom (hour level : Int) : Value := .agg #[iv hour, iv level]
set_option maxRecDepth 20000 in
set_option maxHeartbeats 1600000 in
theorem begin_any (m : Ml) (fv : Value) (w : World) :
    Calls Try.prog 25 #[.agg (vcells m fv)] w fun e w' => e = .returned (.agg #[iv 0, iv m.nl]) ∧ Below w.heap.size w w' := by
  obtain ⟨k, t, bl, bh, h, nl, nh⟩ := m
  simp only [vcells]
  go_enter Try.func25, Try.ntmps25
  go_wp2_with fail
  exact bodyPost_ret (v := .agg #[iv 0, iv nl]) (by simp [results, Try.results25, go_sem]) rfl ⟨rfl, (by repeat (first | exact Below.refl _ _ | refine Below.drew ?_ | refine bpush ?_ _ | refine bput ?_ (by simp) _ | (refine bstep ?_ (by assumption))))⟩

/-- Where an iterator's two boxes lie, and what is in them. -/
structure BzBox (W : World) (bf bv : Nat) (m : Ml) (fv : Value) (hour level : Int) : Prop where
  f : W.heap[bf]? = some (.cells #[iv hour, iv level] 87 (0, 0))
  v : W.heap[bv]? = some (.cells (vcells m fv) 79 (0, 0))
def BzRes (m : Ml) (fv : Value) (hour level : Int) (w : World) (e : Ending) (w' : World) : Prop :=
  ∃ bf bv, e = .returned (.func (.func 41) #[] #[.pointer (some ⟨bf, 0, none⟩), .pointer (some ⟨bv, 0, none⟩)]) ∧ BzBox w' bf bv m fv hour level ∧ Below w.heap.size w w'
set_option maxRecDepth 20000 in
set_option maxHeartbeats 1600000 in
theorem busiest_any (m : Ml) (fv : Value) (hour level : Int) (w : World) :
    Calls Try.prog 24 #[.agg (vcells m fv), .agg #[iv hour, iv level]] w (BzRes m fv hour level w) := by
  have HH : Hid (∀ (W W' : World), W' = ((W.alloc (.cells (vcells m fv) 79)).alloc (.cells #[iv hour, iv level] 87)) → BzBox W' (W.heap.size + 1) W.heap.size m fv hour level) := by
    rintro W _ rfl
    refine ⟨?_, ?_⟩
    · have := heap_new (W.alloc (.cells (vcells m fv) 79)) #[iv hour, iv level] 87
      simpa only [World.size_alloc] using this
    · rw [Below.heap_alloc _ _ _ (by simp)]; exact heap_new _ _ _
  obtain ⟨k, t, bl, bh, h, nl, nh⟩ := m
  simp only [vcells] at *
  go_enter Try.func24, Try.ntmps24
  go_wp2_with fail
  go_ret
  exact ⟨_, _, rfl, HH.out _ _ rfl, (by repeat (first | exact Below.refl _ _ | refine Below.drew ?_ | refine bpush ?_ _ | refine bput ?_ (by simp) _ | (refine bstep ?_ (by assumption))))⟩

set_option maxRecDepth 20000 in
set_option maxHeartbeats 3200000 in
theorem next_any (m : Ml) (fa : Option Addr) (fc : Nat) (F : List Sp) (hr : Nat) (p : Sp) (level k : Int) (w : World) (hm : vMill m = true) (hF : F.all vFlow = true) (hl24 : F.length ≤ 1000000) (hp : F[hr]? = some p) (l1 : 0 ≤ level) (l2 : level ≤ 500) (k1 : 0 ≤ k) (k2 : k ≤ 8) (hf : SliceOf encS 2 w (.slice fa F.length fc) F) :
    Calls Try.prog 43 #[.agg (vcells m (.slice fa F.length fc)), .agg #[iv hr, iv level], iv k] w fun e w' => e = .returned (.agg #[iv ((hr : Int) + 1), iv (leftL m.t m.h level p.1 k)]) ∧ Below w.heap.size w w' := by
  obtain ⟨⟨m1, m2⟩, ⟨m3, m4⟩, -, ⟨m5, m6⟩, m7, m8, m9, m10, m11⟩ := vMill_iff.1 hm
  obtain ⟨a1, a2, a3, a4, a5⟩ := okSpan_iff.1 (List.all_eq_true.1 hF p (List.mem_of_getElem? hp))
  have hlt : hr < F.length := (List.getElem?_eq_some_iff.1 hp).1
  obtain ⟨fa', fc', hfe, -, hfc⟩ := hf
  obtain ⟨fb, fo, hfa, hfj⟩ := hfc hr p hp
  simp only [Value.slice.injEq] at hfe
  obtain ⟨rfl, -, -⟩ := hfe
  subst hfa
  have f0 := hfj 0 (iv p.1) rfl
  have f1 := hfj 1 (iv p.2) rfl
  simp only [Nat.add_zero] at f0
  have hK := fun w => work_any m (.slice (some ⟨fb, fo, none⟩) F.length fc) level p.1 k w (by omega) (by omega) (by omega) (by omega) k1 (by omega) m3 (by omega) m5 (by omega)
  have HK := Lib.hid hK
  clear hK hfc hfj hF hm hp
  have i0 : (0 : Int) ≤ (hr : Int) := by omega
  have i1 : (hr : Int) < (F.length : Int) := by omega
  obtain ⟨kk, t, bl, bh, h, nl, nh⟩ := m
  simp only [vcells] at *
  generalize leftL t h level p.1 k = ll at *
  obtain ⟨Wn, hWn⟩ : ∃ Wn : World, (((w.alloc (.cells #[iv kk, iv t, iv bl, iv bh, iv h, iv nl, iv nh, .slice (some ⟨fb, fo, none⟩) F.length fc] 79)).alloc (.cells #[iv hr, iv level] 87)).alloc (.cells #[.int .i64 0, .int .i64 0] 87)) = Wn := ⟨_, rfl⟩
  have hBw : Below w.heap.size w Wn := by rw [← hWn]; exact (by repeat (first | exact Below.refl _ _ | refine Below.drew ?_ | refine bpush ?_ _ | refine bput ?_ (by simp) _ | (refine bstep ?_ (by assumption))))
  have c0 : Wn.cell? ⟨w.heap.size, 0, none⟩ = some (iv kk) := by subst hWn; go_simp
  have c1 : Wn.cell? ⟨w.heap.size, 1, none⟩ = some (iv t) := by subst hWn; go_simp
  have c2 : Wn.cell? ⟨w.heap.size, 2, none⟩ = some (iv bl) := by subst hWn; go_simp
  have c3 : Wn.cell? ⟨w.heap.size, 3, none⟩ = some (iv bh) := by subst hWn; go_simp
  have c4 : Wn.cell? ⟨w.heap.size, 4, none⟩ = some (iv h) := by subst hWn; go_simp
  have c5 : Wn.cell? ⟨w.heap.size, 5, none⟩ = some (iv nl) := by subst hWn; go_simp
  have c6 : Wn.cell? ⟨w.heap.size, 6, none⟩ = some (iv nh) := by subst hWn; go_simp
  have c7 : Wn.cell? ⟨w.heap.size, 7, none⟩ = some (.slice (some ⟨fb, fo, none⟩) F.length fc) := by subst hWn; go_simp
  have d0 : Wn.cell? ⟨w.heap.size + 1, 0, none⟩ = some (iv hr) := by subst hWn; go_simp
  have d1 : Wn.cell? ⟨w.heap.size + 1, 1, none⟩ = some (iv level) := by subst hWn; go_simp
  have z0 : Wn.cell? ⟨w.heap.size + 1 + 1, 0, none⟩ = some (iv 0) := by subst hWn; go_simp
  have z1 : Wn.cell? ⟨w.heap.size + 1 + 1, 1, none⟩ = some (iv 0) := by subst hWn; go_simp
  have y0 : Wn.frozen? ⟨w.heap.size + 1 + 1, 0, none⟩ = false := by subst hWn; go_simp
  have y1 : Wn.frozen? ⟨w.heap.size + 1 + 1, 1, none⟩ = false := by subst hWn; go_simp
  have x0 : Wn.cell? ⟨fb, fo + hr * 2, none⟩ = some (iv p.1) := (hBw.cell (p := ⟨fb, _, none⟩) (lt_of_cell f0)).trans f0
  have x1 : Wn.cell? ⟨fb, fo + hr * 2 + 1, none⟩ = some (iv p.2) := (hBw.cell (p := ⟨fb, _, none⟩) (lt_of_cell f1)).trans f1
  clear f0 f1
  have e1 : IntKind.i64.wrap ((hr : Int) + 1) = (hr : Int) + 1 := IntWalk.i64_in _ ⟨by omega, by omega⟩
  go_enter Try.func43, Try.ntmps43
  go_wp2_with fail
  clear hWn
  go_region_held3 (fun w' => w'.cell? ⟨w.heap.size, 0, none⟩ = some (iv kk) ∧ w'.cell? ⟨w.heap.size, 1, none⟩ = some (iv t) ∧ w'.cell? ⟨w.heap.size, 2, none⟩ = some (iv bl) ∧ w'.cell? ⟨w.heap.size, 3, none⟩ = some (iv bh) ∧ w'.cell? ⟨w.heap.size, 4, none⟩ = some (iv h) ∧ w'.cell? ⟨w.heap.size, 5, none⟩ = some (iv nl) ∧ w'.cell? ⟨w.heap.size, 6, none⟩ = some (iv nh) ∧ w'.cell? ⟨w.heap.size, 7, none⟩ = some (.slice (some ⟨fb, fo, none⟩) F.length fc) ∧ w'.cell? ⟨w.heap.size + 1, 0, none⟩ = some (iv hr) ∧ w'.cell? ⟨w.heap.size + 1, 1, none⟩ = some (iv level) ∧ w'.cell? ⟨fb, fo + hr * 2, none⟩ = some (iv p.1) ∧ w'.cell? ⟨w.heap.size + 1 + 1, 0, none⟩ = some (iv 0) ∧ w'.cell? ⟨w.heap.size + 1 + 1, 1, none⟩ = some (iv 0) ∧ w'.frozen? ⟨w.heap.size + 1 + 1, 0, none⟩ = false ∧ w'.frozen? ⟨w.heap.size + 1 + 1, 1, none⟩ = false ∧ Below w.heap.size w w')
    (first | (go_split_ands; refine ⟨?_, ?_, ?_, ?_, ?_, ?_, ?_, ?_, ?_, ?_, ?_, ?_, ?_, ?_, ?_, ?_⟩ <;> first | assumption | exact kcell hbK (by assumption) | exact kfrozen hbK (by assumption) (by assumption) | exact bstep (by assumption) hbK | exact SliceOf.below (by assumption) hbK) | (refine ⟨?_, ?_, ?_, ?_, ?_, ?_, ?_, ?_, ?_, ?_, ?_, ?_, ?_, ?_, ?_, ?_⟩ <;> first | exact Below.drew (by assumption) | exact SliceOf.below (by assumption) ((Below.refl _ _).drew) | assumption))
    (first | ((with_reducible refine (HK.out _).mono ?_); rintro e w1 ⟨rfl, hbK⟩))
  rename_i hHeld
  clear hbK c0 c1 c2 c3 c4 c5 c6 c7 d0 d1 z0 z1 y0 y1 x0 x1 hBw
  obtain ⟨-, -, -, -, -, -, -, -, d0, d1, -, z0, z1, y0, y1, hBB⟩ := hHeld
  have HBB := Lib.hid hBB; clear hBB
  go_wp2_with fail
  exact bodyPost_ret (v := .agg #[iv ((hr : Int) + 1), iv ll]) (by simp [results, Try.results43, go_sem, z0, z1]) rfl ⟨rfl, bput (bput HBB.out (by simp; omega) _) (by simp; omega) _⟩

/-- The hammers of an hour, if as many go as can. -/
def mostOf (m : Ml) (l f : Int) : Int := if 0 < m.t then (if fillL m.h l f / m.t < m.k then fillL m.h l f / m.t else m.k) else m.k
def busy (m : Ml) : Int → List Sp → List Int
  | _, [] => []
  | l, p :: r => mostOf m l p.1 :: busy m (leftL m.t m.h l p.1 (mostOf m l p.1)) r
theorem fillL_bd {H l f : Int} (hH : 0 ≤ H) (h1 : 0 ≤ l) (h2 : 0 ≤ f) : 0 ≤ fillL H l f ∧ fillL H l f ≤ H := by unfold fillL; split <;> omega
theorem mostOf_bd {m : Ml} {l f : Int} (hm : vMill m = true) (h1 : 0 ≤ l) (h2 : 0 ≤ f) : 0 ≤ mostOf m l f ∧ mostOf m l f ≤ m.k ∧ 0 ≤ leftL m.t m.h l f (mostOf m l f) ∧ leftL m.t m.h l f (mostOf m l f) ≤ m.h := by
  obtain ⟨⟨m1, m2⟩, ⟨m3, m4⟩, -, ⟨m5, m6⟩, -⟩ := vMill_iff.1 hm
  obtain ⟨f1, f2⟩ := fillL_bd m5 h1 h2
  have key : ∀ x : Int, 0 ≤ x → x * m.t ≤ fillL m.h l f → 0 ≤ leftL m.t m.h l f x ∧ leftL m.t m.h l f x ≤ m.h := by
    intro x hx hxt
    have : 0 ≤ x * m.t := Int.mul_nonneg hx m3
    unfold leftL; omega
  unfold mostOf
  split
  · rename_i ht
    have q0 : 0 ≤ fillL m.h l f / m.t := Int.ediv_nonneg f1 m3
    have q1 : fillL m.h l f / m.t * m.t ≤ fillL m.h l f := Int.ediv_mul_le _ (by omega)
    split
    · rename_i hq
      exact ⟨q0, by omega, key _ q0 q1⟩
    · rename_i hq
      refine ⟨by omega, by omega, key _ (by omega) (Int.le_trans (Int.mul_le_mul_of_nonneg_right (by omega) m3) q1)⟩
  · rename_i ht
    have : m.t = 0 := by omega
    exact ⟨by omega, by omega, key _ (by omega) (by rw [this]; omega)⟩
theorem heap_new2 (W : World) (g : Nat) (a b : Value) (t : TypeId) : (((W.setCell ⟨g, 0, none⟩ a).setCell ⟨g, 1, none⟩ b).alloc (.cells #[a, b] t)).heap[W.heap.size]? = some (.cells #[a, b] t (0, 0)) := by
  have := heap_new ((W.setCell ⟨g, 0, none⟩ a).setCell ⟨g, 1, none⟩ b) #[a, b] t
  simpa using this
theorem turn_setAt {T : Nat → Prop} {W : World} {b : Nat} (hb : T b) (o : Nat) (v : Value) : Turn T W (W.setCell ⟨b, o, none⟩ v) :=
  ⟨rfl, rfl, rfl, by simp [World.setCell], fun k _ hk => Below.heap_setCell _ _ _ _ (fun e => hk (e ▸ hb))⟩

set_option maxRecDepth 20000 in
set_option maxHeartbeats 12800000 in
theorem busy_seq (S : Nat → Prop) (bf bv : Nat) (hSf : S bf) (hSv : S bv) (m : Ml) (fa : Option Addr) (fc : Nat) (F : List Sp) (hm : vMill m = true) (hF : F.all vFlow = true) (hl24 : F.length ≤ 1000000) (hr : Nat) (level : Int) (hhr : hr ≤ F.length) (l1 : 0 ≤ level) (l2 : level ≤ 500)
    (w0 : World) (hS : ∀ k, S k → k < w0.heap.size) (hb : BzBox w0 bf bv m (.slice fa F.length fc) hr level) (hf : ∀ W, SameOn S w0 W → SliceOf encS 2 W (.slice fa F.length fc) F) :
    SeqL Try.prog 41 #[.pointer (some ⟨bf, 0, none⟩), .pointer (some ⟨bv, 0, none⟩)] (fun (x : Int) => #[iv x]) S (busy m level (F.drop hr)) w0 := by
  intro n l J Jx W hW hJ hJx hY h0
  obtain ⟨⟨m1, m2⟩, ⟨m3, m4⟩, -, ⟨m5, m6⟩, m7, m8, m9, m10, m11⟩ := vMill_iff.1 hm
  have hFs : Hid (∀ (k : Nat) (p : Sp), F[k]? = some p → 0 ≤ p.1 ∧ p.1 ≤ 500) := fun k p h => by
    obtain ⟨a1, a2, a3, a4, a5⟩ := okSpan_iff.1 (List.all_eq_true.1 hF p (List.mem_of_getElem? h))
    exact ⟨a1, a2⟩
  have hMO : Hid (∀ (lev : Int) (p : Sp), 0 ≤ lev → 0 ≤ p.1 → 0 ≤ mostOf m lev p.1 ∧ mostOf m lev p.1 ≤ m.k ∧ 0 ≤ leftL m.t m.h lev p.1 (mostOf m lev p.1) ∧ leftL m.t m.h lev p.1 (mostOf m lev p.1) ≤ m.h) := fun lev p h1 h2 => mostOf_bd hm h1 h2
  have hFI : Hid (∀ (lev : Int) (p : Sp) (w : World), 0 ≤ lev → lev ≤ 500 → 0 ≤ p.1 → p.1 ≤ 500 → Calls Try.prog 42 #[.agg (vcells m (.slice fa F.length fc)), iv lev, iv p.1] w fun e w' => e = .returned (iv (fillL m.h lev p.1)) ∧ Below w.heap.size w w') := fun lev p w h1 h2 h3 h4 => fill_any m _ lev p.1 w (by omega) (by omega) (by omega) (by omega)
  have hNX : Hid (∀ (k : Nat) (p : Sp) (lev x : Int) (w : World), F[k]? = some p → 0 ≤ lev → lev ≤ 500 → 0 ≤ x → x ≤ 8 → SliceOf encS 2 w (.slice fa F.length fc) F → Calls Try.prog 43 #[.agg (vcells m (.slice fa F.length fc)), .agg #[iv k, iv lev], iv x] w fun e w' => e = .returned (.agg #[iv ((k : Int) + 1), iv (leftL m.t m.h lev p.1 x)]) ∧ Below w.heap.size w w') := fun k p lev x w hp h1 h2 h3 h4 hs => next_any m fa fc F k p lev x w hm hF hl24 hp h1 h2 h3 h4 hs
  have hC : Hid (∀ (wr : World), SameOn S W wr → BzBox wr bf bv m (.slice fa F.length fc) hr level) := fun wr hs =>
    ⟨((hW.trans hs).block bf hSf).trans hb.f, ((hW.trans hs).block bv hSv).trans hb.v⟩
  have HFV : Hid (∀ wr, SameOn S W wr → SliceOf encS 2 wr (.slice fa F.length fc) F) := fun wr hs => hf wr (hW.trans hs)
  have HW := Lib.hid (show ∀ k, S k → k < W.heap.size from fun k hk => Nat.lt_of_lt_of_le (hS k hk) hW.size)
  have HY := Lib.hid hY
  have HJ := Lib.hid hJ
  have HX := Lib.hid hJx
  have HSv := Lib.hid hSv
  clear hf hb hF hY hJ hJx hS hW hSf hSv hm
  obtain ⟨xs, hxs⟩ : ∃ xs, xs = busy m level (F.drop hr) := ⟨_, rfl⟩
  rw [← hxs] at HY ⊢
  have HXS := Lib.hid hxs; clear hxs
  obtain ⟨kk, t, bl, bh, h, nl, nh⟩ := m
  simp only [vcells] at *
  have b0 := hC.out W (SameOn.refl _ _)
  have f0 : W.cell? ⟨bf, 0, none⟩ = some (iv hr) := by rw [cell_of_row _ _ _ _ _ _ b0.f]; rfl
  have f1 : W.cell? ⟨bf, 1, none⟩ = some (iv level) := by rw [cell_of_row _ _ _ _ _ _ b0.f]; rfl
  clear b0
  refine callsIn_of_wp Try.func41 rfl trivial ?_ rfl
  simp only [Try.ntmps41, List.size_toArray, List.length_cons, List.length_nil, Nat.reduceAdd, Nat.reduceSub, Array.replicate_succ, Array.replicate_zero, List.push_toArray, List.append_toArray, List.nil_append, List.cons_append]
  gi_wp2_with fail
  have hB0 : Below W.heap.size W (W.alloc (.cells #[iv hr, iv level] 87)) := (by repeat (first | exact Below.refl _ _ | refine Below.drew ?_ | refine bpush ?_ _ | refine bput ?_ (by simp) _ | (refine bstep ?_ (by assumption))))
  have hz0 : (W.alloc (.cells #[iv hr, iv level] 87)).heap.size = W.heap.size + 1 := by simp
  have g0 : (W.alloc (.cells #[iv hr, iv level] 87)).heap[W.heap.size]? = some (.cells #[iv hr, iv level] 87 (0, 0)) := heap_new _ _ _
  clear f0 f1
  generalize (W.alloc (.cells #[iv hr, iv level] 87)) = W0 at *
  have HZ0 := Lib.hid hz0; clear hz0
  have HG0 := Lib.hid g0; clear g0
  have HB0 := Lib.hid hB0; clear hB0
  gi_loopg [4] (F.length - hr) (fun rem pt wr => ∃ (k : Nat) (lev : Int) (pre : List Int) (g : Nat) (T : Nat → Prop), k ≤ F.length ∧ Hid (rem = F.length - k) ∧ pt = .pointer (some ⟨g, 0, none⟩) ∧ 0 ≤ lev ∧ lev ≤ 500 ∧ Hid (xs = pre ++ busy ⟨kk, t, bl, bh, h, nl, nh⟩ lev (F.drop k)) ∧ SameOn S W wr ∧ (∀ q, T q → W.heap.size ≤ q ∧ q < wr.heap.size) ∧ T g ∧ J T pre wr ∧ wr.heap[g]? = some (.cells #[iv k, iv lev] 87 (0, 0)))
  case atStart =>
    refine ⟨hr, level, [], W.heap.size, fun k => k = W.heap.size, hhr, rfl, rfl, l1, l2, HXS.out, SameOn.of_below HB0.out HW.out, ?_, rfl, ?_, HG0.out⟩
    · rintro q rfl; have := HZ0.out; omega
    · exact (HJ.out _).turn _ _ _ (fun k hk => by omega) (Nat.le_refl _) ((HJ.out _).ext _ _ _ h0 (fun k hk => .inr (by omega))) (Turn.of_below HB0.out)
  case round =>
    obtain ⟨k, lev, pre, g, T, hk, HN, rfl, q1, q2, HXK, hsr, hT, hTg, hjr, hg⟩ := hrel
    have HSr := Lib.hid hsr; clear hsr
    have HT := Lib.hid hT; clear hT
    have HTg := Lib.hid hTg; clear hTg
    have HJr := Lib.hid hjr; clear hjr
    have HG := Lib.hid hg
    have hsw : W.heap.size ≤ wr.heap.size := HSr.out.size
    have b1 := hC.out wr HSr.out
    obtain ⟨v0, v1, v2, v3, v4, v5, v6, v7⟩ := row8 b1.v
    have d0 : wr.cell? ⟨g, 0, none⟩ = some (iv k) := by rw [cell_of_row _ _ _ _ _ _ hg]; rfl
    have d1 : wr.cell? ⟨g, 1, none⟩ = some (iv lev) := by rw [cell_of_row _ _ _ _ _ _ hg]; rfl
    clear b1 hg
    by_cases hlt : k < F.length
    · obtain ⟨p, hp⟩ := getElem?_of_lt hlt
      obtain ⟨f1, f2⟩ := hFs.out k p hp
      obtain ⟨o1, o2, o3, o4⟩ := hMO.out lev p q1 f1
      obtain ⟨fa', fc', hfe, -, hfc⟩ := HFV.out wr HSr.out
      obtain ⟨fb, fo, hfa, hfj⟩ := hfc k p hp
      have x0 := hfj 0 (iv p.1) rfl
      have x1 := hfj 1 (iv p.2) rfl
      simp only [Nat.add_zero] at x0
      simp only [Value.slice.injEq] at hfe
      obtain ⟨rfl, -, -⟩ := hfe
      subst hfa
      have HXC : Hid (busy ⟨kk, t, bl, bh, h, nl, nh⟩ lev (F.drop k) = mostOf ⟨kk, t, bl, bh, h, nl, nh⟩ lev p.1 :: busy ⟨kk, t, bl, bh, h, nl, nh⟩ (leftL t h lev p.1 (mostOf ⟨kk, t, bl, bh, h, nl, nh⟩ lev p.1)) (F.drop (k + 1))) := by
        obtain ⟨hk', he⟩ := List.getElem?_eq_some_iff.1 hp
        rw [List.drop_eq_getElem_cons hk', he]; rfl
      have HP := Lib.hid hp
      clear hfc hfj hp
      have i0 : (0 : Int) ≤ (k : Int) := by omega
      have i1 : (k : Int) < (F.length : Int) := by omega
      have hmo : Hid (mostOf ⟨kk, t, bl, bh, h, nl, nh⟩ lev p.1 = if 0 < t then (if fillL h lev p.1 / t < kk then fillL h lev p.1 / t else kk) else kk) := rfl
      have HFL := Lib.hid (fun w => hFI.out lev p w q1 q2 f1 f2)
      obtain ⟨y1, y2⟩ := fillL_bd (f := p.1) m5 q1 f1
      generalize mostOf ⟨kk, t, bl, bh, h, nl, nh⟩ lev p.1 = mo at *
      generalize fillL h lev p.1 = fl at *
      have HX1 : Hid (xs = (pre ++ [mo]) ++ busy ⟨kk, t, bl, bh, h, nl, nh⟩ (leftL t h lev p.1 mo) (F.drop (k + 1))) := by
        have := HXK.out; rw [HXC.out] at this; rw [this]; simp [Hid]
      have hpre : (pre ++ [mo]) <+: xs := ⟨_, HX1.out.symm⟩
      clear hFI hFs hMO
      by_cases ht : 0 < t
      · by_cases hq : fl / t < kk
        · have hmk : mo = fl / t := by rw [hmo.out, if_pos ht, if_pos hq]
          have ht0 : t ≠ 0 := by omega
          have ht1 : (t == 0) = false := by simpa using ht0
          have ed : fl.tdiv t = mo := by rw [Int.tdiv_eq_ediv_of_nonneg y1, hmk]
          have ee : fl / t = mo := hmk.symm
          have ew : IntKind.i64.wrap mo = mo := IntWalk.i64_in _ ⟨by omega, by omega⟩
          rw [ee] at hq
          clear hmk hmo
          have hbr : Below wr.heap.size wr wr := Below.refl _ _
          have HPRE := Lib.hid hpre
          clear hpre
          gi_wp2_with fail
          refine wpIn_wide.2 ?_
          go_region_held3 (fun w' => w'.cell? ⟨bv, 0, none⟩ = some (iv kk) ∧ w'.cell? ⟨bv, 1, none⟩ = some (iv t) ∧ w'.cell? ⟨bv, 2, none⟩ = some (iv bl) ∧ w'.cell? ⟨bv, 3, none⟩ = some (iv bh) ∧ w'.cell? ⟨bv, 4, none⟩ = some (iv h) ∧ w'.cell? ⟨bv, 5, none⟩ = some (iv nl) ∧ w'.cell? ⟨bv, 6, none⟩ = some (iv nh) ∧ w'.cell? ⟨bv, 7, none⟩ = some (.slice (some ⟨fb, fo, none⟩) F.length fc) ∧ w'.cell? ⟨g, 0, none⟩ = some (iv k) ∧ w'.cell? ⟨g, 1, none⟩ = some (iv lev) ∧ w'.cell? ⟨fb, fo + k * 2, none⟩ = some (iv p.1) ∧ Below wr.heap.size wr w')
            (first | (go_split_ands; refine ⟨?_, ?_, ?_, ?_, ?_, ?_, ?_, ?_, ?_, ?_, ?_, ?_⟩ <;> first | assumption | exact kcell hbK (by assumption) | exact kfrozen hbK (by assumption) (by assumption) | exact bstep (by assumption) hbK | exact SliceOf.below (by assumption) hbK) | (refine ⟨?_, ?_, ?_, ?_, ?_, ?_, ?_, ?_, ?_, ?_, ?_, ?_⟩ <;> first | exact Below.drew (by assumption) | exact SliceOf.below (by assumption) ((Below.refl _ _).drew) | assumption))
            (first | ((with_reducible refine (HFL.out _).mono ?_); rintro e w2 ⟨rfl, hbK⟩))
          rename_i hHeld
          obtain ⟨-, -, -, -, -, -, -, -, -, -, -, hbx⟩ := hHeld
          clear hbK hbr ed ee ew v0 v1 v2 v3 v4 v5 v6 v7 d0 d1 x0 x1
          have hpre := HPRE.out
          have hsx : SameOn S W w2 := HSr.out.trans (SameOn.of_below hbx (fun q hq => Nat.lt_of_lt_of_le (HW.out q hq) hsw))
          have hjx := (HJ.out _).turn _ _ _ (fun q hq => (HT.out q hq).1) hsw HJr.out (Turn.of_below hbx)
          have hgx := (hbx.block g (HT.out g HTg.out).2).trans HG.out
          have hszx : W.heap.size ≤ w2.heap.size := hsx.size
          have HTx : Hid (∀ q, T q → q < w2.heap.size) := fun q hq => Nat.lt_of_lt_of_le (HT.out q hq).2 hbx.size
          have HSx := Lib.hid hsx; clear hsx
          have HGx := Lib.hid hgx; clear hgx
          obtain ⟨fn, tmps, assign, body, hy, hR⟩ := HY.out T _ mo w2 (fun q hq => (HT.out q hq).1) hpre hjx hszx HTx.out
          have HR := Lib.hid hR; clear hR hjx
          clear hbx
          try dsimp only at hy
          gi_wp2_with fail
          refine HR.out.mono ?_
          rintro e w4 (⟨rfl, hj4, hk4⟩ | ⟨rfl, hx4, hk4⟩)
          · have HJ4 := Lib.hid hj4; clear hj4
            have hs4 := HSx.out.trans (hk4.mono (fun _ h => .inl h))
            have hg4 := (hk4.block g (.inr HTg.out)).trans HGx.out
            have hz4 := hk4.size
            have b4 := hC.out w4 hs4
            obtain ⟨v0, v1, v2, v3, v4, v5, v6, v7⟩ := row8 b4.v
            have d0 : w4.cell? ⟨g, 0, none⟩ = some (iv k) := by rw [cell_of_row _ _ _ _ _ _ hg4]; rfl
            have d1 : w4.cell? ⟨g, 1, none⟩ = some (iv lev) := by rw [cell_of_row _ _ _ _ _ _ hg4]; rfl
            have HF4 := Lib.hid (HFV.out w4 hs4)
            have HS4 := Lib.hid hs4; clear hs4 hk4 b4
            have HG4 := Lib.hid hg4; clear hg4
            clear hy
            gi_wp2_with fail
            refine (callsIn_wide.2 (hNX.out k p lev mo w4 HP.out q1 q2 o1 (by omega) HF4.out)).mono ?_
            rintro e w5 ⟨rfl, hb5⟩
            have hz5 := hb5.size
            have hg5 := (hb5.block g (Nat.lt_of_lt_of_le (HTx.out g HTg.out) hz4)).trans HG4.out
            have hj5 := (HJ.out _).turn _ _ _ (fun q hq => (HT.out q hq).1) (Nat.le_trans hszx hz4) HJ4.out (Turn.of_below hb5)
            have hs5 : SameOn S W w5 := HS4.out.trans (SameOn.of_below hb5 (fun q hq => Nat.lt_of_lt_of_le (HW.out q hq) (Nat.le_trans hszx hz4)))
            have HJ5 := Lib.hid hj5; clear hj5
            have HS5 := Lib.hid hs5; clear hs5
            have HG5 := Lib.hid hg5
            have e0 : w5.cell? ⟨g, 0, none⟩ = some (iv k) := by rw [cell_of_row _ _ _ _ _ _ hg5]; rfl
            have e1 : w5.cell? ⟨g, 1, none⟩ = some (iv lev) := by rw [cell_of_row _ _ _ _ _ _ hg5]; rfl
            have e2 : w5.frozen? ⟨g, 0, none⟩ = false := by unfold World.frozen?; rw [hg5]; rfl
            have e3 : w5.frozen? ⟨g, 1, none⟩ = false := by unfold World.frozen?; rw [hg5]; rfl
            clear hg5 hb5 d0 d1 v0 v1 v2 v3 v4 v5 v6 v7
            gi_wp2_with fail
            gi_roundg (F.length - (k + 1))
            case measure => have := HN.out; omega
            case rel =>
              have hSg : ¬ S g := fun hs => by have := HW.out g hs; have := (HT.out g HTg.out).1; omega
              have hw5 : W.heap.size ≤ w5.heap.size := HS5.out.size
              refine ⟨k + 1, _, pre ++ [mo], w5.heap.size, fun q => T q ∨ q = w5.heap.size, by omega, rfl, rfl, o3, by omega, HX1, ?_, ?_, .inr rfl, ?_, ?_⟩
              · refine ((HS5.out.setCell (p := ⟨g, 0, none⟩) hSg _).setCell (p := ⟨g, 1, none⟩) hSg _).alloc (fun q hq => ?_) _
                have := HW.out q hq; simp; omega
              · rintro q (hq | rfl)
                · have h1 := (HT.out q hq).1; have h2 := HTx.out q hq; simp; omega
                · simp; omega
              · refine (HJ.out _).turn _ w5 _ (fun q hq => ?_) hw5 ((HJ.out _).ext T _ w5 HJ5.out (fun q hq => hq.elim .inl (fun e => .inr (by omega)))) (((turn_setAt (.inl HTg.out) 0 _).trans (turn_setAt (.inl HTg.out) 1 _)).alloc _)
                rcases hq with hq | rfl
                · exact (HT.out q hq).1
                · exact hw5
              · exact heap_new2 _ _ _ _ _
          · have HX2 := Lib.hid hx4; clear hx4
            have HZ2 := Lib.hid (show W.heap.size ≤ w4.heap.size from Nat.le_trans hszx hk4.size); clear hk4
            gi_wp2_with fail
            refine bodyPost_ret (results_none rfl _ _ _) rfl ?_
            exact ⟨⟨_, rfl⟩, HZ2.out, .inr (HX.out.ext _ _ _ HX2.out (fun _ h => h.elim))⟩
        · have hmk : mo = kk := by rw [hmo.out, if_pos ht, if_neg hq]
          subst hmk
          have ht0 : t ≠ 0 := by omega
          have ht1 : (t == 0) = false := by simpa using ht0
          have qb1 : 0 ≤ fl / t := Int.ediv_nonneg y1 m3
          have qb2 : fl / t ≤ fl := Int.ediv_le_self _ y1
          have ed : fl.tdiv t = fl / t := Int.tdiv_eq_ediv_of_nonneg y1
          generalize fl / t = qq at *
          have ee : True := trivial
          have ew : IntKind.i64.wrap qq = qq := IntWalk.i64_in _ ⟨by omega, by omega⟩
          clear hmo
          have hbr : Below wr.heap.size wr wr := Below.refl _ _
          have HPRE := Lib.hid hpre
          clear hpre
          gi_wp2_with fail
          refine wpIn_wide.2 ?_
          go_region_held3 (fun w' => w'.cell? ⟨bv, 0, none⟩ = some (iv mo) ∧ w'.cell? ⟨bv, 1, none⟩ = some (iv t) ∧ w'.cell? ⟨bv, 2, none⟩ = some (iv bl) ∧ w'.cell? ⟨bv, 3, none⟩ = some (iv bh) ∧ w'.cell? ⟨bv, 4, none⟩ = some (iv h) ∧ w'.cell? ⟨bv, 5, none⟩ = some (iv nl) ∧ w'.cell? ⟨bv, 6, none⟩ = some (iv nh) ∧ w'.cell? ⟨bv, 7, none⟩ = some (.slice (some ⟨fb, fo, none⟩) F.length fc) ∧ w'.cell? ⟨g, 0, none⟩ = some (iv k) ∧ w'.cell? ⟨g, 1, none⟩ = some (iv lev) ∧ w'.cell? ⟨fb, fo + k * 2, none⟩ = some (iv p.1) ∧ Below wr.heap.size wr w')
            (first | (go_split_ands; refine ⟨?_, ?_, ?_, ?_, ?_, ?_, ?_, ?_, ?_, ?_, ?_, ?_⟩ <;> first | assumption | exact kcell hbK (by assumption) | exact kfrozen hbK (by assumption) (by assumption) | exact bstep (by assumption) hbK | exact SliceOf.below (by assumption) hbK) | (refine ⟨?_, ?_, ?_, ?_, ?_, ?_, ?_, ?_, ?_, ?_, ?_, ?_⟩ <;> first | exact Below.drew (by assumption) | exact SliceOf.below (by assumption) ((Below.refl _ _).drew) | assumption))
            (first | ((with_reducible refine (HFL.out _).mono ?_); rintro e w2 ⟨rfl, hbK⟩))
          rename_i hHeld
          obtain ⟨-, -, -, -, -, -, -, -, -, -, -, hbx⟩ := hHeld
          clear hbK hbr ed ee ew v0 v1 v2 v3 v4 v5 v6 v7 d0 d1 x0 x1
          have hpre := HPRE.out
          have hsx : SameOn S W w2 := HSr.out.trans (SameOn.of_below hbx (fun q hq => Nat.lt_of_lt_of_le (HW.out q hq) hsw))
          have hjx := (HJ.out _).turn _ _ _ (fun q hq => (HT.out q hq).1) hsw HJr.out (Turn.of_below hbx)
          have hgx := (hbx.block g (HT.out g HTg.out).2).trans HG.out
          have hszx : W.heap.size ≤ w2.heap.size := hsx.size
          have HTx : Hid (∀ q, T q → q < w2.heap.size) := fun q hq => Nat.lt_of_lt_of_le (HT.out q hq).2 hbx.size
          have HSx := Lib.hid hsx; clear hsx
          have HGx := Lib.hid hgx; clear hgx
          obtain ⟨fn, tmps, assign, body, hy, hR⟩ := HY.out T _ mo w2 (fun q hq => (HT.out q hq).1) hpre hjx hszx HTx.out
          have HR := Lib.hid hR; clear hR hjx
          clear hbx
          try dsimp only at hy
          gi_wp2_with fail
          refine HR.out.mono ?_
          rintro e w4 (⟨rfl, hj4, hk4⟩ | ⟨rfl, hx4, hk4⟩)
          · have HJ4 := Lib.hid hj4; clear hj4
            have hs4 := HSx.out.trans (hk4.mono (fun _ h => .inl h))
            have hg4 := (hk4.block g (.inr HTg.out)).trans HGx.out
            have hz4 := hk4.size
            have b4 := hC.out w4 hs4
            obtain ⟨v0, v1, v2, v3, v4, v5, v6, v7⟩ := row8 b4.v
            have d0 : w4.cell? ⟨g, 0, none⟩ = some (iv k) := by rw [cell_of_row _ _ _ _ _ _ hg4]; rfl
            have d1 : w4.cell? ⟨g, 1, none⟩ = some (iv lev) := by rw [cell_of_row _ _ _ _ _ _ hg4]; rfl
            have HF4 := Lib.hid (HFV.out w4 hs4)
            have HS4 := Lib.hid hs4; clear hs4 hk4 b4
            have HG4 := Lib.hid hg4; clear hg4
            clear hy
            gi_wp2_with fail
            refine (callsIn_wide.2 (hNX.out k p lev mo w4 HP.out q1 q2 o1 (by omega) HF4.out)).mono ?_
            rintro e w5 ⟨rfl, hb5⟩
            have hz5 := hb5.size
            have hg5 := (hb5.block g (Nat.lt_of_lt_of_le (HTx.out g HTg.out) hz4)).trans HG4.out
            have hj5 := (HJ.out _).turn _ _ _ (fun q hq => (HT.out q hq).1) (Nat.le_trans hszx hz4) HJ4.out (Turn.of_below hb5)
            have hs5 : SameOn S W w5 := HS4.out.trans (SameOn.of_below hb5 (fun q hq => Nat.lt_of_lt_of_le (HW.out q hq) (Nat.le_trans hszx hz4)))
            have HJ5 := Lib.hid hj5; clear hj5
            have HS5 := Lib.hid hs5; clear hs5
            have HG5 := Lib.hid hg5
            have e0 : w5.cell? ⟨g, 0, none⟩ = some (iv k) := by rw [cell_of_row _ _ _ _ _ _ hg5]; rfl
            have e1 : w5.cell? ⟨g, 1, none⟩ = some (iv lev) := by rw [cell_of_row _ _ _ _ _ _ hg5]; rfl
            have e2 : w5.frozen? ⟨g, 0, none⟩ = false := by unfold World.frozen?; rw [hg5]; rfl
            have e3 : w5.frozen? ⟨g, 1, none⟩ = false := by unfold World.frozen?; rw [hg5]; rfl
            clear hg5 hb5 d0 d1 v0 v1 v2 v3 v4 v5 v6 v7
            gi_wp2_with fail
            gi_roundg (F.length - (k + 1))
            case measure => have := HN.out; omega
            case rel =>
              have hSg : ¬ S g := fun hs => by have := HW.out g hs; have := (HT.out g HTg.out).1; omega
              have hw5 : W.heap.size ≤ w5.heap.size := HS5.out.size
              refine ⟨k + 1, _, pre ++ [mo], w5.heap.size, fun q => T q ∨ q = w5.heap.size, by omega, rfl, rfl, o3, by omega, HX1, ?_, ?_, .inr rfl, ?_, ?_⟩
              · refine ((HS5.out.setCell (p := ⟨g, 0, none⟩) hSg _).setCell (p := ⟨g, 1, none⟩) hSg _).alloc (fun q hq => ?_) _
                have := HW.out q hq; simp; omega
              · rintro q (hq | rfl)
                · have h1 := (HT.out q hq).1; have h2 := HTx.out q hq; simp; omega
                · simp; omega
              · refine (HJ.out _).turn _ w5 _ (fun q hq => ?_) hw5 ((HJ.out _).ext T _ w5 HJ5.out (fun q hq => hq.elim .inl (fun e => .inr (by omega)))) (((turn_setAt (.inl HTg.out) 0 _).trans (turn_setAt (.inl HTg.out) 1 _)).alloc _)
                rcases hq with hq | rfl
                · exact (HT.out q hq).1
                · exact hw5
              · exact heap_new2 _ _ _ _ _
          · have HX2 := Lib.hid hx4; clear hx4
            have HZ2 := Lib.hid (show W.heap.size ≤ w4.heap.size from Nat.le_trans hszx hk4.size); clear hk4
            gi_wp2_with fail
            refine bodyPost_ret (results_none rfl _ _ _) rfl ?_
            exact ⟨⟨_, rfl⟩, HZ2.out, .inr (HX.out.ext _ _ _ HX2.out (fun _ h => h.elim))⟩
      · have hmk : mo = kk := by rw [hmo.out, if_neg ht]
        subst hmk
        have hbx : Below wr.heap.size wr wr := Below.refl _ _
        have hsx : SameOn S W wr := HSr.out.trans (SameOn.of_below hbx (fun q hq => Nat.lt_of_lt_of_le (HW.out q hq) hsw))
        have hjx := (HJ.out _).turn _ _ _ (fun q hq => (HT.out q hq).1) hsw HJr.out (Turn.of_below hbx)
        have hgx := (hbx.block g (HT.out g HTg.out).2).trans HG.out
        have hszx : W.heap.size ≤ wr.heap.size := hsx.size
        have HTx : Hid (∀ q, T q → q < wr.heap.size) := fun q hq => Nat.lt_of_lt_of_le (HT.out q hq).2 hbx.size
        have HSx := Lib.hid hsx; clear hsx
        have HGx := Lib.hid hgx; clear hgx
        obtain ⟨fn, tmps, assign, body, hy, hR⟩ := HY.out T _ mo wr (fun q hq => (HT.out q hq).1) hpre hjx hszx HTx.out
        have HR := Lib.hid hR; clear hR hjx
        clear hbx
        try dsimp only at hy
        gi_wp2_with fail
        refine HR.out.mono ?_
        rintro e w4 (⟨rfl, hj4, hk4⟩ | ⟨rfl, hx4, hk4⟩)
        · have HJ4 := Lib.hid hj4; clear hj4
          have hs4 := HSx.out.trans (hk4.mono (fun _ h => .inl h))
          have hg4 := (hk4.block g (.inr HTg.out)).trans HGx.out
          have hz4 := hk4.size
          have b4 := hC.out w4 hs4
          obtain ⟨v0, v1, v2, v3, v4, v5, v6, v7⟩ := row8 b4.v
          have d0 : w4.cell? ⟨g, 0, none⟩ = some (iv k) := by rw [cell_of_row _ _ _ _ _ _ hg4]; rfl
          have d1 : w4.cell? ⟨g, 1, none⟩ = some (iv lev) := by rw [cell_of_row _ _ _ _ _ _ hg4]; rfl
          have HF4 := Lib.hid (HFV.out w4 hs4)
          have HS4 := Lib.hid hs4; clear hs4 hk4 b4
          have HG4 := Lib.hid hg4; clear hg4
          clear hy
          gi_wp2_with fail
          refine (callsIn_wide.2 (hNX.out k p lev mo w4 HP.out q1 q2 o1 (by omega) HF4.out)).mono ?_
          rintro e w5 ⟨rfl, hb5⟩
          have hz5 := hb5.size
          have hg5 := (hb5.block g (Nat.lt_of_lt_of_le (HTx.out g HTg.out) hz4)).trans HG4.out
          have hj5 := (HJ.out _).turn _ _ _ (fun q hq => (HT.out q hq).1) (Nat.le_trans hszx hz4) HJ4.out (Turn.of_below hb5)
          have hs5 : SameOn S W w5 := HS4.out.trans (SameOn.of_below hb5 (fun q hq => Nat.lt_of_lt_of_le (HW.out q hq) (Nat.le_trans hszx hz4)))
          have HJ5 := Lib.hid hj5; clear hj5
          have HS5 := Lib.hid hs5; clear hs5
          have HG5 := Lib.hid hg5
          have e0 : w5.cell? ⟨g, 0, none⟩ = some (iv k) := by rw [cell_of_row _ _ _ _ _ _ hg5]; rfl
          have e1 : w5.cell? ⟨g, 1, none⟩ = some (iv lev) := by rw [cell_of_row _ _ _ _ _ _ hg5]; rfl
          have e2 : w5.frozen? ⟨g, 0, none⟩ = false := by unfold World.frozen?; rw [hg5]; rfl
          have e3 : w5.frozen? ⟨g, 1, none⟩ = false := by unfold World.frozen?; rw [hg5]; rfl
          clear hg5 hb5 d0 d1 v0 v1 v2 v3 v4 v5 v6 v7
          gi_wp2_with fail
          gi_roundg (F.length - (k + 1))
          case measure => have := HN.out; omega
          case rel =>
            have hSg : ¬ S g := fun hs => by have := HW.out g hs; have := (HT.out g HTg.out).1; omega
            have hw5 : W.heap.size ≤ w5.heap.size := HS5.out.size
            refine ⟨k + 1, _, pre ++ [mo], w5.heap.size, fun q => T q ∨ q = w5.heap.size, by omega, rfl, rfl, o3, by omega, HX1, ?_, ?_, .inr rfl, ?_, ?_⟩
            · refine ((HS5.out.setCell (p := ⟨g, 0, none⟩) hSg _).setCell (p := ⟨g, 1, none⟩) hSg _).alloc (fun q hq => ?_) _
              have := HW.out q hq; simp; omega
            · rintro q (hq | rfl)
              · have h1 := (HT.out q hq).1; have h2 := HTx.out q hq; simp; omega
              · simp; omega
            · refine (HJ.out _).turn _ w5 _ (fun q hq => ?_) hw5 ((HJ.out _).ext T _ w5 HJ5.out (fun q hq => hq.elim .inl (fun e => .inr (by omega)))) (((turn_setAt (.inl HTg.out) 0 _).trans (turn_setAt (.inl HTg.out) 1 _)).alloc _)
              rcases hq with hq | rfl
              · exact (HT.out q hq).1
              · exact hw5
            · exact heap_new2 _ _ _ _ _
        · have HX2 := Lib.hid hx4; clear hx4
          have HZ2 := Lib.hid (show W.heap.size ≤ w4.heap.size from Nat.le_trans hszx hk4.size); clear hk4
          gi_wp2_with fail
          refine bodyPost_ret (results_none rfl _ _ _) rfl ?_
          exact ⟨⟨_, rfl⟩, HZ2.out, .inr (HX.out.ext _ _ _ HX2.out (fun _ h => h.elim))⟩
    · obtain rfl : k = F.length := by omega
      have HXE : Hid (xs = pre) := by have := HXK.out; rw [List.drop_length] at this; simpa [Hid, busy] using this
      gi_wp2_with fail
      go_end0
      exact ⟨⟨_, rfl⟩, hsw, .inl (by rw [HXE.out]; exact (HJ.out _).ext _ _ _ HJr.out (fun _ h => h.elim))⟩
end Go.Proofs.Ytghnkhpjblnabaa
