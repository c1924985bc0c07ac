/- Done of package stream, and sums. -/
import Derived.Test.YtghnkhpjblnabaaTa
namespace Go.Proofs.Ytghnkhpjblnabaa
open Go Go.RowKit Go.Shelf
attribute [local go_sem] Oper.semAt_some
attribute [local go_sem ↓] Go.wp_at_zero Go.wp_at_succ

/-- After n hours some work is done, or never. -/
def DoneR (B : List Int) (work n err : Int) : Prop :=
  (∃ k : Nat, n = k ∧ err = 0 ∧ k ≤ B.length ∧ work ≤ (B.take k).sum ∧ ∀ j, j < k → (B.take j).sum < work) ∨ (n = 0 ∧ err = 7 ∧ ∀ j, j ≤ B.length → (B.take j).sum < work)
def DoneEnd (B : List Int) (work : Int) (w : World) (e : Ending) (w' : World) : Prop := ∃ n err : Int, e = .returned (.tuple #[iv n, iv err]) ∧ DoneR B work n err ∧ Below w.heap.size w w'
theorem results_two {P : Program} {fn : Func} {w : World} {p q : Tmp} {ty tz : TypeId} {a b : Addr} {x y : Value} {d d' : TypeDesc} (h : fn.results = #[.cell p ty, .cell q tz]) (tmps : Array Value) (hp : tmps.getD p undef = .pointer (some a)) (hq : tmps.getD q undef = .pointer (some b))
    (hu : P.underlying ty = some d) (hd : (match d with | .struct _ | .array _ _ => true | _ => false) = false) (hu' : P.underlying tz = some d') (hd' : (match d' with | .struct _ | .array _ _ => true | _ => false) = false) (hx : w.cell? a = some x) (hy : w.cell? b = some y) :
    (results fn tmps).run P w = .ok (.tuple #[x, y]) w := by
  have hp' : tmps[p]?.getD undef = .pointer (some a) := by simpa using hp
  have hq' : tmps[q]?.getD undef = .pointer (some b) := by simpa using hq
  simp only [results, h]
  simp [Sem.run_bind, hp', hq', asAddr, run_loadVar_one hu hd hx, run_loadVar_one hu' hd' hy, Result.andThen]
theorem row1 {W : World} {b : Nat} {v : Value} {t : TypeId} (h : W.heap[b]? = some (.cells #[v] t (0, 0))) : W.cell? ⟨b, 0, none⟩ = some v ∧ W.frozen? ⟨b, 0, none⟩ = false := by
  refine ⟨?_, ?_⟩
  · rw [cell_of_row _ _ _ _ _ _ h]; rfl
  · unfold World.frozen?; rw [h]; rfl
theorem heap_set_ne {W : World} {b k : Nat} {v : Value} {o : Option Obj} (h : W.heap[k]? = o) (hne : k ≠ b) : (W.setCell ⟨b, 0, none⟩ v).heap[k]? = o := (Below.heap_setCell _ _ _ _ hne).trans h
theorem prefix_take {α : Type} {pre xs : List α} (h : pre <+: xs) : xs.take pre.length = pre := by
  obtain ⟨t, rfl⟩ := h; simp

def BzHi (m : Ml) (fv : Value) (hour level : Int) (w : World) (e : Ending) (w' : World) : Prop :=
  ∃ bf bv, e = .returned (.func (.func 41) #[] #[.pointer (some ⟨bf, 0, none⟩), .pointer (some ⟨bv, 0, none⟩)]) ∧ BzBox w' bf bv m fv hour level ∧ w.heap.size ≤ bf ∧ w.heap.size ≤ bv ∧ Below w.heap.size w w'
set_option maxRecDepth 20000 in
set_option maxHeartbeats 1600000 in
theorem busiest_hi (m : Ml) (fv : Value) (hour level : Int) (w : World) :
    Calls Try.prog 24 #[.agg (vcells m fv), .agg #[iv hour, iv level]] w (BzHi m fv hour level w) := by
  have HH : Hid (∀ (W W' : World), W' = ((W.alloc (.cells (vcells m fv) 79)).alloc (.cells #[iv hour, iv level] 87)) → BzBox W' (W.heap.size + 1) W.heap.size m fv hour level) := by
    rintro W _ rfl
    refine ⟨?_, ?_⟩
    · have := heap_new (W.alloc (.cells (vcells m fv) 79)) #[iv hour, iv level] 87
      simpa only [World.size_alloc] using this
    · rw [Below.heap_alloc _ _ _ (by simp)]; exact heap_new _ _ _
  obtain ⟨k, t, bl, bh, h, nl, nh⟩ := m
  simp only [vcells] at *
  go_enter Try.func24, Try.ntmps24
  go_wp2_with fail
  go_ret
  exact ⟨_, _, rfl, HH.out _ _ rfl, Nat.le_succ _, Nat.le_refl _, (by repeat (first | exact Below.refl _ _ | refine Below.drew ?_ | refine bpush ?_ _ | refine bput ?_ (by simp) _ | (refine bstep ?_ (by assumption))))⟩

theorem cset_ne {W : World} {b k o : Nat} {v : Value} (hne : ¬ k = b) : (W.setCell ⟨b, 0, none⟩ v).cell? ⟨k, o, none⟩ = W.cell? ⟨k, o, none⟩ := World.cell?_of_block (Below.heap_setCell _ _ _ _ hne)
theorem cset_eq {W : World} {b : Nat} {v u : Value} (h : W.cell? ⟨b, 0, none⟩ = some u) : (W.setCell ⟨b, 0, none⟩ v).cell? ⟨b, 0, none⟩ = some v := World.cell?_setCell_same' _ _ _ (by rw [h]; rfl)

set_option maxRecDepth 20000 in
set_option maxHeartbeats 12800000 in
theorem Done_good (m : Ml) (F : List Sp) (fv : Value) (work : Int) (w : World) (hc : sChk m F = 0) (hw : 0 ≤ work ∧ work ≤ 200) (hf : SliceOf encS 2 w fv F) :
    Calls Try.prog 9 #[.agg (encMl m).toArray, fv, iv work] w (DoneEnd (busy m m.nl F) work w) := by
  have HF := Lib.hid hf
  obtain ⟨fa, fc, rfl, hfl, -⟩ := hf
  have hO := sOpen_any m F (.slice fa F.length fc)
  obtain ⟨hm, hl24, hl0, hFv⟩ := sChk_zero hc
  have hV : openV m F (.slice fa F.length fc) = vcells m (.slice fa F.length fc) := openV_good _ hc
  rw [hV, hc] at hO
  have HO := Lib.hid hO; clear hO
  obtain ⟨-, -, -, ⟨m5, m6⟩, m7, m8, m9, m10, m11⟩ := vMill_iff.1 hm
  have hin : Hid (inB 0 200 work = true) := inB_iff.2 hw
  have HBG := Lib.hid (begin_any m (.slice fa F.length fc))
  have HBZ := Lib.hid (busiest_hi m (.slice fa F.length fc) 0 m.nl)
  have hF0 : ∀ p ∈ F, 0 ≤ p.1 := fun p hp => (okSpan_iff.1 (List.all_eq_true.1 hFv p hp)).1
  have HBM := Lib.hid (busy_mem hm F m.nl m7 hF0)
  have HBL := Lib.hid (busy_len m F m.nl)
  have HK8 := (vMill_iff.1 hm).1.2
  have HSQ : Hid (∀ (S : Nat → Prop) (bf bv : Nat) (w0 : World), S bf → S bv → (∀ k, S k → k < w0.heap.size) → BzBox w0 bf bv m (.slice fa F.length fc) 0 m.nl → (∀ W, SameOn S w0 W → SliceOf encS 2 W (.slice fa F.length fc) F) →
      SeqL Try.prog 41 #[.pointer (some ⟨bf, 0, none⟩), .pointer (some ⟨bv, 0, none⟩)] (fun (x : Int) => #[iv x]) S (busy m m.nl F) w0) :=
    fun S bf bv w0 h1 h2 h3 h4 h5 => busy_seq S bf bv h1 h2 m fa fc F hm hFv (by omega) 0 m.nl (Nat.zero_le _) m7 (by omega) w0 h3 h4 h5
  clear hm hFv hV hc hF0
  obtain ⟨B, hB⟩ : ∃ B, B = busy m m.nl F := ⟨_, rfl⟩
  rw [← hB] at HBM HBL HSQ ⊢
  clear hB
  obtain ⟨kk, t, bl, bh, h, nl, nh⟩ := m
  simp only [encMl, vcells] at *
  by_cases h0 : work = 0
  · subst h0
    go_enter Try.func9, Try.ntmps9
    go_wp2_with fail
    refine (HO.out _ (HF.out.below (by repeat (first | exact Below.refl _ _ | refine Below.drew ?_ | refine bpush ?_ _ | refine bput ?_ (by simp) _ | (refine bstep ?_ (by assumption)))))).mono ?_
    rintro e w1 ⟨rfl, hb⟩
    have HB1 := Lib.hid (show Below w.heap.size w w1 from bstep (by repeat (first | exact Below.refl _ _ | refine Below.drew ?_ | refine bpush ?_ _ | refine bput ?_ (by simp) _ | (refine bstep ?_ (by assumption)))) hb)
    have hz1 : w.heap.size + 4 ≤ w1.heap.size := by have := hb.size; simp at this; omega
    have g1 : w1.cell? ⟨w.heap.size + 1, 0, none⟩ = some (iv 0) := (hb.cell (p := ⟨w.heap.size + 1, 0, none⟩) (by simp <;> omega)).trans (by go_simp)
    have g2 : w1.cell? ⟨w.heap.size + 1 + 1, 0, none⟩ = some (iv 0) := (hb.cell (p := ⟨w.heap.size + 1 + 1, 0, none⟩) (by simp <;> omega)).trans (by go_simp)
    have g3 : w1.cell? ⟨w.heap.size + 1 + 1 + 1, 0, none⟩ = some (iv 0) := (hb.cell (p := ⟨w.heap.size + 1 + 1 + 1, 0, none⟩) (by simp <;> omega)).trans (by go_simp)
    have f2 : w1.frozen? ⟨w.heap.size + 1 + 1, 0, none⟩ = false := (hb.frozen (p := ⟨w.heap.size + 1 + 1, 0, none⟩) (by simp <;> omega)).trans (by go_simp)
    have f3 : w1.frozen? ⟨w.heap.size + 1 + 1 + 1, 0, none⟩ = false := (hb.frozen (p := ⟨w.heap.size + 1 + 1 + 1, 0, none⟩) (by simp <;> omega)).trans (by go_simp)
    have l0 : w.heap.size < w1.heap.size := by omega
    have l1 : w.heap.size + 1 < w1.heap.size := by omega
    have l2 : w.heap.size + 1 + 1 < w1.heap.size := by omega
    have l3 : w.heap.size + 1 + 1 + 1 < w1.heap.size := by omega
    clear hb
    go_wp2_with fail
    refine (within1 0 200 0 (by go_simp)).mono ?_
    rintro e w2 ⟨he, rfl⟩; rw [hin.out] at he; subst he
    go_wp2_with fail
    exact bodyPost_ret (results_two (x := iv 0) (y := iv 0) (fn := Try.f9) Try.results9 _ rfl rfl Try.underlying3 rfl Try.underlying41 rfl (by go_simp) (by go_simp)) rfl ⟨0, 0, rfl, .inl ⟨0, rfl, rfl, Nat.zero_le _, by simp, fun j hj => by omega⟩, bpush (bpush (bput (bput HB1.out (by simp <;> omega) _) (by simp <;> omega) _) _) _⟩
  · have n0 : (work == 0) = false := by simpa using h0
    have HI := Lib.hid h0; clear h0
    obtain ⟨hw0, hw1⟩ := hw
    refine (callsIn_wide (n := 3)).1 ?_
    refine callsIn_of_wp_marks Try.func9 rfl trivial ?_ rfl
    simp only [Try.ntmps9, List.size_toArray, List.length_cons, List.length_nil, Nat.reduceAdd, Nat.reduceSub, Array.replicate_succ, Array.replicate_zero, List.push_toArray, List.append_toArray, List.nil_append, List.cons_append]
    gi_wp2_with fail
    refine (callsIn_wide.2 (HO.out _ (HF.out.below (by repeat (first | exact Below.refl _ _ | refine Below.drew ?_ | refine bpush ?_ _ | refine bput ?_ (by simp) _ | (refine bstep ?_ (by assumption))))))).mono ?_
    rintro e w1 ⟨rfl, hb⟩
    have HB1 := Lib.hid (show Below w.heap.size w w1 from bstep (by repeat (first | exact Below.refl _ _ | refine Below.drew ?_ | refine bpush ?_ _ | refine bput ?_ (by simp) _ | (refine bstep ?_ (by assumption)))) hb)
    have hz1 : w.heap.size + 4 ≤ w1.heap.size := by have := hb.size; simp at this; omega
    have g1 : w1.cell? ⟨w.heap.size + 1, 0, none⟩ = some (iv work) := (hb.cell (p := ⟨w.heap.size + 1, 0, none⟩) (by simp <;> omega)).trans (by go_simp)
    have g2 : w1.cell? ⟨w.heap.size + 1 + 1, 0, none⟩ = some (iv 0) := (hb.cell (p := ⟨w.heap.size + 1 + 1, 0, none⟩) (by simp <;> omega)).trans (by go_simp)
    have g3 : w1.cell? ⟨w.heap.size + 1 + 1 + 1, 0, none⟩ = some (iv 0) := (hb.cell (p := ⟨w.heap.size + 1 + 1 + 1, 0, none⟩) (by simp <;> omega)).trans (by go_simp)
    have f2 : w1.frozen? ⟨w.heap.size + 1 + 1, 0, none⟩ = false := (hb.frozen (p := ⟨w.heap.size + 1 + 1, 0, none⟩) (by simp <;> omega)).trans (by go_simp)
    have f3 : w1.frozen? ⟨w.heap.size + 1 + 1 + 1, 0, none⟩ = false := (hb.frozen (p := ⟨w.heap.size + 1 + 1 + 1, 0, none⟩) (by simp <;> omega)).trans (by go_simp)
    have l0 : w.heap.size < w1.heap.size := by omega
    have l1 : w.heap.size + 1 < w1.heap.size := by omega
    have l2 : w.heap.size + 1 + 1 < w1.heap.size := by omega
    have l3 : w.heap.size + 1 + 1 + 1 < w1.heap.size := by omega
    clear hb
    gi_wp2_with fail
    refine (callsIn_wide.2 (within1 0 200 work (by go_simp))).mono ?_
    rintro e w2 ⟨he, rfl⟩; rw [hin.out] at he; subst he
    gi_wp2_with fail
    refine wpIn_wide.2 ?_
    obtain ⟨Wn, hWn⟩ : ∃ Wn : World, ((((w1.alloc (.cells #[.int .i64 kk, .int .i64 t, .int .i64 bl, .int .i64 bh, .int .i64 h, .int .i64 nl, .int .i64 nh, .slice fa F.length fc] 79)).alloc (.cells #[iv work] 3)).alloc (.cells #[.int .i64 0] 3)).alloc (.cells #[.int .i64 0] 3)) = Wn := ⟨_, rfl⟩
    rw [hWn]
    have hBw : Below w1.heap.size w1 Wn := by rw [← hWn]; exact (by repeat (first | exact Below.refl _ _ | refine Below.drew ?_ | refine bpush ?_ _ | refine bput ?_ (by simp) _ | (refine bstep ?_ (by assumption))))
    have hzn : Wn.heap.size = w1.heap.size + 4 := by rw [← hWn]; simp
    have c0 : Wn.cell? ⟨w1.heap.size, 0, none⟩ = some (iv kk) := by subst hWn; go_simp
    have c1 : Wn.cell? ⟨w1.heap.size, 1, none⟩ = some (iv t) := by subst hWn; go_simp
    have c2 : Wn.cell? ⟨w1.heap.size, 2, none⟩ = some (iv bl) := by subst hWn; go_simp
    have c3 : Wn.cell? ⟨w1.heap.size, 3, none⟩ = some (iv bh) := by subst hWn; go_simp
    have c4 : Wn.cell? ⟨w1.heap.size, 4, none⟩ = some (iv h) := by subst hWn; go_simp
    have c5 : Wn.cell? ⟨w1.heap.size, 5, none⟩ = some (iv nl) := by subst hWn; go_simp
    have c6 : Wn.cell? ⟨w1.heap.size, 6, none⟩ = some (iv nh) := by subst hWn; go_simp
    have c7 : Wn.cell? ⟨w1.heap.size, 7, none⟩ = some (.slice fa F.length fc) := by subst hWn; go_simp
    have y0 : Wn.cell? ⟨w1.heap.size + 1 + 1, 0, none⟩ = some (iv 0) := by subst hWn; go_simp
    have y1 : Wn.cell? ⟨w1.heap.size + 1 + 1 + 1, 0, none⟩ = some (iv 0) := by subst hWn; go_simp
    have z0 : Wn.frozen? ⟨w1.heap.size + 1 + 1, 0, none⟩ = false := by subst hWn; go_simp
    have z1 : Wn.frozen? ⟨w1.heap.size + 1 + 1 + 1, 0, none⟩ = false := by subst hWn; go_simp
    have hb0 : Below Wn.heap.size Wn Wn := Below.refl _ _
    have G := Lib.hid (And.intro (kcell hBw g1) (And.intro (kcell hBw g2) (And.intro (kcell hBw g3) (And.intro (kfrozen hBw g2 f2) (And.intro (kfrozen hBw g3 f3) (And.intro y0 (And.intro y1 (And.intro z0 z1))))))))
    have HBn := Lib.hid (bstep HB1.out hBw)
    clear g1 g2 g3 f2 f3 y0 y1 z0 z1 hBw hWn
    go_region_held3 (fun w' => w'.cell? ⟨w1.heap.size, 0, none⟩ = some (iv kk) ∧ w'.cell? ⟨w1.heap.size, 1, none⟩ = some (iv t) ∧ w'.cell? ⟨w1.heap.size, 2, none⟩ = some (iv bl) ∧ w'.cell? ⟨w1.heap.size, 3, none⟩ = some (iv bh) ∧ w'.cell? ⟨w1.heap.size, 4, none⟩ = some (iv h) ∧ w'.cell? ⟨w1.heap.size, 5, none⟩ = some (iv nl) ∧ w'.cell? ⟨w1.heap.size, 6, none⟩ = some (iv nh) ∧ w'.cell? ⟨w1.heap.size, 7, none⟩ = some (.slice fa F.length fc) ∧ Below Wn.heap.size Wn w')
      (first | (go_split_ands; refine ⟨?_, ?_, ?_, ?_, ?_, ?_, ?_, ?_, ?_⟩ <;> first | assumption | exact kcell hbK (by assumption) | exact kfrozen hbK (by assumption) (by assumption) | exact bstep (by assumption) hbK | exact SliceOf.below (by assumption) hbK) | (refine ⟨?_, ?_, ?_, ?_, ?_, ?_, ?_, ?_, ?_⟩ <;> first | exact Below.drew (by assumption) | exact SliceOf.below (by assumption) ((Below.refl _ _).drew) | assumption))
      (first | ((with_reducible refine (HBG.out _).mono ?_); rintro e w3 ⟨rfl, hbK⟩; have hq3 : Wn.heap.size ≤ w3.heap.size := hbK.size) | ((with_reducible refine (HBZ.out _).mono ?_); rintro e w4 ⟨bf, bv, rfl, hbx, hlf, hlv, hbK⟩; have HX := Lib.hid hbx; clear hbx; have HZ4 := Lib.hid (And.intro hlf hlv); clear hlf hlv))
    rename_i hHeld
    obtain ⟨-, -, -, -, -, -, -, -, hbE⟩ := hHeld
    obtain ⟨g1, g2, g3, f2, f3, y0, y1, z0, z1⟩ := G.out
    have P0 := kcell hbE g1
    have P1 := kcell hbE g2
    have P2 := kcell hbE g3
    have P3 := kfrozen hbE g2 f2
    have P4 := kfrozen hbE g3 f3
    have P5 := kcell hbE y0
    have P6 := kcell hbE y1
    have P7 := kfrozen hbE y0 z0
    have P8 := kfrozen hbE y1 z1
    have HB4 := Lib.hid (bstep HBn.out hbE)
    obtain ⟨hlf, hlv⟩ := HZ4.out
    have hz4 : Wn.heap.size ≤ w4.heap.size := hbE.size
    have hff : bf < w4.heap.size := (Array.getElem?_eq_some_iff.1 HX.out.f).1
    have hvv : bv < w4.heap.size := (Array.getElem?_eq_some_iff.1 HX.out.v).1
    have hsq := HSQ.out (fun k => k < w.heap.size ∨ k = bf ∨ k = bv) bf bv w4 (.inr (.inl rfl)) (.inr (.inr rfl)) (fun k hk => by rcases hk with h | h | h <;> omega) HX.out
      (fun W hs => SliceOf.heapEq HF.out (fun k hk => (hs.block k (.inl hk)).trans (HB4.out.block k hk)))
    have hw4 : w.heap.size ≤ w4.heap.size := HB4.out.size
    clear g1 g2 g3 f2 f3 y0 y1 z0 z1 c0 c1 c2 c3 c4 c5 c6 c7 hb0 hbE HSQ HBZ HBG HO HBn G
    have hR0 : w.heap.size + 1 + 1 < w4.heap.size := by omega
    have hR1 : w.heap.size + 1 + 1 + 1 < w4.heap.size := by omega
    have hWK : w.heap.size + 1 < w4.heap.size := by omega
    have hH : w1.heap.size + 1 + 1 < w4.heap.size := by omega
    have hD : w1.heap.size + 1 + 1 + 1 < w4.heap.size := by omega
    have hx0 : w.heap.size + 1 + 1 + 1 < w1.heap.size := l3
    clear l0 l1 l2 l3 hz1
    generalize hgD : w1.heap.size + 1 + 1 + 1 = bD at *
    generalize hgH : w1.heap.size + 1 + 1 = bH at *
    generalize hgR1 : w.heap.size + 1 + 1 + 1 = bR1 at *
    generalize hgR0 : w.heap.size + 1 + 1 = bR0 at *
    generalize hgW : w.heap.size + 1 = bW at *
    have n01 : ¬ bR0 = bR1 := by omega
    have n10 : ¬ bR1 = bR0 := by omega
    have n0H : ¬ bR0 = bH := by omega
    have nH0 : ¬ bH = bR0 := by omega
    have n0D : ¬ bR0 = bD := by omega
    have nD0 : ¬ bD = bR0 := by omega
    have n1H : ¬ bR1 = bH := by omega
    have nH1 : ¬ bH = bR1 := by omega
    have n1D : ¬ bR1 = bD := by omega
    have nD1 : ¬ bD = bR1 := by omega
    have nHD : ¬ bH = bD := by omega
    have nDH : ¬ bD = bH := by omega
    have nW0 : ¬ bW = bR0 := by omega
    have nW1 : ¬ bW = bR1 := by omega
    have nWH : ¬ bW = bH := by omega
    have nWD : ¬ bW = bD := by omega
    have HLO := Lib.hid (show w.heap.size ≤ bR0 ∧ w.heap.size ≤ bR1 ∧ w.heap.size ≤ bH ∧ w.heap.size ≤ bD from by omega)
    have HHI := Lib.hid (show w.heap.size ≤ w4.heap.size ∧ bR0 < bf ∧ bR1 < bf ∧ bH < bf ∧ bD < bf ∧ bR0 < bv ∧ bR1 < bv ∧ bH < bv ∧ bD < bv from by omega)
    clear hgD hgH hgR1 hgR0 hgW hx0 hq3 hz4 hbK hlf hlv hzn
    gi_wp2_with fail
    refine rangeB (gf := 41) (lb := #[.pointer (some ⟨bf, 0, none⟩), .pointer (some ⟨bv, 0, none⟩)]) rfl (enters_of Try.func41 (by kernel_rfl) rfl)
      hsq (fun _ => rfl) (fun j hj => ?_) (fun j => j = bR0 ∨ j = bR1 ∨ j = bH ∨ j = bD) (fun j hj => ?_) (fun j hj hx => ?_)
      (fun pre W => (W.cell? ⟨bH, 0, none⟩ = some (iv pre.length) ∧ W.cell? ⟨bD, 0, none⟩ = some (iv pre.sum) ∧ W.frozen? ⟨bH, 0, none⟩ = false ∧ W.frozen? ⟨bD, 0, none⟩ = false ∧ W.cell? ⟨bR0, 0, none⟩ = some (iv 0) ∧ W.cell? ⟨bR1, 0, none⟩ = some (iv 0) ∧ W.frozen? ⟨bR0, 0, none⟩ = false ∧ W.frozen? ⟨bR1, 0, none⟩ = false) ∧ Hid (∀ j, j ≤ pre.length → (B.take j).sum < work))
      (fun c W => c = .ret ∧ ∃ k : Nat, (W.cell? ⟨bR0, 0, none⟩ = some (iv k) ∧ W.cell? ⟨bR1, 0, none⟩ = some (iv 0)) ∧ Hid (k ≤ B.length ∧ work ≤ (B.take k).sum ∧ ∀ j, j < k → (B.take j).sum < work))
      (fun s W W' hi hx => ?_) (fun c W W' hi hx => ?_) ⟨⟨?_, ?_, ?_, ?_, ?_, ?_, ?_, ?_⟩, ?_⟩ ?round ?done ?stop
    · rcases hj with h | h | h
      · exact Nat.lt_of_lt_of_le h hw4
      · omega
      · omega
    · rcases hj with h | h | h | h <;> omega
    · have h2 := HHI.out; have h3 := HLO.out; rcases hj with h | h | h <;> rcases hx with h' | h' | h' | h' <;> omega
    · obtain ⟨⟨i1, i2, i3, i4, i5, i6, i7, i8⟩, i9⟩ := hi
      have e0 := hx bR0 (.inl rfl); have e1 := hx bR1 (.inr (.inl rfl)); have e2 := hx bH (.inr (.inr (.inl rfl))); have e3 := hx bD (.inr (.inr (.inr rfl)))
      exact ⟨⟨(World.cell?_of_block e2).trans i1, (World.cell?_of_block e3).trans i2, (World.frozen?_of_block e2).trans i3, (World.frozen?_of_block e3).trans i4, (World.cell?_of_block e0).trans i5, (World.cell?_of_block e1).trans i6, (World.frozen?_of_block e0).trans i7, (World.frozen?_of_block e1).trans i8⟩, i9⟩
    · obtain ⟨hc, k, ⟨i1, i2⟩, i3⟩ := hi
      exact ⟨hc, k, ⟨(World.cell?_of_block (hx bR0 (.inl rfl))).trans i1, (World.cell?_of_block (hx bR1 (.inr (.inl rfl)))).trans i2⟩, i3⟩
    · exact P5
    · exact P6
    · exact P7
    · exact P8
    · exact P1
    · exact P2
    · exact P3
    · exact P4
    · intro j hj
      have h0 := HI.out
      obtain rfl : j = 0 := by simpa using hj
      simp only [List.take_zero, List.sum_nil]; omega
    case round =>
      rintro l pre x W hpre htn hi K hK
      have HK := Lib.hid hK; clear hK
      clear hi
      gi_wp2_with fail
      refine HK.out _ _ (Below.refl _ _) ?_
      clear HK
      rintro W2 ht2 ⟨⟨i1, i2, i3, i4, i5, i6, i7, i8⟩, i9⟩ hs2 hcell
      have iW : W2.cell? ⟨bW, 0, none⟩ = some (iv work) := (World.cell?_of_block (ht2.same bW (by omega) (by rintro (h | h | h | h) <;> omega))).trans P0
      have lW : bW < W2.heap.size := lt_of_cell iW
      have lH : bH < W2.heap.size := lt_of_cell i1
      have lD : bD < W2.heap.size := lt_of_cell i2
      have l0 : bR0 < W2.heap.size := lt_of_cell i5
      have l1 : bR1 < W2.heap.size := lt_of_cell i6
      have HPR := Lib.hid hpre
      have hle : pre.length + 1 ≤ B.length := by have := hpre.length_le; simpa using this
      have htk : (B.take (pre.length + 1)).sum = pre.sum + x := by
        have e := prefix_take hpre
        rw [List.length_append, List.length_cons, List.length_nil] at e
        rw [e]; simp
      have HTK := Lib.hid htk
      have hx8 : 0 ≤ x ∧ x ≤ 8 := by
        have hm : x ∈ B := hpre.subset (by simp)
        have := HBM.out x hm; omega
      have hsb : 0 ≤ pre.sum ∧ pre.sum ≤ 1000 := by
        have h1 := sum_bd pre (fun y hy => by have := HBM.out y (hpre.subset (by simp [hy])); omega)
        have := HBL.out; omega
      have hl25 : pre.length ≤ 1000 := by have := HBL.out; omega
      obtain ⟨hx8, hx9⟩ := hx8; obtain ⟨hs8, hs9⟩ := hsb
      clear ht2 hs2 hcell hpre htn htk hsq
      have hsm : (pre ++ [x]).sum = pre.sum + x := by simp
      have hln : (pre ++ [x]).length = pre.length + 1 := by simp
      have HSM := Lib.hid hsm; have HLN := Lib.hid hln
      clear hsm hln
      obtain ⟨s, hs⟩ : ∃ s, s = pre.sum := ⟨_, rfl⟩
      obtain ⟨q, hq⟩ : ∃ q, q = pre.length := ⟨_, rfl⟩
      rw [← hs] at i2 hs8 hs9 HSM HTK
      rw [← hq] at i1 i9 hl25 hle HLN HTK
      clear hs hq
      have e1 : IntKind.i64.wrap (s + x) = s + x := IntWalk.i64_in _ ⟨by omega, by omega⟩
      by_cases hge : work ≤ s + x
      · gi_wp2_with fail
        refine ⟨(((turn_setAt (.inr (.inr (.inl rfl))) 0 _).trans (turn_setAt (.inr (.inr (.inr rfl))) 0 _)).trans (turn_setAt (.inl rfl) 0 _)).trans (turn_setAt (.inr (.inl rfl)) 0 _), rfl, q + 1, ⟨?_, ?_⟩, hle, by rw [HTK.out]; exact hge, fun j hj => i9 j (by omega)⟩
        · rw [cset_ne n01, cset_eq ((cset_ne n0D).trans ((cset_ne n0H).trans i5))]; go_num
        · exact cset_eq ((cset_ne n10).trans ((cset_ne n1D).trans ((cset_ne n1H).trans i6)))
      · gi_wp2_with fail
        refine ⟨(turn_setAt (.inr (.inr (.inl rfl))) 0 _).trans (turn_setAt (.inr (.inr (.inr rfl))) 0 _), ⟨?_, ?_, ?_, ?_, ?_, ?_, ?_, ?_⟩, fun j hj => ?_⟩
        · rw [HLN.out, cset_ne nHD, cset_eq i1]; go_num
        · rw [HSM.out]; exact cset_eq ((cset_ne nDH).trans i2)
        · rw [World.frozen?_setCell, World.frozen?_setCell]; exact i3
        · rw [World.frozen?_setCell, World.frozen?_setCell]; exact i4
        · exact (cset_ne n0D).trans ((cset_ne n0H).trans i5)
        · exact (cset_ne n1D).trans ((cset_ne n1H).trans i6)
        · rw [World.frozen?_setCell, World.frozen?_setCell]; exact i7
        · rw [World.frozen?_setCell, World.frozen?_setCell]; exact i8
        · rw [HLN.out] at hj
          by_cases e : j = q + 1
          · rw [e, HTK.out]; omega
          · exact i9 j (by omega)
    case done =>
      rintro W htn ⟨⟨i1, i2, i3, i4, i5, i6, i7, i8⟩, i9⟩ hK
      have HT := Lib.hid htn
      have HKD := Lib.hid hK
      have lH : bH < W.heap.size := lt_of_cell i1
      have lD : bD < W.heap.size := lt_of_cell i2
      have l0 : bR0 < W.heap.size := lt_of_cell i5
      have l1 : bR1 < W.heap.size := lt_of_cell i6
      have hbW : Below w.heap.size w W := HB4.out.trans (HT.out.below (B := w.heap.size) (fun j hj => by have := HLO.out; rcases hj with h | h | h | h <;> omega) hw4)
      have HBW := Lib.hid hbW
      have HKS := Lib.hid (show ((W.setCell ⟨bR0, 0, none⟩ (.int .i64 0)).setCell ⟨bR1, 0, none⟩ (.int .i64 7)).heap[w4.heap.size]? = some (.deferred (some [])) from (Below.heap_setCell _ _ _ _ (by show w4.heap.size ≠ bR1; omega)).trans ((Below.heap_setCell _ _ _ _ (by show w4.heap.size ≠ bR0; omega)).trans hK))
      have HRB := Lib.hid (show ∀ j, j ≤ B.length → (B.take j).sum < work from i9)
      clear htn hK hsq hbW
      gi_wp2_with fail
      refine ⟨by simp, .inl ⟨_, _, rfl, run_takeDeferred HKS.out, ?_⟩⟩
      refine ⟨_, results_two (x := iv 0) (y := iv 7) (fn := Try.f9) Try.results9 _ rfl rfl Try.underlying3 rfl Try.underlying41 rfl (put_cell HKS.out ((cset_ne n01).trans (cset_eq i5))) (put_cell HKS.out (cset_eq ((cset_ne n10).trans i6))), ?_⟩
      exact ⟨0, 7, rfl, .inr ⟨rfl, rfl, HRB.out⟩, put_below (bput (bput HBW.out HLO.out.1 _) HLO.out.2.1 _) hw4⟩
    case stop =>
      rintro c W htn ⟨rfl, k, ⟨i1, i2⟩, i3⟩ hK
      have HT := Lib.hid htn
      have HKD := Lib.hid hK
      have HBW := Lib.hid (show Below w.heap.size w W from HB4.out.trans (HT.out.below (B := w.heap.size) (fun j hj => by have := HLO.out; rcases hj with h | h | h | h <;> omega) hw4))
      clear htn hK hsq
      gi_wp2_with fail
      refine ⟨by simp, .inl ⟨_, _, rfl, run_takeDeferred HKD.out, ?_⟩⟩
      refine ⟨_, results_two (x := iv k) (y := iv 0) (fn := Try.f9) Try.results9 _ rfl rfl Try.underlying3 rfl Try.underlying41 rfl (put_cell HKD.out i1) (put_cell HKD.out i2), ?_⟩
      exact ⟨k, 0, rfl, .inl ⟨k, rfl, rfl, i3⟩, put_below HBW.out hw4⟩

theorem sum_bdk {K : Int} (hK : 0 ≤ K) : ∀ (l : List Int), (∀ x ∈ l, -K ≤ x ∧ x ≤ K) → -(K * (l.length : Int)) ≤ l.sum ∧ l.sum ≤ K * (l.length : Int)
  | [], _ => by simp
  | a :: l, h => by
    have h1 := h a (by simp)
    have h2 := sum_bdk hK l (fun x hx => h x (by simp [hx]))
    rw [List.sum_cons, List.length_cons]
    have : K * ((l.length + 1 : Nat) : Int) = K * (l.length : Int) + K := by rw [Int.natCast_add, Int.mul_add]; simp
    omega
theorem take_sum_succ {xs : List Int} {k : Nat} {x : Int} (h : xs[k]? = some x) : (xs.take (k + 1)).sum = (xs.take k).sum + x := by
  rw [List.take_add_one, h]; simp

end Go.Proofs.Ytghnkhpjblnabaa
