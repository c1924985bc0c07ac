/- All chances of a felt without measurings. -/
import Derived.Test.YtdhkgpfcanekkaaKg
import Derived.Test.YtdhkgpfcanekkaaQin
import Derived.Test.YtdhkgpfcanekkaaJd
import Derived.Laws.CopyRow
import Derived.Laws.CopyOwn
namespace Go.Proofs.Ytdhkgpfcanekkaa
open Go Go.RowKit Go.Shelf
attribute [local go_sem] Oper.semAt_some

set_option maxHeartbeats 800000 in
theorem gains_any (bf : Nat) (w : World) :
    Calls Try.prog 63 #[.pointer (some ⟨bf, 0, none⟩)] w fun e w' => e = .returned (.func (.func 72) #[] #[.pointer (some ⟨w.heap.size, 0, none⟩)]) ∧ w.alloc (.cells #[.pointer (some ⟨bf, 0, none⟩)] 112) = w' := by
  go_enter Try.func63, Try.ntmps63
  go_wp2_with fail
  go_ret
  exact ⟨rfl, rfl⟩
/-- The chance of a gain: the parts are as they are said to be at first. -/
def chOf (P : List Sp) (g : Int × Int) : Chc := ⟨g.1, g.2, (P.getD 0 (0, 0)).1, (P.getD 0 (0, 0)).2, (P.getD 1 (0, 0)).1, (P.getD 1 (0, 0)).2, (P.getD 2 (0, 0)).1, (P.getD 2 (0, 0)).2⟩
theorem run_copy_span {P : Program} (w : World) (dT sT ty elem : TypeId) (g o dLen dCap : Nat) (a : Addr) (sLen sCap : Nat) (cur : Array Value) (t : TypeId) (cs : List Value)
    (hu : P.underlying dT = some (.slice elem)) (hs : (P.info? elem).map (·.size) = some 2)
    (hg : w.heap[g]? = some (.cells cur t (0, 0))) (hn : cs.length = Nat.min sLen dLen * 2)
    (hsrc : ∀ j v, cs[j]? = some v → w.cell? (a.add j) = some v) (hfit : o + cs.length ≤ cur.size) (h1 : ∀ v ∈ cs, v.oneCell' = true) :
    (Builtin.copy_ #[dT, sT] ty #[.slice (some ⟨g, o, none⟩) dLen dCap, .slice (some a) sLen sCap]).run P w =
      .ok (goInt (Nat.min sLen dLen)) (w.setRow g (cur.toList.take o ++ cs ++ cur.toList.drop (o + cs.length)).toArray) := by
  have hl := run_loadCells_list (P := P) w a cs hsrc
  have hst := run_storeCells_at P g o t cs 0 cur w hg (by simpa using hfit) h1
  cases hq : P.info? elem with
  | none => simp [hq] at hs
  | some i =>
    have hi : i.size = 2 := by simpa [hq] using hs
    rw [hn] at hl
    simp [Builtin.copy_, run_underlying hu, Builtin.lenOf, Builtin.firstCells, sizeOf, typeInfo, hq, hi, hl, hst]
theorem flat_splitK {α : Type} {enc : α → List Value} {sz : Nat} (he : ∀ x, (enc x).length = sz) : ∀ (ys : List α) (k : Nat) (u : Value), (ys.flatMap enc)[k]? = some u → ∃ i x j, ys[i]? = some x ∧ (enc x)[j]? = some u ∧ k = i * sz + j
  | [], k, u, h => by simp at h
  | y :: ys, k, u, h => by
    rw [List.flatMap_cons] at h
    by_cases hk : k < sz
    · rw [List.getElem?_append_left (by rw [he]; exact hk)] at h
      exact ⟨0, y, k, rfl, h, by omega⟩
    · rw [List.getElem?_append_right (by rw [he]; omega), he] at h
      obtain ⟨i, x, j, h1, h2, h3⟩ := flat_splitK he ys _ u h
      exact ⟨i + 1, x, j, h1, h2, by rw [Nat.add_mul]; omega⟩

theorem newsK {w : World} {α : Type} {enc : α → List Value} {sz : Nat} {ad : Addr} {n c : Nat} {ys : List α} (he : ∀ x, (enc x).length = sz) (hy : SliceOf enc sz w (.slice (some ad) n c) ys) : n = ys.length ∧ ∀ j u, (ys.flatMap enc)[j]? = some u → w.cell? (ad.add j) = some u := by
  obtain ⟨a', c', hv, _, hc⟩ := hy
  simp only [Value.slice.injEq] at hv
  obtain ⟨rfl, rfl, rfl⟩ := hv
  refine ⟨rfl, fun k u hu => ?_⟩
  obtain ⟨i, x, j, h1, h2, rfl⟩ := flat_splitK he ys k u hu
  obtain ⟨b, off, hab, hj⟩ := hc i x h1
  simp only [Option.some.injEq] at hab
  subst hab
  have hadd : (⟨b, off, none⟩ : Addr).add (i * sz + j) = ⟨b, off + i * sz + j, none⟩ := by unfold Addr.add; split <;> simp_all [Nat.add_assoc]
  rw [hadd]; exact hj j u h2

theorem Owns.downK {α : Type} {enc : α → List Value} {sz e base base' : Nat} {w : World} {v : Value} {xs : List α} (h : Owns enc sz e base w v xs) (hb : base' ≤ base) : Owns enc sz e base' w v xs := by
  rcases h.2 with ⟨h0, h1⟩ | ⟨g, cap, cur, h1, h2, h3⟩
  · exact ⟨h.1, .inl ⟨h0, h1⟩⟩
  · exact ⟨h.1, .inr ⟨g, cap, cur, h1, Nat.le_trans hb h2, h3⟩⟩
/-- copy(d, s), the destination within a block. -/
theorem LI_copyS {P : Program} {F : Fence} {n : Nat} {ops : Array Oper} {rest : List Oper} {o : Oper} {a : Act} {w : World} {Q : Exit → Act → World → Prop} {t elem ct : TypeId} {g off dLen dCap : Nat} {ad : Addr} {sLen sCap : Nat} {cur : Array Value} {cs : List Value}
    (hg : o.guard = none) (d s : Operand) (hop : o.op = Op.call { callee := Callee.builtin Builtin.copy, args := #[d, s], argTypes := #[t, t] })
    (hd : a.eval d = .slice (some ⟨g, off, none⟩) dLen dCap) (hs : a.eval s = .slice (some ad) sLen sCap)
    (hu : P.underlying t = some (.slice elem)) (hsz : (P.info? elem).map (·.size) = some 2)
    (hr : w.heap[g]? = some (.cells cur ct (0, 0))) (hn : cs.length = Nat.min sLen dLen * 2)
    (hsrc : ∀ j v, cs[j]? = some v → w.cell? (ad.add j) = some v) (hfit : off + cs.length ≤ cur.size) (h1 : ∀ v ∈ cs, v.oneCell' = true)
    (hK : ∀ v w', w' = w.setRow g (cur.toList.take off ++ cs ++ cur.toList.drop (off + cs.length)).toArray → wpListIn F n P ops Q rest (a.put o.dst v) w') : wpListIn F n P ops Q (o :: rest) a w := by
  refine wpListIn_plain hg fun K hK' => ?_
  have hrun := run_copy_span (P := P) w t t o.type elem g off dLen dCap ad sLen sCap cur ct cs hu hsz hr hn hsrc hfit h1
  unfold Oper.wpIn
  refine ⟨?_, ?_⟩
  · simp [Oper.about, hop, resolve, Target.leads, Sem.run_pure]
  · rw [Oper.semAt_plain F _ _ (by rw [hop]; intro c hc'; cases hc')]
    simp [execOp, hop, resolve, invoke, builtin, hd, hs, hrun, Result.andThen]
    exact hK' _ _ (hK _ _ (by rw [List.append_assoc]))
theorem chRow {P : List Sp} {bf : Nat} {x : Int × Int} (hn : 1 ≤ P.length ∧ P.length ≤ 3) :
    ((#[.pointer (some ⟨bf, 0, none⟩), iv x.1, iv x.2, iv 0, iv 0, iv 0, iv 0, iv 0, iv 0] : Array Value).toList.take 3 ++ P.flatMap encS ++ (#[.pointer (some ⟨bf, 0, none⟩), iv x.1, iv x.2, iv 0, iv 0, iv 0, iv 0, iv 0, iv 0] : Array Value).toList.drop (3 + (P.flatMap encS).length)).toArray = (ccells bf (chOf P x)).toArray := by
  match P, hn with
  | [p], _ => rfl
  | [p, q], _ => rfl
  | [p, q, r], _ => rfl
theorem ccells_len (bf : Nat) (x : Chc) : (ccells bf x).length = 9 := rfl
theorem ccells_one (bf : Nat) (x : Chc) : ∀ u ∈ ccells bf x, u.oneCell' = true := by intro u hu; simp [ccells] at hu; rcases hu with rfl | rfl | rfl | rfl | rfl | rfl | rfl | rfl | rfl <;> rfl
theorem ccells_cell {w : World} {g bf : Nat} {x : Chc} {t : TypeId} (h : w.heap[g]? = some (.cells (ccells bf x).toArray t (0, 0))) : ∀ j u, (ccells bf x)[j]? = some u → w.cell? ⟨g, j, none⟩ = some u := by
  intro j u hu
  rw [cell_of_row _ _ _ _ _ _ h]
  simpa using hu
theorem infoCh : (Try.prog.info? 143).map (fun i => (i.zero, i.size, i.bytes)) = some (some (.agg #[.pointer none, .int .i64 0, .int .i64 0, .int .i64 0, .int .i64 0, .int .i64 0, .int .i64 0, .int .i64 0, .int .i64 0]), 9, 72) := by kernel_rfl
theorem builtC (bf : Nat) (s k : Int) : Try.prog.built 143 [(0, .pointer (some ⟨bf, 0, none⟩)), (1, .agg #[iv s, iv k])] = some #[.pointer (some ⟨bf, 0, none⟩), iv s, iv k, iv 0, iv 0, iv 0, iv 0, iv 0, iv 0] := by kernel_rfl
theorem gRow_len (s w0 : Int) : ∀ f j, (gRow s w0 j f).length = f
  | 0, _ => rfl
  | f + 1, j => by rw [gRow, List.length_cons, gRow_len s w0 f]
theorem gAll_len (s0 w0 : Int) (M : Nat) : ∀ f i, (gAll s0 w0 M i f).length = f * M
  | 0, _ => by simp [gAll]
  | f + 1, i => by rw [gAll, List.length_append, gRow_len, gAll_len s0 w0 M f, Nat.add_mul]; omega
theorem gainsL_len {n : Nat} {c : Fe} (hb : vBeat n c = true) : 1 ≤ (gainsL c).length ∧ (gainsL c).length ≤ 3000 := by
  simp only [vBeat, vGain, Bool.and_eq_true, vSpan, inB_iff] at hb
  obtain ⟨⟨⟨⟨⟨b1, b2⟩, b3, b4⟩, b5, b6⟩, ⟨⟨b7, b8⟩, b9, b10⟩, b11, b12⟩, -⟩ := hb
  unfold gainsL
  rw [gAll_len]
  have h1 : (c.sh + 1 - c.sl).toNat ≤ 51 := by omega
  have h2 : (c.wh + 1 - c.wl).toNat ≤ 51 := by omega
  have h3 : 1 ≤ (c.sh + 1 - c.sl).toNat := by omega
  have h4 : 1 ≤ (c.wh + 1 - c.wl).toNat := by omega
  have h5 := Nat.mul_le_mul h1 h2
  have h6 := Nat.mul_le_mul h3 h4
  omega
set_option maxRecDepth 20000 in
set_option maxHeartbeats 6400000 in
theorem chances_any (P : List Sp) (c : Fe) (pa ma : Option Addr) (pc mc bf : Nat) (w : World) (hn : 1 ≤ P.length ∧ P.length ≤ 3) (hb : vBeat P.length c = true) (hp : SliceOf encS 2 w (.slice pa P.length pc) P)
    (hf : w.heap[bf]? = some (.cells (frow c (.slice pa P.length pc) (.slice ma 0 mc) P.length 36) 135 (0, 0))) :
    Calls Try.prog 46 #[.pointer (some ⟨bf, 0, none⟩)] w fun e w' => ∃ v, e = .returned v ∧ Owns (ccells bf) 9 143 w.heap.size w' v ((gainsL c).map (chOf P)) ∧ Below w.heap.size w w' := by
  obtain ⟨i0, hi, hz0, hz1, hz2⟩ := info_parts infoCh
  have HI := Lib.hid hi; have HZ0 := Lib.hid hz0; have HZ1 := Lib.hid hz1; have HZ2 := Lib.hid hz2
  have hbl : bf < w.heap.size := (Array.getElem?_eq_some_iff.1 hf).1
  have HGL := Lib.hid (gainsL_len hb)
  have HGS := Lib.hid (fun (S : Nat → Prop) (bx : Nat) (hSf : S bf) (w0 : World) hS hf' hxx => gains_seq S bx bf hSf c (.slice pa P.length pc) (.slice ma 0 mc) P.length hb w0 hS hf' hxx)
  have HP := Lib.hid hp; have HF := Lib.hid hf; have HN := Lib.hid hn
  clear hi hz0 hz1 hz2 hp hf hn hb
  refine (callsIn_wide (n := 3)).1 ?_
  obtain ⟨Wa, hWa⟩ : ∃ Wa : World, ((w.alloc (.cells #[.pointer (some ⟨bf, 0, none⟩)] 112)).alloc (.cells #[.slice none 0 0] 95)) = Wa := ⟨_, rfl⟩
  have hBa : Below w.heap.size w Wa := by rw [← hWa]; exact bpush (bpush (Below.refl _ _) _) _
  have hza : Wa.heap.size = w.heap.size + 2 := by rw [← hWa]; simp
  have hr0 : Wa.heap[w.heap.size]? = some (.cells #[.pointer (some ⟨bf, 0, none⟩)] 112 (0, 0)) := by rw [← hWa, Below.heap_alloc _ _ _ (by simp)]; exact heap_new _ _ _
  have hr1 : Wa.heap[w.heap.size + 1]? = some (.cells #[.slice none 0 0] 95 (0, 0)) := by
    rw [← hWa]
    have := heap_new (w.alloc (.cells #[.pointer (some ⟨bf, 0, none⟩)] 112)) #[.slice none 0 0] 95
    rwa [World.size_alloc] at this
  have c0 : Wa.cell? ⟨w.heap.size, 0, none⟩ = some (.pointer (some ⟨bf, 0, none⟩)) := by rw [cell_of_row _ _ _ _ _ _ hr0]; rfl
  have HBa := Lib.hid hBa; have HZa := Lib.hid hza; have HR0 := Lib.hid hr0; have HR1 := Lib.hid hr1
  clear hBa hza hr0 hr1
  refine callsIn_of_wp_marks Try.func46 rfl trivial ?_ rfl
  simp only [Try.ntmps46, List.size_toArray, List.length_cons, List.length_nil, Nat.reduceAdd, Nat.reduceSub, Array.replicate_succ, Array.replicate_zero, List.push_toArray, List.append_toArray, List.nil_append, List.cons_append]
  refine wpIn_wide.2 ?_
  go_wp2_with fail
  go_step3
  go_wp2_with fail
  go_step3
  go_wp2_with fail
  refine (gains_any _ _).mono ?_
  rintro e w' ⟨rfl, hw'⟩
  obtain ⟨W0, hW0⟩ : ∃ W0 : World, W0 = w' := ⟨_, rfl⟩
  subst hW0
  have hb0 : Below Wa.heap.size Wa W0 := by rw [← hw']; exact bpush (Below.refl _ _) _
  have hz0 : W0.heap.size = w.heap.size + 3 := by rw [← hw']; simp [HZa.out]
  have hB0 : Below w.heap.size w W0 := bstep HBa.out hb0
  have hx0 : W0.heap[w.heap.size + 2]? = some (.cells #[.pointer (some ⟨bf, 0, none⟩)] 112 (0, 0)) := by rw [← hw', ← HZa.out]; exact heap_new _ _ _
  have hq0 := (hb0.block w.heap.size (by have := HZa.out; omega)).trans HR0.out
  have hq1 := (hb0.block (w.heap.size + 1) (by have := HZa.out; omega)).trans HR1.out
  have HB0 := Lib.hid hB0; have HZ0' := Lib.hid hz0; have HX0 := Lib.hid hx0; have HQ0 := Lib.hid hq0; have HQ1 := Lib.hid hq1
  have hza := HZa.out
  clear hb0 hz0 hB0 hx0 hq0 hq1 hw' hWa HR0 HR1 HBa c0
  go_wp2_with fail
  refine (wpIn_wide (n := 3)).1 ?_
  have hz0 := HZ0'.out
  have HSQ := Lib.hid (HGS.out (fun j => j < w.heap.size + 1 ∨ j = w.heap.size + 2) (w.heap.size + 2) (.inl (by omega)) W0 (fun j hj => by omega) ((HB0.out.block bf hbl).trans HF.out) (fun W hW => by rw [cell_of_row _ _ _ _ _ _ ((hW.block _ (.inr rfl)).trans HX0.out)]; rfl))
  refine rangeL (gf := 72) (lb := #[.pointer (some ⟨w.heap.size + 2, 0, none⟩)]) rfl (enters_of Try.func72 (by kernel_rfl) rfl) HSQ.out (fun _ => rfl) (fun j hj => by omega)
    (fun T pre W => QInv (ccells bf) 9 143 w.heap.size (w.heap.size + 1) W0 w T (pre.map (chOf P)) W) (fun _ _ _ => False)
    (fun s => QInv.stable (Nat.le_succ _) (by omega) _) (fun c => ⟨fun _ _ _ h _ => h, fun _ _ _ _ _ h _ => h⟩) ⟨HB0.out, fun _ _ _ => rfl, frozen_of_row _ _ _ _ _ HQ1.out, .slice none 0 0, by rw [cell_of_row _ _ _ _ _ _ HQ1.out]; rfl, Owns.nil _ _ _ _ _, fun g hg => by cases hg⟩ ?round ?done ?stop
  case stop =>
    rintro T c W _ _ _ hf _
    exact hf.elim
  case done =>
    rintro T W hTD hTl hsz hi hK
    obtain ⟨a1, -, a3, v, a5, a6, a7⟩ := hi
    have HA1 := Lib.hid a1; have HA6 := Lib.hid a6; have HA7 := Lib.hid a7; have HKD := Lib.hid hK
    obtain ⟨va, vc, rfl⟩ := a6.len
    clear a1 a6 a7 hK
    go_wp2_with fail
    rw [Exit.noGoto_ret]
    refine ⟨by simp, .inl ⟨_, _, rfl, run_takeDeferred HKD.out, ?_⟩⟩
    refine ⟨_, results_tmp rfl _ _ _, _, rfl, ?_, put_below HA1.out (by omega)⟩
    have hO := HA6.out.turn (Turn.putObj (T := fun k => k = W0.heap.size) (.deferred none) rfl) (fun g hg e => HA7.out g hg (e ▸ hTD))
    rw [List.length_map] at hO
    exact Owns.downK (base := W0.heap.size) hO (by omega)
  case round =>
    rintro l T pre x W hTl hTs hsz hpre hi K hK
    have HK := Lib.hid hK; clear hK
    have HQI := Lib.hid hi; clear hi
    have HTS := Lib.hid hTs; have HTL := Lib.hid hTl
    have hlp : pre.length + 1 ≤ 3000 := by have := hpre.length_le; have := HGL.out.2; simp at *; omega
    clear hpre hTs hTl
    unfold encG
    gi_wp2_with fail
    have HLS : Hid (∀ k, both (fun j => j < w.heap.size + 1 ∨ j = w.heap.size + 2) T k → k < W.heap.size) := by
      rintro k (h | h)
      · omega
      · exact HTS.out k h
    refine HK.out _ _ ((SameOn.refl _ _).alloc HLS.out _) ?_
    clear HK
    intro W2 hb2
    have hz2 : W2.heap.size = W.heap.size + 1 := by have := hb2.size; simpa using this
    have hg2 := hb2.cells W.heap.size _ (heap_new W _ _) rfl
    have HQ2 := Lib.hid ((QInv.stable (b := w.heap.size + 1) (wl := W0) (Nat.le_succ _) (by omega) _).turn T W W2 HTL.out hsz HQI.out (((Turn.refl _ W).alloc _).trans hb2.turn))
    have HTS2 : Hid (∀ k, T k → k < W2.heap.size) := fun k hk => by have := HTS.out k hk; omega
    have hlow := HQ2.out.low
    have c0 : W2.cell? ⟨w.heap.size, 0, none⟩ = some (.pointer (some ⟨bf, 0, none⟩)) := by rw [cell_of_row _ _ _ _ _ _ ((hlow w.heap.size (by omega) (by omega)).trans HQ0.out)]; rfl
    have c1 : W2.cell? ⟨W.heap.size, 0, none⟩ = some (iv x.1) := by rw [cell_of_row _ _ _ _ _ _ hg2]; rfl
    have c2 : W2.cell? ⟨W.heap.size, 1, none⟩ = some (iv x.2) := by rw [cell_of_row _ _ _ _ _ _ hg2]; rfl
    have hfr := (hlow bf (by omega) (by omega)).trans ((HB0.out.block bf hbl).trans HF.out)
    have HFR := Lib.hid hfr
    have hbc := builtC bf x.1 x.2
    have hpl : SliceOf encS 2 W2 (.slice pa P.length pc) P := SliceOf.heapEq (w := w) HP.out (fun j hj => (hlow j (by omega) (by omega)).trans (HB0.out.block j hj))
    clear hb2 hg2 hlow hfr
    gi_wp2_with fail
    obtain ⟨W3, hW3⟩ : ∃ W3 : World, W2.alloc (.cells #[.pointer (some ⟨bf, 0, none⟩), iv x.1, iv x.2, iv 0, iv 0, iv 0, iv 0, iv 0, iv 0] 143) = W3 := ⟨_, rfl⟩
    rw [hW3]
    have hb3 : Below W2.heap.size W2 W3 := by rw [← hW3]; exact bpush (Below.refl _ _) _
    have hz3 : W3.heap.size = W2.heap.size + 1 := by rw [← hW3]; simp
    have hr3 : W3.heap[W2.heap.size]? = some (.cells #[.pointer (some ⟨bf, 0, none⟩), iv x.1, iv x.2, iv 0, iv 0, iv 0, iv 0, iv 0, iv 0] 143 (0, 0)) := by rw [← hW3]; exact heap_new _ _ _
    have hp3 := hpl.below hb3
    have c0 := kcell hb3 c0
    have cf : W3.cell? ⟨bf, 0, none⟩ = some (.slice pa P.length pc) := by
      rw [cell_of_row _ _ _ _ _ _ ((hb3.block bf (by omega)).trans HFR.out)]; exact frow_head _ _ _ _ _ 0 rfl
    have cm : W3.cell? ⟨bf, 9, none⟩ = some (.slice ma 0 mc) := by
      rw [cell_of_row _ _ _ _ _ _ ((hb3.block bf (by omega)).trans HFR.out)]; exact frow_head _ _ _ _ _ 9 rfl
    rw [hz2] at hr3
    have HQ3 := Lib.hid ((QInv.stable (b := w.heap.size + 1) (wl := W0) (Nat.le_succ _) (by omega) _).turn T W2 W3 HTL.out (by omega) HQ2.out (Turn.of_below hb3))
    have HLS2 : Hid (∀ k, both (fun j => j < w.heap.size + 1 ∨ j = w.heap.size + 2) T k → k < W2.heap.size) := fun k hk => by have := HLS.out k hk; omega
    have HS3 := Lib.hid (SameOn.of_below hb3 HLS2.out)
    have HR3 := Lib.hid hr3; have HP3 := Lib.hid hp3; have HZ3 := Lib.hid hz3
    have hdr : W3.drew.heap[W.heap.size + 1]? = W3.heap[W.heap.size + 1]? := rfl
    obtain ⟨ad, rfl⟩ : ∃ ad, pa = some ad := by
      obtain ⟨p0, hp0⟩ := getElem?_of_lt (show 0 < P.length by have := HN.out; omega)
      obtain ⟨a', c', hv, -, hcs⟩ := hp3
      obtain ⟨b', o', ha, -⟩ := hcs 0 p0 hp0
      simp only [Value.slice.injEq] at hv
      exact ⟨_, hv.1.trans ha⟩
    obtain ⟨hcl, hnews⟩ := newsK encS_len hp3
    have HNW := Lib.hid (And.intro hcl hnews)
    have HB3 := Lib.hid hb3
    clear hb3 hr3 hp3 hpl hW3 c1 c2 hbc hdr hcl hnews
    refine wpIn_round_head 7 (by simp) (by kernel_rfl) (by kernel_rfl) (by kernel_rfl) (by kernel_rfl) fun R hpan hR => ?_
    simp only [List.take_succ_cons, List.take_zero, List.drop_succ_cons, List.drop_zero] at hR ⊢
    refine wpAny_take (i := 0) (v := ?_) rfl (by kernel_rfl) (by kernel_rfl) (by kernel_rfl) (fun _ _ _ h => absurd h (hpan _ _ _)) (Or.inl ⟨by rfl, ?_⟩) ?_
    rotate_left
    · intro w; go_simp
      with_reducible rfl
    refine wpAny_take (i := 1) (v := ?_) rfl (by kernel_rfl) (by kernel_rfl) (by kernel_rfl) (fun _ _ _ h => absurd h (hpan _ _ _)) (Or.inl ⟨by rfl, ?_⟩) ?_
    rotate_left
    · intro w; go_simp
      with_reducible rfl
    simp only [Act.put, List.setIfInBounds_toArray]
    refine wpAny_ready (rs := [2]) (by kernel_rfl) (by simp) ?_
    refine AllReady.cons rfl (fun K hK => ?_) AllReady.nil
    (go_simp; refine hK _ _ ?_; clear hK K)
    refine wpAny_ready (rs := [3]) (by kernel_rfl) (by simp) ?_
    refine AllReady.cons rfl (fun K hK => ?_) AllReady.nil
    (go_simp; refine hK _ _ ?_; clear hK K)
    refine wpAny_ready (rs := [4]) (by kernel_rfl) (by simp) ?_
    refine AllReady.cons rfl (fun K hK => ?_) AllReady.nil
    (go_simp; refine hK _ _ ?_; clear hK K)
    refine wpAny_ready (rs := [5]) (by kernel_rfl) (by simp) ?_
    refine AllReady.cons rfl (fun K hK => ?_) AllReady.nil
    (go_simp; refine hK _ _ ?_; clear hK K)
    refine wpAny_ready (rs := [6]) (by kernel_rfl) (by simp) ?_
    refine AllReady.cons rfl (fun K hK => ?_) AllReady.nil
    (go_simp; refine hK _ _ ?_; clear hK K)
    refine wpAny_done (by kernel_rfl) (hR _ _ ?_) _
    clear hR hpan
    refine LI_copyS (off := 3) (cs := P.flatMap encS) rfl _ _ rfl rfl rfl Try.underlying26 (by kernel_rfl) (show W3.drew.heap[W.heap.size + 1]? = _ from HR3.out) ?_ (fun j v hv => HNW.out.2 j v hv) ?_ ?_ ?_
    · rw [flatMap_len encS_len]; have := HN.out; rw [show Nat.min P.length 3 = P.length from Nat.min_eq_left (by omega)]
    · rw [flatMap_len encS_len]; have := HN.out; simp; omega
    · intro v hv
      obtain ⟨p, -, hp⟩ := List.mem_flatMap.1 hv
      exact encS_one p v hp
    intro v4 W4 hW4
    rw [chRow HN.out] at hW4
    have hr4 : W4.heap[W.heap.size + 1]? = some (.cells (ccells bf (chOf P x)).toArray 143 (0, 0)) := by rw [hW4]; exact setRow_heap W3.drew _ _ _ _ _ HR3.out
    have hb4 : Below W2.heap.size W2 W4 := by rw [hW4]; exact below_setRow HB3.out.drew (by omega) _
    have hz4 : W4.heap.size = W3.heap.size := by rw [hW4]; rw [size_setRow]; rfl
    have c0 : W4.cell? ⟨w.heap.size, 0, none⟩ = some (.pointer (some ⟨bf, 0, none⟩)) := by rw [hW4, cell_setRow_other _ _ _ _ (by simp; omega)]; exact c0
    have cm : W4.cell? ⟨bf, 9, none⟩ = some (.slice ma 0 mc) := by rw [hW4, cell_setRow_other _ _ _ _ (by simp; omega)]; exact cm
    clear hW4 cf
    gi_wp2_with fail
    refine ⟨rfl, ?_⟩
    gi_wp2_with fail
    gi_loopw [29] (fun i wr => i = iv 0 ∧ wr = W4) (fun _ _ => 0)
    case atStart => exact ⟨rfl, rfl⟩
    case round =>
      obtain ⟨rfl, hwr⟩ := hrel
      rw [hwr]
      clear hwr wr
      have HQ4 := Lib.hid ((QInv.stable (b := w.heap.size + 1) (wl := W0) (Nat.le_succ _) (by omega) _).turn T W2 W4 HTL.out (by omega) HQ2.out (Turn.of_below hb4))
      have HS4 := Lib.hid (SameOn.of_below hb4 HLS2.out)
      have HTS4 : Hid (∀ k, T k → k < W4.heap.size) := fun k hk => by have := HTS.out k hk; have := HZ3.out; omega
      obtain ⟨-, -, q3, v, q5, o2, n7⟩ := HQ4.out
      have HO2 := Lib.hid o2; have HA7 := Lib.hid n7
      have hz3 := HZ3.out
      have hbb2 : Hid ((pre.map (chOf P)).length + 1 ≤ maxLen ∧ ((pre.map (chOf P)).length + 1) * 72 ≤ 140737488355328) := by rw [List.length_map]; simp [Hid]; unfold maxLen; omega
      have HQ5 := Lib.hid q5; have HQ3 := Lib.hid q3
      have l0 : w.heap.size + 1 < W4.heap.size := lt_of_cell q5
      have r0 : W4.cell? ⟨W.heap.size + 1, 0, none⟩ = some (.pointer (some ⟨bf, 0, none⟩)) := by rw [cell_of_row _ _ _ _ _ _ hr4]; rfl
      have r1 : W4.cell? ⟨W.heap.size + 1, 1, none⟩ = some (iv (chOf P x).s) := by rw [cell_of_row _ _ _ _ _ _ hr4]; rfl
      have r2 : W4.cell? ⟨W.heap.size + 1, 2, none⟩ = some (iv (chOf P x).k) := by rw [cell_of_row _ _ _ _ _ _ hr4]; rfl
      have r3 : W4.cell? ⟨W.heap.size + 1, 3, none⟩ = some (iv (chOf P x).l0) := by rw [cell_of_row _ _ _ _ _ _ hr4]; rfl
      have r4 : W4.cell? ⟨W.heap.size + 1, 4, none⟩ = some (iv (chOf P x).h0) := by rw [cell_of_row _ _ _ _ _ _ hr4]; rfl
      have r5 : W4.cell? ⟨W.heap.size + 1, 5, none⟩ = some (iv (chOf P x).l1) := by rw [cell_of_row _ _ _ _ _ _ hr4]; rfl
      have r6 : W4.cell? ⟨W.heap.size + 1, 6, none⟩ = some (iv (chOf P x).h1) := by rw [cell_of_row _ _ _ _ _ _ hr4]; rfl
      have r7 : W4.cell? ⟨W.heap.size + 1, 7, none⟩ = some (iv (chOf P x).l2) := by rw [cell_of_row _ _ _ _ _ _ hr4]; rfl
      have r8 : W4.cell? ⟨W.heap.size + 1, 8, none⟩ = some (iv (chOf P x).h2) := by rw [cell_of_row _ _ _ _ _ _ hr4]; rfl
      have HB3' : Hid (W0.heap.size ≤ (W4.alloc (.cells (ccells bf (chOf P x)).toArray 143)).heap.size) := by simp [Hid]; omega
      have hcr := heap_new W4 (ccells bf (chOf P x)).toArray 143
      have HCR := Lib.hid hcr
      have HW04 : Hid (W0.heap.size ≤ W4.heap.size) := by show W0.heap.size ≤ W4.heap.size; omega
      clear o2 n7 hr4 hcr c0 cm hb4 hz4
      have HPS : Hid ((pre ++ [x]).map (chOf P) = pre.map (chOf P) ++ [chOf P x]) := by simp [Hid]
      generalize hy : chOf P x = y at *
      simp only [ccells] at HCR HB3'
      gi_wp2_with (gi_at_builtin; refine LI_appendB y rfl _ _ 95 rfl Try.underlying95 HI.out HZ0.out HZ1.out HZ2.out rfl (Nat.succ_pos _) (ccells_len bf) (ccells_one bf _) rfl rfl (Owns.kept HO2.out (bpush (Below.refl _ _) _)) (ccells_cell HCR.out) hbb2.out HB3'.out ?_; go_simp; intro v' w3 hown3 hg3 hob3; obtain ⟨a', c', rfl⟩ := hown3.len; have hkb := grown_keep hg3 l0 (fun g hg => Nat.le_trans (show w.heap.size + 1 + 1 ≤ W0.heap.size by omega) (World.ownsRow.lt HO2.out g hg).1); have q6 : w3.cell? ⟨w.heap.size + 1, 0, none⟩ = some v := (World.cell?_of_block hkb).trans HQ5.out; have q7 : w3.frozen? ⟨w.heap.size + 1, 0, none⟩ = false := (World.frozen?_of_block hkb).trans HQ3.out)
      have hnx := QInv.next (b := w.heap.size + 1) (Nat.le_succ _) (show w.heap.size + 1 < W0.heap.size by omega) HW04.out HTL.out HTS4.out HQ4.out HQ5.out HO2.out HA7.out (y := y) (by rw [hz0]; exact hown3) hg3 (by rw [World.size_alloc]; exact hob3)
      rw [show (pre.map (chOf P) ++ [y]).length = pre.length + 1 by simp] at hnx
      refine ⟨HS4.out.trans (hnx.2 (fun j => j < w.heap.size + 1 ∨ j = w.heap.size + 2) (fun k hk => by omega)), ?_⟩
      have h1 := hnx.1
      rw [← HPS.out] at h1
      exact h1
end Go.Proofs.Ytdhkgpfcanekkaa
