/- Lists that a range over a function gathers: AppendSeq, Collect. -/
import Derived.Test.YteoejhldmeompaaQin
namespace Go.Proofs.Yteoejhldmeompaa
open Go Go.RowKit Go.Shelf
attribute [local go_sem] Oper.semAt_some

theorem Owns.downC {α : Type} {enc : α → List Value} {sz e base base' : Nat} {w : World} {v : Value} {xs : List α} (h : Owns enc sz e base w v xs) (hb : base' ≤ base) : Owns enc sz e base' w v xs := by
  rcases h.2 with ⟨h0, h1⟩ | ⟨g, cap, cur, h1, h2, h3⟩
  · exact ⟨h.1, .inl ⟨h0, h1⟩⟩
  · exact ⟨h.1, .inr ⟨g, cap, cur, h1, Nat.le_trans hb h2, h3⟩⟩
theorem SeqL.laterC {α : Type} {P : Program} {gf : Nat} {lb : Array Value} {enc : α → Array Value} {S : Nat → Prop} {xs : List α} {w w' : World} (h : SeqL P gf lb enc S xs w) (hs : SameOn S w w') : SeqL P gf lb enc S xs w' :=
  fun n l J Jx W hW => h n l J Jx W (hs.trans hW)

set_option maxRecDepth 20000 in
set_option maxHeartbeats 3200000 in
theorem appendSeq_any (gf : FuncId) (lb : Array Value) (S : Nat → Prop) (xs : List Int) (w : World) (eg : ∀ args w, (callFunc gf args).run Try.prog w = .ok (.enter gf args) w)
    (hseq : SeqL Try.prog gf lb (fun (x : Int) => #[iv x]) S xs w) (hS : ∀ k, S k → k < w.heap.size) (hlen : xs.length ≤ 1000000) :
    Calls Try.prog 38 #[.slice none 0 0, .func (.func gf) #[] lb] w fun e w' => ∃ v, e = .returned v ∧ Owns encI 1 3 w.heap.size w' v xs ∧ Below w.heap.size w w' := by
  have HQ := Lib.hid hseq; clear hseq
  have HEG := Lib.hid eg; clear eg
  obtain ⟨i0, hi, hz0, hz1, hz2⟩ := info_parts info3
  have HI := Lib.hid hi; have HZ0 := Lib.hid hz0; have HZ1 := Lib.hid hz1; have HZ2 := Lib.hid hz2
  clear hi hz0 hz1 hz2
  refine (callsIn_wide (n := 3)).1 ?_
  refine callsIn_of_wp_marks Try.func38 rfl trivial ?_ rfl
  simp only [Try.ntmps38, List.size_toArray, List.length_cons, List.length_nil, Nat.reduceAdd, Nat.reduceSub, Array.replicate_succ, Array.replicate_zero, List.push_toArray, List.append_toArray, List.nil_append, List.cons_append]
  gi_wp2_with fail
  have hB0 : Below w.heap.size w (w.alloc (.cells #[.slice none 0 0] 48)) := (by repeat (first | exact Below.refl _ _ | refine Below.drew ?_ | refine bpush ?_ _ | refine bput ?_ (by simp) _ | (refine bstep ?_ (by assumption))))
  have hg0 : (w.alloc (.cells #[.slice none 0 0] 48)).heap[w.heap.size]? = some (.cells #[.slice none 0 0] 48 (0, 0)) := heap_new _ _ _
  have hsz0 : (w.alloc (.cells #[.slice none 0 0] 48)).heap.size = w.heap.size + 1 := by simp
  generalize (w.alloc (.cells #[.slice none 0 0] 48)) = W0 at *
  have HB0 := Lib.hid hB0; clear hB0
  have HZZ := Lib.hid hsz0; clear hsz0
  have HG0 := Lib.hid hg0; clear hg0
  have hz0 := HZZ.out
  have HS := Lib.hid hS; clear hS
  refine rangeL (gf := gf) (lb := lb) rfl HEG.out (SeqL.laterC HQ.out (SameOn.of_below HB0.out HS.out)) (fun _ => rfl) (fun k hk => by have := HS.out k hk; omega)
    (fun T pre W => QInv encI 1 3 w.heap.size w.heap.size W0 w T pre W) (fun _ _ _ => False)
    (fun s => QInv.stable (Nat.le_refl _) (by omega) s) (fun c => ⟨fun _ _ _ h _ => h, fun _ _ _ _ _ h _ => h⟩) ⟨HB0.out, fun _ _ _ => rfl, ?_, .slice none 0 0, ?_, Owns.nil _ _ _ _ _, fun g hg => by cases hg⟩ ?round ?done ?stop
  · unfold World.frozen?; rw [HG0.out]; rfl
  · rw [cell_of_row _ _ _ _ _ _ HG0.out]; rfl
  case stop =>
    rintro T c W _ _ _ hf _
    exact hf.elim
  case done =>
    rintro T W hTD hTl hsz hi hK
    obtain ⟨a1, -, a3, v, a5, a6, a7⟩ := hi
    have HA1 := Lib.hid a1; have HA6 := Lib.hid a6; have HA7 := Lib.hid a7; have HKD := Lib.hid hK
    clear a1 a6 a7 hK
    gi_wp2_with fail
    refine ⟨by simp, .inl ⟨_, _, rfl, run_takeDeferred HKD.out, ?_⟩⟩
    refine ⟨_, results_tmp rfl _ _ _, v, rfl, ?_, put_below HA1.out (by omega)⟩
    exact Owns.downC (HA6.out.turn (Turn.putObj (T := fun k => k = W0.heap.size) _ rfl) (fun g hg e => HA7.out g hg (e ▸ hTD))) (by omega)
  case round =>
    rintro l T pre x W hTl hTs hsz hpre hi K hK
    have HK := Lib.hid hK; clear hK
    have HQI := Lib.hid hi; clear hi
    have HTS := Lib.hid hTs; have HTL := Lib.hid hTl
    have hlp : pre.length + 1 ≤ 1000000 := by have := hpre.length_le; simp at this; omega
    clear hpre hTs hTl
    gi_wp2_with fail
    refine HK.out _ _ (SameOn.refl _ _) ?_
    clear HK
    intro W2 hb2
    have hz2 : W2.heap.size = W.heap.size := hb2.size
    have HQ2 := Lib.hid (HQI.out.bump (Nat.le_refl _) (show w.heap.size < W0.heap.size by omega) hsz HTL.out hb2.turn)
    have HTS2 : Hid (∀ k, T k → k < W2.heap.size) := fun k hk => by have := HTS.out k hk; omega
    obtain ⟨-, -, q3, v, q5, o2, n7⟩ := HQ2.out
    have HO2 := Lib.hid o2; have HA7 := Lib.hid n7
    clear hb2 o2 n7
    have hbb2 : Hid (pre.length + 1 ≤ maxLen ∧ (pre.length + 1) * 8 ≤ 140737488355328) := by simp [Hid]; unfold maxLen; omega
    have HQ5 := Lib.hid q5; have HQ3 := Lib.hid q3
    have l0 : w.heap.size < W2.heap.size := lt_of_cell q5
    have HB3 : Hid (W0.heap.size ≤ (W2.alloc (.cells #[iv x] 3)).heap.size) := by simp [Hid]; omega
    gi_wp2_with (gi_at_builtin; refine LI_appendB x rfl _ _ 48 rfl Try.underlying48 HI.out HZ0.out HZ1.out HZ2.out rfl Nat.one_pos encI_len (encI_one _) rfl rfl (Owns.kept HO2.out (bpush (Below.refl _ _) _)) (encI_cell ?_) hbb2.out HB3.out ?_; go_simp; intro v' w3 hown3 hg3 hob3; obtain ⟨a', c', rfl⟩ := hown3.len; have hkb := grown_keep hg3 l0 (fun g hg => Nat.le_trans (show w.heap.size + 1 ≤ W0.heap.size by omega) (World.ownsRow.lt HO2.out g hg).1); have q6 : w3.cell? ⟨w.heap.size, 0, none⟩ = some v := (World.cell?_of_block hkb).trans HQ5.out; have q7 : w3.frozen? ⟨w.heap.size, 0, none⟩ = false := (World.frozen?_of_block hkb).trans HQ3.out)
    have hnx := QInv.next (Nat.le_refl _) (show w.heap.size < W0.heap.size by omega) (show W0.heap.size ≤ W2.heap.size by omega) HTL.out HTS2.out HQ2.out HQ5.out HO2.out HA7.out hown3 hg3 hob3
    rw [show (pre ++ [x]).length = pre.length + 1 by simp] at hnx
    exact ⟨hnx.2 S (fun k hk => by have := HS.out k hk; omega), hnx.1⟩

set_option maxRecDepth 20000 in
set_option maxHeartbeats 1600000 in
theorem collect_any (gf : FuncId) (lb : Array Value) (S : Nat → Prop) (xs : List Int) (w : World) (eg : ∀ args w, (callFunc gf args).run Try.prog w = .ok (.enter gf args) w)
    (hseq : SeqL Try.prog gf lb (fun (x : Int) => #[iv x]) S xs w) (hS : ∀ k, S k → k < w.heap.size) (hlen : xs.length ≤ 1000000) :
    Calls Try.prog 23 #[.func (.func gf) #[] lb] w fun e w' => ∃ v, e = .returned v ∧ Owns encI 1 3 w.heap.size w' v xs ∧ Below w.heap.size w w' := by
  have HA := Lib.hid (appendSeq_any gf lb S xs w eg hseq hS hlen)
  clear hseq eg hS
  go_enter Try.func23, Try.ntmps23
  go_wp2_with fail
  refine HA.out.mono ?_
  rintro e w1 ⟨v, rfl, ho, hb⟩
  have HO := Lib.hid ho; have HB := Lib.hid hb
  clear ho hb
  go_wp2_with fail
  go_ret
  exact ⟨v, rfl, HO.out, HB.out⟩
end Go.Proofs.Yteoejhldmeompaa
