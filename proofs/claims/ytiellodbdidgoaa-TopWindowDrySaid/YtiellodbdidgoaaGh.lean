/- A yard is made. -/
import Derived.Test.YtiellodbdidgoaaGg
namespace Go.Proofs.Ytiellodbdidgoaa
open Go Go.RowKit Go.Shelf
attribute [local go_sem ↓] Go.wp_at_zero Go.wp_at_succ

def encV1 (v : Option Nat) : List Value := [.map v]
theorem encV1_len (v : Option Nat) : (encV1 v).length = 1 := rfl
theorem encV1_cell {W : World} {g : Nat} {v : Option Nat} (h : W.cell? ⟨g, 0, none⟩ = some (.map v)) : ∀ j u, (encV1 v)[j]? = some u → W.cell? ⟨g, j, none⟩ = some u := by
  intro j u hu
  rcases j with _ | j
  · simp only [encV1, List.getElem?_cons_zero, Option.some.injEq] at hu
    rw [← hu]; exact h
  · simp [encV1] at hu
theorem owns_addrG {α : Type} {enc : α → List Value} {sz e base : Nat} {w : World} {v : Value} {xs : List α} (h : Owns enc sz e base w v xs) (hne : 0 < xs.length) : ∃ g c, v = .slice (some ⟨g, 0, none⟩) xs.length c := by
  obtain ⟨h1, h2⟩ := h
  rcases h2 with ⟨rfl, h0⟩ | ⟨g, cap, cur, rfl, -⟩
  · omega
  · exact ⟨g, _, rfl⟩

theorem results_row1 {P : Program} {fn : Func} {w : World} {p : Tmp} {ty t : TypeId} {g : Nat} {cs : Array Value} {d : TypeDesc} (h : fn.results = #[.cell p ty]) (tmps : Array Value) (hp : tmps.getD p undef = .pointer (some ⟨g, 0, none⟩))
    (hg : w.heap[g]? = some (.cells cs t (0, 0))) (hu : P.underlying ty = some d) (hd : (match d with | .struct _ | .array _ _ => true | _ => false) = true) (hi : (P.info? ty).map (·.size) = some cs.size) :
    (results fn tmps).run P w = .ok (.agg cs) w := by
  have e : tmps[p]?.getD undef = .pointer (some ⟨g, 0, none⟩) := by simpa using hp
  simp [results, h, e, asAddr, run_loadVar_row w g t ty cs (0, 0) d hg hu hd hi]
theorem sinfoYd (cs : Array Value) (h : cs.size = 5) : (Try.prog.info? 83).map (·.size) = some cs.size := by rw [h]; kernel_rfl
theorem infoMp : (Try.prog.info? 91).map (fun i => (i.zero, i.size, i.bytes)) = some (some (.map none), 1, 8) := by kernel_rfl
theorem grown_setG (W : World) (g o : Nat) (u : Value) : W.grownBy (W.setCell ⟨g, o, none⟩ u) (some g) :=
  ⟨rfl, rfl, rfl, by simp [World.setCell], fun k hk hne => Below.heap_setCell _ _ _ _ (fun e => hne (by rw [e]))⟩
theorem owns_setG {α : Type} {enc : α → List Value} {sz e base : Nat} {W : World} {v : Value} {F : List α} {g : Nat} (h : Owns enc sz e base W v F) (hg : g < base) (o : Nat) (u : Value) : Owns enc sz e base (W.setCell ⟨g, o, none⟩ u) v F := by
  refine World.ownsRow.kept h (grown_setG _ _ _ _) ?_
  cases hv : v.ownBlock with
  | none => exact .inl rfl
  | some q =>
    have := (World.ownsRow.lt h q hv).1
    refine .inr (fun e => ?_)
    simp only [Option.some.injEq] at e; omega
/-- A yard that is being made. -/
structure YdInv (ca ra : Option Addr) (cn cc rn rc : Nat) (gap str : Int) (w : World) (k : Nat) (tv : Value) (wr : World) : Prop where
  B : Below w.heap.size w wr
  S : w.heap.size + 3 ≤ wr.heap.size
  h0 : wr.heap[w.heap.size]? = some (.cells #[.slice ca cn cc, .slice ra rn rc, iv gap, iv str] 43 (0, 0))
  h1 : wr.heap[w.heap.size + 1]? = some (.cells #[.slice none 0 0, .slice none 0 0, iv 0, iv 0, .slice none 0 0] 83 (0, 0))
  h2 : wr.heap[w.heap.size + 1 + 1]? = some (.cells #[.slice ca cn cc, .slice ra rn rc, iv gap, iv str, tv] 83 (0, 0))
  O : ∃ xs : List (Option Nat), xs.length = k ∧ Owns encV1 1 91 (w.heap.size + 3) wr tv xs
theorem YdInv.slice {ca ra : Option Addr} {cn cc rn rc : Nat} {gap str : Int} {w : World} {k : Nat} {tv : Value} {wr : World} (h : YdInv ca ra cn cc rn rc gap str w k tv wr) : ∃ a n c, tv = .slice a n c := by
  obtain ⟨xs, -, hO⟩ := h.O
  rcases hO.2 with ⟨h0, _⟩ | ⟨g', cap, cur, h0, _⟩ <;> exact ⟨_, _, _, h0⟩
theorem yd_done {ca ra : Option Addr} {cn cc rn rc : Nat} {gap str : Int} {w : World} {k : Nat} {tv v' : Value} {wr wa w2 : World} {y : Option Nat} {xs : List (Option Nat)} (h : YdInv ca ra cn cc rn rc gap str w k tv wr) (hx : xs.length = k) (ha : Below wr.heap.size wr wa)
    (ho : Owns encV1 1 91 (w.heap.size + 3) w2 v' (xs ++ [y])) (hb : Below (w.heap.size + 3) wa w2) :
    YdInv ca ra cn cc rn rc gap str w (k + 1) v' (w2.setCell ⟨w.heap.size + 1 + 1, 4, none⟩ v') := by
  have hs := h.S
  have hza := ha.size
  have hz2 := hb.size
  have hB : Below w.heap.size w w2 := h.B.trans ((ha.mono (by omega)).trans (hb.mono (by omega)))
  have r0 := (hb.block w.heap.size (by omega)).trans ((ha.block w.heap.size (by omega)).trans h.h0)
  have r1 := (hb.block (w.heap.size + 1) (by omega)).trans ((ha.block (w.heap.size + 1) (by omega)).trans h.h1)
  have r2 := (hb.block (w.heap.size + 1 + 1) (by omega)).trans ((ha.block (w.heap.size + 1 + 1) (by omega)).trans h.h2)
  refine ⟨hB.setCell (p := ⟨w.heap.size + 1 + 1, 4, none⟩) (by show w.heap.size ≤ w.heap.size + 1 + 1; omega) _, by simp [World.setCell]; omega, ?_, ?_, ?_, xs ++ [y], by simp [hx], owns_setG ho (by omega) _ _⟩
  · rw [Below.heap_setCell _ _ _ _ (by show w.heap.size ≠ w.heap.size + 1 + 1; omega)]; exact r0
  · rw [Below.heap_setCell _ _ _ _ (by show w.heap.size + 1 ≠ w.heap.size + 1 + 1; omega)]; exact r1
  · exact heap_setCell_same _ _ 4 _ _ v' r2

set_option maxRecDepth 20000 in
set_option maxHeartbeats 3200000 in
theorem newYard_any (ca ra : Option Addr) (cn cc rn rc : Nat) (gap str : Int) (w : World) (hr : rn ≤ 3) :
    Calls Try.prog 34 #[.agg #[.slice ca cn cc, .slice ra rn rc, iv gap, iv str]] w fun e w' => ∃ ha hn hc, e = .returned (.agg #[.slice ca cn cc, .slice ra rn rc, iv gap, iv str, .slice ha hn hc]) ∧ Below w.heap.size w w' := by
  obtain ⟨i0, hi, hz0, hz1, hz2⟩ := info_parts infoMp
  have HI := Lib.hid hi; have HZ0 := Lib.hid hz0; have HZ1 := Lib.hid hz1; have HZ2 := Lib.hid hz2
  clear hi hz0 hz1 hz2
  have hmm := @run_makeMap Try.prog
  obtain ⟨Wn, hWn⟩ : ∃ W : World, ((w.alloc (.cells #[.slice ca cn cc, .slice ra rn rc, iv gap, iv str] 43)).alloc (.cells #[.slice none 0 0, .slice none 0 0, .int .i64 0, .int .i64 0, .slice none 0 0] 83)).alloc (.cells #[.slice ca cn cc, .slice ra rn rc, .int .i64 gap, .int .i64 str, .slice none 0 0] 83) = W := ⟨_, rfl⟩
  have hinv : YdInv ca ra cn cc rn rc gap str w 0 (.slice none 0 0) Wn := by
    rw [← hWn]
    refine ⟨bpush (bpush (bpush (Below.refl _ _) _) _) _, by simp, ?_, ?_, ?_, [], rfl, Owns.nil _ _ _ _ _⟩
    · rw [Below.heap_alloc _ _ _ (by simp; omega), Below.heap_alloc _ _ _ (by simp)]; exact heap_new _ _ _
    · rw [Below.heap_alloc _ _ _ (by simp)]
      have := heap_new (w.alloc (.cells #[.slice ca cn cc, .slice ra rn rc, iv gap, iv str] 43)) #[.slice none 0 0, .slice none 0 0, iv 0, iv 0, .slice none 0 0] 83
      rwa [World.size_alloc] at this
    · have := heap_new ((w.alloc (.cells #[.slice ca cn cc, .slice ra rn rc, iv gap, iv str] 43)).alloc (.cells #[.slice none 0 0, .slice none 0 0, iv 0, iv 0, .slice none 0 0] 83)) #[.slice ca cn cc, .slice ra rn rc, iv gap, iv str, .slice none 0 0] 83
      rwa [World.size_alloc, World.size_alloc] at this
  have HIV := Lib.hid hinv; have HWN := Lib.hid hWn
  clear hinv hWn
  go_enter Try.func34, Try.ntmps34
  go_wp2_with fail
  rw [HWN.out]
  go_loopw [9] (fun i wr => ∃ k : Nat, k ≤ rn ∧ i = iv k ∧ Hid (∃ tv, YdInv ca ra cn cc rn rc gap str w k tv wr)) (fun i _ => rn - (intOf i).toNat)
  case atStart => exact ⟨0, Nat.zero_le _, rfl, _, HIV.out⟩
  case round =>
    obtain ⟨k, hk, rfl, HT⟩ := hrel
    obtain ⟨tv, hv⟩ := HT.out
    obtain ⟨ta, tn, tc, rfl⟩ := hv.slice
    have HV := Lib.hid hv
    clear hv HT
    by_cases hlt : k < rn
    · obtain ⟨xs, hx, ho⟩ := HV.out.O
      have HO := Lib.hid ho; have HX := Lib.hid hx
      have h2 := HV.out.h2
      have c1 : wr.cell? ⟨w.heap.size + 1 + 1, 4, none⟩ = some (.slice ta tn tc) := by rw [cell_of_row _ _ _ _ _ _ h2]; rfl
      have hb2 : xs.length + 1 ≤ maxLen ∧ (xs.length + 1) * 8 ≤ 140737488355328 := by unfold maxLen; omega
      have hb3 : w.heap.size + 3 ≤ ((wr.alloc (.map #[] 0)).alloc (.cells #[.map (some wr.heap.size)] 91)).heap.size := by have := HV.out.S; simp; omega
      have HBA : Hid (Below wr.heap.size wr ((wr.alloc (.map #[] 0)).alloc (.cells #[.map (some wr.heap.size)] 91))) := bpush (bpush (Below.refl _ _) _) _
      have HS := Lib.hid HV.out.S
      clear ho hx h2
      go_wp2_with (at_builtin; refine L_append1 (enc := encV1) (some wr.heap.size) rfl _ _ 81 rfl Try.underlying81 HI.out HZ0.out HZ1.out HZ2.out rfl Nat.one_pos encV1_len (by simp [encV1, Value.oneCell']) rfl rfl (Owns.kept HO.out HBA.out) (encV1_cell ?_) hb2 hb3 ?_; go_simp; intro v' w2 hown2 hbe2 hg2; (obtain ⟨g', c', rfl⟩ := owns_addrG hown2 (by simp)); have hrow := (hbe2.block (w.heap.size + 1 + 1) (by omega)).trans ((HBA.out.block _ (by have := HS.out; omega)).trans HV.out.h2); have k0 : w2.cell? ⟨w.heap.size + 1 + 1, 4, none⟩ = some (.slice ta tn tc) := (cell_of_row _ _ _ _ _ _ hrow).trans rfl; have k1 : w2.frozen? ⟨w.heap.size + 1 + 1, 4, none⟩ = false := (by unfold World.frozen?; rw [hrow]; rfl); have HD := Lib.hid (yd_done HV.out HX.out HBA.out hown2 hbe2); clear hown2 hbe2 hg2 hrow)
      go_roundw
      case rel => exact ⟨k + 1, by omega, by go_num, _, by have h := HD.out; simp only [List.length_append, List.length_singleton] at h; exact h⟩
      case measure => simp [intOf]; omega
    · obtain rfl : k = rn := by omega
      have h2 := HV.out.h2
      have h1 := Lib.hid HV.out.h1
      have HBV := Lib.hid HV.out.B
      have HSI := Lib.hid (sinfoYd #[.slice ca cn cc, .slice ra k rc, iv gap, iv str, .slice ta tn tc] rfl)
      have HON : Hid (#[.slice ca cn cc, .slice ra k rc, iv gap, iv str, .slice ta tn tc].all (fun v : Value => v.oneCell') = true) := by simp [Hid, Value.oneCell']
      have c0 : wr.cell? ⟨w.heap.size + 1 + 1, 0, none⟩ = some (.slice ca cn cc) := by rw [cell_of_row _ _ _ _ _ _ h2]; rfl
      have c1 : wr.cell? ⟨w.heap.size + 1 + 1, 1, none⟩ = some (.slice ra k rc) := by rw [cell_of_row _ _ _ _ _ _ h2]; rfl
      have c2 : wr.cell? ⟨w.heap.size + 1 + 1, 2, none⟩ = some (iv gap) := by rw [cell_of_row _ _ _ _ _ _ h2]; rfl
      have c3 : wr.cell? ⟨w.heap.size + 1 + 1, 3, none⟩ = some (iv str) := by rw [cell_of_row _ _ _ _ _ _ h2]; rfl
      have c4 : wr.cell? ⟨w.heap.size + 1 + 1, 4, none⟩ = some (.slice ta tn tc) := by rw [cell_of_row _ _ _ _ _ _ h2]; rfl
      clear h2
      go_wp2_with (with_reducible change wpList _ _ _ (Oper.mk _ (Op.store 83 _ _) _ _ _ _ :: _) _ _; refine L_skip rfl (run_store_row 83 _ _ rfl _ rfl #[.slice ca cn cc, .slice ra k rc, iv gap, iv str, .slice ta tn tc] rfl 83 zdr h1.out HSI.out rfl HON.out) ?_)
      exact bodyPost_ret (results_row1 (fn := Try.f34) Try.results34 _ rfl (heap_setRow_same h1.out) Try.underlying83 rfl HSI.out) rfl ⟨_, _, _, rfl, bsetRow HBV.out (by omega) _⟩
end Go.Proofs.Ytiellodbdidgoaa
