/- Package theft: sights; openWatch at valid arguments; the sights against a person at a minute. -/
import Derived.Test.YtdalilllakdamaaOpo
import Derived.Test.YtdalilllakdamaaCmp
import Derived.Deep.RegionHeld3
import Derived.Deep.DrawnRows
namespace Go.Proofs.Ytdalilllakdamaa
open Go Go.RowKit Go.Shelf
attribute [local go_sem] Oper.semAt_some
attribute [local go_sem ↓] Go.wp_at_zero Go.wp_at_succ

/-- A sight: the person, the minute, how far away. -/
structure Sg where
  (p m a : Int)
def encSg (s : Sg) : List Value := [iv s.p, iv s.m, iv s.a]
theorem encSg_len (s : Sg) : (encSg s).length = 3 := rfl
def vSg (n : Int) (s : Sg) : Bool := inB 0 (n - 1) s.p && (inB 0 1440 s.m && inB 0 600 s.a)
theorem vSg_iff {n : Int} {s : Sg} : vSg n s = true ↔ (0 ≤ s.p ∧ s.p ≤ n - 1) ∧ (0 ≤ s.m ∧ s.m ≤ 1440) ∧ (0 ≤ s.a ∧ s.a ≤ 600) := by
  simp only [vSg, Bool.and_eq_true, inB_iff]
/-- A cell of an element of a slice. -/
theorem slice_cellN {α : Type} {enc : α → List Value} {sz b off n c k : Nat} {w : World} {xs : List α} {x : α} (h : SliceOf enc sz w (.slice (some ⟨b, off, none⟩) n c) xs) (hx : xs[k]? = some x) : ∀ j u, (enc x)[j]? = some u → w.cell? ⟨b, off + k * sz + j, none⟩ = some u := by
  obtain ⟨a, cap', he, -, hc⟩ := h
  simp only [Value.slice.injEq] at he
  obtain ⟨rfl, -, -⟩ := he
  obtain ⟨b', off', he, hj⟩ := hc k x hx
  simp only [Option.some.injEq, Addr.mk.injEq] at he
  obtain ⟨rfl, rfl, -⟩ := he
  exact hj
theorem slice_addrN {α : Type} {enc : α → List Value} {sz : Nat} {w : World} {a : Option Addr} {n c : Nat} {xs : List α} (h : SliceOf enc sz w (.slice a n c) xs) (hx : 0 < xs.length) : ∃ b off, a = some ⟨b, off, none⟩ := by
  obtain ⟨a', cap', he, -, hc⟩ := h
  simp only [Value.slice.injEq] at he
  obtain ⟨rfl, -, -⟩ := he
  obtain ⟨x, hx'⟩ := getElem?_of_lt hx
  obtain ⟨b', off', he, -⟩ := hc 0 x hx'
  exact ⟨_, _, he⟩
theorem kcellN {W W1 : World} {b o : Nat} {v : Value} (hb : Below W.heap.size W W1) (h : W.cell? ⟨b, o, none⟩ = some v) : W1.cell? ⟨b, o, none⟩ = some v := (hb.cell (p := ⟨b, o, none⟩) (lt_of_cell h)).trans h
set_option maxRecDepth 20000 in
set_option maxHeartbeats 3200000 in
theorem validSight_any (s : Sg) (n : Int) (w : World) (hn : 0 ≤ n ∧ n ≤ 1000) :
    Calls Try.prog 27 #[.agg (encSg s).toArray, iv n] w fun e w' => e = .returned (.bool (vSg n s)) ∧ Below w.heap.size w w' := by
  have hw : IntKind.i64.wrap (n - 1) = n - 1 := IntWalk.i64_in _ ⟨by omega, by omega⟩
  obtain ⟨p, m, a⟩ := s
  simp only [encSg]
  cases h1 : inB 0 (n - 1) p
  · go_enter Try.func27, Try.ntmps27
    go_wp2_with fail
    refine (within1 0 (n - 1) p (by go_simp)).mono ?_
    rintro e w_ ⟨rfl, rfl⟩
    go_wp2_with fail
    go_wp2_with fail
    go_ret
    exact ⟨by simp [vSg, h1], (by repeat (first | exact Below.refl _ _ | refine Below.drew ?_ | refine bpush ?_ _ | refine bput ?_ (by simp) _ | (refine bstep ?_ (by assumption))))⟩
  cases h2 : inB 0 1440 m
  · go_enter Try.func27, Try.ntmps27
    go_wp2_with fail
    refine (within1 0 (n - 1) p (by go_simp)).mono ?_
    rintro e w_ ⟨rfl, rfl⟩
    go_wp2_with fail
    refine (within1 0 1440 m (by go_simp)).mono ?_
    rintro e w_ ⟨rfl, rfl⟩
    go_wp2_with fail
    go_wp2_with fail
    go_ret
    exact ⟨by simp [vSg, h1, h2], (by repeat (first | exact Below.refl _ _ | refine Below.drew ?_ | refine bpush ?_ _ | refine bput ?_ (by simp) _ | (refine bstep ?_ (by assumption))))⟩
  · go_enter Try.func27, Try.ntmps27
    go_wp2_with fail
    refine (within1 0 (n - 1) p (by go_simp)).mono ?_
    rintro e w_ ⟨rfl, rfl⟩
    go_wp2_with fail
    refine (within1 0 1440 m (by go_simp)).mono ?_
    rintro e w_ ⟨rfl, rfl⟩
    go_wp2_with fail
    refine (within1 0 600 a (by go_simp)).mono ?_
    rintro e w_ ⟨rfl, rfl⟩
    go_wp2_with fail
    go_wp2_with fail
    go_ret
    exact ⟨by simp [vSg, h1, h2], (by repeat (first | exact Below.refl _ _ | refine Below.drew ?_ | refine bpush ?_ _ | refine bput ?_ (by simp) _ | (refine bstep ?_ (by assumption))))⟩
set_option maxRecDepth 20000 in
set_option maxHeartbeats 1600000 in
theorem openWatch1_any (s : Sg) (n : Int) (b : Nat) (W : World) (hn : 0 ≤ n ∧ n ≤ 1000) (hb : W.cell? ⟨b, 0, none⟩ = some (iv n)) :
    Calls Try.prog 26 #[.agg (encSg s).toArray, .pointer (some ⟨b, 0, none⟩)] W fun e w' => e = .returned (.bool (vSg n s)) ∧ Below W.heap.size W w' := by
  have HV := Lib.hid (fun W : World => validSight_any s n W hn)
  have hl := lt_of_cell hb
  obtain ⟨p, m, a⟩ := s
  simp only [encSg] at *
  go_enter Try.func26, Try.ntmps26
  go_wp2_with fail
  refine (HV.out _).mono ?_
  rintro e w1 ⟨rfl, hb1⟩
  go_wp2_with fail
  go_ret
  exact ⟨rfl, bstep (by repeat (first | exact Below.refl _ _ | refine Below.drew ?_ | refine bpush ?_ _ | refine bput ?_ (by simp) _ | (refine bstep ?_ (by assumption)))) hb1⟩

set_option maxRecDepth 20000 in
set_option maxHeartbeats 3200000 in
theorem allSg_any (gf : FuncId) (cb : Array Value) (p : Sg → Bool) (xs : List Sg) (la : Option Addr) (lc : Nat) (w : World) (eg : ∀ args w, (callFunc gf args).run Try.prog w = .ok (.enter gf args) w)
    (hf : ∀ x ∈ xs, ∀ W, Below w.heap.size w W → Calls Try.prog gf (#[.agg (encSg x).toArray] ++ cb) W fun e w' => e = .returned (.bool (p x)) ∧ Below W.heap.size W w') (hs : SliceOf encSg 3 w (.slice la xs.length lc) xs) :
    Calls Try.prog 25 #[.func (.func gf) #[] cb, .slice la xs.length lc] w fun e w' => e = .returned (.bool (xs.all p)) ∧ Below w.heap.size w w' := by
  have HF := Lib.hid hf; have HS := Lib.hid hs
  have hlen := hs.len
  clear hf hs
  go_enter Try.func25, Try.ntmps25
  go_wp2_with fail
  go_loopw [9] (fun i wr => ∃ k : Nat, k ≤ xs.length ∧ i = iv k ∧ Hid ((xs.take k).all p = true) ∧ Below w.heap.size w wr) (fun i _ => xs.length - (intOf i).toNat)
  case atStart => exact ⟨0, Nat.zero_le _, rfl, by simp [Hid], Below.refl _ _⟩
  case round =>
    obtain ⟨k, hk, rfl, HA, hbw⟩ := hrel
    have HB := Lib.hid hbw
    clear hbw
    by_cases hlt : k < xs.length
    · have hs1 := HS.out.below HB.out
      obtain ⟨b, off, rfl⟩ := slice_addrN hs1 (by omega)
      obtain ⟨x, hx⟩ := getElem?_of_lt hlt
      have hcell := slice_cellN hs1 hx
      have c0 := hcell 0 _ rfl
      have c1 := hcell 1 _ rfl
      have c2 := hcell 2 _ rfl
      simp only [Nat.add_zero] at c0
      have HC := Lib.hid (fun (o : Obj) => HF.out x (List.mem_of_getElem? hx) (wr.alloc o) (bpush HB.out o))
      have HX := Lib.hid hx
      clear hs1 hx hcell
      obtain ⟨p0, m0, a0⟩ := x
      simp only [encSg] at *
      cases hp : p ⟨p0, m0, a0⟩
      · have HP := Lib.hid hp
        rw [hp] at HC; clear hp
        go_wp2_with fail
        refine (HC.out _).mono ?_
        rintro e w1 ⟨rfl, hb1⟩
        have HB1 := Lib.hid (bstep (bpush HB.out _) hb1)
        clear hb1
        go_wp2_with fail
        go_ret
        exact ⟨by rw [all_false_of _ HX.out HP.out]; rfl, HB1.out⟩
      · have HP := Lib.hid hp
        rw [hp] at HC; clear hp
        go_wp2_with fail
        refine (HC.out _).mono ?_
        rintro e w1 ⟨rfl, hb1⟩
        have HB1 := Lib.hid (bstep (bpush HB.out _) hb1)
        clear hb1
        go_wp2_with fail
        go_roundw
        case rel => exact ⟨k + 1, by omega, by go_num, all_take_succ _ HX.out HA.out HP.out, HB1.out⟩
        case measure => simp [intOf]; omega
    · obtain rfl : k = xs.length := by omega
      have HT : Hid (xs.all p = true) := by have := HA.out; rwa [List.take_length] at this
      go_wp2_with fail
      go_ret
      exact ⟨by rw [HT.out]; rfl, HB.out⟩

/-- What is known of a watch. -/
structure WtOk (n gl gh : Int) (S : List Sg) : Prop where
  nn : 1 ≤ n ∧ n ≤ 8
  g : okSpan gl gh 0 1440 = true
  l : S.length ≤ 12
  s : S.all (vSg n) = true
theorem sinfoWt (cs : Array Value) (h : cs.size = 4) : (Try.prog.info? 58).map (·.size) = some cs.size := by rw [h]; kernel_rfl
def zwt : Array Value := #[iv 0, .slice none 0 0, iv 0, iv 0]
set_option maxRecDepth 20000 in
set_option maxHeartbeats 6400000 in
theorem openWatch_good (n gl gh : Int) (S : List Sg) (sa : Option Addr) (sc : Nat) (w : World) (hS : SliceOf encSg 3 w (.slice sa S.length sc) S) (hok : WtOk n gl gh S) :
    Calls Try.prog 14 #[iv n, .slice sa S.length sc, .agg #[iv gl, iv gh]] w fun e w' => e = .returned (.tuple #[.agg #[iv n, .slice sa S.length sc, iv gl, iv gh], iv 0]) ∧ Below w.heap.size w w' := by
  have H1 : Hid (inB 1 8 n = true) := inB_iff.2 hok.nn
  have H2 : Hid (okSpan gl gh 0 1440 = true) := hok.g
  have h3 := hok.l
  have HS := Lib.hid hS
  have HSI := Lib.hid (sinfoWt #[iv n, .slice sa S.length sc, iv gl, iv gh] rfl)
  have HON : Hid (#[iv n, .slice sa S.length sc, iv gl, iv gh].all (fun v : Value => v.oneCell') = true) := by simp [Hid, Value.oneCell']
  have HA : Hid (∀ (b : Nat) (W : World), W.cell? ⟨b, 0, none⟩ = some (iv n) → Below w.heap.size w W → Calls Try.prog 25 #[.func (.func 26) #[] #[.pointer (some ⟨b, 0, none⟩)], .slice sa S.length sc] W fun e w' => e = .returned (.bool true) ∧ Below W.heap.size W w') := fun b W hb hB => by
    have := allSg_any 26 #[.pointer (some ⟨b, 0, none⟩)] (vSg n) S sa sc W (by intro args w; rfl) (fun x _ W1 h1 => openWatch1_any x n b W1 ⟨by have := hok.nn; omega, by have := hok.nn; omega⟩ (kcellN h1 hb)) (hS.below hB)
    rw [hok.s] at this; exact this
  clear hok hS
  go_enter Try.func14, Try.ntmps14
  go_wp2_with fail
  refine (within1 1 8 n (by go_simp)).mono ?_
  rintro e w_ ⟨he, rfl⟩; rw [H1.out] at he; subst he
  go_wp2_with fail
  refine (okSpan_any gl gh 0 1440 _).mono ?_
  rintro e w1 ⟨he, hb1⟩; rw [H2.out] at he; subst he
  have r2 := Lib.hid ((hb1.block (w.heap.size + 1 + 1) (by simp)).trans (by
    have := heap_new ((w.alloc (.cells #[iv n] 3)).alloc (.cells #[iv gl, iv gh] 29)) zwt 58
    simp only [World.size_alloc] at this
    exact (Below.heap_alloc _ _ _ (by simp)).trans this))
  have c0 : w1.cell? ⟨w.heap.size, 0, none⟩ = some (iv n) := kcellN hb1 (by go_simp)
  have c1 : w1.cell? ⟨w.heap.size + 1, 0, none⟩ = some (iv gl) := kcellN hb1 (by go_simp)
  have c2 : w1.cell? ⟨w.heap.size + 1, 1, none⟩ = some (iv gh) := kcellN hb1 (by go_simp)
  have HB1 := Lib.hid (show Below w.heap.size w w1 from bstep (by repeat (first | exact Below.refl _ _ | refine Below.drew ?_ | refine bpush ?_ _ | refine bput ?_ (by simp) _ | (refine bstep ?_ (by assumption)))) hb1)
  clear hb1
  have d1 : decide (12 < (S.length : Int)) = false := decide_eq_false (by omega)
  have d2 : decide (12 < S.length) = false := decide_eq_false (by omega)
  go_wp2_with fail
  refine (HA.out _ _ c0 HB1.out).mono ?_
  rintro e w2 ⟨rfl, hb2⟩
  have r3 := Lib.hid ((hb2.block _ (Array.getElem?_eq_some_iff.1 r2.out).1).trans r2.out)
  have c0 := kcellN hb2 c0
  have c1 := kcellN hb2 c1
  have c2 := kcellN hb2 c2
  have HB2 := Lib.hid (bstep HB1.out hb2)
  clear hb2
  go_wp2_with (with_reducible change wpList _ _ _ (Oper.mk _ (Op.store 58 _ _) _ _ _ _ :: _) _ _; refine L_skip rfl (run_store_row 58 _ _ rfl _ rfl #[iv n, .slice sa S.length sc, iv gl, iv gh] rfl 58 zwt r3.out HSI.out rfl HON.out) ?_)
  exact bodyPost_ret (results_row_tmp (fn := Try.f14) Try.results14 _ rfl (heap_setRow_same r3.out) Try.underlying58 rfl HSI.out) rfl ⟨rfl, bsetRow HB2.out (by omega) _⟩
end Go.Proofs.Ytdalilllakdamaa
