/- Turns: when the last cloth is done. -/
import Derived.Test.YtghnkhpjblnabaaQc
import Derived.Test.YtghnkhpjblnabaaQp
import Derived.Test.YtghnkhpjblnabaaPos
namespace Go.Proofs.Ytghnkhpjblnabaa
open Go Go.RowKit Go.Shelf
attribute [local go_sem] Oper.semAt_some

theorem endL_snoc (pre : List (Nat × Int × Int)) (v : Nat × Int × Int) : endL (pre ++ [v]) = max (endL pre) v.2.2 := by simp [endL]
/-- What lies in memory of a queue: its slices read so in every later world. -/
structure QuIn (w : World) (ca oa : Option Addr) (cc oc : Nat) (C : List Ct) (o : List Nat) : Prop where
  cl : SliceOf encC 4 w (.slice ca C.length cc) C
  od : Ints w (.slice oa o.length oc) (ordI o)
theorem QuIn.below {w w' : World} {ca oa : Option Addr} {cc oc : Nat} {C : List Ct} {o : List Nat} (h : QuIn w ca oa cc oc C o) (hb : Below w.heap.size w w') : QuIn w' ca oa cc oc C o := ⟨h.cl.below hb, h.od.below hb⟩
/-- A valid queue. -/
structure QuOk (C : List Ct) (o : List Nat) (k : Nat) : Prop where
  ok : CtOk C
  lt : ∀ x ∈ o, x < C.length
  pos : 1 ≤ k ∧ k ≤ 1000
  len : o.length ≤ 1000
theorem vis_bd {C : List Ct} {sel : Nat → Int} : ∀ (o : List Nat) (f : List Int) (i : Nat), FrOk f i → 0 < f.length → (∀ x ∈ o, (0 ≤ coOf C x ∧ coOf C x ≤ 1000) ∧ 0 ≤ sel x ∧ sel x ≤ 1000) →
    ∀ v ∈ visL (coOf C) sel f o, v.1 ∈ o ∧ 0 ≤ v.2.1 ∧ v.2.1 ≤ 1000 + 1000 * ((i + o.length : Nat) : Int) ∧ 0 ≤ v.2.2 ∧ v.2.2 ≤ 2000 + 1000 * ((i + o.length : Nat) : Int)
  | [], _, _, _, _, _, v, hv => by simp [visL] at hv
  | x :: o, f, i, hf, hl, hx, v, hv => by
    obtain ⟨h1, h2⟩ := hx x (by simp)
    obtain ⟨t1, t2, h3⟩ := hf.step (c := coOf C x) (s := sel x) hl h1 h2
    simp only [visL, List.mem_cons] at hv
    rcases hv with rfl | hv
    · simp only [List.length_cons]; exact ⟨by simp, t1, by omega, by omega, by omega⟩
    · have := vis_bd o _ _ h3 (by rw [stepF_len]; exact hl) (fun y hy => hx y (by simp [hy])) v hv
      simp only [List.length_cons, List.mem_cons]
      refine ⟨.inr this.1, this.2.1, ?_, this.2.2.2.1, ?_⟩
      · have := this.2.2.1; omega
      · have := this.2.2.2.2; omega
theorem endL_bd {B : Int} (hB : 0 ≤ B) : ∀ (l : List (Nat × Int × Int)), (∀ v ∈ l, v.2.2 ≤ B) → 0 ≤ endL l ∧ endL l ≤ B := by
  intro l
  suffices h : ∀ (l : List (Nat × Int × Int)) (m : Int), 0 ≤ m → m ≤ B → (∀ v ∈ l, v.2.2 ≤ B) → 0 ≤ l.foldl (fun m v => max m v.2.2) m ∧ l.foldl (fun m v => max m v.2.2) m ≤ B from fun hl => h l 0 (Int.le_refl _) hB hl
  intro l
  induction l with
  | nil => intro m h1 h2 _; exact ⟨h1, h2⟩
  | cons v l ih =>
    intro m h1 h2 hl
    have hv := hl v (by simp)
    exact ih _ (by dsimp only; omega) (by dsimp only; omega) (fun u hu => hl u (by simp [hu]))
theorem SeqL.laterQ {α : Type} {P : Program} {gf : Nat} {lb : Array Value} {enc : α → Array Value} {S : Nat → Prop} {xs : List α} {w w' : World} (h : SeqL P gf lb enc S xs w) (hs : SameOn S w w') : SeqL P gf lb enc S xs w' :=
  fun n l J Jx W hW => h n l J Jx W (hs.trans hW)
theorem heap_set1Q {W : World} {b : Nat} {v u : Value} {t : TypeId} (h : W.heap[b]? = some (.cells #[v] t (0, 0))) : (W.setCell ⟨b, 0, none⟩ u).heap[b]? = some (.cells #[u] t (0, 0)) := by
  have := heap_setCell_same W b 0 #[v] t u h
  simpa using this

set_option maxRecDepth 20000 in
set_option maxHeartbeats 6400000 in
theorem endLo_any (ca oa : Option Addr) (cc oc k : Nat) (rv : Value) (C : List Ct) (o : List Nat) (w : World) (hq : QuIn w ca oa cc oc C o) (hk : QuOk C o k) :
    Calls Try.prog 18 #[qv (.slice ca C.length cc) rv k (.slice oa o.length oc), .func (.func 19) #[] #[]] w fun e w' => e = .returned (iv (endL (visL (coOf C) (loOf C) (List.replicate k 0) o))) ∧ Below w.heap.size w w' := by
  obtain ⟨hok, hlt, hpos, hlen⟩ := hk
  have hbd : ∀ pre, pre <+: visL (coOf C) (loOf C) (List.replicate k 0) o → 0 ≤ endL pre ∧ endL pre ≤ 2000000 := fun pre hp => endL_bd (by omega) pre fun v hv => by
    have := (vis_bd o (List.replicate k 0) 0 (FrOk.zero k) (by simp; omega) (fun x hx => by
      obtain ⟨k1, k2, k3, k4, k5, k6, k7, k8⟩ := hok x (hlt x hx)
      exact ⟨⟨k3, k4⟩, by unfold loOf; omega, by unfold loOf; omega⟩) v (hp.subset hv)).2.2.2.2
    omega
  have HBD := Lib.hid hbd
  have HQ := Lib.hid hq
  have HSEQ : Hid (∀ (S : Nat → Prop) (bq bs : Nat) (w0 : World), S bq → S bs → (∀ j, S j → j < w0.heap.size) → w0.heap[bq]? = some (.cells #[.slice ca C.length cc, rv, iv k, .slice oa o.length oc] 72 (0, 0)) → w0.heap[bs]? = some (.cells #[.func (.func 19) #[] #[]] 112 (0, 0)) →
    (∀ W, SameOn S w0 W → QuIn W ca oa cc oc C o) → SeqL Try.prog 56 #[.pointer (some ⟨bq, 0, none⟩), .pointer (some ⟨bs, 0, none⟩)] encV S (visL (coOf C) (loOf C) (List.replicate k 0) o) w0) :=
    fun S bq bs w0 h1 h2 h3 h4 h5 h6 => visitsLo_seq S bq bs h1 h2 C o ca oa cc oc k rv w0 h3 h4 h5 (fun W h => (h6 W h).cl) (fun W h => (h6 W h).od) hlt hpos hlen hok
  clear hbd hq hok hlt
  generalize visL (coOf C) (loOf C) (List.replicate k 0) o = xs at *
  refine (callsIn_wide (n := 3)).1 ?_
  have hBa : Below w.heap.size w ((w.alloc (.cells #[.slice ca C.length cc, rv, iv k, .slice oa o.length oc] 72)).alloc (.cells #[.int .i64 0] 3)) := (by repeat (first | exact Below.refl _ _ | refine Below.drew ?_ | refine bpush ?_ _ | refine bput ?_ (by simp) _ | (refine bstep ?_ (by assumption))))
  have hza : ((w.alloc (.cells #[.slice ca C.length cc, rv, iv k, .slice oa o.length oc] 72)).alloc (.cells #[.int .i64 0] 3)).heap.size = w.heap.size + 2 := by simp
  have hla : ((w.alloc (.cells #[.slice ca C.length cc, rv, iv k, .slice oa o.length oc] 72)).alloc (.cells #[.int .i64 0] 3)).heap[w.heap.size + 1]? = some (.cells #[iv (endL [])] 3 (0, 0)) := by
    have := heap_new (w.alloc (.cells #[.slice ca C.length cc, rv, iv k, .slice oa o.length oc] 72)) #[.int .i64 0] 3
    rwa [World.size_alloc] at this
  have HBa := Lib.hid hBa; have HZa := Lib.hid hza; have HLa := Lib.hid hla
  clear hBa hza hla
  refine callsIn_of_wp_marks Try.func18 rfl trivial ?_ rfl
  simp only [Try.ntmps18, List.size_toArray, List.length_cons, List.length_nil, Nat.reduceAdd, Nat.reduceSub, Array.replicate_succ, Array.replicate_zero, List.push_toArray, List.append_toArray, List.nil_append, List.cons_append]
  gi_wp2_with fail
  generalize ((w.alloc (.cells #[.slice ca C.length cc, rv, iv k, .slice oa o.length oc] 72)).alloc (.cells #[.int .i64 0] 3)) = Wa at *
  refine (callsIn_wide.2 (visits_any _ _ _ _ _ _)).mono ?_
  rintro e w2 ⟨rfl, hw2⟩
  have hb2 : Below Wa.heap.size Wa w2 := by rw [← hw2]; exact bpush (bpush (Below.refl _ _) _) _
  have hq2 : w2.heap[Wa.heap.size]? = some (.cells #[.slice ca C.length cc, rv, iv k, .slice oa o.length oc] 72 (0, 0)) := by
    rw [← hw2, Below.heap_alloc _ _ _ (by simp)]; exact heap_new _ _ _
  have hs2 : w2.heap[Wa.heap.size + 1]? = some (.cells #[.func (.func 19) #[] #[]] 112 (0, 0)) := by
    rw [← hw2]
    have := heap_new (Wa.alloc (.cells #[.slice ca C.length cc, rv, iv k, .slice oa o.length oc] 72)) #[.func (.func 19) #[] #[]] 112
    rwa [World.size_alloc] at this
  have hz2 : w2.heap.size = Wa.heap.size + 2 := by rw [← hw2]; simp
  have hl2 := (hb2.block (w.heap.size + 1) (by have := HZa.out; omega)).trans HLa.out
  have hB2 : Below w.heap.size w w2 := bstep HBa.out hb2
  have hSQ := HSEQ.out (fun j => j < w.heap.size ∨ j = Wa.heap.size ∨ j = Wa.heap.size + 1) Wa.heap.size (Wa.heap.size + 1) w2 (.inr (.inl rfl)) (.inr (.inr rfl)) (fun j hj => by have := HZa.out; omega) hq2 hs2
    (fun W hW => by
      have hB : ∀ j, j < w.heap.size → W.heap[j]? = w.heap[j]? := fun j hj => (hW.block j (.inl hj)).trans (hB2.block j hj)
      exact ⟨SliceOf.heapEq HQ.out.cl hB, SliceOf.heapEq HQ.out.od hB⟩)
  have HB2 := Lib.hid hB2; have HZ2 := Lib.hid hz2; have HL2 := Lib.hid hl2; have HSQ := Lib.hid hSQ
  clear hb2 hq2 hs2 hz2 hl2 hB2 hSQ hw2
  gi_wp2_with fail
  have hza := HZa.out; have hz2 := HZ2.out
  refine rangeB (gf := 56) (lb := #[.pointer (some ⟨Wa.heap.size, 0, none⟩), .pointer (some ⟨Wa.heap.size + 1, 0, none⟩)]) rfl (enters_of Try.func56 (by kernel_rfl) rfl) HSQ.out (fun _ => rfl) (fun j hj => by omega) (fun j => j = w.heap.size + 1) (fun j hj => by omega) (fun j hj hx => by omega)
    (fun pre W => W.heap[w.heap.size + 1]? = some (.cells #[iv (endL pre)] 3 (0, 0))) (fun _ _ => False)
    (fun s W W' hi hx => (hx _ rfl).trans hi) (fun _ _ _ h => h.elim) HL2.out ?round ?done ?stop
  case stop =>
    rintro c W _ hf _
    exact hf.elim
  case round =>
    rintro l pre ⟨v1, v2, v3⟩ W hpre htn hi K hK
    have HK := Lib.hid hK; clear hK
    obtain ⟨b1, b2⟩ := HBD.out _ ((List.prefix_append _ _).trans hpre)
    have HSM := Lib.hid (endL_snoc pre (v1, v2, v3))
    have htz := htn.size
    have hlW : w.heap.size + 1 < W.heap.size := by omega
    clear hpre htn hi hza hz2 htz
    unfold encV
    gi_wp2_with fail
    go_simp
    refine HK.out _ _ (bpush (Below.refl _ _) _) ?_
    clear HK
    rintro W2 ht2 hi2 hs2 hcell
    have HI := Lib.hid hi2
    have hv := hcell W.heap.size _ (heap_new W _ _) rfl
    have c0 : W2.cell? ⟨w.heap.size + 1, 0, none⟩ = some (iv (endL pre)) := by rw [cell_of_row _ _ _ _ _ _ hi2]; rfl
    have f0 : W2.frozen? ⟨w.heap.size + 1, 0, none⟩ = false := by unfold World.frozen?; rw [hi2]; rfl
    have c2 : W2.cell? ⟨W.heap.size, 2, none⟩ = some (iv v3) := by rw [cell_of_row _ _ _ _ _ _ hv]; rfl
    clear ht2 hi2 hs2 hcell hv
    generalize endL pre = ps at *
    by_cases hmx : ps < v3
    · have HM : Hid (max ps v3 = v3) := by unfold Hid; omega
      gi_wp2_with fail
      refine ⟨turn_setQ (T := fun j => j = w.heap.size + 1) rfl _ _, ?_⟩
      dsimp only
      rw [HSM.out, HM.out]
      exact heap_set1Q HI.out
    · have HM : Hid (max ps v3 = ps) := by unfold Hid; omega
      gi_wp2_with fail
      refine ⟨turn_setQ (T := fun j => j = w.heap.size + 1) rfl _ _, ?_⟩
      dsimp only
      rw [HSM.out, HM.out]
      exact heap_set1Q HI.out
  case done =>
    rintro W htn hi hK
    have HT := Lib.hid htn; clear htn
    have c0 : W.cell? ⟨w.heap.size + 1, 0, none⟩ = some (iv (endL xs)) := by rw [cell_of_row _ _ _ _ _ _ hi]; rfl
    clear hi
    have HKD := Lib.hid hK; clear hK
    gi_wp2_with fail
    refine ⟨by simp, .inl ⟨_, _, rfl, run_takeDeferred HKD.out, ?_⟩⟩
    have hbel : Below w.heap.size w W := HB2.out.trans (HT.out.below (fun k hk => by omega) (by omega))
    exact ⟨_, results_tmp rfl _ _ _, rfl, put_below hbel (by omega)⟩
set_option maxRecDepth 20000 in
set_option maxHeartbeats 6400000 in
theorem endHi_any (ca oa : Option Addr) (cc oc k : Nat) (rv : Value) (C : List Ct) (o : List Nat) (w : World) (hq : QuIn w ca oa cc oc C o) (hk : QuOk C o k) :
    Calls Try.prog 18 #[qv (.slice ca C.length cc) rv k (.slice oa o.length oc), .func (.func 20) #[] #[]] w fun e w' => e = .returned (iv (endL (visL (coOf C) (hiOf C) (List.replicate k 0) o))) ∧ Below w.heap.size w w' := by
  obtain ⟨hok, hlt, hpos, hlen⟩ := hk
  have hbd : ∀ pre, pre <+: visL (coOf C) (hiOf C) (List.replicate k 0) o → 0 ≤ endL pre ∧ endL pre ≤ 2000000 := fun pre hp => endL_bd (by omega) pre fun v hv => by
    have := (vis_bd o (List.replicate k 0) 0 (FrOk.zero k) (by simp; omega) (fun x hx => by
      obtain ⟨k1, k2, k3, k4, k5, k6, k7, k8⟩ := hok x (hlt x hx)
      exact ⟨⟨k3, k4⟩, by unfold hiOf; omega, by unfold hiOf; omega⟩) v (hp.subset hv)).2.2.2.2
    omega
  have HBD := Lib.hid hbd
  have HQ := Lib.hid hq
  have HSEQ : Hid (∀ (S : Nat → Prop) (bq bs : Nat) (w0 : World), S bq → S bs → (∀ j, S j → j < w0.heap.size) → w0.heap[bq]? = some (.cells #[.slice ca C.length cc, rv, iv k, .slice oa o.length oc] 72 (0, 0)) → w0.heap[bs]? = some (.cells #[.func (.func 20) #[] #[]] 112 (0, 0)) →
    (∀ W, SameOn S w0 W → QuIn W ca oa cc oc C o) → SeqL Try.prog 56 #[.pointer (some ⟨bq, 0, none⟩), .pointer (some ⟨bs, 0, none⟩)] encV S (visL (coOf C) (hiOf C) (List.replicate k 0) o) w0) :=
    fun S bq bs w0 h1 h2 h3 h4 h5 h6 => visitsHi_seq S bq bs h1 h2 C o ca oa cc oc k rv w0 h3 h4 h5 (fun W h => (h6 W h).cl) (fun W h => (h6 W h).od) hlt hpos hlen hok
  clear hbd hq hok hlt
  generalize visL (coOf C) (hiOf C) (List.replicate k 0) o = xs at *
  refine (callsIn_wide (n := 3)).1 ?_
  have hBa : Below w.heap.size w ((w.alloc (.cells #[.slice ca C.length cc, rv, iv k, .slice oa o.length oc] 72)).alloc (.cells #[.int .i64 0] 3)) := (by repeat (first | exact Below.refl _ _ | refine Below.drew ?_ | refine bpush ?_ _ | refine bput ?_ (by simp) _ | (refine bstep ?_ (by assumption))))
  have hza : ((w.alloc (.cells #[.slice ca C.length cc, rv, iv k, .slice oa o.length oc] 72)).alloc (.cells #[.int .i64 0] 3)).heap.size = w.heap.size + 2 := by simp
  have hla : ((w.alloc (.cells #[.slice ca C.length cc, rv, iv k, .slice oa o.length oc] 72)).alloc (.cells #[.int .i64 0] 3)).heap[w.heap.size + 1]? = some (.cells #[iv (endL [])] 3 (0, 0)) := by
    have := heap_new (w.alloc (.cells #[.slice ca C.length cc, rv, iv k, .slice oa o.length oc] 72)) #[.int .i64 0] 3
    rwa [World.size_alloc] at this
  have HBa := Lib.hid hBa; have HZa := Lib.hid hza; have HLa := Lib.hid hla
  clear hBa hza hla
  refine callsIn_of_wp_marks Try.func18 rfl trivial ?_ rfl
  simp only [Try.ntmps18, List.size_toArray, List.length_cons, List.length_nil, Nat.reduceAdd, Nat.reduceSub, Array.replicate_succ, Array.replicate_zero, List.push_toArray, List.append_toArray, List.nil_append, List.cons_append]
  gi_wp2_with fail
  generalize ((w.alloc (.cells #[.slice ca C.length cc, rv, iv k, .slice oa o.length oc] 72)).alloc (.cells #[.int .i64 0] 3)) = Wa at *
  refine (callsIn_wide.2 (visits_any _ _ _ _ _ _)).mono ?_
  rintro e w2 ⟨rfl, hw2⟩
  have hb2 : Below Wa.heap.size Wa w2 := by rw [← hw2]; exact bpush (bpush (Below.refl _ _) _) _
  have hq2 : w2.heap[Wa.heap.size]? = some (.cells #[.slice ca C.length cc, rv, iv k, .slice oa o.length oc] 72 (0, 0)) := by
    rw [← hw2, Below.heap_alloc _ _ _ (by simp)]; exact heap_new _ _ _
  have hs2 : w2.heap[Wa.heap.size + 1]? = some (.cells #[.func (.func 20) #[] #[]] 112 (0, 0)) := by
    rw [← hw2]
    have := heap_new (Wa.alloc (.cells #[.slice ca C.length cc, rv, iv k, .slice oa o.length oc] 72)) #[.func (.func 20) #[] #[]] 112
    rwa [World.size_alloc] at this
  have hz2 : w2.heap.size = Wa.heap.size + 2 := by rw [← hw2]; simp
  have hl2 := (hb2.block (w.heap.size + 1) (by have := HZa.out; omega)).trans HLa.out
  have hB2 : Below w.heap.size w w2 := bstep HBa.out hb2
  have hSQ := HSEQ.out (fun j => j < w.heap.size ∨ j = Wa.heap.size ∨ j = Wa.heap.size + 1) Wa.heap.size (Wa.heap.size + 1) w2 (.inr (.inl rfl)) (.inr (.inr rfl)) (fun j hj => by have := HZa.out; omega) hq2 hs2
    (fun W hW => by
      have hB : ∀ j, j < w.heap.size → W.heap[j]? = w.heap[j]? := fun j hj => (hW.block j (.inl hj)).trans (hB2.block j hj)
      exact ⟨SliceOf.heapEq HQ.out.cl hB, SliceOf.heapEq HQ.out.od hB⟩)
  have HB2 := Lib.hid hB2; have HZ2 := Lib.hid hz2; have HL2 := Lib.hid hl2; have HSQ := Lib.hid hSQ
  clear hb2 hq2 hs2 hz2 hl2 hB2 hSQ hw2
  gi_wp2_with fail
  have hza := HZa.out; have hz2 := HZ2.out
  refine rangeB (gf := 56) (lb := #[.pointer (some ⟨Wa.heap.size, 0, none⟩), .pointer (some ⟨Wa.heap.size + 1, 0, none⟩)]) rfl (enters_of Try.func56 (by kernel_rfl) rfl) HSQ.out (fun _ => rfl) (fun j hj => by omega) (fun j => j = w.heap.size + 1) (fun j hj => by omega) (fun j hj hx => by omega)
    (fun pre W => W.heap[w.heap.size + 1]? = some (.cells #[iv (endL pre)] 3 (0, 0))) (fun _ _ => False)
    (fun s W W' hi hx => (hx _ rfl).trans hi) (fun _ _ _ h => h.elim) HL2.out ?round ?done ?stop
  case stop =>
    rintro c W _ hf _
    exact hf.elim
  case round =>
    rintro l pre ⟨v1, v2, v3⟩ W hpre htn hi K hK
    have HK := Lib.hid hK; clear hK
    obtain ⟨b1, b2⟩ := HBD.out _ ((List.prefix_append _ _).trans hpre)
    have HSM := Lib.hid (endL_snoc pre (v1, v2, v3))
    have htz := htn.size
    have hlW : w.heap.size + 1 < W.heap.size := by omega
    clear hpre htn hi hza hz2 htz
    unfold encV
    gi_wp2_with fail
    go_simp
    refine HK.out _ _ (bpush (Below.refl _ _) _) ?_
    clear HK
    rintro W2 ht2 hi2 hs2 hcell
    have HI := Lib.hid hi2
    have hv := hcell W.heap.size _ (heap_new W _ _) rfl
    have c0 : W2.cell? ⟨w.heap.size + 1, 0, none⟩ = some (iv (endL pre)) := by rw [cell_of_row _ _ _ _ _ _ hi2]; rfl
    have f0 : W2.frozen? ⟨w.heap.size + 1, 0, none⟩ = false := by unfold World.frozen?; rw [hi2]; rfl
    have c2 : W2.cell? ⟨W.heap.size, 2, none⟩ = some (iv v3) := by rw [cell_of_row _ _ _ _ _ _ hv]; rfl
    clear ht2 hi2 hs2 hcell hv
    generalize endL pre = ps at *
    by_cases hmx : ps < v3
    · have HM : Hid (max ps v3 = v3) := by unfold Hid; omega
      gi_wp2_with fail
      refine ⟨turn_setQ (T := fun j => j = w.heap.size + 1) rfl _ _, ?_⟩
      dsimp only
      rw [HSM.out, HM.out]
      exact heap_set1Q HI.out
    · have HM : Hid (max ps v3 = ps) := by unfold Hid; omega
      gi_wp2_with fail
      refine ⟨turn_setQ (T := fun j => j = w.heap.size + 1) rfl _ _, ?_⟩
      dsimp only
      rw [HSM.out, HM.out]
      exact heap_set1Q HI.out
  case done =>
    rintro W htn hi hK
    have HT := Lib.hid htn; clear htn
    have c0 : W.cell? ⟨w.heap.size + 1, 0, none⟩ = some (iv (endL xs)) := by rw [cell_of_row _ _ _ _ _ _ hi]; rfl
    clear hi
    have HKD := Lib.hid hK; clear hK
    gi_wp2_with fail
    refine ⟨by simp, .inl ⟨_, _, rfl, run_takeDeferred HKD.out, ?_⟩⟩
    have hbel : Below w.heap.size w W := HB2.out.trans (HT.out.below (fun k hk => by omega) (by omega))
    exact ⟨_, results_tmp rfl _ _ _, rfl, put_below hbel (by omega)⟩
end Go.Proofs.Ytghnkhpjblnabaa
