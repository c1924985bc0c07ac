/- The first one of some hours; when a cloth can be taken out. -/
import Derived.Test.YtdhkgpfcanekkaaKq
import Derived.Test.YtdhkgpfcanekkaaMb
namespace Go.Proofs.Ytdhkgpfcanekkaa
open Go Go.RowKit Go.Shelf
attribute [local go_sem] Oper.semAt_some

theorem turn_setK {T : Nat → Prop} {W : World} {b : Nat} (hb : T b) (o : Nat) (v : Value) : Turn T W (W.setCell ⟨b, o, none⟩ v) :=
  ⟨rfl, rfl, rfl, by simp [World.setCell], fun k _ hk => Below.heap_setCell _ _ _ _ (fun e => hk (e ▸ hb))⟩
theorem row1_set {W : World} {b : Nat} {u v : Value} {t : TypeId} (h : W.heap[b]? = some (.cells #[u] t (0, 0))) : (W.setCell ⟨b, 0, none⟩ v).heap[b]? = some (.cells #[v] t (0, 0)) := by
  rw [heap_setCell_same _ _ _ _ _ _ h]; rfl
set_option maxRecDepth 20000 in
set_option maxHeartbeats 6400000 in
theorem kfirst_any (gf : FuncId) (lb : Array Value) (S : Nat → Prop) (xs : List Nat) (w : World) (eg : ∀ args w, (callFunc gf args).run Try.prog w = .ok (.enter gf args) w)
    (hseq : SeqL Try.prog gf lb (fun (h : Nat) => #[iv h]) S xs w) (hS : ∀ k, S k → k < w.heap.size) :
    Calls Try.prog 47 #[.func (.func gf) #[] lb] w fun e w' => e = .returned (.tuple #[iv (xs.head?.getD 0 : Nat), .bool xs.head?.isSome]) ∧ Below w.heap.size w w' := by
  have HQ := Lib.hid hseq; have HEG := Lib.hid eg; have HS := Lib.hid hS
  clear hseq eg hS
  refine (callsIn_wide (n := 3)).1 ?_
  obtain ⟨W0, hW0⟩ : ∃ W0 : World, (w.alloc (.cells #[iv 0] 3)).alloc (.cells #[.bool false] 4) = W0 := ⟨_, rfl⟩
  have hB0 : Below w.heap.size w W0 := by rw [← hW0]; exact bpush (bpush (Below.refl _ _) _) _
  have hz0 : W0.heap.size = w.heap.size + 2 := by rw [← hW0]; simp
  have hr0 : W0.heap[w.heap.size]? = some (.cells #[iv 0] 3 (0, 0)) := by rw [← hW0, Below.heap_alloc _ _ _ (by simp)]; exact heap_new _ _ _
  have hr1 : W0.heap[w.heap.size + 1]? = some (.cells #[.bool false] 4 (0, 0)) := by
    rw [← hW0]
    have := heap_new (w.alloc (.cells #[iv 0] 3)) #[.bool false] 4
    rwa [World.size_alloc] at this
  have HB0 := Lib.hid hB0; have HR0 := Lib.hid hr0; have HR1 := Lib.hid hr1
  clear hB0 hr0 hr1
  refine callsIn_of_wp_marks Try.func47 rfl trivial ?_ rfl
  simp only [Try.ntmps47, List.size_toArray, List.length_cons, List.length_nil, Nat.reduceAdd, Nat.reduceSub, Array.replicate_succ, Array.replicate_zero, List.push_toArray, List.append_toArray, List.nil_append, List.cons_append]
  gi_wp2_with fail
  refine rangeB (gf := gf) (lb := lb) rfl HEG.out (HQ.out.later (SameOn.of_below HB0.out HS.out)) (fun _ => rfl) (fun k hk => by have := HS.out k hk; omega)
    (fun j => j = w.heap.size ∨ j = w.heap.size + 1) (fun k hk => by omega) (fun k hk => by have := HS.out k hk; omega)
    (fun pre W => pre = [] ∧ W.heap[w.heap.size]? = some (.cells #[iv 0] 3 (0, 0)) ∧ W.heap[w.heap.size + 1]? = some (.cells #[.bool false] 4 (0, 0)))
    (fun c W => c = .ret ∧ ∃ h, xs.head? = some h ∧ W.heap[w.heap.size]? = some (.cells #[iv h] 3 (0, 0)) ∧ W.heap[w.heap.size + 1]? = some (.cells #[.bool true] 4 (0, 0)))
    (fun s W W' ⟨h1, h2, h3⟩ hx => ⟨h1, (hx _ (.inl rfl)).trans h2, (hx _ (.inr rfl)).trans h3⟩) (fun c W W' ⟨h1, h, h2, h3, h4⟩ hx => ⟨h1, h, h2, (hx _ (.inl rfl)).trans h3, (hx _ (.inr rfl)).trans h4⟩)
    ⟨rfl, HR0.out, HR1.out⟩ ?round ?done ?stop
  case round =>
    rintro l pre x W hpre htn ⟨rfl, -, -⟩ K hK
    have HK := Lib.hid hK; clear hK
    have hhd : xs.head? = some x := by obtain ⟨t, rfl⟩ := hpre; rfl
    have HHD := Lib.hid hhd
    clear hpre htn hhd
    gi_wp2_with fail
    refine HK.out _ _ (Below.refl _ _) ?_
    clear HK
    rintro W2 ht2 ⟨-, i1, i2⟩ hs2 hcell
    have c0 : W2.cell? ⟨w.heap.size, 0, none⟩ = some (iv 0) := by rw [cell_of_row _ _ _ _ _ _ i1]; rfl
    have c1 : W2.cell? ⟨w.heap.size + 1, 0, none⟩ = some (.bool false) := by rw [cell_of_row _ _ _ _ _ _ i2]; rfl
    have f0 : W2.frozen? ⟨w.heap.size, 0, none⟩ = false := frozen_of_row _ _ _ _ _ i1
    have f1 : W2.frozen? ⟨w.heap.size + 1, 0, none⟩ = false := frozen_of_row _ _ _ _ _ i2
    have HI := Lib.hid (And.intro i1 i2)
    clear ht2 i1 i2 hs2 hcell
    gi_wp2_with fail
    refine ⟨(turn_setK (.inl rfl) 0 _).trans (turn_setK (.inr rfl) 0 _), rfl, x, HHD.out, ?_, ?_⟩
    · rw [Below.heap_setCell _ _ _ _ (by simp)]; exact row1_set HI.out.1
    · exact row1_set ((Below.heap_setCell _ _ _ _ (by simp)).trans HI.out.2)
  case done =>
    rintro W htn ⟨hnil, i1, i2⟩ hK
    have HT := Lib.hid htn; have HKD := Lib.hid hK; have HN := Lib.hid hnil
    have c0 : W.cell? ⟨w.heap.size, 0, none⟩ = some (iv 0) := by rw [cell_of_row _ _ _ _ _ _ i1]; rfl
    have c1 : W.cell? ⟨w.heap.size + 1, 0, none⟩ = some (.bool false) := by rw [cell_of_row _ _ _ _ _ _ i2]; rfl
    have f0 : W.frozen? ⟨w.heap.size, 0, none⟩ = false := frozen_of_row _ _ _ _ _ i1
    have f1 : W.frozen? ⟨w.heap.size + 1, 0, none⟩ = false := frozen_of_row _ _ _ _ _ i2
    have HI := Lib.hid (And.intro i1 i2)
    clear htn hK i1 i2 hnil
    gi_wp2_with fail
    have g0 : ((W.setCell ⟨w.heap.size, 0, none⟩ (iv 0)).setCell ⟨w.heap.size + 1, 0, none⟩ (.bool false)).heap[w.heap.size]? = some (.cells #[iv 0] 3 (0, 0)) := by
      rw [Below.heap_setCell _ _ _ _ (by simp)]; exact row1_set HI.out.1
    have g1 : ((W.setCell ⟨w.heap.size, 0, none⟩ (iv 0)).setCell ⟨w.heap.size + 1, 0, none⟩ (.bool false)).heap[w.heap.size + 1]? = some (.cells #[.bool false] 4 (0, 0)) :=
      row1_set ((Below.heap_setCell _ _ _ _ (by simp)).trans HI.out.2)
    have gD : ((W.setCell ⟨w.heap.size, 0, none⟩ (iv 0)).setCell ⟨w.heap.size + 1, 0, none⟩ (.bool false)).heap[W0.heap.size]? = some (.deferred (some [])) := by
      rw [Below.heap_setCell _ _ _ _ (by show W0.heap.size ≠ w.heap.size + 1; omega), Below.heap_setCell _ _ _ _ (by show W0.heap.size ≠ w.heap.size; omega)]; exact HKD.out
    have gB : Below w.heap.size w ((W.setCell ⟨w.heap.size, 0, none⟩ (iv 0)).setCell ⟨w.heap.size + 1, 0, none⟩ (.bool false)) :=
      bput (bput (HB0.out.trans (HT.out.below (fun k hk => by omega) (by omega))) (Nat.le_refl _) _) (Nat.le_succ _) _
    generalize ((W.setCell ⟨w.heap.size, 0, none⟩ (iv 0)).setCell ⟨w.heap.size + 1, 0, none⟩ (.bool false)) = WF at *
    have p0 := put_cell (o := .deferred none) gD (a := ⟨w.heap.size, 0, none⟩) (v := iv 0) (by rw [cell_of_row _ _ _ _ _ _ g0]; rfl)
    have p1 := put_cell (o := .deferred none) gD (a := ⟨w.heap.size + 1, 0, none⟩) (v := .bool false) (by rw [cell_of_row _ _ _ _ _ _ g1]; rfl)
    refine ⟨by simp, .inl ⟨_, _, rfl, run_takeDeferred gD, ?_⟩⟩
    exact ⟨.tuple #[iv 0, .bool false], by simp [results, Try.results47, go_sem, p0, p1], by rw [HN.out]; rfl, put_below gB (by omega)⟩
  case stop =>
    rintro c W htn ⟨rfl, h, hh, i1, i2⟩ hK
    have HT := Lib.hid htn; have HKD := Lib.hid hK; have HH := Lib.hid hh
    have HI := Lib.hid (And.intro i1 i2)
    clear htn hK i1 i2 hh
    gi_wp2_with fail
    have gB : Below w.heap.size w W := HB0.out.trans (HT.out.below (fun k hk => by omega) (by omega))
    have p0 := put_cell (o := .deferred none) HKD.out (a := ⟨w.heap.size, 0, none⟩) (v := iv h) (by rw [cell_of_row _ _ _ _ _ _ HI.out.1]; rfl)
    have p1 := put_cell (o := .deferred none) HKD.out (a := ⟨w.heap.size + 1, 0, none⟩) (v := .bool true) (by rw [cell_of_row _ _ _ _ _ _ HI.out.2]; rfl)
    refine ⟨by simp, .inl ⟨_, _, rfl, run_takeDeferred HKD.out, ?_⟩⟩
    exact ⟨.tuple #[iv h, .bool true], by simp [results, Try.results47, go_sem, p0, p1], by rw [HH.out]; rfl, put_below gB (by omega)⟩
end Go.Proofs.Ytdhkgpfcanekkaa
