/- What a mix costs, whether it stains, what it takes. -/
import Derived.Test.YtfdahmdehmhllaaJe
namespace Go.Proofs.Ytfdahmdehmhllaa
open Go Go.RowKit Go.Shelf

/-- What together does on the cells that lay there. -/
abbrev TogC (f : So → Int) (gf : FuncId) (c : Gc) (L : List So) (M : List Int) (sa va : Option Addr) (sc vc : Nat) (w : World) : Prop :=
  ∀ W, Below w.heap.size w W → Calls Try.prog 48 #[jv c (.slice sa L.length sc), .slice va M.length vc, .func (.func gf) #[] #[]] W fun e w' => e = .returned (iv (togL f L M).sum) ∧ Below W.heap.size W w'
/-- A mix of a store whose sorts are valid. -/
structure MixIn (L : List So) (M : List Int) (sa va : Option Addr) (sc vc : Nat) (w : World) : Prop where
  len : L.length = M.length
  few : M.length ≤ 4
  mix : ∀ m ∈ M, 0 ≤ m ∧ m ≤ 12
  sort : ∀ s ∈ L, vSo s = true
  st : SliceOf encSo 5 w (.slice sa L.length sc) L
  mx : Ints w (.slice va M.length vc) M
theorem togC {f : So → Int} {gf : FuncId} (c : Gc) {L : List So} {M : List Int} {sa va : Option Addr} {sc vc : Nat} {w : World} (h : MixIn L M sa va sc vc w) (eg : ∀ args w, (callFunc gf args).run Try.prog w = .ok (.enter gf args) w)
    (hf : ∀ s W, Calls Try.prog gf #[.agg (encSo s).toArray] W fun e W' => e = .returned (iv (f s)) ∧ Below W.heap.size W W') (hF : ∀ s ∈ L, 0 ≤ f s ∧ f s ≤ 1000000) : TogC f gf c L M sa va sc vc w :=
  fun W hb => together_any f gf c L M sa va sc vc W eg hf h.len h.few h.mix hF (h.st.below hb) (h.mx.below hb)
set_option maxHeartbeats 1600000 in
theorem price_any (c : Gc) (L : List So) (M : List Int) (sa va : Option Addr) (sc vc : Nat) (w : World) (h : MixIn L M sa va sc vc w) :
    Calls Try.prog 32 #[jv c (.slice sa L.length sc), .slice va M.length vc] w fun e w' => e = .returned (iv (togL (·.pr) L M).sum) ∧ Below w.heap.size w w' := by
  have HT := Lib.hid (togC (f := (·.pr)) c h (enters_of Try.func49 (by kernel_rfl) rfl) (fun s W => selPr_any s W) (fun s hs => by have := vSo_iff.1 (h.sort s hs); omega))
  clear h
  obtain ⟨Wn, hWn⟩ : ∃ Wn : World, w.alloc (.cells #[iv c.wl, iv c.wh, iv c.gl, iv c.gh, iv c.be, .slice sa L.length sc] 74) = Wn := ⟨_, rfl⟩
  have hbW : Below w.heap.size w Wn := by rw [← hWn]; exact bpush (Below.refl _ _) _
  have hrw : Wn.heap[w.heap.size]? = some (.cells #[iv c.wl, iv c.wh, iv c.gl, iv c.gh, iv c.be, .slice sa L.length sc] 74 (0, 0)) := by rw [← hWn]; exact heap_new _ _ _
  have hzW : Wn.heap.size = w.heap.size + 1 := by rw [← hWn]; simp
  have c0 : Wn.cell? ⟨w.heap.size, 0, none⟩ = some (iv c.wl) := by rw [cell_of_row _ _ _ _ _ _ hrw]; rfl
  have c1 : Wn.cell? ⟨w.heap.size, 1, none⟩ = some (iv c.wh) := by rw [cell_of_row _ _ _ _ _ _ hrw]; rfl
  have c2 : Wn.cell? ⟨w.heap.size, 2, none⟩ = some (iv c.gl) := by rw [cell_of_row _ _ _ _ _ _ hrw]; rfl
  have c3 : Wn.cell? ⟨w.heap.size, 3, none⟩ = some (iv c.gh) := by rw [cell_of_row _ _ _ _ _ _ hrw]; rfl
  have c4 : Wn.cell? ⟨w.heap.size, 4, none⟩ = some (iv c.be) := by rw [cell_of_row _ _ _ _ _ _ hrw]; rfl
  have c5 : Wn.cell? ⟨w.heap.size, 5, none⟩ = some (.slice sa L.length sc) := by rw [cell_of_row _ _ _ _ _ _ hrw]; rfl
  clear hrw
  go_enter Try.func32, Try.ntmps32
  go_wp2_with fail
  refine (HT.out _ hbW).mono ?_
  rintro e w1 ⟨rfl, hb1⟩
  have HB1 := Lib.hid (bstep hbW hb1); clear hb1
  go_wp2_with fail
  go_ret
  exact ⟨rfl, HB1.out⟩
set_option maxHeartbeats 1600000 in
theorem stains_any (c : Gc) (L : List So) (M : List Int) (sa va : Option Addr) (sc vc : Nat) (w : World) (h : MixIn L M sa va sc vc w) :
    Calls Try.prog 34 #[jv c (.slice sa L.length sc), .slice va M.length vc] w fun e w' => e = .returned (.bool (decide (c.be < (togL (·.st) L M).sum))) ∧ Below w.heap.size w w' := by
  have HT := Lib.hid (togC (f := (·.st)) c h (enters_of Try.func52 (by kernel_rfl) rfl) (fun s W => selSt_any s W) (fun s hs => by have := vSo_iff.1 (h.sort s hs); omega))
  clear h
  obtain ⟨Wn, hWn⟩ : ∃ Wn : World, w.alloc (.cells #[iv c.wl, iv c.wh, iv c.gl, iv c.gh, iv c.be, .slice sa L.length sc] 74) = Wn := ⟨_, rfl⟩
  have hbW : Below w.heap.size w Wn := by rw [← hWn]; exact bpush (Below.refl _ _) _
  have hrw : Wn.heap[w.heap.size]? = some (.cells #[iv c.wl, iv c.wh, iv c.gl, iv c.gh, iv c.be, .slice sa L.length sc] 74 (0, 0)) := by rw [← hWn]; exact heap_new _ _ _
  have hzW : Wn.heap.size = w.heap.size + 1 := by rw [← hWn]; simp
  have c0 : Wn.cell? ⟨w.heap.size, 0, none⟩ = some (iv c.wl) := by rw [cell_of_row _ _ _ _ _ _ hrw]; rfl
  have c1 : Wn.cell? ⟨w.heap.size, 1, none⟩ = some (iv c.wh) := by rw [cell_of_row _ _ _ _ _ _ hrw]; rfl
  have c2 : Wn.cell? ⟨w.heap.size, 2, none⟩ = some (iv c.gl) := by rw [cell_of_row _ _ _ _ _ _ hrw]; rfl
  have c3 : Wn.cell? ⟨w.heap.size, 3, none⟩ = some (iv c.gh) := by rw [cell_of_row _ _ _ _ _ _ hrw]; rfl
  have c4 : Wn.cell? ⟨w.heap.size, 4, none⟩ = some (iv c.be) := by rw [cell_of_row _ _ _ _ _ _ hrw]; rfl
  have c5 : Wn.cell? ⟨w.heap.size, 5, none⟩ = some (.slice sa L.length sc) := by rw [cell_of_row _ _ _ _ _ _ hrw]; rfl
  clear hrw
  go_enter Try.func34, Try.ntmps34
  go_wp2_with fail
  go_region_held3 (fun w' => w'.cell? ⟨w.heap.size, 0, none⟩ = some (iv c.wl) ∧ w'.cell? ⟨w.heap.size, 1, none⟩ = some (iv c.wh) ∧ w'.cell? ⟨w.heap.size, 2, none⟩ = some (iv c.gl) ∧ w'.cell? ⟨w.heap.size, 3, none⟩ = some (iv c.gh) ∧ w'.cell? ⟨w.heap.size, 4, none⟩ = some (iv c.be) ∧ w'.cell? ⟨w.heap.size, 5, none⟩ = some (.slice sa L.length sc) ∧ Below w.heap.size w w')
    (first | (go_split_ands; refine ⟨?_, ?_, ?_, ?_, ?_, ?_, ?_⟩ <;> first | assumption | exact kcell hbK (by assumption) | exact kfrozen hbK (by assumption) (by assumption) | exact bstep (by assumption) hbK | exact SliceOf.below (by assumption) hbK) | (refine ⟨?_, ?_, ?_, ?_, ?_, ?_, ?_⟩ <;> first | exact Below.drew (by assumption) | exact SliceOf.below (by assumption) ((Below.refl _ _).drew) | assumption))
    (first | (go_split_ands; (with_reducible refine (HT.out _ (by assumption)).mono ?_); rintro e wO ⟨rfl, hbK⟩))
  all_goals
    rename_i hHeld
    have HHB := Lib.hid hHeld.2.2.2.2.2.2
    clear hHeld
    go_wp2_with fail
    go_ret
    exact ⟨rfl, HHB.out⟩
theorem keepJ {c : Gc} {w X : World} {u v : Value} (h : X.cell? ⟨w.heap.size, 0, none⟩ = some (iv c.wl) ∧ X.cell? ⟨w.heap.size, 1, none⟩ = some (iv c.wh) ∧ X.cell? ⟨w.heap.size, 2, none⟩ = some (iv c.gl) ∧ X.cell? ⟨w.heap.size, 3, none⟩ = some (iv c.gh) ∧ X.cell? ⟨w.heap.size + 1, 0, none⟩ = some (cv X (w.heap.size + 1) 0) ∧ X.cell? ⟨w.heap.size + 1, 1, none⟩ = some (cv X (w.heap.size + 1) 1) ∧ X.frozen? ⟨w.heap.size + 1, 0, none⟩ = false ∧ X.frozen? ⟨w.heap.size + 1, 1, none⟩ = false ∧ Below w.heap.size w X) : ((X.setCell ⟨w.heap.size + 1, 0, none⟩ u).setCell ⟨w.heap.size + 1, 1, none⟩ v).cell? ⟨w.heap.size, 0, none⟩ = some (iv c.wl) ∧ ((X.setCell ⟨w.heap.size + 1, 0, none⟩ u).setCell ⟨w.heap.size + 1, 1, none⟩ v).cell? ⟨w.heap.size, 1, none⟩ = some (iv c.wh) ∧ ((X.setCell ⟨w.heap.size + 1, 0, none⟩ u).setCell ⟨w.heap.size + 1, 1, none⟩ v).cell? ⟨w.heap.size, 2, none⟩ = some (iv c.gl) ∧ ((X.setCell ⟨w.heap.size + 1, 0, none⟩ u).setCell ⟨w.heap.size + 1, 1, none⟩ v).cell? ⟨w.heap.size, 3, none⟩ = some (iv c.gh) ∧ ((X.setCell ⟨w.heap.size + 1, 0, none⟩ u).setCell ⟨w.heap.size + 1, 1, none⟩ v).cell? ⟨w.heap.size + 1, 0, none⟩ = some (cv ((X.setCell ⟨w.heap.size + 1, 0, none⟩ u).setCell ⟨w.heap.size + 1, 1, none⟩ v) (w.heap.size + 1) 0) ∧ ((X.setCell ⟨w.heap.size + 1, 0, none⟩ u).setCell ⟨w.heap.size + 1, 1, none⟩ v).cell? ⟨w.heap.size + 1, 1, none⟩ = some (cv ((X.setCell ⟨w.heap.size + 1, 0, none⟩ u).setCell ⟨w.heap.size + 1, 1, none⟩ v) (w.heap.size + 1) 1) ∧ ((X.setCell ⟨w.heap.size + 1, 0, none⟩ u).setCell ⟨w.heap.size + 1, 1, none⟩ v).frozen? ⟨w.heap.size + 1, 0, none⟩ = false ∧ ((X.setCell ⟨w.heap.size + 1, 0, none⟩ u).setCell ⟨w.heap.size + 1, 1, none⟩ v).frozen? ⟨w.heap.size + 1, 1, none⟩ = false ∧ Below w.heap.size w ((X.setCell ⟨w.heap.size + 1, 0, none⟩ u).setCell ⟨w.heap.size + 1, 1, none⟩ v) := by
  obtain ⟨h1, h2, h3, h4, h5, h6, h7, h8, h9⟩ := h
  have hb := bput2 (u := u) (v := v) h9 (Nat.le_succ w.heap.size)
  have hsame : ∀ b o, b ≠ w.heap.size + 1 → ((X.setCell ⟨w.heap.size + 1, 0, none⟩ u).setCell ⟨w.heap.size + 1, 1, none⟩ v).cell? ⟨b, o, none⟩ = X.cell? ⟨b, o, none⟩ := fun b o hne =>
    World.cell?_of_block ((Below.heap_setCell _ _ _ _ hne).trans (Below.heap_setCell _ _ _ _ hne))
  have c0 : ((X.setCell ⟨w.heap.size + 1, 0, none⟩ u).setCell ⟨w.heap.size + 1, 1, none⟩ v).cell? ⟨w.heap.size + 1, 0, none⟩ = some u := by go_simp
  have c1 : ((X.setCell ⟨w.heap.size + 1, 0, none⟩ u).setCell ⟨w.heap.size + 1, 1, none⟩ v).cell? ⟨w.heap.size + 1, 1, none⟩ = some v := by go_simp
  refine ⟨(hsame _ _ (by omega)).trans h1, (hsame _ _ (by omega)).trans h2, (hsame _ _ (by omega)).trans h3, (hsame _ _ (by omega)).trans h4, cv_of c0, cv_of c1, ?_, ?_, hb⟩
  · go_simp
  · go_simp
set_option maxHeartbeats 3200000 in
theorem ounces_any (c : Gc) (sv : Value) (w : World) (hc : vGc c = true) :
    Calls Try.prog 18 #[jv c sv] w fun e w' => e = .returned (.agg #[iv (grsI c.wl c.gl), iv (grsI c.wh c.gh)]) ∧ Below w.heap.size w w' := by
  have hv := vGc_iff.1 hc
  have HG1 : Hid (∀ W : World, Calls Try.prog 29 #[iv c.wl, iv c.gl] W fun e w' => e = .returned (iv (grsI c.wl c.gl)) ∧ w' = W) := fun W => grease_any _ _ W (by omega) (by omega)
  have HG2 : Hid (∀ W : World, Calls Try.prog 29 #[iv c.wh, iv c.gh] W fun e w' => e = .returned (iv (grsI c.wh c.gh)) ∧ w' = W) := fun W => grease_any _ _ W (by omega) (by omega)
  clear hc hv
  obtain ⟨Wn, hWn⟩ : ∃ Wn : World, (w.alloc (.cells #[iv c.wl, iv c.wh, iv c.gl, iv c.gh, iv c.be, sv] 74)).alloc (.cells #[iv 0, iv 0] 43) = Wn := ⟨_, rfl⟩
  have hBw : Below w.heap.size w Wn := by rw [← hWn]; exact bpush (bpush (Below.refl _ _) _) _
  have c0 : Wn.cell? ⟨w.heap.size, 0, none⟩ = some (iv c.wl) := by subst hWn; go_simp
  have c1 : Wn.cell? ⟨w.heap.size, 1, none⟩ = some (iv c.wh) := by subst hWn; go_simp
  have c2 : Wn.cell? ⟨w.heap.size, 2, none⟩ = some (iv c.gl) := by subst hWn; go_simp
  have c3 : Wn.cell? ⟨w.heap.size, 3, none⟩ = some (iv c.gh) := by subst hWn; go_simp
  have z0 : Wn.cell? ⟨w.heap.size + 1, 0, none⟩ = some (iv 0) := by subst hWn; go_simp
  have z1 : Wn.cell? ⟨w.heap.size + 1, 1, none⟩ = some (iv 0) := by subst hWn; go_simp
  have y0 : Wn.frozen? ⟨w.heap.size + 1, 0, none⟩ = false := by subst hWn; go_simp
  have y1 : Wn.frozen? ⟨w.heap.size + 1, 1, none⟩ = false := by subst hWn; go_simp
  have zz0 := cv_of z0
  have zz1 := cv_of z1
  clear z0 z1
  go_enter Try.func18, Try.ntmps18
  go_wp2_with fail
  clear hWn
  go_region_held3 (fun w' => w'.cell? ⟨w.heap.size, 0, none⟩ = some (iv c.wl) ∧ w'.cell? ⟨w.heap.size, 1, none⟩ = some (iv c.wh) ∧ w'.cell? ⟨w.heap.size, 2, none⟩ = some (iv c.gl) ∧ w'.cell? ⟨w.heap.size, 3, none⟩ = some (iv c.gh) ∧ w'.cell? ⟨w.heap.size + 1, 0, none⟩ = some (cv w' (w.heap.size + 1) 0) ∧ w'.cell? ⟨w.heap.size + 1, 1, none⟩ = some (cv w' (w.heap.size + 1) 1) ∧ w'.frozen? ⟨w.heap.size + 1, 0, none⟩ = false ∧ w'.frozen? ⟨w.heap.size + 1, 1, none⟩ = false ∧ Below w.heap.size w w')
    (first | exact keepJ (by assumption) | (go_split_ands; refine ⟨?_, ?_, ?_, ?_, ?_, ?_, ?_, ?_, ?_⟩ <;> first | assumption | exact Below.drew (by assumption)))
    (first | ((with_reducible refine (HG1.out _).mono ?_); rintro e wO ⟨rfl, rfl⟩) | ((with_reducible refine (HG2.out _).mono ?_); rintro e wO ⟨rfl, rfl⟩))
  all_goals
    rename_i hHeld
    obtain ⟨-, -, -, -, -, -, -, -, hBB⟩ := hHeld
    have HBB := Lib.hid hBB
    clear hBB c0 c1 c2 c3 y0 y1
    go_wp2_with fail
    exact bodyPost_ret (v := .agg #[iv (grsI c.wl c.gl), iv (grsI c.wh c.gh)]) (by simp [results, Try.results18, go_sem, zz0, zz1]) rfl ⟨rfl, HBB.out⟩
end Go.Proofs.Ytfdahmdehmhllaa
