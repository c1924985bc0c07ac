/- By how much a mix takes more grease than the cloth has. -/
import Derived.Test.YtfdahmdehmhllaaJf
namespace Go.Proofs.Ytfdahmdehmhllaa
open Go Go.RowKit Go.Shelf

def ovLo (c : Gc) (L : List So) (M : List Int) : Int := (togL (·.tl) L M).sum - grsI c.wh c.gh
def ovHi (c : Gc) (L : List So) (M : List Int) : Int := (togL (·.th) L M).sum - grsI c.wl c.gl
theorem keepO {c : Gc} {w X : World} {u v sv x y : Value} {b : Nat} (hb0 : w.heap.size + 1 < b) (h : X.cell? ⟨w.heap.size, 0, none⟩ = some (iv c.wl) ∧ X.cell? ⟨w.heap.size, 1, none⟩ = some (iv c.wh) ∧ X.cell? ⟨w.heap.size, 2, none⟩ = some (iv c.gl) ∧ X.cell? ⟨w.heap.size, 3, none⟩ = some (iv c.gh) ∧ X.cell? ⟨w.heap.size, 4, none⟩ = some (iv c.be) ∧ X.cell? ⟨w.heap.size, 5, none⟩ = some sv ∧ X.cell? ⟨b, 0, none⟩ = some x ∧ X.cell? ⟨b, 1, none⟩ = some y ∧ X.cell? ⟨w.heap.size + 1, 0, none⟩ = some (cv X (w.heap.size + 1) 0) ∧ X.cell? ⟨w.heap.size + 1, 1, none⟩ = some (cv X (w.heap.size + 1) 1) ∧ X.frozen? ⟨w.heap.size + 1, 0, none⟩ = false ∧ X.frozen? ⟨w.heap.size + 1, 1, none⟩ = false ∧ Below w.heap.size w X) : ((X.setCell ⟨w.heap.size + 1, 0, none⟩ u).setCell ⟨w.heap.size + 1, 1, none⟩ v).cell? ⟨w.heap.size, 0, none⟩ = some (iv c.wl) ∧ ((X.setCell ⟨w.heap.size + 1, 0, none⟩ u).setCell ⟨w.heap.size + 1, 1, none⟩ v).cell? ⟨w.heap.size, 1, none⟩ = some (iv c.wh) ∧ ((X.setCell ⟨w.heap.size + 1, 0, none⟩ u).setCell ⟨w.heap.size + 1, 1, none⟩ v).cell? ⟨w.heap.size, 2, none⟩ = some (iv c.gl) ∧ ((X.setCell ⟨w.heap.size + 1, 0, none⟩ u).setCell ⟨w.heap.size + 1, 1, none⟩ v).cell? ⟨w.heap.size, 3, none⟩ = some (iv c.gh) ∧ ((X.setCell ⟨w.heap.size + 1, 0, none⟩ u).setCell ⟨w.heap.size + 1, 1, none⟩ v).cell? ⟨w.heap.size, 4, none⟩ = some (iv c.be) ∧ ((X.setCell ⟨w.heap.size + 1, 0, none⟩ u).setCell ⟨w.heap.size + 1, 1, none⟩ v).cell? ⟨w.heap.size, 5, none⟩ = some sv ∧ ((X.setCell ⟨w.heap.size + 1, 0, none⟩ u).setCell ⟨w.heap.size + 1, 1, none⟩ v).cell? ⟨b, 0, none⟩ = some x ∧ ((X.setCell ⟨w.heap.size + 1, 0, none⟩ u).setCell ⟨w.heap.size + 1, 1, none⟩ v).cell? ⟨b, 1, none⟩ = some y ∧ ((X.setCell ⟨w.heap.size + 1, 0, none⟩ u).setCell ⟨w.heap.size + 1, 1, none⟩ v).cell? ⟨w.heap.size + 1, 0, none⟩ = some (cv ((X.setCell ⟨w.heap.size + 1, 0, none⟩ u).setCell ⟨w.heap.size + 1, 1, none⟩ v) (w.heap.size + 1) 0) ∧ ((X.setCell ⟨w.heap.size + 1, 0, none⟩ u).setCell ⟨w.heap.size + 1, 1, none⟩ v).cell? ⟨w.heap.size + 1, 1, none⟩ = some (cv ((X.setCell ⟨w.heap.size + 1, 0, none⟩ u).setCell ⟨w.heap.size + 1, 1, none⟩ v) (w.heap.size + 1) 1) ∧ ((X.setCell ⟨w.heap.size + 1, 0, none⟩ u).setCell ⟨w.heap.size + 1, 1, none⟩ v).frozen? ⟨w.heap.size + 1, 0, none⟩ = false ∧ ((X.setCell ⟨w.heap.size + 1, 0, none⟩ u).setCell ⟨w.heap.size + 1, 1, none⟩ v).frozen? ⟨w.heap.size + 1, 1, none⟩ = false ∧ Below w.heap.size w ((X.setCell ⟨w.heap.size + 1, 0, none⟩ u).setCell ⟨w.heap.size + 1, 1, none⟩ v) := by
  obtain ⟨h1, h2, h3, h4, q1, q2, q3, q4, h5, h6, h7, h8, h9⟩ := h
  have hb := bput2 (u := u) (v := v) h9 (Nat.le_succ w.heap.size)
  have hsame : ∀ b o, b ≠ w.heap.size + 1 → ((X.setCell ⟨w.heap.size + 1, 0, none⟩ u).setCell ⟨w.heap.size + 1, 1, none⟩ v).cell? ⟨b, o, none⟩ = X.cell? ⟨b, o, none⟩ := fun b o hne =>
    World.cell?_of_block ((Below.heap_setCell _ _ _ _ hne).trans (Below.heap_setCell _ _ _ _ hne))
  have c0 : ((X.setCell ⟨w.heap.size + 1, 0, none⟩ u).setCell ⟨w.heap.size + 1, 1, none⟩ v).cell? ⟨w.heap.size + 1, 0, none⟩ = some u := by go_simp
  have c1 : ((X.setCell ⟨w.heap.size + 1, 0, none⟩ u).setCell ⟨w.heap.size + 1, 1, none⟩ v).cell? ⟨w.heap.size + 1, 1, none⟩ = some v := by go_simp
  refine ⟨(hsame _ _ (by omega)).trans h1, (hsame _ _ (by omega)).trans h2, (hsame _ _ (by omega)).trans h3, (hsame _ _ (by omega)).trans h4, (hsame _ _ (by omega)).trans q1, (hsame _ _ (by omega)).trans q2, (hsame _ _ (by omega)).trans q3, (hsame _ _ (by omega)).trans q4, cv_of c0, cv_of c1, ?_, ?_, hb⟩
  · go_simp
  · go_simp
set_option maxHeartbeats 6400000 in
theorem over_any (c : Gc) (L : List So) (M : List Int) (sa va : Option Addr) (sc vc : Nat) (w : World) (hc : vGc c = true) (h : MixIn L M sa va sc vc w) :
    Calls Try.prog 33 #[jv c (.slice sa L.length sc), .slice va M.length vc] w fun e w' => e = .returned (.agg #[iv (ovLo c L M), iv (ovHi c L M)]) ∧ Below w.heap.size w w' := by
  have HT1 := Lib.hid (togC (f := (·.tl)) c h (enters_of Try.func50 (by kernel_rfl) rfl) (fun s W => selTl_any s W) (fun s hs => by have := vSo_iff.1 (h.sort s hs); omega))
  have HT2 := Lib.hid (togC (f := (·.th)) c h (enters_of Try.func51 (by kernel_rfl) rfl) (fun s W => selTh_any s W) (fun s hs => by have := vSo_iff.1 (h.sort s hs); omega))
  have HO := Lib.hid (fun W => ounces_any c (.slice sa L.length sc) W hc)
  have hs1 := sum_bdk (K := 12000000) (by omega) (togL (·.tl) L M) (fun x hx => by have := togL_bd (f := (·.tl)) h.mix (fun s hs => by have := vSo_iff.1 (h.sort s hs); omega) x hx; omega)
  have hs2 := sum_bdk (K := 12000000) (by omega) (togL (·.th) L M) (fun x hx => by have := togL_bd (f := (·.th)) h.mix (fun s hs => by have := vSo_iff.1 (h.sort s hs); omega) x hx; omega)
  have hl1 : (togL (·.tl) L M).length ≤ 4 := by have := h.few; simp [togL]; omega
  have hl2 : (togL (·.th) L M).length ≤ 4 := by have := h.few; simp [togL]; omega
  have hg := vGc_iff.1 hc
  have hgr : ∀ a b, 0 ≤ a → a ≤ 2000 → 0 ≤ b → b ≤ 300 → 0 ≤ grsI a b ∧ grsI a b ≤ 700 := by
    intro a b h1 h2 h3 h4
    have h5 : 0 ≤ a * b := Int.mul_nonneg h1 h3
    have h6 : a * b ≤ 2000 * 300 := Int.mul_le_mul h2 h4 h3 (by omega)
    unfold grsI; omega
  have hg1 := hgr c.wl c.gl (by omega) (by omega) (by omega) (by omega)
  have hg2 := hgr c.wh c.gh (by omega) (by omega) (by omega) (by omega)
  have e1 : IntKind.i64.wrap ((togL (·.tl) L M).sum - grsI c.wh c.gh) = ovLo c L M := IntWalk.i64_in _ ⟨by omega, by omega⟩
  have e2 : IntKind.i64.wrap ((togL (·.th) L M).sum - grsI c.wl c.gl) = ovHi c L M := IntWalk.i64_in _ ⟨by omega, by omega⟩
  clear h hs1 hs2 hl1 hl2 hg hgr hg1 hg2
  obtain ⟨Wn, hWn⟩ : ∃ Wn : World, (w.alloc (.cells #[iv c.wl, iv c.wh, iv c.gl, iv c.gh, iv c.be, .slice sa L.length sc] 74)).alloc (.cells #[iv 0, iv 0] 43) = Wn := ⟨_, rfl⟩
  have hBw : Below w.heap.size w Wn := by rw [← hWn]; exact bpush (bpush (Below.refl _ _) _) _
  have c0 : Wn.cell? ⟨w.heap.size, 0, none⟩ = some (iv c.wl) := by subst hWn; go_simp
  have c1 : Wn.cell? ⟨w.heap.size, 1, none⟩ = some (iv c.wh) := by subst hWn; go_simp
  have c2 : Wn.cell? ⟨w.heap.size, 2, none⟩ = some (iv c.gl) := by subst hWn; go_simp
  have c3 : Wn.cell? ⟨w.heap.size, 3, none⟩ = some (iv c.gh) := by subst hWn; go_simp
  have c4 : Wn.cell? ⟨w.heap.size, 4, none⟩ = some (iv c.be) := by subst hWn; go_simp
  have c5 : Wn.cell? ⟨w.heap.size, 5, none⟩ = some (.slice sa L.length sc) := by subst hWn; go_simp
  have z0 : Wn.cell? ⟨w.heap.size + 1, 0, none⟩ = some (iv 0) := by subst hWn; go_simp
  have z1 : Wn.cell? ⟨w.heap.size + 1, 1, none⟩ = some (iv 0) := by subst hWn; go_simp
  have y0 : Wn.frozen? ⟨w.heap.size + 1, 0, none⟩ = false := by subst hWn; go_simp
  have y1 : Wn.frozen? ⟨w.heap.size + 1, 1, none⟩ = false := by subst hWn; go_simp
  go_enter Try.func33, Try.ntmps33
  go_wp2_with fail
  refine (HO.out _).mono ?_
  rintro e w1 ⟨rfl, hb1⟩
  obtain ⟨W3, hW3⟩ : ∃ W3 : World, w1.alloc (.cells #[iv (grsI c.wl c.gl), iv (grsI c.wh c.gh)] 43) = W3 := ⟨_, rfl⟩
  have hzn : Wn.heap.size = w.heap.size + 2 := by rw [← hWn]; simp
  have hz1 := hb1.size
  have hb3 : Below Wn.heap.size Wn W3 := by rw [← hW3]; exact bpush hb1 _
  have k0 := kcell hb3 c0
  have k1 := kcell hb3 c1
  have k2 := kcell hb3 c2
  have k3 := kcell hb3 c3
  have k4 := kcell hb3 c4
  have k5 := kcell hb3 c5
  have k6 : W3.cell? ⟨w1.heap.size, 0, none⟩ = some (iv (grsI c.wl c.gl)) := by subst hW3; go_simp
  have k7 : W3.cell? ⟨w1.heap.size, 1, none⟩ = some (iv (grsI c.wh c.gh)) := by subst hW3; go_simp
  have k8 := cv_of (kcell hb3 z0)
  have k9 := cv_of (kcell hb3 z1)
  have y2 := kfrozen hb3 z0 y0
  have y3 := kfrozen hb3 z1 y1
  have hB3 : Below w.heap.size w W3 := bstep hBw hb3
  have hlb : w.heap.size + 1 < w1.heap.size := by omega
  clear hb1 hb3 c0 c1 c2 c3 c4 c5 z0 z1 y0 y1 hBw hWn hz1 hzn
  go_wp2_with fail
  clear hW3
  go_region_held3 (fun w' => w'.cell? ⟨w.heap.size, 0, none⟩ = some (iv c.wl) ∧ w'.cell? ⟨w.heap.size, 1, none⟩ = some (iv c.wh) ∧ w'.cell? ⟨w.heap.size, 2, none⟩ = some (iv c.gl) ∧ w'.cell? ⟨w.heap.size, 3, none⟩ = some (iv c.gh) ∧ w'.cell? ⟨w.heap.size, 4, none⟩ = some (iv c.be) ∧ w'.cell? ⟨w.heap.size, 5, none⟩ = some (.slice sa L.length sc) ∧ w'.cell? ⟨w1.heap.size, 0, none⟩ = some (iv (grsI c.wl c.gl)) ∧ w'.cell? ⟨w1.heap.size, 1, none⟩ = some (iv (grsI c.wh c.gh)) ∧ w'.cell? ⟨w.heap.size + 1, 0, none⟩ = some (cv w' (w.heap.size + 1) 0) ∧ w'.cell? ⟨w.heap.size + 1, 1, none⟩ = some (cv w' (w.heap.size + 1) 1) ∧ w'.frozen? ⟨w.heap.size + 1, 0, none⟩ = false ∧ w'.frozen? ⟨w.heap.size + 1, 1, none⟩ = false ∧ Below w.heap.size w w')
    (first | exact keepO hlb (by assumption) | (go_split_ands; refine ⟨?_, ?_, ?_, ?_, ?_, ?_, ?_, ?_, ?_, ?_, ?_, ?_, ?_⟩ <;> first | assumption | exact kcell hbK (by assumption) | exact cv_of (kcell hbK (by assumption)) | exact kfrozen hbK (by assumption) (by assumption) | exact bstep (by assumption) hbK) | (refine ⟨?_, ?_, ?_, ?_, ?_, ?_, ?_, ?_, ?_, ?_, ?_, ?_, ?_⟩ <;> first | exact Below.drew (by assumption) | assumption))
    (first | (go_split_ands; (with_reducible refine (HT1.out _ (by assumption)).mono ?_); rintro e wO ⟨rfl, hbK⟩) | (go_split_ands; (with_reducible refine (HT2.out _ (by assumption)).mono ?_); rintro e wO ⟨rfl, hbK⟩))
  all_goals
    rename_i hHeld
    obtain ⟨-, -, -, -, -, -, -, -, e0, e1, -, -, hBB⟩ := hHeld
    have e0' := set2_at0 e0
    have e1' := set2_at1 e1
    have HBB := Lib.hid hBB
    clear hBB e0 e1
    go_wp2_with fail
    exact bodyPost_ret (v := .agg #[iv (ovLo c L M), iv (ovHi c L M)]) (by simp [results, Try.results33, go_sem, e0', e1']) rfl ⟨rfl, HBB.out⟩
end Go.Proofs.Ytfdahmdehmhllaa
