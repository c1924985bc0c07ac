/- The job of a valid cloth with a valid store; how much grease a cloth has. -/
import Derived.Test.YtfdahmdehmhllaaJg
namespace Go.Proofs.Ytfdahmdehmhllaa
open Go Go.RowKit Go.Shelf

set_option maxHeartbeats 3200000 in
theorem openJ_good (c : Gc) (L : List So) (sa : Option Addr) (sc : Nat) (w : World) (hc : vGc c = true) (hk : soChk L = 0) (hs : SliceOf encSo 5 w (.slice sa L.length sc) L) :
    Calls Try.prog 19 #[.slice sa L.length sc, .agg (encGc c).toArray] w fun e w' => e = .returned (.tuple #[jv c (.slice sa L.length sc), iv 0]) ∧ Below w.heap.size w w' := by
  have hl := (soChk_zero hk).1
  have HC : Hid (∀ W, Below w.heap.size w W → Calls Try.prog 30 #[.slice sa L.length sc] W fun e w' => e = .returned (iv 0) ∧ Below W.heap.size W w') := fun W hb => by
    have := soCheck_any L sa sc W (by omega) (hs.below hb)
    rwa [hk] at this
  have HV : Hid (∀ W, Calls Try.prog 17 #[.agg (encGc c).toArray] W fun e w' => e = .returned (.bool true) ∧ Below W.heap.size W w') := fun W => by
    have := validGc_any c W
    rwa [hc] at this
  obtain ⟨wl, wh, gl, gh, be⟩ := c
  simp only [encGc] at HV ⊢
  clear hs hk hc hl
  obtain ⟨Wn, hWn⟩ : ∃ Wn : World, (w.alloc (.cells #[iv wl, iv wh, iv gl, iv gh, iv be] 46)).alloc (.cells #[iv 0, iv 0, iv 0, iv 0, iv 0, .slice none 0 0] 74) = Wn := ⟨_, rfl⟩
  have hBw : Below w.heap.size w Wn := by rw [← hWn]; exact bpush (bpush (Below.refl _ _) _) _
  have c0 : Wn.cell? ⟨w.heap.size, 0, none⟩ = some (iv wl) := by subst hWn; go_simp
  have c1 : Wn.cell? ⟨w.heap.size, 1, none⟩ = some (iv wh) := by subst hWn; go_simp
  have c2 : Wn.cell? ⟨w.heap.size, 2, none⟩ = some (iv gl) := by subst hWn; go_simp
  have c3 : Wn.cell? ⟨w.heap.size, 3, none⟩ = some (iv gh) := by subst hWn; go_simp
  have c4 : Wn.cell? ⟨w.heap.size, 4, none⟩ = some (iv be) := by subst hWn; go_simp
  have z0 : Wn.cell? ⟨w.heap.size + 1, 0, none⟩ = some (iv 0) := by subst hWn; go_simp
  have y0 : Wn.frozen? ⟨w.heap.size + 1, 0, none⟩ = false := by subst hWn; go_simp
  have z1 : Wn.cell? ⟨w.heap.size + 1, 1, none⟩ = some (iv 0) := by subst hWn; go_simp
  have y1 : Wn.frozen? ⟨w.heap.size + 1, 1, none⟩ = false := by subst hWn; go_simp
  have z2 : Wn.cell? ⟨w.heap.size + 1, 2, none⟩ = some (iv 0) := by subst hWn; go_simp
  have y2 : Wn.frozen? ⟨w.heap.size + 1, 2, none⟩ = false := by subst hWn; go_simp
  have z3 : Wn.cell? ⟨w.heap.size + 1, 3, none⟩ = some (iv 0) := by subst hWn; go_simp
  have y3 : Wn.frozen? ⟨w.heap.size + 1, 3, none⟩ = false := by subst hWn; go_simp
  have z4 : Wn.cell? ⟨w.heap.size + 1, 4, none⟩ = some (iv 0) := by subst hWn; go_simp
  have y4 : Wn.frozen? ⟨w.heap.size + 1, 4, none⟩ = false := by subst hWn; go_simp
  have z5 : Wn.cell? ⟨w.heap.size + 1, 5, none⟩ = some (.slice none 0 0) := by subst hWn; go_simp
  have y5 : Wn.frozen? ⟨w.heap.size + 1, 5, none⟩ = false := by subst hWn; go_simp
  go_enter Try.func19, Try.ntmps19
  go_wp2_with fail
  refine (HC.out _ hBw).mono ?_
  rintro e w1 ⟨rfl, hb1⟩
  have d0 := kcell hb1 c0
  have d1 := kcell hb1 c1
  have d2 := kcell hb1 c2
  have d3 := kcell hb1 c3
  have d4 := kcell hb1 c4
  have u0 := kcell hb1 z0
  have x0 := kfrozen hb1 z0 y0
  have u1 := kcell hb1 z1
  have x1 := kfrozen hb1 z1 y1
  have u2 := kcell hb1 z2
  have x2 := kfrozen hb1 z2 y2
  have u3 := kcell hb1 z3
  have x3 := kfrozen hb1 z3 y3
  have u4 := kcell hb1 z4
  have x4 := kfrozen hb1 z4 y4
  have u5 := kcell hb1 z5
  have x5 := kfrozen hb1 z5 y5
  have hB1 := bstep hBw hb1
  clear hb1 hWn hBw c0 c1 c2 c3 c4 z0 z1 z2 z3 z4 z5 y0 y1 y2 y3 y4 y5
  go_wp2_with fail
  refine (HV.out _).mono ?_
  rintro e w2 ⟨rfl, hb2⟩
  have c0 := kcell hb2 d0
  have c1 := kcell hb2 d1
  have c2 := kcell hb2 d2
  have c3 := kcell hb2 d3
  have c4 := kcell hb2 d4
  have z0 := kcell hb2 u0
  have y0 := kfrozen hb2 u0 x0
  have z1 := kcell hb2 u1
  have y1 := kfrozen hb2 u1 x1
  have z2 := kcell hb2 u2
  have y2 := kfrozen hb2 u2 x2
  have z3 := kcell hb2 u3
  have y3 := kfrozen hb2 u3 x3
  have z4 := kcell hb2 u4
  have y4 := kfrozen hb2 u4 x4
  have z5 := kcell hb2 u5
  have y5 := kfrozen hb2 u5 x5
  have hB2 := bstep hB1 hb2
  clear hb2 hB1 d0 d1 d2 d3 d4 u0 u1 u2 u3 u4 u5 x0 x1 x2 x3 x4 x5
  have HB2 := Lib.hid hB2; clear hB2
  go_wp2_with fail
  exact bodyPost_ret (v := .tuple #[jv ⟨wl, wh, gl, gh, be⟩ (.slice sa L.length sc), iv 0]) (by simp [results, Try.results19, go_sem, z0, z1, z2, z3, z4, z5]) rfl ⟨rfl, bput (bput (bput (bput (bput (bput HB2.out (Nat.le_succ _) _) (Nat.le_succ _) _) (Nat.le_succ _) _) (Nat.le_succ _) _) (Nat.le_succ _) _) (Nat.le_succ _) _⟩
set_option maxHeartbeats 3200000 in
theorem Grease_good (c : Gc) (w : World) (hc : vGc c = true) :
    Calls Try.prog 9 #[.agg (encGc c).toArray] w fun e w' => e = .returned (.tuple #[.agg #[iv (grsI c.wl c.gl), iv (grsI c.wh c.gh)], iv 0]) ∧ Below w.heap.size w w' := by
  have HO := Lib.hid (fun W => ounces_any c (.slice none 0 0) W hc)
  have HV : Hid (∀ W, Calls Try.prog 17 #[.agg (encGc c).toArray] W fun e w' => e = .returned (.bool true) ∧ Below W.heap.size W w') := fun W => by
    have := validGc_any c W
    rwa [hc] at this
  obtain ⟨wl, wh, gl, gh, be⟩ := c
  simp only [encGc] at HV ⊢
  clear hc
  obtain ⟨Wn, hWn⟩ : ∃ Wn : World, (w.alloc (.cells #[iv wl, iv wh, iv gl, iv gh, iv be] 46)).alloc (.cells #[iv 0, iv 0] 43) = Wn := ⟨_, rfl⟩
  have hBw : Below w.heap.size w Wn := by rw [← hWn]; exact bpush (bpush (Below.refl _ _) _) _
  have c0 : Wn.cell? ⟨w.heap.size, 0, none⟩ = some (iv wl) := by subst hWn; go_simp
  have c1 : Wn.cell? ⟨w.heap.size, 1, none⟩ = some (iv wh) := by subst hWn; go_simp
  have c2 : Wn.cell? ⟨w.heap.size, 2, none⟩ = some (iv gl) := by subst hWn; go_simp
  have c3 : Wn.cell? ⟨w.heap.size, 3, none⟩ = some (iv gh) := by subst hWn; go_simp
  have c4 : Wn.cell? ⟨w.heap.size, 4, none⟩ = some (iv be) := by subst hWn; go_simp
  have z0 : Wn.cell? ⟨w.heap.size + 1, 0, none⟩ = some (iv 0) := by subst hWn; go_simp
  have y0 : Wn.frozen? ⟨w.heap.size + 1, 0, none⟩ = false := by subst hWn; go_simp
  have z1 : Wn.cell? ⟨w.heap.size + 1, 1, none⟩ = some (iv 0) := by subst hWn; go_simp
  have y1 : Wn.frozen? ⟨w.heap.size + 1, 1, none⟩ = false := by subst hWn; go_simp
  go_enter Try.func9, Try.ntmps9
  go_wp2_with fail
  refine (HV.out _).mono ?_
  rintro e w1 ⟨rfl, hb1⟩
  have d0 := kcell hb1 c0
  have d1 := kcell hb1 c1
  have d2 := kcell hb1 c2
  have d3 := kcell hb1 c3
  have d4 := kcell hb1 c4
  have u0 := kcell hb1 z0
  have x0 := kfrozen hb1 z0 y0
  have u1 := kcell hb1 z1
  have x1 := kfrozen hb1 z1 y1
  have hB1 := bstep hBw hb1
  clear hb1 hWn hBw c0 c1 c2 c3 c4 z0 z1 y0 y1
  go_wp2_with fail
  refine (HO.out _).mono ?_
  rintro e w2 ⟨rfl, hb2⟩
  have z0 := kcell hb2 u0
  have y0 := kfrozen hb2 u0 x0
  have z1 := kcell hb2 u1
  have y1 := kfrozen hb2 u1 x1
  have hB2 := bstep hB1 hb2
  clear hb2 d0 d1 d2 d3 d4 u0 u1 x0 x1 hB1
  have HB2 := Lib.hid hB2; clear hB2
  go_wp2_with fail
  exact bodyPost_ret (v := .tuple #[.agg #[iv (grsI wl gl), iv (grsI wh gh)], iv 0]) (by simp [results, Try.results9, go_sem, z0, z1]) rfl ⟨rfl, bput (bput HB2.out (Nat.le_succ _) _) (Nat.le_succ _) _⟩
end Go.Proofs.Ytfdahmdehmhllaa
