/- A store made of bytes, and its copy. -/
import Derived.Test.YtfdahmdehmhllaaJl
import Derived.Test.YtfdahmdehmhllaaSl
namespace Go.Proofs.Ytfdahmdehmhllaa
open Go Go.RowKit Go.Shelf
attribute [local go_sem ↓] Go.wp_at_zero Go.wp_at_succ

/-- Four bytes. -/
structure Q4 where
  (a b c d : Int)
def enc4 (q : Q4) : List Value := [u8 q.a, u8 q.b, u8 q.c, u8 q.d]
def q4B (q : Q4) : Prop := (0 ≤ q.a ∧ q.a ≤ 255) ∧ (0 ≤ q.b ∧ q.b ≤ 255) ∧ (0 ≤ q.c ∧ q.c ≤ 255) ∧ (0 ≤ q.d ∧ q.d ≤ 255)
def shS (q : Q4) : So := ⟨q.a % 30, q.a % 30 + q.b % 6, 1 + q.b % 25, q.c % 6, q.d % 7⟩
def shN (X : List Q4) : Nat := if X.length = 0 then 1 else min X.length 3
def shL (X : List Q4) (k : Nat) : List So := (List.range k).map fun i => shS (X.getD i ⟨9, 3, 1, 6⟩)
theorem encSo_len (s : So) : (encSo s).length = 5 := rfl
theorem encSo_one (s : So) : ∀ u ∈ encSo s, u.oneCell' = true := by intro u hu; simp [encSo] at hu; rcases hu with rfl | rfl | rfl | rfl | rfl <;> rfl
theorem encSo_cell {w : World} {g : Nat} {s : So} {t : TypeId} (h : w.heap[g]? = some (.cells #[iv s.tl, iv s.th, iv s.pr, iv s.st, iv s.ha] t (0, 0))) : ∀ j u, (encSo s)[j]? = some u → w.cell? ⟨g, j, none⟩ = some u := by
  intro j u hu
  rw [cell_of_row _ _ _ _ _ _ h]
  rcases j with _ | _ | _ | _ | _ | j <;> simp [encSo] at hu ⊢ <;> exact hu
theorem infoSo : (Try.prog.info? 58).map (fun i => (i.zero, i.size, i.bytes)) = some (some (.agg #[.int .i64 0, .int .i64 0, .int .i64 0, .int .i64 0, .int .i64 0]), 5, 40) := by kernel_rfl
theorem Owns.cap {α : Type} {enc : α → List Value} {sz e base : Nat} {w : World} {a : Option Addr} {n c : Nat} {xs : List α} (h : Owns enc sz e base w (.slice a n c) xs) : xs.length ≤ c := by
  rcases h.2 with ⟨h1, h2⟩ | ⟨g, cap, cur, h1, h2, h3, h4, h5⟩
  · rw [h2]; exact Nat.zero_le _
  · simp only [Value.slice.injEq] at h1
    rw [h1.2.2]; exact h4
set_option maxRecDepth 20000 in
set_option maxHeartbeats 3200000 in
theorem firStore_any (L : List So) (ad : Addr) (c : Nat) (w : World) (hl : L.length ≤ 1000000) (hf : SliceOf encSo 5 w (.slice (some ad) L.length c) L) :
    Calls Try.prog 11 #[.slice (some ad) L.length c] w fun e w' => ∃ va vc, e = .returned (.slice va L.length vc) ∧ L.length ≤ vc ∧ SliceOf encSo 5 w' (.slice va L.length vc) L ∧ Below w.heap.size w w' := by
  obtain ⟨i0, hi, hz0, hz1, hz2⟩ := info_parts infoSo
  have HI := Lib.hid hi; have HZ0 := Lib.hid hz0; have HZ1 := Lib.hid hz1; have HZ2 := Lib.hid hz2
  have HF := Lib.hid (SliceOf.below hf (bpush (Below.refl _ _) (.cells #[] 58)))
  have HB2 : Hid (([] : List So).length + L.length ≤ maxLen ∧ (([] : List So).length + L.length) * 40 ≤ 140737488355328) := by simp only [Hid, List.length_nil]; unfold maxLen; omega
  have HB3 : Hid (w.heap.size ≤ (w.alloc (.cells #[] 58)).heap.size) := by simp [Hid]
  clear hi hz0 hz1 hz2 hf
  go_enter Try.func11, Try.ntmps11
  go_wp2_with (at_builtin; refine L_appendS L rfl _ _ 35 rfl Try.underlying35 HI.out HZ0.out HZ1.out HZ2.out rfl (Nat.succ_pos _) encSo_len encSo_one rfl rfl (owns_empty encSo 5 58 w.heap.size w (Nat.le_refl _)) HF.out HB2.out HB3.out ?_; intro v' w1 hown hbe hg)
  have HO := Lib.hid hown; have HBE := Lib.hid (bpush (Below.refl w.heap.size w) (.cells #[] 58) |>.trans hbe)
  clear hown hbe hg
  go_ret
  obtain ⟨va, vc, hv⟩ := Owns.len HO.out
  have ho := HO.out
  rw [List.nil_append] at hv ho
  subst hv
  exact ⟨va, vc, rfl, ho.cap, Owns.slice ho encSo_len (by omega), HBE.out⟩
end Go.Proofs.Ytfdahmdehmhllaa
