/- TopWetLength's walk. -/
import Derived.Test.YtdhkgpfcanekkaaOc
import Derived.Test.YtdhkgpfcanekkaaLa
import Derived.Test.YtdhkgpfcanekkaaKt
import Derived.Test.YtdhkgpfcanekkaaGm
import Derived.Deep.RegionHeld3
import Derived.Deep.CutBlock
import Derived.Deep.DeepCutAuto
namespace Go.Proofs.Ytdhkgpfcanekkaa
open Go Go.RowKit Go.Shelf
attribute [local go_sem] Oper.semAt_some
attribute [local go_sem ↓] Go.wp_at_zero Go.wp_at_succ

section
variable {W X Y : World} {vb rg g i : Nat} {f0 f1 f2 f3 x0 x1 v : Value} {ob : Obj}
theorem swSet (hf : vb < W.heap.size) (hc : rg < W.heap.size) (hg : W.heap.size ≤ g) (h : X.cell? ⟨vb, 0, none⟩ = some f0 ∧ X.cell? ⟨vb, 1, none⟩ = some f1 ∧ X.cell? ⟨vb, 2, none⟩ = some f2 ∧ X.cell? ⟨vb, 3, none⟩ = some f3 ∧ X.cell? ⟨rg, 0, none⟩ = some x0 ∧ X.cell? ⟨rg, 1, none⟩ = some x1 ∧ Below W.heap.size W X) : (X.setCell ⟨g, i, none⟩ v).cell? ⟨vb, 0, none⟩ = some f0 ∧ (X.setCell ⟨g, i, none⟩ v).cell? ⟨vb, 1, none⟩ = some f1 ∧ (X.setCell ⟨g, i, none⟩ v).cell? ⟨vb, 2, none⟩ = some f2 ∧ (X.setCell ⟨g, i, none⟩ v).cell? ⟨vb, 3, none⟩ = some f3 ∧ (X.setCell ⟨g, i, none⟩ v).cell? ⟨rg, 0, none⟩ = some x0 ∧ (X.setCell ⟨g, i, none⟩ v).cell? ⟨rg, 1, none⟩ = some x1 ∧ Below W.heap.size W (X.setCell ⟨g, i, none⟩ v) := ssSet (o := 0) hf hc hg h
theorem swPush (hf : vb < W.heap.size) (hc : rg < W.heap.size) (h : X.cell? ⟨vb, 0, none⟩ = some f0 ∧ X.cell? ⟨vb, 1, none⟩ = some f1 ∧ X.cell? ⟨vb, 2, none⟩ = some f2 ∧ X.cell? ⟨vb, 3, none⟩ = some f3 ∧ X.cell? ⟨rg, 0, none⟩ = some x0 ∧ X.cell? ⟨rg, 1, none⟩ = some x1 ∧ Below W.heap.size W X) : (X.alloc ob).cell? ⟨vb, 0, none⟩ = some f0 ∧ (X.alloc ob).cell? ⟨vb, 1, none⟩ = some f1 ∧ (X.alloc ob).cell? ⟨vb, 2, none⟩ = some f2 ∧ (X.alloc ob).cell? ⟨vb, 3, none⟩ = some f3 ∧ (X.alloc ob).cell? ⟨rg, 0, none⟩ = some x0 ∧ (X.alloc ob).cell? ⟨rg, 1, none⟩ = some x1 ∧ Below W.heap.size W (X.alloc ob) := ssPush (o := 0) hf hc h
theorem swCall (hf : vb < W.heap.size) (hc : rg < W.heap.size) (hb : Below X.heap.size X Y) (h : X.cell? ⟨vb, 0, none⟩ = some f0 ∧ X.cell? ⟨vb, 1, none⟩ = some f1 ∧ X.cell? ⟨vb, 2, none⟩ = some f2 ∧ X.cell? ⟨vb, 3, none⟩ = some f3 ∧ X.cell? ⟨rg, 0, none⟩ = some x0 ∧ X.cell? ⟨rg, 1, none⟩ = some x1 ∧ Below W.heap.size W X) : Y.cell? ⟨vb, 0, none⟩ = some f0 ∧ Y.cell? ⟨vb, 1, none⟩ = some f1 ∧ Y.cell? ⟨vb, 2, none⟩ = some f2 ∧ Y.cell? ⟨vb, 3, none⟩ = some f3 ∧ Y.cell? ⟨rg, 0, none⟩ = some x0 ∧ Y.cell? ⟨rg, 1, none⟩ = some x1 ∧ Below W.heap.size W Y := ssCall (o := 0) hf hc hb h
theorem swDrew (h : X.cell? ⟨vb, 0, none⟩ = some f0 ∧ X.cell? ⟨vb, 1, none⟩ = some f1 ∧ X.cell? ⟨vb, 2, none⟩ = some f2 ∧ X.cell? ⟨vb, 3, none⟩ = some f3 ∧ X.cell? ⟨rg, 0, none⟩ = some x0 ∧ X.cell? ⟨rg, 1, none⟩ = some x1 ∧ Below W.heap.size W X) : (X.drew).cell? ⟨vb, 0, none⟩ = some f0 ∧ (X.drew).cell? ⟨vb, 1, none⟩ = some f1 ∧ (X.drew).cell? ⟨vb, 2, none⟩ = some f2 ∧ (X.drew).cell? ⟨vb, 3, none⟩ = some f3 ∧ (X.drew).cell? ⟨rg, 0, none⟩ = some x0 ∧ (X.drew).cell? ⟨rg, 1, none⟩ = some x1 ∧ Below W.heap.size W (X.drew) := ssDrew (o := 0) h
end
/-- What the stores ask of a field that was laid before the call. -/
theorem fieldK {W : World} {g : Nat} (h : W.heap[g]? = some (.cells #[.slice none 0 0, .slice none 0 0, .int .i64 0, .int .i64 0] 40 (0, 0))) :
    (W.cell? ⟨g, 0, none⟩ = some (.slice none 0 0) ∧ W.cell? ⟨g, 1, none⟩ = some (.slice none 0 0) ∧ W.cell? ⟨g, 2, none⟩ = some (.int .i64 0) ∧ W.cell? ⟨g, 3, none⟩ = some (.int .i64 0)) ∧ (W.frozen? ⟨g, 0, none⟩ = false ∧ W.frozen? ⟨g, 1, none⟩ = false ∧ W.frozen? ⟨g, 2, none⟩ = false ∧ W.frozen? ⟨g, 3, none⟩ = false) ∧ g < W.heap.size := by
  refine ⟨⟨?_, ?_, ?_, ?_⟩, ⟨?_, ?_, ?_, ?_⟩, (Array.getElem?_eq_some_iff.1 h).1⟩ <;> first | (rw [cell_of_row _ _ _ _ _ _ h]; rfl) | exact frozen_of_row _ _ _ _ _ h
theorem row4O {W : World} {g : Nat} {x0 x1 x2 x3 a b c d : Value} {t : TypeId} (h : W.heap[g]? = some (.cells #[x0, x1, x2, x3] t (0, 0))) : ((((W.setCell ⟨g, 0, none⟩ a).setCell ⟨g, 1, none⟩ b).setCell ⟨g, 2, none⟩ c).setCell ⟨g, 3, none⟩ d).heap[g]? = some (.cells #[a, b, c, d] t (0, 0)) :=
  heap_setCell_same _ g 3 #[a, b, c, x3] t d (heap_setCell_same _ g 2 #[a, b, x2, x3] t c (heap_setCell_same _ g 1 #[a, x1, x2, x3] t b (heap_setCell_same _ g 0 #[x0, x1, x2, x3] t a h)))
theorem put4O {W : World} {g k : Nat} {a b c d : Value} (hk : k ≠ g) : ((((W.setCell ⟨g, 0, none⟩ a).setCell ⟨g, 1, none⟩ b).setCell ⟨g, 2, none⟩ c).setCell ⟨g, 3, none⟩ d).heap[k]? = W.heap[k]? := by
  rw [Below.heap_setCell _ _ _ _ hk, Below.heap_setCell _ _ _ _ hk, Below.heap_setCell _ _ _ _ hk, Below.heap_setCell _ _ _ _ hk]
/-- A field of one cloth has been laid. -/
def FldCut (lo hi gap str : Int) (m : Nat) (R : List Int) (W : World) (p : Value) (wx : World) : Prop :=
  ∃ g g1 c1 g2 c2, p = .pointer (some ⟨g, 0, none⟩) ∧ wx.heap[g]? = some (.cells #[.slice (some ⟨g1, 0, none⟩) 1 c1, .slice (some ⟨g2, 0, none⟩) m c2, iv gap, iv str] 40 (0, 0)) ∧ SliceOf encN 4 wx (.slice (some ⟨g1, 0, none⟩) 1 c1) [((lo, hi), (0, 0))] ∧ Ints wx (.slice (some ⟨g2, 0, none⟩) m c2) R ∧ Below W.heap.size W wx
section
variable {lo hi gap str : Int} {m g1 c1 g2 c2 : Nat} {R : List Int} {W w3 : World}
theorem fdA (hb : Below W.heap.size W w3) (hS : SliceOf encN 4 w3 (.slice (some ⟨g1, 0, none⟩) 1 c1) [((lo, hi), (0, 0))]) (hR : Ints w3 (.slice (some ⟨g2, 0, none⟩) m c2) R) :
    FldCut lo hi gap str m R W (.pointer (some ⟨w3.heap.size, 0, none⟩)) (w3.alloc (.cells #[.slice (some ⟨g1, 0, none⟩) 1 c1, .slice (some ⟨g2, 0, none⟩) m c2, iv gap, iv str] 40)) :=
  ⟨_, g1, c1, g2, c2, rfl, heap_new _ _ _, hS.below (bpush (Below.refl _ _) _), hR.below (bpush (Below.refl _ _) _), bpush hb _⟩
theorem fdB {g : Nat} (hb : Below W.heap.size W w3) (hS : SliceOf encN 4 w3 (.slice (some ⟨g1, 0, none⟩) 1 c1) [((lo, hi), (0, 0))]) (hR : Ints w3 (.slice (some ⟨g2, 0, none⟩) m c2) R) (hne : 0 < R.length) (hz : w3.heap[g]? = some (.cells #[.slice none 0 0, .slice none 0 0, .int .i64 0, .int .i64 0] 40 (0, 0))) (hg : W.heap.size ≤ g) :
    FldCut lo hi gap str m R W (.pointer (some ⟨g, 0, none⟩)) ((((w3.setCell ⟨g, 0, none⟩ (.slice (some ⟨g1, 0, none⟩) 1 c1)).setCell ⟨g, 1, none⟩ (.slice (some ⟨g2, 0, none⟩) m c2)).setCell ⟨g, 2, none⟩ (iv gap)).setCell ⟨g, 3, none⟩ (iv str)) := by
  have hz0 : w3.cell? ⟨g, 0, none⟩ = some (.slice none 0 0) := by rw [cell_of_row _ _ _ _ _ _ hz]; rfl
  have n1 : g1 ≠ g := by
    rintro rfl
    obtain ⟨b, o, e, hj⟩ := sl_rowG (k := 0) hS rfl
    simp only [Option.some.injEq, Addr.mk.injEq, and_true] at e
    obtain ⟨rfl, rfl⟩ := e
    have := hj 0 _ rfl
    rw [show (0 + 0 * 4 + 0 : Nat) = 0 from rfl, hz0] at this; cases this
  have n2 : g2 ≠ g := by
    rintro rfl
    obtain ⟨x, hx⟩ : ∃ x, R[0]? = some x := ⟨R[0], List.getElem?_eq_getElem hne⟩
    obtain ⟨b, o, e, hj⟩ := sl_rowG (k := 0) hR hx
    simp only [Option.some.injEq, Addr.mk.injEq, and_true] at e
    obtain ⟨rfl, rfl⟩ := e
    have := hj 0 _ rfl
    rw [show (0 + 0 * 1 + 0 : Nat) = 0 from rfl, hz0] at this; cases this
  exact ⟨g, g1, c1, g2, c2, rfl, row4O hz, hS.at_block (fun o u h => (World.cell?_of_block (put4O n1)).trans h), hR.at_block (fun o u h => (World.cell?_of_block (put4O n2)).trans h), bput (bput (bput (bput hb hg _) hg _) hg _) hg _⟩
end

theorem bdrewNO {n : Nat} {W X : World} (h : Below n W X) (k : Nat) : Below n W (X.drewN k) := ⟨h.1, h.2, h.3, h.4, h.5⟩
theorem idx3_0 (a b c : Value) (W : World) : (Instr.index 47 (.agg #[a, b, c]) (.int .i64 0)).run Try.prog W = .ok a W := by kernel_rfl
theorem idx3_1 (a b c : Value) (W : World) : (Instr.index 47 (.agg #[a, b, c]) (.int .i64 1)).run Try.prog W = .ok b W := by kernel_rfl
theorem idx3_2 (a b c : Value) (W : World) : (Instr.index 47 (.agg #[a, b, c]) (.int .i64 2)).run Try.prog W = .ok c W := by kernel_rfl
attribute [local go_sem] idx3_0 idx3_1 idx3_2
set_option maxRecDepth 20000 in
set_option maxHeartbeats 25600000 in
theorem wet_walk (b : Nat → Int) (hr v0 v1 v2 v3 : Int) (w : World) (hb : ∀ i, 0 ≤ b i ∧ b i ≤ 255) (hh : 0 ≤ hr ∧ hr ≤ 255) (b0 : 0 ≤ v0 ∧ v0 ≤ 255) (b1 : 0 ≤ v1 ∧ v1 ≤ 255) (b2 : 0 ≤ v2 ∧ v2 ≤ 255) (b3 : 0 ≤ v3 ∧ v3 ≤ 255) :
    Calls Try.prog 3 #[.agg (fyCells b), Ytdhkgpfcanekkaa.u8 hr, .agg #[Ytdhkgpfcanekkaa.u8 v0, Ytdhkgpfcanekkaa.u8 v1, Ytdhkgpfcanekkaa.u8 v2, Ytdhkgpfcanekkaa.u8 v3]] w fun e w' => e = .returned (.bool true) ∧ Below w.heap.size w w' := by
  obtain ⟨n, hn⟩ : ∃ n : Nat, hr % 49 = (n : Int) := Int.eq_ofNat_of_zero_le (by omega)
  obtain ⟨q, hq⟩ : ∃ q : Nat, v0 / 32 % 3 = (q : Int) := Int.eq_ofNat_of_zero_le (by omega)
  have hn48 : n ≤ 48 := by omega
  obtain ⟨l1, l2, l3, l4⟩ := wet_len hb n
  have hVT : [ebT b 0, ebT b 1, ebT b 2].all vTrack = true := by simp [ebT_valid hb]
  have HBM : Hid (∀ W : World, Calls Try.prog 5 #[.agg (fyCells b)] W fun e w' => ∃ tv, e = .returned (.agg #[tv, .slice none 0 0]) ∧ Owns encT 4 53 W.heap.size w' tv [ebT b 0, ebT b 1, ebT b 2] ∧ Below W.heap.size W w') := fun W => ebMade_any b W hb
  have HAT : Hid (∀ (W : World) (tv : Value), SliceOf encT 4 W tv [ebT b 0, ebT b 1, ebT b 2] → Calls Try.prog 4 #[.agg #[tv, .slice none 0 0], iv n] W fun e w' => ∃ rg rc, e = .returned (.tuple #[.slice (some ⟨rg, 0, none⟩) 3 rc, iv 0]) ∧ (w'.cell? ⟨rg, 0, none⟩ = some (iv (qAt (ebT b 0) n).1) ∧ w'.cell? ⟨rg, 1, none⟩ = some (iv (qAt (ebT b 0) n).2)) ∧ Below W.heap.size W w') := fun W tv h => by
    refine (at3_any _ _ _ n hVT hn48 tv (.slice none 0 0) W h (SliceOf.nil _ _ _ _ _)).mono ?_
    rintro e w' ⟨rv, rfl, ho, hb⟩
    obtain ⟨rg, rc, rfl⟩ := owns_addr ho (by simp)
    have hs := Owns.slice ho encS_len (by simp)
    have h0 := sl_cellsS (k := 0) hs rfl
    dsimp only at h0
    exact ⟨rg, rc, rfl, h0, hb⟩
  have HEA : Hid (∀ W : World, Calls Try.prog 9 #[.agg (fyCells b), iv 0, iv n] W fun e w' => e = .returned (iv (ebA b 0 n)) ∧ Below W.heap.size W w') := fun W => elmAt_any b 0 n W hb (by omega) (by omega)
  generalize ebA b 0 n = real at *
  generalize (qAt (ebT b 0) n).1 = lo at *
  generalize (qAt (ebT b 0) n).2 = hi at *
  generalize ebT b 0 = T0 at *
  have hlh : lo ≤ hi := Int.le_trans l2 l3
  have hck := wet_chk (v0 := v0) (v1 := v1) l1 hlh l4 b2 b3 hq
  have hRl := frL_len v2 v3 (q + 1)
  have HTN : Hid (∀ (W : World) (ca : Addr) (cc : Nat), SliceOf encN 4 W (.slice (some ca) 1 cc) [((lo, hi), (0, 0))] → Calls Try.prog 6 #[.slice (some ca) 1 cc, .agg #[Ytdhkgpfcanekkaa.u8 v0, Ytdhkgpfcanekkaa.u8 v1, Ytdhkgpfcanekkaa.u8 v2, Ytdhkgpfcanekkaa.u8 v3]] W fun e w' => ∃ g1 c1 g2 c2, e = .returned (.agg #[.slice (some ⟨g1, 0, none⟩) 1 c1, .slice (some ⟨g2, 0, none⟩) (q + 1) c2, iv (v0 % 20), iv (v1 % 120)]) ∧ SliceOf encN 4 w' (.slice (some ⟨g1, 0, none⟩) 1 c1) [((lo, hi), (0, 0))] ∧ Ints w' (.slice (some ⟨g2, 0, none⟩) (q + 1) c2) (frL v2 v3 (q + 1)) ∧ Below W.heap.size W w') := fun W ca cc h => elmTenter_any [((lo, hi), (0, 0))] ca cc q v0 v1 v2 v3 W (by simp) (by simp) h b0 b1 b2 b3 hq
  have hstr : 0 ≤ v1 % 120 ∧ v1 % 120 ≤ 119 := by omega
  have hgap : 0 ≤ v0 % 20 ∧ v0 % 20 ≤ 19 := by omega
  generalize frL v2 v3 (q + 1) = R at *
  generalize v0 % 20 = gap at *
  generalize v1 % 120 = str at *
  have hm : 1 ≤ q + 1 ∧ q + 1 ≤ 3 := by omega
  generalize q + 1 = m at *
  have HRL := Lib.hid hRl
  have HOW : Hid (∀ (W : World) (g1 c1 g2 c2 : Nat), SliceOf encN 4 W (.slice (some ⟨g1, 0, none⟩) 1 c1) [((lo, hi), (0, 0))] → Ints W (.slice (some ⟨g2, 0, none⟩) m c2) R → Calls Try.prog 8 #[.agg #[.slice (some ⟨g1, 0, none⟩) 1 c1, .slice (some ⟨g2, 0, none⟩) m c2, iv gap, iv str]] W fun e w' => ∃ h1 d1 h2 d2, e = .returned (.agg #[.slice (some ⟨h1, 0, none⟩) 1 d1, .slice (some ⟨h2, 0, none⟩) m d2, iv gap, iv str]) ∧ SliceOf encN 4 w' (.slice (some ⟨h1, 0, none⟩) 1 d1) [((lo, hi), (0, 0))] ∧ Ints w' (.slice (some ⟨h2, 0, none⟩) m d2) R ∧ Below W.heap.size W w') := fun W g1 c1 g2 c2 hs hr => by
    have := elmOwn_any [((lo, hi), (0, 0))] R gap str ⟨g1, 0, none⟩ ⟨g2, 0, none⟩ c1 c2 W (by simp) (by intro e; rw [e] at hRl; simp at hRl; omega) (by simp) (by omega) hs (by rw [hRl]; exact hr)
    rw [hRl] at this; exact this
  have HHG : Hid (∀ (W : World) (g1 c1 g2 c2 : Nat), SliceOf encN 4 W (.slice (some ⟨g1, 0, none⟩) 1 c1) [((lo, hi), (0, 0))] → Ints W (.slice (some ⟨g2, 0, none⟩) m c2) R → Calls Try.prog 7 #[.agg #[.slice (some ⟨g1, 0, none⟩) 1 c1, .slice (some ⟨g2, 0, none⟩) m c2, iv gap, iv str]] W fun e w' => ∃ g, e = .returned (.tuple #[.slice (some ⟨g, 0, none⟩) 1 1, iv 0]) ∧ (w'.cell? ⟨g, 0, none⟩ = some (iv (lenS str ((lo, hi), (0, 0))).1) ∧ w'.cell? ⟨g, 1, none⟩ = some (iv (lenS str ((lo, hi), (0, 0))).2)) ∧ Below W.heap.size W w') := fun W g1 c1 g2 c2 hs hr => by
    have := Hangs_good [((lo, hi), (0, 0))] R gap str (some ⟨g1, 0, none⟩) (some ⟨g2, 0, none⟩) c1 c2 W hs (by rw [hRl]; exact hr) hck
    rw [hRl] at this
    refine this.mono ?_
    rintro e w' ⟨g, rfl, hs, hb⟩
    exact ⟨g, rfl, sl_cellsS (k := 0) hs rfl, hb⟩
  have HST : Hid (∀ (W : World) (g1 c1 g2 c2 k : Nat), SliceOf encN 4 W (.slice (some ⟨g1, 0, none⟩) 1 c1) [((lo, hi), (0, 0))] → Ints W (.slice (some ⟨g2, 0, none⟩) m c2) R → Calls Try.prog 10 #[.agg #[.slice (some ⟨g1, 0, none⟩) 1 c1, .slice (some ⟨g2, 0, none⟩) m c2, iv gap, iv str], iv 0, iv (wetAt str lo hi k)] W fun e w' => e = .returned (.tuple #[.bool (decide (permI str hi < wetAt str lo hi k)), .bool (decide (permI str lo < wetAt str lo hi k)), iv 0]) ∧ Below W.heap.size W w') := fun W g1 c1 g2 c2 k hs hr => by
    have := Stretched_good [((lo, hi), (0, 0))] R gap str (some ⟨g1, 0, none⟩) (some ⟨g2, 0, none⟩) c1 c2 0 _ (wetAt str lo hi k) W hs (by rw [hRl]; exact hr) hck rfl (wetAt_in l1 hlh l4 hstr k)
    rw [hRl] at this; exact this
  have t0 : hr.tmod 49 = (n : Int) := by rw [← hn]; exact Int.tmod_eq_emod_of_nonneg hh.1
  have e0 : IntKind.i64.wrap hr = hr := IntWalk.i64_in _ ⟨by omega, by omega⟩
  have hm1 : 0 < R.length := by omega
  have HM1 := Lib.hid hm1
  have j0 : decide (lo < 1) = false := decide_eq_false (by omega)
  have j1 : decide (2000 < hi) = false := decide_eq_false (by omega)
  have HBD := Lib.hid (show ((1 ≤ lo ∧ lo ≤ real ∧ real ≤ hi ∧ hi ≤ 2000) ∧ (0 ≤ str ∧ str ≤ 119)) ∧ (0 ≤ gap ∧ gap ≤ 19) ∧ (1 ≤ m ∧ m ≤ 3) ∧ n ≤ 48 from ⟨⟨⟨l1, l2, l3, l4⟩, hstr⟩, hgap, hm, hn48⟩)
  clear l1 l2 l3 l4 hstr hgap hlh hck hm hm1 hRl hq hn hh hVT b0 b1 b2 b3 hb
  obtain ⟨w0, hw0⟩ : ∃ W : World, ((w.alloc (.cells (fyCells b) 25)).alloc (.cells #[Ytdhkgpfcanekkaa.u8 v0, Ytdhkgpfcanekkaa.u8 v1, Ytdhkgpfcanekkaa.u8 v2, Ytdhkgpfcanekkaa.u8 v3] 22)) = W := ⟨_, rfl⟩
  have HB0 : Hid (Below w.heap.size w w0) := by rw [← hw0]; exact (by repeat (first | exact Below.refl _ _ | refine Below.drew ?_ | refine bpush ?_ _ | refine bput ?_ (by simp) _ | (refine bstep ?_ (by assumption))))
  have HR0 : Hid (w0.heap[w.heap.size]? = some (.cells (fyCells b) 25 (0, 0))) := by rw [← hw0, Below.heap_alloc _ _ _ (by simp)]; exact heap_new _ _ _
  have HR1 : Hid (w0.heap[w.heap.size + 1]? = some (.cells #[Ytdhkgpfcanekkaa.u8 v0, Ytdhkgpfcanekkaa.u8 v1, Ytdhkgpfcanekkaa.u8 v2, Ytdhkgpfcanekkaa.u8 v3] 22 (0, 0))) := by rw [← hw0]; exact heapA (by simp)
  have k0 : w0.cell? ⟨w.heap.size, 0, none⟩ = some (Ytdhkgpfcanekkaa.u8 (b 0)) := by rw [cell_of_row _ _ _ _ _ _ HR0.out]; rfl
  have k1 : w0.cell? ⟨w.heap.size, 1, none⟩ = some (Ytdhkgpfcanekkaa.u8 (b 1)) := by rw [cell_of_row _ _ _ _ _ _ HR0.out]; rfl
  have k2 : w0.cell? ⟨w.heap.size, 2, none⟩ = some (Ytdhkgpfcanekkaa.u8 (b 2)) := by rw [cell_of_row _ _ _ _ _ _ HR0.out]; rfl
  have k3 : w0.cell? ⟨w.heap.size, 3, none⟩ = some (Ytdhkgpfcanekkaa.u8 (b 3)) := by rw [cell_of_row _ _ _ _ _ _ HR0.out]; rfl
  have k4 : w0.cell? ⟨w.heap.size, 4, none⟩ = some (Ytdhkgpfcanekkaa.u8 (b 4)) := by rw [cell_of_row _ _ _ _ _ _ HR0.out]; rfl
  have k5 : w0.cell? ⟨w.heap.size, 5, none⟩ = some (Ytdhkgpfcanekkaa.u8 (b 5)) := by rw [cell_of_row _ _ _ _ _ _ HR0.out]; rfl
  have k6 : w0.cell? ⟨w.heap.size, 6, none⟩ = some (Ytdhkgpfcanekkaa.u8 (b 6)) := by rw [cell_of_row _ _ _ _ _ _ HR0.out]; rfl
  have k7 : w0.cell? ⟨w.heap.size, 7, none⟩ = some (Ytdhkgpfcanekkaa.u8 (b 7)) := by rw [cell_of_row _ _ _ _ _ _ HR0.out]; rfl
  have k8 : w0.cell? ⟨w.heap.size, 8, none⟩ = some (Ytdhkgpfcanekkaa.u8 (b 8)) := by rw [cell_of_row _ _ _ _ _ _ HR0.out]; rfl
  have k9 : w0.cell? ⟨w.heap.size, 9, none⟩ = some (Ytdhkgpfcanekkaa.u8 (b 9)) := by rw [cell_of_row _ _ _ _ _ _ HR0.out]; rfl
  have k10 : w0.cell? ⟨w.heap.size, 10, none⟩ = some (Ytdhkgpfcanekkaa.u8 (b 10)) := by rw [cell_of_row _ _ _ _ _ _ HR0.out]; rfl
  have k11 : w0.cell? ⟨w.heap.size, 11, none⟩ = some (Ytdhkgpfcanekkaa.u8 (b 11)) := by rw [cell_of_row _ _ _ _ _ _ HR0.out]; rfl
  simp only [fyCells] at hw0 HBM HEA ⊢
  go_enter Try.func3, Try.ntmps3
  go_wp2_with fail
  clear hw0
  refine (HBM.out _).mono ?_
  rintro e w1 ⟨tv, rfl, hO, hb1⟩
  have HST1 := Lib.hid (Owns.slice hO encT_len (by simp))
  have HB1 := Lib.hid (bstep HB0.out hb1)
  have HR01 := Lib.hid (bblk hb1 HR0.out)
  have HR11 := Lib.hid (bblk hb1 HR1.out)
  clear hO hb1 k0 k1 k2 k3 k4 k5 k6 k7 k8 k9 k10 k11
  go_wp2_with fail
  refine (HAT.out _ _ HST1.out).mono ?_
  rintro e w2 ⟨rg, rc, rfl, ⟨y0, y1⟩, hb2⟩
  have HB2 := Lib.hid (bstep HB1.out hb2)
  have HR02 := Lib.hid (bblk hb2 HR01.out)
  have HR12 := Lib.hid (bblk hb2 HR11.out)
  clear hb2
  go_upto_region 5 with (fail)
  obtain ⟨W, hW⟩ : ∃ W : World, w2 = W := ⟨_, rfl⟩
  have HBW : Hid (Below w.heap.size w W) := by rw [← hW]; exact HB2.out
  have HWR0 : Hid (W.heap[w.heap.size]? = some (.cells (fyCells b) 25 (0, 0))) := by rw [← hW]; exact HR02.out
  have HWR1 : Hid (W.heap[w.heap.size + 1]? = some (.cells #[Ytdhkgpfcanekkaa.u8 v0, Ytdhkgpfcanekkaa.u8 v1, Ytdhkgpfcanekkaa.u8 v2, Ytdhkgpfcanekkaa.u8 v3] 22 (0, 0))) := by rw [← hW]; exact HR12.out
  clear HB2 HR02 HR12
  subst hW
  generalize w2 = W at *
  have HY := Lib.hid (show W.cell? ⟨rg, 0, none⟩ = some (iv lo) ∧ W.cell? ⟨rg, 1, none⟩ = some (iv hi) from ⟨y0, y1⟩)
  have s0 : W.cell? ⟨w.heap.size + 1, 0, none⟩ = some (Ytdhkgpfcanekkaa.u8 v0) := by rw [cell_of_row _ _ _ _ _ _ HWR1.out]; rfl
  have s1 : W.cell? ⟨w.heap.size + 1, 1, none⟩ = some (Ytdhkgpfcanekkaa.u8 v1) := by rw [cell_of_row _ _ _ _ _ _ HWR1.out]; rfl
  have s2 : W.cell? ⟨w.heap.size + 1, 2, none⟩ = some (Ytdhkgpfcanekkaa.u8 v2) := by rw [cell_of_row _ _ _ _ _ _ HWR1.out]; rfl
  have s3 : W.cell? ⟨w.heap.size + 1, 3, none⟩ = some (Ytdhkgpfcanekkaa.u8 v3) := by rw [cell_of_row _ _ _ _ _ _ HWR1.out]; rfl
  have s6 : Below W.heap.size W W := Below.refl _ _
  have hf : w.heap.size + 1 < W.heap.size := (Array.getElem?_eq_some_iff.1 HWR1.out).1
  have hcb : rg < W.heap.size := lt_of_cell y0
  have HZa : Hid (((W.alloc (.cells #[.slice none 0 0, .slice none 0 0, .int .i64 0, .int .i64 0] 40)).alloc (.cells #[iv lo, iv hi, .int .i64 0, .int .i64 0] 43)).drew.heap[W.heap.size]? = some (.cells #[.slice none 0 0, .slice none 0 0, .int .i64 0, .int .i64 0] 40 (0, 0))) := heap_new1 _ _ _ _
  have HZb : Hid (((W.alloc (.cells #[iv lo, iv hi, .int .i64 0, .int .i64 0] 43)).alloc (.cells #[.slice none 0 0, .slice none 0 0, .int .i64 0, .int .i64 0] 40)).drew.heap[W.heap.size + 1]? = some (.cells #[.slice none 0 0, .slice none 0 0, .int .i64 0, .int .i64 0] 40 (0, 0))) := heapB (by simp)
  have HCa : Hid (SliceOf encN 4 ((W.alloc (.cells #[.slice none 0 0, .slice none 0 0, .int .i64 0, .int .i64 0] 40)).alloc (.cells #[iv lo, iv hi, .int .i64 0, .int .i64 0] 43)).drew (.slice (some ⟨W.heap.size + 1, 0, none⟩) 1 1) [((lo, hi), (0, 0))]) := tn_new (heapB (by simp))
  have HCb : Hid (SliceOf encN 4 ((W.alloc (.cells #[iv lo, iv hi, .int .i64 0, .int .i64 0] 43)).alloc (.cells #[.slice none 0 0, .slice none 0 0, .int .i64 0, .int .i64 0] 40)).drew (.slice (some ⟨W.heap.size, 0, none⟩) 1 1) [((lo, hi), (0, 0))]) := tn_new (heap_new1 W #[iv lo, iv hi, .int .i64 0, .int .i64 0] _ _)
  have HCc : Hid (SliceOf encN 4 (W.alloc (.cells #[iv lo, iv hi, .int .i64 0, .int .i64 0] 43)).drew (.slice (some ⟨W.heap.size, 0, none⟩) 1 1) [((lo, hi), (0, 0))]) := tn_new (heapB rfl)
  go_cut [10] (fun p wx => FldCut lo hi gap str m R W p wx)
  case first =>
    go_region_held3 (fun X => X.cell? ⟨w.heap.size + 1, 0, none⟩ = some (Ytdhkgpfcanekkaa.u8 v0) ∧ X.cell? ⟨w.heap.size + 1, 1, none⟩ = some (Ytdhkgpfcanekkaa.u8 v1) ∧ X.cell? ⟨w.heap.size + 1, 2, none⟩ = some (Ytdhkgpfcanekkaa.u8 v2) ∧ X.cell? ⟨w.heap.size + 1, 3, none⟩ = some (Ytdhkgpfcanekkaa.u8 v3) ∧ X.cell? ⟨rg, 0, none⟩ = some (iv lo) ∧ X.cell? ⟨rg, 1, none⟩ = some (iv hi) ∧ Below W.heap.size W X)
      (repeat (first | (with_reducible assumption) | (with_reducible exact ⟨by assumption, by assumption, by assumption, by assumption, by assumption, by assumption, by assumption⟩) | (with_reducible refine swPush hf hcb ?_) | (with_reducible refine swDrew ?_) | (with_reducible refine swSet hf hcb (by first | exact Nat.le_refl _ | omega) ?_) | (with_reducible refine swCall hf hcb hbK ?_)))
      (first | (go_split_ands; (with_reducible refine (HTN.out _ _ _ (by first | exact HCa.out | exact HCb.out | exact HCc.out)).mono ?_); rintro e w3 ⟨g1, c1, g2, c2, rfl, hsK, hrK, hbK⟩; (try have hy1 := fieldK (krowN' hbK HZa.out)); (try have hy2 := fieldK (krowN' hbK HZb.out)); go_split_ands))
    all_goals
      have hBw : Below W.heap.size W w3 := by refine bstep ?_ hbK; exact (by repeat (first | exact Below.refl _ _ | refine Below.drew ?_ | refine bpush ?_ _ | refine bput ?_ (by simp) _ | (refine bstep ?_ (by assumption))))
      go_wp2_with fail
      go_meet
      first
        | with_reducible exact fdA hBw hsK hrK
        | with_reducible exact fdB hBw hsK hrK HM1.out (krowN' hbK HZa.out) (Nat.le_refl _)
        | with_reducible exact fdB hBw hsK hrK HM1.out (krowN' hbK HZb.out) (Nat.le_succ _)
  case rest =>
    obtain ⟨gf, g1, c1, g2, c2, rfl, hfr, hfs, hfi, hBc⟩ := hcut
    clear s0 s1 s2 s3 s6 hf hcb HZa HZb HCa HCb HCc y0 y1
    have HB3 := Lib.hid (HBW.out.trans (hBc.mono HBW.out.size))
    have HWR03 := Lib.hid (krowN' hBc HWR0.out)
    have HY3 := Lib.hid (show wc.cell? ⟨rg, 0, none⟩ = some (iv lo) ∧ wc.cell? ⟨rg, 1, none⟩ = some (iv hi) from ⟨kcell hBc HY.out.1, kcell hBc HY.out.2⟩)
    have HFR := Lib.hid hfr
    have HFS := Lib.hid hfs
    have HFI := Lib.hid hfi
    have f0 : wc.cell? ⟨gf, 0, none⟩ = some (.slice (some ⟨g1, 0, none⟩) 1 c1) := by rw [cell_of_row _ _ _ _ _ _ hfr]; rfl
    have f1 : wc.cell? ⟨gf, 1, none⟩ = some (.slice (some ⟨g2, 0, none⟩) m c2) := by rw [cell_of_row _ _ _ _ _ _ hfr]; rfl
    have f2 : wc.cell? ⟨gf, 2, none⟩ = some (iv gap) := by rw [cell_of_row _ _ _ _ _ _ hfr]; rfl
    have f3 : wc.cell? ⟨gf, 3, none⟩ = some (iv str) := by rw [cell_of_row _ _ _ _ _ _ hfr]; rfl
    clear hfr hfs hfi hBc
    go_wp2_with fail
    refine (HOW.out _ _ _ _ _ HFS.out HFI.out).mono ?_
    rintro e w4 ⟨h1, d1, h2, d2, rfl, hs4, hi4, hb4⟩
    have HS4 := Lib.hid hs4; have HI4 := Lib.hid hi4; clear hs4 hi4
    go_wp2_with fail
    refine (HHG.out _ _ _ _ _ HS4.out HI4.out).mono ?_
    rintro e w5 ⟨gh, rfl, ⟨z0, z1⟩, hb5⟩
    have HB5 := Lib.hid (bstep (bstep HB3.out hb4) hb5)
    have hB45 : Below wc.heap.size wc w5 := bstep hb4 hb5
    have HWR05 := Lib.hid (krowN' hB45 HWR03.out)
    have HY5 := Lib.hid (show w5.cell? ⟨rg, 0, none⟩ = some (iv lo) ∧ w5.cell? ⟨rg, 1, none⟩ = some (iv hi) from ⟨kcell hB45 HY3.out.1, kcell hB45 HY3.out.2⟩)
    have HFR5 := Lib.hid (krowN' hB45 HFR.out)
    have HFS5 := Lib.hid (HFS.out.below hB45)
    have HFI5 := Lib.hid (HFI.out.below hB45)
    clear hb4 hb5 hB45 f0 f1 f2 f3
    have a0 : w5.cell? ⟨w.heap.size, 0, none⟩ = some (Ytdhkgpfcanekkaa.u8 (b 0)) := by rw [cell_of_row _ _ _ _ _ _ HWR05.out]; rfl
    have a1 : w5.cell? ⟨w.heap.size, 1, none⟩ = some (Ytdhkgpfcanekkaa.u8 (b 1)) := by rw [cell_of_row _ _ _ _ _ _ HWR05.out]; rfl
    have a2 : w5.cell? ⟨w.heap.size, 2, none⟩ = some (Ytdhkgpfcanekkaa.u8 (b 2)) := by rw [cell_of_row _ _ _ _ _ _ HWR05.out]; rfl
    have a3 : w5.cell? ⟨w.heap.size, 3, none⟩ = some (Ytdhkgpfcanekkaa.u8 (b 3)) := by rw [cell_of_row _ _ _ _ _ _ HWR05.out]; rfl
    have a4 : w5.cell? ⟨w.heap.size, 4, none⟩ = some (Ytdhkgpfcanekkaa.u8 (b 4)) := by rw [cell_of_row _ _ _ _ _ _ HWR05.out]; rfl
    have a5 : w5.cell? ⟨w.heap.size, 5, none⟩ = some (Ytdhkgpfcanekkaa.u8 (b 5)) := by rw [cell_of_row _ _ _ _ _ _ HWR05.out]; rfl
    have a6 : w5.cell? ⟨w.heap.size, 6, none⟩ = some (Ytdhkgpfcanekkaa.u8 (b 6)) := by rw [cell_of_row _ _ _ _ _ _ HWR05.out]; rfl
    have a7 : w5.cell? ⟨w.heap.size, 7, none⟩ = some (Ytdhkgpfcanekkaa.u8 (b 7)) := by rw [cell_of_row _ _ _ _ _ _ HWR05.out]; rfl
    have a8 : w5.cell? ⟨w.heap.size, 8, none⟩ = some (Ytdhkgpfcanekkaa.u8 (b 8)) := by rw [cell_of_row _ _ _ _ _ _ HWR05.out]; rfl
    have a9 : w5.cell? ⟨w.heap.size, 9, none⟩ = some (Ytdhkgpfcanekkaa.u8 (b 9)) := by rw [cell_of_row _ _ _ _ _ _ HWR05.out]; rfl
    have a10 : w5.cell? ⟨w.heap.size, 10, none⟩ = some (Ytdhkgpfcanekkaa.u8 (b 10)) := by rw [cell_of_row _ _ _ _ _ _ HWR05.out]; rfl
    have a11 : w5.cell? ⟨w.heap.size, 11, none⟩ = some (Ytdhkgpfcanekkaa.u8 (b 11)) := by rw [cell_of_row _ _ _ _ _ _ HWR05.out]; rfl
    go_wp2_with fail
    refine (HEA.out _).mono ?_
    rintro e w6 ⟨rfl, hb6⟩
    have HB6 := Lib.hid (bstep HB5.out hb6)
    have HPB : Hid (0 ≤ permI str lo ∧ permI str lo ≤ 4000) := by
      obtain ⟨⟨⟨q1, q2, q3, q4⟩, q5⟩, -⟩ := HBD.out
      have h1 := permI_ge (a := lo) q5.1 (by omega)
      have h2 := wetAt_in q1 (Int.le_trans q2 q3) q4 q5 1
      by_cases hno : permI str lo < hi
      · exact ⟨by omega, by omega⟩
      · unfold wetAt at h2
        rw [if_neg hno] at h2
        simp at h2
        exact ⟨by omega, by omega⟩
    have HRM : Hid (0 ≤ real * (1000 + str) ∧ real * (1000 + str) ≤ 2000 * 1119) := by
      obtain ⟨⟨⟨q1, q2, q3, q4⟩, q5, q6⟩, -⟩ := HBD.out
      exact ⟨Int.mul_nonneg (by omega) (by omega), Int.le_trans (Int.mul_le_mul_of_nonneg_right (show real ≤ 2000 by omega) (by omega)) (Int.mul_le_mul_of_nonneg_left (by omega) (by omega))⟩
    have HFR6 := Lib.hid (krowN' hb6 HFR5.out)
    have HFS6 := Lib.hid (HFS5.out.below hb6)
    have HFI6 := Lib.hid (HFI5.out.below hb6)
    have HZ6 := Lib.hid (show (w6.cell? ⟨gh, 0, none⟩ = some (iv (lenS str ((lo, hi), (0, 0))).1) ∧ w6.cell? ⟨gh, 1, none⟩ = some (iv (lenS str ((lo, hi), (0, 0))).2)) ∧ w6.cell? ⟨rg, 1, none⟩ = some (iv hi) from ⟨⟨kcell hb6 z0, kcell hb6 z1⟩, kcell hb6 HY5.out.2⟩)
    clear hb6 z0 z1 a0 a1 a2 a3 a4 a5 a6 a7 a8 a9 a10 a11 t0 e0 j0 j1
    go_wp2_with fail
    go_loopw [14] (fun i wr => ∃ k : Nat, k ≤ 3 ∧ i = iv k ∧ Hid (Below w6.heap.size w6 wr)) (fun i _ => 3 - (intOf i).toNat)
    case atStart => exact ⟨0, by omega, rfl, Below.refl _ _⟩
    case round =>
      obtain ⟨k, hk, rfl, HBR⟩ := hrel
      rename World => wR
      have HFR7 := Lib.hid (krowN' HBR.out HFR6.out)
      have HFS7 := Lib.hid (HFS6.out.below HBR.out)
      have HFI7 := Lib.hid (HFI6.out.below HBR.out)
      by_cases hlt : k < 3
      · have z2 := kcell HBR.out HZ6.out.2
        have f0 : wR.cell? ⟨gf, 0, none⟩ = some (.slice (some ⟨g1, 0, none⟩) 1 c1) := by rw [cell_of_row _ _ _ _ _ _ HFR7.out]; rfl
        have f1 : wR.cell? ⟨gf, 1, none⟩ = some (.slice (some ⟨g2, 0, none⟩) m c2) := by rw [cell_of_row _ _ _ _ _ _ HFR7.out]; rfl
        have f2 : wR.cell? ⟨gf, 2, none⟩ = some (iv gap) := by rw [cell_of_row _ _ _ _ _ _ HFR7.out]; rfl
        have f3 : wR.cell? ⟨gf, 3, none⟩ = some (iv str) := by rw [cell_of_row _ _ _ _ _ _ HFR7.out]; rfl
        by_cases hno : permI str lo < hi
        · have hl : lenS str ((lo, hi), (0, 0)) = (1, 0) := if_pos hno
          have z0 := kcell HBR.out HZ6.out.1.1
          have z1 := kcell HBR.out HZ6.out.1.2
          rw [hl] at z0 z1
          obtain rfl | rfl | rfl : k = 0 ∨ k = 1 ∨ k = 2 := by omega
          · have hw : wetAt str lo hi 0 = hi := if_pos hno
            clear hl hk hlt
            go_wp2_with fail
            go_quiet (fail)
            go_wp2_with fail
            go_quiet (fail)
            go_wp2_with fail
            refine (HOW.out _ _ _ _ _ (HFS7.out.below (bdrewNO (Below.refl _ _) _)) (HFI7.out.below (bdrewNO (Below.refl _ _) _))).mono ?_
            rintro e w8 ⟨h1, d1, h2, d2, rfl, hs8, hi8, hb8⟩
            have HS8 := Lib.hid hs8; have HI8 := Lib.hid hi8
            have hb9 : Below wR.heap.size wR w8 := bstep (bdrewNO (Below.refl _ _) _) hb8
            have HB8 := Lib.hid (bstep HBR.out hb9)
            have HFR8 := Lib.hid (krowN' hb9 HFR7.out)
            have HZ8 := Lib.hid (And.intro (kcell hb9 z0) (kcell hb9 z1))
            clear hs8 hi8 hb8 hb9 f0 f1 f2 f3 z0 z1 z2
            go_wp2_with fail
            have HSK := HST.out _ _ _ _ _ 0 HS8.out HI8.out
            rw [hw] at HSK
            refine HSK.mono ?_
            rintro e w9 ⟨rfl, hb9⟩
            clear HSK
            have HB9 := Lib.hid (bstep HB8.out hb9)
            have f3 : w9.cell? ⟨gf, 3, none⟩ = some (iv str) := kcell hb9 (by rw [cell_of_row _ _ _ _ _ _ HFR8.out]; rfl)
            have z0 := kcell hb9 HZ8.out.1
            have z1 := kcell hb9 HZ8.out.2
            clear hb9
            have e1 : IntKind.i64.wrap ((hi) * 1000) = (hi) * 1000 := IntWalk.i64_in _ ⟨by have := HBD.out; have := HPB.out; omega, by have := HBD.out; have := HPB.out; omega⟩
            have e2 : IntKind.i64.wrap (1000 + str) = 1000 + str := IntWalk.i64_in _ ⟨by have := HBD.out; omega, by have := HBD.out; omega⟩
            have e3 : IntKind.i64.wrap (real * (1000 + str)) = real * (1000 + str) := IntWalk.i64_in _ ⟨by have := HRM.out; omega, by have := HRM.out; omega⟩
            have x3 : decide (permI str lo < hi) = true := decide_eq_true (by omega)
            by_cases ho : real * (1000 + str) < (hi) * 1000
            · have x2 : decide (real * (1000 + str) < (hi) * 1000) = true := decide_eq_true ho
              cases x1 : decide (permI str hi < hi)
              · go_wp2_with fail
                go_quiet (fail)
                go_wp2_with fail
                go_roundw
                case rel => exact ⟨0 + 1, by omega, by go_num, bdrewNO HB9.out _⟩
                case measure => simp [intOf]
              · go_wp2_with fail
                go_quiet (fail)
                go_wp2_with fail
                go_roundw
                case rel => exact ⟨0 + 1, by omega, by go_num, bdrewNO HB9.out _⟩
                case measure => simp [intOf]
            · have x2 : decide (real * (1000 + str) < (hi) * 1000) = false := decide_eq_false ho
              have x1 : decide (permI str hi < hi) = false := decide_eq_false (fun h => ho ((wet_over HBD.out.1.1.2.1 HBD.out.1.1.2.2.1 HBD.out.1.2.1 (hi)).1 h))
              go_wp2_with fail
              go_quiet (fail)
              go_wp2_with fail
              go_roundw
              case rel => exact ⟨0 + 1, by omega, by go_num, bdrewNO HB9.out _⟩
              case measure => simp [intOf]
          · have hw : wetAt str lo hi 1 = hi := if_pos hno
            clear hl hk hlt
            go_wp2_with fail
            go_quiet (fail)
            go_wp2_with fail
            go_quiet (fail)
            go_wp2_with fail
            refine (HOW.out _ _ _ _ _ (HFS7.out.below (bdrewNO (Below.refl _ _) _)) (HFI7.out.below (bdrewNO (Below.refl _ _) _))).mono ?_
            rintro e w8 ⟨h1, d1, h2, d2, rfl, hs8, hi8, hb8⟩
            have HS8 := Lib.hid hs8; have HI8 := Lib.hid hi8
            have hb9 : Below wR.heap.size wR w8 := bstep (bdrewNO (Below.refl _ _) _) hb8
            have HB8 := Lib.hid (bstep HBR.out hb9)
            have HFR8 := Lib.hid (krowN' hb9 HFR7.out)
            have HZ8 := Lib.hid (And.intro (kcell hb9 z0) (kcell hb9 z1))
            clear hs8 hi8 hb8 hb9 f0 f1 f2 f3 z0 z1 z2
            go_wp2_with fail
            have HSK := HST.out _ _ _ _ _ 1 HS8.out HI8.out
            rw [hw] at HSK
            refine HSK.mono ?_
            rintro e w9 ⟨rfl, hb9⟩
            clear HSK
            have HB9 := Lib.hid (bstep HB8.out hb9)
            have f3 : w9.cell? ⟨gf, 3, none⟩ = some (iv str) := kcell hb9 (by rw [cell_of_row _ _ _ _ _ _ HFR8.out]; rfl)
            have z0 := kcell hb9 HZ8.out.1
            have z1 := kcell hb9 HZ8.out.2
            clear hb9
            have e1 : IntKind.i64.wrap ((hi) * 1000) = (hi) * 1000 := IntWalk.i64_in _ ⟨by have := HBD.out; have := HPB.out; omega, by have := HBD.out; have := HPB.out; omega⟩
            have e2 : IntKind.i64.wrap (1000 + str) = 1000 + str := IntWalk.i64_in _ ⟨by have := HBD.out; omega, by have := HBD.out; omega⟩
            have e3 : IntKind.i64.wrap (real * (1000 + str)) = real * (1000 + str) := IntWalk.i64_in _ ⟨by have := HRM.out; omega, by have := HRM.out; omega⟩
            have x3 : decide (permI str lo < hi) = true := decide_eq_true (by omega)
            by_cases ho : real * (1000 + str) < (hi) * 1000
            · have x2 : decide (real * (1000 + str) < (hi) * 1000) = true := decide_eq_true ho
              cases x1 : decide (permI str hi < hi)
              · go_wp2_with fail
                go_quiet (fail)
                go_wp2_with fail
                go_roundw
                case rel => exact ⟨1 + 1, by omega, by go_num, bdrewNO HB9.out _⟩
                case measure => simp [intOf]
              · go_wp2_with fail
                go_quiet (fail)
                go_wp2_with fail
                go_roundw
                case rel => exact ⟨1 + 1, by omega, by go_num, bdrewNO HB9.out _⟩
                case measure => simp [intOf]
            · have x2 : decide (real * (1000 + str) < (hi) * 1000) = false := decide_eq_false ho
              have x1 : decide (permI str hi < hi) = false := decide_eq_false (fun h => ho ((wet_over HBD.out.1.1.2.1 HBD.out.1.1.2.2.1 HBD.out.1.2.1 (hi)).1 h))
              go_wp2_with fail
              go_quiet (fail)
              go_wp2_with fail
              go_roundw
              case rel => exact ⟨1 + 1, by omega, by go_num, bdrewNO HB9.out _⟩
              case measure => simp [intOf]
          · have hw : wetAt str lo hi 2 = hi := if_pos hno
            clear hl hk hlt
            go_wp2_with fail
            go_quiet (fail)
            go_wp2_with fail
            go_quiet (fail)
            go_wp2_with fail
            refine (HOW.out _ _ _ _ _ (HFS7.out.below (bdrewNO (Below.refl _ _) _)) (HFI7.out.below (bdrewNO (Below.refl _ _) _))).mono ?_
            rintro e w8 ⟨h1, d1, h2, d2, rfl, hs8, hi8, hb8⟩
            have HS8 := Lib.hid hs8; have HI8 := Lib.hid hi8
            have hb9 : Below wR.heap.size wR w8 := bstep (bdrewNO (Below.refl _ _) _) hb8
            have HB8 := Lib.hid (bstep HBR.out hb9)
            have HFR8 := Lib.hid (krowN' hb9 HFR7.out)
            have HZ8 := Lib.hid (And.intro (kcell hb9 z0) (kcell hb9 z1))
            clear hs8 hi8 hb8 hb9 f0 f1 f2 f3 z0 z1 z2
            go_wp2_with fail
            have HSK := HST.out _ _ _ _ _ 2 HS8.out HI8.out
            rw [hw] at HSK
            refine HSK.mono ?_
            rintro e w9 ⟨rfl, hb9⟩
            clear HSK
            have HB9 := Lib.hid (bstep HB8.out hb9)
            have f3 : w9.cell? ⟨gf, 3, none⟩ = some (iv str) := kcell hb9 (by rw [cell_of_row _ _ _ _ _ _ HFR8.out]; rfl)
            have z0 := kcell hb9 HZ8.out.1
            have z1 := kcell hb9 HZ8.out.2
            clear hb9
            have e1 : IntKind.i64.wrap ((hi) * 1000) = (hi) * 1000 := IntWalk.i64_in _ ⟨by have := HBD.out; have := HPB.out; omega, by have := HBD.out; have := HPB.out; omega⟩
            have e2 : IntKind.i64.wrap (1000 + str) = 1000 + str := IntWalk.i64_in _ ⟨by have := HBD.out; omega, by have := HBD.out; omega⟩
            have e3 : IntKind.i64.wrap (real * (1000 + str)) = real * (1000 + str) := IntWalk.i64_in _ ⟨by have := HRM.out; omega, by have := HRM.out; omega⟩
            have x3 : decide (permI str lo < hi) = true := decide_eq_true (by omega)
            by_cases ho : real * (1000 + str) < (hi) * 1000
            · have x2 : decide (real * (1000 + str) < (hi) * 1000) = true := decide_eq_true ho
              cases x1 : decide (permI str hi < hi)
              · go_wp2_with fail
                go_quiet (fail)
                go_wp2_with fail
                go_roundw
                case rel => exact ⟨2 + 1, by omega, by go_num, bdrewNO HB9.out _⟩
                case measure => simp [intOf]
              · go_wp2_with fail
                go_quiet (fail)
                go_wp2_with fail
                go_roundw
                case rel => exact ⟨2 + 1, by omega, by go_num, bdrewNO HB9.out _⟩
                case measure => simp [intOf]
            · have x2 : decide (real * (1000 + str) < (hi) * 1000) = false := decide_eq_false ho
              have x1 : decide (permI str hi < hi) = false := decide_eq_false (fun h => ho ((wet_over HBD.out.1.1.2.1 HBD.out.1.1.2.2.1 HBD.out.1.2.1 (hi)).1 h))
              go_wp2_with fail
              go_quiet (fail)
              go_wp2_with fail
              go_roundw
              case rel => exact ⟨2 + 1, by omega, by go_num, bdrewNO HB9.out _⟩
              case measure => simp [intOf]
        · have hl : lenS str ((lo, hi), (0, 0)) = (hi, permI str lo) := if_neg hno
          have z0 := kcell HBR.out HZ6.out.1.1
          have z1 := kcell HBR.out HZ6.out.1.2
          rw [hl] at z0 z1
          have y0 : decide (permI str lo < hi) = false := decide_eq_false hno
          have e4 : IntKind.i64.wrap (permI str lo + 1) = permI str lo + 1 := IntWalk.i64_in _ ⟨by have := HPB.out; omega, by have := HPB.out; omega⟩
          obtain rfl | rfl | rfl : k = 0 ∨ k = 1 ∨ k = 2 := by omega
          · have hw : wetAt str lo hi 0 = hi := by unfold wetAt; rw [if_neg hno]; simp
            clear hl hk hlt
            go_wp2_with fail
            go_quiet (fail)
            go_wp2_with fail
            go_quiet (fail)
            go_wp2_with fail
            refine (HOW.out _ _ _ _ _ (HFS7.out.below (bdrewNO (Below.refl _ _) _)) (HFI7.out.below (bdrewNO (Below.refl _ _) _))).mono ?_
            rintro e w8 ⟨h1, d1, h2, d2, rfl, hs8, hi8, hb8⟩
            have HS8 := Lib.hid hs8; have HI8 := Lib.hid hi8
            have hb9 : Below wR.heap.size wR w8 := bstep (bdrewNO (Below.refl _ _) _) hb8
            have HB8 := Lib.hid (bstep HBR.out hb9)
            have HFR8 := Lib.hid (krowN' hb9 HFR7.out)
            have HZ8 := Lib.hid (And.intro (kcell hb9 z0) (kcell hb9 z1))
            clear hs8 hi8 hb8 hb9 f0 f1 f2 f3 z0 z1 z2
            go_wp2_with fail
            have HSK := HST.out _ _ _ _ _ 0 HS8.out HI8.out
            rw [hw] at HSK
            refine HSK.mono ?_
            rintro e w9 ⟨rfl, hb9⟩
            clear HSK
            have HB9 := Lib.hid (bstep HB8.out hb9)
            have f3 : w9.cell? ⟨gf, 3, none⟩ = some (iv str) := kcell hb9 (by rw [cell_of_row _ _ _ _ _ _ HFR8.out]; rfl)
            have z0 := kcell hb9 HZ8.out.1
            have z1 := kcell hb9 HZ8.out.2
            clear hb9
            have e1 : IntKind.i64.wrap ((hi) * 1000) = (hi) * 1000 := IntWalk.i64_in _ ⟨by have := HBD.out; have := HPB.out; omega, by have := HBD.out; have := HPB.out; omega⟩
            have e2 : IntKind.i64.wrap (1000 + str) = 1000 + str := IntWalk.i64_in _ ⟨by have := HBD.out; omega, by have := HBD.out; omega⟩
            have e3 : IntKind.i64.wrap (real * (1000 + str)) = real * (1000 + str) := IntWalk.i64_in _ ⟨by have := HRM.out; omega, by have := HRM.out; omega⟩
            have x1 : decide (permI str hi < hi) = false := decide_eq_false (fun h => by have h1 := (wet_over HBD.out.1.1.2.1 HBD.out.1.1.2.2.1 HBD.out.1.2.1 (hi)); have h2 := h1.2 (h1.1 h); omega)
            have x2 : decide (real * (1000 + str) < (hi) * 1000) = false := decide_eq_false (fun h => by have h1 := (wet_over HBD.out.1.1.2.1 HBD.out.1.1.2.2.1 HBD.out.1.2.1 (hi)).2 h; omega)
            have x3 : decide (permI str lo < hi) = false := decide_eq_false (by omega)
            have y1 : decide (hi < real) = false := decide_eq_false (by have := HBD.out; omega)
            go_wp2_with fail
            go_quiet (fail)
            go_wp2_with fail
            go_roundw
            case rel => exact ⟨0 + 1, by omega, by go_num, bdrewNO HB9.out _⟩
            case measure => simp [intOf]
          · have hw : wetAt str lo hi 1 = permI str lo := by unfold wetAt; rw [if_neg hno]; simp
            clear hl hk hlt
            go_wp2_with fail
            go_quiet (fail)
            go_wp2_with fail
            go_quiet (fail)
            go_wp2_with fail
            refine (HOW.out _ _ _ _ _ (HFS7.out.below (bdrewNO (Below.refl _ _) _)) (HFI7.out.below (bdrewNO (Below.refl _ _) _))).mono ?_
            rintro e w8 ⟨h1, d1, h2, d2, rfl, hs8, hi8, hb8⟩
            have HS8 := Lib.hid hs8; have HI8 := Lib.hid hi8
            have hb9 : Below wR.heap.size wR w8 := bstep (bdrewNO (Below.refl _ _) _) hb8
            have HB8 := Lib.hid (bstep HBR.out hb9)
            have HFR8 := Lib.hid (krowN' hb9 HFR7.out)
            have HZ8 := Lib.hid (And.intro (kcell hb9 z0) (kcell hb9 z1))
            clear hs8 hi8 hb8 hb9 f0 f1 f2 f3 z0 z1 z2
            go_wp2_with fail
            have HSK := HST.out _ _ _ _ _ 1 HS8.out HI8.out
            rw [hw] at HSK
            refine HSK.mono ?_
            rintro e w9 ⟨rfl, hb9⟩
            clear HSK
            have HB9 := Lib.hid (bstep HB8.out hb9)
            have f3 : w9.cell? ⟨gf, 3, none⟩ = some (iv str) := kcell hb9 (by rw [cell_of_row _ _ _ _ _ _ HFR8.out]; rfl)
            have z0 := kcell hb9 HZ8.out.1
            have z1 := kcell hb9 HZ8.out.2
            clear hb9
            have e1 : IntKind.i64.wrap ((permI str lo) * 1000) = (permI str lo) * 1000 := IntWalk.i64_in _ ⟨by have := HBD.out; have := HPB.out; omega, by have := HBD.out; have := HPB.out; omega⟩
            have e2 : IntKind.i64.wrap (1000 + str) = 1000 + str := IntWalk.i64_in _ ⟨by have := HBD.out; omega, by have := HBD.out; omega⟩
            have e3 : IntKind.i64.wrap (real * (1000 + str)) = real * (1000 + str) := IntWalk.i64_in _ ⟨by have := HRM.out; omega, by have := HRM.out; omega⟩
            have x1 : decide (permI str hi < permI str lo) = false := decide_eq_false (fun h => by have h1 := (wet_over HBD.out.1.1.2.1 HBD.out.1.1.2.2.1 HBD.out.1.2.1 (permI str lo)); have h2 := h1.2 (h1.1 h); omega)
            have x2 : decide (real * (1000 + str) < (permI str lo) * 1000) = false := decide_eq_false (fun h => by have h1 := (wet_over HBD.out.1.1.2.1 HBD.out.1.1.2.2.1 HBD.out.1.2.1 (permI str lo)).2 h; omega)
            have x3 : decide (permI str lo < permI str lo) = false := decide_eq_false (by omega)
            have y1 : decide (permI str lo < real) = false := decide_eq_false (by have := HBD.out; omega)
            go_wp2_with fail
            go_quiet (fail)
            go_wp2_with fail
            go_roundw
            case rel => exact ⟨1 + 1, by omega, by go_num, bdrewNO HB9.out _⟩
            case measure => simp [intOf]
          · have hw : wetAt str lo hi 2 = permI str lo + 1 := by unfold wetAt; rw [if_neg hno]; simp
            clear hl hk hlt
            go_wp2_with fail
            go_quiet (fail)
            go_wp2_with fail
            go_quiet (fail)
            go_wp2_with fail
            refine (HOW.out _ _ _ _ _ (HFS7.out.below (bdrewNO (Below.refl _ _) _)) (HFI7.out.below (bdrewNO (Below.refl _ _) _))).mono ?_
            rintro e w8 ⟨h1, d1, h2, d2, rfl, hs8, hi8, hb8⟩
            have HS8 := Lib.hid hs8; have HI8 := Lib.hid hi8
            have hb9 : Below wR.heap.size wR w8 := bstep (bdrewNO (Below.refl _ _) _) hb8
            have HB8 := Lib.hid (bstep HBR.out hb9)
            have HFR8 := Lib.hid (krowN' hb9 HFR7.out)
            have HZ8 := Lib.hid (And.intro (kcell hb9 z0) (kcell hb9 z1))
            clear hs8 hi8 hb8 hb9 f0 f1 f2 f3 z0 z1 z2
            go_wp2_with fail
            have HSK := HST.out _ _ _ _ _ 2 HS8.out HI8.out
            rw [hw] at HSK
            refine HSK.mono ?_
            rintro e w9 ⟨rfl, hb9⟩
            clear HSK
            have HB9 := Lib.hid (bstep HB8.out hb9)
            have f3 : w9.cell? ⟨gf, 3, none⟩ = some (iv str) := kcell hb9 (by rw [cell_of_row _ _ _ _ _ _ HFR8.out]; rfl)
            have z0 := kcell hb9 HZ8.out.1
            have z1 := kcell hb9 HZ8.out.2
            clear hb9
            have e1 : IntKind.i64.wrap ((permI str lo + 1) * 1000) = (permI str lo + 1) * 1000 := IntWalk.i64_in _ ⟨by have := HBD.out; have := HPB.out; omega, by have := HBD.out; have := HPB.out; omega⟩
            have e2 : IntKind.i64.wrap (1000 + str) = 1000 + str := IntWalk.i64_in _ ⟨by have := HBD.out; omega, by have := HBD.out; omega⟩
            have e3 : IntKind.i64.wrap (real * (1000 + str)) = real * (1000 + str) := IntWalk.i64_in _ ⟨by have := HRM.out; omega, by have := HRM.out; omega⟩
            have x3 : decide (permI str lo < permI str lo + 1) = true := decide_eq_true (by omega)
            by_cases ho : real * (1000 + str) < (permI str lo + 1) * 1000
            · have x2 : decide (real * (1000 + str) < (permI str lo + 1) * 1000) = true := decide_eq_true ho
              cases x1 : decide (permI str hi < permI str lo + 1)
              · go_wp2_with fail
                go_quiet (fail)
                go_wp2_with fail
                go_roundw
                case rel => exact ⟨2 + 1, by omega, by go_num, bdrewNO HB9.out _⟩
                case measure => simp [intOf]
              · go_wp2_with fail
                go_quiet (fail)
                go_wp2_with fail
                go_roundw
                case rel => exact ⟨2 + 1, by omega, by go_num, bdrewNO HB9.out _⟩
                case measure => simp [intOf]
            · have x2 : decide (real * (1000 + str) < (permI str lo + 1) * 1000) = false := decide_eq_false ho
              have x1 : decide (permI str hi < permI str lo + 1) = false := decide_eq_false (fun h => ho ((wet_over HBD.out.1.1.2.1 HBD.out.1.1.2.2.1 HBD.out.1.2.1 (permI str lo + 1)).1 h))
              go_wp2_with fail
              go_quiet (fail)
              go_wp2_with fail
              go_roundw
              case rel => exact ⟨2 + 1, by omega, by go_num, bdrewNO HB9.out _⟩
              case measure => simp [intOf]
      · obtain rfl : k = 3 := by omega
        go_wp2_with fail
        refine (elmFulled_any _).mono ?_
        rintro e w8 ⟨rfl, hb8⟩
        go_wp2_with fail
        refine (elmField_any _).mono ?_
        rintro e w9 ⟨rfl, hb9⟩
        go_wp2_with fail
        go_ret
        exact ⟨rfl, bstep (bstep (bstep HB6.out HBR.out) hb8) hb9⟩
end Go.Proofs.Ytdhkgpfcanekkaa
