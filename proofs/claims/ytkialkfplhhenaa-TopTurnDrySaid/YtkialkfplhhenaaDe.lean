/- TopTurnDry: the walk. -/
import Derived.Test.YtkialkfplhhenaaDd
import Derived.Test.YtkialkfplhhenaaDc
import Derived.Test.YtkialkfplhhenaaMc
import Derived.Deep.RegionHeld3
import Derived.Deep.RegionLaw
import Derived.Deep.CutBlock
import Derived.Deep.DeepCutAuto
namespace Go.Proofs.Ytkialkfplhhenaa
open Go Go.RowKit Go.Shelf
attribute [local go_sem] Oper.semAt_some
attribute [local go_sem ↓] Go.wp_at_zero Go.wp_at_succ

/-- What the stores ask of a field that was laid before the call. -/
theorem fieldK {W : World} {g : Nat} (h : W.heap[g]? = some (.cells #[.slice none 0 0, .slice none 0 0, .int .i64 0, .int .i64 0] 43 (0, 0))) :
    (W.cell? ⟨g, 0, none⟩ = some (.slice none 0 0) ∧ W.cell? ⟨g, 1, none⟩ = some (.slice none 0 0) ∧ W.cell? ⟨g, 2, none⟩ = some (.int .i64 0) ∧ W.cell? ⟨g, 3, none⟩ = some (.int .i64 0)) ∧ (W.frozen? ⟨g, 0, none⟩ = false ∧ W.frozen? ⟨g, 1, none⟩ = false ∧ W.frozen? ⟨g, 2, none⟩ = false ∧ W.frozen? ⟨g, 3, none⟩ = false) ∧ g < W.heap.size := by
  refine ⟨⟨?_, ?_, ?_, ?_⟩, ⟨?_, ?_, ?_, ?_⟩, (Array.getElem?_eq_some_iff.1 h).1⟩ <;> first | (rw [cell_of_row _ _ _ _ _ _ h]; rfl) | exact frozen_of_row _ _ _ _ _ h
theorem row4O {W : World} {g : Nat} {x0 x1 x2 x3 a b c d : Value} {t : TypeId} (h : W.heap[g]? = some (.cells #[x0, x1, x2, x3] t (0, 0))) : ((((W.setCell ⟨g, 0, none⟩ a).setCell ⟨g, 1, none⟩ b).setCell ⟨g, 2, none⟩ c).setCell ⟨g, 3, none⟩ d).heap[g]? = some (.cells #[a, b, c, d] t (0, 0)) :=
  heap_setCell_same _ g 3 #[a, b, c, x3] t d (heap_setCell_same _ g 2 #[a, b, x2, x3] t c (heap_setCell_same _ g 1 #[a, x1, x2, x3] t b (heap_setCell_same _ g 0 #[x0, x1, x2, x3] t a h)))
theorem put4O {W : World} {g k : Nat} {a b c d : Value} (hk : k ≠ g) : ((((W.setCell ⟨g, 0, none⟩ a).setCell ⟨g, 1, none⟩ b).setCell ⟨g, 2, none⟩ c).setCell ⟨g, 3, none⟩ d).heap[k]? = W.heap[k]? := by
  rw [Below.heap_setCell _ _ _ _ hk, Below.heap_setCell _ _ _ _ hk, Below.heap_setCell _ _ _ _ hk, Below.heap_setCell _ _ _ _ hk]
/-- A field has been laid. -/
def TdFld (T : List Tn) (gap str : Int) (m : Nat) (R : List Int) (W : World) (p : Value) (wx : World) : Prop :=
  ∃ g g1 c1 g2 c2, p = .pointer (some ⟨g, 0, none⟩) ∧ wx.heap[g]? = some (.cells #[.slice (some ⟨g1, 0, none⟩) T.length c1, .slice (some ⟨g2, 0, none⟩) m c2, iv gap, iv str] 43 (0, 0)) ∧ SliceOf encN 4 wx (.slice (some ⟨g1, 0, none⟩) T.length c1) T ∧ Ints wx (.slice (some ⟨g2, 0, none⟩) m c2) R ∧ Below W.heap.size W wx
section
variable {T : List Tn} {gap str : Int} {m g1 c1 g2 c2 : Nat} {R : List Int} {W w3 : World}
theorem tfA (hb : Below W.heap.size W w3) (hS : SliceOf encN 4 w3 (.slice (some ⟨g1, 0, none⟩) T.length c1) T) (hR : Ints w3 (.slice (some ⟨g2, 0, none⟩) m c2) R) :
    TdFld T gap str m R W (.pointer (some ⟨w3.heap.size, 0, none⟩)) (w3.alloc (.cells #[.slice (some ⟨g1, 0, none⟩) T.length c1, .slice (some ⟨g2, 0, none⟩) m c2, iv gap, iv str] 43)) :=
  ⟨_, g1, c1, g2, c2, rfl, heap_new _ _ _, hS.below (bpush (Below.refl _ _) _), hR.below (bpush (Below.refl _ _) _), bpush hb _⟩
theorem tfB {g : Nat} (hb : Below W.heap.size W w3) (hS : SliceOf encN 4 w3 (.slice (some ⟨g1, 0, none⟩) T.length c1) T) (hR : Ints w3 (.slice (some ⟨g2, 0, none⟩) m c2) R) (hne : 0 < R.length) (hz : w3.heap[g]? = some (.cells #[.slice none 0 0, .slice none 0 0, .int .i64 0, .int .i64 0] 43 (0, 0))) (hg : W.heap.size ≤ g) :
    TdFld T gap str m R W (.pointer (some ⟨g, 0, none⟩)) ((((w3.setCell ⟨g, 0, none⟩ (.slice (some ⟨g1, 0, none⟩) T.length c1)).setCell ⟨g, 1, none⟩ (.slice (some ⟨g2, 0, none⟩) m c2)).setCell ⟨g, 2, none⟩ (iv gap)).setCell ⟨g, 3, none⟩ (iv str)) := by
  have hz0 : w3.cell? ⟨g, 0, none⟩ = some (.slice none 0 0) := by rw [cell_of_row _ _ _ _ _ _ hz]; rfl
  have n2 : g2 ≠ g := by
    rintro rfl
    obtain ⟨x, hx⟩ : ∃ x, R[0]? = some x := ⟨R[0], List.getElem?_eq_getElem hne⟩
    obtain ⟨b, o, e, hj⟩ := sl_rowG (k := 0) hR hx
    simp only [Option.some.injEq, Addr.mk.injEq, and_true] at e
    obtain ⟨rfl, rfl⟩ := e
    have := hj 0 _ rfl
    rw [show (0 + 0 * 1 + 0 : Nat) = 0 from rfl, hz0] at this; cases this
  refine ⟨g, g1, c1, g2, c2, rfl, row4O hz, ?_, hR.at_block (fun o u h => (World.cell?_of_block (put4O n2)).trans h), bput (bput (bput (bput hb hg _) hg _) hg _) hg _⟩
  cases T with
  | nil => exact SliceOf.nil _ _ _ _ _
  | cons t T =>
    have n1 : g1 ≠ g := by
      rintro rfl
      obtain ⟨b, o, e, hj⟩ := sl_rowG (k := 0) hS rfl
      simp only [Option.some.injEq, Addr.mk.injEq, and_true] at e
      obtain ⟨rfl, rfl⟩ := e
      have := hj 0 _ rfl
      rw [show (0 + 0 * 4 + 0 : Nat) = 0 from rfl, hz0] at this; cases this
    exact hS.at_block (fun o u h => (World.cell?_of_block (put4O n1)).trans h)
end
theorem td_own {T : List Tn} {R : List Int} {m : Nat} {gap str : Int} {g1 c1 g2 c2 : Nat} (hT : T ≠ []) (hT4 : T.length ≤ 4) (hm : R.length = m + 1) (hm2 : m ≤ 2) (W : World) (h1 : SliceOf encN 4 W (.slice (some ⟨g1, 0, none⟩) T.length c1) T) (h2 : Ints W (.slice (some ⟨g2, 0, none⟩) (m + 1) c2) R) :
    Calls Try.prog 10 #[.agg #[.slice (some ⟨g1, 0, none⟩) T.length c1, .slice (some ⟨g2, 0, none⟩) (m + 1) c2, iv gap, iv str]] W fun e w' => ∃ y1 z1 y2 z2, e = .returned (.agg #[.slice (some ⟨y1, 0, none⟩) T.length z1, .slice (some ⟨y2, 0, none⟩) (m + 1) z2, iv gap, iv str]) ∧ SliceOf encN 4 w' (.slice (some ⟨y1, 0, none⟩) T.length z1) T ∧ Ints w' (.slice (some ⟨y2, 0, none⟩) (m + 1) z2) R ∧ Below W.heap.size W w' := by
  rw [← hm] at h2 ⊢
  exact elmOwn_any T R gap str ⟨g1, 0, none⟩ ⟨g2, 0, none⟩ c1 c2 W hT (by intro e; rw [e] at hm; simp at hm) (by omega) (by omega) h1 h2
theorem td_late {T : List Tn} {R : List Int} {m : Nat} {gap str : Int} {S : List Sp} {l : Nat} {el : Int} {rn h : Nat} {t : Tn} (hok : FdOk T R gap str S) (hm : R.length = m) (hr : rn ≤ S.length) (ht : T[h]? = some t) (hl : lateV (lateO t S rn) = .tuple #[iv l, iv el]) (ca ra wa : Option Addr) (cc rc wc : Nat) (W : World) (h1 : SliceOf encN 4 W (.slice ca T.length cc) T) (h2 : Ints W (.slice ra m rc) R) (h3 : SliceOf encS 2 W (.slice wa S.length wc) S) :
    Calls Try.prog 9 #[.agg #[.slice ca T.length cc, .slice ra m rc, iv gap, iv str], .slice wa S.length wc, iv h, iv rn] W fun e w' => e = .returned (.tuple #[iv l, iv el]) ∧ Below W.heap.size W w' := by
  subst hm
  have := Late_good T R gap str S ca ra wa cc rc wc h rn t W ⟨h1, h2, h3⟩ hok hr ht
  rw [hl] at this
  exact this
theorem td_dry {T : List Tn} {R : List Int} {m : Nat} {gap str : Int} {S : List Sp} {fr : Nat} (hok : FdOk T R gap str S) (hm : R.length = m) (hr : fr ≤ S.length) (ca ra wa : Option Addr) (cc rc wc : Nat) (W : World) (h1 : SliceOf encN 4 W (.slice ca T.length cc) T) (h2 : Ints W (.slice ra m rc) R) (h3 : SliceOf encS 2 W (.slice wa S.length wc) S) :
    Calls Try.prog 12 #[.agg #[.slice ca T.length cc, .slice ra m rc, iv gap, iv str], .slice wa S.length wc, iv fr] W fun e w' => ∃ g, e = .returned (.tuple #[.slice (some ⟨g, 0, none⟩) T.length T.length, iv 0]) ∧ SliceOf encS 2 w' (.slice (some ⟨g, 0, none⟩) T.length T.length) (T.map (dryS S fr)) ∧ Below W.heap.size W w' := by
  subst hm
  exact Dry_good T R gap str S ca ra wa cc rc wc fr W ⟨h1, h2, h3⟩ hok hr
def encB3 (p : B3) : List Value := [u8 p.1, u8 p.2.1, u8 p.2.2]
theorem b3_cells {w : World} {a : Option Addr} {n cap k : Nat} {Y : List B3} {p : B3} (h : SliceU encB3 3 w (.slice a n cap) Y) (hk : Y[k]? = some p) :
    ∃ yb yo, a = some ⟨yb, yo, none⟩ ∧ w.cell? ⟨yb, yo + k * 3, none⟩ = some (u8 p.1) ∧ w.cell? ⟨yb, yo + k * 3 + 1, none⟩ = some (u8 p.2.1) ∧ w.cell? ⟨yb, yo + k * 3 + 2, none⟩ = some (u8 p.2.2) := by
  obtain ⟨a', c', hv, _, hc⟩ := h
  simp only [Value.slice.injEq] at hv
  obtain ⟨rfl, rfl, rfl⟩ := hv
  obtain ⟨yb, yo, rfl, hj⟩ := hc k p hk
  exact ⟨yb, yo, rfl, hj 0 _ rfl, hj 1 _ rfl, hj 2 _ rfl⟩
theorem encC_cellD {w : World} {g : Nat} {a b c d : Int} {t : TypeId} (h : w.heap[g]? = some (.cells #[iv a, iv b, iv c, iv d] t (0, 0))) : ∀ j u, (encC ⟨a, b, c, d⟩)[j]? = some u → w.cell? ⟨g, j, none⟩ = some u := by
  intro j u hu
  rw [cell_of_row _ _ _ _ _ _ h]
  rcases j with _ | _ | _ | _ | j <;> simp [encC] at hu ⊢ <;> exact hu
theorem encN_cellD {w : World} {g : Nat} {a b c d : Int} {t : TypeId} (h : w.heap[g]? = some (.cells #[iv a, iv b, iv c, iv d] t (0, 0))) : ∀ j u, (encN ((a, b), (c, d)))[j]? = some u → w.cell? ⟨g, j, none⟩ = some u := by
  intro j u hu
  rw [cell_of_row _ _ _ _ _ _ h]
  rcases j with _ | _ | _ | _ | j <;> simp [encN] at hu ⊢ <;> exact hu
theorem encC_oneD (c : Ct) : ∀ u ∈ encC c, u.oneCell' = true := by simp [encC, Value.oneCell']
/-- What is kept while a cloth's bytes are read. -/
theorem tdKeep2 {W0 w' : World} {yb o0 o1 : Nat} {x0 x1 : Value} (h0 : W0.cell? ⟨yb, o0, none⟩ = some x0) (h1 : W0.cell? ⟨yb, o1, none⟩ = some x1) (hb : Below W0.heap.size W0 w') :
    w'.cell? ⟨yb, o0, none⟩ = some x0 ∧ w'.cell? ⟨yb, o1, none⟩ = some x1 ∧ Below W0.heap.size W0 w' :=
  ⟨kcellG hb h0, kcellG hb h1, hb⟩
theorem tdKeep4 {Wr w' : World} {b : Nat} {v0 v1 v2 v3 : Int} (h : Wr.heap[b]? = some (.cells #[u8 v0, u8 v1, u8 v2, u8 v3] 26 (0, 0))) (hb : Below Wr.heap.size Wr w') :
    w'.cell? ⟨b, 0, none⟩ = some (u8 v0) ∧ w'.cell? ⟨b, 1, none⟩ = some (u8 v1) ∧ w'.cell? ⟨b, 2, none⟩ = some (u8 v2) ∧ w'.cell? ⟨b, 3, none⟩ = some (u8 v3) ∧ Below Wr.heap.size Wr w' := by
  have h' := bblkG hb h
  refine ⟨?_, ?_, ?_, ?_, hb⟩ <;> (rw [cell_of_row _ _ _ _ _ _ h']; rfl)
theorem tdKeep1 {W0 w' : World} {yb o0 : Nat} {x0 : Value} (h0 : W0.cell? ⟨yb, o0, none⟩ = some x0) (hb : Below W0.heap.size W0 w') :
    w'.cell? ⟨yb, o0, none⟩ = some x0 ∧ Below W0.heap.size W0 w' :=
  ⟨kcellG hb h0, hb⟩
set_option maxRecDepth 20000 in
set_option maxHeartbeats 12800000 in
/-- What follows once the field lies in memory. -/
theorem tdry_rest {x0 x1 x2 x3 x4 x5 x10 x11 u26 u27 u28 u29 u30 u31 u32 u33 u34 u35 u36 u37 u38 u39 u40 u41 u42 u43 u44 u45 u46 u47 u48 u49 u50 u51 u52 u53 u54 u55 u56 u57 u58 u59 u60 u61 u62 u63 u64 u65 u66 u67 u68 u69 u70 u71 u72 u73 u74 u75 u76 u77 u78 u79 u80 u81 u82 u83 u84 u85 u86 u87 u88 u89 u90 u91 u92 u93 u94 u95 u96 u97 u98 u99 u100 u101 u102 u103 u104 u105 u106 u107 u108 u109 u110 u111 u112 u113 u114 u115 u116 u117 u118 u119 u120 u121 u122 u123 u124 u125 u126 u127 u128 u129 u130 u131 u132 u133 u134 u135 u136 u137 u138 u139 u140 u141 u142 u143 u144 u145 u146 u147 u148 u149 u150 u151 u152 u153 u154 u155 u156 u157 u158 u159 u160 u161 u162 u163 u164 u165 u166 u167 u168 u169 u170 u171 u172 u173 u174 u175 u176 u177 u178 u179 u180 u181 u182 u183 u184 u185 u186 u187 u188 u189 u190 u191 u192 u193 u194 u195 u196 u197 u198 u199 u200 u201 u202 u203 u204 u205 u206 u207 u208 u209 u210 u211 u212 u213 u214 u215 u216 u217 u218 u219 u220 u221 u222 u223 u224 u225 u226 u227 u228 u229 u230 u231 u232 u233 u234 u235 u236 u237 u238 u239 u240 u241 u242 u243 u244 u245 u246 u247 u248 u249 : Value} {w w1 W0 wc : World} {ta : Option Addr} {tn sg sc wg wk gf g1 c1 g2 c2 rn K n : Nat} {v0 v1 v2 v3 : Int} {S : List Sp} {C : List Ct} {T : List Tn}
    (hsl : 1 ≤ S.length ∧ S.length ≤ 16) (hsv : S.all vWth = true) (hck : tChk C k4R = 0) (hfd : FdOk T (frL v2 v3 (n + 1)) (v0 % 20) (v1 % 120) S) (hn2 : n ≤ 2) (hrl : rn ≤ S.length) (hkk : 1 ≤ K ∧ K ≤ 5) (hct : C.length = T.length) (hT4 : T.length ≤ 4) (hC4 : C.length ≤ 4)
    (ht3 : TdInv C T W0 (.slice (some ⟨w1.heap.size, 0, none⟩) 2 2) (.slice ta C.length tn) (.slice (some ⟨wg, 0, none⟩) T.length wk) wc)
    (hfr : wc.heap[gf]? = some (.cells #[.slice (some ⟨g1, 0, none⟩) T.length c1, .slice (some ⟨g2, 0, none⟩) (n + 1) c2, iv (v0 % 20), iv (v1 % 120)] 43 (0, 0))) (hfs : SliceOf encN 4 wc (.slice (some ⟨g1, 0, none⟩) T.length c1) T) (hfi : Ints wc (.slice (some ⟨g2, 0, none⟩) (n + 1) c2) (frL v2 v3 (n + 1)))
    (hs3 : SliceOf encS 2 wc (.slice (some ⟨sg, 0, none⟩) S.length sc) S) (hb3 : Below w.heap.size w wc) (hcr : Ints wc (.slice (some ⟨w1.heap.size, 0, none⟩) 2 2) k4R) :
    Code.wp Try.prog (match Try.f3.body with | some (.seq _ (.seq _ (.seq _ (.seq _ c)))) => c | _ => .skip) (bodyPost Try.prog Try.f3 fun e w' => e = .returned (.bool true) ∧ Below w.heap.size w w')
      { tmps := #[x0, x1, x2, x3, x4, x5, .bool false, .slice (some ⟨sg, 0, none⟩) S.length sc, .pointer (some ⟨W0.heap.size + 1, 0, none⟩), .slice (some ⟨wg, 0, none⟩) T.length wk, x10, x11, .pointer (some ⟨gf, 0, none⟩), iv rn, iv K, undef, undef, undef, undef, undef, undef, undef, undef, undef, undef, undef, u26, u27, u28, u29, u30, u31, u32, u33, u34, u35, u36, u37, u38, u39, u40, u41, u42, u43, u44, u45, u46, u47, u48, u49, u50, u51, u52, u53, u54, u55, u56, u57, u58, u59, u60, u61, u62, u63, u64, u65, u66, u67, u68, u69, u70, u71, u72, u73, u74, u75, u76, u77, u78, u79, u80, u81, u82, u83, u84, u85, u86, u87, u88, u89, u90, u91, u92, u93, u94, u95, u96, u97, u98, u99, u100, u101, u102, u103, u104, u105, u106, u107, u108, u109, u110, u111, u112, u113, u114, u115, u116, u117, u118, u119, u120, u121, u122, u123, u124, u125, u126, u127, u128, u129, u130, u131, u132, u133, u134, u135, u136, u137, u138, u139, u140, u141, u142, u143, u144, u145, u146, u147, u148, u149, u150, u151, u152, u153, u154, u155, u156, u157, u158, u159, u160, u161, u162, u163, u164, u165, u166, u167, u168, u169, u170, u171, u172, u173, u174, u175, u176, u177, u178, u179, u180, u181, u182, u183, u184, u185, u186, u187, u188, u189, u190, u191, u192, u193, u194, u195, u196, u197, u198, u199, u200, u201, u202, u203, u204, u205, u206, u207, u208, u209, u210, u211, u212, u213, u214, u215, u216, u217, u218, u219, u220, u221, u222, u223, u224, u225, u226, u227, u228, u229, u230, u231, u232, u233, u234, u235, u236, u237, u238, u239, u240, u241, u242, u243, u244, u245, u246, u247, u248, u249], defers := [] } wc := by
  have HSL := Lib.hid hsl; have HSV := Lib.hid hsv; have HCK := Lib.hid hck; have HFD := Lib.hid hfd; have HN2 := Lib.hid hn2; have HK := Lib.hid hkk; have HCT := Lib.hid hct
  have HT3 := Lib.hid ht3; have HFR := Lib.hid hfr; have HFS := Lib.hid hfs; have HFI := Lib.hid hfi; have HS3 := Lib.hid hs3; have HB3 := Lib.hid hb3; have HCR := Lib.hid hcr
  have hSl := hsl
  have HCC := Lib.hid (Owns.slice ht3.O0 encC_len (by omega))
  clear hsl hsv hck hfd hn2 hkk hct ht3 hfr hfs hfi hs3 hb3 hcr
  conv => arg 2; delta Go.Proofs.Try.f3; dsimp only
  have HSTA := Lib.hid (fun (W : World) (hC : SliceOf encC 4 W (.slice ta C.length tn) C) (hR : Ints W (.slice (some ⟨w1.heap.size, 0, none⟩) 2 2) k4R) => (show Calls Try.prog 7 #[.agg #[.slice ta C.length tn, .slice (some ⟨w1.heap.size, 0, none⟩) 2 2], iv K] W (StartsRes C k4R K W) from Starts_good C k4R ta w1.heap.size 0 tn 2 K W hC hR HCK.out HK.out))
  have HEND := Lib.hid (fun (W : World) (hC : SliceOf encC 4 W (.slice ta C.length tn) C) (hR : Ints W (.slice (some ⟨w1.heap.size, 0, none⟩) 2 2) k4R) => (show Calls Try.prog 8 #[.agg #[.slice ta C.length tn, .slice (some ⟨w1.heap.size, 0, none⟩) 2 2], iv K] W (EndsRes C k4R K W) from Ends_good C k4R ta w1.heap.size 0 tn 2 K W hC hR HCK.out HK.out))
  have c0 := HT3.out.c0
  have c1' := HT3.out.c1
  go_wp2_with fail
  refine (HSTA.out _ HCC.out HCR.out).mono ?_
  rintro e w4 ⟨o, qa, hord, hqa, rfl, hrow, hb4⟩
  have HB4 := Lib.hid hb4
  have HOR := Lib.hid hord
  have HRW := Lib.hid hrow
  have c0 := kcellG hb4 c0
  have c1' := kcellG hb4 c1'
  have HCC4 := Lib.hid (HCC.out.below hb4); have HCR4 := Lib.hid (HCR.out.below hb4)
  clear hord hrow hb4 HCC HCR HSTA
  go_wp2_with fail
  refine (HEND.out _ HCC4.out HCR4.out).mono ?_
  rintro e w5 ⟨o', hord', rfl, hb5⟩
  obtain rfl := td_ord HCK.out HOR.out hord'
  obtain ⟨hf1, hf2⟩ := td_facts HCK.out HOR.out HK.out
  have HF1 := Lib.hid hf1; have HF2 := Lib.hid hf2
  clear hord' hf1 hf2 c0 c1'
  generalize endL (visL (coOf C) (hiOf C) (List.replicate K 0) o) = E2 at *
  generalize endL (visL (coOf C) (loOf C) (List.replicate K 0) o) = E1 at *
  obtain ⟨wE, hwE⟩ : ∃ W : World, w5.alloc (.cells #[iv E1, iv E2] 36) = W := ⟨_, rfl⟩
  have hbE : Below w5.heap.size w5 wE := by rw [← hwE]; exact bpush (Below.refl _ _) _
  have HEN := Lib.hid (show wE.heap[w5.heap.size]? = some (.cells #[iv E1, iv E2] 36 (0, 0)) by rw [← hwE]; exact heap_new _ _ _)
  have hb : Below wc.heap.size wc wE := bstep HB4.out (bstep hb5 hbE)
  have HTE := Lib.hid (TdInv.below HT3.out hb)
  have HFR := Lib.hid (bblkG hb HFR.out); have HFS := Lib.hid (HFS.out.below hb); have HFI := Lib.hid (HFI.out.below hb)
  have HSE := Lib.hid (HS3.out.below hb)
  have HBE := Lib.hid (bstep HB3.out hb)
  have HRW := Lib.hid (bblkG (bstep hb5 hbE) HRW.out)
  have HCC := Lib.hid (HCC4.out.below (bstep hb5 hbE))
  have HWE := Lib.hid hwE
  clear hwE hbE hb5 hb HT3 HB4 HB3 HS3 HCC4 HCR4 HEND
  go_upto_region 11 with (fail)
  rw [HWE.out]
  have c0 := HTE.out.c0
  have hne : ((C.length : Int) != (C.length : Int)) = false := by simp
  have hne2 : ((T.length : Int) != (T.length : Int)) = false := by simp
  go_wp2_with fail
  clear c0 hne HWE
  have hn2 : n ≤ 2 := HN2.out
  have HRLn := Lib.hid (frL_len v2 v3 (n + 1))
  have HWO := Lib.hid (fun (W : World) (h : SliceOf encS 2 W (.slice (some ⟨sg, 0, none⟩) S.length sc) S) => elmSpans_any S ⟨sg, 0, none⟩ sc W (by omega) h)
  go_loopw [19, 20] (fun l i W => ∃ h : Nat, h ≤ C.length ∧ i = iv h ∧ l = iv (lastTo (tdD C K o) h) ∧ Hid (Below wE.heap.size wE W)) (fun _ i _ => C.length - (intOf i).toNat)
  case atStart => exact ⟨0, Nat.zero_le _, rfl, rfl, Below.refl _ _⟩
  case round =>
    obtain ⟨h, hh, rfl, rfl, HB⟩ := hrel
    by_cases hlt : h < C.length
    · obtain ⟨t, ht⟩ := getElem?_of_lt (show h < T.length by have := HCT.out; omega)
      obtain ⟨c, hc⟩ := getElem?_of_lt hlt
      have hchi : hiOf C h = c.hi := by simp [hiOf, ctAt, List.getD_eq_getElem?_getD, hc]
      obtain ⟨⟨a1, a2⟩, ⟨b1, b2⟩, b3⟩ := HF1.out h hlt
      have e1 := cell_rowI (i := h * 2 + 1) (bblkG HB.out HRW.out) (by rw [stF_len]; omega)
      obtain ⟨cb, co, rfl, hj⟩ := sl_rowG (HCC.out.below HB.out) hc
      have e2 : wr.cell? ⟨cb, co + h * 4 + 3, none⟩ = some (iv (hiOf C h)) := by rw [hchi]; exact hj 3 _ rfl
      have e3 : wr.cell? ⟨W0.heap.size + 1, 0, none⟩ = some (.slice (some ⟨cb, co, none⟩) C.length tn) := (TdInv.below HTE.out HB.out).c0
      have HLT : Hid (lastTo (tdD C K o) (h + 1) = max (lastTo (tdD C K o) h) (tdD C K o h)) := rfl
      have hdd : tdD C K o h = (stF C K o).getD (h * 2 + 1) 0 + hiOf C h := rfl
      rw [hdd] at b3 HLT
      generalize (stF C K o).getD (h * 2 + 1) 0 = fs at *
      generalize hiOf C h = hg at *
      obtain ⟨dn, hdn⟩ : ∃ dn : Nat, fs + hg = (dn : Int) := ⟨(fs + hg).toNat, by omega⟩
      have hd1 : 1 ≤ dn := by omega
      have hd2 : (dn : Int) ≤ E2 := by omega
      have w1' : IntKind.i64.wrap (fs + hg) = (dn : Int) := by rw [IntWalk.i64_in _ ⟨by omega, by omega⟩, hdn]
      rw [hdn] at HLT
      generalize lastTo (tdD C K o) h = la at *
      obtain ⟨mx, hmx⟩ : ∃ mx : Int, max la (dn : Int) = mx := ⟨_, rfl⟩
      rw [hmx] at HLT
      have hh0 : (0 : Int) ≤ (h : Int) := by omega
      have hh1 : (h : Int) < (C.length : Int) := by omega
      clear hc hchi hj a1 a2 b1 b2 b3 hdd hdn
      have hneT : T ≠ [] := by intro e; rw [e] at ht; simp at ht
      have HOW := Lib.hid (fun (W : World) h1 h2 => td_own (gap := v0 % 20) (str := v1 % 120) (g1 := g1) (c1 := c1) (g2 := g2) (c2 := c2) hneT hT4 HRLn.out hn2 W h1 h2)
      obtain ⟨l, el, hlv, hel⟩ := late_pair (c := t) (S := S) (rn := rn)
      have HEL := Lib.hid hel
      have HLA := Lib.hid (fun ca ra wa cc rc wc (W : World) h1 h2 h3 => td_late HFD.out HRLn.out hrl ht hlv ca ra wa cc rc wc W h1 h2 h3)
      have HTT := Lib.hid ht
      clear hneT hlv hel ht
      go_wp2_with fail
      go_quiet (fail)
      obtain ⟨wq, hwq⟩ : ∃ W : World, wr.drewN nq = W := ⟨_, rfl⟩
      have HBq := Lib.hid (show Below wE.heap.size wE wq by rw [← hwq]; exact bdrewN HB.out _)
      rw [hwq]
      clear e1 e2 e3 hwq w1'
      have f0 : wq.cell? ⟨gf, 0, none⟩ = some (.slice (some ⟨g1, 0, none⟩) T.length c1) := by rw [cell_of_row _ _ _ _ _ _ (bblkG HBq.out HFR.out)]; rfl
      have f1 : wq.cell? ⟨gf, 1, none⟩ = some (.slice (some ⟨g2, 0, none⟩) (n + 1) c2) := by rw [cell_of_row _ _ _ _ _ _ (bblkG HBq.out HFR.out)]; rfl
      have f2 : wq.cell? ⟨gf, 2, none⟩ = some (iv (v0 % 20)) := by rw [cell_of_row _ _ _ _ _ _ (bblkG HBq.out HFR.out)]; rfl
      have f3 : wq.cell? ⟨gf, 3, none⟩ = some (iv (v1 % 120)) := by rw [cell_of_row _ _ _ _ _ _ (bblkG HBq.out HFR.out)]; rfl
      go_wp2_with fail
      refine (HOW.out _ (HFS.out.below HBq.out) (HFI.out.below HBq.out)).mono ?_
      rintro e wO ⟨y1, z1, y2, z2, rfl, s1, s2, hbA⟩
      have HBA := Lib.hid (bstep HBq.out hbA)
      have HY1 := Lib.hid s1; have HY2 := Lib.hid s2
      clear f0 f1 f2 f3 s1 s2 hbA
      go_wp2_with fail
      refine (HWO.out _ (HSE.out.below HBA.out)).mono ?_
      rintro e wS ⟨vw, rfl, hoB, hbB⟩
      obtain ⟨ug, uc, rfl⟩ := owns_addrG hoB (by have := HSL.out; omega)
      have HY3 := Lib.hid (Owns.slice hoB encS_len (by have := HSL.out; omega))
      have HY1 := Lib.hid (HY1.out.below hbB); have HY2 := Lib.hid (HY2.out.below hbB)
      have HBB := Lib.hid (bstep HBA.out hbB)
      clear hoB hbB HBA
      go_wp2_with fail
      refine (HLA.out _ _ _ _ _ _ _ HY1.out HY2.out HY3.out).mono ?_
      rintro e wL ⟨rfl, hbL⟩
      have HBL := Lib.hid (bstep HBB.out hbL)
      have k2 : wL.cell? ⟨w5.heap.size, 1, none⟩ = some (iv E2) := by rw [cell_of_row _ _ _ _ _ _ (bblkG HBL.out HEN.out)]; rfl
      clear hbL HY1 HY2 HY3 HLA HBB
      go_upto_region 20 with (fail)
      go_cut [195] (fun b wx => b = .bool false ∧ wx = wL)
      case first =>
        have b1 : ¬ ((dn : Int) < 1) := by omega
        have b1' : ¬ dn < 1 := by omega
        have b1'' : ¬ dn = 0 := by omega
        have b2 : ¬ (E2 < (dn : Int)) := by omega
        rcases HEL.out with ⟨rfl, -⟩ | ⟨rfl, rfl, -⟩
        · go_wp2_with fail
          go_meet
          exact ⟨rfl, rfl⟩
        · go_wp2_with fail
          go_meet
          exact ⟨rfl, rfl⟩
      case rest =>
        obtain ⟨rfl, hcut⟩ := hcut
        subst hcut
        rename World => wL
        clear k2
        by_cases hds : dn ≤ S.length
        · have x1 : ¬ ((S.length : Int) < (dn : Int)) := by omega
          have x1' : ¬ (S.length < dn) := by omega
          have f0 : wL.cell? ⟨gf, 0, none⟩ = some (.slice (some ⟨g1, 0, none⟩) T.length c1) := by rw [cell_of_row _ _ _ _ _ _ (bblkG HBL.out HFR.out)]; rfl
          have f1 : wL.cell? ⟨gf, 1, none⟩ = some (.slice (some ⟨g2, 0, none⟩) (n + 1) c2) := by rw [cell_of_row _ _ _ _ _ _ (bblkG HBL.out HFR.out)]; rfl
          have f2 : wL.cell? ⟨gf, 2, none⟩ = some (iv (v0 % 20)) := by rw [cell_of_row _ _ _ _ _ _ (bblkG HBL.out HFR.out)]; rfl
          have f3 : wL.cell? ⟨gf, 3, none⟩ = some (iv (v1 % 120)) := by rw [cell_of_row _ _ _ _ _ _ (bblkG HBL.out HFR.out)]; rfl
          go_wp2_with fail
          refine (HOW.out _ (HFS.out.below HBL.out) (HFI.out.below HBL.out)).mono ?_
          rintro e wO ⟨y1, z1, y2, z2, rfl, s1, s2, hbA⟩
          have HBA := Lib.hid (bstep HBL.out hbA)
          have HY1 := Lib.hid s1; have HY2 := Lib.hid s2
          clear f0 f1 f2 f3 s1 s2 hbA
          go_wp2_with fail
          refine (HWO.out _ (HSE.out.below HBA.out)).mono ?_
          rintro e wS ⟨vw, rfl, hoB, hbB⟩
          obtain ⟨ug, uc, rfl⟩ := owns_addrG hoB (by have := HSL.out; omega)
          have HY3 := Lib.hid (Owns.slice hoB encS_len (by have := HSL.out; omega))
          have HY1 := Lib.hid (HY1.out.below hbB); have HY2 := Lib.hid (HY2.out.below hbB)
          have HBB := Lib.hid (bstep HBA.out hbB)
          clear hoB hbB HBA
          go_wp2_with fail
          refine (td_dry HFD.out HRLn.out hds _ _ _ _ _ _ _ HY1.out HY2.out HY3.out).mono ?_
          rintro e wD ⟨dg, rfl, hsd, hbD⟩
          have HBZ := Lib.hid (bstep HBB.out hbD)
          obtain ⟨dg', do', hde, hdj⟩ := sl_rowG hsd (show (T.map (dryS S dn))[h]? = some (dryS S dn t) by rw [List.getElem?_map, HTT.out]; rfl)
          simp only [Option.some.injEq, Addr.mk.injEq, and_true] at hde
          obtain ⟨rfl, rfl⟩ := hde
          obtain ⟨lt, hlt2⟩ : ∃ n : Nat, latL t S dn = n := ⟨_, rfl⟩
          have x2 : wD.cell? ⟨dg, h * 2 + 1, none⟩ = some (iv (lt : Int)) := by have := hdj 1 _ rfl; rw [← hlt2]; simp only [Nat.zero_add] at this; exact this
          have hli := fun h => late_iff (c := t) (S := S) (rain := rn) (fr := dn) HSV.out hrl h
          rw [hlt2] at hli
          have HLI2 := Lib.hid hli
          have hhT : (h : Int) < (T.length : Int) := by have := HCT.out; omega
          clear hlt2 hli hsd hbD hdj HY1 HY2 HY3 HBB x1 x1'
          by_cases hA : dn ≤ rn
          · by_cases hB' : lt ≤ rn
            · obtain ⟨q, hq, hqf⟩ := (HLI2.out hA).1 hB'
              have hel : el = 0 ∧ dn ≤ l := by
                rcases HEL.out with ⟨h1, h2⟩ | ⟨h1, -, h2⟩
                · rw [h2] at hq; obtain rfl := Option.some.inj hq; exact ⟨h1, hqf⟩
                · rw [h2] at hq; cases hq
              obtain ⟨rfl, hfl2⟩ := hel
              have a1 : (dn : Int) ≤ (rn : Int) := by omega
              have a2 : (lt : Int) ≤ (rn : Int) := by omega
              have a3 : (dn : Int) ≤ (l : Int) := by omega
              clear hq
              go_wp2_with fail
              go_roundw
              case rel => exact ⟨h + 1, by omega, by go_num, by rw [HLT.out], HBZ.out⟩
              case measure => simp [intOf]; omega
            · rcases HEL.out with ⟨rfl, h2⟩ | ⟨rfl, -, h2⟩
              · have hfl2 : ¬ dn ≤ l := fun h => hB' ((HLI2.out hA).2 ⟨l, h2, h⟩)
                have a1 : (dn : Int) ≤ (rn : Int) := by omega
                have a2 : ¬ (lt : Int) ≤ (rn : Int) := by omega
                have a3 : ¬ (dn : Int) ≤ (l : Int) := by omega
                clear h2
                go_wp2_with fail
                go_roundw
                case rel => exact ⟨h + 1, by omega, by go_num, by rw [HLT.out], HBZ.out⟩
                case measure => simp [intOf]; omega
              · have a1 : (dn : Int) ≤ (rn : Int) := by omega
                have a2 : ¬ (lt : Int) ≤ (rn : Int) := by omega
                clear h2
                go_wp2_with fail
                go_roundw
                case rel => exact ⟨h + 1, by omega, by go_num, by rw [HLT.out], HBZ.out⟩
                case measure => simp [intOf]; omega
          · have a1 : ¬ (dn : Int) ≤ (rn : Int) := by omega
            go_wp2_with fail
            go_roundw
            case rel => exact ⟨h + 1, by omega, by go_num, by rw [HLT.out], HBZ.out⟩
            case measure => simp [intOf]; omega
        · have x1 : (S.length : Int) < (dn : Int) := by omega
          have x1' : S.length < dn := by omega
          have HBZ := HBL
          go_wp2_with fail
          go_roundw
          case rel => exact ⟨h + 1, by omega, by go_num, by rw [HLT.out], HBZ.out⟩
          case measure => simp [intOf]; omega
    · obtain rfl : h = C.length := by omega
      have k2 : wr.cell? ⟨w5.heap.size, 1, none⟩ = some (iv E2) := by rw [cell_of_row _ _ _ _ _ _ (bblkG HB.out HEN.out)]; rfl
      have hEE : (E2 == E2) = true := by simp
      rw [HF2.out]
      go_wp2_with fail
      refine (elmTurns_any _).mono ?_
      rintro e wX ⟨rfl, hbX⟩
      go_wp2_with fail
      refine (elmField_any _).mono ?_
      rintro e wY ⟨rfl, hbY⟩
      have HBZ := Lib.hid (bstep HBE.out (bstep HB.out (bstep hbX hbY)))
      go_wp2_with fail
      go_ret
      exact ⟨rfl, HBZ.out⟩
end Go.Proofs.Ytkialkfplhhenaa
