/- TopLighterGrease's walk. -/
import Derived.Test.YtfdahmdehmhllaaJo
import Derived.Deep.DeepCutAuto
namespace Go.Proofs.Ytfdahmdehmhllaa
open Go Go.RowKit Go.Shelf
attribute [local go_sem ↓] Go.wp_at_zero Go.wp_at_succ

set_option maxRecDepth 20000 in
set_option maxHeartbeats 12800000 in
theorem lighter_any (b : Nat → Int) (X : List Q4) (fv : Value) (v0 v1 v2 : Int) (w : World) (hb : ∀ i, 0 ≤ b i ∧ b i ≤ 255) (hX : ∀ q ∈ X, q4B q) (hf : SliceU enc4 4 w fv X) (hv0 : 0 ≤ v0 ∧ v0 ≤ 255) (hv1 : 0 ≤ v1 ∧ v1 ≤ 255) (hv2 : 0 ≤ v2 ∧ v2 ≤ 255) :
    Calls Try.prog 3 #[.agg (fyCells b), .agg #[fv], .agg #[u8 v0, u8 v1, u8 v2]] w fun e w' => e = .returned (.bool true) ∧ Below w.heap.size w w' := by
  have HBB := Lib.hid hb
  have HXX := Lib.hid hX
  have hVT : [fyT b 0, fyT b 1, fyT b 2].all vTrack = true := by simp [fyT_valid hb]
  have hfh : (fyT b 2).fh ≤ 393 := by
    have x8 := hb 8; have x9 := hb 9
    show 100 + b 8 + 2 * (b 9 % 20) ≤ 393
    omega
  obtain ⟨hr, hhr⟩ : ∃ hr : Nat, (hr : Int) = v0 % 49 := ⟨(v0 % 49).toNat, by omega⟩
  obtain ⟨gr, hgr⟩ : ∃ gr : Int, gr = v1 % 200 := ⟨_, rfl⟩
  have et0 : v0.tmod 49 = (hr : Int) := by rw [Int.tmod_eq_emod_of_nonneg hv0.1, hhr]
  have et1 : v1.tmod 200 = gr := by rw [Int.tmod_eq_emod_of_nonneg hv1.1, hgr]
  have hr48 : hr ≤ 48 := by omega
  have hg199 : 0 ≤ gr ∧ gr ≤ 199 := by omega
  have hvt2 := List.all_eq_true.1 hVT (fyT b 2) (by simp)
  obtain ⟨m1, m2⟩ := qAt_mono hvt2 (Nat.zero_le hr)
  obtain ⟨q1, q2, q3⟩ := qAt_in hvt2 hr
  obtain ⟨q4, q5, q6⟩ := qAt_in hvt2 0
  have HAT : Hid (∀ (n : Nat) (W : World) (tv mv : Value), n ≤ 48 → SliceOf encT 4 W tv [fyT b 0, fyT b 1, fyT b 2] → SliceOf encM 4 W mv [] → Calls Try.prog 6 #[.agg #[tv, mv], iv n] W fun e w' => ∃ rg rc, e = .returned (.tuple #[.slice (some ⟨rg, 0, none⟩) 3 rc, iv 0]) ∧ (w'.cell? ⟨rg, 4, none⟩ = some (iv (qAt (fyT b 2) n).1) ∧ w'.cell? ⟨rg, 5, none⟩ = some (iv (qAt (fyT b 2) n).2)) ∧ Below W.heap.size W w') := fun n W tv mv hn h1 h2 => by
    refine (at3_any _ _ _ n hVT hn _ _ _ h1 h2).mono ?_
    rintro e w' ⟨rv, rfl, ho, hb⟩
    obtain ⟨rg, rc, rfl⟩ := owns_addr ho (by simp)
    have hs := Owns.slice ho encS_len (by simp)
    exact ⟨rg, rc, rfl, sl_cellsS (k := 2) hs rfl, hb⟩
  have HFM : Hid (∀ W : World, Calls Try.prog 4 #[.agg #[u8 (b 0), u8 (b 1), u8 (b 2), u8 (b 3), u8 (b 4), u8 (b 5), u8 (b 6), u8 (b 7), u8 (b 8), u8 (b 9), u8 (b 10), u8 (b 11)]] W fun e w' => ∃ tg tc, e = .returned (.agg #[.slice (some ⟨tg, 0, none⟩) 3 tc, .slice none 0 0]) ∧ Hid (SliceOf encT 4 w' (.slice (some ⟨tg, 0, none⟩) 3 tc) [fyT b 0, fyT b 1, fyT b 2]) ∧ W.heap.size ≤ tg ∧ Below W.heap.size W w') := fun W => by
    refine (fyMade_any b W HBB.out).mono ?_
    rintro e w1 ⟨tv, rfl, ho1, hb1⟩
    obtain ⟨tg, tc, rfl⟩ := owns_addr ho1 (by simp)
    exact ⟨tg, tc, rfl, Owns.slice ho1 encT_len (by simp), (World.ownsRow.lt ho1 tg rfl).1, hb1⟩
  have HFC : Hid (∀ (W : World) (tg tc : Nat), SliceOf encT 4 W (.slice (some ⟨tg, 0, none⟩) 3 tc) [fyT b 0, fyT b 1, fyT b 2] → Calls Try.prog 7 #[.agg #[.slice (some ⟨tg, 0, none⟩) 3 tc, .slice none 0 0]] W fun e w' => ∃ tv mv, e = .returned (.agg #[tv, mv]) ∧ SliceOf encT 4 w' tv [fyT b 0, fyT b 1, fyT b 2] ∧ SliceOf encM 4 w' mv [] ∧ Below W.heap.size W w') := fun W tg tc h =>
    firCloth_any [fyT b 0, fyT b 1, fyT b 2] (by simp) _ _ _ (by simp) h
  have HSM : Hid (∀ (W : World) (fv : Value), SliceU enc4 4 W fv X → Calls Try.prog 5 #[.agg #[fv]] W fun e w' => ∃ g c, e = .returned (.slice (some ⟨g, 0, none⟩) (shL X (shN X)).length c) ∧ W.heap.size ≤ g ∧ Hid (SliceOf encSo 5 w' (.slice (some ⟨g, 0, none⟩) (shL X (shN X)).length c) (shL X (shN X))) ∧ Below W.heap.size W w') := fun W fv h => by
    have := shMade_any X fv W hX h
    rw [shL_len]
    exact this
  have hchk := shL_chk hX
  have hL3 : (shL X (shN X)).length ≤ 3 := by rw [shL_len]; exact (shN_bd X).2
  generalize shL X (shN X) = L at *
  generalize hlo1 : (qAt (fyT b 2) hr).1 = lo1 at *
  generalize hhi1 : (qAt (fyT b 2) hr).2 = hi1 at *
  generalize hlo0 : (qAt (fyT b 2) 0).1 = lo0 at *
  generalize hhi0 : (qAt (fyT b 2) 0).2 = hi0 at *
  obtain ⟨was, hwas⟩ : ∃ c : Gc, c = ⟨lo0, hi0, gr, gr + 9, v2⟩ := ⟨_, rfl⟩
  obtain ⟨is, his⟩ : ∃ c : Gc, c = ⟨lo1, hi1, gr, gr + 9, v2⟩ := ⟨_, rfl⟩
  have hvw : vGc was = true := by rw [hwas]; exact vGc_iff.2 (by dsimp only; omega)
  have hvi : vGc is = true := by rw [his]; exact vGc_iff.2 (by dsimp only; omega)
  have n1 : ¬ (grsI lo0 gr < grsI lo1 gr) := by have := grsI_mono m1 hg199.1; omega
  have hgle : grsI hi1 (gr + 9) ≤ grsI hi0 (gr + 9) := grsI_mono m2 (by omega)
  have n2 : ¬ (grsI hi0 (gr + 9) < grsI hi1 (gr + 9)) := by omega
  have HBL : Hid (∀ B, bestM was L (mxs L L.length) = some B → ∃ D, bestM is L (mxs L L.length) = some D ∧ costM L D ≤ costM L B) := fun B h => best_less (by rw [hwas, his]) (by rw [hwas, his]; exact hgle) h
  have HGR0 : Hid (∀ W, Calls Try.prog 9 #[.agg #[iv lo0, iv hi0, iv gr, iv (gr + 9), iv v2]] W fun e w' => e = .returned (.tuple #[.agg #[iv (grsI lo0 gr), iv (grsI hi0 (gr + 9))], iv 0]) ∧ Below W.heap.size W w') := fun W => by
    have := Grease_good was W hvw
    rw [hwas] at this; exact this
  have HGR1 : Hid (∀ W, Calls Try.prog 9 #[.agg #[iv lo1, iv hi1, iv gr, iv (gr + 9), iv v2]] W fun e w' => e = .returned (.tuple #[.agg #[iv (grsI lo1 gr), iv (grsI hi1 (gr + 9))], iv 0]) ∧ Below W.heap.size W w') := fun W => by
    have := Grease_good is W hvi
    rw [his] at this; exact this
  have HFS : Hid (∀ (W : World) (g c : Nat), SliceOf encSo 5 W (.slice (some ⟨g, 0, none⟩) L.length c) L → Calls Try.prog 11 #[.slice (some ⟨g, 0, none⟩) L.length c] W fun e w' => ∃ va vc, e = .returned (.slice va L.length vc) ∧ L.length ≤ vc ∧ SliceOf encSo 5 w' (.slice va L.length vc) L ∧ Below W.heap.size W w') := fun W g c h => firStore_any L ⟨g, 0, none⟩ c W (by omega) h
  have HCW : Hid (∀ (W : World) (va : Option Addr) (vc : Nat), L.length ≤ vc → SliceOf encSo 5 W (.slice va L.length vc) L → Calls Try.prog 10 #[.slice va L.length vc, .agg #[iv lo0, iv hi0, iv gr, iv (gr + 9), iv v2]] W fun e w' => ∃ v, e = .returned (.tuple #[v, iv (pB L (bestM was L (mxs L L.length))), iv (if (bestM was L (mxs L L.length)).isSome then 0 else 9)]) ∧ Below W.heap.size W w') := fun W va vc h1 h2 => by
    have := Cheapest_good was L va vc W hvw hchk h1 h2
    rw [show (encGc was).toArray = #[iv lo0, iv hi0, iv gr, iv (gr + 9), iv v2] by rw [hwas]; rfl] at this
    exact this.mono (fun e w' ⟨va, vc, he, _, hb⟩ => ⟨_, he, hb⟩)
  have HCI : Hid (∀ (W : World) (va : Option Addr) (vc : Nat), L.length ≤ vc → SliceOf encSo 5 W (.slice va L.length vc) L → Calls Try.prog 10 #[.slice va L.length vc, .agg #[iv lo1, iv hi1, iv gr, iv (gr + 9), iv v2]] W fun e w' => ∃ v, e = .returned (.tuple #[v, iv (pB L (bestM is L (mxs L L.length))), iv (if (bestM is L (mxs L L.length)).isSome then 0 else 9)]) ∧ Below W.heap.size W w') := fun W va vc h1 h2 => by
    have := Cheapest_good is L va vc W hvi hchk h1 h2
    rw [show (encGc is).toArray = #[iv lo1, iv hi1, iv gr, iv (gr + 9), iv v2] by rw [his]; rfl] at this
    exact this.mono (fun e w' ⟨va, vc, he, _, hb⟩ => ⟨_, he, hb⟩)
  generalize bestM was L (mxs L L.length) = ba at *
  generalize bestM is L (mxs L L.length) = bi at *
  obtain ⟨ea, hea⟩ : ∃ x : Int, (if ba.isSome = true then (0 : Int) else 9) = x := ⟨_, rfl⟩
  obtain ⟨pa, hpa⟩ : ∃ x : Int, pB L ba = x := ⟨_, rfl⟩
  obtain ⟨ei, hei⟩ : ∃ x : Int, (if bi.isSome = true then (0 : Int) else 9) = x := ⟨_, rfl⟩
  obtain ⟨pi, hpi⟩ : ∃ x : Int, pB L bi = x := ⟨_, rfl⟩
  simp only [hea, hpa] at HCW
  simp only [hei, hpi] at HCI
  have HEA := Lib.hid hea; have HPA := Lib.hid hpa; have HEI := Lib.hid hei; have HPI := Lib.hid hpi
  clear hwas his hvw hvi hchk hea hpa hei hpi
  obtain ⟨fa, fc, rfl, hfl, -⟩ := id hf
  have HF := Lib.hid hf
  clear hb hX hVT hfh hhr hgr hvt2 m1 m2 q1 q2 q3 q4 q5 q6 hgle hf
  obtain ⟨Wn, hWn⟩ : ∃ W : World, (((w.alloc (.cells (fyCells b) 25)).alloc (.cells #[.slice fa X.length fc] 28)).alloc (.cells #[u8 v0, u8 v1, u8 v2] 29)) = W := ⟨_, rfl⟩
  have hBw : Below w.heap.size w Wn := by rw [← hWn]; exact (by repeat (first | exact Below.refl _ _ | refine Below.drew ?_ | refine bpush ?_ _ | refine bput ?_ (by simp) _ | (refine bstep ?_ (by assumption))))
  have hzn : Wn.heap.size = w.heap.size + 3 := by rw [← hWn]; simp
  have hrx : Wn.heap[w.heap.size]? = some (.cells (fyCells b) 25 (0, 0)) := by rw [← hWn, Below.heap_alloc _ _ _ (by simp <;> omega)]; exact heapC rfl
  have hry : Wn.heap[w.heap.size + 1]? = some (.cells #[.slice fa X.length fc] 28 (0, 0)) := by rw [← hWn, Below.heap_alloc _ _ _ (by simp <;> omega)]; exact heapA (by simp)
  have hrv : Wn.heap[w.heap.size + 1 + 1]? = some (.cells #[u8 v0, u8 v1, u8 v2] 29 (0, 0)) := by rw [← hWn]; exact heapA (by simp)
  have HRV := Lib.hid hrv; have HZN := Lib.hid hzn; have HBW := Lib.hid hBw
  have x0 : Wn.cell? ⟨w.heap.size, 0, none⟩ = some (u8 (b 0)) := by rw [cell_of_row _ _ _ _ _ _ hrx]; rfl
  have x1 : Wn.cell? ⟨w.heap.size, 1, none⟩ = some (u8 (b 1)) := by rw [cell_of_row _ _ _ _ _ _ hrx]; rfl
  have x2 : Wn.cell? ⟨w.heap.size, 2, none⟩ = some (u8 (b 2)) := by rw [cell_of_row _ _ _ _ _ _ hrx]; rfl
  have x3 : Wn.cell? ⟨w.heap.size, 3, none⟩ = some (u8 (b 3)) := by rw [cell_of_row _ _ _ _ _ _ hrx]; rfl
  have x4 : Wn.cell? ⟨w.heap.size, 4, none⟩ = some (u8 (b 4)) := by rw [cell_of_row _ _ _ _ _ _ hrx]; rfl
  have x5 : Wn.cell? ⟨w.heap.size, 5, none⟩ = some (u8 (b 5)) := by rw [cell_of_row _ _ _ _ _ _ hrx]; rfl
  have x6 : Wn.cell? ⟨w.heap.size, 6, none⟩ = some (u8 (b 6)) := by rw [cell_of_row _ _ _ _ _ _ hrx]; rfl
  have x7 : Wn.cell? ⟨w.heap.size, 7, none⟩ = some (u8 (b 7)) := by rw [cell_of_row _ _ _ _ _ _ hrx]; rfl
  have x8 : Wn.cell? ⟨w.heap.size, 8, none⟩ = some (u8 (b 8)) := by rw [cell_of_row _ _ _ _ _ _ hrx]; rfl
  have x9 : Wn.cell? ⟨w.heap.size, 9, none⟩ = some (u8 (b 9)) := by rw [cell_of_row _ _ _ _ _ _ hrx]; rfl
  have x10 : Wn.cell? ⟨w.heap.size, 10, none⟩ = some (u8 (b 10)) := by rw [cell_of_row _ _ _ _ _ _ hrx]; rfl
  have x11 : Wn.cell? ⟨w.heap.size, 11, none⟩ = some (u8 (b 11)) := by rw [cell_of_row _ _ _ _ _ _ hrx]; rfl
  have xs : Wn.cell? ⟨w.heap.size + 1, 0, none⟩ = some (.slice fa X.length fc) := by rw [cell_of_row _ _ _ _ _ _ hry]; rfl
  have hfn : Hid (SliceU enc4 4 Wn (.slice fa X.length fc) X) := HF.out.below hBw
  have hbn : Below Wn.heap.size Wn Wn := Below.refl _ _
  have g0 : IntKind.i64.wrap v0 = v0 := IntWalk.i64_in _ ⟨by omega, by omega⟩
  have g1 : IntKind.i64.wrap v1 = v1 := IntWalk.i64_in _ ⟨by omega, by omega⟩
  have g2 : IntKind.i64.wrap v2 = v2 := IntWalk.i64_in _ ⟨by omega, by omega⟩
  have g3 : IntKind.i64.wrap (gr + 9) = gr + 9 := IntWalk.i64_in _ ⟨by omega, by omega⟩
  have hlw : w.heap.size + 1 + 1 < Wn.heap.size := by omega
  simp only [fyCells] at hWn ⊢
  have HWn := Lib.hid hWn
  clear hWn hrx hry hrv hzn hBw
  go_enter Try.func3, Try.ntmps3
  go_upto_region 1 with (fail)
  rw [HWn.out]
  have HLG : Hid (∀ X' : World, Below Wn.heap.size Wn X' → X'.cell? ⟨w.heap.size, 0, none⟩ = some (u8 (b 0)) ∧ X'.cell? ⟨w.heap.size, 1, none⟩ = some (u8 (b 1)) ∧ X'.cell? ⟨w.heap.size, 2, none⟩ = some (u8 (b 2)) ∧ X'.cell? ⟨w.heap.size, 3, none⟩ = some (u8 (b 3)) ∧ X'.cell? ⟨w.heap.size, 4, none⟩ = some (u8 (b 4)) ∧ X'.cell? ⟨w.heap.size, 5, none⟩ = some (u8 (b 5)) ∧ X'.cell? ⟨w.heap.size, 6, none⟩ = some (u8 (b 6)) ∧ X'.cell? ⟨w.heap.size, 7, none⟩ = some (u8 (b 7)) ∧ X'.cell? ⟨w.heap.size, 8, none⟩ = some (u8 (b 8)) ∧ X'.cell? ⟨w.heap.size, 9, none⟩ = some (u8 (b 9)) ∧ X'.cell? ⟨w.heap.size, 10, none⟩ = some (u8 (b 10)) ∧ X'.cell? ⟨w.heap.size, 11, none⟩ = some (u8 (b 11)) ∧ X'.cell? ⟨w.heap.size + 1, 0, none⟩ = some (.slice fa X.length fc) ∧ Hid (SliceU enc4 4 X' (.slice fa X.length fc) X) ∧ Below Wn.heap.size Wn X') := fun X' h => ⟨kcell h x0, kcell h x1, kcell h x2, kcell h x3, kcell h x4, kcell h x5, kcell h x6, kcell h x7, kcell h x8, kcell h x9, kcell h x10, kcell h x11, kcell h xs, SliceU.below hfn.out h, h⟩
  go_cut [7, 8] (fun s7 s8 wx => ∃ g tg tc sg sc, s7 = .pointer (some ⟨g, 0, none⟩) ∧ s8 = .slice (some ⟨sg, 0, none⟩) L.length sc ∧ Hid (wx.cell? ⟨g, 0, none⟩ = some (.slice (some ⟨tg, 0, none⟩) 3 tc) ∧ wx.cell? ⟨g, 1, none⟩ = some (.slice none 0 0)) ∧ Hid (SliceOf encT 4 wx (.slice (some ⟨tg, 0, none⟩) 3 tc) [fyT b 0, fyT b 1, fyT b 2]) ∧ Hid (SliceOf encSo 5 wx (.slice (some ⟨sg, 0, none⟩) L.length sc) L) ∧ Hid (Below Wn.heap.size Wn wx))
  case first =>
    go_region_held3 (fun w' => w'.cell? ⟨w.heap.size, 0, none⟩ = some (u8 (b 0)) ∧ w'.cell? ⟨w.heap.size, 1, none⟩ = some (u8 (b 1)) ∧ w'.cell? ⟨w.heap.size, 2, none⟩ = some (u8 (b 2)) ∧ w'.cell? ⟨w.heap.size, 3, none⟩ = some (u8 (b 3)) ∧ w'.cell? ⟨w.heap.size, 4, none⟩ = some (u8 (b 4)) ∧ w'.cell? ⟨w.heap.size, 5, none⟩ = some (u8 (b 5)) ∧ w'.cell? ⟨w.heap.size, 6, none⟩ = some (u8 (b 6)) ∧ w'.cell? ⟨w.heap.size, 7, none⟩ = some (u8 (b 7)) ∧ w'.cell? ⟨w.heap.size, 8, none⟩ = some (u8 (b 8)) ∧ w'.cell? ⟨w.heap.size, 9, none⟩ = some (u8 (b 9)) ∧ w'.cell? ⟨w.heap.size, 10, none⟩ = some (u8 (b 10)) ∧ w'.cell? ⟨w.heap.size, 11, none⟩ = some (u8 (b 11)) ∧ w'.cell? ⟨w.heap.size + 1, 0, none⟩ = some (.slice fa X.length fc) ∧ Hid (SliceU enc4 4 w' (.slice fa X.length fc) X) ∧ Below Wn.heap.size Wn w')
      (first | exact HLG.out _ (bput2 hSt (by omega)) | exact HLG.out _ (bpush hSt _) | (go_split_ands; exact HLG.out _ (bstep (by assumption) hbK)) | (go_split_ands; exact HLG.out _ (bpush (by assumption) _)) | exact HLG.out _ (Below.drew (by assumption)))
      (first | (go_split_ands; (with_reducible refine (HFM.out _).mono ?_); rintro e w1 ⟨tg, tc, rfl, HTS, htg, hbK⟩; have hS1 : Below Wn.heap.size Wn w1 := bstep (by assumption) hbK; have hq1 := hS1.size; have hz1 := hbK.size; (try simp at hz1); (try have ta : w1.heap[Wn.heap.size]? = some (.cells #[.slice none 0 0, .slice none 0 0] 33 (0, 0)) := bblkK hbK (heap_new Wn.drew _ _))) | (go_split_ands; (with_reducible refine (HSM.out _ _ (Hid.out (by assumption))).mono ?_); rintro e w2 ⟨sg, sc, rfl, hsg, HSS, hbK⟩; have hSt : Below Wn.heap.size Wn w2 := bstep (by assumption) hbK; have hq2 := hSt.size; (try have tb : w2.heap[w1.heap.size]? = some (.cells #[.slice none 0 0, .slice none 0 0] 33 (0, 0)) := bblkK hbK (heap_new w1 _ _)); (try have td : w2.heap[Wn.heap.size]? = some (.cells #[.slice none 0 0, .slice none 0 0] 33 (0, 0)) := bblkK hbK ta); (try have tb0 : w2.cell? ⟨w1.heap.size, 0, none⟩ = some (.slice none 0 0) := (by rw [cell_of_row _ _ _ _ _ _ tb]; rfl)); (try have tb1 : w2.cell? ⟨w1.heap.size, 1, none⟩ = some (.slice none 0 0) := (by rw [cell_of_row _ _ _ _ _ _ tb]; rfl)); (try have tb2 : w2.frozen? ⟨w1.heap.size, 0, none⟩ = false := frozen_of_row _ _ _ _ _ tb); (try have tb3 : w2.frozen? ⟨w1.heap.size, 1, none⟩ = false := frozen_of_row _ _ _ _ _ tb); (try have td0 : w2.cell? ⟨Wn.heap.size, 0, none⟩ = some (.slice none 0 0) := (by rw [cell_of_row _ _ _ _ _ _ td]; rfl)); (try have td1 : w2.cell? ⟨Wn.heap.size, 1, none⟩ = some (.slice none 0 0) := (by rw [cell_of_row _ _ _ _ _ _ td]; rfl)); (try have td2 : w2.frozen? ⟨Wn.heap.size, 0, none⟩ = false := frozen_of_row _ _ _ _ _ td); (try have td3 : w2.frozen? ⟨Wn.heap.size, 1, none⟩ = false := frozen_of_row _ _ _ _ _ td)))
    all_goals
      rename_i hHeld
      have hb12 : Below w1.heap.size w1 w2 := by first | exact hbK | exact bstep (bpush (Below.refl _ _) _) hbK
      have hBf := hHeld.2.2.2.2.2.2.2.2.2.2.2.2.2.2
      go_wp2_with fail
      go_meet
      refine ⟨_, tg, tc, sg, sc, rfl, rfl, ⟨?_, ?_⟩, ?_, ?_, hBf⟩
      · first | exact ncell0H _ _ _ _ | go_simp
      · first | exact ncell1H _ _ _ _ | go_simp
      · first
          | exact HTS.out.below (bpush hb12 _)
          | exact HTS.out.below (bput2 hb12 (Nat.le_refl _))
          | exact SliceOf.at_block (HTS.out.below hb12) (fun o u hu => ((cset_far (by first | omega | (simp at htg; omega))).trans (cset_far (by first | omega | (simp at htg; omega)))).trans hu)
      · first
          | exact HSS.out.below (bpush (Below.refl _ _) _)
          | exact SliceOf.at_block HSS.out (fun o u hu => ((cset_far (by first | omega | (simp at hsg; omega))).trans (cset_far (by first | omega | (simp at hsg; omega)))).trans hu)
  case rest =>
    obtain ⟨g, tg, tc, sg, sc, rfl, rfl, HG, HTS, HSS, HB⟩ := hcut
    obtain ⟨wd, hwd⟩ : ∃ W : World, W = wc := ⟨_, rfl⟩
    subst hwd
    obtain ⟨p0, p1⟩ := HG.out
    have hrv := (HB.out.block (w.heap.size + 1 + 1) (by omega)).trans HRV.out
    have y0 : wd.cell? ⟨w.heap.size + 1 + 1, 0, none⟩ = some (u8 v0) := by rw [cell_of_row _ _ _ _ _ _ hrv]; rfl
    have y1 : wd.cell? ⟨w.heap.size + 1 + 1, 1, none⟩ = some (u8 v1) := by rw [cell_of_row _ _ _ _ _ _ hrv]; rfl
    have y2 : wd.cell? ⟨w.heap.size + 1 + 1, 2, none⟩ = some (u8 v2) := by rw [cell_of_row _ _ _ _ _ _ hrv]; rfl
    have HY := Lib.hid (And.intro y0 (And.intro y1 y2))
    clear x0 x1 x2 x3 x4 x5 x6 x7 x8 x9 x10 x11 xs y0 y1 y2 hrv hbn hfn HLG HFM HSM
    go_wp2_with fail
    refine (HFC.out _ _ _ HTS.out).mono ?_
    rintro e wA ⟨tv, mv, rfl, hst, hsm, hbA⟩
    have hst := Lib.hid hst; have hsm := Lib.hid hsm; have HA := Lib.hid hbA; clear hbA
    go_wp2_with fail
    refine (HAT.out 0 _ _ _ (by omega) hst.out hsm.out).mono ?_
    rintro e wB ⟨rg, rc, rfl, ⟨r4, r5⟩, hbB⟩
    have HB1 := Lib.hid (bstep HA.out hbB)
    have p0' := kcell HB1.out p0; have p1' := kcell HB1.out p1
    have y0 := kcell HB1.out HY.out.1
    have HTS2 := Lib.hid (HTS.out.below HB1.out)
    have HR0 := Lib.hid (And.intro r4 r5)
    clear hst hsm hbB r4 r5 p0 p1 HA
    go_wp2_with fail
    have hbW : Below wB.heap.size wB wB := Below.refl _ _
    go_region_held3 (fun w' => w'.cell? ⟨g, 0, none⟩ = some (.slice (some ⟨tg, 0, none⟩) 3 tc) ∧ w'.cell? ⟨g, 1, none⟩ = some (.slice none 0 0) ∧ w'.cell? ⟨w.heap.size + 1 + 1, 0, none⟩ = some (u8 v0) ∧ Below wB.heap.size wB w')
      (first | (go_split_ands; refine ⟨?_, ?_, ?_, ?_⟩ <;> first | exact kcell hbK (by assumption) | exact bstep (by assumption) hbK) | (refine ⟨?_, ?_, ?_, ?_⟩ <;> first | exact Below.drew (by assumption) | assumption))
      (first | (go_split_ands; (with_reducible refine (HFC.out _ _ _ (HTS2.out.below (by assumption))).mono ?_); rintro e wC ⟨tv2, mv2, rfl, hst2, hsm2, hbK⟩; have hst2 := Lib.hid hst2; have hsm2 := Lib.hid hsm2) | (go_split_ands; (with_reducible refine (HAT.out hr _ _ _ hr48 hst2.out hsm2.out).mono ?_); rintro e wD ⟨rg2, rc2, rfl, ⟨r4, r5⟩, hbK⟩))
    rename_i hHeld
    have HB2 := Lib.hid (bstep HB1.out hHeld.2.2.2)
    rw [hlo1] at r4
    rw [hhi1] at r5
    have r0 := kcell hHeld.2.2.2 HR0.out.1
    have r1 := kcell hHeld.2.2.2 HR0.out.2
    rw [hlo0] at r0
    rw [hhi0] at r1
    have y1 : ∀ q, (wD.drewN q).cell? ⟨w.heap.size + 1 + 1, 1, none⟩ = some (u8 v1) := fun q => (show wD.cell? ⟨w.heap.size + 1 + 1, 1, none⟩ = some (u8 v1) from kcell HB2.out HY.out.2.1)
    have y2 : ∀ q, (wD.drewN q).cell? ⟨w.heap.size + 1 + 1, 2, none⟩ = some (u8 v2) := fun q => (show wD.cell? ⟨w.heap.size + 1 + 1, 2, none⟩ = some (u8 v2) from kcell HB2.out HY.out.2.2)
    clear hHeld hbK hbW p0' p1' y0
    go_wp2_with fail
    go_quiet (fail)
    go_wp2_with fail
    have k0 : (wD.drewN nq).cell? ⟨rg, 4, none⟩ = some (iv lo0) := r0
    have k1 : (wD.drewN nq).cell? ⟨rg, 5, none⟩ = some (iv hi0) := r1
    have k2 : (wD.drewN nq).cell? ⟨rg2, 4, none⟩ = some (iv lo1) := r4
    have k3 : (wD.drewN nq).cell? ⟨rg2, 5, none⟩ = some (iv hi1) := r5
    have HBX0 : Hid (Below wd.heap.size wd (wD.drewN nq)) := bdrewN HB2.out nq
    clear r0 r1 r4 r5 y1 y2
    generalize wD.drewN nq = WX at *
    have HLX : Hid (∀ X' : World, Below WX.heap.size WX X' → X'.cell? ⟨rg, 4, none⟩ = some (iv lo0) ∧ X'.cell? ⟨rg, 5, none⟩ = some (iv hi0) ∧ X'.cell? ⟨rg2, 4, none⟩ = some (iv lo1) ∧ X'.cell? ⟨rg2, 5, none⟩ = some (iv hi1) ∧ Below WX.heap.size WX X') := fun X' h => ⟨kcell h k0, kcell h k1, kcell h k2, kcell h k3, h⟩
    have hbx : Below WX.heap.size WX WX := Below.refl _ _
    have l0 := lt_of_cell k0
    have l2 := lt_of_cell k2
    go_cut [15, 16] (fun s15 s16 wx => ∃ ga gb, s15 = .pointer (some ⟨ga, 0, none⟩) ∧ s16 = .pointer (some ⟨gb, 0, none⟩) ∧ Hid (wx.cell? ⟨ga, 0, none⟩ = some (iv lo0) ∧ wx.cell? ⟨ga, 1, none⟩ = some (iv hi0) ∧ wx.cell? ⟨ga, 2, none⟩ = some (iv gr) ∧ wx.cell? ⟨ga, 3, none⟩ = some (iv (gr + 9)) ∧ wx.cell? ⟨ga, 4, none⟩ = some (iv v2)) ∧ Hid (wx.cell? ⟨gb, 0, none⟩ = some (iv lo1) ∧ wx.cell? ⟨gb, 1, none⟩ = some (iv hi1) ∧ wx.cell? ⟨gb, 2, none⟩ = some (iv gr) ∧ wx.cell? ⟨gb, 3, none⟩ = some (iv (gr + 9)) ∧ wx.cell? ⟨gb, 4, none⟩ = some (iv v2)) ∧ Hid (Below WX.heap.size WX wx))
    case first =>
      go_region_held3 (fun w' => w'.cell? ⟨rg, 4, none⟩ = some (iv lo0) ∧ w'.cell? ⟨rg, 5, none⟩ = some (iv hi0) ∧ w'.cell? ⟨rg2, 4, none⟩ = some (iv lo1) ∧ w'.cell? ⟨rg2, 5, none⟩ = some (iv hi1) ∧ Below WX.heap.size WX w')
        (first | (refine HLX.out _ ?_; repeat' (first | (with_reducible exact hbx) | (with_reducible refine bpush ?_ _) | (with_reducible refine bput ?_ ?_ _) | (with_reducible refine Below.drew ?_) | (simp; done) | (simp; omega))))
        (first | (go_split_ands; (with_reducible refine (firSpan_exact _ _ _).mono ?_); rintro e wS ⟨rfl, rfl⟩))
      all_goals
        rename_i hHeld
        have hBf := hHeld.2.2.2.2
        go_wp2_with fail
        go_meet
        refine ⟨_, _, rfl, rfl, ⟨?_, ?_, ?_, ?_, ?_⟩, ⟨?_, ?_, ?_, ?_, ?_⟩, hBf⟩ <;> (go_simp; done)
    case rest =>
      obtain ⟨ga, gb, rfl, rfl, HCA, HCB, HBX⟩ := hcut
      obtain ⟨wy, hwy⟩ : ∃ W : World, W = wc := ⟨_, rfl⟩
      subst hwy
      have HSY := Lib.hid ((HSS.out.below HBX0.out).below HBX.out)
      have HBY := Lib.hid (bstep HB.out (bstep HBX0.out HBX.out))
      obtain ⟨a0, a1, a2, a3, a4⟩ := HCA.out
      obtain ⟨b0, b1, b2, b3, b4⟩ := HCB.out
      clear k0 k1 k2 k3 hbx l0 l2 HLX
      go_wp2_with fail
      refine (HGR0.out _).mono ?_
      rintro e w5 ⟨rfl, hb5⟩
      have b0 := kcell hb5 b0; have b1 := kcell hb5 b1; have b2 := kcell hb5 b2; have b3 := kcell hb5 b3; have b4 := kcell hb5 b4
      have HB5 := Lib.hid hb5
      clear a0 a1 a2 a3 a4 hb5
      obtain ⟨w6, hw6⟩ : ∃ W : World, w5.alloc (.cells #[iv (grsI lo0 gr), iv (grsI hi0 (gr + 9))] 43) = W := ⟨_, rfl⟩
      have hb6 : Below w5.heap.size w5 w6 := by rw [← hw6]; exact bpush (Below.refl _ _) _
      have c0 : w6.cell? ⟨w5.heap.size, 0, none⟩ = some (iv (grsI lo0 gr)) := by rw [← hw6]; exact ncell0H _ _ _ _
      have c1 : w6.cell? ⟨w5.heap.size, 1, none⟩ = some (iv (grsI hi0 (gr + 9))) := by rw [← hw6]; exact ncell1H _ _ _ _
      have b0 := kcell hb6 b0; have b1 := kcell hb6 b1; have b2 := kcell hb6 b2; have b3 := kcell hb6 b3; have b4 := kcell hb6 b4
      have HB6 := Lib.hid (bstep HB5.out hb6)
      clear hb6
      go_wp2_with fail
      refine (HGR1.out _).mono ?_
      rintro e w7 ⟨rfl, hb7⟩
      have c0 := kcell hb7 c0; have c1 := kcell hb7 c1
      have b0 := kcell hb7 b0; have b1 := kcell hb7 b1; have b2 := kcell hb7 b2; have b3 := kcell hb7 b3; have b4 := kcell hb7 b4
      have HB7 := Lib.hid (bstep HB6.out hb7)
      clear hb7
      have cA : ∀ o, (w7.alloc o).cell? ⟨w5.heap.size, 0, none⟩ = some (iv (grsI lo0 gr)) := fun o => kcell (bpush (Below.refl _ _) o) c0
      have cB : ∀ o, (w7.alloc o).cell? ⟨w5.heap.size, 1, none⟩ = some (iv (grsI hi0 (gr + 9))) := fun o => kcell (bpush (Below.refl _ _) o) c1
      clear c0 c1 hw6
      go_wp2_with fail
      obtain ⟨w8, hw8⟩ : ∃ W : World, w7.alloc (.cells #[iv (grsI lo1 gr), iv (grsI hi1 (gr + 9))] 43) = W := ⟨_, rfl⟩
      rw [hw8]
      have hb8 : Below w7.heap.size w7 w8 := by rw [← hw8]; exact bpush (Below.refl _ _) _
      have HB8 := Lib.hid (bstep HB7.out hb8)
      have HLY : Hid (∀ X' : World, Below wy.heap.size wy X' → (X'.cell? ⟨ga, 0, none⟩ = some (iv lo0) ∧ X'.cell? ⟨ga, 1, none⟩ = some (iv hi0) ∧ X'.cell? ⟨ga, 2, none⟩ = some (iv gr) ∧ X'.cell? ⟨ga, 3, none⟩ = some (iv (gr + 9)) ∧ X'.cell? ⟨ga, 4, none⟩ = some (iv v2) ∧ Below wy.heap.size wy X')) := fun X' h =>
        ⟨kcell h HCA.out.1, kcell h HCA.out.2.1, kcell h HCA.out.2.2.1, kcell h HCA.out.2.2.2.1, kcell h HCA.out.2.2.2.2, h⟩
      have HLZ : Hid (∀ X' : World, Below wy.heap.size wy X' → (X'.cell? ⟨gb, 0, none⟩ = some (iv lo1) ∧ X'.cell? ⟨gb, 1, none⟩ = some (iv hi1) ∧ X'.cell? ⟨gb, 2, none⟩ = some (iv gr) ∧ X'.cell? ⟨gb, 3, none⟩ = some (iv (gr + 9)) ∧ X'.cell? ⟨gb, 4, none⟩ = some (iv v2) ∧ Below wy.heap.size wy X')) := fun X' h =>
        ⟨kcell h HCB.out.1, kcell h HCB.out.2.1, kcell h HCB.out.2.2.1, kcell h HCB.out.2.2.2.1, kcell h HCB.out.2.2.2.2, h⟩
      clear b0 b1 b2 b3 b4 cA cB hw8 hb8
      obtain ⟨s0, s1, s2, s3, s4, s5⟩ := HLY.out w8 HB8.out
      go_region_held3 (fun w' => w'.cell? ⟨ga, 0, none⟩ = some (iv lo0) ∧ w'.cell? ⟨ga, 1, none⟩ = some (iv hi0) ∧ w'.cell? ⟨ga, 2, none⟩ = some (iv gr) ∧ w'.cell? ⟨ga, 3, none⟩ = some (iv (gr + 9)) ∧ w'.cell? ⟨ga, 4, none⟩ = some (iv v2) ∧ Below wy.heap.size wy w')
        (first | (go_split_ands; exact HLY.out _ (bstep (by assumption) hbK)) | exact HLY.out _ (Below.drew (by assumption)))
        (first | (go_split_ands; (with_reducible refine (HFS.out _ _ _ (HSY.out.below (by assumption))).mono ?_); rintro e wE ⟨va, vc, rfl, hcp, hsE, hbK⟩) | (go_split_ands; (with_reducible refine (HCW.out _ _ _ hcp hsE).mono ?_); rintro e wF ⟨vF, rfl, hbK⟩))
      rename_i hHeld
      have HB9 := Lib.hid hHeld.2.2.2.2.2
      clear hHeld hbK s0 s1 s2 s3 s4 s5
      go_wp2_with fail
      obtain ⟨s0, s1, s2, s3, s4, s5⟩ := HLZ.out _ HB9.out
      go_region_held3 (fun w' => w'.cell? ⟨gb, 0, none⟩ = some (iv lo1) ∧ w'.cell? ⟨gb, 1, none⟩ = some (iv hi1) ∧ w'.cell? ⟨gb, 2, none⟩ = some (iv gr) ∧ w'.cell? ⟨gb, 3, none⟩ = some (iv (gr + 9)) ∧ w'.cell? ⟨gb, 4, none⟩ = some (iv v2) ∧ Below wy.heap.size wy w')
        (first | (go_split_ands; exact HLZ.out _ (bstep (by assumption) hbK)) | exact HLZ.out _ (Below.drew (by assumption)))
        (first | (go_split_ands; (with_reducible refine (HFS.out _ _ _ (HSY.out.below (by assumption))).mono ?_); rintro e wG ⟨vb, vd, rfl, hcq, hsG, hbK⟩) | (go_split_ands; (with_reducible refine (HCI.out _ _ _ hcq hsG).mono ?_); rintro e wH ⟨vH, rfl, hbK⟩))
      rename_i hHeld
      have HB10 := Lib.hid (bstep (bstep HBW.out HBY.out) hHeld.2.2.2.2.2)
      clear hHeld hbK s0 s1 s2 s3 s4 s5
      have hea := HEA.out; have hpa := HPA.out; have hei := HEI.out; have hpi := HPI.out
      clear HEA HPA HEI HPI
      cases ba with
      | none =>
        cases bi with
        | none =>
          simp only [Option.isSome_none, pB, Bool.false_eq_true, if_false] at hea hpa hei hpi
          subst hea hpa hei hpi
          go_wp2_with fail
          refine (firKnown06_any _).mono ?_
          rintro e w11 ⟨rfl, hb11⟩
          have HB11 := Lib.hid (bstep HB10.out hb11); clear hb11
          go_wp2_with fail
          go_ret
          exact ⟨rfl, HB11.out⟩
        | some D =>
          simp only [Option.isSome_none, Option.isSome_some, pB, Bool.false_eq_true, if_false, if_true] at hea hpa hei hpi
          subst hea hpa hei
          go_wp2_with fail
          refine (firKnown06_any _).mono ?_
          rintro e w11 ⟨rfl, hb11⟩
          have HB11 := Lib.hid (bstep HB10.out hb11); clear hb11
          go_wp2_with fail
          go_ret
          exact ⟨rfl, HB11.out⟩
      | some A =>
        obtain ⟨D, hD, hle⟩ := HBL.out A rfl
        subst hD
        simp only [Option.isSome_some, pB, if_true] at hea hpa hei hpi
        rw [hpa, hpi] at hle
        subst hea hei
        clear hpa hpi
        go_wp2_with fail
        refine (firKnown06_any _).mono ?_
        rintro e w11 ⟨rfl, hb11⟩
        have HB11 := Lib.hid (bstep HB10.out hb11); clear hb11
        go_wp2_with fail
        go_ret
        exact ⟨rfl, HB11.out⟩
end Go.Proofs.Ytfdahmdehmhllaa
