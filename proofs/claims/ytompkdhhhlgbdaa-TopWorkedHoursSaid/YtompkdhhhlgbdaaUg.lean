/- Hours of package cloth. -/
import Derived.Test.YtompkdhhhlgbdaaUf
import Derived.Test.YtompkdhhhlgbdaaUc
import Derived.WalkMore
import Derived.Deep.LoopGhost
namespace Go.Proofs.Ytompkdhhhlgbdaa
open Go Go.RowKit Go.Shelf
attribute [local go_sem ↓] Go.wp_at_zero Go.wp_at_succ

/-- Whether each quantity can lie in its span at an hour. -/
def canQ (a b c : Tk) (M : List Ms) (now : List Sp) (k j : Nat) : Bool := canF (now.getD k (0, 0)).1 (now.getD k (0, 0)).2 (trs (tk3 a b c k) (k : Int) M) j
/-- The hours at which all three can, up to an hour. -/
def hrsTo (f : Nat → Nat → Bool) (n : Nat) : List Int := ((List.range n).filter fun h => f 0 h && (f 1 h && f 2 h)).map fun (h : Nat) => (h : Int)
theorem hrsTo_len (f : Nat → Nat → Bool) (n : Nat) : (hrsTo f n).length ≤ n := by
  simp only [hrsTo, List.length_map]
  have := List.length_filter_le (fun h => f 0 h && (f 1 h && f 2 h)) (List.range n)
  simpa using this
theorem hrsTo_yes {f : Nat → Nat → Bool} {n : Nat} (h : ∀ k, k < 3 → f k n = true) : hrsTo f (n + 1) = hrsTo f n ++ [(n : Int)] := by
  simp [hrsTo, List.range_succ, List.filter_append, h 0 (by omega), h 1 (by omega), h 2 (by omega)]
theorem hrsTo_no {f : Nat → Nat → Bool} {n k : Nat} (hk : k < 3) (h : f k n = false) : hrsTo f (n + 1) = hrsTo f n := by
  have hf : (f 0 n && (f 1 n && f 2 n)) = false := by
    rcases (show k = 0 ∨ k = 1 ∨ k = 2 by omega) with rfl | rfl | rfl <;> rw [h] <;> simp
  simp [hrsTo, List.range_succ, List.filter_append, hf]
def hoursErr (f : Nat → Nat → Bool) : Int := if hrsTo f 49 = [] then 7 else 0
/-- A list of numbers, and an error. -/
def canTo (f : Nat → Nat → Bool) (n k j : Nat) : Bool := if k < n then f k j else false
theorem canTo_succ (f : Nat → Nat → Bool) {n : Nat} : (drow fun i j => if i = n then f n j else canTo f n i j) = drow (canTo f (n + 1)) := by
  apply drow_congr
  intro k _ j _
  unfold canTo
  by_cases h : k = n
  · subst h; rw [if_pos rfl, if_pos (by omega)]
  · rw [if_neg h]
    by_cases h2 : k < n
    · rw [if_pos h2, if_pos (by omega)]
    · rw [if_neg h2, if_neg (by omega)]

def HrsEnd (f : Nat → Nat → Bool) (w : World) (e : Ending) (w' : World) : Prop := ∃ v, e = .returned (.tuple #[v, iv (hoursErr f)]) ∧ Owns encI 1 3 w.heap.size w' v (hrsTo f 49) ∧ Below w.heap.size w w'

set_option maxRecDepth 20000 in
set_option maxHeartbeats 12800000 in
theorem Hours_good (a b c : Tk) (M : List Ms) (now : List Sp) (tv mv nv : Value) (w : World) (ho : opn [a, b, c] M = 0) (hn3 : now.length = 3) (hnv : now.all vSizeP = true) (ht : SliceOf encT 4 w tv [a, b, c]) (hm : SliceOf encM 4 w mv M) (hs : SliceOf encS 2 w nv now) :
    Calls Try.prog 21 #[.agg #[tv, mv], nv] w (HrsEnd (canQ a b c M now) w) := by
  have ht' := Lib.hid ht; have hm' := Lib.hid hm; have hs' := Lib.hid hs
  obtain ⟨ta, tc, rfl, -, -⟩ := ht
  obtain ⟨ma, mc, rfl, -, -⟩ := hm
  obtain ⟨na, nc, rfl, hnl, -⟩ := hs
  obtain ⟨a', b', c', hq, h1, h2, h3, h4⟩ := opn_zero ho
  obtain ⟨rfl, rfl, rfl⟩ : a = a' ∧ b = b' ∧ c = c' := by simpa using hq
  have HQ : Hid (openQ [a, b, c] M (.slice ma M.length mc) = qs a b c (.slice ma M.length mc)) := by simp [Hid, openQ, ho]
  have HO := Lib.hid ho
  have HOK := Lib.hid (fun (k : Nat) (W : World) (h : SliceOf encM 4 W (.slice ma M.length mc) M) => (show QOk (tk3 a b c k) (k : Int) (.slice ma M.length mc) M W from ⟨tk3_ok h1 k, h3, by omega, h⟩))
  have HALL := Lib.hid (fun (W : World) (h : SliceOf encS 2 W (.slice na now.length nc) now) => allS_any now (.slice na now.length nc) W h)
  rw [hnv] at HALL
  have hn1 : ((now.length : Int) != 3) = false := by rw [hn3]; rfl
  have HN3 := Lib.hid hn3
  clear ho h1 h3 h4 hq hnv hn3
  go_enter Try.func21, Try.ntmps21
  go_wp2_with fail
  go_step3
  go_wp2_with fail
  refine (open_any [a, b, c] M _ _ _ (ht'.out.below (by repeat (first | exact Below.refl _ _ | refine Below.drew ?_ | refine bpush ?_ _ | refine bput ?_ (by simp) _ | (refine bstep ?_ (by assumption))))) (hm'.out.below (by repeat (first | exact Below.refl _ _ | refine Below.drew ?_ | refine bpush ?_ _ | refine bput ?_ (by simp) _ | (refine bstep ?_ (by assumption)))))).mono ?_
  rintro e w1 ⟨rfl, hb1⟩
  rw [HO.out, HQ.out]
  have HB1 := Lib.hid (show Below w.heap.size w w1 from bstep (by repeat (first | exact Below.refl _ _ | refine Below.drew ?_ | refine bpush ?_ _ | refine bput ?_ (by simp) _ | (refine bstep ?_ (by assumption)))) hb1)
  clear hb1
  go_wp2_with (first | (with_reducible change wpList _ _ _ (Oper.mk _ (Op.alloc 85) _ _ _ _ :: _) _ _; refine L_val rfl (run_alloc_row 85 zqs zinfo113 rfl) ?_) | (with_reducible change wpList _ _ _ (Oper.mk _ (Op.store 85 _ _) _ _ _ _ :: _) _ _; refine L_skip rfl (run_store_row 85 _ _ rfl w1.heap.size rfl (qs a b c (.slice ma M.length mc)) rfl 85 zqs (heap_new _ _ _) (sinfoS _ _ _ _ _) (zqs_size _ _ _ _ _) (sp_one _ _ _ _ _ _ _)) ?_))
  refine (HALL.out _ (hs'.out.below (bpush HB1.out _))).mono ?_
  rintro e w2 ⟨rfl, hb2⟩
  have hr2 := Lib.hid ((hb2.block w1.heap.size (by simp)).trans (heap_new w1 (qs a b c (.slice ma M.length mc)) 85))
  have HB2 := Lib.hid (bstep (bpush HB1.out _) hb2)
  clear hb2
  go_wp2_with (first | (with_reducible change wpList _ _ _ (Oper.mk _ (Op.alloc 114) _ _ _ _ :: _) _ _; refine L_val rfl (run_alloc_row 114 (drow (fun _ _ => false)) zinfoD rfl) ?_) | (with_reducible change wpList _ _ _ (Oper.mk _ (Op.load 85 _) _ _ _ _ :: _) _ _; refine L_val rfl (run_load_row 85 _ rfl _ rfl 85 (qs a b c (.slice ma M.length mc)) _ ((Below.heap_alloc _ _ _ (Array.getElem?_eq_some_iff.1 hr2.out).1).trans hr2.out) Try.underlying85 rfl (sinfoS _ _ _ _ _)) ?_))
  have hdr := Lib.hid (heap_new w2 (drow (fun _ _ => false)) 114)
  have HB3 := Lib.hid (bpush HB2.out (.cells (drow (fun _ _ => false)) 114))
  have hzw2 : w.heap.size ≤ w2.heap.size := HB2.out.size
  go_loopw [34, 9, 10] (fun i _ _ wr => ∃ k : Nat, k ≤ 3 ∧ i = iv k ∧ Hid (wr.heap[w2.heap.size]? = some (.cells (drow (canTo (canQ a b c M now) k)) 114 (0, 0))) ∧ Hid (Below w.heap.size w wr)) (fun i _ _ _ => 3 - (intOf i).toNat)
  case atStart => exact ⟨0, by omega, rfl, hdr.out, HB3.out⟩
  case round =>
    obtain ⟨k, hk, rfl, HD, HB⟩ := hrel
    by_cases hlt : k < 3
    · have hidx := index_qs a b c ma M.length mc k hlt
      obtain ⟨p, hp⟩ := getElem?_of_lt (xs := now) (k := k) (by rw [HN3.out]; exact hlt)
      obtain ⟨na', nc', hne, -, hnc⟩ := hs'.out
      obtain ⟨nb, no, hna, hnj⟩ := hnc k p hp
      have s0w := hnj 0 (iv p.1) rfl
      have s1w := hnj 1 (iv p.2) rfl
      simp only [Nat.add_zero] at s0w
      have hnbw : nb < w.heap.size := lt_of_cell s0w
      have s0 := (HB.out.cell (p := ⟨nb, no + k * 2, none⟩) hnbw).trans s0w
      have s1 := (HB.out.cell (p := ⟨nb, no + k * 2 + 1, none⟩) hnbw).trans s1w
      simp only [Value.slice.injEq] at hne
      obtain ⟨rfl, -, -⟩ := hne
      subst hna
      have hgd : now.getD k (0, 0) = p := by simp [List.getD, hp]
      have HHI : Hid (∀ W, Below w.heap.size w W → Calls Try.prog 51 #[.agg #[iv (tk3 a b c k).fl, iv (tk3 a b c k).fh, iv (tk3 a b c k).rl, iv (tk3 a b c k).rh, iv (k : Int), .slice ma M.length mc], .agg #[iv p.1, iv p.2]] W fun e W' => e = .returned (.agg (clist (canQ a b c M now k)).toArray) ∧ Below W.heap.size W W') := fun W hb => by
        have h1 := hoursIn_any (tk3 a b c k) (k : Int) (.slice ma M.length mc) M p.1 p.2 W (HOK.out k W (hm'.out.below hb))
        have e1 : crow (canF p.1 p.2 (trs (tk3 a b c k) (k : Int) M)) = (clist (canQ a b c M now k)).toArray := by rw [clist_arr]; unfold canQ; rw [hgd]
        rw [e1] at h1
        exact h1
      have HCL := Lib.hid (cells_drow (f := canTo (canQ a b c M now) k) (g := canQ a b c M now k) (b := w2.heap.size) (k := k) (t := 114) (W := wr))
      have hlen := clist_len (canQ a b c M now k)
      have hone := clist_one (canQ a b c M now k)
      have hinf := sinfoCl (canQ a b c M now k)
      have hth := there_row (o := k * 49) (n := 49) HD.out (by rw [drow_size]; omega)
      have hcd : ∀ W : World, W.heap[w2.heap.size]? = some (.cells (drow (canTo (canQ a b c M now) k)) 114 (0, 0)) → (W.setCells w2.heap.size (k * 49) (clist (canQ a b c M now k))).heap[w2.heap.size]? = some (.cells (drow (canTo (canQ a b c M now) (k + 1))) 114 (0, 0)) := fun W h => by
        rw [← canTo_succ]; exact cells_drow h
      have HCD := Lib.hid hcd
      clear hcd HCL hnc hnj hp hgd
      generalize clist (canQ a b c M now k) = cs at *
      generalize tk3 a b c k = tt at *
      have i0 : (0 : Int) ≤ (k : Int) := by omega
      have i1 : (k : Int) < 3 := by omega
      have i2 : (k : Int) < (now.length : Int) := by rw [HN3.out]; omega
      have hz2 : w2.heap.size < wr.heap.size := (Array.getElem?_eq_some_iff.1 HD.out).1
      go_wp2_with fail
      obtain ⟨Wn, hWn⟩ : ∃ Wn : World, wr.alloc (.cells #[.int .i64 tt.fl, .int .i64 tt.fh, .int .i64 tt.rl, .int .i64 tt.rh, .int .i64 k, .slice ma M.length mc] 83) = Wn := ⟨_, rfl⟩
      rw [hWn]
      have hbn : Below wr.heap.size wr Wn := by rw [← hWn]; exact (by repeat (first | exact Below.refl _ _ | refine Below.drew ?_ | refine bpush ?_ _ | refine bput ?_ (by simp) _ | (refine bstep ?_ (by assumption))))
      have hrd := Lib.hid ((hbn.block w2.heap.size hz2).trans HD.out)
      have c0 : Wn.cell? ⟨wr.heap.size, 0, none⟩ = some (iv tt.fl) := by subst hWn; go_simp
      have c1 : Wn.cell? ⟨wr.heap.size, 1, none⟩ = some (iv tt.fh) := by subst hWn; go_simp
      have c2 : Wn.cell? ⟨wr.heap.size, 2, none⟩ = some (iv tt.rl) := by subst hWn; go_simp
      have c3 : Wn.cell? ⟨wr.heap.size, 3, none⟩ = some (iv tt.rh) := by subst hWn; go_simp
      have c4 : Wn.cell? ⟨wr.heap.size, 4, none⟩ = some (iv (k : Int)) := by subst hWn; go_simp
      have c5 : Wn.cell? ⟨wr.heap.size, 5, none⟩ = some (.slice ma M.length mc) := by subst hWn; go_simp
      have t0 := kcell hbn s0
      have t1 := kcell hbn s1
      have hthn := there_below hth hbn
      have hbw : Below w.heap.size w Wn := bstep HB.out hbn
      have hzn : w2.heap.size < Wn.heap.size := Nat.lt_of_lt_of_le hz2 hbn.size
      have hnb : nb ≠ w2.heap.size := by omega
      clear hWn hbn hth s0 s1 hidx
      go_region_held3 (fun w' => w'.cell? ⟨wr.heap.size, 0, none⟩ = some (iv tt.fl) ∧ w'.cell? ⟨wr.heap.size, 1, none⟩ = some (iv tt.fh) ∧ w'.cell? ⟨wr.heap.size, 2, none⟩ = some (iv tt.rl) ∧ w'.cell? ⟨wr.heap.size, 3, none⟩ = some (iv tt.rh) ∧ w'.cell? ⟨wr.heap.size, 4, none⟩ = some (iv (k : Int)) ∧ w'.cell? ⟨wr.heap.size, 5, none⟩ = some (.slice ma M.length mc) ∧ w'.cell? ⟨nb, no + k * 2, none⟩ = some (iv p.1) ∧ w'.cell? ⟨nb, no + k * 2 + 1, none⟩ = some (iv p.2) ∧ w'.there w2.heap.size (k * 49) 49 ∧ Below w.heap.size w w')
        (first | (go_split_ands; refine ⟨?_, ?_, ?_, ?_, ?_, ?_, ?_, ?_, ?_, ?_⟩ <;> first | assumption | exact kcell hbK (by assumption) | exact bstep (by assumption) hbK | exact there_below (by assumption) hbK) | (go_split_ands; refine ⟨?_, ?_, ?_, ?_, ?_, ?_, ?_, ?_, ?_, ?_⟩ <;> first | exact scell (by omega) (by assumption) | exact bcells (by omega) _ _ _ (by assumption) | exact World.there_setCells (by assumption) _ _ _) | (refine ⟨?_, ?_, ?_, ?_, ?_, ?_, ?_, ?_, ?_, ?_⟩ <;> first | exact Below.drew (by assumption) | exact (World.there_drew _ _ _ _).2 (by assumption) | assumption))
        (first | (go_split_ands; (with_reducible refine (HHI.out _ (by assumption)).mono ?_); rintro e w5 ⟨rfl, hbK⟩))
      rename_i hHeld
      obtain ⟨-, -, -, -, -, -, -, -, -, hBF⟩ := hHeld
      have hrow := Lib.hid (HCD.out w5 ((hbK.block w2.heap.size (show w2.heap.size < Wn.drew.heap.size from hzn)).trans hrd.out))
      have HBF := Lib.hid hBF
      clear hbK hBF c0 c1 c2 c3 c4 c5 t0 t1 hthn hbw hzn hnb
      generalize w5.setCells w2.heap.size (k * 49) cs = w6 at *
      go_wp2_with fail
      go_roundw
      case rel => exact ⟨k + 1, by omega, by go_num, hrow.out, HBF.out⟩
      case measure => simp [intOf]; omega
    · obtain rfl : k = 3 := by omega
      have hd3 : drow (canTo (canQ a b c M now) 3) = drow (canQ a b c M now) := drow_congr (fun k hk j _ => by unfold canTo; rw [if_pos hk])
      rw [hd3] at HD
      clear hd3
      go_wp2_with fail
      go_step3
      go_wp2_with fail
      obtain ⟨W3, hW3⟩ : ∃ W3, W3 = wr := ⟨_, rfl⟩
      subst hW3
      have hz3 : w2.heap.size < W3.heap.size := (Array.getElem?_eq_some_iff.1 HD.out).1
      have hzwr : w.heap.size ≤ W3.heap.size := HB.out.size
      obtain ⟨f, hf⟩ : ∃ f, f = canQ a b c M now := ⟨_, rfl⟩
      rw [← hf] at HD
      have HFQ := Lib.hid hf
      clear hf HOK HALL HQ HO
      obtain ⟨i0, hi, hz0, hz1, hz2⟩ := info_parts info3
      have HI := Lib.hid hi; have HZ0 := Lib.hid hz0; have HZ1 := Lib.hid hz1; have HZ2 := Lib.hid hz2
      clear hi hz0 hz1 hz2
      go_loopg [11, 47, 12, 14] 49 (fun g pv i _ _ wq => ∃ n : Nat, n ≤ 49 ∧ Hid (g = 49 - n) ∧ i = iv n ∧ Hid (Owns encI 1 3 W3.heap.size wq pv (hrsTo f n)) ∧ Hid (Below W3.heap.size W3 wq))
      case atStart => exact ⟨0, by omega, rfl, rfl, Owns.nil _ _ _ _ _, Below.refl _ _⟩
      case round =>
        obtain ⟨n, hn, HG, rfl, HL, HBQ⟩ := hrel
        obtain ⟨WQ, hWQ⟩ : ∃ WQ, WQ = wr := ⟨_, rfl⟩
        subst hWQ
        obtain ⟨gq, hgq⟩ : ∃ gq, gq = gk := ⟨_, rfl⟩
        subst hgq
        have hrowQ := Lib.hid ((HBQ.out.block w2.heap.size hz3).trans HD.out)
        by_cases hlt2 : n < 49
        · have n0 : (0 : Int) ≤ (n : Int) := by omega
          have n1 : (n : Int) < 49 := by omega
          go_wp2_with (with_reducible change wpList _ _ _ (Oper.mk _ (Op.load 114 _) _ _ _ _ :: _) _ _; refine L_val rfl (run_load_row 114 _ rfl _ rfl 114 (drow f) _ hrowQ.out Try.underlying114 rfl (sinfoD _)) ?_)
          go_loopg [51, 14] 3 (fun g i _ wi => ∃ j : Nat, j ≤ 3 ∧ Hid (g = 3 - j) ∧ i = iv j ∧ Hid (∀ k, k < j → f k n = true) ∧ Hid (Below WQ.heap.size WQ wi))
          case atStart => exact ⟨0, by omega, rfl, rfl, fun k hk => by omega, Below.refl _ _⟩
          case round =>
            obtain ⟨j, hj, HG2, rfl, HA, HBI⟩ := hrel
            by_cases hlt3 : j < 3
            · have hidx := index_d f hlt3
              have j1 : (j : Int) < 3 := by omega
              have hcell : (wr.alloc (.cells (crow (f j)) 113)).cell? ⟨wr.heap.size, n, none⟩ = some (.bool (f j n)) := by rw [cell_of_row _ _ _ _ _ _ (heap_new wr _ _)]; exact crow_at _ hlt2
              cases hfj : f j n
              · rw [hfj] at hcell
                go_wp2_with (first | (with_reducible change wpList _ _ _ (Oper.mk _ (Op.alloc 113) _ _ _ _ :: _) _ _; refine L_val rfl (run_alloc_row 113 (crow (fun _ => false)) zinfoC rfl) ?_) | (with_reducible change wpList _ _ _ (Oper.mk _ (Op.store 113 _ _) _ _ _ _ :: _) _ _; refine L_skip rfl (run_store_row 113 _ _ rfl _ rfl (crow (f j)) rfl 113 _ (heap_new _ _ _) (sinfoC _) (crow_sz _ _) (crow_one _)) ?_))
                go_roundg (49 - (n + 1))
                case measure => have := HG.out; omega
                case rel => exact ⟨n + 1, by omega, rfl, by go_num, by rw [hrsTo_no hlt3 hfj]; exact Owns.kept HL.out (bpush HBI.out _), bstep HBQ.out (bpush HBI.out _)⟩
              · rw [hfj] at hcell
                go_wp2_with (first | (with_reducible change wpList _ _ _ (Oper.mk _ (Op.alloc 113) _ _ _ _ :: _) _ _; refine L_val rfl (run_alloc_row 113 (crow (fun _ => false)) zinfoC rfl) ?_) | (with_reducible change wpList _ _ _ (Oper.mk _ (Op.store 113 _ _) _ _ _ _ :: _) _ _; refine L_skip rfl (run_store_row 113 _ _ rfl _ rfl (crow (f j)) rfl 113 _ (heap_new _ _ _) (sinfoC _) (crow_sz _ _) (crow_one _)) ?_))
                go_roundg (3 - (j + 1))
                case measure => have := HG2.out; omega
                case rel =>
                  refine ⟨j + 1, by omega, rfl, by go_num, fun k hk => ?_, bpush HBI.out _⟩
                  by_cases e : k = j
                  · rw [e]; exact hfj
                  · exact HA.out k (by omega)
            · obtain rfl : j = 3 := by omega
              have HLE := Lib.hid (hrsTo_yes HA.out)
              have hsq := HBQ.out.size
              have hsi := HBI.out.size
              have hb2 : Hid ((hrsTo f n).length + 1 ≤ maxLen ∧ ((hrsTo f n).length + 1) * 8 ≤ 140737488355328) := by have := hrsTo_len f n; simp [Hid]; unfold maxLen; omega
              have hb3 : Hid (W3.heap.size ≤ (wr.alloc (.cells #[iv (n : Int)] 3)).heap.size) := by simp [Hid]; omega
              go_wp2_with (at_builtin; refine L_append1 (n : Int) rfl _ _ 57 rfl Try.underlying57 HI.out HZ0.out HZ1.out HZ2.out rfl Nat.one_pos encI_len (encI_one _) rfl rfl (Owns.kept (Owns.kept HL.out HBI.out) (bpush (Below.refl _ _) _)) (encI_cell ?_) hb2.out hb3.out ?_; go_simp; intro v' w3 hown3 hbe3 hg3)
              rw [← HLE.out] at hown3
              have HO3 := Lib.hid hown3
              have HB9 := Lib.hid ((HBQ.out.trans ((bpush HBI.out (.cells #[iv (n : Int)] 3)).mono (by omega))).trans hbe3)
              clear hown3 hbe3 hg3
              go_wp2_with fail
              go_roundg (49 - (n + 1))
              case measure => have := HG.out; omega
              case rel => exact ⟨n + 1, by omega, rfl, by go_num, HO3.out, HB9.out⟩
        · obtain rfl : n = 49 := by omega
          obtain ⟨a', c', rfl⟩ := HL.out.len
          have HBW := Lib.hid (bstep HB.out HBQ.out)
          by_cases hne : hrsTo f 49 = []
          · have e1 : (((hrsTo f 49).length : Int) == 0) = true := by rw [hne]; rfl
            have HE : Hid (hoursErr (canQ a b c M now) = 7) := by rw [Hid, hoursErr, ← HFQ.out, if_pos hne]
            have HNE := Lib.hid hne; clear hne
            go_wp2_with fail
            (try rw [Exit.noGoto_ret])
            go_ret2
            exact ⟨_, by rw [HE.out]; rfl, by rw [← HFQ.out, HNE.out]; exact Owns.nil _ _ _ _ _, HBW.out⟩
          · have e1 : (((hrsTo f 49).length : Int) == 0) = false := by
              rw [beq_eq_false_iff_ne]; intro h; exact hne (List.eq_nil_of_length_eq_zero (by omega))
            have HE : Hid (hoursErr (canQ a b c M now) = 0) := by rw [Hid, hoursErr, ← HFQ.out, if_neg hne]
            clear hne
            go_wp2_with fail
            (try rw [Exit.noGoto_ret])
            go_ret2
            exact ⟨_, by rw [HE.out]; rfl, by rw [← HFQ.out]; exact Owns.base2 HL.out hzwr, HBW.out⟩
end Go.Proofs.Ytompkdhhhlgbdaa
