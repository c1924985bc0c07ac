/- TopNarrowerWaits: plain facts: two days that differ in the stays alone. -/
import Derived.Test.YtdalilllakdamaaRb
import Derived.Test.YtdalilllakdamaaQu
import Derived.Test.YtdalilllakdamaaTc
namespace Go.Proofs.Ytdalilllakdamaa
open Go Go.RowKit Go.Shelf

/-- Cloths (number, hours to the wider width, hours to the narrower one), as a day that stays sel of them. -/
def nwC (sel : Nat × Nat × Nat → Nat) (L : List (Nat × Nat × Nat)) : List Ct := L.map fun p => ⟨((p.1 % 2 : Nat) : Int), ((p.1 / 2 : Nat) : Int), ((max 1 (sel p) : Nat) : Int), ((max 1 (sel p) : Nat) : Int)⟩
def nwA (p : Nat × Nat × Nat) : Nat := p.2.1
def nwB (p : Nat × Nat × Nat) : Nat := p.2.2
def NwOk (L : List (Nat × Nat × Nat)) : Prop := L.length ≤ 4 ∧ ∀ p ∈ L, p.1 < 4 ∧ p.2.1 ≤ p.2.2 ∧ p.2.2 ≤ 20
theorem nwC_len (sel : Nat × Nat × Nat → Nat) (L : List (Nat × Nat × Nat)) : (nwC sel L).length = L.length := by simp [nwC]
theorem nwC_snoc (sel : Nat × Nat × Nat → Nat) (L : List (Nat × Nat × Nat)) (p : Nat × Nat × Nat) : nwC sel (L ++ [p]) = nwC sel L ++ [⟨((p.1 % 2 : Nat) : Int), ((p.1 / 2 : Nat) : Int), ((max 1 (sel p) : Nat) : Int), ((max 1 (sel p) : Nat) : Int)⟩] := by simp [nwC]
theorem nwC_at (sel : Nat × Nat × Nat → Nat) (L : List (Nat × Nat × Nat)) (a : Nat) (h : a < L.length) : ctAt (nwC sel L) a = ⟨((L[a].1 % 2 : Nat) : Int), ((L[a].1 / 2 : Nat) : Int), ((max 1 (sel L[a]) : Nat) : Int), ((max 1 (sel L[a]) : Nat) : Int)⟩ := by
  simp [ctAt, nwC, List.getD_eq_getElem?_getD, h]
theorem nwC_out (sel : Nat × Nat × Nat → Nat) (L : List (Nat × Nat × Nat)) (a : Nat) (h : L.length ≤ a) : ctAt (nwC sel L) a = ⟨0, 0, 0, 0⟩ := by
  simp [ctAt, nwC, List.getD_eq_getElem?_getD, h]
theorem nw_chk {sel : Nat × Nat × Nat → Nat} {L : List (Nat × Nat × Nat)} (h : NwOk L) (hs : ∀ p ∈ L, sel p ≤ 20) : tChk (nwC sel L) [0, 1] = 0 := by
  have h1 : vRanks [0, 1] = true := by decide
  have h2 : (nwC sel L).all (vCloth 2) = true := by
    rw [List.all_eq_true]; intro c hc
    obtain ⟨p, hp, rfl⟩ := List.mem_map.1 hc
    have := h.2 p hp
    have := hs p hp
    simp only [vCloth, okSpan, Bool.and_eq_true, inB_iff, decide_eq_true_eq]
    omega
  unfold tChk
  rw [if_pos h1, if_neg (by rw [nwC_len]; have := h.1; omega)]
  exact if_pos h2
theorem nw_chkA {L : List (Nat × Nat × Nat)} (h : NwOk L) : tChk (nwC nwA L) [0, 1] = 0 := nw_chk h fun p hp => by have := h.2 p hp; unfold nwA; omega
theorem nw_chkB {L : List (Nat × Nat × Nat)} (h : NwOk L) : tChk (nwC nwB L) [0, 1] = 0 := nw_chk h fun p hp => by have := h.2 p hp; unfold nwB; omega
theorem nw_rk : RkOk [0, 1] := by
  intro i j hi hj h
  simp only [List.length_cons, List.length_nil] at hi hj
  have hi' : i = 0 ∨ i = 1 := by omega
  have hj' : j = 0 ∨ j = 1 := by omega
  rcases hi' with rfl | rfl <;> rcases hj' with rfl | rfl <;> simp at h ⊢
theorem nw_same (L : List (Nat × Nat × Nat)) (a : Nat) : (ctAt (nwC nwA L) a).we = (ctAt (nwC nwB L) a).we ∧ (ctAt (nwC nwA L) a).co = (ctAt (nwC nwB L) a).co := by
  by_cases h : a < L.length
  · rw [nwC_at _ _ _ h, nwC_at _ _ _ h]; exact ⟨rfl, rfl⟩
  · rw [nwC_out _ _ _ (by omega), nwC_out _ _ _ (by omega)]; exact ⟨rfl, rfl⟩
theorem nw_co (L : List (Nat × Nat × Nat)) : coOf (nwC nwA L) = coOf (nwC nwB L) := funext fun a => (nw_same L a).2
theorem nw_ord {L : List (Nat × Nat × Nat)} {o o' : List Nat} (h : NwOk L) (ha : OrdC (nwC nwA L) [0, 1] (List.range (nwC nwA L).length) o) (hb : OrdC (nwC nwB L) [0, 1] (List.range (nwC nwB L).length) o') : o = o' := by
  rw [nwC_len] at ha hb
  have ha' : OrdC (nwC nwB L) [0, 1] (List.range L.length) o := ⟨ha.1, ha.2.imp fun {x y} hn hl => hn ((ltK_congr (nw_same L) _ _).2 hl)⟩
  exact OrdC.one ha' hb nw_rk (day_we (nw_chkB h)) (fun x hx => by rw [nwC_len]; exact List.mem_range.1 hx) List.nodup_range
theorem nw_st {L : List (Nat × Nat × Nat)} {o : List Nat} (h : NwOk L) (hb : OrdC (nwC nwB L) [0, 1] (List.range (nwC nwB L).length) o) : ∀ x ∈ o, (loOf (nwC nwA L) x ≤ loOf (nwC nwB L) x) ∧ (hiOf (nwC nwA L) x ≤ hiOf (nwC nwB L) x) := by
  intro x hx
  have hx' := List.mem_range.1 (hb.1.mem_iff.1 hx)
  rw [nwC_len] at hx'
  have hp := h.2 L[x] (List.getElem_mem hx')
  unfold loOf hiOf
  rw [nwC_at _ _ _ hx', nwC_at _ _ _ hx']
  simp only [nwA, nwB]
  omega
theorem nw_lo {L : List (Nat × Nat × Nat)} {o : List Nat} {k : Nat} (h : NwOk L) (hk : 0 < k) (hb : OrdC (nwC nwB L) [0, 1] (List.range (nwC nwB L).length) o) (i : Nat) : (stF (nwC nwA L) k o).getD (i * 2) 0 ≤ (stF (nwC nwB L) k o).getD (i * 2) 0 := by
  rw [stF_lo, stF_lo, nw_co, nwC_len, nwC_len]
  exact put_mono (vis_mono _ _ _ o _ _ (fun x hx => (nw_st h hb x hx).1) (Dom.refl _) (by rw [List.length_replicate]; exact hk) (by rw [List.length_replicate]; exact hk)) _ _ rfl (fun _ => Int.le_refl _) i
theorem nw_hi {L : List (Nat × Nat × Nat)} {o : List Nat} {k : Nat} (h : NwOk L) (hk : 0 < k) (hb : OrdC (nwC nwB L) [0, 1] (List.range (nwC nwB L).length) o) (i : Nat) : (stF (nwC nwA L) k o).getD (i * 2 + 1) 0 ≤ (stF (nwC nwB L) k o).getD (i * 2 + 1) 0 := by
  rw [stF_hi, stF_hi, nw_co, nwC_len, nwC_len]
  exact put_mono (vis_mono _ _ _ o _ _ (fun x hx => (nw_st h hb x hx).2) (Dom.refl _) (by rw [List.length_replicate]; exact hk) (by rw [List.length_replicate]; exact hk)) _ _ rfl (fun _ => Int.le_refl _) i
theorem nw_few {L : List (Nat × Nat × Nat)} {o : List Nat} (limit : Int) (h : NwOk L) (hb : OrdC (nwC nwB L) [0, 1] (List.range (nwC nwB L).length) o) : fewS (coOf (nwC nwA L)) (hiOf (nwC nwA L)) o limit ≤ fewS (coOf (nwC nwB L)) (hiOf (nwC nwB L)) o limit := by
  rw [nw_co]
  exact few_mono _ _ _ o limit fun x hx => (nw_st h hb x hx).2
/-- The hour from which a cloth is surely at most so wide: a narrower width is reached no earlier. -/
theorem below_two {a b c : Tk} {l1 l2 : Int} (hv : [a, b, c].all vTrack = true) (h2 : 0 ≤ l2) (h12 : l2 ≤ l1) (h1 : l1 ≤ 2000) :
    ∃ s1 p1 s2 p2 : Nat, belowErr [a, b, c] [] 1 l1 = 0 ∧ belowS [a, b, c] [] 1 l1 = s1 ∧ belowP [a, b, c] [] 1 l1 = p1 ∧ belowErr [a, b, c] [] 1 l2 = 0 ∧ belowS [a, b, c] [] 1 l2 = s2 ∧ belowP [a, b, c] [] 1 l2 = p2 ∧ s1 ≤ s2 ∧ s2 ≤ 49 := by
  obtain ⟨s1, p1, e1, e2, e3, -, q1, q2⟩ := below_nil (lim := l1) hv ⟨by omega, h1⟩
  obtain ⟨s2, p2, f1, f2, f3, -, r1, r2⟩ := below_nil (lim := l2) hv ⟨h2, by omega⟩
  refine ⟨s1, p1, s2, p2, e1, e2, e3, f1, f2, f3, ?_, r1⟩
  by_cases h : s2 ≤ 48
  · exact (q2 s2 h).1 (Int.le_trans ((r2 s2 h).2 (Nat.le_refl _)) h12)
  · omega
end Go.Proofs.Ytdalilllakdamaa
