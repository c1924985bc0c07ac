/- TopWaitAlibi: plain facts. -/
import Derived.Test.YtdalilllakdamaaRb
import Derived.Test.YtdalilllakdamaaGr
import Derived.Test.YtdalilllakdamaaNd
import Derived.Test.YtdalilllakdamaaQo
namespace Go.Proofs.Ytdalilllakdamaa
open Go Go.RowKit

/-- A cloth of the law: three bytes. -/
abbrev W3 := Int × Int × Int
def waC (p : W3) : Ct := ⟨p.1 % 4, p.2.1 % 3, 1 + p.2.2 % 4, 1 + p.2.2 % 4⟩
def W3ok (p : W3) : Prop := (0 ≤ p.1 ∧ p.1 ≤ 255) ∧ (0 ≤ p.2.1 ∧ p.2.1 ≤ 255) ∧ (0 ≤ p.2.2 ∧ p.2.2 ≤ 255)
def waR : List Int := [3, 1, 0, 2]
theorem wa_chk {L : List W3} (hL : ∀ p ∈ L, W3ok p) (h6 : L.length ≤ 6) : tChk (L.map waC) waR = 0 := by
  have h1 : vRanks waR = true := by decide
  have h2 : (L.map waC).all (vCloth waR.length) = true := by
    rw [List.all_eq_true]; intro c hc
    obtain ⟨p, hp, rfl⟩ := List.mem_map.1 hc
    obtain ⟨⟨a1, a2⟩, ⟨b1, b2⟩, ⟨c1, c2⟩⟩ := hL p hp
    have hk : (waR.length : Int) = 4 := rfl
    simp only [vCloth, waC, Bool.and_eq_true, inB_iff, okSpan_iff, hk]
    omega
  unfold tChk
  rw [if_pos h1, if_neg (by rw [List.length_map]; omega), if_pos h2]
/-- With at most six cloths of at most four hours, that come within three hours, all are taken early. -/
theorem vis_six {co sel : Nat → Int} : ∀ (o : List Nat) (f : List Int) (i : Nat), (∀ j, j < f.length → 0 ≤ f.getD j 0 ∧ f.getD j 0 ≤ 2 + 4 * (i : Int)) → 0 < f.length → (∀ x ∈ o, (0 ≤ co x ∧ co x ≤ 2) ∧ 0 ≤ sel x ∧ sel x ≤ 4) →
    ∀ v ∈ visL co sel f o, 0 ≤ v.2.1 ∧ v.2.1 ≤ 2 + 4 * ((i + o.length : Nat) : Int) - 4
  | [], _, _, _, _, _, v, hv => by simp [visL] at hv
  | x :: o, f, i, hf, hl, hx, v, hv => by
    obtain ⟨h1, h2⟩ := hx x (by simp)
    have hb := hf (best f) (best_lt hl)
    have t1 : 0 ≤ takeAt f (co x) ∧ takeAt f (co x) ≤ 2 + 4 * (i : Int) := by unfold takeAt; omega
    simp only [visL, List.mem_cons] at hv
    rcases hv with rfl | hv
    · simp only [List.length_cons]; omega
    · have h3 : ∀ j, j < (stepF f (co x) (sel x)).length → 0 ≤ (stepF f (co x) (sel x)).getD j 0 ∧ (stepF f (co x) (sel x)).getD j 0 ≤ 2 + 4 * ((i + 1 : Nat) : Int) := by
        intro j hj
        rw [stepF_len] at hj
        have := hf j hj
        unfold stepF
        rw [getD_set']
        split <;> omega
      have := vis_six o _ _ h3 (by rw [stepF_len]; exact hl) (fun y hy => hx y (by simp [hy])) v hv
      simp only [List.length_cons]
      omega
theorem wa_at {L : List W3} {i : Nat} {p : W3} (h : L[i]? = some p) : ctAt (L.map waC) i = waC p := by
  simp [ctAt, List.getD_eq_getElem?_getD, h]
theorem wa_out {L : List W3} {i : Nat} (h : L.length ≤ i) : ctAt (L.map waC) i = ⟨0, 0, 0, 0⟩ := by
  simp [ctAt, List.getD_eq_getElem?_getD, List.getElem?_eq_none h]
theorem wa_same (L : List W3) : loOf (L.map waC) = hiOf (L.map waC) := by
  funext i
  unfold loOf hiOf
  by_cases h : i < L.length
  · rw [wa_at (List.getElem?_eq_getElem h)]; rfl
  · rw [wa_out (by omega)]
/-- When each cloth is taken: early, and at one hour alone. -/
theorem wa_facts {L : List W3} {o : List Nat} {K : Nat} (hL : ∀ p ∈ L, W3ok p) (h6 : L.length ≤ 6) (ho : OrdC (L.map waC) waR (List.range (L.map waC).length) o) (hK : 1 ≤ K) (i : Nat) (hi : i < (L.map waC).length) :
    (stF (L.map waC) K o).getD (i * 2 + 1) 0 = (stF (L.map waC) K o).getD (i * 2) 0 ∧ 0 ≤ (stF (L.map waC) K o).getD (i * 2) 0 ∧ (stF (L.map waC) K o).getD (i * 2) 0 ≤ 22 := by
  refine ⟨by rw [stF_lo, stF_hi, wa_same], ?_⟩
  rw [stF_lo]
  generalize hC : L.map waC = C at *
  have hnd : ((visL (coOf C) (loOf C) (List.replicate K 0) o).map (·.1)).Nodup := by rw [visL_fst]; exact (ho.1.nodup_iff).2 List.nodup_range
  have hlt : ∀ v ∈ visL (coOf C) (loOf C) (List.replicate K 0) o, v.1 < (List.replicate C.length (0 : Int)).length := fun v hv => by
    have : v.1 ∈ o := by rw [← visL_fst (coOf C) (loOf C) o (List.replicate K 0)]; exact List.mem_map.2 ⟨v, hv, rfl⟩
    rw [List.length_replicate]; exact List.mem_range.1 (ho.1.mem_iff.1 this)
  have hm : i ∈ (visL (coOf C) (loOf C) (List.replicate K 0) o).map (·.1) := by rw [visL_fst]; exact ho.1.mem_iff.2 (List.mem_range.2 hi)
  obtain ⟨v, hv, rfl⟩ := List.mem_map.1 hm
  rw [putTo_at _ _ hnd hlt v hv]
  have hb := vis_six o (List.replicate K 0) 0 (fun j hj => by
      simp only [List.length_replicate] at hj
      simp [List.getD_eq_getElem?_getD, hj]) (by simp; omega) (fun x hx => by
    have hx' : x < L.length := by have := List.mem_range.1 (ho.1.mem_iff.1 hx); rw [← hC, List.length_map] at this; exact this
    obtain ⟨⟨a1, a2⟩, ⟨b1, b2⟩, ⟨c1, c2⟩⟩ := hL _ (List.getElem_mem hx')
    have e : ctAt C x = waC L[x] := by rw [← hC]; exact wa_at (List.getElem?_eq_getElem hx')
    unfold coOf loOf
    rw [e]; simp only [waC]; omega) v hv
  have hl : o.length = C.length := by have h1 := ho.1.length_eq; rwa [List.length_range] at h1
  have hl2 : C.length ≤ 6 := by rw [← hC, List.length_map]; exact h6
  omega
/-- The sights. -/
def waS (C : List Ct) (F : List Int) (aw : Int) (k : Nat) : List Sg := (List.range k).map fun i => ⟨(ctAt C i).we, 60 * F.getD (i * 2) 0, aw⟩
theorem waS_succ (C : List Ct) (F : List Int) (aw : Int) (k : Nat) : waS C F aw (k + 1) = waS C F aw k ++ [⟨(ctAt C k).we, 60 * F.getD (k * 2) 0, aw⟩] := by simp [waS, List.range_succ]
theorem waS_len (C : List Ct) (F : List Int) (aw : Int) (k : Nat) : (waS C F aw k).length = k := by simp [waS]
/-- Whether a person cannot have been on the field at a minute, by the sights. -/
def waB (S : List Sg) (p m : Int) : Bool := S.any (wtB p m)
theorem waB_snoc (S : List Sg) (s : Sg) (p m : Int) : waB (S ++ [s]) p m = (waB S p m || wtB p m s) := by simp [waB]
theorem waB_nil (S : List Sg) (p m : Int) : wtL S p m = [] ↔ waB S p m = false := by
  unfold wtL waB wtTo
  rw [List.map_eq_nil_iff, List.filter_eq_nil_iff, List.any_eq_false]
  constructor
  · intro h s hs
    obtain ⟨i, hi, rfl⟩ := List.getElem_of_mem hs
    have := h i (List.mem_range.2 hi)
    simpa [wtAt, List.getElem?_eq_getElem hi] using this
  · intro h i hi
    have hi' := List.mem_range.1 hi
    have := h _ (List.getElem_mem hi')
    simpa [wtAt, List.getElem?_eq_getElem hi'] using this
/-- Whether a person can have been on the field in one of the first minutes. -/
def waCan (S : List Sg) (p gl : Int) (k : Nat) : Bool := (List.range k).any fun j : Nat => !(waB S p (gl + j))
theorem waCan_succ (S : List Sg) (p gl : Int) (k : Nat) : waCan S p gl (k + 1) = (waCan S p gl k || !(waB S p (gl + k))) := by
  simp [waCan, List.range_succ, List.any_append]
theorem wa_thieves {S : List Sg} {gl gh : Int} {N : Nat} (hN : (N : Int) = gh - gl + 1) (h1 : 1 ≤ N) {p : Nat} (hp : p < 4) : waCan S (p : Int) gl N = decide ((p : Int) ∈ natI (thTo S gl gh 4)) := by
  have hmem : (p : Int) ∈ natI (thTo S gl gh 4) ↔ fewW S p gl gh = [] := by
    unfold natI thTo
    simp only [List.mem_map, List.mem_filter, List.mem_range, List.isEmpty_iff]
    constructor
    · rintro ⟨q, ⟨-, hq⟩, e⟩
      have : q = p := by omega
      subst this; exact hq
    · intro h; exact ⟨p, ⟨hp, h⟩, rfl⟩
  have hcan : waCan S (p : Int) gl N = true ↔ fewW S p gl gh = [] := by
    rw [fewW_nil (by omega)]
    unfold waCan
    rw [List.any_eq_true]
    constructor
    · rintro ⟨j, hj, hb⟩
      have := List.mem_range.1 hj
      exact ⟨j, by omega, (waB_nil _ _ _).2 (by simpa using hb)⟩
    · rintro ⟨k, hk, hb⟩
      exact ⟨k, List.mem_range.2 (by omega), by rw [(waB_nil _ _ _).1 hb]; rfl⟩
  cases hc : waCan S (p : Int) gl N with
  | true => exact (decide_eq_true (hmem.2 (hcan.1 hc))).symm
  | false => exact (decide_eq_false (fun h => by rw [hcan.2 (hmem.1 h)] at hc; cases hc)).symm
end Go.Proofs.Ytdalilllakdamaa
