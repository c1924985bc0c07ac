/- TopTurnDry: plain facts. -/
import Derived.Test.YtkialkfplhhenaaRb
import Derived.Test.YtkialkfplhhenaaGr
import Derived.Test.YtkialkfplhhenaaGn
import Derived.Test.YtkialkfplhhenaaQv
import Derived.Test.YtkialkfplhhenaaDa
namespace Go.Proofs.Ytkialkfplhhenaa
open Go Go.RowKit

/-- A cloth of the law: three bytes. -/
abbrev B3 := Int × Int × Int
def tdC (p : B3) : Ct := ⟨p.1 % 2, p.1 / 2 % 3, 1 + p.2.1 % 4, 1 + p.2.1 % 4 + p.2.1 / 16 % 3⟩
def tdT (p : B3) : Tn := ((50, 50), (p.2.2 / 8, p.2.2 / 8 + 3))
def B3ok (p : B3) : Prop := (0 ≤ p.1 ∧ p.1 ≤ 255) ∧ (0 ≤ p.2.1 ∧ p.2.1 ≤ 255) ∧ (0 ≤ p.2.2 ∧ p.2.2 ≤ 255)
theorem td_chk {L : List B3} (hL : ∀ p ∈ L, B3ok p) (h4 : L.length ≤ 4) : tChk (L.map tdC) k4R = 0 := by
  have h1 : vRanks k4R = true := by decide
  have h2 : (L.map tdC).all (vCloth k4R.length) = true := by
    rw [List.all_eq_true]; intro c hc
    obtain ⟨p, hp, rfl⟩ := List.mem_map.1 hc
    obtain ⟨⟨a1, a2⟩, ⟨b1, b2⟩, -⟩ := hL p hp
    have hk : (k4R.length : Int) = 2 := rfl
    simp only [vCloth, tdC, Bool.and_eq_true, inB_iff, okSpan_iff, hk]
    omega
  unfold tChk
  rw [if_pos h1, if_neg (by rw [List.length_map]; omega), if_pos h2]
theorem td_tn {p : B3} (h : B3ok p) : vTn (tdT p) = true := by
  obtain ⟨-, -, ⟨a1, a2⟩⟩ := h
  simp only [vTn, tdT, Bool.and_eq_true, okSpan_iff]; omega
theorem td_fd {L : List B3} {S : List Sp} {v0 v1 v2 v3 : Int} {n : Nat} (hL : ∀ p ∈ L, B3ok p) (h4 : L.length ≤ 4) (hn : n ≤ 2) (hv2 : 0 ≤ v2 ∧ v2 ≤ 255) (hv3 : 0 ≤ v3 ∧ v3 ≤ 255) (hs : 1 ≤ S.length ∧ S.length ≤ 16) (hv : S.all vWth = true) :
    FdOk (L.map tdT) (frL v2 v3 (n + 1)) (v0 % 20) (v1 % 120) S := by
  refine ⟨?_, by omega, hv⟩
  have e1 : (L.map tdT).all vTn = true := by
    rw [List.all_eq_true]; intro c hc
    obtain ⟨p, hp, rfl⟩ := List.mem_map.1 hc
    exact td_tn (hL p hp)
  have e2 : (frL v2 v3 (n + 1)).all (inB 1 2000) = true := by
    rw [List.all_eq_true]; intro c hc
    simp only [frL, List.mem_map] at hc
    obtain ⟨i, -, rfl⟩ := hc
    rw [inB_iff]; unfold frI; split <;> omega
  have e3 : vFd ⟨L.map tdT, frL v2 v3 (n + 1), v0 % 20, v1 % 120⟩ = true := by
    simp only [vFd, Bool.and_eq_true]
    exact ⟨e1, e2, inB_iff.2 (by omega), inB_iff.2 (by omega)⟩
  have e4 : inB 1 3 ((frL v2 v3 (n + 1)).length : Int) = true := by rw [frL_len]; exact inB_iff.2 (by omega)
  unfold fdChk
  rw [if_neg (by simp only [List.length_map]; omega), if_pos e4, if_pos e3]
/-- When each cloth is done at the latest. -/
def tdD (C : List Ct) (K : Nat) (o : List Nat) (i : Nat) : Int := (stF C K o).getD (i * 2 + 1) 0 + hiOf C i
theorem td_facts {C : List Ct} {o : List Nat} {K : Nat} (hc : tChk C k4R = 0) (ho : OrdC C k4R (List.range C.length) o) (hK : 1 ≤ K ∧ K ≤ 5) :
    (∀ i, i < C.length → (0 ≤ (stF C K o).getD (i * 2 + 1) 0 ∧ (stF C K o).getD (i * 2 + 1) 0 ≤ 1000000) ∧ (1 ≤ hiOf C i ∧ hiOf C i ≤ 20) ∧ tdD C K o i ≤ endL (visL (coOf C) (hiOf C) (List.replicate K 0) o)) ∧
      lastTo (tdD C K o) C.length = endL (visL (coOf C) (hiOf C) (List.replicate K 0) o) := by
  obtain ⟨l1, l2⟩ := last_end (coOf C) (hiOf C) (List.replicate K 0) (List.replicate C.length 0) o C.length ho.1 (by simp)
  have hq := day_qu hc ho ⟨hK.1, by omega⟩
  have hfun : tdD C K o = fun i => (putTo (visL (coOf C) (hiOf C) (List.replicate K 0) o) (List.replicate C.length 0)).getD i 0 + hiOf C i := by
    funext i; unfold tdD; rw [stF_hi]
  refine ⟨fun i hi => ⟨?_, ?_, ?_⟩, by rw [hfun]; exact l2⟩
  · rw [stF_hi]
    have hnd : ((visL (coOf C) (hiOf C) (List.replicate K 0) o).map (·.1)).Nodup := by rw [visL_fst]; exact (ho.1.nodup_iff).2 List.nodup_range
    have hlt : ∀ v ∈ visL (coOf C) (hiOf C) (List.replicate K 0) o, v.1 < (List.replicate C.length (0 : Int)).length := fun v hv => by
      have : v.1 ∈ o := by rw [← visL_fst (coOf C) (hiOf C) o (List.replicate K 0)]; exact List.mem_map.2 ⟨v, hv, rfl⟩
      rw [List.length_replicate]; exact List.mem_range.1 (ho.1.mem_iff.1 this)
    have hm : i ∈ (visL (coOf C) (hiOf C) (List.replicate K 0) o).map (·.1) := by rw [visL_fst]; exact ho.1.mem_iff.2 (List.mem_range.2 hi)
    obtain ⟨v, hv, rfl⟩ := List.mem_map.1 hm
    rw [putTo_at _ _ hnd hlt v hv]
    have hb := vis_bd o (List.replicate K 0) 0 (FrOk.zero K) (by simp; omega) (fun x hx => by
      obtain ⟨k1, k2, k3, k4, k5, k6, k7, k8⟩ := hq.ok x (hq.lt x hx)
      exact ⟨⟨k3, k4⟩, by unfold hiOf; omega, by unfold hiOf; omega⟩) v hv
    have hl : o.length ≤ 10 := by have h1 := ho.1.length_eq; have h2 := (tChk_zero hc).2.1; rw [List.length_range] at h1; omega
    refine ⟨hb.2.1, ?_⟩
    have := hb.2.2.1
    omega
  · have := day_ok hc hi
    unfold hiOf; omega
  · rw [hfun]; exact l1 i hi
theorem td_ord {C : List Ct} {o o' : List Nat} (hc : tChk C k4R = 0) (h : OrdC C k4R (List.range C.length) o) (h' : OrdC C k4R (List.range C.length) o') : o = o' :=
  OrdC.one h h' k4Rk (day_we hc) (fun _ hx => List.mem_range.1 hx) List.nodup_range
theorem td_hi {L : List B3} {i : Nat} {p : B3} (h : L[i]? = some p) : hiOf (L.map tdC) i = 1 + p.2.1 % 4 + p.2.1 / 16 % 3 := by
  simp [hiOf, ctAt, List.getD_eq_getElem?_getD, h, tdC]
end Go.Proofs.Ytkialkfplhhenaa
