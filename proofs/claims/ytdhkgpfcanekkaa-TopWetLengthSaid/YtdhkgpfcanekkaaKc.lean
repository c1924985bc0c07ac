/- lay of package stock: how often each part was beaten, hour by hour, as a row of 121 cells. -/
import Derived.Test.YtdhkgpfcanekkaaKb
import Derived.Test.YtdhkgpfcanekkaaMa
namespace Go.Proofs.Ytdhkgpfcanekkaa
open Go Go.RowKit

/-- The part that is beaten in an hour. -/
def hitI (n : Nat) (c : Fe) (h : Nat) : Nat := ((c.start + (h : Int) / c.turn) % (n : Int)).toNat
/-- For how many of the first hours a part is beaten. -/
def shr (n : Nat) (c : Fe) : Nat → Nat → Nat
  | 0, _ => 0
  | h + 1, p => shr n c h p + (if p = hitI n c h then 1 else 0)
theorem shr_le (n : Nat) (c : Fe) (p : Nat) : ∀ h, shr n c h p ≤ h
  | 0 => Nat.le_refl _
  | h + 1 => by unfold shr; have := shr_le n c p h; split <;> omega
def fcell (c : Fe) (pv mv : Value) (n k i : Nat) : Value :=
  if i < 10 then (stcells c pv mv).getD i (iv 0) else iv (if (i - 10) / 3 ≤ k then (shr n c ((i - 10) / 3) ((i - 10) % 3) : Int) else 0)
def frow (c : Fe) (pv mv : Value) (n k : Nat) : Array Value := Array.ofFn (n := 121) fun i => fcell c pv mv n k i.val
theorem frow_size (c : Fe) (pv mv : Value) (n k : Nat) : (frow c pv mv n k).size = 121 := by simp [frow]
theorem frow_get (c : Fe) (pv mv : Value) (n k i : Nat) : (frow c pv mv n k)[i]? = if i < 121 then some (fcell c pv mv n k i) else none := by
  simp only [frow, Array.getElem?_ofFn]
  split <;> rfl
theorem frow_head (c : Fe) (pv mv : Value) (n k i : Nat) {v : Value} (h : (stcells c pv mv)[i]? = some v) : (frow c pv mv n k)[i]? = some v := by
  have hi : i < 10 := (List.getElem?_eq_some_iff.1 h).1
  rw [frow_get, if_pos (by omega), fcell, if_pos hi, List.getD_eq_getElem?_getD, h]; rfl
theorem frow_at (c : Fe) (pv mv : Value) (n k h p : Nat) (hh : h ≤ 36) (hp : p < 3) : (frow c pv mv n k)[10 + h * 3 + p]? = some (iv (if h ≤ k then (shr n c h p : Int) else 0)) := by
  rw [frow_get, if_pos (by omega), fcell, if_neg (by omega)]
  have e1 : (10 + h * 3 + p - 10) / 3 = h := by omega
  have e2 : (10 + h * 3 + p - 10) % 3 = p := by omega
  rw [e1, e2]
theorem frow_one (c : Fe) (pa ma : Option Addr) (pn pc mn mc n k : Nat) : (frow c (.slice pa pn pc) (.slice ma mn mc) n k).all (·.oneCell') = true := by
  rw [Array.all_eq_true]
  intro i hi
  have h := frow_get c (.slice pa pn pc) (.slice ma mn mc) n k i
  rw [Array.getElem?_eq_getElem hi] at h
  rw [frow_size] at hi
  rw [if_pos hi] at h
  rw [Option.some.inj h, fcell]
  split
  · rename_i h10
    have : ∀ j, j < 10 → ((stcells c (.slice pa pn pc) (.slice ma mn mc)).getD j (iv 0)).oneCell' = true := by
      intro j hj
      rcases j with _ | _ | _ | _ | _ | _ | _ | _ | _ | _ | j
      all_goals first | rfl | omega
    exact this i h10
  · rfl
theorem frow_step (c : Fe) (pv mv : Value) (n k : Nat) : (((frow c pv mv n k).setIfInBounds (10 + (k + 1) * 3) (iv (shr n c (k + 1) 0))).setIfInBounds (10 + (k + 1) * 3 + 1) (iv (shr n c (k + 1) 1))).setIfInBounds (10 + (k + 1) * 3 + 2) (iv (shr n c (k + 1) 2)) = frow c pv mv n (k + 1) := by
  apply Array.ext_getElem?
  intro i
  simp only [Array.getElem?_setIfInBounds, Array.size_setIfInBounds, frow_get, frow_size]
  have key : ∀ j, j < 3 → i = 10 + (k + 1) * 3 + j → fcell c pv mv n (k + 1) i = iv (shr n c (k + 1) j) := by
    intro j hj e
    have e1 : (i - 10) / 3 = k + 1 := by omega
    have e2 : (i - 10) % 3 = j := by omega
    rw [fcell, if_neg (by omega), e1, e2, if_pos (Nat.le_refl _)]
  have other : ¬ (i = 10 + (k + 1) * 3 ∨ i = 10 + (k + 1) * 3 + 1 ∨ i = 10 + (k + 1) * 3 + 2) → fcell c pv mv n k i = fcell c pv mv n (k + 1) i := by
    intro hne
    unfold fcell
    split
    · rfl
    · by_cases hle : (i - 10) / 3 ≤ k
      · rw [if_pos hle, if_pos (by omega)]
      · rw [if_neg hle, if_neg (by omega)]
  by_cases hi : i < 121
  · by_cases h2 : 10 + (k + 1) * 3 + 2 = i
    · rw [if_pos h2, if_pos (by omega), if_pos hi, key 2 (by omega) h2.symm]
    · rw [if_neg h2]
      by_cases h1 : 10 + (k + 1) * 3 + 1 = i
      · rw [if_pos h1, if_pos (by omega), if_pos hi, key 1 (by omega) h1.symm]
      · rw [if_neg h1]
        by_cases h0 : 10 + (k + 1) * 3 = i
        · rw [if_pos h0, if_pos (by omega), if_pos hi, key 0 (by omega) (by omega)]
        · rw [if_neg h0, if_pos hi, if_pos hi, other (by omega)]
  · rw [if_neg hi, if_neg hi]
    repeat' split
    all_goals first | rfl | omega

theorem sinfoF (c : Fe) (pv mv : Value) (n k : Nat) : (Try.prog.info? 135).map (·.size) = some (frow c pv mv n k).size := by rw [frow_size]; kernel_rfl
theorem builtF0 (c : Fe) (pa ma : Option Addr) (pn pc mn mc : Nat) : Try.prog.built 135 [(0, .agg (stcells c (.slice pa pn pc) (.slice ma mn mc)).toArray)] = some ((stcells c (.slice pa pn pc) (.slice ma mn mc)).toArray ++ Array.replicate 111 (iv 0)) := by kernel_rfl
theorem builtF (c : Fe) (pa ma : Option Addr) (pn pc mn mc n : Nat) : Try.prog.built 135 [(0, .agg (stcells c (.slice pa pn pc) (.slice ma mn mc)).toArray)] = some (frow c (.slice pa pn pc) (.slice ma mn mc) n 0) := by
  have h : frow c (.slice pa pn pc) (.slice ma mn mc) n 0 = (stcells c (.slice pa pn pc) (.slice ma mn mc)).toArray ++ Array.replicate 111 (iv 0) := by
    apply Array.ext_getElem?
    intro i
    rw [frow_get]
    by_cases h10 : i < 10
    · rw [if_pos (by omega), fcell, if_pos h10, Array.getElem?_append_left (by simp [stcells]; omega), List.getD_eq_getElem?_getD]
      have : i < (stcells c (.slice pa pn pc) (.slice ma mn mc)).length := by simp [stcells]; omega
      simp [List.getElem?_eq_getElem this]
    · rw [Array.getElem?_append_right (by simp [stcells]; omega), Array.getElem?_replicate]
      have hsz : (stcells c (.slice pa pn pc) (.slice ma mn mc)).toArray.size = 10 := by simp [stcells]
      rw [hsz]
      by_cases h : i < 121
      · rw [if_pos h, if_pos (by omega), fcell, if_neg h10]
        split
        · rename_i h0
          have : (i - 10) / 3 = 0 := by omega
          rw [this]; rfl
        · rfl
      · rw [if_neg h, if_neg (by omega)]
  rw [h]; exact builtF0 c pa ma pn pc mn mc
end Go.Proofs.Ytdhkgpfcanekkaa
