/- The checks of package stream: mills, streams, plans. -/
import Derived.Test.YtfpbfhjfhfmanabOpo
namespace Go.Proofs.Ytfpbfhjfhfmanab
open Go Go.RowKit

/-- A mill. -/
structure Ml where
  (k t bl bh h nl nh : Int)
def encMl (m : Ml) : List Value := [iv m.k, iv m.t, iv m.bl, iv m.bh, iv m.h, iv m.nl, iv m.nh]
def vMill (m : Ml) : Bool := inB 1 8 m.k && (inB 0 100 m.t && (okSpan m.bl m.bh 0 5000 && (inB 0 500 m.h && okSpan m.nl m.nh 0 m.h)))

def vFlow (p : Sp) : Bool := okSpan p.1 p.2 0 500
def sChk (m : Ml) (F : List Sp) : Int :=
  if vMill m = true then (if 24 < F.length then 5 else if F.length = 0 then 7 else if F.all vFlow = true then 0 else 3) else 2
theorem sChk_zero {m : Ml} {F : List Sp} (h : sChk m F = 0) : vMill m = true ∧ F.length ≤ 24 ∧ 0 < F.length ∧ F.all vFlow = true := by
  unfold sChk at h
  split at h
  · split at h
    · omega
    · split at h
      · omega
      · split at h
        · exact ⟨by assumption, by omega, by omega, by assumption⟩
        · omega
  · omega

/-- The valley of a mill and a stream. -/
def vcells (m : Ml) (fv : Value) : Array Value := #[iv m.k, iv m.t, iv m.bl, iv m.bh, iv m.h, iv m.nl, iv m.nh, fv]
def zv : Array Value := #[iv 0, iv 0, iv 0, iv 0, iv 0, iv 0, iv 0, .slice none 0 0]
def openV (m : Ml) (F : List Sp) (fv : Value) : Array Value := if sChk m F = 0 then vcells m fv else zv

theorem vcells_one (m : Ml) (a : Option Addr) (n c : Nat) : (vcells m (.slice a n c)).all (·.oneCell') = true := by simp [vcells, Value.oneCell']
theorem zv_one : zv.all (·.oneCell') = true := by simp [zv, Value.oneCell']
end Go.Proofs.Ytfpbfhjfhfmanab
