/- Below of package cloth. -/
import Derived.Test.YtdalilllakdamaaFhr
namespace Go.Proofs.Ytdalilllakdamaa
open Go Go.RowKit Go.Shelf

theorem qs_lit (a b c : Tk) (mv : Value) : qs a b c mv = #[iv a.fl, iv a.fh, iv a.rl, iv a.rh, iv 0, mv, iv b.fl, iv b.fh, iv b.rl, iv b.rh, iv 1, mv, iv c.fl, iv c.fh, iv c.rl, iv c.rh, iv 2, mv] := by kernel_rfl
theorem qs_get (a b c : Tk) (ma : Option Addr) (mn mc : Nat) {k : Nat} (hk : k < 3) {j : Nat} (hj : j < 6) : (qs a b c (.slice ma mn mc))[k * 6 + j]? = (qcells (tk3 a b c k) (k : Int) (.slice ma mn mc))[j]? := by
  have hk' : k = 0 ∨ k = 1 ∨ k = 2 := by omega
  have hj' : j = 0 ∨ j = 1 ∨ j = 2 ∨ j = 3 ∨ j = 4 ∨ j = 5 := by omega
  rw [qs_lit]
  rcases hk' with rfl | rfl | rfl <;> rcases hj' with rfl | rfl | rfl | rfl | rfl | rfl <;> simp [qcells, tk3]
/-- The truths of quantity number k of a cloth of three tracks. -/
def trsT (T : List Tk) (M : List Ms) (k : Nat) : List (Int × Int) := match T with
  | [a, b, c] => trs (tk3 a b c k) (k : Int) M
  | _ => []
def belowErr (T : List Tk) (M : List Ms) (what limit : Int) : Int :=
  if opn T M ≠ 0 then opn T M else if inB 0 2 what = true then (if inB 0 2000 limit = true then 0 else 3) else 7
def belowS (T : List Tk) (M : List Ms) (what limit : Int) : Int := if belowErr T M what limit = 0 then firstHr (fun h => decide ((hourStr (trsT T M what.toNat) h).h ≤ limit)) else 0
def belowP (T : List Tk) (M : List Ms) (what limit : Int) : Int := if belowErr T M what limit = 0 then firstHr (fun h => decide ((hourStr (trsT T M what.toNat) h).l ≤ limit)) else 0

end Go.Proofs.Ytdalilllakdamaa
