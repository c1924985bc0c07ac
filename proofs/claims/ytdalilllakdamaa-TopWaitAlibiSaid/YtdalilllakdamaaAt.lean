/- At and Rates of package cloth. -/
import Derived.Test.YtdalilllakdamaaMb
namespace Go.Proofs.Ytdalilllakdamaa
open Go Go.RowKit Go.Shelf

def hasAllT (T : List Tk) (M : List Ms) : Bool := match T with
  | [a, b, c] => hasAll a b c M
  | _ => false
/-- The error of a cloth, also if it has no truth. -/
def opn (T : List Tk) (M : List Ms) : Int := if check T M ≠ 0 then check T M else if hasAllT T M = true then 0 else 9
def openQ (T : List Tk) (M : List Ms) (mv : Value) : Array Value := match T with
  | [a, b, c] => if opn T M = 0 then qs a b c mv else zqs
  | _ => zqs
theorem openQ_bad {T : List Tk} {M : List Ms} (mv : Value) (h : opn T M ≠ 0) : openQ T M mv = zqs := by
  unfold openQ; split
  · rw [if_neg h]
  · rfl
theorem opn_zero {T : List Tk} {M : List Ms} (h : opn T M = 0) : ∃ a b c, T = [a, b, c] ∧ T.all vTrack = true ∧ M.length ≤ 8 ∧ M.all vMeas = true ∧ hasAll a b c M = true := by
  unfold opn at h
  split at h
  · omega
  · rename_i hc
    obtain ⟨a, b, c, rfl, h1, h2, h3⟩ := check_zero (show check T M = 0 by simpa using hc)
    split at h
    · rename_i h4; exact ⟨a, b, c, rfl, h1, h2, h3, h4⟩
    · omega
def spansL (f : Int × Int → Int) (T : List Tk) (M : List Ms) : List Sp := match T with
  | [a, b, c] => spansTo f a b c M 3
  | _ => []
def atErr (T : List Tk) (M : List Ms) (hour : Int) : Int := if opn T M ≠ 0 then opn T M else if inB 0 48 hour = true then 0 else 3
def atL (T : List Tk) (M : List Ms) (hour : Int) : List Sp := if atErr T M hour = 0 then spansL (fun p => aft p.1 p.2 hour.toNat) T M else []
def ratesL (T : List Tk) (M : List Ms) : List Sp := if opn T M = 0 then spansL (fun p => p.2) T M else []
/-- A list of spans, and an error. -/
def SpansRes (L : List Sp) (err : Int) (w : World) (e : Ending) (w' : World) : Prop := ∃ v, e = .returned (.tuple #[v, iv err]) ∧ Owns encS 2 29 w.heap.size w' v L ∧ Below w.heap.size w w'
theorem Owns.base {α : Type} {enc : α → List Value} {sz e base base' : Nat} {w : World} {v : Value} {xs : List α} (h : Owns enc sz e base w v xs) (hb : base' ≤ base) : Owns enc sz e base' w v xs := by
  refine ⟨h.1, ?_⟩
  rcases h.2 with h0 | ⟨g, cap, cur, h1, h2, h3⟩
  · exact .inl h0
  · exact .inr ⟨g, cap, cur, h1, Nat.le_trans hb h2, h3⟩

end Go.Proofs.Ytdalilllakdamaa
