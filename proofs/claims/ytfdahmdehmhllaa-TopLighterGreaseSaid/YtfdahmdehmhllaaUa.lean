/- Plans of package stream: validPlan, openPlan, right, openRight, Goes. -/
import Derived.Test.YtfdahmdehmhllaaSj
namespace Go.Proofs.Ytfdahmdehmhllaa
open Go Go.RowKit Go.Shelf
attribute [local go_sem ↓] Go.wp_at_zero Go.wp_at_succ

theorem natEqT {a b : Nat} (h : a = b) : ((a : Int) == (b : Int)) = true := by rw [beq_iff_eq]; omega
theorem natEqF {a b : Nat} (h : ¬ a = b) : ((a : Int) == (b : Int)) = false := by rw [beq_eq_false_iff_ne]; omega
def vPlan (k : Int) (plan : List Int) (lo hi : Int) : Bool := inB lo hi (plan.length : Int) && plan.all (inB 0 k)

/-- Whether a plan has water enough in all truths. -/
def rightB (m : Ml) (F : List Sp) (plan : List Int) : Bool := decide ((lvOf Prod.fst m F plan).length = plan.length)
theorem vPlan_iff {k : Int} {plan : List Int} {lo hi : Int} : vPlan k plan lo hi = true ↔ (lo ≤ (plan.length : Int) ∧ (plan.length : Int) ≤ hi) ∧ plan.all (inB 0 k) = true := by simp only [vPlan, Bool.and_eq_true, inB_iff]
theorem plan8 {k : Int} {plan : List Int} (hk : k ≤ 8) (h : plan.all (inB 0 k) = true) : plan.all (inB 0 8) = true := by
  rw [List.all_eq_true] at *; intro x hx; have := inB_iff.1 (h x hx); exact inB_iff.2 (by omega)

def openR (m : Ml) (F : List Sp) (plan : List Int) (fv : Value) : Value := if rightB m F plan = true then .tuple #[.agg (vcells m fv), iv 0] else .tuple #[.agg zv, iv 9]
def goesErr (m : Ml) (F : List Sp) (plan : List Int) : Int := if rightB m F plan = true then 7 else 0
def goesHour (m : Ml) (F : List Sp) (plan : List Int) : Int := if rightB m F plan = true then 0 else ((lvOf Prod.fst m F plan).length : Int)
def goesSure (m : Ml) (F : List Sp) (plan : List Int) : Bool := if rightB m F plan = true then false else decide ((lvOf Prod.snd m F plan).length = (lvOf Prod.fst m F plan).length)

end Go.Proofs.Ytfdahmdehmhllaa
