/- Turns: when all are done. -/
import Derived.Test.YtdalilllakdamaaQo
namespace Go.Proofs.Ytdalilllakdamaa
open Go Go.RowKit Go.Shelf
attribute [local go_sem] Oper.semAt_some
attribute [local go_sem ↓] Go.wp_at_zero Go.wp_at_succ

theorem quIn_of {C : List Ct} {o : List Nat} {ca : Option Addr} {cc g oc base : Nat} {w w' : World} (hC : SliceOf encC 4 w (.slice ca C.length cc) C) (hb : Below w.heap.size w w') (ho : Owns encI 1 3 base w' (.slice (some ⟨g, 0, none⟩) o.length oc) (ordI o)) (hl : o.length ≤ 1000) : QuIn w' ca (some ⟨g, 0, none⟩) cc oc C o :=
  ⟨hC.below hb, Owns.slice ho encI_len (by rw [ordI_len]; omega)⟩
/-- What Ends returns. -/
def EndsRes (C : List Ct) (R : List Int) (k : Nat) (w : World) (e : Ending) (w' : World) : Prop :=
  ∃ o : List Nat, OrdC C R (List.range C.length) o ∧ e = .returned (.tuple #[.agg #[iv (endL (visL (coOf C) (loOf C) (List.replicate k 0) o)), iv (endL (visL (coOf C) (hiOf C) (List.replicate k 0) o))], iv 0]) ∧ Below w.heap.size w w'

end Go.Proofs.Ytdalilllakdamaa
