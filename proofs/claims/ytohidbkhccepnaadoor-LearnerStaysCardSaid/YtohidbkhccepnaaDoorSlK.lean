/-
  slots: the document's answers: Right, Place, Slot, check, Majority, Owner, Turn. Conditions: as each theorem names them.
-/
import Derived.Test.YtohidbkhccepnaaDoorSlE
namespace Go.Proofs
open Go Go.RowKit Sm Go.Lib
attribute [local go_sem] Oper.semAt_some
/-- is a place one of a choir's -/
def Sm.rpB (c p : Int) : Bool := decide (0 ≤ p) && decide (p < c)
end Go.Proofs
