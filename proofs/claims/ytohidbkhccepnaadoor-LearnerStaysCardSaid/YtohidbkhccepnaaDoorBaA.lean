/-
  ballot: which of two numbers, of two ballots is less; the document's answer. Conditions: as each theorem names them.
-/
import Derived.Deep.RegionWith
import Derived.Deep.RegionHeldLaw
import Derived.Deep.CutRange
import Derived.Deep.DeepCutAuto
import Derived.Deep.QuietTactic
import Derived.BigQuiet
import Derived.Test.YtohidbkhccepnaaDoorSlK
namespace Go.Proofs
open Go Go.RowKit Sm Go.Lib
attribute [local go_sem] Oper.semAt_some
/-- which of two numbers is less -/
def Sm.cmpI (x y : Int) : Int := if x < y then -1 else if y < x then 1 else 0
/-- the first of two numbers that is not nought -/
def Sm.orI (x y : Int) : Int := if x = 0 then y else x
/-- which of two ballots is less -/
def Sm.cmpB (r p r2 p2 : Int) : Int := orI (cmpI r r2) (cmpI p p2)
end Go.Proofs
