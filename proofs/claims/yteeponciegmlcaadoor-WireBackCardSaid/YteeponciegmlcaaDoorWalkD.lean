/-
  What lay keeps, and boxes keep.
-/
import Derived.RangeFuncNested
import Derived.RangeFuncBound
import Derived.RangeFuncCalls
import Derived.RangeFuncLeaves
import Derived.Shelf.Abstract
import Derived.Shelf.RegionOpen
import Derived.WalkKit
import Derived.OwnWalkIn
import Derived.TacticsInMore
import Derived.LoopNIn
import Derived.LoopIn
import Derived.Outline
import Derived.LoopTactic
import Derived.OwnWalk
import Derived.Lib.Hide
import Derived.Test.YteeponciegmlcaaDoorWalkA
namespace Go.Proofs
open Go.RowKit Go.Shelf Sm
attribute [local go_sem] Oper.semAt_some
theorem Sm.keepsOthers_below {W W' : World} (h : Below W.heap.size W W') : KeepsOthers W W' := ⟨h.size, fun k _ hk _ => (h.block k (Array.getElem?_eq_some_iff.1 hk).1).trans hk⟩
theorem Sm.boxed_below {n B : Nat} {t : TypeId} {v : Value} {W W' : World} (hb : Boxed W B t v) (h : Below n W W') (hn : B < n) : Boxed W' B t v := (h.block B hn).trans hb
