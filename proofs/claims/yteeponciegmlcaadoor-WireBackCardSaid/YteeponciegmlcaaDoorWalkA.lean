/-
  Contracts of byX, of the reference word by x and of the reference product, at every word.
-/
import Derived.WalkKit
import Derived.Outline
import Derived.LoopTactic
import Derived.OwnWalk
import Derived.Lib.Hide
import Derived.Test.YteeponciegmlcaaDoorProg
import Derived.Test.YteeponciegmlcaaDoorVals
namespace Go.Proofs
open Go.RowKit Sm
theorem Sm.ret_u32 {a b : Int} (h : a = b) : Ending.returned (.int .u32 a) = .returned (.int .u32 b) := by rw [h]
set_option maxHeartbeats 400000 in
theorem Sm.times_any (x : BitVec 32) (w : World) : Calls Tryd.prog 77 #[.int .u32 (iv x)] w fun e w' => e = .returned (.int .u32 (iv (byx x))) ∧ w = w' := by
  have h0 := iv_lo x
  have h1 := iv_hi x
  have ho := odd_bit x
  cases hb : x.getLsbD 0 <;> rw [hb] at ho
  · go_enter Tryd.func77, Tryd.ntmps77
    go_wp2
    go_ret
    exact ⟨ret_u32 (byx_even hb), rfl⟩
  · go_enter Tryd.func77, Tryd.ntmps77
    go_wp2
    go_ret
    exact ⟨ret_u32 (byx_odd hb), rfl⟩