/-
  The contract of num: the error's number.
-/
import Derived.Test.YteeponciegmlcaaDoorWalkD
namespace Go.Proofs
open Go.RowKit Go.Shelf Sm
set_option maxHeartbeats 400000 in
theorem Sm.num_any (n : Int) (w : World) : Calls Tryd.prog 15 #[.int .i64 n] w fun e w' => e = .returned (.int .i64 n) ∧ w = w' := by
  go_enter Tryd.func15, Tryd.ntmps15
  go_wp2
  go_ret
  exact ⟨rfl, rfl⟩
