/-
  learner: the walk of LearnerStays. Conditions: as the theorem names them.
-/
import Derived.Test.YtohidbkhccepnaaDoorLeJ
import Derived.Test.YtohidbkhccepnaaDoorLeL
namespace Go.Proofs
open Go Go.RowKit Sm Go.Lib
theorem Sm.stays_law (c s0 : Int) (A : Option Addr) (n cap : Nat) (xs : List XV) (w : World) (hn : xs.length = n) (hnc : n ≤ cap) (hc9 : cap ≤ 9223372036854775807) (hx : RdX w A xs) (hcm : ∀ y ∈ xs, XV.came y) (hL : LaysT w) :
    Calls Tryd.prog 3 #[.int .i64 c, .int .i64 s0, .slice A n cap] w fun e w' => e = .returned (.bool true) ∧ Below w.heap.size w w' := by
  cases hf : fewB xs 40 with
  | false => exact stays_many c s0 A n cap xs w hn hnc hc9 hx hcm hL works_any hf
  | true =>
    by_cases hv : chB c = true ∧ slB s0 = true
    · exact stays_good c s0 A n cap xs w hn hnc hc9 hx hcm hL works_any hf hv
    · exact stays_err c s0 A n cap xs w hn hnc hc9 hx hcm hL works_any hf hv
end Go.Proofs
