/-
  The walk of the law BlakeCuts at every size, key, bytes and cuts: the two ways joined.
-/
import Derived.Test.YtfieedjcpgjphaaDoorLawB
namespace Go.Proofs
open Go.RowKit Sm
theorem Sm.cuts_law (size one two : Int) (n1 c1 n2 c2 : Nat) (A1 A2 : Option Addr) (key b : List (BitVec 8)) (w : World) (hk : key.length = n1) (hb : b.length = n2) (g2 : n2 ≤ c2) (m2 : c2 ≤ 9223372036854775807)
    (hr1 : Rd w w.heap.size A1 key) (hr2 : Rd w w.heap.size A2 b) (ht : Tabs w) :
    Calls Tryd.prog 9 #[.int .i64 size, .slice A1 n1 c1, .slice A2 n2 c2, .int .i64 one, .int .i64 two] w fun e w' => e = .returned (.bool true) ∧ Below w.heap.size w w' := by
  by_cases h : 600 < n2 ∨ 32 < n1 ∨ size < 1 ∨ 32 < size
  · exact cuts_no size one two n1 c1 n2 c2 A1 A2 w ht h
  · obtain ⟨sz, rfl⟩ : ∃ sz : Nat, size = (sz : Int) := ⟨size.toNat, by omega⟩
    exact cuts_yes sz one two n1 c1 n2 c2 A1 A2 key b w (by omega) (by omega) hk (by omega) hb (by omega) g2 m2 hr1 hr2 ht
end Go.Proofs
