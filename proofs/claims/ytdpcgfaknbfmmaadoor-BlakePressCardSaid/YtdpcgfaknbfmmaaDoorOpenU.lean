/-
  Opening of a number of 64 bits without a sign. Condition: what the frame says of an argument that can be read.
-/
import Derived.Test.YtdpcgfaknbfmmaaDoorOpenB
namespace Go.Proofs.YtdpcgfaknbfmmaaDoor
open Go Go.ChangeShapes Go.WideShapes Go.ChangeAt Go.WideMaps Go.WideElems Go.RowKit Sm
theorem toU64 {n : Int} (h : (Lit.int .u64 n).wf = true) : ∃ m : Nat, n = (m : Int) ∧ m < 18446744073709551616 := by
  simp [Lit.wf, IntKind.min, IntKind.max, IntKind.signed, IntKind.bits] at h
  refine ⟨n.toNat, ?_, ?_⟩ <;> omega
end Go.Proofs.YtdpcgfaknbfmmaaDoor
