/-
  The contracts of the document's more and sign: the sign with which bytes begin. Condition: there is a byte.
-/
import Derived.WalkKit
import Derived.WalkSpells
import Derived.Deep.QuietTactic
import Derived.BigQuiet
import Derived.Test.YtohidbkhccepnaaDoorBut
import Derived.Test.YtohidbkhccepnaaDoorTxMath
import Derived.Test.YtohidbkhccepnaaDoorProg
namespace Go.Proofs
open Go Go.RowKit Sm Go.Lib
theorem Sm.byte_at (s : ByteArray) (i : Nat) (h : i < s.size) (w : World) : (Instr.index 9 (.string s) (.int .i64 (i : Int))).run Tryd.prog w = .ok (.int .u8 ((s.get! i).toNat : Int)) w := by
  rw [run_index_string _ _ _ _ _ Tryd.underlying9, dif_pos ⟨by omega, by omega⟩]
  have e : (s[(i : Int).toNat]'(by simpa using h)) = s.get! i := by
    simp only [Int.toNat_natCast]
    cases s with
    | mk a =>
      show a[i] = a[i]!
      rw [getElem!_pos a i h]
  rw [e]
theorem Sm.below_drewN (w : World) (n : Nat) : Below w.heap.size w (w.drewN n) := ⟨rfl, rfl, rfl, Nat.le_refl _, fun _ _ => rfl⟩
/-- the document's sign, of the numbers -/
def Sm.signN (n b0 b1 b2 b3 : Nat) : Nat × Nat := if 128 ≤ b0 ∧ (decodeN n b0 b1 b2 b3).2 = 1 then (0, 0) else decodeN n b0 b1 b2 b3
theorem Sm.signP_eq (s : ByteArray) (p : Nat) : signP s p = signN (s.size - p) (s.get! p).toNat (s.get! (p + 1)).toNat (s.get! (p + 2)).toNat (s.get! (p + 3)).toNat := by
  unfold signP signN brokeP
  rw [decode_at]
  by_cases h : 128 ≤ (s.get! p).toNat ∧ (decodeN (s.size - p) (s.get! p).toNat (s.get! (p + 1)).toNat (s.get! (p + 2)).toNat (s.get! (p + 3)).toNat).2 = 1
  · rw [if_pos h, decide_eq_true h, if_pos rfl]
  · rw [if_neg h, decide_eq_false h]
    simp
end Go.Proofs
