/-
  Len and Cut, the program's and the document's: how many signs there are, and the first of them. Condition: a text that is not too long.
-/
import Derived.Test.YtohidbkhccepnaaDoorShf
import Derived.Test.YtohidbkhccepnaaDoorTxB
namespace Go.Proofs
open Go Go.RowKit Sm Go.Lib
theorem Sm.Clone_any (s : ByteArray) (w : World) (hm : s.size ≤ 1000000) : Calls Tryd.prog 28 #[.string s] w fun e w' => e = .returned (.string s) ∧ Below w.heap.size w w' := by
  have h := Tryd.stringslite_Clone s w (by omega)
  go_enter Tryd.func28, Tryd.ntmps28
  go_wp2_with (go_at_call 40; (with_reducible refine h.mono ?_); rintro e w' ⟨rfl, hb⟩)
  go_ret
  exact ⟨rfl, hb⟩
/-- the first signs of a text -/
def Sm.cutS (s : ByteArray) (n : Int) : ByteArray := s.extract 0 (posK s (min n.toNat (cntS s)))
theorem Sm.cutS_size (s : ByteArray) (n : Int) : (cutS s n).size ≤ s.size := by
  unfold cutS
  simp
  omega
theorem Sm.signsC_len (s : ByteArray) : ∀ k, (signsC s k).length = k * 4
  | 0 => rfl
  | k + 1 => by
    rw [signsC, List.length_append, signsC_len s k]
    simp [signC]
    omega
theorem Sm.signsC_get (s : ByteArray) {j : Nat} : ∀ k i, j < k → i < 4 → (signsC s k)[j * 4 + i]? = (signC s j)[i]?
  | 0, _, h, _ => absurd h (by omega)
  | k + 1, i, h, hi => by
    rw [signsC]
    by_cases hj : j < k
    · rw [List.getElem?_append_left (by rw [signsC_len]; omega)]
      exact signsC_get s k i hj hi
    · obtain rfl : j = k := by omega
      rw [List.getElem?_append_right (by rw [signsC_len]; omega), signsC_len]
      congr 1
      omega
end Go.Proofs
