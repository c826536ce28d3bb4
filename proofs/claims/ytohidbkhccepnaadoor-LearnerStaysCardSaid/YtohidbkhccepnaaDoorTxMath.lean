/-
  The signs of a text: where each begins, how many there are; what each is, by the model's own reading. No condition.
-/
import Derived.Lib.DecodeN
import Derived.Lib.RuneCount
namespace Go.Proofs
open Go.Lib
theorem Sm.decodeN_width (n b0 b1 b2 b3 : Nat) (hn : 0 < n) : 1 ≤ (decodeN n b0 b1 b2 b3).2 ∧ (decodeN n b0 b1 b2 b3).2 ≤ n := by
  unfold decodeN
  repeat' split
  all_goals (constructor <;> simp only <;> omega)
theorem Sm.dec_width (s : ByteArray) (p : Nat) (h : p < s.size) : 1 ≤ (Utf8.decode s p).2 ∧ p + (Utf8.decode s p).2 ≤ s.size := by
  rw [decode_at]
  have := Sm.decodeN_width (s.size - p) (s.get! p).toNat (s.get! (p + 1)).toNat (s.get! (p + 2)).toNat (s.get! (p + 3)).toNat (by omega)
  omega
/-- where sign k begins -/
def Sm.posK (s : ByteArray) : Nat → Nat
  | 0 => 0
  | k + 1 => if posK s k < s.size then posK s k + (Utf8.decode s (posK s k)).2 else posK s k
theorem Sm.posK_le (s : ByteArray) : ∀ k, Sm.posK s k ≤ s.size
  | 0 => Nat.zero_le _
  | k + 1 => by
    have ih := posK_le s k
    unfold Sm.posK
    split
    · rename_i h
      exact (Sm.dec_width s _ h).2
    · exact ih
theorem Sm.posK_succ {s : ByteArray} {k : Nat} (h : Sm.posK s k < s.size) : Sm.posK s (k + 1) = Sm.posK s k + (Utf8.decode s (Sm.posK s k)).2 := by
  rw [Sm.posK, if_pos h]
theorem Sm.posK_step {s : ByteArray} {k : Nat} (h : Sm.posK s k < s.size) : Sm.posK s k < Sm.posK s (k + 1) := by
  rw [Sm.posK_succ h]
  have := (Sm.dec_width s _ h).1
  omega
theorem Sm.posK_ge (s : ByteArray) : ∀ k, Sm.posK s k < s.size → k ≤ Sm.posK s k
  | 0, _ => Nat.zero_le _
  | k + 1, h => by
    by_cases hk : Sm.posK s k < s.size
    · have := posK_ge s k hk
      have := Sm.posK_step hk
      omega
    · rw [Sm.posK, if_neg hk] at h
      omega
def Sm.cntF (s : ByteArray) : Nat → Nat → Nat
  | 0, k => k
  | f + 1, k => if Sm.posK s k < s.size then cntF s f (k + 1) else k
/-- how many signs -/
def Sm.cntS (s : ByteArray) : Nat := Sm.cntF s s.size 0
theorem Sm.cntF_spec (s : ByteArray) : ∀ f k, (∀ j, j < k → Sm.posK s j < s.size) → s.size ≤ Sm.posK s k + f → (∀ j, j < Sm.cntF s f k → Sm.posK s j < s.size) ∧ s.size ≤ Sm.posK s (Sm.cntF s f k)
  | 0, k, h, hs => ⟨h, by simpa [Sm.cntF] using hs⟩
  | f + 1, k, h, hs => by
    unfold Sm.cntF
    split
    · rename_i hk
      refine cntF_spec s f (k + 1) (fun j hj => ?_) ?_
      · by_cases e : j = k
        · exact e ▸ hk
        · exact h j (by omega)
      · have := Sm.posK_step hk
        omega
    · exact ⟨h, by omega⟩
theorem Sm.cntS_lt {s : ByteArray} {j : Nat} (h : j < Sm.cntS s) : Sm.posK s j < s.size := (Sm.cntF_spec s s.size 0 (fun _ h => by omega) (by omega)).1 j h
theorem Sm.cntS_end (s : ByteArray) : Sm.posK s (Sm.cntS s) = s.size := by
  have := (Sm.cntF_spec s s.size 0 (fun _ h => by omega) (by omega)).2
  have h2 := Sm.posK_le s (Sm.cntS s)
  unfold Sm.cntS at h2 ⊢
  omega
theorem Sm.posK_stay {s : ByteArray} {k : Nat} (h : ¬ Sm.posK s k < s.size) : ∀ j, Sm.posK s (k + j) = Sm.posK s k
  | 0 => rfl
  | j + 1 => by
    have ih := posK_stay h j
    rw [← Nat.add_assoc, Sm.posK, ih, if_neg h]
theorem Sm.posK_cnt {s : ByteArray} {k : Nat} (h : Sm.posK s k < s.size) : k < Sm.cntS s := by
  by_cases hk : k < Sm.cntS s
  · exact hk
  · exfalso
    have h1 := Sm.cntS_end s
    have h2 := Sm.posK_stay (s := s) (k := Sm.cntS s) (by omega) (k - Sm.cntS s)
    rw [show Sm.cntS s + (k - Sm.cntS s) = k by omega] at h2
    omega
theorem Sm.cntS_of {s : ByteArray} {k : Nat} (h : ¬ Sm.posK s k < s.size) (hj : ∀ j, j < k → Sm.posK s j < s.size) : k = Sm.cntS s := by
  rcases Nat.lt_trichotomy k (Sm.cntS s) with h1 | h1 | h1
  · exact absurd (Sm.cntS_lt h1) h
  · exact h1
  · have := hj _ h1
    have := Sm.cntS_end s
    omega
theorem Sm.cntS_le (s : ByteArray) : Sm.cntS s ≤ s.size := by
  by_cases h : Sm.cntS s = 0
  · omega
  · have h1 := Sm.cntS_lt (s := s) (j := Sm.cntS s - 1) (by omega)
    have h2 := Sm.posK_ge s _ h1
    omega
theorem Sm.count_from (s : ByteArray) : ∀ f k, k ≤ Sm.cntS s → s.size ≤ Sm.posK s k + f → Lib.runeCountFrom s f (Sm.posK s k) + k = Sm.cntS s
  | 0, k, hk, hs => by
    simp only [Lib.runeCountFrom]
    by_cases h : k < Sm.cntS s
    · have := Sm.cntS_lt h
      omega
    · omega
  | f + 1, k, hk, hs => by
    unfold Lib.runeCountFrom
    split
    · rename_i h
      have h1 := Sm.posK_cnt h
      have h2 := Sm.posK_step h
      have ih := count_from s f (k + 1) (by omega) (by omega)
      rw [Sm.posK_succ h] at ih
      omega
    · rename_i h
      by_cases h1 : k < Sm.cntS s
      · exact absurd (Sm.cntS_lt h1) h
      · omega
theorem Sm.count_eq (s : ByteArray) : Lib.runeCount s = Sm.cntS s := by
  have := Sm.count_from s s.size 0 (Nat.zero_le _) (by omega)
  simpa [Lib.runeCount, Sm.posK] using this
/-- what sign k is -/
def Sm.runeK (s : ByteArray) (k : Nat) : Nat := (Utf8.decode s (Sm.posK s k)).1
/-- is it a broken byte? -/
def Sm.brokeP (s : ByteArray) (p : Nat) : Bool := decide (128 ≤ (s.get! p).toNat ∧ (Utf8.decode s p).2 = 1)
/-- the document's sign: (0, 0) where none is -/
def Sm.signP (s : ByteArray) (p : Nat) : Nat × Nat := if Sm.brokeP s p then (0, 0) else Utf8.decode s p
theorem Sm.broke_rune {s : ByteArray} {p : Nat} (h : Sm.brokeP s p = true) : Utf8.decode s p = (65533, 1) := by
  unfold Sm.brokeP at h
  have h := of_decide_eq_true h
  rw [decode_at] at h ⊢
  unfold decodeN at h ⊢
  repeat' split
  all_goals first | rfl | (exfalso; revert h; repeat' split) <;> simp_all <;> omega
end Go.Proofs
