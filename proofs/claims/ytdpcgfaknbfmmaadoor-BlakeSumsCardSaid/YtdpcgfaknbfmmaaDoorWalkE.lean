/-
  The contract of word: four bytes read as a word.
-/
import Derived.Test.YtdpcgfaknbfmmaaDoorWalkA
import Derived.Test.YtdpcgfaknbfmmaaDoorArr
namespace Go.Proofs
open Go.RowKit Sm
/-- a word out of four bytes, as far as they have come -/
def Sm.wordF (f : Nat → BitVec 8) : Nat → BitVec 32
  | 0 => 0#32
  | k + 1 => wordF f k ||| (((f k).setWidth 32) <<< (8 * k))
theorem Sm.byte_iv (c : BitVec 8) : 0 ≤ iv (c.setWidth 32) ∧ iv (c.setWidth 32) < 256 := by
  rw [← ib_iv]; exact ⟨ib_lo c, ib_hi c⟩
theorem Sm.shl_small (x : BitVec 32) (k : Nat) (m : Int) (h : (2 : Int) ^ k = m) (hb : iv x * m < 4294967296) : iv x * m = iv (x <<< k) := by
  rw [← shl_mod x k m h, Int.emod_eq_of_lt _ hb]
  have h0 := iv_lo x
  have : 0 ≤ m := by rw [← h]; exact Int.le_of_lt (Int.pow_pos (by decide))
  exact Int.mul_nonneg h0 this
set_option maxHeartbeats 1000000 in
theorem Sm.word_any (f : Nat → BitVec 8) (g off cap : Nat) (w : World) (h : ∀ k, k < 4 → w.cell? ⟨g, off + k, none⟩ = some (.int .u8 (ib (f k)))) :
    Calls Tryd.prog 42 #[.slice (some ⟨g, off, none⟩) 4 cap] w fun e w' => e = .returned (.int .u32 (iv (wordF f 4))) ∧ w = w' := by
  have h0 := h 0 (by decide)
  have h1 := h 1 (by decide)
  have h2 := h 2 (by decide)
  have h3 := h 3 (by decide)
  rw [ib_iv] at h0 h1 h2 h3
  obtain ⟨b0, c0⟩ := byte_iv (f 0)
  obtain ⟨b1, c1⟩ := byte_iv (f 1)
  obtain ⟨b2, c2⟩ := byte_iv (f 2)
  obtain ⟨b3, c3⟩ := byte_iv (f 3)
  clear h
  rw [Nat.add_zero] at h0
  go_enter Tryd.func42, Tryd.ntmps42
  go_wp2
  go_loop [3, 9] (fun v i => ∃ k : Nat, k ≤ 4 ∧ i = .int .i64 (k : Int) ∧ v = .int .u32 (iv (wordF f k))) (fun _ i => 4 - (intOf i).toNat)
  case atStart => exact ⟨0, Nat.zero_le _, rfl, rfl⟩
  case round =>
    obtain ⟨k, hk, rfl, rfl⟩ := hrel
    have : k = 0 ∨ k = 1 ∨ k = 2 ∨ k = 3 ∨ k = 4 := by omega
    rcases this with rfl | rfl | rfl | rfl | rfl
    · go_wp2
      refine ⟨⟨1, by omega, rfl, congrArg (Value.int .u32) ?_⟩, by simp [intOf]⟩
      rw [bits_or]
      show iv (wordF f 0 ||| _) = iv (wordF f 0 ||| _)
      simp
    · go_wp2
      refine ⟨⟨2, by omega, rfl, congrArg (Value.int .u32) ?_⟩, by simp [intOf]⟩
      rw [shl_small _ 8 _ (by decide) (by omega), bits_or]
      rfl
    · go_wp2
      refine ⟨⟨3, by omega, rfl, congrArg (Value.int .u32) ?_⟩, by simp [intOf]⟩
      rw [shl_small _ 16 _ (by decide) (by omega), bits_or]
      rfl
    · go_wp2
      refine ⟨⟨4, by omega, rfl, congrArg (Value.int .u32) ?_⟩, by simp [intOf]⟩
      rw [shl_small _ 24 _ (by decide) (by omega), bits_or]
      rfl
    · go_wp2
      go_ret
      exact ⟨rfl, rfl⟩
end Go.Proofs
