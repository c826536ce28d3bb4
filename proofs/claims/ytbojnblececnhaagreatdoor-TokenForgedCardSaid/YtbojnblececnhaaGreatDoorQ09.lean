/-
  What the walk of the reference's Press wants: words out of four bytes as sums; how all stands. No condition.
-/
import Derived.Test.YtbojnblececnhaaGreatDoorQ08
import Derived.Test.YtbojnblececnhaaGreatDoorQ04
namespace Go.Proofs
open Go.RowKit Sm
theorem Sm.or_add (n : Nat) (x z : BitVec 32) (h : x.toNat < 2 ^ n) : x ||| (z <<< n) = x + (z <<< n) := by
  refine (BitVec.add_eq_or_of_and_eq_zero x (z <<< n) ?_).symm
  apply BitVec.eq_of_getLsbD_eq
  intro i hi
  rw [BitVec.getLsbD_and, BitVec.getLsbD_shiftLeft]
  by_cases hn : i < n
  · simp [hn]
  · have : x.getLsbD i = false := by
      rw [BitVec.getLsbD]
      exact Nat.testBit_lt_two_pow (Nat.lt_of_lt_of_le h (Nat.pow_le_pow_right (by decide) (by omega)))
    simp [this]
theorem Sm.wordF_lt (f : Nat → BitVec 8) : ∀ k, k ≤ 4 → (wordF f k).toNat < 2 ^ (8 * k)
  | 0, _ => by simp [wordF]
  | k + 1, h => by
    rw [wordF, BitVec.toNat_or]
    have h1 := wordF_lt f k (by omega)
    have h2 : ((f k).setWidth 32 <<< (8 * k)).toNat < 2 ^ (8 * (k + 1)) := by
      rw [BitVec.toNat_shiftLeft, Nat.shiftLeft_eq]
      refine Nat.lt_of_le_of_lt (Nat.mod_le _ _) ?_
      have : ((f k).setWidth 32).toNat < 2 ^ 8 := by
        have := (byte_iv (f k)).2
        unfold iv at this
        omega
      rw [show 8 * (k + 1) = 8 + 8 * k by omega, Nat.pow_add]
      exact Nat.mul_lt_mul_of_pos_right this (Nat.two_pow_pos _)
    exact Nat.or_lt_two_pow (Nat.lt_of_lt_of_le h1 (Nat.pow_le_pow_right (by decide) (by omega))) h2
theorem Sm.wordF_sum (f : Nat → BitVec 8) : wordF f 4 = (((f 0).setWidth 32 + (f 1).setWidth 32 <<< 8) + (f 2).setWidth 32 <<< 16) + (f 3).setWidth 32 <<< 24 := by
  have h1 : wordF f 1 = (f 0).setWidth 32 := by simp [wordF]
  have h2 : wordF f 2 = wordF f 1 + (f 1).setWidth 32 <<< 8 := or_add 8 _ _ (wordF_lt f 1 (by decide))
  have h3 : wordF f 3 = wordF f 2 + (f 2).setWidth 32 <<< 16 := or_add 16 _ _ (wordF_lt f 2 (by decide))
  have h4 : wordF f 4 = wordF f 3 + (f 3).setWidth 32 <<< 24 := or_add 24 _ _ (wordF_lt f 3 (by decide))
  rw [h4, h3, h2, h1]
theorem Sm.mul_wrap (x : BitVec 32) (k : Nat) (m : Int) (h : (2 : Int) ^ k = m) : IntKind.u32.wrap (m * iv x) = iv (x <<< k) := by
  rw [Int.mul_comm, ← h, wrap_shl]
theorem Sm.wrap_iv (x : BitVec 32) : IntKind.u32.wrap (iv x) = iv x := wrap_u32 x
/-- how all stands ahead of the words -/
structure Sm.RfAt (w wr : World) (H : List (BitVec 32)) (B : List (BitVec 8)) (G : List (BitVec 32)) : Prop where
  h : Blk wr w.heap.size 0xa4 (wvs H)
  b : Blk wr (w.heap.size + 1) 0x84 (bvs B)
  r : Blk wr (w.heap.size + 2) 0xa4 (wvs (List.replicate 8 0#32))
  g : Blk wr (w.heap.size + 3) 0xb7 (wvs G)
  below : Below w.heap.size w wr
  size : wr.heap.size = w.heap.size + 4
theorem Sm.RfAt.drew {w wr : World} {H G : List (BitVec 32)} {B : List (BitVec 8)} (h : RfAt w wr H B G) : RfAt w wr.drew H B G := ⟨h.h, h.b, h.r, h.g, h.below.drew, h.size⟩
theorem Sm.RfAt.setG {w wr : World} {H G : List (BitVec 32)} {B : List (BitVec 8)} (h : RfAt w wr H B G) (k : Nat) (x : BitVec 32) : RfAt w (wr.setCell ⟨w.heap.size + 3, k, none⟩ (.int .u32 (iv x))) H B (G.set k x) :=
  ⟨h.h.other (by simp) _, h.b.other (by simp) _, h.r.other (by simp) _, h.g.setWord k x, h.below.setCell (p := ⟨w.heap.size + 3, k, none⟩) (by simp) _, by rw [← h.size]; simp⟩
theorem Sm.RfAt.newV {w wr : World} {H G : List (BitVec 32)} {B : List (BitVec 8)} (h : RfAt w wr H B G) : PrAt w (wr.alloc (.cells (wvs (List.replicate 16 0#32)) 0xb7)) H B G (vin H 0) :=
  ⟨h.h.alloc _, h.b.alloc _, h.r.alloc _, h.g.alloc _, Blk.newAt h.size 0xb7 _, h.below.alloc (by rw [h.size]; omega) _⟩
theorem Sm.Blk.nat {w : World} {b : Nat} {t : TypeId} {l : List Nat} (h : Blk w b t (nv l)) {k : Nat} (hk : k < l.length) : w.cell? ⟨b, k, none⟩ = some (.int .i64 ((l.getD k 0 : Nat) : Int)) := by
  rw [h.cell]
  simp [nv, hk]
theorem Sm.mxR_length (k : Nat) (h : k < 8) : (mxR k).length = 4 := by
  have : ∀ k, k < 8 → (mxR k).length = 4 := by decide
  exact this k h
end Go.Proofs
