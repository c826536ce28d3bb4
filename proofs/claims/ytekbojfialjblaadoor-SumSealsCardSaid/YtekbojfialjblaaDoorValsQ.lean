/-
  Words of 64 bits as the numbers of the walk, and the number whose bits have come. No condition.
-/
import Derived.Test.YtekbojfialjblaaDoorVals
namespace Go.Proofs.Sm
/-- a word of 64 bits as the walk's number -/
def iq (x : BitVec 64) : Int := x.toNat
theorem iq_lo (x : BitVec 64) : 0 ≤ iq x := by unfold iq; omega
theorem iq_inj {x y : BitVec 64} (h : iq x = iq y) : x = y := by
  unfold iq at h
  exact BitVec.eq_of_toNat_eq (by omega)
theorem ofInt_iq (x : BitVec 64) : BitVec.ofInt 64 (iq x) = x := by
  unfold iq
  rw [BitVec.ofInt_natCast]
  simp
theorem wrap_u64 (x : BitVec 64) : IntKind.u64.wrap (x.toNat : Int) = iq x := by
  have := x.isLt
  simp [IntKind.wrap, IntKind.signed, IntKind.bits, iq]
  omega
theorem bits_and64 (x y : BitVec 64) : bits .and .u64 (iq x) (iq y) = iq (x &&& y) := by
  show IntKind.u64.wrap ((BitVec.ofInt 64 (iq x) &&& BitVec.ofInt 64 (iq y)).toNat : Int) = _
  rw [ofInt_iq, ofInt_iq, wrap_u64]
def bas64 (k : Nat) : BitVec 64 := 0x8000000000000000#64 >>> k
theorem bas64_nz : ∀ k, k < 64 → (iq (bas64 k) != 0) = true := by decide
theorem bas64_z : (iq (bas64 64) != 0) = false := by decide
theorem bas64_half (k : Nat) : iq (bas64 k) / (2 : Int) = iq (bas64 (k + 1)) := by
  rw [bas64, bas64, BitVec.shiftRight_add]
  unfold iq
  rw [BitVec.toNat_ushiftRight _ 1, Nat.shiftRight_eq_div_pow]
  simp
/-- the bit of a number that is k places below the highest of 64 -/
def bitQ (n : BitVec 64) (k : Nat) : Bool := n.getLsbD (63 - k)
theorem and_bas64 (w : BitVec 64) (k : Nat) (hk : k < 64) : (bits .and .u64 (iq w) (iq (bas64 k)) != 0) = bitQ w k := by
  rw [bits_and64]
  have hb : ∀ i, (bas64 k).getLsbD i = decide (i = 63 - k) := by
    intro i
    unfold bas64
    rw [BitVec.getLsbD_ushiftRight]
    have : (0x8000000000000000#64) = BitVec.twoPow 64 63 := by decide
    rw [this, BitVec.getLsbD_twoPow]
    by_cases h : i = 63 - k
    · subst h; simp; omega
    · simp [h]; omega
  unfold bitQ
  cases hw : w.getLsbD (63 - k) with
  | false =>
    have : w &&& bas64 k = 0#64 := by
      apply BitVec.eq_of_getLsbD_eq
      intro i _
      rw [BitVec.getLsbD_and, hb]
      by_cases h : i = 63 - k
      · subst h; simp [hw]
      · simp [h]
    rw [this]; rfl
  | true =>
    have : w &&& bas64 k ≠ 0#64 := by
      intro h
      have h2 := congrArg (fun z : BitVec 64 => z.getLsbD (63 - k)) h
      simp [hb, hw] at h2
    simp only [bne_iff_ne, ne_eq]
    intro h
    exact this (iq_inj h)
def enc64 (w : BitVec 64) (k : Fin 64) : Array Value := #[.int .i64 (k.val : Int), .bool (bitQ w k.val)]
def upto64 (k : Nat) : List (Fin 64) := (List.range k).map fun i => ⟨i % 64, Nat.mod_lt _ (by decide)⟩
theorem upto64_succ (k : Nat) (h : k < 64) : upto64 (k + 1) = upto64 k ++ [⟨k, h⟩] := by
  simp [upto64, List.range_succ, Nat.mod_eq_of_lt h]
theorem upto64_length (k : Nat) : (upto64 k).length = k := by simp [upto64]
/-- the number whose bits have come -/
def numOf (n : BitVec 64) (l : List (Fin 64)) : Nat := l.foldl (fun m k => 2 * m + (bitQ n k.val).toNat) 0
theorem numOf_snoc (n : BitVec 64) (l : List (Fin 64)) (k : Fin 64) : numOf n (l ++ [k]) = 2 * numOf n l + (bitQ n k.val).toNat := by simp [numOf]
theorem numOf_upto (n : BitVec 64) (k : Nat) (hk : k ≤ 64) : numOf n (upto64 k) = n.toNat / 2 ^ (64 - k) := by
  induction k with
  | zero =>
    have := n.isLt
    have e : numOf n (upto64 0) = 0 := rfl
    rw [e, Nat.div_eq_of_lt]
    omega
  | succ k ih =>
    rw [upto64_succ k (by omega), numOf_snoc, ih (by omega), bitQ, BitVec.getLsbD]
    have e : 64 - k = (64 - (k + 1)) + 1 := by omega
    have e2 : 63 - k = 64 - (k + 1) := by omega
    rw [e, Nat.pow_succ, ← Nat.div_div_eq_div_mul]
    simp only
    rw [e2, Nat.testBit_eq_decide_div_mod_eq]
    generalize n.toNat / 2 ^ (64 - (k + 1)) = m
    rcases Nat.mod_two_eq_zero_or_one m with h | h <;> simp [h] <;> omega
theorem numOf_all (n : BitVec 64) : numOf n (upto64 64) = n.toNat := by
  rw [numOf_upto n 64 (Nat.le_refl _)]; simp
theorem pw_double (m : Nat) : mul (pw m) (pw m) = pw (2 * m) := by rw [pw_add]; congr 1; omega
theorem pw_yes {n : BitVec 64} {pre : List (Fin 64)} {k : Fin 64} (h : bitQ n k.val = true) : byx (mul (pw (numOf n pre)) (pw (numOf n pre))) = pw (numOf n (pre ++ [k])) := by
  rw [pw_double, numOf_snoc, h, pw, pw, ← iter_succ']; rfl
theorem pw_no {n : BitVec 64} {pre : List (Fin 64)} {k : Fin 64} (h : bitQ n k.val = false) : mul (pw (numOf n pre)) (pw (numOf n pre)) = pw (numOf n (pre ++ [k])) := by
  rw [pw_double, numOf_snoc, h]; rfl
end Go.Proofs.Sm
