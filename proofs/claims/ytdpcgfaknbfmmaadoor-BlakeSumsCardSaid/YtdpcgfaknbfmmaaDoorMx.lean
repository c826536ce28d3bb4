/-
  Words turned, and the mixing of four words with two: what the arithmetic of the walk is. No condition.
-/
import Derived.Test.YtdpcgfaknbfmmaaDoorVals
namespace Go.Proofs.Sm
/-- a word turned by one place -/
def rot1 (w : BitVec 32) : BitVec 32 := (w >>> 1) ||| (w <<< 31)
def rotN : Nat → BitVec 32 → BitVec 32
  | 0, w => w
  | n + 1, w => rot1 (rotN n w)
theorem turn_lin (n m : Nat) (h : n + m = 32) : Lin (fun w : BitVec 32 => (w >>> n) ||| (w <<< m)) := by
  intro a b
  apply BitVec.eq_of_getLsbD_eq
  intro i hi
  simp only [BitVec.getLsbD_or, BitVec.getLsbD_xor, BitVec.getLsbD_ushiftRight, BitVec.getLsbD_shiftLeft]
  by_cases hm : i < m
  · simp [hm]
  · have h1 : 32 ≤ n + i := by omega
    simp [hm, hi, BitVec.getLsbD_of_ge _ _ h1]
theorem rot1_lin : Lin rot1 := turn_lin 1 31 rfl
theorem rotN_lin : ∀ n, Lin (rotN n)
  | 0 => fun _ _ => rfl
  | n + 1 => fun a b => by rw [rotN, rotN_lin n, rot1_lin]; rfl
theorem turn16 (w : BitVec 32) : (w <<< 16) ||| (w >>> 16) = rotN 16 w := by
  rw [BitVec.or_comm]
  revert w
  exact Lin.ext (turn_lin 16 16 rfl) (rotN_lin 16) (by decide +kernel)
theorem turn12 (w : BitVec 32) : (w <<< 20) ||| (w >>> 12) = rotN 12 w := by
  rw [BitVec.or_comm]
  revert w
  exact Lin.ext (turn_lin 12 20 rfl) (rotN_lin 12) (by decide +kernel)
theorem turn8 (w : BitVec 32) : (w <<< 24) ||| (w >>> 8) = rotN 8 w := by
  rw [BitVec.or_comm]
  revert w
  exact Lin.ext (turn_lin 8 24 rfl) (rotN_lin 8) (by decide +kernel)
theorem turn7 (w : BitVec 32) : (w <<< 25) ||| (w >>> 7) = rotN 7 w := by
  rw [BitVec.or_comm]
  revert w
  exact Lin.ext (turn_lin 7 25 rfl) (rotN_lin 7) (by decide +kernel)
theorem bits_or (x y : BitVec 32) : bits .or .u32 (iv x) (iv y) = iv (x ||| y) := by
  show IntKind.u32.wrap ((BitVec.ofInt 32 (iv x) ||| BitVec.ofInt 32 (iv y)).toNat : Int) = _
  rw [ofInt_iv, ofInt_iv, wrap_u32]
theorem iv_add (x y : BitVec 32) : (iv x + iv y) % (4294967296 : Int) = iv (x + y) := by
  unfold iv
  rw [BitVec.toNat_add]
  simp
theorem iv_add_wrap (x y : BitVec 32) : IntKind.u32.wrap (iv x + iv y) = iv (x + y) := by
  rw [← iv_add]
  simp [IntKind.wrap, IntKind.signed, IntKind.bits]
theorem rot1_num (x : BitVec 32) : iv x / (2 : Int) + 2147483648 * (iv x % (2 : Int)) = iv (rot1 x) := by
  have e : iv (rot1 x) = iv (x >>> 1) + iv (x <<< 31) := by
    unfold rot1 iv
    rw [BitVec.toNat_or]
    have h1 : (x <<< 31).toNat = 2147483648 * (x.toNat % 2) := by
      rw [BitVec.toNat_shiftLeft, Nat.shiftLeft_eq]
      have := x.isLt
      omega
    have h2 : (x >>> 1).toNat < 2 ^ 31 := by
      rw [BitVec.toNat_ushiftRight, Nat.shiftRight_eq_div_pow]
      have := x.isLt
      omega
    rw [h1, Nat.or_comm, show 2147483648 = 2 ^ 31 from rfl, ← Nat.two_pow_add_eq_or_of_lt h2]
    omega
  rw [e]
  have h1 := iv_div2 x
  have h2 := shl1 (x <<< 30)
  have h3 : iv (x <<< 31) = 2147483648 * (iv x % 2) := by
    unfold iv
    rw [BitVec.toNat_shiftLeft, Nat.shiftLeft_eq]
    have := x.isLt
    omega
  rw [← h1, h3]
/-- half of a mixing -/
structure Q4 where
  a : BitVec 32
  b : BitVec 32
  c : BitVec 32
  d : BitVec 32
def halfS (q : Q4) (x : BitVec 32) (far near : Nat) : Q4 :=
  let a := q.a + (q.b + x)
  let d := rotN far (q.d ^^^ a)
  let c := q.c + d
  let b := rotN near (q.b ^^^ c)
  ⟨a, b, c, d⟩
def mixS (q : Q4) (x y : BitVec 32) : Q4 := halfS (halfS q x 16 12) y 8 7
/-- words as the values of memory -/
def wv (x : BitVec 32) : Value := .int .u32 (iv x)
def Q4.cells (q : Q4) : Array Value := #[.int .u32 (iv q.a), .int .u32 (iv q.b), .int .u32 (iv q.c), .int .u32 (iv q.d)]
end Go.Proofs.Sm
