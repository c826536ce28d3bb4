/-
  Sums of texts that are joined: the sum of both is the product of the first sum and the power of eight times the second length, xor the second sum. No condition.
-/
import Derived.Test.YtekbojfialjblaaDoorWalkK
namespace Go.Proofs.Sm
theorem crc_xor (x y : BitVec 32) (l : List (BitVec 8)) : crc (x ^^^ y) l = crc x l ^^^ iter (8 * l.length) y := by
  induction l generalizing x y with
  | nil => rfl
  | cons c r ih =>
    have h1 : crc (x ^^^ y) (c :: r) = crc (iter 8 ((x ^^^ y) ^^^ c.setWidth 32)) r := rfl
    have h2 : crc x (c :: r) = crc (iter 8 (x ^^^ c.setWidth 32)) r := rfl
    have h3 : (x ^^^ y) ^^^ c.setWidth 32 = (x ^^^ c.setWidth 32) ^^^ y := by rw [BitVec.xor_assoc, BitVec.xor_comm y, ← BitVec.xor_assoc]
    have e : 8 * (c :: r).length = 8 * r.length + 8 := by rw [List.length_cons]; omega
    rw [h1, h2, h3, iter_lin, ih, e, iter_add]
theorem not_xor (x y : BitVec 32) : ~~~(x ^^^ y) = ~~~x ^^^ y := by
  rw [← BitVec.allOnes_xor, ← BitVec.allOnes_xor, BitVec.xor_assoc]
theorem not_sumB (l : List (BitVec 8)) : ~~~(sumB l) = crc ones l := by rw [sumB, BitVec.not_not]
theorem sumB_append (a b : List (BitVec 8)) : sumB (a ++ b) = ~~~(crc (~~~(sumB a)) b) := by
  rw [not_sumB, sumB, crc_append]
theorem sumB_join (a b : List (BitVec 8)) : mul (sumB a) (pw (8 * b.length)) ^^^ sumB b = sumB (a ++ b) := by
  have e : ~~~(sumB a) = ones ^^^ sumB a := by rw [← BitVec.allOnes_xor]; rfl
  rw [sumB_append, e, crc_xor, not_xor, mul_comm, pw_mul, BitVec.xor_comm]
  rfl
end Go.Proofs.Sm
