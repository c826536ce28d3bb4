/-
  Words of 32 bits as the numbers of the walk: what xor, and, shifts and tests of them are. No condition.
-/
import Derived.Laws.Entries
import Derived.Test.YtohidbkhccepnaaDoorMath
namespace Go.Proofs.Sm
/-- a word as the walk's number -/
def iv (x : BitVec 32) : Int := x.toNat
theorem iv_lo (x : BitVec 32) : 0 ≤ iv x := by unfold iv; omega
theorem iv_hi (x : BitVec 32) : iv x < 4294967296 := by
  have := x.isLt
  unfold iv; omega
theorem iv_inj {x y : BitVec 32} (h : iv x = iv y) : x = y := by
  unfold iv at h
  exact BitVec.eq_of_toNat_eq (by omega)
theorem ofInt_iv (x : BitVec 32) : BitVec.ofInt 32 (iv x) = x := by
  unfold iv
  rw [BitVec.ofInt_natCast]
  simp
theorem wrap_u32 (x : BitVec 32) : IntKind.u32.wrap (x.toNat : Int) = iv x := by
  have := x.isLt
  simp [IntKind.wrap, IntKind.signed, IntKind.bits, iv]
  omega
theorem bits_xor (x y : BitVec 32) : bits .xor .u32 (iv x) (iv y) = iv (x ^^^ y) := by
  show IntKind.u32.wrap ((BitVec.ofInt 32 (iv x) ^^^ BitVec.ofInt 32 (iv y)).toNat : Int) = _
  rw [ofInt_iv, ofInt_iv, wrap_u32]
theorem bits_and (x y : BitVec 32) : bits .and .u32 (iv x) (iv y) = iv (x &&& y) := by
  show IntKind.u32.wrap ((BitVec.ofInt 32 (iv x) &&& BitVec.ofInt 32 (iv y)).toNat : Int) = _
  rw [ofInt_iv, ofInt_iv, wrap_u32]
theorem iv_shr (x : BitVec 32) (k : Nat) : iv x / 2 ^ k = iv (x >>> k) := by
  unfold iv
  rw [BitVec.toNat_ushiftRight, Nat.shiftRight_eq_div_pow]
  simp
theorem wrap_shl (x : BitVec 32) (k : Nat) : IntKind.u32.wrap (iv x * 2 ^ k) = iv (x <<< k) := by
  unfold iv
  rw [BitVec.toNat_shiftLeft, Nat.shiftLeft_eq]
  have e : ((x.toNat * 2 ^ k : Nat) : Int) = (x.toNat : Int) * 2 ^ k := by simp
  rw [← e]
  generalize x.toNat * 2 ^ k = m
  simp [IntKind.wrap, IntKind.signed, IntKind.bits]
theorem iv_div2 (x : BitVec 32) : iv x / (2 : Int) = iv (x >>> 1) := by
  have h := iv_shr x 1
  simpa using h
theorem odd_bit (x : BitVec 32) : (iv x % 2 == 1) = x.getLsbD 0 := by
  unfold iv
  rw [BitVec.getLsbD, Nat.testBit_zero]
  rcases Nat.mod_two_eq_zero_or_one x.toNat with h | h <;> simp [h] <;> omega
theorem and1_bit (x : BitVec 32) : (bits .and .u32 (iv x) 1 == 1) = x.getLsbD 0 := by
  have e : (1 : Int) = iv 1#32 := rfl
  have h : bits .and .u32 (iv x) 1 = iv (x &&& 1#32) := by rw [e, bits_and]
  rw [h, ← odd_bit]
  have e2 : (x &&& 1#32).toNat = x.toNat % 2 := by rw [BitVec.toNat_and]; exact Nat.and_one_is_mod _
  unfold iv
  rw [e2]
  simp
theorem byx_odd {x : BitVec 32} (h : x.getLsbD 0 = true) : bits .xor .u32 (iv x / 2) 3988292384 = iv (byx x) := by
  have e : (3988292384 : Int) = iv 0xedb88320#32 := rfl
  rw [iv_div2, e, bits_xor, byx, if_pos h]
theorem byx_even {x : BitVec 32} (h : x.getLsbD 0 = false) : iv x / 2 = iv (byx x) := by
  rw [iv_div2, byx, h]; simp
theorem msb_bit (x : BitVec 32) : ((iv x).tdiv 2147483648 % 4294967296 == 1) = x.msb := by
  have h := x.isLt
  have h0 := iv_lo x
  have e : (iv x).tdiv 2147483648 = ((x.toNat / 2147483648 : Nat) : Int) := by
    rw [Int.tdiv_eq_ediv_of_nonneg h0]
    unfold iv
    simp
  rw [e, BitVec.msb_eq_decide]
  rw [Bool.eq_iff_iff]
  simp
  omega
theorem shl1 (x : BitVec 32) : (iv x).tmod (2147483648 : Int) * (2 : Int) % (4294967296 : Int) = iv (x <<< 1) := by
  have h := x.isLt
  have h0 := iv_lo x
  rw [Int.tmod_eq_emod_of_nonneg h0]
  unfold iv
  rw [BitVec.toNat_shiftLeft, Nat.shiftLeft_eq]
  simp
  omega
theorem mul_step {o a b M : BitVec 32} {n m : Nat} (hn : m = n + 1) (h : o ^^^ mulL m a b = M) : (o ^^^ (if a.msb then b else 0#32)) ^^^ mulL n (a <<< 1) (byx b) = M := by
  subst hn
  rw [mulL] at h
  rw [BitVec.xor_assoc]; exact h
/-- the bit of w that is k places below the highest -/
def bitAt (w : BitVec 32) (k : Nat) : Bool := (w <<< k).msb
theorem bas_nz : ∀ k, k < 32 → (iv (bas k) != 0) = true := by decide
theorem bas_z : (iv (bas 32) != 0) = false := by decide
theorem bas_half (k : Nat) : iv (bas k) / (2 : Int) = iv (bas (k + 1)) := by
  rw [iv_div2, bas, bas, BitVec.shiftRight_add]
theorem and_bas (w : BitVec 32) (k : Nat) (hk : k < 32) : (bits .and .u32 (iv w) (iv (bas k)) != 0) = bitAt w k := by
  rw [bits_and]
  have hb : ∀ i, (bas k).getLsbD i = decide (i = 31 - k) := by
    intro i
    unfold bas one
    rw [BitVec.getLsbD_ushiftRight]
    have : (0x80000000#32) = BitVec.twoPow 32 31 := by decide
    rw [this, BitVec.getLsbD_twoPow]
    by_cases h : i = 31 - k
    · subst h; simp; omega
    · simp [h]; omega
  have e : bitAt w k = w.getLsbD (31 - k) := by
    unfold bitAt
    rw [BitVec.msb_eq_getLsbD_last, BitVec.getLsbD_shiftLeft]
    have : ¬ 31 < k := by omega
    simp [this]
  rw [e]
  cases hw : w.getLsbD (31 - k) with
  | false =>
    have : w &&& bas k = 0#32 := by
      apply BitVec.eq_of_getLsbD_eq
      intro i _
      rw [BitVec.getLsbD_and, hb]
      by_cases h : i = 31 - k
      · subst h; simp [hw]
      · simp [h]
    rw [this]; rfl
  | true =>
    have : w &&& bas k ≠ 0#32 := by
      intro h
      have h2 := congrArg (fun z : BitVec 32 => z.getLsbD (31 - k)) h
      simp [hb, hw] at h2
    simp only [bne_iff_ne, ne_eq]
    intro h
    exact this (iv_inj h)
theorem shl_zero (a : BitVec 32) (k : Nat) : (iv (a <<< k) == 0) = decide (a <<< k = 0#32) := by
  rw [Bool.eq_iff_iff]
  simp
  constructor
  · intro h; exact iv_inj h
  · intro h; rw [h]; rfl
theorem shl_test (a : BitVec 32) (k : Nat) : (iv a * (2 : Int) ^ k % (4294967296 : Int) == 0) = decide (a <<< k = 0#32) := by
  have h := wrap_shl a k
  have e : IntKind.u32.wrap (iv a * 2 ^ k) = iv a * (2 : Int) ^ k % (4294967296 : Int) := by
    simp [IntKind.wrap, IntKind.signed, IntKind.bits]
  rw [e] at h
  rw [h, shl_zero]
theorem mulL_zero (n : Nat) (b : BitVec 32) : mulL n 0#32 b = 0#32 := (mulL_lin_left n b).zero
def enc32 (w : BitVec 32) (k : Fin 32) : Array Value := #[.int .i64 (k.val : Int), .bool (bitAt w k.val)]
def upto (k : Nat) : List (Fin 32) := (List.range k).map fun i => ⟨i % 32, Nat.mod_lt _ (by decide)⟩
theorem upto_succ (k : Nat) (h : k < 32) : upto (k + 1) = upto k ++ [⟨k, h⟩] := by
  simp [upto, List.range_succ, Nat.mod_eq_of_lt h]
theorem upto_length (k : Nat) : (upto k).length = k := by simp [upto]
/-- the product so far, when these places have come -/
def prodOf (a b : BitVec 32) : List (Fin 32) → BitVec 32
  | [] => 0#32
  | k :: r => (if bitAt a k.val then b else 0#32) ^^^ prodOf a (byx b) r
theorem prodOf_snoc (a b : BitVec 32) (pre : List (Fin 32)) (k : Fin 32) :
    prodOf a b (pre ++ [k]) = prodOf a b pre ^^^ (if bitAt a k.val then iter pre.length b else 0#32) := by
  induction pre generalizing b with
  | nil => simp [prodOf, iter]
  | cons j r ih =>
    rw [List.cons_append, prodOf, ih, prodOf, BitVec.xor_assoc]
    rfl
theorem prodOf_yes {a b : BitVec 32} {pre : List (Fin 32)} {k : Fin 32} (h : bitAt a k.val = true) : prodOf a b pre ^^^ iter pre.length b = prodOf a b (pre ++ [k]) := by
  rw [prodOf_snoc, if_pos h]
theorem prodOf_no {a b : BitVec 32} {pre : List (Fin 32)} {k : Fin 32} (h : bitAt a k.val = false) : prodOf a b pre = prodOf a b (pre ++ [k]) := by
  rw [prodOf_snoc, h]; simp
theorem prodOf_mul (a b : BitVec 32) (n : Nat) (hn : n ≤ 32) : prodOf a b (upto n) ^^^ mulL (32 - n) (a <<< n) (iter n b) = mul a b := by
  induction n with
  | zero => simp [upto, prodOf, mul, iter]
  | succ n ih =>
    have h := mul_step (n := 32 - (n + 1)) (m := 32 - n) (by omega) (ih (by omega))
    rw [upto_succ n (by omega), prodOf_snoc, upto_length, iter_succ', BitVec.shiftLeft_add]
    exact h
theorem prodOf_all (a b : BitVec 32) : prodOf a b (upto 32) = mul a b := by
  have h := prodOf_mul a b 32 (Nat.le_refl _)
  simpa [mulL] using h
theorem prodOf_stop {a b : BitVec 32} {k : Nat} {pre : List (Fin 32)} {x : Fin 32} (hk : k < 32) (he : upto (k + 1) = pre ++ [x]) (hz : a <<< x.val = 0#32) : prodOf a b pre = mul a b := by
  rw [upto_succ k hk] at he
  obtain ⟨h1, h2⟩ := List.append_inj' he rfl
  have hx : x.val = k := by
    have := congrArg (fun l : List (Fin 32) => l.map (·.val)) h2
    simp at this
    exact this.symm
  rw [← h1]
  have h := prodOf_mul a b k (by omega)
  rw [hx] at hz
  rw [hz, mulL_zero] at h
  simpa using h
end Go.Proofs.Sm
