/-
  The polynomials over bits of CRC-32: the product of words is a commutative, associative one that goes over xor, and powers of x add. No condition.
  Words of 32 bits as the numbers of the walk: what xor, and, shifts and tests of them are. No condition.
  Bytes in memory. No condition.
  Between two worlds the blocks of a set may have turned, all others lie as they lay. No condition.
  A range over a function, where what is handed over lies in memory: what an iterator promises, round by round, and the law of the loop. Conditions: what each theorem names.
  The law of a loop over a function, of one variable. Conditions: what the theorem names.
  A region that draws its order, within a round of a range over a function: the plain walk over all orders serves. Conditions: what the theorems name.
  Words turned, and the mixing of four words with two: what the arithmetic of the walk is. No condition.
  Append of readable bytes behind a row of the call's own.
  Noughts appended behind a row of bytes of the call's own ('append(s, make([]byte, k)...)'). No condition.
  A row read and written by value within a round: the laws of the plain walk, inside a fence. Conditions: what each names.
  A region that draws its order and ends with one operation that waits for all others: it is enough to walk through the others and that one behind them. Conditions: no guard; each operation waits for earlier ones alone.
  Bytes as a string. No condition.
  Arrays of words and of small numbers in memory; the tables; what a round of mixing makes of sixteen words. No condition.
-/
import Derived.Laws.Entries
import Derived.Below
import Derived.Laws.OwnMore
import Derived.Deep.AppendLies
import Derived.Deep.Draws
import Derived.Lib.Hide
import Derived.Lib.AppendStr
import Derived.Shelf.Abstract
import Derived.WalkKit
import Derived.RangeFuncNested
import Derived.RangeFuncBound
import Derived.RangeFuncCalls
import Derived.RangeFuncLeaves
import Derived.Deep.RegionHeldLaw
import Derived.Sort.QuietThIn
import Derived.Laws.CopyOwn
import Derived.OwnWalkIn
import Derived.Deep.MidRow
import Derived.OrdersHeld
import Derived.Test.YtmhmnmdobnkbgaaDoorProg
import Derived.Laws.BytesArg
import Derived.WalkSpells
namespace Go.Proofs.Sm
/-- a word by x -/
def byx (w : BitVec 32) : BitVec 32 := (w >>> 1) ^^^ (if w.getLsbD 0 then 0xedb88320#32 else 0#32)
def iter : Nat → BitVec 32 → BitVec 32
  | 0, w => w
  | n + 1, w => iter n (byx w)
def mulL : Nat → BitVec 32 → BitVec 32 → BitVec 32
  | 0, _, _ => 0#32
  | n + 1, a, b => (if a.msb then b else 0#32) ^^^ mulL n (a <<< 1) (byx b)
def mul (a b : BitVec 32) : BitVec 32 := mulL 32 a b
def one : BitVec 32 := 0x80000000#32
def pw (n : Nat) : BitVec 32 := iter n one
/-- bit number i from above -/
def bas (i : Nat) : BitVec 32 := one >>> i

def Lin (f : BitVec 32 → BitVec 32) : Prop := ∀ a b, f (a ^^^ b) = f a ^^^ f b

theorem Lin.zero {f} (h : Lin f) : f 0#32 = 0#32 := by
  have := h 0#32 0#32
  simpa using this
theorem xor4 (a b c d : BitVec 32) : (a ^^^ b) ^^^ (c ^^^ d) = (a ^^^ c) ^^^ (b ^^^ d) := by
  rw [BitVec.xor_assoc, ← BitVec.xor_assoc b, BitVec.xor_comm b c, BitVec.xor_assoc c, ← BitVec.xor_assoc a]
theorem byx_lin : Lin byx := by
  intro a b
  unfold byx
  rw [xor4, BitVec.ushiftRight_xor_distrib]
  congr 1
  rw [BitVec.getLsbD_xor]
  cases a.getLsbD 0 <;> cases b.getLsbD 0 <;> simp
theorem iter_succ' (n : Nat) (w : BitVec 32) : iter (n + 1) w = byx (iter n w) := by
  induction n generalizing w with
  | zero => rfl
  | succ n ih => rw [iter, ih]; rfl
theorem iter_add (m n : Nat) (w : BitVec 32) : iter (m + n) w = iter m (iter n w) := by
  induction m with
  | zero => simp [iter]
  | succ m ih => rw [Nat.succ_add, iter_succ', ih, iter_succ']
theorem iter_lin (n : Nat) : Lin (iter n) := by
  induction n with
  | zero => intro a b; rfl
  | succ n ih => intro a b; rw [iter, byx_lin, ih]; rfl
theorem mulL_lin_right (n : Nat) (a : BitVec 32) : Lin (mulL n a) := by
  induction n generalizing a with
  | zero => intro b c; simp [mulL]
  | succ n ih =>
    intro b c
    simp only [mulL]
    rw [byx_lin, ih, xor4]
    congr 1
    split <;> simp
theorem mulL_lin_left (n : Nat) (b : BitVec 32) : Lin (fun a => mulL n a b) := by
  induction n generalizing b with
  | zero => intro a c; simp [mulL]
  | succ n ih =>
    intro a c
    simp only [mulL]
    have := ih (byx b) (a <<< 1) (c <<< 1)
    simp only at this
    rw [BitVec.shiftLeft_xor_distrib, this, xor4]
    congr 1
    rw [BitVec.msb_xor]
    cases a.msb <;> cases c.msb <;> simp
theorem mul_lin_right (a : BitVec 32) : Lin (mul a) := mulL_lin_right 32 a
theorem mul_lin_left (b : BitVec 32) : Lin (fun a => mul a b) := mulL_lin_left 32 b
theorem Lin.comp {f g} (hf : Lin f) (hg : Lin g) : Lin (fun a => f (g a)) := by
  intro a b; simp only; rw [hg, hf]
theorem Lin.xor {f g} (hf : Lin f) (hg : Lin g) : Lin (fun a => f a ^^^ g a) := by
  intro a b; simp only; rw [hg, hf, xor4]

/-- two linear maps that agree at each single bit are one -/
theorem Lin.ext {f g : BitVec 32 → BitVec 32} (hf : Lin f) (hg : Lin g) (h : ∀ i, i < 32 → f (bas i) = g (bas i)) : ∀ a, f a = g a := by
  have key : ∀ n, n ≤ 32 → ∀ a : BitVec 32, (∀ i, n ≤ i → a.getLsbD i = false) → f a = g a := by
    intro n
    induction n with
    | zero =>
      intro _ a ha
      have : a = 0#32 := by
        apply BitVec.eq_of_getLsbD_eq
        intro i _
        rw [ha i (Nat.zero_le _)]
        simp
      rw [this, hf.zero, hg.zero]
    | succ n ih =>
      intro hn a ha
      have hb : ∀ i, (bas (31 - n)).getLsbD i = decide (i = n) := by
        intro i
        unfold bas one
        rw [BitVec.getLsbD_ushiftRight]
        have : (0x80000000#32) = BitVec.twoPow 32 31 := by decide
        rw [this, BitVec.getLsbD_twoPow]
        by_cases h : i = n
        · subst h; simp; omega
        · simp [h]; omega
      cases hc : a.getLsbD n with
      | false =>
        refine ih (by omega) a fun i hi => ?_
        by_cases e : i = n
        · rw [e]; exact hc
        · exact ha i (by omega)
      | true =>
        have e : a = (a ^^^ bas (31 - n)) ^^^ bas (31 - n) := by
          rw [BitVec.xor_assoc, BitVec.xor_self, BitVec.xor_zero]
        rw [e, hf, hg, h (31 - n) (by omega)]
        congr 1
        refine ih (by omega) _ fun i hi => ?_
        rw [BitVec.getLsbD_xor, hb]
        by_cases e : i = n
        · rw [e, hc]; simp
        · rw [ha i (by omega)]; simp [e]
  intro a
  refine key 32 (Nat.le_refl _) a fun i hi => ?_
  exact BitVec.getLsbD_of_ge a i hi
theorem pw_bas : ∀ i, i < 32 → pw i = bas i := by decide
theorem mul_byx (a b : BitVec 32) : mul (byx a) b = byx (mul a b) := by
  revert a
  refine Lin.ext ((mul_lin_left b).comp byx_lin) (byx_lin.comp (mul_lin_left b)) ?_
  intro i hi
  revert b
  refine Lin.ext (mul_lin_right _) (byx_lin.comp (mul_lin_right _)) ?_
  revert i
  decide +kernel
theorem mul_iter (n : Nat) (a b : BitVec 32) : mul (iter n a) b = iter n (mul a b) := by
  induction n with
  | zero => rfl
  | succ n ih => rw [iter_succ', iter_succ', mul_byx, ih]
theorem one_mul (b : BitVec 32) : mul one b = b := by
  revert b
  refine Lin.ext (mul_lin_right _) (fun _ _ => rfl) ?_
  decide +kernel
theorem pw_mul (n : Nat) (b : BitVec 32) : mul (pw n) b = iter n b := by rw [pw, mul_iter, one_mul]
theorem pw_add (m n : Nat) : mul (pw m) (pw n) = pw (m + n) := by rw [pw_mul, pw, pw, iter_add]
theorem mul_comm (a b : BitVec 32) : mul a b = mul b a := by
  revert a
  refine Lin.ext (mul_lin_left b) (mul_lin_right b) ?_
  intro i hi
  revert b
  refine Lin.ext (mul_lin_right _) (mul_lin_left _) ?_
  intro j hj
  rw [← pw_bas i hi, ← pw_bas j hj, pw_add, pw_add, Nat.add_comm]
theorem mul_assoc (a b c : BitVec 32) : mul a (mul b c) = mul (mul a b) c := by
  revert a
  refine Lin.ext (mul_lin_left _) ((mul_lin_left c).comp (mul_lin_left b)) ?_
  intro i hi
  rw [← pw_bas i hi, pw_mul, pw_mul, mul_iter]
theorem mul_one (a : BitVec 32) : mul a one = a := by rw [mul_comm, one_mul]
theorem mul_xor (a b c : BitVec 32) : mul a (b ^^^ c) = mul a b ^^^ mul a c := mul_lin_right a b c
end Go.Proofs.Sm
namespace Go.Proofs.Sm
/-- a word as the walk's number -/
def iv (x : BitVec 32) : Int := x.toNat
theorem iv_lo (x : BitVec 32) : 0 ≤ iv x := by unfold iv; omega
theorem iv_hi (x : BitVec 32) : iv x < 4294967296 := by
  have := x.isLt
  unfold iv; omega
theorem iv_inj {x y : BitVec 32} (h : iv x = iv y) : x = y := by
  unfold iv at h
  exact BitVec.eq_of_toNat_eq (by omega)
theorem ofInt_iv (x : BitVec 32) : BitVec.ofInt 32 (iv x) = x := by
  unfold iv
  rw [BitVec.ofInt_natCast]
  simp
theorem wrap_u32 (x : BitVec 32) : IntKind.u32.wrap (x.toNat : Int) = iv x := by
  have := x.isLt
  simp [IntKind.wrap, IntKind.signed, IntKind.bits, iv]
  omega
theorem bits_xor (x y : BitVec 32) : bits .xor .u32 (iv x) (iv y) = iv (x ^^^ y) := by
  show IntKind.u32.wrap ((BitVec.ofInt 32 (iv x) ^^^ BitVec.ofInt 32 (iv y)).toNat : Int) = _
  rw [ofInt_iv, ofInt_iv, wrap_u32]
theorem bits_and (x y : BitVec 32) : bits .and .u32 (iv x) (iv y) = iv (x &&& y) := by
  show IntKind.u32.wrap ((BitVec.ofInt 32 (iv x) &&& BitVec.ofInt 32 (iv y)).toNat : Int) = _
  rw [ofInt_iv, ofInt_iv, wrap_u32]
theorem iv_shr (x : BitVec 32) (k : Nat) : iv x / 2 ^ k = iv (x >>> k) := by
  unfold iv
  rw [BitVec.toNat_ushiftRight, Nat.shiftRight_eq_div_pow]
  simp
theorem wrap_shl (x : BitVec 32) (k : Nat) : IntKind.u32.wrap (iv x * 2 ^ k) = iv (x <<< k) := by
  unfold iv
  rw [BitVec.toNat_shiftLeft, Nat.shiftLeft_eq]
  have e : ((x.toNat * 2 ^ k : Nat) : Int) = (x.toNat : Int) * 2 ^ k := by simp
  rw [← e]
  generalize x.toNat * 2 ^ k = m
  simp [IntKind.wrap, IntKind.signed, IntKind.bits]
theorem iv_div2 (x : BitVec 32) : iv x / (2 : Int) = iv (x >>> 1) := by
  have h := iv_shr x 1
  simpa using h
theorem odd_bit (x : BitVec 32) : (iv x % 2 == 1) = x.getLsbD 0 := by
  unfold iv
  rw [BitVec.getLsbD, Nat.testBit_zero]
  rcases Nat.mod_two_eq_zero_or_one x.toNat with h | h <;> simp [h] <;> omega
theorem and1_bit (x : BitVec 32) : (bits .and .u32 (iv x) 1 == 1) = x.getLsbD 0 := by
  have e : (1 : Int) = iv 1#32 := rfl
  have h : bits .and .u32 (iv x) 1 = iv (x &&& 1#32) := by rw [e, bits_and]
  rw [h, ← odd_bit]
  have e2 : (x &&& 1#32).toNat = x.toNat % 2 := by rw [BitVec.toNat_and]; exact Nat.and_one_is_mod _
  unfold iv
  rw [e2]
  simp
theorem byx_odd {x : BitVec 32} (h : x.getLsbD 0 = true) : bits .xor .u32 (iv x / 2) 3988292384 = iv (byx x) := by
  have e : (3988292384 : Int) = iv 0xedb88320#32 := rfl
  rw [iv_div2, e, bits_xor, byx, if_pos h]
theorem byx_even {x : BitVec 32} (h : x.getLsbD 0 = false) : iv x / 2 = iv (byx x) := by
  rw [iv_div2, byx, h]; simp
theorem msb_bit (x : BitVec 32) : ((iv x).tdiv 2147483648 % 4294967296 == 1) = x.msb := by
  have h := x.isLt
  have h0 := iv_lo x
  have e : (iv x).tdiv 2147483648 = ((x.toNat / 2147483648 : Nat) : Int) := by
    rw [Int.tdiv_eq_ediv_of_nonneg h0]
    unfold iv
    simp
  rw [e, BitVec.msb_eq_decide]
  rw [Bool.eq_iff_iff]
  simp
  omega
theorem shl1 (x : BitVec 32) : (iv x).tmod (2147483648 : Int) * (2 : Int) % (4294967296 : Int) = iv (x <<< 1) := by
  have h := x.isLt
  have h0 := iv_lo x
  rw [Int.tmod_eq_emod_of_nonneg h0]
  unfold iv
  rw [BitVec.toNat_shiftLeft, Nat.shiftLeft_eq]
  simp
  omega
theorem mul_step {o a b M : BitVec 32} {n m : Nat} (hn : m = n + 1) (h : o ^^^ mulL m a b = M) : (o ^^^ (if a.msb then b else 0#32)) ^^^ mulL n (a <<< 1) (byx b) = M := by
  subst hn
  rw [mulL] at h
  rw [BitVec.xor_assoc]; exact h
/-- the bit of w that is k places below the highest -/
def bitAt (w : BitVec 32) (k : Nat) : Bool := (w <<< k).msb
theorem bas_nz : ∀ k, k < 32 → (iv (bas k) != 0) = true := by decide
theorem bas_z : (iv (bas 32) != 0) = false := by decide
theorem bas_half (k : Nat) : iv (bas k) / (2 : Int) = iv (bas (k + 1)) := by
  rw [iv_div2, bas, bas, BitVec.shiftRight_add]
theorem and_bas (w : BitVec 32) (k : Nat) (hk : k < 32) : (bits .and .u32 (iv w) (iv (bas k)) != 0) = bitAt w k := by
  rw [bits_and]
  have hb : ∀ i, (bas k).getLsbD i = decide (i = 31 - k) := by
    intro i
    unfold bas one
    rw [BitVec.getLsbD_ushiftRight]
    have : (0x80000000#32) = BitVec.twoPow 32 31 := by decide
    rw [this, BitVec.getLsbD_twoPow]
    by_cases h : i = 31 - k
    · subst h; simp; omega
    · simp [h]; omega
  have e : bitAt w k = w.getLsbD (31 - k) := by
    unfold bitAt
    rw [BitVec.msb_eq_getLsbD_last, BitVec.getLsbD_shiftLeft]
    have : ¬ 31 < k := by omega
    simp [this]
  rw [e]
  cases hw : w.getLsbD (31 - k) with
  | false =>
    have : w &&& bas k = 0#32 := by
      apply BitVec.eq_of_getLsbD_eq
      intro i _
      rw [BitVec.getLsbD_and, hb]
      by_cases h : i = 31 - k
      · subst h; simp [hw]
      · simp [h]
    rw [this]; rfl
  | true =>
    have : w &&& bas k ≠ 0#32 := by
      intro h
      have h2 := congrArg (fun z : BitVec 32 => z.getLsbD (31 - k)) h
      simp [hb, hw] at h2
    simp only [bne_iff_ne, ne_eq]
    intro h
    exact this (iv_inj h)
theorem shl_zero (a : BitVec 32) (k : Nat) : (iv (a <<< k) == 0) = decide (a <<< k = 0#32) := by
  rw [Bool.eq_iff_iff]
  simp
  constructor
  · intro h; exact iv_inj h
  · intro h; rw [h]; rfl
theorem shl_test (a : BitVec 32) (k : Nat) : (iv a * (2 : Int) ^ k % (4294967296 : Int) == 0) = decide (a <<< k = 0#32) := by
  have h := wrap_shl a k
  have e : IntKind.u32.wrap (iv a * 2 ^ k) = iv a * (2 : Int) ^ k % (4294967296 : Int) := by
    simp [IntKind.wrap, IntKind.signed, IntKind.bits]
  rw [e] at h
  rw [h, shl_zero]
theorem mulL_zero (n : Nat) (b : BitVec 32) : mulL n 0#32 b = 0#32 := (mulL_lin_left n b).zero
def enc32 (w : BitVec 32) (k : Fin 32) : Array Value := #[.int .i64 (k.val : Int), .bool (bitAt w k.val)]
def upto (k : Nat) : List (Fin 32) := (List.range k).map fun i => ⟨i % 32, Nat.mod_lt _ (by decide)⟩
theorem upto_succ (k : Nat) (h : k < 32) : upto (k + 1) = upto k ++ [⟨k, h⟩] := by
  simp [upto, List.range_succ, Nat.mod_eq_of_lt h]
theorem upto_length (k : Nat) : (upto k).length = k := by simp [upto]
/-- the product so far, when these places have come -/
def prodOf (a b : BitVec 32) : List (Fin 32) → BitVec 32
  | [] => 0#32
  | k :: r => (if bitAt a k.val then b else 0#32) ^^^ prodOf a (byx b) r
theorem prodOf_snoc (a b : BitVec 32) (pre : List (Fin 32)) (k : Fin 32) :
    prodOf a b (pre ++ [k]) = prodOf a b pre ^^^ (if bitAt a k.val then iter pre.length b else 0#32) := by
  induction pre generalizing b with
  | nil => simp [prodOf, iter]
  | cons j r ih =>
    rw [List.cons_append, prodOf, ih, prodOf, BitVec.xor_assoc]
    rfl
theorem prodOf_yes {a b : BitVec 32} {pre : List (Fin 32)} {k : Fin 32} (h : bitAt a k.val = true) : prodOf a b pre ^^^ iter pre.length b = prodOf a b (pre ++ [k]) := by
  rw [prodOf_snoc, if_pos h]
theorem prodOf_no {a b : BitVec 32} {pre : List (Fin 32)} {k : Fin 32} (h : bitAt a k.val = false) : prodOf a b pre = prodOf a b (pre ++ [k]) := by
  rw [prodOf_snoc, h]; simp
theorem prodOf_mul (a b : BitVec 32) (n : Nat) (hn : n ≤ 32) : prodOf a b (upto n) ^^^ mulL (32 - n) (a <<< n) (iter n b) = mul a b := by
  induction n with
  | zero => simp [upto, prodOf, mul, iter]
  | succ n ih =>
    have h := mul_step (n := 32 - (n + 1)) (m := 32 - n) (by omega) (ih (by omega))
    rw [upto_succ n (by omega), prodOf_snoc, upto_length, iter_succ', BitVec.shiftLeft_add]
    exact h
theorem prodOf_all (a b : BitVec 32) : prodOf a b (upto 32) = mul a b := by
  have h := prodOf_mul a b 32 (Nat.le_refl _)
  simpa [mulL] using h
theorem prodOf_stop {a b : BitVec 32} {k : Nat} {pre : List (Fin 32)} {x : Fin 32} (hk : k < 32) (he : upto (k + 1) = pre ++ [x]) (hz : a <<< x.val = 0#32) : prodOf a b pre = mul a b := by
  rw [upto_succ k hk] at he
  obtain ⟨h1, h2⟩ := List.append_inj' he rfl
  have hx : x.val = k := by
    have := congrArg (fun l : List (Fin 32) => l.map (·.val)) h2
    simp at this
    exact this.symm
  rw [← h1]
  have h := prodOf_mul a b k (by omega)
  rw [hx] at hz
  rw [hz, mulL_zero] at h
  simpa using h
end Go.Proofs.Sm
namespace Go.Proofs.Sm
open Go.RowKit
/-- a byte as the walk's number -/
def ib (x : BitVec 8) : Int := x.toNat
theorem ib_lo (x : BitVec 8) : 0 ≤ ib x := by unfold ib; omega
theorem ib_hi (x : BitVec 8) : ib x < 256 := by
  have := x.isLt
  unfold ib; omega
theorem ib_inj {x y : BitVec 8} (h : ib x = ib y) : x = y := by
  unfold ib at h
  exact BitVec.eq_of_toNat_eq (by omega)
theorem ib_iv (x : BitVec 8) : ib x = iv (x.setWidth 32) := by
  have := x.isLt
  unfold ib iv
  simp
  omega
def byteCell (c : BitVec 8) : Value := .int .u8 (ib c)
/-- the address A is that of cells that hold the bytes l, in a block below B; where there are none, nothing is said -/
def Rd (w : World) (B : Nat) (A : Option Addr) (l : List (BitVec 8)) : Prop :=
  0 < l.length → ∃ b off, A = some ⟨b, off, none⟩ ∧ b < B ∧ ∀ j c, l[j]? = some c → w.cell? ⟨b, off + j, none⟩ = some (.int .u8 (ib c))
section
variable {w w' : World} {B B' : Nat} {A : Option Addr} {l : List (BitVec 8)}
theorem Rd.nil : Rd w B A [] := fun h => absurd h (by simp)
theorem Rd.keep (h : Rd w B A l) (hk : ∀ p : Addr, p.block < B → w'.cell? p = w.cell? p) : Rd w' B A l := fun hn => by
  obtain ⟨b, off, rfl, hb, hc⟩ := h hn
  exact ⟨b, off, rfl, hb, fun j c hj => (hk _ hb).trans (hc j c hj)⟩
theorem Rd.more (h : Rd w B A l) (hB : B ≤ B') : Rd w B' A l := fun hn => by
  obtain ⟨b, off, rfl, hb, hc⟩ := h hn
  exact ⟨b, off, rfl, by omega, hc⟩
theorem Rd.below (h : Rd w B A l) (hb : Below B w w') : Rd w' B A l := h.keep fun _ hp => hb.cell hp
theorem Rd.belowTo (h : Rd w B A l) {N : Nat} (hb : Below N w w') (hN : B ≤ N) : Rd w' B A l := h.keep fun _ hp => hb.cell (by omega)
theorem Rd.alloc (h : Rd w B A l) (hB : B ≤ w.heap.size) (o : Obj) : Rd (w.alloc o) B A l := h.keep fun p hp => World.cell?_alloc_lt w o p (by omega)
theorem Rd.setCell (h : Rd w B A l) {p : Addr} (hB : B ≤ p.block) (u : Value) : Rd (w.setCell p u) B A l :=
  h.keep fun q hq => World.cell?_setCell_other w p q u (fun e => by subst e; omega)
theorem Rd.take (h : Rd w B A l) (k : Nat) : Rd w B A (l.take k) := fun hn => by
  have h0 : 0 < l.length := by rw [List.length_take] at hn; omega
  obtain ⟨b, off, rfl, hb, hc⟩ := h h0
  refine ⟨b, off, rfl, hb, fun j c hj => hc j c ?_⟩
  rw [List.getElem?_take] at hj
  split at hj
  · exact hj
  · cases hj
/-- the cell at k -/
theorem Rd.at_ (h : Rd w B A l) {k : Nat} (hk : k < l.length) : ∃ b off, A = some ⟨b, off, none⟩ ∧ b < B ∧ w.cell? ⟨b, off + k, none⟩ = some (.int .u8 (ib l[k])) := by
  obtain ⟨b, off, rfl, hb, hc⟩ := h (by omega)
  exact ⟨b, off, rfl, hb, hc k _ (List.getElem?_eq_getElem hk)⟩
end
end Go.Proofs.Sm
namespace Go.Proofs
open Go.RowKit Go.Shelf Sm
/-- all but the blocks of S lies as it lay -/
structure Sm.But (S : Nat → Prop) (w w' : World) : Prop where
  os : w'.os = w.os
  tape : w'.tape = w.tape
  output : w'.output = w.output
  size : w.heap.size ≤ w'.heap.size
  block : ∀ k, k < w.heap.size → ¬ S k → w'.heap[k]? = w.heap[k]?
namespace Sm
section
variable {S S' : Nat → Prop} {w w1 w' : World}
theorem But.refl (S : Nat → Prop) (w : World) : But S w w := ⟨rfl, rfl, rfl, Nat.le_refl _, fun _ _ _ => rfl⟩
theorem But.trans (h : But S w w1) (k : But S' w1 w') (hS : ∀ b, b < w.heap.size → S' b → S b) : But S w w' :=
  ⟨k.os.trans h.os, k.tape.trans h.tape, k.output.trans h.output, Nat.le_trans h.size k.size, fun b hb hn => (k.block b (Nat.lt_of_lt_of_le hb h.size) (fun e => hn (hS b hb e))).trans (h.block b hb hn)⟩
theorem But.mono (h : But S w w') (hS : ∀ b, b < w.heap.size → S b → S' b) : But S' w w' := ⟨h.os, h.tape, h.output, h.size, fun b hb hn => h.block b hb (fun e => hn (hS b hb e))⟩
theorem But.grown {row : Option Nat} (h : w.grownBy w' row) : But (fun b => row = some b) w w' := ⟨h.os, h.tape, h.output, h.size, fun b hb hn => h.block b hb (fun e => hn e.symm)⟩
theorem But.to_grown {row : Option Nat} (h : But (fun b => row = some b) w w') : w.grownBy w' row := ⟨h.os, h.tape, h.output, h.size, fun b hb hn => h.block b hb (fun e => hn e.symm)⟩
theorem But.of_below {n : Nat} (h : Below n w w') : But (fun b => n ≤ b) w w' := ⟨h.os, h.tape, h.output, h.size, fun b _ hn => h.block b (by omega)⟩
theorem But.of_all (h : Below w.heap.size w w') (S : Nat → Prop) : But S w w' := ⟨h.os, h.tape, h.output, h.size, fun b hb _ => h.block b hb⟩
theorem But.to_below {n : Nat} (h : But S w w') (hn : n ≤ w.heap.size) (hS : ∀ b, S b → n ≤ b) : Below n w w' := ⟨h.os, h.tape, h.output, h.size, fun b hb => h.block b (by omega) (fun e => by have := hS b e; omega)⟩
theorem But.below {w0 : World} (hb : Below w0.heap.size w0 w) (h : But S w w') (hS : ∀ b, S b → w0.heap.size ≤ b) : Below w0.heap.size w0 w' := hb.trans (h.to_below hb.size hS)
theorem But.cell (h : But S w w') {p : Addr} (hp : p.block < w.heap.size) (hn : ¬ S p.block) : w'.cell? p = w.cell? p := World.cell?_of_block (h.block _ hp hn)
theorem But.frozen (h : But S w w') {p : Addr} (hp : p.block < w.heap.size) (hn : ¬ S p.block) : w'.frozen? p = w.frozen? p := World.frozen?_of_block (h.block _ hp hn)
theorem But.row (h : But S w w') {base : Nat} {e : TypeId} {size : Nat} {v : Value} {n : Nat} {xs : List Value} (ho : w.ownsRow base e size v n xs) (hn : ∀ g, v.ownBlock = some g → ¬ S g) : w'.ownsRow base e size v n xs := by
  refine ⟨ho.1, ?_⟩
  rcases ho.2 with h2 | ⟨g, cap, cur, rfl, hb, hg, r⟩
  · exact .inl h2
  · exact .inr ⟨g, cap, cur, rfl, hb, (h.block g (Array.getElem?_eq_some_iff.1 hg).1 (hn g rfl)).trans hg, r⟩
theorem But.box (h : But S w w') {b : Nat} {o : Obj} (hb : w.heap[b]? = some o) (hn : ¬ S b) : w'.heap[b]? = some o := (h.block b (Array.getElem?_eq_some_iff.1 hb).1 hn).trans hb
theorem But.rd (h : But S w w') {A : Option Addr} {l : List (BitVec 8)} {B : Nat} (hr : Rd w B A l) (hB : B ≤ w.heap.size) (hn : ∀ b, b < B → ¬ S b) : Rd w' B A l := hr.keep fun p hp => h.cell (by omega) (hn _ hp)
theorem But.alloc (h : But S w w') (o : Obj) : But S w (w'.alloc o) := ⟨h.os, h.tape, h.output, Nat.le_trans h.size (by simp), fun b hb hn => (Below.heap_alloc w' o b (Nat.lt_of_lt_of_le hb h.size)).trans (h.block b hb hn)⟩
theorem But.set (h : But S w w') (p : Addr) (v : Value) (hp : S p.block ∨ w.heap.size ≤ p.block) : But S w (w'.setCell p v) :=
  ⟨h.os, h.tape, h.output, Nat.le_trans h.size (by simp), fun b hb hn => (Below.heap_setCell w' p v b (fun e => by subst e; rcases hp with hp | hp; exact hn hp; omega)).trans (h.block b hb hn)⟩
theorem But.drew (h : But S w w') : But S w w'.drew := ⟨h.os, h.tape, h.output, h.size, h.block⟩
end
/-- cells that are read, in a block outside S -/
def Rds (w : World) (S : Nat → Prop) (A : Option Addr) (cs : List Value) : Prop :=
  0 < cs.length → ∃ b off, A = some ⟨b, off, none⟩ ∧ b < w.heap.size ∧ ¬ S b ∧ ∀ j c, cs[j]? = some c → w.cell? ⟨b, off + j, none⟩ = some c
theorem Rds.but {w w' : World} {S S' : Nat → Prop} {A : Option Addr} {cs : List Value} (h : Rds w S A cs) (hb : But S' w w') (hS : ∀ b, S' b → S b) : Rds w' S A cs := fun hn => by
  obtain ⟨b, off, rfl, hlt, hns, hc⟩ := h hn
  exact ⟨b, off, rfl, Nat.lt_of_lt_of_le hlt hb.size, hns, fun j c hj => (hb.cell (p := ⟨b, off + j, none⟩) hlt (fun e => hns (hS _ e))).trans (hc j c hj)⟩
/-- a row stays where it lay, or is a new one -/
def Stays (w : World) (v v' : Value) : Prop := v'.ownBlock = v.ownBlock ∨ ∀ g, v'.ownBlock = some g → w.heap.size ≤ g
theorem Stays.refl (w : World) (v : Value) : Stays w v v := .inl rfl
theorem Stays.of {w : World} {v v' : Value} (h : v'.ownBlock = v.ownBlock ∨ v'.ownBlock = some w.heap.size) : Stays w v v' := by
  rcases h with h | h
  · exact .inl h
  · exact .inr fun g e => by rw [h] at e; cases e; exact Nat.le_refl _
theorem Stays.after {w w1 : World} {v v' : Value} (h : Stays w1 v v') (hs : w.heap.size ≤ w1.heap.size) : Stays w v v' := by
  rcases h with h | h
  · exact .inl h
  · exact .inr fun g e => Nat.le_trans hs (h g e)
theorem Stays.trans {w w1 : World} {v v1 v' : Value} (h : Stays w v v1) (k : Stays w1 v1 v') (hs : w.heap.size ≤ w1.heap.size) : Stays w v v' := by
  rcases k with k | k
  · rcases h with h | h
    · exact .inl (k.trans h)
    · exact .inr fun g e => h g (k.symm.trans e)
  · exact .inr fun g e => Nat.le_trans hs (k g e)
/-- a block that was not the row's is not the row's later -/
theorem Stays.other {w : World} {v v' : Value} (h : Stays w v v') {b : Nat} (hb : b < w.heap.size) (hn : v.ownBlock ≠ some b) : v'.ownBlock ≠ some b := by
  rcases h with h | h
  · rw [h]; exact hn
  · intro e; have := h b e; omega
/-- the row of the later value, at an old block, is the earlier one's -/
theorem Stays.back {w : World} {v v' : Value} (h : Stays w v v') {b : Nat} (hb : b < w.heap.size) (e : v'.ownBlock = some b) : v.ownBlock = some b := by
  rcases h with h | h
  · rw [← h]; exact e
  · have := h b e; omega
theorem But.rows {w w1 w' : World} {v v1 : Value} (h : But (fun b => v.ownBlock = some b) w w1) (hs : Stays w v v1) (k : But (fun b => v1.ownBlock = some b) w1 w') : But (fun b => v.ownBlock = some b) w w' :=
  h.trans k fun _ hb e => hs.back hb e
end Sm
end Go.Proofs
namespace Go.Proofs
open Go Go.RowKit Sm
/-- what speaks of blocks below L alone -/
def Sm.LowJ (L : Nat) (J : Nat → World → Prop) : Prop := ∀ k W W', J k W → Below L W W' → J k W'
/-- the blocks that a round may turn -/
def Sm.RoundMay (X : Nat → Prop) (lo hi : Nat) (row : Array Value → Nat → Prop) (args : Array Value) : Nat → Prop := fun b => X b ∨ (lo ≤ b ∧ b < hi) ∨ row args b
/-- **what an iterator promises** -/
def Sm.SeqX (P : Program) (g : Nat) (lb : Array Value) (X : Nat → Prop) (H : Nat → Nat → Array Value → World → Prop) (row : Array Value → Nat → Prop) (Go : Nat → Prop) (S Sp : Nat → Prop) (w : World) : Prop :=
  ∀ (l : Nat) (J Jx : Nat → World → Prop) (W : World), Below w.heap.size w W → LowJ W.heap.size J → LowJ W.heap.size Jx →
    (∀ k args W1, J k W1 → H W.heap.size k args W1 → YieldAt Fence.wide 1 P l args W1 fun e W' =>
      (e = .returned (.bool true) ∧ Go k ∧ J (k + 1) W' ∧ But (RoundMay X w.heap.size W.heap.size row args) W1 W') ∨ (e = .returned (.bool false) ∧ Jx (k + 1) W' ∧ But (RoundMay X w.heap.size W.heap.size row args) W1 W')) →
    J 0 W → Calls P g (#[.func (.yield l) #[] #[]] ++ lb) W fun e W' => (∃ v, e = .returned v) ∧ ((∃ k, S k ∧ J k W') ∨ (∃ k, Sp k ∧ Jx k W'))
theorem Sm.roundIn_any {m m' : Nat} {P : Program} {l : Nat} {f : FuncId} {tmps : Array Value} {assign body : Code} {w : World} {R : Ending → World → Prop} (h : RoundIn Fence.wide m P l f tmps assign body w R) : RoundIn Fence.wide m' P l f tmps assign body w R :=
  ⟨h.1, fun c cs _ => h.2 c cs (fun d hd => by cases hd)⟩
/-- how the body of a round may be left -/
def Sm.postX (Go : Nat → Prop) (X : Nat → Prop) (row : Array Value → Nat → Prop) (args : Array Value) (I : Nat → World → Prop) (Ix : Code → Nat → World → Prop) (k : Nat) (W : World) : Exit → Act → World → Prop
  | .normal, _, W' => Go k ∧ But (fun b => X b ∨ row args b) W W' ∧ I (k + 1) W'
  | .ret, _, W' => But (fun b => X b ∨ row args b) W W' ∧ Ix .ret (k + 1) W'
  | .exit id, _, W' => But (fun b => X b ∨ row args b) W W' ∧ Ix (.exit id) (k + 1) W'
  | .goto t, _, W' => But (fun b => X b ∨ row args b) W W' ∧ Ix (.goto t) (k + 1) W'
  | .panic _, _, _ => False
  | .outgrown, _, _ => False
theorem Sm.put_but (W : World) (r : Nat) (o : Obj) : But (fun b => b = r) W (W.putObj r o) :=
  ⟨rfl, rfl, rfl, by simp, fun _ _ hn => World.putObj_heap_other hn⟩
theorem Sm.LowJ.but {L : Nat} {J : Nat → World → Prop} (h : LowJ L J) {k : Nat} {S : Nat → Prop} {W W' : World} (hJ : J k W) (hb : But S W W') (hL : L ≤ W.heap.size) (hS : ∀ b, S b → L ≤ b) : J k W' := h k W W' hJ (hb.to_below hL hS)
set_option maxHeartbeats 1000000 in
/-- **the law of the loop** -/
theorem Sm.wpIn_range {P : Program} {g : Operand} {ps : Array Tmp} {assign body : Code} {Q : Exit → Act → World → Prop} {a : Act} {w : World} {n : Nat} {gf : Nat} {lb : Array Value}
    (hg : a.eval g = .func (.func gf) #[] lb) (eg : ∀ args w, (callFunc gf args).run P w = .ok (.enter gf args) w)
    {X : Nat → Prop} {H : Nat → Nat → Array Value → World → Prop} {row : Array Value → Nat → Prop} {Go S Sp : Nat → Prop} (hseq : SeqX P gf lb X H row Go S Sp w)
    (hX : ∀ b, X b → b < w.heap.size) (hH : ∀ k args W W', H (w.heap.size + 2) k args W → But (fun b => b < w.heap.size + 2) W W' → H (w.heap.size + 2) k args W')
    (hrow : ∀ k args W b, H (w.heap.size + 2) k args W → row args b → w.heap.size + 2 ≤ b) (hps : ∀ k args W, H (w.heap.size + 2) k args W → args.size = ps.size)
    (I : Nat → World → Prop) (Ix : Code → Nat → World → Prop) (hI : LowJ w.heap.size I) (hIx : ∀ c, LowJ w.heap.size (Ix c)) (h0 : I 0 w) (Ax : Array Value → Act → World → Prop)
    (hAx : ∀ args a' W W', Ax args a' W → But (fun b => b < w.heap.size + 2) W W' → Ax args a' W')
    (hassign : ∀ (l k : Nat) (args : Array Value) (W : World) (K : Act → World → Prop), w.heap.size + 2 ≤ W.heap.size → I k W → H (w.heap.size + 2) k args W → (∀ a' W', Below W.heap.size W W' → Ax args a' W' → K a' W') →
      assign.wpIn (Fence.wide.inRound l) (n - 1 - 1) P (Exit.then K (fun _ _ _ => False)) { tmps := (ps.zip args).foldl (fun t (p, v) => t.setIfInBounds p v) a.tmps, defers := [] } W)
    (hbody : ∀ (l k : Nat) (args : Array Value) (a' : Act) (W : World), w.heap.size + 2 ≤ W.heap.size → I k W → H (w.heap.size + 2) k args W → Ax args a' W → body.wpIn (Fence.wide.inRound l) (n - 1 - 1) P (postX Go X row args I Ix k W) a' W)
    (hdone : ∀ (k : Nat) (W : World), S k → I k W → W.heap[w.heap.size]? = some (.deferred (some [])) → Q .normal { a with defers := { target := .collected w.heap.size, args := #[] } :: a.defers } W)
    (hstop : ∀ (c : Code) (k : Nat) (W : World), Sp k → Ix c k W → W.heap[w.heap.size]? = some (.deferred (some [])) → c.wpIn Fence.wide n P Q { a with defers := { target := .collected w.heap.size, args := #[] } :: a.defers } W) :
    (Code.rangeFunc g ps assign body).wpIn Fence.wide n P Q a w := by
  refine wpIn_rangeFunc ?_
  intro fn hfn
  obtain ⟨rec, hrec⟩ : ∃ rec : LoopState → Option Code → Loop, rec = fun st pe => { state := st, pending := pe, fn, tmps := a.tmps, params := ps, assign, body, defers := w.heap.size } := ⟨_, rfl⟩
  obtain ⟨W1, hW1⟩ : ∃ W1, (w.alloc (.deferred (some []))).alloc (.loop (rec .ready none)) = W1 := ⟨_, rfl⟩
  have hs1 : W1.heap.size = w.heap.size + 2 := by rw [← hW1]; simp
  have hb1 : Below w.heap.size w W1 := by rw [← hW1]; exact ((Below.refl _ w).alloc (Nat.le_refl _) _).alloc (by simp) _
  have hL1 : W1.heap[w.heap.size + 1]? = some (.loop (rec .ready none)) := by
    rw [← hW1]; have := World.alloc_heap_new (w.alloc (.deferred (some []))) (.loop (rec .ready none)); rwa [World.size_alloc] at this
  have hK1 : W1.heap[w.heap.size]? = some (.deferred (some [])) := by
    rw [← hW1]; exact (Below.heap_alloc _ _ _ (by simp)).trans (World.alloc_heap_new w _)
  refine ⟨w.heap.size + 1, [{ target := .collected w.heap.size, args := #[] }], W1, { target := .fn (.func gf) lb, args := #[.func (.yield (w.heap.size + 1)) #[] #[]] }, W1, gf,
    #[.func (.yield (w.heap.size + 1)) #[] #[]] ++ lb, W1, ?_, ?_, ?_, ?_, (fun h => by cases h), callsIn_wide.2 ?_⟩
  · rw [← hW1, hrec]; exact run_enterLoop_outer _ _ _ _ _
  · simp only [resolve, hg]
    simp [go_sem]
  · intro f' hf'; trivial
  · simp [invoke, go_sem, eg]
  · have keep : ∀ {st : LoopState} {pe : Option Code} {W W' : World}, W.heap[w.heap.size + 1]? = some (.loop (rec st pe)) ∧ W.heap[w.heap.size]? = some (.deferred (some [])) → Below (w.heap.size + 2) W W' → W'.heap[w.heap.size + 1]? = some (.loop (rec st pe)) ∧ W'.heap[w.heap.size]? = some (.deferred (some [])) :=
      fun h hb => ⟨(hb.block _ (by omega)).trans h.1, (hb.block _ (by omega)).trans h.2⟩
    refine (hseq (w.heap.size + 1)
      (fun k W => I k W ∧ w.heap.size + 2 ≤ W.heap.size ∧ (W.heap[w.heap.size + 1]? = some (.loop (rec .ready none)) ∧ W.heap[w.heap.size]? = some (.deferred (some []))))
      (fun k W => ∃ c, Ix c k W ∧ (W.heap[w.heap.size + 1]? = some (.loop (rec .done (some c))) ∧ W.heap[w.heap.size]? = some (.deferred (some []))))
      W1 hb1
      (fun k W W' h hb => ⟨hI k W W' h.1 (hb.mono (by omega)), Nat.le_trans h.2.1 hb.size, keep h.2.2 (by rw [hs1] at hb; exact hb)⟩)
      (fun k W W' h hb => by
        obtain ⟨c, hc, h2⟩ := h
        exact ⟨c, hIx c k W W' hc (hb.mono (by omega)), keep h2 (by rw [hs1] at hb; exact hb)⟩)
      ?_ ⟨hI 0 w W1 h0 hb1, by omega, hL1, hK1⟩).mono ?_
    · rintro k args W ⟨hi, hsz, hl, hk⟩ hh
      rw [hs1] at hh ⊢
      have hlt : w.heap.size + 1 < W.heap.size := (Array.getElem?_eq_some_iff.1 hl).1
      have hy := run_yield (P := P) (args := args) hl (by rw [hrec]; exact hps _ _ _ hh)
      rw [hrec] at hy
      refine ⟨fn, _, assign, body, hy, roundIn_any (m := n - 1 - 1) (roundIn_of_wpIn hfn (hassign _ k args W _ hsz hi hh ?_))⟩
      intro a' Wa hba hax
      have hla : Wa.heap[w.heap.size + 1]? = some (.loop (rec .ready none)) := (hba.block _ hlt).trans hl
      have hka : Wa.heap[w.heap.size]? = some (.deferred (some [])) := (hba.block _ (by omega)).trans hk
      have hlta : w.heap.size + 1 < Wa.heap.size := (Array.getElem?_eq_some_iff.1 hla).1
      refine ⟨_, run_beginRound hla (by rw [hrec]), ?_⟩
      have hb2 := put_but Wa (w.heap.size + 1) (.loop { rec .ready none with state := .busy })
      have hl2 : (Wa.putObj (w.heap.size + 1) (.loop { rec .ready none with state := .busy })).heap[w.heap.size + 1]? = some (.loop { rec .ready none with state := .busy }) := World.putObj_heap_same hlta
      have hk2 : (Wa.putObj (w.heap.size + 1) (.loop { rec .ready none with state := .busy })).heap[w.heap.size]? = some (.deferred (some [])) := (World.putObj_heap_other (by omega)).trans hka
      have hia : I k Wa := hI k W Wa hi (hba.mono (by omega))
      have hi2 : I k (Wa.putObj (w.heap.size + 1) (.loop { rec .ready none with state := .busy })) := hI.but hia hb2 (by omega) (fun b e => by omega)
      have hha : H (w.heap.size + 2) k args Wa := hH k args W Wa hh (But.of_all hba _)
      have hh2 := hH k args Wa _ hha (hb2.mono fun b _ e => by omega)
      have hax2 := hAx args a' Wa _ hax (hb2.mono fun b _ e => by omega)
      refine wpIn_mono (hbody _ k args a' _ (by simp; omega) hi2 hh2 hax2) ?_
      have fin : ∀ (jump : Option Code) (W3 : World), But (fun b => X b ∨ row args b) (Wa.putObj (w.heap.size + 1) (.loop { rec .ready none with state := .busy })) W3 →
          (Instr.endRound (w.heap.size + 1) jump).run P W3 = .ok (.bool jump.isNone) (W3.putObj (w.heap.size + 1) (.loop (rec (if jump.isNone then .ready else .done) jump))) ∧
          w.heap.size + 2 ≤ W3.heap.size ∧
          ((W3.putObj (w.heap.size + 1) (.loop (rec (if jump.isNone then .ready else .done) jump))).heap[w.heap.size + 1]? = some (.loop (rec (if jump.isNone then .ready else .done) jump)) ∧
          (W3.putObj (w.heap.size + 1) (.loop (rec (if jump.isNone then .ready else .done) jump))).heap[w.heap.size]? = some (.deferred (some []))) ∧
          But (RoundMay X w.heap.size (w.heap.size + 2) row args) W (W3.putObj (w.heap.size + 1) (.loop (rec (if jump.isNone then .ready else .done) jump))) := fun jump W3 hk3 => by
        have hno : ∀ b, b = w.heap.size + 1 ∨ b = w.heap.size → ¬ (X b ∨ row args b) := fun b hb e => by
          rcases e with e | e
          · have := hX b e; omega
          · have := hrow _ _ _ _ hh2 e; omega
        have hl3 := hk3.box hl2 (hno _ (.inl rfl))
        have hk4 := hk3.box hk2 (hno _ (.inr rfl))
        have hlt3 := (Array.getElem?_eq_some_iff.1 hl3).1
        have := run_endRound (P := P) jump hl3
        rw [hrec] at this ⊢
        refine ⟨this, by omega, ⟨World.putObj_heap_same hlt3, (World.putObj_heap_other (by omega)).trans hk4⟩, ?_⟩
        have hmay : ∀ b, b = w.heap.size + 1 → RoundMay X w.heap.size (w.heap.size + 2) row args b := fun b e => .inr (.inl (by omega))
        have c1 : But (RoundMay X w.heap.size (w.heap.size + 2) row args) W (Wa.putObj (w.heap.size + 1) (.loop { rec .ready none with state := .busy })) := (But.of_all hba _).trans hb2 (fun b _ e => hmay b e)
        have c2 := c1.trans hk3 (fun b _ e => by
          rcases e with e | e
          · exact .inl e
          · exact .inr (.inr e))
        exact c2.trans (put_but W3 _ _) (fun b _ e => hmay b e)
      rintro e a3 W3 hp
      cases e with
      | normal =>
        obtain ⟨hgo, hk3, hi3⟩ := hp
        obtain ⟨hr, hz, hlk, hbt⟩ := fin none W3 hk3
        exact ⟨_, _, hr, .inl ⟨rfl, hgo, ⟨hI.but hi3 (put_but W3 _ _) (by omega) (fun b e => by omega), by simpa using hz, hlk⟩, hbt⟩⟩
      | ret =>
        obtain ⟨hk3, hi3⟩ := hp
        obtain ⟨hr, hz, hlk, hbt⟩ := fin (some .ret) W3 hk3
        exact ⟨_, _, hr, .inr ⟨rfl, ⟨.ret, (hIx _).but hi3 (put_but W3 _ _) (by omega) (fun b e => by omega), hlk⟩, hbt⟩⟩
      | exit id =>
        obtain ⟨hk3, hi3⟩ := hp
        obtain ⟨hr, hz, hlk, hbt⟩ := fin (some (.exit id)) W3 hk3
        exact ⟨_, _, hr, .inr ⟨rfl, ⟨.exit id, (hIx _).but hi3 (put_but W3 _ _) (by omega) (fun b e => by omega), hlk⟩, hbt⟩⟩
      | goto t =>
        obtain ⟨hk3, hi3⟩ := hp
        obtain ⟨hr, hz, hlk, hbt⟩ := fin (some (.goto t)) W3 hk3
        exact ⟨_, _, hr, .inr ⟨rfl, ⟨.goto t, (hIx _).but hi3 (put_but W3 _ _) (by omega) (fun b e => by omega), hlk⟩, hbt⟩⟩
      | panic ch => exact hp.elim
      | outgrown => exact hp.elim
    · rintro e W2 ⟨⟨v, rfl⟩, (⟨k, hS, hi, hz, hl, hk⟩ | ⟨k, hSp, c, hi, hl, hk⟩)⟩
      · have hlt : w.heap.size + 1 < W2.heap.size := (Array.getElem?_eq_some_iff.1 hl).1
        exact ⟨none, _, by have := run_endLoop (P := P) hl (by rw [hrec]; simp); rw [hrec] at this; exact this, hdone k _ hS (hI.but hi (put_but W2 _ _) (by omega) (fun b e => by omega)) ((World.putObj_heap_other (by omega)).trans hk)⟩
      · have hlt : w.heap.size + 1 < W2.heap.size := (Array.getElem?_eq_some_iff.1 hl).1
        exact ⟨some c, _, by have := run_endLoop (P := P) hl (by rw [hrec]; simp); rw [hrec] at this; exact this, hstop c k _ hSp ((hIx c).but hi (put_but W2 _ _) (by omega) (fun b e => by omega)) ((World.putObj_heap_other (by omega)).trans hk)⟩
/-- **the law of a loop of two variables that are not boxed** -/
theorem Sm.wpIn_range2 {P : Program} {g : Operand} {ps : Array Tmp} {assign body : Code} {Q : Exit → Act → World → Prop} {a : Act} {w : World} {n : Nat} {gf : Nat} {lb : Array Value}
    (hg : a.eval g = .func (.func gf) #[] lb) (eg : ∀ args w, (callFunc gf args).run P w = .ok (.enter gf args) w)
    {X : Nat → Prop} {H : Nat → Nat → Array Value → World → Prop} {row : Array Value → Nat → Prop} {Go S Sp : Nat → Prop} (hseq : SeqX P gf lb X H row Go S Sp w)
    (hX : ∀ b, X b → b < w.heap.size) (hH : ∀ k args W W', H (w.heap.size + 2) k args W → But (fun b => b < w.heap.size + 2) W W' → H (w.heap.size + 2) k args W')
    (hrow : ∀ k args W b, H (w.heap.size + 2) k args W → row args b → w.heap.size + 2 ≤ b) (p1 p2 q1 q2 : Nat) (hps : ps = #[p1, p2]) (hargs : ∀ k args W, H (w.heap.size + 2) k args W → ∃ x v, args = #[x, v])
    (I : Nat → World → Prop) (Ix : Code → Nat → World → Prop) (hI : LowJ w.heap.size I) (hIx : ∀ c, LowJ w.heap.size (Ix c)) (h0 : I 0 w)
    (hassign : ∀ (l : Nat) (x v : Value) (W : World) (K : Act → World → Prop), K { tmps := (((a.tmps.setIfInBounds p1 x).setIfInBounds p2 v).setIfInBounds q1 x).setIfInBounds q2 v, defers := [] } W →
      assign.wpIn (Fence.wide.inRound l) (n - 1 - 1) P (Exit.then K (fun _ _ _ => False)) { tmps := (a.tmps.setIfInBounds p1 x).setIfInBounds p2 v, defers := [] } W)
    (hbody : ∀ (l k : Nat) (x v : Value) (W : World), w.heap.size + 2 ≤ W.heap.size → I k W → H (w.heap.size + 2) k #[x, v] W → body.wpIn (Fence.wide.inRound l) (n - 1 - 1) P (postX Go X row #[x, v] I Ix k W) { tmps := (((a.tmps.setIfInBounds p1 x).setIfInBounds p2 v).setIfInBounds q1 x).setIfInBounds q2 v, defers := [] } W)
    (hdone : ∀ (k : Nat) (W : World), S k → I k W → W.heap[w.heap.size]? = some (.deferred (some [])) → Q .normal { a with defers := { target := .collected w.heap.size, args := #[] } :: a.defers } W)
    (hstop : ∀ (c : Code) (k : Nat) (W : World), Sp k → Ix c k W → W.heap[w.heap.size]? = some (.deferred (some [])) → c.wpIn Fence.wide n P Q { a with defers := { target := .collected w.heap.size, args := #[] } :: a.defers } W) :
    (Code.rangeFunc g ps assign body).wpIn Fence.wide n P Q a w := by
  subst hps
  refine wpIn_range hg eg hseq hX hH hrow (fun k args W h => by obtain ⟨x, v, rfl⟩ := hargs k args W h; rfl) I Ix hI hIx h0
    (fun args a' _ => ∀ x v, args = #[x, v] → a' = { tmps := (((a.tmps.setIfInBounds p1 x).setIfInBounds p2 v).setIfInBounds q1 x).setIfInBounds q2 v, defers := [] }) (fun _ _ _ _ h _ => h) ?_ ?_ hdone hstop
  · intro l k args W K _ _ hh hK
    obtain ⟨x, v, rfl⟩ := hargs k args W hh
    have := hassign l x v W K (hK _ _ (Below.refl _ _) (fun x' v' e => by simp at e; obtain ⟨rfl, rfl⟩ := e; rfl))
    simpa using this
  · intro l k args a' W hs hi hh hax
    obtain ⟨x, v, rfl⟩ := hargs k args W hh
    rw [hax x v rfl]
    exact hbody l k x v W hs hi hh
end Go.Proofs
namespace Go.Proofs
open Go Go.RowKit Sm
/-- **the law of a loop of one variable that is not boxed** -/
theorem Sm.wpIn_range1 {P : Program} {g : Operand} {ps : Array Tmp} {assign body : Code} {Q : Exit → Act → World → Prop} {a : Act} {w : World} {n : Nat} {gf : Nat} {lb : Array Value}
    (hg : a.eval g = .func (.func gf) #[] lb) (eg : ∀ args w, (callFunc gf args).run P w = .ok (.enter gf args) w)
    {X : Nat → Prop} {H : Nat → Nat → Array Value → World → Prop} {row : Array Value → Nat → Prop} {Go S Sp : Nat → Prop} (hseq : SeqX P gf lb X H row Go S Sp w)
    (hX : ∀ b, X b → b < w.heap.size) (hH : ∀ k args W W', H (w.heap.size + 2) k args W → But (fun b => b < w.heap.size + 2) W W' → H (w.heap.size + 2) k args W')
    (hrow : ∀ k args W b, H (w.heap.size + 2) k args W → row args b → w.heap.size + 2 ≤ b) (p1 q1 : Nat) (hps : ps = #[p1]) (hargs : ∀ k args W, H (w.heap.size + 2) k args W → ∃ x, args = #[x])
    (I : Nat → World → Prop) (Ix : Code → Nat → World → Prop) (hI : LowJ w.heap.size I) (hIx : ∀ c, LowJ w.heap.size (Ix c)) (h0 : I 0 w)
    (hassign : ∀ (l : Nat) (x : Value) (W : World) (K : Act → World → Prop), K { tmps := (a.tmps.setIfInBounds p1 x).setIfInBounds q1 x, defers := [] } W →
      assign.wpIn (Fence.wide.inRound l) (n - 1 - 1) P (Exit.then K (fun _ _ _ => False)) { tmps := a.tmps.setIfInBounds p1 x, defers := [] } W)
    (hbody : ∀ (l k : Nat) (x : Value) (W : World), w.heap.size + 2 ≤ W.heap.size → I k W → H (w.heap.size + 2) k #[x] W → body.wpIn (Fence.wide.inRound l) (n - 1 - 1) P (postX Go X row #[x] I Ix k W) { tmps := (a.tmps.setIfInBounds p1 x).setIfInBounds q1 x, defers := [] } W)
    (hdone : ∀ (k : Nat) (W : World), S k → I k W → W.heap[w.heap.size]? = some (.deferred (some [])) → Q .normal { a with defers := { target := .collected w.heap.size, args := #[] } :: a.defers } W)
    (hstop : ∀ (c : Code) (k : Nat) (W : World), Sp k → Ix c k W → W.heap[w.heap.size]? = some (.deferred (some [])) → c.wpIn Fence.wide n P Q { a with defers := { target := .collected w.heap.size, args := #[] } :: a.defers } W) :
    (Code.rangeFunc g ps assign body).wpIn Fence.wide n P Q a w := by
  subst hps
  refine wpIn_range hg eg hseq hX hH hrow (fun k args W h => by obtain ⟨x, rfl⟩ := hargs k args W h; rfl) I Ix hI hIx h0
    (fun args a' _ => ∀ x, args = #[x] → a' = { tmps := (a.tmps.setIfInBounds p1 x).setIfInBounds q1 x, defers := [] }) (fun _ _ _ _ h _ => h) ?_ ?_ hdone hstop
  · intro l k args W K _ _ hh hK
    obtain ⟨x, rfl⟩ := hargs k args W hh
    have := hassign l x W K (hK _ _ (Below.refl _ _) (fun x' e => by simp at e; obtain rfl := e; rfl))
    simpa using this
  · intro l k args a' W hs hi hh hax
    obtain ⟨x, rfl⟩ := hargs k args W hh
    rw [hax x rfl]
    exact hbody l k x W hs hi hh
end Go.Proofs
namespace Go
/-- what is shown with more kept is shown with less -/
theorem wpAnyH_mono {P : Program} {md : Region.Mode} {ops : Array Oper} {Q : Exit → Act → World → Prop} {S S' : World → Prop} (hS : ∀ w, S' w → S w) : ∀ (fuel : Nat) (listed : Array Bool) (a : Act) (w : World), wpAnyH P md ops Q S' fuel listed a w → wpAnyH P md ops Q S fuel listed a w
  | 0, _, _, _, h => h
  | fuel + 1, _, _, _, h => ⟨h.1, fun i hi => wpOp_mono (fun a' w' h' => ⟨hS w' h'.1, wpAnyH_mono hS fuel _ a' w' h'.2⟩) (h.2 i hi)⟩
end Go
namespace Go.Proofs
open Go Go.RowKit Sm
section
variable {n : Nat} {P : Program} {ops : Array Oper} {md : Region.Mode}
def Sm.plainOps (ops : Array Oper) : Bool := ops.all fun o => match o.op with
  | .defer _ => false
  | _ => true
theorem Sm.plainOps_spec {ops : Array Oper} (h : plainOps ops = true) {i : Nat} {o : Oper} (ho : ops[i]? = some o) : ∀ c, o.op ≠ .defer c := by
  intro c e
  unfold plainOps at h
  rw [Array.all_eq_true] at h
  obtain ⟨hi, rfl⟩ := Array.getElem?_eq_some_iff.1 ho
  have := h i hi
  rw [e] at this
  simp at this
theorem Sm.wpIn_of_wpR {o : Oper} {a : Act} {K : Act → World → Prop} {Q : Exit → Act → World → Prop} {w : World} {l : Nat} (hnd : ∀ c, o.op ≠ .defer c) (hh : o.wp P a w K Q) : o.wpIn (Fence.wide.inRound l) n P a w K Q := by
  unfold Oper.wp at hh
  unfold Oper.wpIn
  refine ⟨fun _ _ => trivial, ?_⟩
  rw [Oper.semAt_eq _ _ _ hnd]
  generalize (execOp a.eval o).run P w = r at *
  cases r with
  | ok x w' =>
    cases x <;> simp only [Oper.upon] at hh <;> simp only [Oper.uponIn]
    case value u => exact hh
    case skip => exact hh
    case defer d => exact hh
    case enter f args =>
      refine ⟨(fun h => by cases h), CallsIn.inRound l (callsIn_wide.2 ?_)⟩
      exact hh
    case row row args => exact ⟨(fun h => by cases h), fun c cs _ => let ⟨v, w2, r, s⟩ := hh c cs; ⟨v, w2, r, stepsIn_wide.2 s⟩⟩
  | halt x w' =>
    cases x <;> simp only [Oper.upon] at hh
    case panic u => exact hh
theorem Sm.wpOpIn_of_wpR {i : Nat} {a : Act} {K K' : Act → World → Prop} {Q : Exit → Act → World → Prop} {w : World} {l : Nat} (hpl : plainOps ops = true) (hout : ¬ LetsOut Q) (hK : ∀ a w, K a w → K' a w) (hh : wpOp P ops Q i K a w) : wpOpIn (Fence.wide.inRound l) n P ops Q i K' a w := by
  unfold wpOp at hh
  unfold wpOpIn
  split
  · rename_i ho; simp only [ho] at hh; exact hK _ _ hh
  · rename_i o ho
    simp only [ho] at hh
    split
    · rename_i hw
      simp only [hw, if_true] at hh
      rcases hh with hh | hh
      · exact Oper.wpIn_mono hK (wpIn_of_wpR (plainOps_spec hpl ho) hh)
      · exact absurd hh.2 hout
    · rename_i hw
      simp only [hw] at hh
      exact ⟨fun _ _ => trivial, hK _ _ hh⟩
theorem Sm.wpAnyIn_of_anyR {Q : Exit → Act → World → Prop} {l : Nat} (hpl : plainOps ops = true) (hout : ¬ LetsOut Q) : ∀ (fuel : Nat) (listed : Array Bool) (a : Act) (w : World), wpAny P md ops Q fuel listed a w → wpAnyIn (Fence.wide.inRound l) n P md ops Q fuel listed a w
  | 0, _, _, _, h => h
  | fuel + 1, _, _, _, h => ⟨h.1, fun i hi => wpOpIn_of_wpR hpl hout (fun a' w' h' => wpAnyIn_of_anyR hpl hout fuel _ a' w' h') (h.2 i hi)⟩
/-- **the beginning** -/
theorem Sm.wpIn_round_held {id : Nat} {Q : Exit → Act → World → Prop} {a : Act} {w : World} {l : Nat} {S : World → Prop} (hm : P.follows .mixedOrders = true) (hpl : plainOps ops = true) (hout : ¬ LetsOut Q) (hS : S w.drew)
    (h : S w.drew → wpAnyH P .any ops Q S ops.size (Array.replicate ops.size false) a w.drew) : (Code.region id ops true).wpIn (Fence.wide.inRound l) n P Q a w :=
  wpIn_region_any hm (wpAnyIn_of_anyR hpl hout _ _ _ _ (wpAny_of_held _ _ _ _ (h hS)))
end
end Go.Proofs
namespace Go.Proofs.Sm
/-- a word turned by one place -/
def rot1 (w : BitVec 32) : BitVec 32 := (w >>> 1) ||| (w <<< 31)
def rotN : Nat → BitVec 32 → BitVec 32
  | 0, w => w
  | n + 1, w => rot1 (rotN n w)
theorem turn_lin (n m : Nat) (h : n + m = 32) : Lin (fun w : BitVec 32 => (w >>> n) ||| (w <<< m)) := by
  intro a b
  apply BitVec.eq_of_getLsbD_eq
  intro i hi
  simp only [BitVec.getLsbD_or, BitVec.getLsbD_xor, BitVec.getLsbD_ushiftRight, BitVec.getLsbD_shiftLeft]
  by_cases hm : i < m
  · simp [hm]
  · have h1 : 32 ≤ n + i := by omega
    simp [hm, hi, BitVec.getLsbD_of_ge _ _ h1]
theorem rot1_lin : Lin rot1 := turn_lin 1 31 rfl
theorem rotN_lin : ∀ n, Lin (rotN n)
  | 0 => fun _ _ => rfl
  | n + 1 => fun a b => by rw [rotN, rotN_lin n, rot1_lin]; rfl
theorem turn16 (w : BitVec 32) : (w <<< 16) ||| (w >>> 16) = rotN 16 w := by
  rw [BitVec.or_comm]
  revert w
  exact Lin.ext (turn_lin 16 16 rfl) (rotN_lin 16) (by decide +kernel)
theorem turn12 (w : BitVec 32) : (w <<< 20) ||| (w >>> 12) = rotN 12 w := by
  rw [BitVec.or_comm]
  revert w
  exact Lin.ext (turn_lin 12 20 rfl) (rotN_lin 12) (by decide +kernel)
theorem turn8 (w : BitVec 32) : (w <<< 24) ||| (w >>> 8) = rotN 8 w := by
  rw [BitVec.or_comm]
  revert w
  exact Lin.ext (turn_lin 8 24 rfl) (rotN_lin 8) (by decide +kernel)
theorem turn7 (w : BitVec 32) : (w <<< 25) ||| (w >>> 7) = rotN 7 w := by
  rw [BitVec.or_comm]
  revert w
  exact Lin.ext (turn_lin 7 25 rfl) (rotN_lin 7) (by decide +kernel)
theorem bits_or (x y : BitVec 32) : bits .or .u32 (iv x) (iv y) = iv (x ||| y) := by
  show IntKind.u32.wrap ((BitVec.ofInt 32 (iv x) ||| BitVec.ofInt 32 (iv y)).toNat : Int) = _
  rw [ofInt_iv, ofInt_iv, wrap_u32]
theorem iv_add (x y : BitVec 32) : (iv x + iv y) % (4294967296 : Int) = iv (x + y) := by
  unfold iv
  rw [BitVec.toNat_add]
  simp
theorem iv_add_wrap (x y : BitVec 32) : IntKind.u32.wrap (iv x + iv y) = iv (x + y) := by
  rw [← iv_add]
  simp [IntKind.wrap, IntKind.signed, IntKind.bits]
theorem rot1_num (x : BitVec 32) : iv x / (2 : Int) + 2147483648 * (iv x % (2 : Int)) = iv (rot1 x) := by
  have e : iv (rot1 x) = iv (x >>> 1) + iv (x <<< 31) := by
    unfold rot1 iv
    rw [BitVec.toNat_or]
    have h1 : (x <<< 31).toNat = 2147483648 * (x.toNat % 2) := by
      rw [BitVec.toNat_shiftLeft, Nat.shiftLeft_eq]
      have := x.isLt
      omega
    have h2 : (x >>> 1).toNat < 2 ^ 31 := by
      rw [BitVec.toNat_ushiftRight, Nat.shiftRight_eq_div_pow]
      have := x.isLt
      omega
    rw [h1, Nat.or_comm, show 2147483648 = 2 ^ 31 from rfl, ← Nat.two_pow_add_eq_or_of_lt h2]
    omega
  rw [e]
  have h1 := iv_div2 x
  have h2 := shl1 (x <<< 30)
  have h3 : iv (x <<< 31) = 2147483648 * (iv x % 2) := by
    unfold iv
    rw [BitVec.toNat_shiftLeft, Nat.shiftLeft_eq]
    have := x.isLt
    omega
  rw [← h1, h3]
/-- half of a mixing -/
structure Q4 where
  a : BitVec 32
  b : BitVec 32
  c : BitVec 32
  d : BitVec 32
def halfS (q : Q4) (x : BitVec 32) (far near : Nat) : Q4 :=
  let a := q.a + (q.b + x)
  let d := rotN far (q.d ^^^ a)
  let c := q.c + d
  let b := rotN near (q.b ^^^ c)
  ⟨a, b, c, d⟩
def mixS (q : Q4) (x y : BitVec 32) : Q4 := halfS (halfS q x 16 12) y 8 7
/-- words as the values of memory -/
def wv (x : BitVec 32) : Value := .int .u32 (iv x)
def Q4.cells (q : Q4) : Array Value := #[.int .u32 (iv q.a), .int .u32 (iv q.b), .int .u32 (iv q.c), .int .u32 (iv q.d)]
end Go.Proofs.Sm
namespace Go.Proofs
open Go.RowKit Sm
theorem Sm.grownBy_of_below {w w' : World} (h : Below w.heap.size w w') (row : Option Nat) : w.grownBy w' row := ⟨h.os, h.tape, h.output, h.size, fun k hk _ => h.block k hk⟩
theorem Sm.Rd.news {w : World} {B : Nat} {ad : Addr} {l : List (BitVec 8)} (h : Rd w B (some ad) l) : ∀ (j : Nat) (u : Value), (l.map byteCell)[j]? = some u → w.cell? (ad.add j) = some u := by
  intro j u hu
  rw [List.getElem?_map] at hu
  obtain ⟨c, hc, rfl⟩ := Option.map_eq_some_iff.1 hu
  have hj := (List.getElem?_eq_some_iff.1 hc).1
  obtain ⟨b, off, e, _, hcell⟩ := h (by omega)
  obtain rfl := Option.some.inj e
  have hadd : (⟨b, off, none⟩ : Addr).add j = ⟨b, off + j, none⟩ := by unfold Addr.add; split <;> simp_all
  rw [hadd]
  exact hcell j c hc
theorem Sm.byteCell_one (l : List (BitVec 8)) : ∀ u ∈ l.map byteCell, u.oneCell' = true := by
  intro u hu
  obtain ⟨c, _, rfl⟩ := List.mem_map.1 hu
  rfl
theorem Sm.Rd.of_own {w : World} {base N n c : Nat} {A : Option Addr} {l : List (BitVec 8)} (h : w.ownsRow base 5 1 (.slice A n c) n (l.map byteCell)) (hN : w.heap.size ≤ N) : Rd w N A l := by
  intro hl
  have hn : 0 < n := by have := h.1; simp at this; omega
  obtain ⟨g, cap, hv, _, hlt⟩ := h.form hn
  have hA : A = some ⟨g, 0, none⟩ := by injection hv
  subst hA
  refine ⟨g, 0, rfl, by omega, fun j c hj => ?_⟩
  have hjl := (List.getElem?_eq_some_iff.1 hj).1
  rw [Nat.zero_add, h.cellAt j (by have := h.1; simp at this; omega), List.getElem?_map, hj]
  rfl
section
variable {P : Program} (w : World)
/-- append of bytes that are read, nil or not, behind a row of the call's own -/
theorem Sm.run_append_rd (base : Nat) (t ty e : TypeId) (i : TypeInfo) (z : Value) (ht : P.underlying t = some (.slice e)) (hi : P.info? e = some i) (hz : i.zero = some z)
    (hsize : i.size = 1) (hby : i.bytes = 1) (hzs : z.cells.size = 1)
    (v : Value) (n : Nat) (xs : List Value) (hown : w.ownsRow base e 1 v n xs)
    (B : Nat) (A : Option Addr) (m c : Nat) (l : List (BitVec 8)) (hl : l.length = m) (hr : Rd w B A l) (hnm : n + m ≤ 1000000000) (hbase : base ≤ w.heap.size) :
    ∃ v' w', (Builtin.append_ #[t, t] ty #[v, .slice A m c]).run P w = .ok v' w' ∧ w'.ownsRow base e 1 v' (n + m) (xs ++ l.map byteCell) ∧ w.grownBy w' v.ownBlock ∧
      (v'.ownBlock = v.ownBlock ∨ v'.ownBlock = some w.heap.size) := by
  subst hl
  rcases A with _ | ad
  · have hn : l = [] := by
      cases l with
      | nil => rfl
      | cons x r =>
        obtain ⟨b, off, h, _⟩ := hr (by simp)
        cases h
    subst hn
    refine ⟨v, w, ?_, by simpa using hown, World.grownBy.refl w _, .inl rfl⟩
    rcases hown.2 with ⟨rfl, rfl⟩ | ⟨g, cap, cur, rfl, _, _, hnc, _⟩
    · simp [Builtin.append_, run_underlying ht, sizeOf, typeInfo, hi, Builtin.lenOf, Builtin.firstCells]
    · simp [Builtin.append_, run_underlying ht, sizeOf, typeInfo, hi, Builtin.lenOf, Builtin.firstCells, hnc, storeCells]
  · obtain ⟨v', w', h1, h2, h3, _, h5⟩ := run_append_own_at (P := P) w base t ty e i z 1 1 ht hi hz hsize hby hzs (by decide) v n xs hown ad l.length c (l.map byteCell) (by simp) hr.news (byteCell_one l)
      (by unfold maxLen; omega) (by omega) hbase
    exact ⟨v', w', h1, h2, h3, h5⟩
theorem Sm.wpList_append_rd {ops : Array Oper} {rest : List Oper} {o : Oper} {a : Act} {Q : Exit → Act → World → Prop} (hgd : o.guard = none) (s x : Operand) (t : TypeId)
    (ho : o.op = .call { callee := .builtin .append, args := #[s, x], argTypes := #[t, t] })
    (base : Nat) (e : TypeId) (i : TypeInfo) (z : Value) (ht : P.underlying t = some (.slice e)) (hi : P.info? e = some i) (hz : i.zero = some z)
    (hsize : i.size = 1) (hby : i.bytes = 1) (hzs : z.cells.size = 1)
    (v : Value) (n : Nat) (xs : List Value) (hs : a.eval s = v) (hown : w.ownsRow base e 1 v n xs)
    (B : Nat) (A : Option Addr) (m c : Nat) (l : List (BitVec 8)) (hx : a.eval x = .slice A m c) (hl : l.length = m) (hr : Rd w B A l) (hnm : n + m ≤ 1000000000) (hbase : base ≤ w.heap.size)
    (h : ∀ v' w', w'.ownsRow base e 1 v' (n + m) (xs ++ l.map byteCell) → w.grownBy w' v.ownBlock → (v'.ownBlock = v.ownBlock ∨ v'.ownBlock = some w.heap.size) → wpList P ops Q rest (a.put o.dst v') w') :
    wpList P ops Q (o :: rest) a w := by
  refine wpList_plain hgd fun K hK => ?_
  obtain ⟨v', w', hr', h2, h3, h4⟩ := run_append_rd (P := P) w base t o.type e i z ht hi hz hsize hby hzs v n xs hown B A m c l hl hr hnm hbase
  unfold Oper.wp execOp
  simp only [ho, resolve, invoke, builtin, Sem.run_bind, Sem.run_pure, Result.andThen_ok, List.map_toArray, List.map_cons, List.map_nil, hs, hx, hr']
  exact hK _ _ (h v' w' h2 h3 h4)
end
theorem Sm.own_slice {w : World} {base : Nat} {e : TypeId} {v : Value} {n : Nat} {xs : List Value} (h : w.ownsRow base e 1 v n xs) : ∃ A c, v = .slice A n c := by
  rcases h.2 with ⟨rfl, rfl⟩ | ⟨g, cap, cur, rfl, _⟩
  · exact ⟨none, 0, rfl⟩
  · exact ⟨_, _, rfl⟩
theorem Sm.own_below {w w' : World} {base : Nat} {e : TypeId} {size n : Nat} {v : Value} {xs : List Value} (h : w.ownsRow base e size v n xs) (hb : Below w.heap.size w w') : w'.ownsRow base e size v n xs := by
  refine h.kept (grownBy_of_below hb none) ?_
  rcases h' : v.ownBlock with _ | k
  · exact .inl rfl
  · exact .inr (by simp)
end Go.Proofs
namespace Go.Proofs
open Go.RowKit Sm
def Sm.zs (k : Nat) : ByteArray := ⟨(List.replicate k (0 : UInt8)).toArray⟩
theorem Sm.zs_size (k : Nat) : (zs k).size = k := by simp [zs, ByteArray.size]
theorem Sm.zs_cells (k : Nat) : Lib.strCells (zs k) = (List.replicate k 0#8).map byteCell := by
  simp [Lib.strCells, zs, byteCell, ib]
theorem Sm.zero_cells (k : Nat) : Builtin.zeroCells (Value.int .u8 0).cells k = ((List.replicate k 0#8).map byteCell).toArray := by
  apply Array.ext'
  simp [Builtin.zeroCells, Value.cells, byteCell, ib, Nat.mod_one]
  rw [List.eq_replicate_iff]
  simp
section
variable {P : Program} (w : World)
theorem Sm.zeros_run (t tn u ty e : TypeId) (i : TypeInfo) (kq kn : IntKind) (ht : P.underlying t = some (.slice e)) (htn : P.underlying tn = some (.int kn)) (hu : P.underlying u = some .string) (hi : P.info? e = some i) (hz : i.zero = some (.int .u8 0))
    (hsize : i.size = 1) (hby : i.bytes = 1) (b : Option Addr) (n c k : Nat) (hk : 0 < k) (hnk : n + k ≤ 1000000000) :
    (Builtin.append_ #[t, tn] ty #[.slice b n c, .int kq k]).run P w = (Builtin.append_ #[t, u] ty #[.slice b n c, .string (zs k)]).run P w := by
  have hw : IntKind.i64.wrap (k : Int) = k := by rw [IntKind.wrap_i64]; omega
  have hneg : ¬ ((k : Int) < 0) := by omega
  have hns : ¬ (k = 0) := by omega
  have h48i : ¬ (281474976710656 < (k : Int)) := by omega
  have hzc := zero_cells k
  have hf : ∀ w, (Builtin.firstCells 1 k (.string (zs k))).run P w = .ok ((List.replicate k 0#8).map byteCell).toArray w := fun w => by
    have := Lib.run_firstCells_string (P := P) w 1 (zs k)
    rw [zs_size, zs_cells] at this
    exact this
  by_cases hr : n + k ≤ c
  · simp [Builtin.append_, run_underlying ht, run_underlying htn, run_underlying hu, sizeOf, typeInfo, zeroValue, hi, hz, hsize, hby, asInt, asIntOf, hw, hneg, hns, h48i, Builtin.lenOf, zs_size, hr, hf, hzc]
  · have h63' : ¬ (9223372036854775807 < ((n : Int) + (k : Int))) := by omega
    have hfit := growslice_fits (old := c) (need := n + k) (bytes := 1) (by omega) (by omega)
    have h48' : ¬ (281474976710656 < Builtin.nextslicecap (n + k) c) := by omega
    simp [Builtin.append_, run_underlying ht, run_underlying htn, run_underlying hu, sizeOf, typeInfo, zeroValue, hi, hz, hsize, hby, asInt, asIntOf, hw, hneg, hns, h48i, Builtin.lenOf, zs_size, hr, hf, hzc, h63', h48']
theorem Sm.wpList_append_zeros {ops : Array Oper} {rest : List Oper} {o : Oper} {a : Act} {Q : Exit → Act → World → Prop} (hgd : o.guard = none) (s x : Operand) (t tn u : TypeId)
    (ho : o.op = .call { callee := .builtin .append, args := #[s, x], argTypes := #[t, tn] })
    (base : Nat) (e : TypeId) (i : TypeInfo) (kq kn : IntKind) (ht : P.underlying t = some (.slice e)) (htn : P.underlying tn = some (.int kn)) (hu : P.underlying u = some .string) (hi : P.info? e = some i) (hz : i.zero = some (.int .u8 0))
    (hsize : i.size = 1) (hby : i.bytes = 1)
    (v : Value) (n : Nat) (xs : List Value) (hs : a.eval s = v) (hown : w.ownsRow base e 1 v n xs)
    (k : Nat) (hx : a.eval x = .int kq (k : Int)) (hk : 0 < k) (hnm : n + k ≤ 1000000000) (hbase : base ≤ w.heap.size)
    (h : ∀ v' w', w'.ownsRow base e 1 v' (n + k) (xs ++ (List.replicate k 0#8).map byteCell) → w.grownBy w' v.ownBlock → wpList P ops Q rest (a.put o.dst v') w') :
    wpList P ops Q (o :: rest) a w := by
  refine wpList_plain hgd fun K hK => ?_
  obtain ⟨v', w', hr, h2, h3, _⟩ := Lib.run_append_own_string (P := P) w base t u o.type e i ht hu hi hz hsize hby v n xs hown (zs k) (by rw [zs_size]; unfold maxLen; omega) (by rw [zs_size]; omega) hbase
  rw [zs_size, zs_cells] at h2
  have hrun : (Builtin.append_ #[t, tn] o.type #[v, .int kq (k : Int)]).run P w = .ok v' w' := by
    rw [← hr]
    rcases hown.2 with ⟨rfl, rfl⟩ | ⟨g, cap, cur, rfl, _⟩
    · exact zeros_run w t tn u o.type e i kq kn ht htn hu hi hz hsize hby none 0 0 k hk (by omega)
    · exact zeros_run w t tn u o.type e i kq kn ht htn hu hi hz hsize hby _ n cap k hk hnm
  unfold Oper.wp execOp
  simp only [ho, resolve, invoke, builtin, Sem.run_bind, Sem.run_pure, Result.andThen_ok, List.map_toArray, List.map_cons, List.map_nil, hs, hx, hrun]
  exact hK _ _ (h v' w' h2 h3)
end
end Go.Proofs
namespace Go.Proofs
open Go
section
variable {F : Fence} {n : Nat} {P : Program} {w : World} {ops : Array Oper} {rest : List Oper} {o : Oper} {a : Act} {Q : Exit → Act → World → Prop}
theorem Sm.wpListIn_load_mid (hgd : o.guard = none) (ty : TypeId) (x : Operand) (ho : o.op = .load ty x)
    (b off : Nat) (hx : a.eval x = .pointer (some ⟨b, off, none⟩)) (cs : List Value) (d : TypeDesc) (hc : w.rangeAt b off cs)
    (hu : P.underlying ty = some d) (hd : d.isRow = true) (hi : (P.info? ty).map (·.size) = some cs.length)
    (h : wpListIn F n P ops Q rest (a.put o.dst (.agg cs.toArray)) w) : wpListIn F n P ops Q (o :: rest) a w := by
  refine wpListIn_plain hgd fun K hK' => ?_
  have hr : (execOp a.eval o).run P w = .ok (.value (.agg cs.toArray)) w := by
    unfold execOp
    simp only [ho, hx, Instr.loadAt, Instr.sureAddr, Sem.run_bind, Sem.run_pure, Result.andThen_ok, run_loadVar_mid w b off ty cs d hc hu hd hi]
  unfold Oper.wpIn
  refine ⟨by simp [Oper.about, ho], ?_⟩
  rw [Oper.semAt_plain F _ _ (by rw [ho]; intro c hc'; cases hc'), hr]
  exact hK' _ _ h
theorem Sm.wpListIn_store_row (hgd : o.guard = none) (ty : TypeId) (x y : Operand) (ho : o.op = .store ty x y)
    (g : Nat) (cells : Array Value) (hx : a.eval x = .pointer (some ⟨g, 0, none⟩)) (hy : a.eval y = .agg cells)
    (t : TypeId) (old : Array Value) (hg : w.heap[g]? = some (.cells old t (0, 0))) (hi : (P.info? ty).map (·.size) = some cells.size)
    (hold : old.size = cells.size) (h1 : cells.all (·.oneCell') = true)
    (h : wpListIn F n P ops Q rest (a.put o.dst undef) (w.setRow g cells)) : wpListIn F n P ops Q (o :: rest) a w := by
  refine wpListIn_plain hgd fun K hK' => ?_
  have hr : (execOp a.eval o).run P w = .ok .skip (w.setRow g cells) := by
    unfold execOp
    simp only [ho, hx, hy, Instr.storeAt, Instr.sureAddr, Sem.run_bind, Sem.run_pure, Result.andThen_ok, run_storeVar_row w g t ty old cells hg hi hold h1]
  unfold Oper.wpIn
  refine ⟨by simp [Oper.about, ho], ?_⟩
  rw [Oper.semAt_plain F _ _ (by rw [ho]; intro c hc'; cases hc'), hr]
  exact hK' _ _ h
theorem Sm.wpListIn_store_mid (hgd : o.guard = none) (ty : TypeId) (x y : Operand) (ho : o.op = .store ty x y)
    (b off : Nat) (cells : Array Value) (hx : a.eval x = .pointer (some ⟨b, off, none⟩)) (hy : a.eval y = .agg cells)
    (ht : w.there b off cells.size) (hi : (P.info? ty).map (·.size) = some cells.size) (h1 : cells.all (·.oneCell') = true)
    (h : wpListIn F n P ops Q rest (a.put o.dst undef) (w.setCells b off cells.toList)) : wpListIn F n P ops Q (o :: rest) a w := by
  refine wpListIn_plain hgd fun K hK' => ?_
  have hr : (execOp a.eval o).run P w = .ok .skip (w.setCells b off cells.toList) := by
    unfold execOp
    simp only [ho, hx, hy, Instr.storeAt, Instr.sureAddr, Sem.run_bind, Sem.run_pure, Result.andThen_ok, run_storeVar_mid w b off ty cells ht hi h1]
  unfold Oper.wpIn
  refine ⟨by simp [Oper.about, ho], ?_⟩
  rw [Oper.semAt_plain F _ _ (by rw [ho]; intro c hc'; cases hc'), hr]
  exact hK' _ _ h
end
end Go.Proofs
namespace Go.Proofs
open Go
theorem Sm.operWp_mono {P : Program} {o : Oper} {a : Act} {w : World} {K K' : Act → World → Prop} {R Q : Exit → Act → World → Prop} (hK : ∀ a w, K a w → K' a w) (hR : ∀ e a w, e ≠ .normal → R e a w → Q e a w) (hL : ¬ LetsOut R)
    (h : o.wp P a w K R) : o.wp P a w K' Q := by
  unfold Oper.wp at *
  generalize (execOp a.eval o).run P w = r at *
  cases r with
  | ok n w' =>
    cases n <;> simp only [Oper.upon] at h ⊢ <;>
      first
        | exact hK _ _ h
        | exact Calls.mono h (fun e w'' he => by
            cases e with
            | returned v => exact hK _ _ he
            | panicked c => exact hR _ _ _ (by simp) he
            | outgrown => exact absurd he hL)
        | exact Rows.mono h (fun _ _ he => hK _ _ he)
  | halt x w' =>
    cases x <;> simp only [Oper.upon] at h ⊢ <;> first | exact hR _ _ _ (by simp) h | exact h
/-- what is asked ahead of the last operation -/
def Sm.tailQ (P : Program) (ops : Array Oper) (Q : Exit → Act → World → Prop) (n : Nat) : Exit → Act → World → Prop
  | .normal, a, w => wpOp P ops Q n (fun a' w' => Q .normal a' w') a w
  | _, _, _ => False
theorem Sm.tailQ_out (P : Program) (ops : Array Oper) (Q : Exit → Act → World → Prop) (n : Nat) : ¬ LetsOut (tailQ P ops Q n) := fun ⟨_, _, h⟩ => h
/-- the shape that is asked, as the kernel looks at it -/
def Sm.popB (md : Region.Mode) (ops : Array Oper) (o : Oper) : Bool :=
  ((List.range ops.size).all fun i => match ops[i]? with
    | some x => x.guard.isNone && x.after.all fun e => decide (e.on < i)
    | none => false) &&
  (o.after.all fun e => decide (e.on < ops.size)) && ((List.range ops.size).all fun i => (o.after.any fun e => Region.binds md e && e.on == i) || (List.range ops.size).any fun k => decide (i < k) && match ops[k]? with
    | some x => x.after.any fun e => Region.binds md e && e.on == i
    | none => false)
section
variable {P : Program} {md : Region.Mode} {ops : Array Oper} {o : Oper} {Q : Exit → Act → World → Prop}
theorem Sm.popB_at (h : popB md ops o = true) {i : Nat} {x : Oper} (hx : ops[i]? = some x) : x.guard = none ∧ ∀ e ∈ x.after, e.on < i := by
  unfold popB at h
  simp only [Bool.and_eq_true, List.all_eq_true, List.mem_range] at h
  have h1 := h.1.1 i (Array.getElem?_eq_some_iff.1 hx).1
  rw [hx] at h1
  simp only [Bool.and_eq_true, Option.isNone_iff_eq_none] at h1
  refine ⟨h1.1, fun e he => ?_⟩
  have := (Array.all_eq_true_iff_forall_mem.1 h1.2) e he
  simpa using this
theorem Sm.popB_last (h : popB md ops o = true) : ∀ e ∈ o.after, e.on < ops.size := by
  unfold popB at h
  simp only [Bool.and_eq_true] at h
  intro e he
  have := (Array.all_eq_true_iff_forall_mem.1 h.1.2) e he
  simpa using this
theorem Sm.popB_waits (h : popB md ops o = true) {i : Nat} (hi : i < ops.size) : (∃ e ∈ o.after, Region.binds md e = true ∧ e.on = i) ∨ ∃ k x, i < k ∧ ops[k]? = some x ∧ ∃ e ∈ x.after, Region.binds md e = true ∧ e.on = i := by
  unfold popB at h
  simp only [Bool.and_eq_true, List.all_eq_true, List.mem_range, Bool.or_eq_true, List.any_eq_true] at h
  rcases h.2 i hi with h | ⟨k, _, hik, h⟩
  · obtain ⟨e, he, hb⟩ := Array.any_eq_true'.1 h
    simp only [Bool.and_eq_true, beq_iff_eq] at hb
    exact .inl ⟨e, he, hb.1, hb.2⟩
  · cases hx : ops[k]? with
    | none => rw [hx] at h; cases h
    | some x =>
      rw [hx] at h
      obtain ⟨e, he, hb⟩ := Array.any_eq_true'.1 h
      simp only [Bool.and_eq_true, beq_iff_eq] at hb
      exact .inr ⟨k, x, by simpa using hik, hx, e, he, hb.1, hb.2⟩
/-- what has come up, what it waits for has -/
def Sm.ClosedL (md : Region.Mode) (ops : Array Oper) (l : Array Bool) : Prop := ∀ (j : Nat) x, ops[j]? = some x → l.getD j false = true → ∀ e ∈ x.after, Region.binds md e = true → l.getD e.on false = true
theorem Sm.all_listed (h : popB md ops o = true) {l : Array Bool} (hc : ClosedL md ops l) (hw : ∀ e ∈ o.after, Region.binds md e = true → l.getD e.on false = true) : ∀ n i, i < ops.size → ops.size - i = n → l.getD i false = true := by
  intro n
  induction n using Nat.strongRecOn with
  | _ n ih =>
    intro i hi hn
    rcases popB_waits h hi with ⟨e, he, hb, rfl⟩ | ⟨k, x, hik, hx, e, he, hb, rfl⟩
    · exact hw e he hb
    · have hk := (Array.getElem?_eq_some_iff.1 hx).1
      exact hc k x hx (ih (ops.size - k) (by omega) k hk rfl) e he hb
theorem Sm.ClosedL.step {l : Array Bool} (hc : ClosedL md ops l) {i : Nat} (hi : i ∈ Region.ready md ops l) (hs : i < l.size) : ClosedL md ops (l.setIfInBounds i true) := by
  obtain ⟨_, x, hx, hall⟩ := mem_ready.1 hi
  have keep : ∀ k, l.getD k false = true → (l.setIfInBounds i true).getD k false = true := fun k hk => by
    by_cases e : i = k
    · subst e; simp [Array.getD, hs]
    · rw [getD_set_ne false e]; exact hk
  intro j y hy hj e he hb
  by_cases e2 : i = j
  · subst e2
    have : y = x := Option.some.inj (hy.symm.trans hx)
    subst this
    exact keep _ (hall e he hb)
  · rw [getD_set_ne false e2] at hj
    exact keep _ (hc j y hy hj e he hb)
theorem Sm.push_getD {l : Array Bool} {i : Nat} (hi : i < l.size) (b d d' : Bool) : (l.push b).getD i d = l.getD i d' := by
  simp [Array.getD, Array.getElem_push, hi, Nat.lt_succ_of_lt hi]
/-- nothing may come up: all has come up -/
theorem Sm.ready_nil (h : popB md ops o = true) {l : Array Bool} (hs : l.size = ops.size) (hr : Region.ready md ops l = []) : ∀ i, i < ops.size → l.getD i false = true := by
  intro i
  induction i using Nat.strongRecOn with
  | _ i ih =>
    intro hi
    cases hb : l.getD i false with
    | true => rfl
    | false =>
      have hx : ops[i]? = some ops[i] := Array.getElem?_eq_getElem hi
      have : i ∈ Region.ready md ops l := by
        rw [mem_ready]
        refine ⟨by simp [Array.getD, hs, hi] at hb ⊢; exact hb, _, hx, fun e he _ => ?_⟩
        have hlt := (popB_at h hx).2 e he
        exact ih e.on hlt (by omega)
      rw [hr] at this
      cases this
theorem Sm.wpAny_pop (h : popB md ops o = true) : ∀ (fuel : Nat) (l : Array Bool) (a : Act) (w : World), l.size = ops.size → ClosedL md ops l → wpAny P md ops (tailQ P (ops.push o) Q ops.size) fuel l a w → wpAny P md (ops.push o) Q (fuel + 1) (l.push false) a w := by
  -- the last one's turn
  have last : ∀ (fuel : Nat) (l : Array Bool) (a : Act) (w : World), l.size = ops.size → Region.ready md ops l = [] → tailQ P (ops.push o) Q ops.size .normal a w → wpAny P md (ops.push o) Q (fuel + 1) (l.push false) a w := by
    intro fuel l a w hs hr ht
    have hall := ready_nil h hs hr
    have hrd : ∀ i, i ∈ Region.ready md (ops.push o) (l.push false) ↔ i = ops.size := by
      intro i
      rw [mem_ready]
      constructor
      · rintro ⟨h0, x, hx, _⟩
        rcases Nat.lt_trichotomy i ops.size with hi | hi | hi
        · rw [push_getD (by omega) false true false, hall i hi] at h0; cases h0
        · exact hi
        · rw [Array.getElem?_eq_none (by simp; omega)] at hx; cases hx
      · rintro rfl
        refine ⟨by simp [Array.getD, hs, Array.getElem_push], o, by simp, fun e he _ => ?_⟩
        have := popB_last h e he
        rw [push_getD (by omega) false false false]
        exact hall _ this
    refine ⟨fun h0 => ?_, fun i hi => ?_⟩
    · have := (hrd ops.size).2 rfl
      rw [h0] at this; cases this
    · obtain rfl := (hrd i).1 hi
      refine wpOp_mono (fun a' w' hq => ?_) ht
      have hnil : Region.ready md (ops.push o) ((l.push false).setIfInBounds ops.size true) = [] := by
        apply List.eq_nil_iff_forall_not_mem.2
        intro i hi
        rw [mem_ready] at hi
        obtain ⟨h0, x, hx, _⟩ := hi
        have hlt : i < (ops.push o).size := (Array.getElem?_eq_some_iff.1 hx).1
        simp only [Array.size_push] at hlt
        by_cases e : i = ops.size
        · subst e; simp [Array.getD, hs] at h0
        · rw [getD_set_ne true (fun e' => e e'.symm), push_getD (by omega) false true false, hall i (by omega)] at h0; cases h0
      exact wpAny_done hnil hq fuel
  intro fuel
  induction fuel with
  | zero =>
    intro l a w hs _ hw
    exact last 0 l a w hs hw.1 hw.2
  | succ fuel ih =>
    intro l a w hs hc hw
    by_cases hr : Region.ready md ops l = []
    · exact last (fuel + 1) l a w hs hr (hw.1 hr)
    · have hrd : ∀ i, i ∈ Region.ready md (ops.push o) (l.push false) → i ∈ Region.ready md ops l ∧ i < ops.size := by
        intro i hi
        rw [mem_ready] at hi
        obtain ⟨h0, x, hx, hall⟩ := hi
        have hlt : i < (ops.push o).size := (Array.getElem?_eq_some_iff.1 hx).1
        simp only [Array.size_push] at hlt
        by_cases e : i = ops.size
        · exfalso
          subst e
          have hxo : x = o := by simpa using hx.symm
          subst hxo
          obtain ⟨j, hj⟩ := List.exists_mem_of_ne_nil _ hr
          obtain ⟨hj0, y, hy, _⟩ := mem_ready.1 hj
          have hjl := (Array.getElem?_eq_some_iff.1 hy).1
          have := all_listed h hc (fun e he hb => by
            have h1 := hall e he hb
            rwa [push_getD (by rw [hs]; exact popB_last h e he) false false false] at h1) _ j hjl rfl
          have hjs : j < l.size := by omega
          simp [Array.getD, hjs] at hj0 this
          rw [hj0] at this; cases this
        · have hi' : i < ops.size := by omega
          have hx' : ops[i]? = some x := by rw [Array.getElem?_push, if_neg (by omega)] at hx; exact hx
          refine ⟨mem_ready.2 ⟨by rw [← push_getD (by omega) false true true]; exact h0, x, hx', fun e he hb => ?_⟩, hi'⟩
          have := (popB_at h hx').2 e he
          rw [← push_getD (by omega) false false false]
          exact hall e he hb
      refine ⟨fun h0 => ?_, fun i hi => ?_⟩
      · exfalso
        obtain ⟨j, hj⟩ := List.exists_mem_of_ne_nil _ hr
        obtain ⟨hj0, y, hy, hya⟩ := mem_ready.1 hj
        have hjl := (Array.getElem?_eq_some_iff.1 hy).1
        have : j ∈ Region.ready md (ops.push o) (l.push false) := by
          refine mem_ready.2 ⟨by rw [push_getD (by omega) false true true]; exact hj0, y, by rw [Array.getElem?_push, if_neg (by omega)]; exact hy, fun e he hb => ?_⟩
          have := (popB_at h hy).2 e he
          rw [push_getD (by omega) false false false]
          exact hya e he hb
        rw [h0] at this; cases this
      · obtain ⟨hir, hlt⟩ := hrd i hi
        have h1 := hw.2 i hir
        have hx : ops[i]? = some ops[i] := Array.getElem?_eq_getElem hlt
        have hx' : (ops.push o)[i]? = some ops[i] := by rw [Array.getElem?_push, if_neg (by omega)]; exact hx
        have hg := (popB_at h hx).1
        have hset : (l.push false).setIfInBounds i true = (l.setIfInBounds i true).push false := by
          have hil : i < l.size := by omega
          cases l with
          | mk l =>
            have hil' : i < l.length := by simpa using hil
            simp [hil']
        unfold wpOp at h1 ⊢
        simp only [hx, hx'] at h1 ⊢
        have hwant : ∀ t, Region.wanted ops[i] t = true := fun t => by simp [Region.wanted, hg]
        rw [if_pos (hwant _)] at h1 ⊢
        refine .inl ?_
        rcases h1 with h1 | ⟨_, h1⟩
        · refine operWp_mono (fun a' w' hh => ?_) (fun e a w hne hq => by cases e <;> first | exact absurd rfl hne | exact hq.elim) (tailQ_out _ _ _ _) h1
          rw [hset]
          exact ih _ a' w' (by simp [hs]) (hc.step hir (by omega)) hh
        · exact absurd h1 (tailQ_out _ _ _ _)
/-- **the law** -/
theorem Sm.wp_region_pop {id : Nat} {a : Act} {w : World} (h : popB .any ops o = true) (hm : P.follows .mixedOrders = true)
    (hw : wpAny P .any ops (tailQ P (ops.push o) Q ops.size) ops.size (Array.replicate ops.size false) a { w with drawn := w.drawn + 1 }) : (Code.region id (ops.push o) true).wp P Q a w := by
  refine wp_region_any hm ?_
  have := wpAny_pop (Q := Q) h ops.size _ a _ (by simp) (fun j x _ hj => by simp [Array.getD] at hj) hw
  have e : (Array.replicate ops.size false).push false = Array.replicate (ops.push o).size false := by
    rw [Array.size_push, Array.replicate_succ]
  rw [e] at this
  rw [Array.size_push]
  rw [Array.size_push] at this
  exact this
theorem Sm.wp_region_popL {id : Nat} {a : Act} {w : World} {l : List Oper} (n : Nat) (hd : l.drop n = [o]) (hn : (l.take n).length = n) (h : popB .any (l.take n).toArray o = true) (hm : P.follows .mixedOrders = true) {S : World → Prop} (hS : S w.drew)
    (hw : S w.drew → wpAnyH P .any (l.take n).toArray (tailQ P l.toArray Q n) S n (Array.replicate n false) a w.drew) : (Code.region id l.toArray true).wp P Q a w := by
  have e : l.toArray = (l.take n).toArray.push o := by
    rw [List.push_toArray, ← hd, List.take_append_drop]
  have hs : (l.take n).toArray.size = n := by simpa using hn
  have h1 := wpAny_of_held _ _ _ _ (hw hS)
  rw [e] at h1 ⊢
  refine wp_region_pop h hm ?_
  rw [hs]
  exact h1
end
end Go.Proofs
namespace Go.Proofs
open Go.RowKit Go.Shelf Sm
/-- the string of these bytes -/
def Sm.strB (l : List (BitVec 8)) : ByteArray := strOfNums (l.map ib)
theorem Sm.strB_inj {a b : List (BitVec 8)} (h : strB a = strB b) : a = b := by
  have h2 : (a.map ib).map (fun n => UInt8.ofNat n.toNat) = (b.map ib).map (fun n => UInt8.ofNat n.toNat) := by
    rw [← strOfNums_data, ← strOfNums_data]
    exact congrArg (fun s : ByteArray => s.data.toList) h
  rw [List.map_map, List.map_map] at h2
  refine (List.map_inj_right ?_).1 h2
  intro x y e
  have hx := x.isLt
  have hy := y.isLt
  have e2 : (UInt8.ofNat (ib x).toNat).toNat = (UInt8.ofNat (ib y).toNat).toNat := congrArg UInt8.toNat e
  simp [ib] at e2
  exact BitVec.eq_of_toNat_eq (by omega)
theorem Sm.strB_eq (a b : List (BitVec 8)) : ((strB a).toList == (strB b).toList) = decide (a = b) := by
  rw [ByteArray.toList_eq, ByteArray.toList_eq]
  by_cases h : a = b
  · subst h; simp
  · rw [decide_eq_false h, beq_eq_false_iff_ne]
    intro e
    refine h (strB_inj ?_)
    generalize strB a = s at e
    generalize strB b = t at e
    cases s; cases t
    simp at e
    rw [e]
theorem Sm.run_str {P : Program} (w : World) (src e : TypeId) (hs : P.underlying src = some (.slice e)) (he : P.underlying e = some (.int .u8)) (l : List (BitVec 8)) (n c B : Nat) (A : Option Addr) (hn : l.length = n) (hr : Rd w B A l)
    (dst : TypeId) (hd : P.underlying dst = some .string) : (convert src dst (.slice A n c)).run P w = .ok (.string (strB l)) w := by
  subst hn
  rcases A with _ | a
  · have : l = [] := by
      cases l with
      | nil => rfl
      | cons x r =>
        obtain ⟨b, off, h, _⟩ := hr (by simp)
        cases h
    subst this
    exact run_convert_bytes_nil w src e hs he 0 c dst hd
  · by_cases h0 : 0 < l.length
    · obtain ⟨b, off, h, hb, hc⟩ := hr h0
      obtain rfl : a = ⟨b, off, none⟩ := Option.some.inj h
      refine run_convert_bytes_arg w src e hs he b off l.length c (l.map ib) (by simp) ?_ dst hd
      intro i hi
      rw [hc i l[i] (List.getElem?_eq_getElem hi)]
      congr 2
      simp [List.getD_eq_getElem?_getD, hi]
    · have : l = [] := List.eq_nil_of_length_eq_zero (by omega)
      subst this
      rw [run_convert_bytes_string w src dst e _ _ c hs he hd]
      have hl : (loadCells a 0).run P w = .ok (([] : List Int).map (Value.int .u8)).toArray w := by
        have := run_loadCells_list (P := P) w a [] (fun j v hj => by simp at hj)
        simpa using this
      have := run_bytesToString w a 0 c [] hl
      have e0 : strB [] = ByteArray.empty := rfl
      rw [e0]
      simpa using this
end Go.Proofs
namespace Go.Proofs.Sm
open Go.RowKit
def wl (l : List (BitVec 32)) : List Value := l.map wv
def wvs (l : List (BitVec 32)) : Array Value := (wl l).toArray
def o8 (n : Nat) : Value := .int .u8 (n : Int)
def ol (l : List Nat) : List Value := l.map o8
def ovs (l : List Nat) : Array Value := (ol l).toArray
theorem wl_length (l : List (BitVec 32)) : (wl l).length = l.length := by simp [wl]
theorem wvs_size (l : List (BitVec 32)) : (wvs l).size = l.length := by simp [wvs, wl]
theorem ovs_size (l : List Nat) : (ovs l).size = l.length := by simp [ovs, ol]
theorem wl_one (l : List (BitVec 32)) : ∀ v ∈ wl l, v.oneCell' = true := by
  intro v hv
  simp only [wl, List.mem_map] at hv
  obtain ⟨x, _, rfl⟩ := hv
  rfl
theorem ol_one (l : List Nat) : ∀ v ∈ ol l, v.oneCell' = true := by
  intro v hv
  simp only [ol, List.mem_map] at hv
  obtain ⟨x, _, rfl⟩ := hv
  rfl
theorem wvs_one (l : List (BitVec 32)) : (wvs l).all (·.oneCell') = true := all_oneCell_toArray (wl_one l)
/-- the block of a row -/
def Blk (w : World) (b : Nat) (t : TypeId) (cs : Array Value) : Prop := w.heap[b]? = some (.cells cs t (0, 0))
section
variable {w w' : World} {b : Nat} {t : TypeId} {cs : Array Value}
theorem Blk.lt (h : Blk w b t cs) : b < w.heap.size := (Array.getElem?_eq_some_iff.1 h).1
theorem Blk.new (w : World) (t : TypeId) (cs : Array Value) : Blk (w.alloc (.cells cs t)) w.heap.size t cs := World.alloc_heap_new w _
theorem Blk.alloc (h : Blk w b t cs) (o : Obj) : Blk (w.alloc o) b t cs := (Below.heap_alloc w o b h.lt).trans h
theorem Blk.below {n : Nat} (h : Blk w b t cs) (hb : Below n w w') (hn : b < n) : Blk w' b t cs := (hb.block b hn).trans h
theorem Blk.keep (h : Blk w b t cs) (hb : Below w.heap.size w w') : Blk w' b t cs := (hb.block b h.lt).trans h
theorem Blk.other (h : Blk w b t cs) {p : Addr} (hp : b ≠ p.block) (v : Value) : Blk (w.setCell p v) b t cs := (Below.heap_setCell w p v b hp).trans h
theorem Blk.drew (h : Blk w b t cs) : Blk w.drew b t cs := h
theorem Blk.frozen (h : Blk w b t cs) (j : Nat) : w.frozen? ⟨b, j, none⟩ = false := frozen_of_row w b j cs t h
theorem Blk.cell (h : Blk w b t cs) (j : Nat) : w.cell? ⟨b, j, none⟩ = cs[j]? := cell_of_row w b j cs t (0, 0) h
theorem Blk.range (h : Blk w b t cs) : w.rangeAt b 0 cs.toList := fun j v hv => by
  rw [Nat.zero_add, h.cell]; simpa using hv
theorem Blk.there (h : Blk w b t cs) {n : Nat} (hn : n ≤ cs.size) : w.there b 0 n := fun j hj => by
  rw [Nat.zero_add]
  exact ⟨by rw [h.cell, Array.getElem?_eq_getElem (by omega)]; rfl, h.frozen j⟩
end
section
variable {w : World} {b : Nat} {t : TypeId} {l : List (BitVec 32)}
theorem Blk.word (h : Blk w b t (wvs l)) {k : Nat} (hk : k < l.length) : w.cell? ⟨b, k, none⟩ = some (.int .u32 (iv (l.getD k 0))) := by
  rw [h.cell]
  simp [wvs, wl, hk, wv]
theorem Blk.setWord (h : Blk w b t (wvs l)) (k : Nat) (x : BitVec 32) : Blk (w.setCell ⟨b, k, none⟩ (.int .u32 (iv x))) b t (wvs (l.set k x)) := by
  have := heap_setCell_same w b k (wvs l) t (.int .u32 (iv x)) h
  have e : (wvs l).setIfInBounds k (.int .u32 (iv x)) = wvs (l.set k x) := by
    simp [wvs, wl, wv, List.map_set]
  rw [e] at this
  exact this
theorem Blk.num {O : List Nat} (h : Blk w b t (ovs O)) {k : Nat} (hk : k < O.length) : w.cell? ⟨b, k, none⟩ = some (.int .u8 ((O.getD k 0 : Nat) : Int)) := by
  rw [h.cell]
  simp [ovs, ol, hk, o8]
end
/-- the places of the words that are mixed -/
def mxL : List (List Nat) := [[0, 4, 8, 12], [1, 5, 9, 13], [2, 6, 10, 14], [3, 7, 11, 15], [0, 5, 10, 15], [1, 6, 11, 12], [2, 7, 8, 13], [3, 4, 9, 14]]
def mx (k j : Nat) : Nat := (mxL.getD k []).getD j 0
theorem mx_lt (k j : Nat) (hk : k < 8) (hj : j < 4) : mx k j < 16 := by
  have : ∀ k, k < 8 → ∀ j, j < 4 → mx k j < 16 := by decide
  exact this k hk j hj
def orL : List (List Nat) := [[0, 1, 2, 3, 4, 5, 6, 7, 8, 9, 10, 11, 12, 13, 14, 15], [14, 10, 4, 8, 9, 15, 13, 6, 1, 12, 0, 2, 11, 7, 5, 3],
  [11, 8, 12, 0, 5, 2, 15, 13, 10, 14, 3, 6, 7, 1, 9, 4], [7, 9, 3, 1, 13, 12, 11, 14, 2, 6, 5, 10, 4, 0, 15, 8], [9, 0, 5, 7, 2, 4, 10, 15, 14, 1, 11, 12, 6, 8, 3, 13],
  [2, 12, 6, 10, 0, 11, 8, 3, 4, 13, 7, 5, 15, 14, 1, 9], [12, 5, 1, 15, 14, 13, 4, 10, 0, 7, 6, 3, 9, 2, 8, 11], [13, 11, 7, 14, 12, 1, 3, 9, 5, 0, 15, 4, 8, 6, 2, 10],
  [6, 15, 14, 9, 11, 3, 0, 8, 12, 2, 13, 7, 1, 4, 10, 5], [10, 2, 8, 4, 7, 6, 1, 5, 15, 11, 9, 14, 3, 12, 13, 0]]
def ord (n : Nat) : List Nat := orL.getD n []
theorem ord_length (n : Nat) (h : n < 10) : (ord n).length = 16 := by
  have : ∀ n, n < 10 → (ord n).length = 16 := by decide
  exact this n h
theorem ord_lt (n : Nat) (h : n < 10) : ∀ o ∈ ord n, o < 16 := by
  have : ∀ n, n < 10 → ∀ o ∈ ord n, o < 16 := by decide
  exact this n h
def beginL : List (BitVec 32) := [0x6a09e667#32, 0xbb67ae85#32, 0x3c6ef372#32, 0xa54ff53a#32, 0x510e527f#32, 0x9b05688c#32, 0x1f83d9ab#32, 0x5be0cd19#32]
/-- the package's tables as they lie in memory -/
def mixV : List Value := mxL.flatMap ol
def ordV : List Value := orL.flatMap ol
structure Tabs (w : World) : Prop where
  size : 4 ≤ w.heap.size
  first : w.rangeAt 0 0 (wl beginL)
  order : w.rangeAt 2 0 ordV
  mixed : w.rangeAt 3 0 mixV
theorem rangeAt_below {w w' : World} {n b o : Nat} {cs : List Value} (h : w.rangeAt b o cs) (hb : Below n w w') (hn : b < n) : w'.rangeAt b o cs := fun j v hv => (hb.cell (p := ⟨b, o + j, none⟩) hn).trans (h j v hv)
theorem Tabs.below {w w' : World} {n : Nat} (h : Tabs w) (hb : Below n w w') (hn : 4 ≤ n) : Tabs w' :=
  ⟨Nat.le_trans h.size hb.size, rangeAt_below h.first hb (by omega), rangeAt_below h.order hb (by omega), rangeAt_below h.mixed hb (by omega)⟩
theorem Tabs.keep {w w' : World} (h : Tabs w) (hb : Below w.heap.size w w') : Tabs w' := h.below hb h.size
def Q4.get (q : Q4) : Nat → BitVec 32
  | 0 => q.a
  | 1 => q.b
  | 2 => q.c
  | _ => q.d
/-- four words put into their places, as far as they have come -/
def setQ (W : List (BitVec 32)) (k : Nat) (q : Q4) : Nat → List (BitVec 32)
  | 0 => W
  | j + 1 => (setQ W k q j).set (mx k j) (q.get j)
theorem setQ_length (W : List (BitVec 32)) (k : Nat) (q : Q4) : ∀ j, (setQ W k q j).length = W.length
  | 0 => rfl
  | j + 1 => by rw [setQ, List.length_set, setQ_length]
def gatherQ (W : List (BitVec 32)) (k : Nat) : Q4 := ⟨W.getD (mx k 0) 0, W.getD (mx k 1) 0, W.getD (mx k 2) 0, W.getD (mx k 3) 0⟩
def stepQ (W M : List (BitVec 32)) (O : List Nat) (k : Nat) : Q4 := mixS (gatherQ W k) (M.getD (O.getD (2 * k) 0) 0) (M.getD (O.getD (2 * k + 1) 0) 0)
/-- the words behind k mixings of a round -/
def rndS (W M : List (BitVec 32)) (O : List Nat) : Nat → List (BitVec 32)
  | 0 => W
  | k + 1 => setQ (rndS W M O k) k (stepQ (rndS W M O k) M O k) 4
theorem rndS_length (W M : List (BitVec 32)) (O : List Nat) : ∀ k, (rndS W M O k).length = W.length
  | 0 => rfl
  | k + 1 => by rw [rndS, setQ_length, rndS_length]
/-- the words behind n rounds -/
def rounds (V M : List (BitVec 32)) : Nat → List (BitVec 32)
  | 0 => V
  | n + 1 => rndS (rounds V M n) M (ord n) 8
theorem rounds_length (V M : List (BitVec 32)) : ∀ n, (rounds V M n).length = V.length
  | 0 => rfl
  | n + 1 => by rw [rounds, rndS_length, rounds_length]
end Go.Proofs.Sm
