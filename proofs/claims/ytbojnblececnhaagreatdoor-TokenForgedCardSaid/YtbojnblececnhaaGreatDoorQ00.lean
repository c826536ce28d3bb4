/-
  The polynomials over bits of CRC-32: the product of words is a commutative, associative one that goes over xor, and powers of x add. No condition.
  Words of 32 bits as the numbers of the walk: what xor, and, shifts and tests of them are. No condition.
  Bytes in memory. No condition.
  Bytes as a string. No condition.
  Between two worlds the blocks of a set may have turned, all others lie as they lay. No condition.
-/
import Derived.Laws.Entries
import Derived.Below
import Derived.Laws.OwnMore
import Derived.Deep.AppendLies
import Derived.Deep.Draws
import Derived.Lib.Hide
import Derived.Laws.BytesArg
import Derived.WalkSpells
import Derived.Shelf.Abstract
import Derived.Lib.AppendStr
import Derived.WalkKit
namespace Go.Proofs.Sm
/-- a word by x -/
def byx (w : BitVec 32) : BitVec 32 := (w >>> 1) ^^^ (if w.getLsbD 0 then 0xedb88320#32 else 0#32)
def iter : Nat → BitVec 32 → BitVec 32
  | 0, w => w
  | n + 1, w => iter n (byx w)
def mulL : Nat → BitVec 32 → BitVec 32 → BitVec 32
  | 0, _, _ => 0#32
  | n + 1, a, b => (if a.msb then b else 0#32) ^^^ mulL n (a <<< 1) (byx b)
def mul (a b : BitVec 32) : BitVec 32 := mulL 32 a b
def one : BitVec 32 := 0x80000000#32
def pw (n : Nat) : BitVec 32 := iter n one
/-- bit number i from above -/
def bas (i : Nat) : BitVec 32 := one >>> i

def Lin (f : BitVec 32 → BitVec 32) : Prop := ∀ a b, f (a ^^^ b) = f a ^^^ f b

theorem Lin.zero {f} (h : Lin f) : f 0#32 = 0#32 := by
  have := h 0#32 0#32
  simpa using this
theorem xor4 (a b c d : BitVec 32) : (a ^^^ b) ^^^ (c ^^^ d) = (a ^^^ c) ^^^ (b ^^^ d) := by
  rw [BitVec.xor_assoc, ← BitVec.xor_assoc b, BitVec.xor_comm b c, BitVec.xor_assoc c, ← BitVec.xor_assoc a]
theorem byx_lin : Lin byx := by
  intro a b
  unfold byx
  rw [xor4, BitVec.ushiftRight_xor_distrib]
  congr 1
  rw [BitVec.getLsbD_xor]
  cases a.getLsbD 0 <;> cases b.getLsbD 0 <;> simp
theorem iter_succ' (n : Nat) (w : BitVec 32) : iter (n + 1) w = byx (iter n w) := by
  induction n generalizing w with
  | zero => rfl
  | succ n ih => rw [iter, ih]; rfl
theorem iter_add (m n : Nat) (w : BitVec 32) : iter (m + n) w = iter m (iter n w) := by
  induction m with
  | zero => simp [iter]
  | succ m ih => rw [Nat.succ_add, iter_succ', ih, iter_succ']
theorem iter_lin (n : Nat) : Lin (iter n) := by
  induction n with
  | zero => intro a b; rfl
  | succ n ih => intro a b; rw [iter, byx_lin, ih]; rfl
theorem mulL_lin_right (n : Nat) (a : BitVec 32) : Lin (mulL n a) := by
  induction n generalizing a with
  | zero => intro b c; simp [mulL]
  | succ n ih =>
    intro b c
    simp only [mulL]
    rw [byx_lin, ih, xor4]
    congr 1
    split <;> simp
theorem mulL_lin_left (n : Nat) (b : BitVec 32) : Lin (fun a => mulL n a b) := by
  induction n generalizing b with
  | zero => intro a c; simp [mulL]
  | succ n ih =>
    intro a c
    simp only [mulL]
    have := ih (byx b) (a <<< 1) (c <<< 1)
    simp only at this
    rw [BitVec.shiftLeft_xor_distrib, this, xor4]
    congr 1
    rw [BitVec.msb_xor]
    cases a.msb <;> cases c.msb <;> simp
theorem mul_lin_right (a : BitVec 32) : Lin (mul a) := mulL_lin_right 32 a
theorem mul_lin_left (b : BitVec 32) : Lin (fun a => mul a b) := mulL_lin_left 32 b
theorem Lin.comp {f g} (hf : Lin f) (hg : Lin g) : Lin (fun a => f (g a)) := by
  intro a b; simp only; rw [hg, hf]
theorem Lin.xor {f g} (hf : Lin f) (hg : Lin g) : Lin (fun a => f a ^^^ g a) := by
  intro a b; simp only; rw [hg, hf, xor4]

/-- two linear maps that agree at each single bit are one -/
theorem Lin.ext {f g : BitVec 32 → BitVec 32} (hf : Lin f) (hg : Lin g) (h : ∀ i, i < 32 → f (bas i) = g (bas i)) : ∀ a, f a = g a := by
  have key : ∀ n, n ≤ 32 → ∀ a : BitVec 32, (∀ i, n ≤ i → a.getLsbD i = false) → f a = g a := by
    intro n
    induction n with
    | zero =>
      intro _ a ha
      have : a = 0#32 := by
        apply BitVec.eq_of_getLsbD_eq
        intro i _
        rw [ha i (Nat.zero_le _)]
        simp
      rw [this, hf.zero, hg.zero]
    | succ n ih =>
      intro hn a ha
      have hb : ∀ i, (bas (31 - n)).getLsbD i = decide (i = n) := by
        intro i
        unfold bas one
        rw [BitVec.getLsbD_ushiftRight]
        have : (0x80000000#32) = BitVec.twoPow 32 31 := by decide
        rw [this, BitVec.getLsbD_twoPow]
        by_cases h : i = n
        · subst h; simp; omega
        · simp [h]; omega
      cases hc : a.getLsbD n with
      | false =>
        refine ih (by omega) a fun i hi => ?_
        by_cases e : i = n
        · rw [e]; exact hc
        · exact ha i (by omega)
      | true =>
        have e : a = (a ^^^ bas (31 - n)) ^^^ bas (31 - n) := by
          rw [BitVec.xor_assoc, BitVec.xor_self, BitVec.xor_zero]
        rw [e, hf, hg, h (31 - n) (by omega)]
        congr 1
        refine ih (by omega) _ fun i hi => ?_
        rw [BitVec.getLsbD_xor, hb]
        by_cases e : i = n
        · rw [e, hc]; simp
        · rw [ha i (by omega)]; simp [e]
  intro a
  refine key 32 (Nat.le_refl _) a fun i hi => ?_
  exact BitVec.getLsbD_of_ge a i hi
theorem pw_bas : ∀ i, i < 32 → pw i = bas i := by decide
theorem mul_byx (a b : BitVec 32) : mul (byx a) b = byx (mul a b) := by
  revert a
  refine Lin.ext ((mul_lin_left b).comp byx_lin) (byx_lin.comp (mul_lin_left b)) ?_
  intro i hi
  revert b
  refine Lin.ext (mul_lin_right _) (byx_lin.comp (mul_lin_right _)) ?_
  revert i
  decide +kernel
theorem mul_iter (n : Nat) (a b : BitVec 32) : mul (iter n a) b = iter n (mul a b) := by
  induction n with
  | zero => rfl
  | succ n ih => rw [iter_succ', iter_succ', mul_byx, ih]
theorem one_mul (b : BitVec 32) : mul one b = b := by
  revert b
  refine Lin.ext (mul_lin_right _) (fun _ _ => rfl) ?_
  decide +kernel
theorem pw_mul (n : Nat) (b : BitVec 32) : mul (pw n) b = iter n b := by rw [pw, mul_iter, one_mul]
theorem pw_add (m n : Nat) : mul (pw m) (pw n) = pw (m + n) := by rw [pw_mul, pw, pw, iter_add]
theorem mul_comm (a b : BitVec 32) : mul a b = mul b a := by
  revert a
  refine Lin.ext (mul_lin_left b) (mul_lin_right b) ?_
  intro i hi
  revert b
  refine Lin.ext (mul_lin_right _) (mul_lin_left _) ?_
  intro j hj
  rw [← pw_bas i hi, ← pw_bas j hj, pw_add, pw_add, Nat.add_comm]
theorem mul_assoc (a b c : BitVec 32) : mul a (mul b c) = mul (mul a b) c := by
  revert a
  refine Lin.ext (mul_lin_left _) ((mul_lin_left c).comp (mul_lin_left b)) ?_
  intro i hi
  rw [← pw_bas i hi, pw_mul, pw_mul, mul_iter]
theorem mul_one (a : BitVec 32) : mul a one = a := by rw [mul_comm, one_mul]
theorem mul_xor (a b c : BitVec 32) : mul a (b ^^^ c) = mul a b ^^^ mul a c := mul_lin_right a b c
end Go.Proofs.Sm
namespace Go.Proofs.Sm
/-- a word as the walk's number -/
def iv (x : BitVec 32) : Int := x.toNat
theorem iv_lo (x : BitVec 32) : 0 ≤ iv x := by unfold iv; omega
theorem iv_hi (x : BitVec 32) : iv x < 4294967296 := by
  have := x.isLt
  unfold iv; omega
theorem iv_inj {x y : BitVec 32} (h : iv x = iv y) : x = y := by
  unfold iv at h
  exact BitVec.eq_of_toNat_eq (by omega)
theorem ofInt_iv (x : BitVec 32) : BitVec.ofInt 32 (iv x) = x := by
  unfold iv
  rw [BitVec.ofInt_natCast]
  simp
theorem wrap_u32 (x : BitVec 32) : IntKind.u32.wrap (x.toNat : Int) = iv x := by
  have := x.isLt
  simp [IntKind.wrap, IntKind.signed, IntKind.bits, iv]
  omega
theorem bits_xor (x y : BitVec 32) : bits .xor .u32 (iv x) (iv y) = iv (x ^^^ y) := by
  show IntKind.u32.wrap ((BitVec.ofInt 32 (iv x) ^^^ BitVec.ofInt 32 (iv y)).toNat : Int) = _
  rw [ofInt_iv, ofInt_iv, wrap_u32]
theorem bits_and (x y : BitVec 32) : bits .and .u32 (iv x) (iv y) = iv (x &&& y) := by
  show IntKind.u32.wrap ((BitVec.ofInt 32 (iv x) &&& BitVec.ofInt 32 (iv y)).toNat : Int) = _
  rw [ofInt_iv, ofInt_iv, wrap_u32]
theorem iv_shr (x : BitVec 32) (k : Nat) : iv x / 2 ^ k = iv (x >>> k) := by
  unfold iv
  rw [BitVec.toNat_ushiftRight, Nat.shiftRight_eq_div_pow]
  simp
theorem wrap_shl (x : BitVec 32) (k : Nat) : IntKind.u32.wrap (iv x * 2 ^ k) = iv (x <<< k) := by
  unfold iv
  rw [BitVec.toNat_shiftLeft, Nat.shiftLeft_eq]
  have e : ((x.toNat * 2 ^ k : Nat) : Int) = (x.toNat : Int) * 2 ^ k := by simp
  rw [← e]
  generalize x.toNat * 2 ^ k = m
  simp [IntKind.wrap, IntKind.signed, IntKind.bits]
theorem iv_div2 (x : BitVec 32) : iv x / (2 : Int) = iv (x >>> 1) := by
  have h := iv_shr x 1
  simpa using h
theorem odd_bit (x : BitVec 32) : (iv x % 2 == 1) = x.getLsbD 0 := by
  unfold iv
  rw [BitVec.getLsbD, Nat.testBit_zero]
  rcases Nat.mod_two_eq_zero_or_one x.toNat with h | h <;> simp [h] <;> omega
theorem and1_bit (x : BitVec 32) : (bits .and .u32 (iv x) 1 == 1) = x.getLsbD 0 := by
  have e : (1 : Int) = iv 1#32 := rfl
  have h : bits .and .u32 (iv x) 1 = iv (x &&& 1#32) := by rw [e, bits_and]
  rw [h, ← odd_bit]
  have e2 : (x &&& 1#32).toNat = x.toNat % 2 := by rw [BitVec.toNat_and]; exact Nat.and_one_is_mod _
  unfold iv
  rw [e2]
  simp
theorem byx_odd {x : BitVec 32} (h : x.getLsbD 0 = true) : bits .xor .u32 (iv x / 2) 3988292384 = iv (byx x) := by
  have e : (3988292384 : Int) = iv 0xedb88320#32 := rfl
  rw [iv_div2, e, bits_xor, byx, if_pos h]
theorem byx_even {x : BitVec 32} (h : x.getLsbD 0 = false) : iv x / 2 = iv (byx x) := by
  rw [iv_div2, byx, h]; simp
theorem msb_bit (x : BitVec 32) : ((iv x).tdiv 2147483648 % 4294967296 == 1) = x.msb := by
  have h := x.isLt
  have h0 := iv_lo x
  have e : (iv x).tdiv 2147483648 = ((x.toNat / 2147483648 : Nat) : Int) := by
    rw [Int.tdiv_eq_ediv_of_nonneg h0]
    unfold iv
    simp
  rw [e, BitVec.msb_eq_decide]
  rw [Bool.eq_iff_iff]
  simp
  omega
theorem shl1 (x : BitVec 32) : (iv x).tmod (2147483648 : Int) * (2 : Int) % (4294967296 : Int) = iv (x <<< 1) := by
  have h := x.isLt
  have h0 := iv_lo x
  rw [Int.tmod_eq_emod_of_nonneg h0]
  unfold iv
  rw [BitVec.toNat_shiftLeft, Nat.shiftLeft_eq]
  simp
  omega
theorem mul_step {o a b M : BitVec 32} {n m : Nat} (hn : m = n + 1) (h : o ^^^ mulL m a b = M) : (o ^^^ (if a.msb then b else 0#32)) ^^^ mulL n (a <<< 1) (byx b) = M := by
  subst hn
  rw [mulL] at h
  rw [BitVec.xor_assoc]; exact h
/-- the bit of w that is k places below the highest -/
def bitAt (w : BitVec 32) (k : Nat) : Bool := (w <<< k).msb
theorem bas_nz : ∀ k, k < 32 → (iv (bas k) != 0) = true := by decide
theorem bas_z : (iv (bas 32) != 0) = false := by decide
theorem bas_half (k : Nat) : iv (bas k) / (2 : Int) = iv (bas (k + 1)) := by
  rw [iv_div2, bas, bas, BitVec.shiftRight_add]
theorem and_bas (w : BitVec 32) (k : Nat) (hk : k < 32) : (bits .and .u32 (iv w) (iv (bas k)) != 0) = bitAt w k := by
  rw [bits_and]
  have hb : ∀ i, (bas k).getLsbD i = decide (i = 31 - k) := by
    intro i
    unfold bas one
    rw [BitVec.getLsbD_ushiftRight]
    have : (0x80000000#32) = BitVec.twoPow 32 31 := by decide
    rw [this, BitVec.getLsbD_twoPow]
    by_cases h : i = 31 - k
    · subst h; simp; omega
    · simp [h]; omega
  have e : bitAt w k = w.getLsbD (31 - k) := by
    unfold bitAt
    rw [BitVec.msb_eq_getLsbD_last, BitVec.getLsbD_shiftLeft]
    have : ¬ 31 < k := by omega
    simp [this]
  rw [e]
  cases hw : w.getLsbD (31 - k) with
  | false =>
    have : w &&& bas k = 0#32 := by
      apply BitVec.eq_of_getLsbD_eq
      intro i _
      rw [BitVec.getLsbD_and, hb]
      by_cases h : i = 31 - k
      · subst h; simp [hw]
      · simp [h]
    rw [this]; rfl
  | true =>
    have : w &&& bas k ≠ 0#32 := by
      intro h
      have h2 := congrArg (fun z : BitVec 32 => z.getLsbD (31 - k)) h
      simp [hb, hw] at h2
    simp only [bne_iff_ne, ne_eq]
    intro h
    exact this (iv_inj h)
theorem shl_zero (a : BitVec 32) (k : Nat) : (iv (a <<< k) == 0) = decide (a <<< k = 0#32) := by
  rw [Bool.eq_iff_iff]
  simp
  constructor
  · intro h; exact iv_inj h
  · intro h; rw [h]; rfl
theorem shl_test (a : BitVec 32) (k : Nat) : (iv a * (2 : Int) ^ k % (4294967296 : Int) == 0) = decide (a <<< k = 0#32) := by
  have h := wrap_shl a k
  have e : IntKind.u32.wrap (iv a * 2 ^ k) = iv a * (2 : Int) ^ k % (4294967296 : Int) := by
    simp [IntKind.wrap, IntKind.signed, IntKind.bits]
  rw [e] at h
  rw [h, shl_zero]
theorem mulL_zero (n : Nat) (b : BitVec 32) : mulL n 0#32 b = 0#32 := (mulL_lin_left n b).zero
def enc32 (w : BitVec 32) (k : Fin 32) : Array Value := #[.int .i64 (k.val : Int), .bool (bitAt w k.val)]
def upto (k : Nat) : List (Fin 32) := (List.range k).map fun i => ⟨i % 32, Nat.mod_lt _ (by decide)⟩
theorem upto_succ (k : Nat) (h : k < 32) : upto (k + 1) = upto k ++ [⟨k, h⟩] := by
  simp [upto, List.range_succ, Nat.mod_eq_of_lt h]
theorem upto_length (k : Nat) : (upto k).length = k := by simp [upto]
/-- the product so far, when these places have come -/
def prodOf (a b : BitVec 32) : List (Fin 32) → BitVec 32
  | [] => 0#32
  | k :: r => (if bitAt a k.val then b else 0#32) ^^^ prodOf a (byx b) r
theorem prodOf_snoc (a b : BitVec 32) (pre : List (Fin 32)) (k : Fin 32) :
    prodOf a b (pre ++ [k]) = prodOf a b pre ^^^ (if bitAt a k.val then iter pre.length b else 0#32) := by
  induction pre generalizing b with
  | nil => simp [prodOf, iter]
  | cons j r ih =>
    rw [List.cons_append, prodOf, ih, prodOf, BitVec.xor_assoc]
    rfl
theorem prodOf_yes {a b : BitVec 32} {pre : List (Fin 32)} {k : Fin 32} (h : bitAt a k.val = true) : prodOf a b pre ^^^ iter pre.length b = prodOf a b (pre ++ [k]) := by
  rw [prodOf_snoc, if_pos h]
theorem prodOf_no {a b : BitVec 32} {pre : List (Fin 32)} {k : Fin 32} (h : bitAt a k.val = false) : prodOf a b pre = prodOf a b (pre ++ [k]) := by
  rw [prodOf_snoc, h]; simp
theorem prodOf_mul (a b : BitVec 32) (n : Nat) (hn : n ≤ 32) : prodOf a b (upto n) ^^^ mulL (32 - n) (a <<< n) (iter n b) = mul a b := by
  induction n with
  | zero => simp [upto, prodOf, mul, iter]
  | succ n ih =>
    have h := mul_step (n := 32 - (n + 1)) (m := 32 - n) (by omega) (ih (by omega))
    rw [upto_succ n (by omega), prodOf_snoc, upto_length, iter_succ', BitVec.shiftLeft_add]
    exact h
theorem prodOf_all (a b : BitVec 32) : prodOf a b (upto 32) = mul a b := by
  have h := prodOf_mul a b 32 (Nat.le_refl _)
  simpa [mulL] using h
theorem prodOf_stop {a b : BitVec 32} {k : Nat} {pre : List (Fin 32)} {x : Fin 32} (hk : k < 32) (he : upto (k + 1) = pre ++ [x]) (hz : a <<< x.val = 0#32) : prodOf a b pre = mul a b := by
  rw [upto_succ k hk] at he
  obtain ⟨h1, h2⟩ := List.append_inj' he rfl
  have hx : x.val = k := by
    have := congrArg (fun l : List (Fin 32) => l.map (·.val)) h2
    simp at this
    exact this.symm
  rw [← h1]
  have h := prodOf_mul a b k (by omega)
  rw [hx] at hz
  rw [hz, mulL_zero] at h
  simpa using h
end Go.Proofs.Sm
namespace Go.Proofs.Sm
open Go.RowKit
/-- a byte as the walk's number -/
def ib (x : BitVec 8) : Int := x.toNat
theorem ib_lo (x : BitVec 8) : 0 ≤ ib x := by unfold ib; omega
theorem ib_hi (x : BitVec 8) : ib x < 256 := by
  have := x.isLt
  unfold ib; omega
theorem ib_inj {x y : BitVec 8} (h : ib x = ib y) : x = y := by
  unfold ib at h
  exact BitVec.eq_of_toNat_eq (by omega)
theorem ib_iv (x : BitVec 8) : ib x = iv (x.setWidth 32) := by
  have := x.isLt
  unfold ib iv
  simp
  omega
def byteCell (c : BitVec 8) : Value := .int .u8 (ib c)
/-- the address A is that of cells that hold the bytes l, in a block below B; where there are none, nothing is said -/
def Rd (w : World) (B : Nat) (A : Option Addr) (l : List (BitVec 8)) : Prop :=
  0 < l.length → ∃ b off, A = some ⟨b, off, none⟩ ∧ b < B ∧ ∀ j c, l[j]? = some c → w.cell? ⟨b, off + j, none⟩ = some (.int .u8 (ib c))
section
variable {w w' : World} {B B' : Nat} {A : Option Addr} {l : List (BitVec 8)}
theorem Rd.nil : Rd w B A [] := fun h => absurd h (by simp)
theorem Rd.keep (h : Rd w B A l) (hk : ∀ p : Addr, p.block < B → w'.cell? p = w.cell? p) : Rd w' B A l := fun hn => by
  obtain ⟨b, off, rfl, hb, hc⟩ := h hn
  exact ⟨b, off, rfl, hb, fun j c hj => (hk _ hb).trans (hc j c hj)⟩
theorem Rd.more (h : Rd w B A l) (hB : B ≤ B') : Rd w B' A l := fun hn => by
  obtain ⟨b, off, rfl, hb, hc⟩ := h hn
  exact ⟨b, off, rfl, by omega, hc⟩
theorem Rd.below (h : Rd w B A l) (hb : Below B w w') : Rd w' B A l := h.keep fun _ hp => hb.cell hp
theorem Rd.belowTo (h : Rd w B A l) {N : Nat} (hb : Below N w w') (hN : B ≤ N) : Rd w' B A l := h.keep fun _ hp => hb.cell (by omega)
theorem Rd.alloc (h : Rd w B A l) (hB : B ≤ w.heap.size) (o : Obj) : Rd (w.alloc o) B A l := h.keep fun p hp => World.cell?_alloc_lt w o p (by omega)
theorem Rd.setCell (h : Rd w B A l) {p : Addr} (hB : B ≤ p.block) (u : Value) : Rd (w.setCell p u) B A l :=
  h.keep fun q hq => World.cell?_setCell_other w p q u (fun e => by subst e; omega)
theorem Rd.take (h : Rd w B A l) (k : Nat) : Rd w B A (l.take k) := fun hn => by
  have h0 : 0 < l.length := by rw [List.length_take] at hn; omega
  obtain ⟨b, off, rfl, hb, hc⟩ := h h0
  refine ⟨b, off, rfl, hb, fun j c hj => hc j c ?_⟩
  rw [List.getElem?_take] at hj
  split at hj
  · exact hj
  · cases hj
/-- the cell at k -/
theorem Rd.at_ (h : Rd w B A l) {k : Nat} (hk : k < l.length) : ∃ b off, A = some ⟨b, off, none⟩ ∧ b < B ∧ w.cell? ⟨b, off + k, none⟩ = some (.int .u8 (ib l[k])) := by
  obtain ⟨b, off, rfl, hb, hc⟩ := h (by omega)
  exact ⟨b, off, rfl, hb, hc k _ (List.getElem?_eq_getElem hk)⟩
end
end Go.Proofs.Sm
namespace Go.Proofs
open Go.RowKit Go.Shelf Sm
/-- the string of these bytes -/
def Sm.strB (l : List (BitVec 8)) : ByteArray := strOfNums (l.map ib)
theorem Sm.strB_inj {a b : List (BitVec 8)} (h : strB a = strB b) : a = b := by
  have h2 : (a.map ib).map (fun n => UInt8.ofNat n.toNat) = (b.map ib).map (fun n => UInt8.ofNat n.toNat) := by
    rw [← strOfNums_data, ← strOfNums_data]
    exact congrArg (fun s : ByteArray => s.data.toList) h
  rw [List.map_map, List.map_map] at h2
  refine (List.map_inj_right ?_).1 h2
  intro x y e
  have hx := x.isLt
  have hy := y.isLt
  have e2 : (UInt8.ofNat (ib x).toNat).toNat = (UInt8.ofNat (ib y).toNat).toNat := congrArg UInt8.toNat e
  simp [ib] at e2
  exact BitVec.eq_of_toNat_eq (by omega)
theorem Sm.strB_eq (a b : List (BitVec 8)) : ((strB a).toList == (strB b).toList) = decide (a = b) := by
  rw [ByteArray.toList_eq, ByteArray.toList_eq]
  by_cases h : a = b
  · subst h; simp
  · rw [decide_eq_false h, beq_eq_false_iff_ne]
    intro e
    refine h (strB_inj ?_)
    generalize strB a = s at e
    generalize strB b = t at e
    cases s; cases t
    simp at e
    rw [e]
theorem Sm.run_str {P : Program} (w : World) (src e : TypeId) (hs : P.underlying src = some (.slice e)) (he : P.underlying e = some (.int .u8)) (l : List (BitVec 8)) (n c B : Nat) (A : Option Addr) (hn : l.length = n) (hr : Rd w B A l)
    (dst : TypeId) (hd : P.underlying dst = some .string) : (convert src dst (.slice A n c)).run P w = .ok (.string (strB l)) w := by
  subst hn
  rcases A with _ | a
  · have : l = [] := by
      cases l with
      | nil => rfl
      | cons x r =>
        obtain ⟨b, off, h, _⟩ := hr (by simp)
        cases h
    subst this
    exact run_convert_bytes_nil w src e hs he 0 c dst hd
  · by_cases h0 : 0 < l.length
    · obtain ⟨b, off, h, hb, hc⟩ := hr h0
      obtain rfl : a = ⟨b, off, none⟩ := Option.some.inj h
      refine run_convert_bytes_arg w src e hs he b off l.length c (l.map ib) (by simp) ?_ dst hd
      intro i hi
      rw [hc i l[i] (List.getElem?_eq_getElem hi)]
      congr 2
      simp [List.getD_eq_getElem?_getD, hi]
    · have : l = [] := List.eq_nil_of_length_eq_zero (by omega)
      subst this
      rw [run_convert_bytes_string w src dst e _ _ c hs he hd]
      have hl : (loadCells a 0).run P w = .ok (([] : List Int).map (Value.int .u8)).toArray w := by
        have := run_loadCells_list (P := P) w a [] (fun j v hj => by simp at hj)
        simpa using this
      have := run_bytesToString w a 0 c [] hl
      have e0 : strB [] = ByteArray.empty := rfl
      rw [e0]
      simpa using this
end Go.Proofs
namespace Go.Proofs
open Go.RowKit Go.Shelf Sm
/-- all but the blocks of S lies as it lay -/
structure Sm.But (S : Nat → Prop) (w w' : World) : Prop where
  os : w'.os = w.os
  tape : w'.tape = w.tape
  output : w'.output = w.output
  size : w.heap.size ≤ w'.heap.size
  block : ∀ k, k < w.heap.size → ¬ S k → w'.heap[k]? = w.heap[k]?
namespace Sm
section
variable {S S' : Nat → Prop} {w w1 w' : World}
theorem But.refl (S : Nat → Prop) (w : World) : But S w w := ⟨rfl, rfl, rfl, Nat.le_refl _, fun _ _ _ => rfl⟩
theorem But.trans (h : But S w w1) (k : But S' w1 w') (hS : ∀ b, b < w.heap.size → S' b → S b) : But S w w' :=
  ⟨k.os.trans h.os, k.tape.trans h.tape, k.output.trans h.output, Nat.le_trans h.size k.size, fun b hb hn => (k.block b (Nat.lt_of_lt_of_le hb h.size) (fun e => hn (hS b hb e))).trans (h.block b hb hn)⟩
theorem But.mono (h : But S w w') (hS : ∀ b, b < w.heap.size → S b → S' b) : But S' w w' := ⟨h.os, h.tape, h.output, h.size, fun b hb hn => h.block b hb (fun e => hn (hS b hb e))⟩
theorem But.grown {row : Option Nat} (h : w.grownBy w' row) : But (fun b => row = some b) w w' := ⟨h.os, h.tape, h.output, h.size, fun b hb hn => h.block b hb (fun e => hn e.symm)⟩
theorem But.to_grown {row : Option Nat} (h : But (fun b => row = some b) w w') : w.grownBy w' row := ⟨h.os, h.tape, h.output, h.size, fun b hb hn => h.block b hb (fun e => hn e.symm)⟩
theorem But.of_below {n : Nat} (h : Below n w w') : But (fun b => n ≤ b) w w' := ⟨h.os, h.tape, h.output, h.size, fun b _ hn => h.block b (by omega)⟩
theorem But.of_all (h : Below w.heap.size w w') (S : Nat → Prop) : But S w w' := ⟨h.os, h.tape, h.output, h.size, fun b hb _ => h.block b hb⟩
theorem But.to_below {n : Nat} (h : But S w w') (hn : n ≤ w.heap.size) (hS : ∀ b, S b → n ≤ b) : Below n w w' := ⟨h.os, h.tape, h.output, h.size, fun b hb => h.block b (by omega) (fun e => by have := hS b e; omega)⟩
theorem But.below {w0 : World} (hb : Below w0.heap.size w0 w) (h : But S w w') (hS : ∀ b, S b → w0.heap.size ≤ b) : Below w0.heap.size w0 w' := hb.trans (h.to_below hb.size hS)
theorem But.cell (h : But S w w') {p : Addr} (hp : p.block < w.heap.size) (hn : ¬ S p.block) : w'.cell? p = w.cell? p := World.cell?_of_block (h.block _ hp hn)
theorem But.frozen (h : But S w w') {p : Addr} (hp : p.block < w.heap.size) (hn : ¬ S p.block) : w'.frozen? p = w.frozen? p := World.frozen?_of_block (h.block _ hp hn)
theorem But.row (h : But S w w') {base : Nat} {e : TypeId} {size : Nat} {v : Value} {n : Nat} {xs : List Value} (ho : w.ownsRow base e size v n xs) (hn : ∀ g, v.ownBlock = some g → ¬ S g) : w'.ownsRow base e size v n xs := by
  refine ⟨ho.1, ?_⟩
  rcases ho.2 with h2 | ⟨g, cap, cur, rfl, hb, hg, r⟩
  · exact .inl h2
  · exact .inr ⟨g, cap, cur, rfl, hb, (h.block g (Array.getElem?_eq_some_iff.1 hg).1 (hn g rfl)).trans hg, r⟩
theorem But.box (h : But S w w') {b : Nat} {o : Obj} (hb : w.heap[b]? = some o) (hn : ¬ S b) : w'.heap[b]? = some o := (h.block b (Array.getElem?_eq_some_iff.1 hb).1 hn).trans hb
theorem But.rd (h : But S w w') {A : Option Addr} {l : List (BitVec 8)} {B : Nat} (hr : Rd w B A l) (hB : B ≤ w.heap.size) (hn : ∀ b, b < B → ¬ S b) : Rd w' B A l := hr.keep fun p hp => h.cell (by omega) (hn _ hp)
theorem But.alloc (h : But S w w') (o : Obj) : But S w (w'.alloc o) := ⟨h.os, h.tape, h.output, Nat.le_trans h.size (by simp), fun b hb hn => (Below.heap_alloc w' o b (Nat.lt_of_lt_of_le hb h.size)).trans (h.block b hb hn)⟩
theorem But.set (h : But S w w') (p : Addr) (v : Value) (hp : S p.block ∨ w.heap.size ≤ p.block) : But S w (w'.setCell p v) :=
  ⟨h.os, h.tape, h.output, Nat.le_trans h.size (by simp), fun b hb hn => (Below.heap_setCell w' p v b (fun e => by subst e; rcases hp with hp | hp; exact hn hp; omega)).trans (h.block b hb hn)⟩
theorem But.drew (h : But S w w') : But S w w'.drew := ⟨h.os, h.tape, h.output, h.size, h.block⟩
end
/-- cells that are read, in a block outside S -/
def Rds (w : World) (S : Nat → Prop) (A : Option Addr) (cs : List Value) : Prop :=
  0 < cs.length → ∃ b off, A = some ⟨b, off, none⟩ ∧ b < w.heap.size ∧ ¬ S b ∧ ∀ j c, cs[j]? = some c → w.cell? ⟨b, off + j, none⟩ = some c
theorem Rds.but {w w' : World} {S S' : Nat → Prop} {A : Option Addr} {cs : List Value} (h : Rds w S A cs) (hb : But S' w w') (hS : ∀ b, S' b → S b) : Rds w' S A cs := fun hn => by
  obtain ⟨b, off, rfl, hlt, hns, hc⟩ := h hn
  exact ⟨b, off, rfl, Nat.lt_of_lt_of_le hlt hb.size, hns, fun j c hj => (hb.cell (p := ⟨b, off + j, none⟩) hlt (fun e => hns (hS _ e))).trans (hc j c hj)⟩
/-- a row stays where it lay, or is a new one -/
def Stays (w : World) (v v' : Value) : Prop := v'.ownBlock = v.ownBlock ∨ ∀ g, v'.ownBlock = some g → w.heap.size ≤ g
theorem Stays.refl (w : World) (v : Value) : Stays w v v := .inl rfl
theorem Stays.of {w : World} {v v' : Value} (h : v'.ownBlock = v.ownBlock ∨ v'.ownBlock = some w.heap.size) : Stays w v v' := by
  rcases h with h | h
  · exact .inl h
  · exact .inr fun g e => by rw [h] at e; cases e; exact Nat.le_refl _
theorem Stays.after {w w1 : World} {v v' : Value} (h : Stays w1 v v') (hs : w.heap.size ≤ w1.heap.size) : Stays w v v' := by
  rcases h with h | h
  · exact .inl h
  · exact .inr fun g e => Nat.le_trans hs (h g e)
theorem Stays.trans {w w1 : World} {v v1 v' : Value} (h : Stays w v v1) (k : Stays w1 v1 v') (hs : w.heap.size ≤ w1.heap.size) : Stays w v v' := by
  rcases k with k | k
  · rcases h with h | h
    · exact .inl (k.trans h)
    · exact .inr fun g e => h g (k.symm.trans e)
  · exact .inr fun g e => Nat.le_trans hs (k g e)
/-- a block that was not the row's is not the row's later -/
theorem Stays.other {w : World} {v v' : Value} (h : Stays w v v') {b : Nat} (hb : b < w.heap.size) (hn : v.ownBlock ≠ some b) : v'.ownBlock ≠ some b := by
  rcases h with h | h
  · rw [h]; exact hn
  · intro e; have := h b e; omega
/-- the row of the later value, at an old block, is the earlier one's -/
theorem Stays.back {w : World} {v v' : Value} (h : Stays w v v') {b : Nat} (hb : b < w.heap.size) (e : v'.ownBlock = some b) : v.ownBlock = some b := by
  rcases h with h | h
  · rw [← h]; exact e
  · have := h b e; omega
theorem But.rows {w w1 w' : World} {v v1 : Value} (h : But (fun b => v.ownBlock = some b) w w1) (hs : Stays w v v1) (k : But (fun b => v1.ownBlock = some b) w1 w') : But (fun b => v.ownBlock = some b) w w' :=
  h.trans k fun _ hb e => hs.back hb e
end Sm
end Go.Proofs
