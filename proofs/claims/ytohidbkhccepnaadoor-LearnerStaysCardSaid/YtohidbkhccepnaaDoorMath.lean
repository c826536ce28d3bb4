/-
  The polynomials over bits of CRC-32: the product of words is a commutative, associative one that goes over xor, and powers of x add. No condition.
-/
namespace Go.Proofs.Sm
/-- a word by x -/
def byx (w : BitVec 32) : BitVec 32 := (w >>> 1) ^^^ (if w.getLsbD 0 then 0xedb88320#32 else 0#32)
def iter : Nat → BitVec 32 → BitVec 32
  | 0, w => w
  | n + 1, w => iter n (byx w)
def mulL : Nat → BitVec 32 → BitVec 32 → BitVec 32
  | 0, _, _ => 0#32
  | n + 1, a, b => (if a.msb then b else 0#32) ^^^ mulL n (a <<< 1) (byx b)
def mul (a b : BitVec 32) : BitVec 32 := mulL 32 a b
def one : BitVec 32 := 0x80000000#32
def pw (n : Nat) : BitVec 32 := iter n one
/-- bit number i from above -/
def bas (i : Nat) : BitVec 32 := one >>> i

def Lin (f : BitVec 32 → BitVec 32) : Prop := ∀ a b, f (a ^^^ b) = f a ^^^ f b

theorem Lin.zero {f} (h : Lin f) : f 0#32 = 0#32 := by
  have := h 0#32 0#32
  simpa using this
theorem xor4 (a b c d : BitVec 32) : (a ^^^ b) ^^^ (c ^^^ d) = (a ^^^ c) ^^^ (b ^^^ d) := by
  rw [BitVec.xor_assoc, ← BitVec.xor_assoc b, BitVec.xor_comm b c, BitVec.xor_assoc c, ← BitVec.xor_assoc a]
theorem byx_lin : Lin byx := by
  intro a b
  unfold byx
  rw [xor4, BitVec.ushiftRight_xor_distrib]
  congr 1
  rw [BitVec.getLsbD_xor]
  cases a.getLsbD 0 <;> cases b.getLsbD 0 <;> simp
theorem iter_succ' (n : Nat) (w : BitVec 32) : iter (n + 1) w = byx (iter n w) := by
  induction n generalizing w with
  | zero => rfl
  | succ n ih => rw [iter, ih]; rfl
theorem iter_add (m n : Nat) (w : BitVec 32) : iter (m + n) w = iter m (iter n w) := by
  induction m with
  | zero => simp [iter]
  | succ m ih => rw [Nat.succ_add, iter_succ', ih, iter_succ']
theorem iter_lin (n : Nat) : Lin (iter n) := by
  induction n with
  | zero => intro a b; rfl
  | succ n ih => intro a b; rw [iter, byx_lin, ih]; rfl
theorem mulL_lin_right (n : Nat) (a : BitVec 32) : Lin (mulL n a) := by
  induction n generalizing a with
  | zero => intro b c; simp [mulL]
  | succ n ih =>
    intro b c
    simp only [mulL]
    rw [byx_lin, ih, xor4]
    congr 1
    split <;> simp
theorem mulL_lin_left (n : Nat) (b : BitVec 32) : Lin (fun a => mulL n a b) := by
  induction n generalizing b with
  | zero => intro a c; simp [mulL]
  | succ n ih =>
    intro a c
    simp only [mulL]
    have := ih (byx b) (a <<< 1) (c <<< 1)
    simp only at this
    rw [BitVec.shiftLeft_xor_distrib, this, xor4]
    congr 1
    rw [BitVec.msb_xor]
    cases a.msb <;> cases c.msb <;> simp
theorem mul_lin_right (a : BitVec 32) : Lin (mul a) := mulL_lin_right 32 a
theorem mul_lin_left (b : BitVec 32) : Lin (fun a => mul a b) := mulL_lin_left 32 b
theorem Lin.comp {f g} (hf : Lin f) (hg : Lin g) : Lin (fun a => f (g a)) := by
  intro a b; simp only; rw [hg, hf]
theorem Lin.xor {f g} (hf : Lin f) (hg : Lin g) : Lin (fun a => f a ^^^ g a) := by
  intro a b; simp only; rw [hg, hf, xor4]

/-- two linear maps that agree at each single bit are one -/
theorem Lin.ext {f g : BitVec 32 → BitVec 32} (hf : Lin f) (hg : Lin g) (h : ∀ i, i < 32 → f (bas i) = g (bas i)) : ∀ a, f a = g a := by
  have key : ∀ n, n ≤ 32 → ∀ a : BitVec 32, (∀ i, n ≤ i → a.getLsbD i = false) → f a = g a := by
    intro n
    induction n with
    | zero =>
      intro _ a ha
      have : a = 0#32 := by
        apply BitVec.eq_of_getLsbD_eq
        intro i _
        rw [ha i (Nat.zero_le _)]
        simp
      rw [this, hf.zero, hg.zero]
    | succ n ih =>
      intro hn a ha
      have hb : ∀ i, (bas (31 - n)).getLsbD i = decide (i = n) := by
        intro i
        unfold bas one
        rw [BitVec.getLsbD_ushiftRight]
        have : (0x80000000#32) = BitVec.twoPow 32 31 := by decide
        rw [this, BitVec.getLsbD_twoPow]
        by_cases h : i = n
        · subst h; simp; omega
        · simp [h]; omega
      cases hc : a.getLsbD n with
      | false =>
        refine ih (by omega) a fun i hi => ?_
        by_cases e : i = n
        · rw [e]; exact hc
        · exact ha i (by omega)
      | true =>
        have e : a = (a ^^^ bas (31 - n)) ^^^ bas (31 - n) := by
          rw [BitVec.xor_assoc, BitVec.xor_self, BitVec.xor_zero]
        rw [e, hf, hg, h (31 - n) (by omega)]
        congr 1
        refine ih (by omega) _ fun i hi => ?_
        rw [BitVec.getLsbD_xor, hb]
        by_cases e : i = n
        · rw [e, hc]; simp
        · rw [ha i (by omega)]; simp [e]
  intro a
  refine key 32 (Nat.le_refl _) a fun i hi => ?_
  exact BitVec.getLsbD_of_ge a i hi
theorem pw_bas : ∀ i, i < 32 → pw i = bas i := by decide
theorem mul_byx (a b : BitVec 32) : mul (byx a) b = byx (mul a b) := by
  revert a
  refine Lin.ext ((mul_lin_left b).comp byx_lin) (byx_lin.comp (mul_lin_left b)) ?_
  intro i hi
  revert b
  refine Lin.ext (mul_lin_right _) (byx_lin.comp (mul_lin_right _)) ?_
  revert i
  decide +kernel
theorem mul_iter (n : Nat) (a b : BitVec 32) : mul (iter n a) b = iter n (mul a b) := by
  induction n with
  | zero => rfl
  | succ n ih => rw [iter_succ', iter_succ', mul_byx, ih]
theorem one_mul (b : BitVec 32) : mul one b = b := by
  revert b
  refine Lin.ext (mul_lin_right _) (fun _ _ => rfl) ?_
  decide +kernel
theorem pw_mul (n : Nat) (b : BitVec 32) : mul (pw n) b = iter n b := by rw [pw, mul_iter, one_mul]
theorem pw_add (m n : Nat) : mul (pw m) (pw n) = pw (m + n) := by rw [pw_mul, pw, pw, iter_add]
theorem mul_comm (a b : BitVec 32) : mul a b = mul b a := by
  revert a
  refine Lin.ext (mul_lin_left b) (mul_lin_right b) ?_
  intro i hi
  revert b
  refine Lin.ext (mul_lin_right _) (mul_lin_left _) ?_
  intro j hj
  rw [← pw_bas i hi, ← pw_bas j hj, pw_add, pw_add, Nat.add_comm]
theorem mul_assoc (a b c : BitVec 32) : mul a (mul b c) = mul (mul a b) c := by
  revert a
  refine Lin.ext (mul_lin_left _) ((mul_lin_left c).comp (mul_lin_left b)) ?_
  intro i hi
  rw [← pw_bas i hi, pw_mul, pw_mul, mul_iter]
theorem mul_one (a : BitVec 32) : mul a one = a := by rw [mul_comm, one_mul]
theorem mul_xor (a b c : BitVec 32) : mul a (b ^^^ c) = mul a b ^^^ mul a c := mul_lin_right a b c
end Go.Proofs.Sm
