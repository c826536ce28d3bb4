/-
  Sealed bytes of which one or two bits are turned are not sealed: bytes of at most 904. No other condition.
-/
import Derived.Test.YtekbojfialjblaaDoorWalkS
import Derived.Test.YtekbojfialjblaaDoorJoined
namespace Go.Proofs.Sm
theorem byx_zero {w : BitVec 32} (h : byx w = 0#32) : w = 0#32 := by
  unfold byx at h
  cases h0 : w.getLsbD 0 with
  | true =>
    rw [h0, if_pos rfl] at h
    have := congrArg (fun z : BitVec 32 => z.getLsbD 31) h
    rw [BitVec.getLsbD_xor, BitVec.getLsbD_ushiftRight, BitVec.getLsbD_of_ge _ _ (by omega)] at this
    exact absurd this (by decide)
  | false =>
    rw [h0] at h
    simp at h
    apply BitVec.eq_of_getLsbD_eq
    intro i hi
    cases i with
    | zero => rw [h0]; simp
    | succ i =>
      have := congrArg (fun z : BitVec 32 => z.getLsbD i) h
      rw [BitVec.getLsbD_ushiftRight, Nat.add_comm] at this
      rw [this]; simp
theorem xor_eq_zero' {a b : BitVec 32} (h : a ^^^ b = 0#32) : a = b := by
  have : (a ^^^ b) ^^^ b = b := by rw [h]; simp
  rwa [BitVec.xor_assoc, BitVec.xor_self, BitVec.xor_zero] at this
theorem iter_inj {n : Nat} {a b : BitVec 32} (h : iter n a = iter n b) : a = b := by
  induction n generalizing a b with
  | zero => exact h
  | succ n ih =>
    have h2 : byx a = byx b := ih h
    refine xor_eq_zero' (byx_zero ?_)
    rw [byx_lin, h2, BitVec.xor_self]
theorem pw_nz (n : Nat) : pw n ≠ 0#32 := by
  intro h
  have hz : iter n (0#32) = 0#32 := (iter_lin n).zero
  have := iter_inj (n := n) (a := one) (b := 0#32) (by rw [hz]; exact h)
  exact absurd this (by decide)
def chk : Nat → BitVec 32 → Bool
  | 0, _ => true
  | n + 1, w => (byx w != one) && chk n (byx w)
theorem chk_iter {n : Nat} {w : BitVec 32} (h : chk n w = true) : ∀ d, 0 < d → d ≤ n → iter d w ≠ one := by
  induction n generalizing w with
  | zero => intro d h0 h1; omega
  | succ n ih =>
    rw [chk, Bool.and_eq_true] at h
    intro d h0 h1
    cases d with
    | zero => omega
    | succ d =>
      by_cases hd : d = 0
      · subst hd
        show byx w ≠ one
        simpa using h.1
      · exact ih h.2 d (by omega) (by omega)
theorem chk_all : chk 7300 one = true := by decide +kernel
theorem pw_inj {i j : Nat} (hij : i < j) (hd : j - i ≤ 7300) : pw i ≠ pw j := by
  intro h
  have e : j = i + (j - i) := by omega
  rw [e, pw, pw, iter_add] at h
  exact chk_iter chk_all (j - i) (by omega) hd (iter_inj h).symm
theorem bit_pw : ∀ b, b < 8 → ((1#8 <<< b).setWidth 32 : BitVec 32) = pw (31 - b) := by decide
/-- bit i turned -/
def flip (l : List (BitVec 8)) (i : Nat) : List (BitVec 8) := l.set (i / 8) (l.getD (i / 8) 0#8 ^^^ (1#8 <<< (i % 8)))
theorem flip_length (l : List (BitVec 8)) (i : Nat) : (flip l i).length = l.length := by simp [flip]
theorem set_width_xor (a b : BitVec 8) : (a ^^^ b).setWidth 32 = a.setWidth 32 ^^^ b.setWidth 32 := by
  apply BitVec.eq_of_getLsbD_eq
  intro i hi
  simp [BitVec.getLsbD_setWidth, BitVec.getLsbD_xor]
theorem crc_flip (x : BitVec 32) (l : List (BitVec 8)) (i : Nat) (hi : i < 8 * l.length) : crc x (flip l i) = crc x l ^^^ pw (8 * l.length + 31 - i) := by
  have hj : i / 8 < l.length := by omega
  obtain ⟨a, y, r, hl, ha⟩ : ∃ a y r, l = a ++ y :: r ∧ a.length = i / 8 := by
    refine ⟨l.take (i / 8), l[i / 8], l.drop (i / 8 + 1), ?_, by rw [List.length_take]; omega⟩
    rw [← List.drop_eq_getElem_cons hj, List.take_append_drop]
  subst hl
  have hg : (a ++ y :: r).getD (i / 8) 0#8 = y := by
    rw [List.getD_eq_getElem?_getD, List.getElem?_append_right (by omega), ha, Nat.sub_self]
    rfl
  have hs : flip (a ++ y :: r) i = a ++ (y ^^^ (1#8 <<< (i % 8))) :: r := by
    unfold flip
    rw [hg, List.set_append_right _ _ (by omega), ha, Nat.sub_self]
    rfl
  rw [hs, crc_append, crc_append]
  have e1 : ∀ z : BitVec 8, crc (crc x a) (z :: r) = crc (iter 8 (crc x a ^^^ z.setWidth 32)) r := fun _ => rfl
  have hb : i % 8 < 8 := Nat.mod_lt _ (by decide)
  rw [e1, e1, set_width_xor, ← BitVec.xor_assoc, iter_lin, crc_xor, bit_pw _ hb, ← iter_add, pw, ← iter_add, pw]
  congr 2
  rw [List.length_append, List.length_cons, ha]
  omega
/-- byte number i of a word, as a word -/
def byteB (i : Nat) (x : BitVec 32) : BitVec 32 := ((x >>> (8 * i)).setWidth 8).setWidth 32
theorem byteB_lin (i : Nat) : Lin (byteB i) := by
  intro a b
  unfold byteB
  rw [BitVec.ushiftRight_xor_distrib]
  apply BitVec.eq_of_getLsbD_eq
  intro k _
  simp only [BitVec.getLsbD_setWidth, BitVec.getLsbD_xor]
  cases decide (k < 32) <;> cases decide (k < 8) <;> simp
/-- the rest of sealed bytes -/
theorem crc_le (y x : BitVec 32) : crc y (leN x 4) = iter 32 (y ^^^ x) := by
  have h : ∀ y, crc y (leN x 4) = crc (0#32 ^^^ y) (leN x 4) := fun y => by simp
  rw [h y, crc_xor, leN_length]
  have hx : crc 0#32 (leN x 4) = iter 32 x := by
    clear h
    have hx0 : crc 0#32 (leN x 4) = iter 8 (iter 8 (iter 8 (iter 8 (0#32 ^^^ byteB 0 x) ^^^ byteB 1 x) ^^^ byteB 2 x) ^^^ byteB 3 x) := rfl
    rw [hx0, BitVec.zero_xor]
    clear hx0
    revert x
    have h1 : Lin (fun x => iter 8 (byteB 0 x)) := (iter_lin 8).comp (byteB_lin 0)
    have h2 : Lin (fun x => iter 8 (iter 8 (byteB 0 x) ^^^ byteB 1 x)) := (iter_lin 8).comp (h1.xor (byteB_lin 1))
    have h3 : Lin (fun x => iter 8 (iter 8 (iter 8 (byteB 0 x) ^^^ byteB 1 x) ^^^ byteB 2 x)) := (iter_lin 8).comp (h2.xor (byteB_lin 2))
    have h4 : Lin (fun x => iter 8 (iter 8 (iter 8 (iter 8 (byteB 0 x) ^^^ byteB 1 x) ^^^ byteB 2 x) ^^^ byteB 3 x)) := (iter_lin 8).comp (h3.xor (byteB_lin 3))
    refine Lin.ext h4 (iter_lin 32) ?_
    decide +kernel
  rw [hx, ← iter_lin, BitVec.xor_comm]
theorem crc_sealed (b : List (BitVec 8)) : crc ones (b ++ leN (sumB b) 4) = iter 32 ones := by
  rw [crc_append, crc_le, ← not_sumB]
  congr 1
  rw [← BitVec.allOnes_xor, BitVec.xor_assoc, BitVec.xor_self, BitVec.xor_zero]
  rfl
theorem crc_open {l : List (BitVec 8)} (h : openOk l) : crc ones l = iter 32 ones := by
  obtain ⟨h4, hd⟩ := h
  rw [← List.take_append_drop (l.length - 4) l, hd]
  exact crc_sealed _
theorem flip_one (b : List (BitVec 8)) (i : Nat) (hi : i < 8 * (b.length + 4)) : ¬ openOk (flip (b ++ leN (sumB b) 4) i) := by
  intro h
  have hl : (b ++ leN (sumB b) 4).length = b.length + 4 := by rw [List.length_append, leN_length]
  have h1 := crc_open h
  rw [crc_flip _ _ _ (by rw [hl]; exact hi), crc_sealed] at h1
  have : pw (8 * (b ++ leN (sumB b) 4).length + 31 - i) = 0#32 := by
    have h2 := congrArg (fun z => iter 32 ones ^^^ z) h1
    simp only [← BitVec.xor_assoc, BitVec.xor_self, BitVec.zero_xor] at h2
    exact h2
  exact pw_nz _ this
theorem flip_two (b : List (BitVec 8)) (hb : b.length ≤ 900) (i j : Nat) (hi : i < 8 * (b.length + 4)) (hj : j < 8 * (b.length + 4)) (hij : i ≠ j) : ¬ openOk (flip (flip (b ++ leN (sumB b) 4) i) j) := by
  intro h
  have hl : (b ++ leN (sumB b) 4).length = b.length + 4 := by rw [List.length_append, leN_length]
  have h1 := crc_open h
  rw [crc_flip _ _ _ (by rw [flip_length, hl]; exact hj), crc_flip _ _ _ (by rw [hl]; exact hi), crc_sealed, flip_length, hl, BitVec.xor_assoc] at h1
  have h3 : pw (8 * (b.length + 4) + 31 - i) = pw (8 * (b.length + 4) + 31 - j) := by
    have h2 := congrArg (fun z => iter 32 ones ^^^ z) h1
    simp only [← BitVec.xor_assoc, BitVec.xor_self, BitVec.zero_xor] at h2
    exact xor_eq_zero' h2
  rcases Nat.lt_or_ge i j with h | h
  · exact pw_inj (by omega) (by omega) h3.symm
  · exact pw_inj (by omega) (by omega) h3
end Go.Proofs.Sm
