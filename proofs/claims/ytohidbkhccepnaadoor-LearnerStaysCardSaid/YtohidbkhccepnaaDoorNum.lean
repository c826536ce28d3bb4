/-
  Numbers as bytes, and the number with which bytes begin: what is laid is read. No condition.
-/
import Derived.Test.YtohidbkhccepnaaDoorValsB
namespace Go.Proofs.Sm
/-- the bytes of a number -/
def numB (n : Nat) : List (BitVec 8) := if n < 128 then [BitVec.ofNat 8 n] else BitVec.ofNat 8 (128 + n % 128) :: numB (n / 128)
termination_by n
decreasing_by omega
theorem numB_small {n : Nat} (h : n < 128) : numB n = [BitVec.ofNat 8 n] := by rw [numB, if_pos h]
theorem numB_big {n : Nat} (h : 128 ≤ n) : numB n = BitVec.ofNat 8 (128 + n % 128) :: numB (n / 128) := by rw [numB, if_neg (by omega)]
theorem numB_pos (n : Nat) : 0 < (numB n).length := by
  rw [numB]; split <;> simp
theorem numB_len (f : Nat) : ∀ n, n < 128 ^ (f + 1) → (numB n).length ≤ f + 1 := by
  induction f with
  | zero =>
    intro n h
    rw [numB_small (by simpa using h)]; simp
  | succ f ih =>
    intro n h
    by_cases hn : n < 128
    · rw [numB_small hn]; simp
    · rw [numB_big (by omega), List.length_cons]
      have := ih (n / 128) (by rw [Nat.pow_succ] at h; omega)
      omega
/-- the greatest number -/
def top : Nat := 4611686018427387904
theorem numB_len9 {n : Nat} (h : n ≤ top) : (numB n).length ≤ 9 := numB_len 8 n (by unfold top at h; omega)
/-- the number of bytes, seven bits each -/
def numV : List (BitVec 8) → Nat
  | [] => 0
  | c :: r => c.toNat % 128 + 128 * numV r
/-- how many bytes with 128 more lie ahead -/
def lead : List (BitVec 8) → Nat
  | [] => 0
  | c :: r => if 128 ≤ c.toNat then lead r + 1 else 0
inductive Got
  | cut
  | bad
  | num (n k : Nat)
/-- the number with which bytes begin, and how many bytes it has; cut: it goes on behind them; bad: there is none -/
def getN (l : List (BitVec 8)) : Got :=
  if 9 ≤ lead l then .bad
  else match l[lead l]? with
    | none => .cut
    | some c => if (0 < lead l ∧ c.toNat = 0) ∨ top < numV (l.take (lead l + 1)) then .bad else .num (numV (l.take (lead l + 1))) (lead l + 1)
theorem lead_le (l : List (BitVec 8)) : lead l ≤ l.length := by
  induction l with
  | nil => simp [lead]
  | cons c r ih => rw [lead]; split <;> simp <;> omega
theorem lead_byte (l : List (BitVec 8)) : ∀ i c, i < lead l → l[i]? = some c → 128 ≤ c.toNat := by
  induction l with
  | nil => intro i c h; simp [lead] at h
  | cons d r ih =>
    intro i c h hc
    rw [lead] at h
    split at h
    · match i with
      | 0 => simp at hc; subst hc; assumption
      | i + 1 => exact ih i c (by omega) (by simpa using hc)
    · omega
theorem lead_end (l : List (BitVec 8)) (c : BitVec 8) (h : l[lead l]? = some c) : c.toNat < 128 := by
  induction l with
  | nil => simp at h
  | cons d r ih =>
    rw [lead] at h
    split at h
    · exact ih (by simpa using h)
    · simp at h; subst h; omega
theorem lead_more (l : List (BitVec 8)) (i : Nat) (c : BitVec 8) (hi : i ≤ lead l) (hc : l[i]? = some c) (h : 128 ≤ c.toNat) : i + 1 ≤ lead l := by
  rcases Nat.lt_or_ge i (lead l) with h1 | h1
  · exact h1
  · have : i = lead l := by omega
    subst this
    have := lead_end l c hc
    omega
theorem lead_eq (l : List (BitVec 8)) (i : Nat) (c : BitVec 8) (hi : i ≤ lead l) (hc : l[i]? = some c) (h : c.toNat < 128) : lead l = i := by
  rcases Nat.lt_or_ge i (lead l) with h1 | h1
  · have := lead_byte l i c h1 hc
    omega
  · omega
theorem numV_snoc (l : List (BitVec 8)) (c : BitVec 8) : numV (l ++ [c]) = numV l + 128 ^ l.length * (c.toNat % 128) := by
  induction l with
  | nil => simp [numV]
  | cons d r ih =>
    rw [List.cons_append, numV, ih, numV, List.length_cons, Nat.pow_succ, Nat.mul_add, Nat.mul_comm (128 ^ r.length) 128, Nat.mul_assoc]
    omega
theorem numV_lt (l : List (BitVec 8)) : numV l < 128 ^ l.length := by
  induction l with
  | nil => simp [numV]
  | cons d r ih =>
    rw [numV, List.length_cons, Nat.pow_succ]
    omega
theorem getN_cut {l : List (BitVec 8)} (h : lead l = l.length) (h9 : l.length < 9) : getN l = .cut := by
  unfold getN
  rw [if_neg (by omega), List.getElem?_eq_none (by omega)]
theorem getN_long {l : List (BitVec 8)} (h : 9 ≤ lead l) : getN l = .bad := by unfold getN; rw [if_pos h]
theorem getN_zero {l : List (BitVec 8)} {c : BitVec 8} {i : Nat} (hi : lead l = i) (h0 : 0 < i) (h9 : i < 9) (hc : l[i]? = some c) (hz : c.toNat = 0) : getN l = .bad := by
  subst hi
  unfold getN
  rw [if_neg (by omega), hc]
  simp only
  rw [if_pos (.inl ⟨h0, hz⟩)]
theorem getN_over {l : List (BitVec 8)} {c : BitVec 8} {i : Nat} (hi : lead l = i) (h9 : i < 9) (hc : l[i]? = some c) (ht : top < numV (l.take (i + 1))) : getN l = .bad := by
  subst hi
  unfold getN
  rw [if_neg (by omega), hc]
  simp only
  rw [if_pos (.inr ht)]
theorem getN_num {l : List (BitVec 8)} {c : BitVec 8} {i : Nat} (hi : lead l = i) (h9 : i < 9) (hc : l[i]? = some c) (hz : ¬ (0 < i ∧ c.toNat = 0)) (ht : numV (l.take (i + 1)) ≤ top) : getN l = .num (numV (l.take (i + 1))) (i + 1) := by
  subst hi
  unfold getN
  rw [if_neg (by omega), hc]
  simp only
  rw [if_neg (by rintro (h | h); exact hz h; omega)]
theorem getN_form {l : List (BitVec 8)} {n k : Nat} (h : getN l = .num n k) : n ≤ top ∧ 0 < k ∧ k ≤ 9 ∧ k ≤ l.length := by
  unfold getN at h
  split at h
  · cases h
  · split at h
    · cases h
    · rename_i c hc
      split at h
      · cases h
      · rename_i h2
        injection h with h3 h4
        subst h3 h4
        have := (List.getElem?_eq_some_iff.1 hc).1
        refine ⟨?_, by omega, by omega, by omega⟩
        rcases Nat.lt_or_ge top (numV (l.take (lead l + 1))) with h5 | h5
        · exact absurd (.inr h5) h2
        · exact h5
theorem take_succ_get {l : List (BitVec 8)} {i : Nat} {c : BitVec 8} (hc : l[i]? = some c) : numV (l.take (i + 1)) = numV (l.take i) + 128 ^ i * (c.toNat % 128) := by
  obtain ⟨hi, e⟩ := List.getElem?_eq_some_iff.1 hc
  rw [List.take_succ_eq_append_getElem hi, numV_snoc, List.length_take, Nat.min_eq_left (by omega), e]
theorem ofNat_small {n : Nat} (h : n < 128) : (BitVec.ofNat 8 n).toNat = n := by simp; omega
theorem ofNat_big (n : Nat) : (BitVec.ofNat 8 (128 + n % 128)).toNat = 128 + n % 128 := by simp; omega
/-- what is laid is read -/
theorem lead_numB (n : Nat) (r : List (BitVec 8)) : lead (numB n ++ r) = (numB n).length - 1 := by
  induction n using Nat.strongRecOn with
  | ind n ih =>
    by_cases h : n < 128
    · rw [numB_small h, List.cons_append, lead, ofNat_small h, if_neg (by omega)]; rfl
    · rw [numB_big (by omega), List.cons_append, lead, ofNat_big, if_pos (by omega), ih (n / 128) (by omega), List.length_cons]
      have := numB_pos (n / 128)
      omega
theorem numV_numB (n : Nat) : numV (numB n) = n := by
  induction n using Nat.strongRecOn with
  | ind n ih =>
    by_cases h : n < 128
    · rw [numB_small h, numV, ofNat_small h, numV]; omega
    · rw [numB_big (by omega), numV, ofNat_big, ih (n / 128) (by omega)]; omega
theorem last_numB (n : Nat) : ∃ c, (numB n)[(numB n).length - 1]? = some c ∧ ¬ (0 < (numB n).length - 1 ∧ c.toNat = 0) := by
  induction n using Nat.strongRecOn with
  | ind n ih =>
    by_cases h : n < 128
    · rw [numB_small h]; exact ⟨_, rfl, by simp⟩
    · obtain ⟨c, hc, hz⟩ := ih (n / 128) (by omega)
      rw [numB_big (by omega)]
      have hp := numB_pos (n / 128)
      refine ⟨c, ?_, ?_⟩
      · rw [List.length_cons, Nat.add_sub_cancel]
        obtain ⟨m, hm⟩ : ∃ m, (numB (n / 128)).length = m + 1 := ⟨_, (Nat.succ_pred_eq_of_pos hp).symm⟩
        rw [hm] at hc ⊢
        simpa using hc
      · rw [List.length_cons, Nat.add_sub_cancel]
        rintro ⟨_, h0⟩
        by_cases h1 : n / 128 < 128
        · rw [numB_small h1] at hc
          simp at hc
          rw [← hc, ofNat_small h1] at h0
          omega
        · refine hz ⟨?_, h0⟩
          rw [numB_big (by omega), List.length_cons]
          have := numB_pos (n / 128 / 128)
          omega
theorem getN_numB {n : Nat} (h : n ≤ top) (r : List (BitVec 8)) : getN (numB n ++ r) = .num n (numB n).length := by
  obtain ⟨c, hc, hz⟩ := last_numB n
  have hp := numB_pos n
  have h9 := numB_len9 h
  have e : (numB n).length - 1 + 1 = (numB n).length := by omega
  have et : (numB n ++ r).take ((numB n).length - 1 + 1) = numB n := by rw [e, List.take_append_of_le_length (Nat.le_refl _), List.take_of_length_le (Nat.le_refl _)]
  have := getN_num (l := numB n ++ r) (c := c) (lead_numB n r) (by omega) (by rw [List.getElem?_append_left (by omega)]; exact hc) hz (by rw [et, numV_numB]; exact h)
  rw [et, numV_numB, e] at this
  exact this
theorem drop_numB (n : Nat) (r : List (BitVec 8)) : (numB n ++ r).drop (numB n).length = r := by rw [List.drop_append_of_le_length (Nat.le_refl _), List.drop_of_length_le (Nat.le_refl _), List.nil_append]
end Go.Proofs.Sm
