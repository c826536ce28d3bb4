/-
  Where the frames of bytes end, and how many there are.
-/
import Derived.Test.YteeponciegmlcaaDoorFrE
namespace Go.Proofs
open Go.RowKit Go.Shelf Sm
/-- where piece k begins -/
def Sm.offK (l : List (BitVec 8)) : Nat → Nat
  | 0 => 0
  | k + 1 => offK l k + (splitS (l.drop (offK l k))).2.1
/-- the size of piece k, its bytes -/
def Sm.szK (l : List (BitVec 8)) (k : Nat) : Nat := (splitS (l.drop (offK l k))).2.1
def Sm.bodyK (l : List (BitVec 8)) (k : Nat) : List (BitVec 8) := (splitS (l.drop (offK l k))).1
def Sm.errK (l : List (BitVec 8)) (k : Nat) : Int := (splitS (l.drop (offK l k))).2.2
theorem Sm.offK_succ (l : List (BitVec 8)) (k : Nat) : offK l (k + 1) = offK l k + szK l k := rfl
theorem Sm.splitS_size (l : List (BitVec 8)) : (splitS l).2.1 ≤ l.length := by
  unfold splitS
  split
  · simp
  · simp
  · rename_i m k hg
    obtain ⟨_, h1, h2, h3⟩ := getN_form hg
    split
    · simp
    · split
      · simp
      · split
        · simp; omega
        · simp
theorem Sm.offK_le (l : List (BitVec 8)) : ∀ k, offK l k ≤ l.length
  | 0 => Nat.zero_le _
  | k + 1 => by
    have h1 := offK_le l k
    have h2 := splitS_size (l.drop (offK l k))
    rw [List.length_drop] at h2
    rw [offK]
    omega
theorem Sm.offK_ge (l : List (BitVec 8)) : ∀ k, (∀ j, j < k → szK l j ≠ 0) → k ≤ offK l k
  | 0, _ => Nat.zero_le _
  | k + 1, h => by
    have h1 := offK_ge l k (fun j hj => h j (by omega))
    have h2 := h k (by omega)
    rw [offK_succ]
    omega
def Sm.cntF (l : List (BitVec 8)) : Nat → Nat → Nat
  | 0, k => k
  | f + 1, k => if szK l k = 0 then k else cntF l f (k + 1)
theorem Sm.cntF_spec (l : List (BitVec 8)) : ∀ f k, k ≤ cntF l f k ∧ (∀ j, k ≤ j → j < cntF l f k → szK l j ≠ 0) ∧ (szK l (cntF l f k) = 0 ∨ cntF l f k = k + f)
  | 0, k => ⟨Nat.le_refl _, (fun j h1 h2 => by simp [cntF] at h2; omega), .inr rfl⟩
  | f + 1, k => by
    unfold cntF
    by_cases h : szK l k = 0
    · rw [if_pos h]
      exact ⟨Nat.le_refl _, fun j h1 h2 => by omega, .inl h⟩
    · rw [if_neg h]
      obtain ⟨h1, h2, h3⟩ := cntF_spec l f (k + 1)
      refine ⟨by omega, fun j h4 h5 => ?_, ?_⟩
      · by_cases e : j = k
        · subst e; exact h
        · exact h2 j (by omega) h5
      · rcases h3 with h3 | h3
        · exact .inl h3
        · exact .inr (by omega)
/-- how many frames -/
def Sm.cntK (l : List (BitVec 8)) : Nat := cntF l (l.length + 1) 0
theorem Sm.cntK_zero (l : List (BitVec 8)) : szK l (cntK l) = 0 := by
  obtain ⟨h1, h2, h3⟩ := cntF_spec l (l.length + 1) 0
  rcases h3 with h3 | h3
  · exact h3
  · have h4 := offK_ge l (cntK l) (fun j hj => h2 j (by omega) hj)
    have h5 := offK_le l (cntK l)
    have h6 : cntK l = 0 + (l.length + 1) := h3
    omega
theorem Sm.cntK_pos (l : List (BitVec 8)) {j : Nat} (h : j < cntK l) : szK l j ≠ 0 := (cntF_spec l (l.length + 1) 0).2.1 j (by omega) h
theorem Sm.cntK_of (l : List (BitVec 8)) {k : Nat} (h0 : szK l k = 0) (h : ∀ j, j < k → szK l j ≠ 0) : k = cntK l := by
  by_cases h1 : k < cntK l
  · exact absurd h0 (cntK_pos l h1)
  · by_cases h2 : cntK l < k
    · exact absurd (cntK_zero l) (h _ h2)
    · omega
theorem Sm.cntK_le (l : List (BitVec 8)) : cntK l ≤ l.length := by
  have h1 := offK_ge l (cntK l) (fun j hj => cntK_pos l hj)
  have h2 := offK_le l (cntK l)
  omega
theorem Sm.splitS_body (l : List (BitVec 8)) : (splitS l).1.length ≤ 4096 := by
  unfold splitS
  split
  · simp
  · simp
  · split
    · simp
    · split
      · simp
      · split
        · rename_i hh _ ho
          simp only
          unfold openL
          rw [if_pos ho, List.length_take, List.length_take]
          omega
        · simp
end Go.Proofs
