/-
  Blocks of bytes, and what the blocks that are full press into a state. No condition.
-/
import Derived.Test.YtdpcgfaknbfmmaaDoorSte
namespace Go.Proofs.Sm
/-- filled with noughts -/
def pad (c : List (BitVec 8)) : List (BitVec 8) := c ++ List.replicate (64 - c.length) 0#8
theorem pad_length (c : List (BitVec 8)) (h : c.length ≤ 64) : (pad c).length = 64 := by simp [pad]; omega
/-- how many blocks are told ahead of the last one -/
def cnt (all : List (BitVec 8)) : Nat := (all.length - 1) / 64
/-- what is told the k-th time -/
def chunk (all : List (BitVec 8)) (k : Nat) : List (BitVec 8) := (all.drop (64 * k)).take 64
def pressK (ws : List (BitVec 32)) (p : Nat) (all : List (BitVec 8)) : Nat → List (BitVec 32)
  | 0 => ws
  | k + 1 => pressS (pressK ws p all k) (pad (chunk all k)) (p + 64 * (k + 1)) false
theorem chunk_full (all : List (BitVec 8)) (k : Nat) (h : 64 * (k + 1) ≤ all.length) : (chunk all k).length = 64 := by
  simp [chunk]; omega
theorem chunk_full' (all : List (BitVec 8)) (k : Nat) (h : k < cnt all) : (chunk all k).length = 64 := by
  unfold cnt at h
  exact chunk_full all k (by omega)
theorem chunk_le (all : List (BitVec 8)) (k : Nat) : (chunk all k).length ≤ 64 := by simp [chunk]; omega
theorem chunk_last (all : List (BitVec 8)) : chunk all (cnt all) = all.drop (64 * cnt all) := by
  unfold chunk
  rw [List.take_of_length_le]
  unfold cnt
  simp; omega
theorem chunk_append (a b : List (BitVec 8)) (k : Nat) (h : 64 * (k + 1) ≤ a.length) : chunk (a ++ b) k = chunk a k := by
  unfold chunk
  rw [List.drop_append_of_le_length (by omega), List.take_append_of_le_length (by simp; omega)]
theorem pressK_length (ws : List (BitVec 32)) (p : Nat) (all : List (BitVec 8)) : ∀ k, (pressK ws p all k).length = ws.length
  | 0 => rfl
  | k + 1 => by rw [pressK, pressS_length, pressK_length]
theorem pressK_append (ws : List (BitVec 32)) (p : Nat) (a b : List (BitVec 8)) : ∀ k, 64 * k ≤ a.length → pressK ws p (a ++ b) k = pressK ws p a k
  | 0, _ => rfl
  | k + 1, h => by rw [pressK, pressK, pressK_append ws p a b k (by omega), chunk_append a b k h]
theorem pressK_add (ws : List (BitVec 32)) (p : Nat) (all : List (BitVec 8)) (m : Nat) : ∀ j, pressK ws p all (m + j) = pressK (pressK ws p all m) (p + 64 * m) (all.drop (64 * m)) j
  | 0 => rfl
  | j + 1 => by
    rw [← Nat.add_assoc, pressK, pressK_add ws p all m j, pressK]
    have e1 : p + 64 * (m + j + 1) = p + 64 * m + 64 * (j + 1) := by omega
    have e2 : chunk all (m + j) = chunk (all.drop (64 * m)) j := by
      unfold chunk
      rw [List.drop_drop, show 64 * m + 64 * j = 64 * (m + j) by omega]
    rw [e1, e2]
/-- the sum's words of a state in which bytes wait -/
def endS (ws : List (BitVec 32)) (p : Nat) (cur : List (BitVec 8)) : List (BitVec 32) := pressS ws (pad cur) (p + cur.length) true
/-- a state: words, how many bytes were pressed, the bytes that wait -/
structure HS where
  ws : List (BitVec 32)
  p : Nat
  cur : List (BitVec 8)
def takeS (s : HS) (b : List (BitVec 8)) : HS := ⟨pressK s.ws s.p (s.cur ++ b) (cnt (s.cur ++ b)), s.p + 64 * cnt (s.cur ++ b), (s.cur ++ b).drop (64 * cnt (s.cur ++ b))⟩
theorem takeS_takeS (s : HS) (a b : List (BitVec 8)) : takeS (takeS s a) b = takeS s (a ++ b) := by
  obtain ⟨ws, p, cur⟩ := s
  unfold takeS
  simp only
  obtain ⟨A, hA⟩ : ∃ A, cur ++ a = A := ⟨_, rfl⟩
  have e : cur ++ (a ++ b) = A ++ b := by rw [← hA, List.append_assoc]
  rw [e, hA]
  have hm : 64 * cnt A ≤ A.length := by unfold cnt; omega
  have hd : A.drop (64 * cnt A) ++ b = (A ++ b).drop (64 * cnt A) := by rw [List.drop_append_of_le_length hm]
  rw [hd]
  have hc : cnt (A ++ b) = cnt A + cnt ((A ++ b).drop (64 * cnt A)) := by
    unfold cnt
    simp only [List.length_drop, List.length_append]
    omega
  rw [hc, pressK_add, pressK_append ws p A b _ hm, List.drop_drop]
  congr 1
  · omega
  · congr 1; omega
theorem takeS_cur_le (s : HS) (b : List (BitVec 8)) : (takeS s b).cur.length ≤ 64 := by
  unfold takeS cnt
  simp; omega
theorem takeS_ws (s : HS) (b : List (BitVec 8)) : (takeS s b).ws.length = s.ws.length := pressK_length ..
theorem takeS_count (s : HS) (b : List (BitVec 8)) : (takeS s b).p + (takeS s b).cur.length = s.p + s.cur.length + b.length := by
  unfold takeS cnt
  simp; omega
end Go.Proofs.Sm
