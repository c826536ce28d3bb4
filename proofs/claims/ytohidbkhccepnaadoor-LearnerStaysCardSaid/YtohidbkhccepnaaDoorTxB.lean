/-
  The contract of the document's Signs. Condition: a text that is not too long. (The sign is taken as the contract of its function.)
-/
import Derived.Maps.AppendAt
import Derived.Test.YtohidbkhccepnaaDoorTxA5
import Derived.Test.YtohidbkhccepnaaDoorSlB
import Derived.Test.YtohidbkhccepnaaDoorApp
namespace Go.Proofs
open Go Go.RowKit Sm Go.Lib
theorem Sm.cell_four_new (w : World) (x y z u : Value) (t : TypeId) : ∀ j v, [x, y, z, u][j]? = some v → (w.alloc (.cells #[x, y, z, u] t)).cell? ((⟨w.heap.size, 0, none⟩ : Addr).add j) = some v := by
  intro j v hj
  match j, hj with
  | 0, hj =>
    simp at hj
    subst hj
    exact World.cell?_alloc_new (w := w) #[x, y, z, u] t 0
  | 1, hj =>
    simp at hj
    subst hj
    exact World.cell?_alloc_new (w := w) #[x, y, z, u] t 1
  | 2, hj =>
    simp at hj
    subst hj
    exact World.cell?_alloc_new (w := w) #[x, y, z, u] t 2
  | 3, hj =>
    simp at hj
    subst hj
    exact World.cell?_alloc_new (w := w) #[x, y, z, u] t 3
/-- the cells of sign k -/
def Sm.signC (s : ByteArray) (k : Nat) : List Value := [.int .i64 (posK s k : Int), .int .i64 ((Utf8.decode s (posK s k)).2 : Int), .int .i64 ((Utf8.decode s (posK s k)).1 : Int), .bool (brokeP s (posK s k))]
def Sm.signsC (s : ByteArray) : Nat → List Value
  | 0 => []
  | k + 1 => signsC s k ++ signC s k
theorem Sm.get_ext (s : ByteArray) (p j : Nat) (hp : p ≤ s.size) : (s.extract p s.size).get! j = s.get! (p + j) := by
  cases s with
  | mk a =>
    show (ByteArray.extract ⟨a⟩ p a.size).data[j]! = a[p + j]!
    rw [ByteArray.data_extract]
    show (a.extract p a.size)[j]! = a[p + j]!
    by_cases h : p + j < a.size
    · rw [getElem!_pos a (p + j) h, getElem!_pos _ j (by simp; omega), Array.getElem_extract]
    · rw [getElem!_neg a (p + j) h, getElem!_neg _ j (by simp; omega)]
theorem Sm.size_ext (s : ByteArray) (p : Nat) : (s.extract p s.size).size = s.size - p := by simp
theorem Sm.signP_ext (s : ByteArray) (p : Nat) (hp : p ≤ s.size) : signP (s.extract p s.size) 0 = signP s p := by
  rw [signP_eq, signP_eq, size_ext, get_ext s p _ hp, get_ext s p _ hp, get_ext s p _ hp, get_ext s p _ hp]
  rfl
theorem Sm.signP_zero {s : ByteArray} {p : Nat} (hp : p < s.size) : ((signP s p).2 = 0 ↔ brokeP s p = true) := by
  unfold signP
  by_cases h : brokeP s p = true
  · rw [if_pos h]
    simp [h]
  · rw [if_neg h]
    have := (dec_width s p hp).1
    simp only [Bool.not_eq_true] at h
    simp only [h]
    constructor
    · intro e; omega
    · intro e; cases e
end Go.Proofs
