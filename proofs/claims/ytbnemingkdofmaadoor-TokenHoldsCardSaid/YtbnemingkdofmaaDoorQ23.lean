/-
  The keys of a label, and the contract of the reference's Derive.
  The iterator over keys: how it is made, and the making of one key.
-/
import Derived.Test.YtbnemingkdofmaaDoorQ19
import Derived.Test.YtbnemingkdofmaaDoorQ22
import Derived.Deep.RegionHeldLaw
import Derived.Shelf.Abstract
import Derived.WalkKit
import Derived.OwnWalkIn
import Derived.TacticsInMore
import Derived.LoopNIn
import Derived.LoopIn
import Derived.Outline
import Derived.Deep.WholeRow
import Derived.Deep.CutRange
namespace Go.Proofs
open Go.RowKit Sm
/-- the key that comes after k ones; none ahead of the first -/
def Sm.lastK (key lb : List (BitVec 8)) : Nat → List (BitVec 8)
  | 0 => []
  | k + 1 => tagS key (lastK key lb k ++ lb ++ [BitVec.ofNat 8 (k + 1)])
/-- the first k keys, one behind the other -/
def Sm.allK (key lb : List (BitVec 8)) : Nat → List (BitVec 8)
  | 0 => []
  | k + 1 => allK key lb k ++ lastK key lb (k + 1)
theorem Sm.lastK_length (key lb : List (BitVec 8)) (k : Nat) : (lastK key lb (k + 1)).length = 32 := tagS_length _ _
theorem Sm.lastK_le (key lb : List (BitVec 8)) (k : Nat) : (lastK key lb k).length ≤ 32 := by
  cases k
  · simp [lastK]
  · rw [lastK_length]; exact Nat.le_refl _
theorem Sm.allK_length (key lb : List (BitVec 8)) (k : Nat) : (allK key lb k).length = 32 * k := by
  induction k with
  | zero => rfl
  | succ k ih => rw [allK, List.length_append, ih, lastK_length]; omega
/-- the first bytes of keys -/
def Sm.deriveS (key lb : List (BitVec 8)) (n : Nat) : List (BitVec 8) := (allK key lb ((n + 31) / 32)).take n
theorem Sm.rd_of_pt {w : World} {g n c : Nat} {A : Option Addr} {l : List (BitVec 8)} (h : PtOK w g A n c l) : Rd w w.heap.size A l := fun hl => by
  obtain ⟨b, off, rfl, hlt, _, hc⟩ := h.rd (by rw [List.length_map]; exact hl)
  exact ⟨b, off, rfl, hlt, fun j c hj => hc j _ (by rw [List.getElem?_map, hj]; rfl)⟩
theorem Sm.rd_one (x : BitVec 8) (X : Int) (hX : X = ib x) (w : World) : Rd (w.alloc (.cells #[.int .u8 X] 5)) (w.heap.size + 1) (some ⟨w.heap.size, 0, none⟩) [x] := fun _ => ⟨w.heap.size, 0, rfl, by omega, fun j c hj => by
  rw [World.cell?_alloc_mark]
  rcases j with _ | j <;> simp at hj <;> subst hj <;> subst hX <;> rfl⟩
theorem Sm.own_cap {w : World} {base n c : Nat} {e : TypeId} {A : Option Addr} {xs : List Value} (h : w.ownsRow base e 1 (.slice A n c) n xs) : n ≤ c := by
  rcases h.2 with ⟨e, e2⟩ | ⟨k, cap, cur, e, hb, hk, hnc, hcm, hcs, htake⟩
  · omega
  · simp only [Value.slice.injEq] at e
    obtain ⟨rfl, _, rfl⟩ := e
    exact hnc
/-- what is read beside a row that grows -/
theorem Sm.rd_grown {w w' : World} {row : Option Nat} {A : Option Addr} {l : List (BitVec 8)} (hg : w.grownBy w' row) (h : Rd w w.heap.size A l) (hn : ∀ a : Addr, A = some a → ∀ g, row = some g → a.block ≠ g) : Rd w' w.heap.size A l := fun hl => by
  obtain ⟨b, off, rfl, hlt, hc⟩ := h hl
  exact ⟨b, off, rfl, hlt, fun j c hj => ((But.grown hg).cell (p := ⟨b, off + j, none⟩) hlt (fun e => hn _ rfl b e rfl)).trans (hc j c hj)⟩
end Go.Proofs
namespace Go.Proofs
open Go.RowKit Sm
attribute [local go_sem] Oper.semAt_some
set_option maxHeartbeats 400000 in
theorem Sm.keys_any (A : Option Addr) (lb : ByteArray) (w : World) : Calls Tryd.prog 69 #[.pointer A, .string lb] w fun e w' => e = .returned (.func (.func 78) #[] #[.pointer (some ⟨w.heap.size, 0, none⟩), .pointer (some ⟨w.heap.size + 1, 0, none⟩)]) ∧ (w.alloc (.cells #[.pointer A] 0x6d)).alloc (.cells #[.string lb] 9) = w' := by
  go_enter Tryd.func69, Tryd.ntmps69
  go_wp2
  go_ret
  exact ⟨rfl, rfl⟩
/-- three texts in a row -/
def Sm.Row3 (w : World) (N : Nat) (x y z : ByteArray) : Prop := Blk w N 9 #[.string x, .string y, .string z]
theorem Sm.Row3.keep {w w' : World} {N : Nat} {x y z : ByteArray} (h : Row3 w N x y z) (hb : Below w.heap.size w w') : Row3 w' N x y z := Blk.keep h hb
theorem Sm.Row3.ok {w : World} {N g : Nat} {x y z : ByteArray} (h : Row3 w N x y z) (hg : g ≠ N) : SsOK w g (some ⟨N, 0, none⟩) 3 [x, y, z] := by
  refine ⟨rfl, by decide, fun _ => ⟨N, 0, rfl, Blk.lt h, fun e => hg e.symm, fun j v hj => ?_⟩⟩
  rw [Nat.zero_add, Blk.cell h]
  simpa using hj
end Go.Proofs
