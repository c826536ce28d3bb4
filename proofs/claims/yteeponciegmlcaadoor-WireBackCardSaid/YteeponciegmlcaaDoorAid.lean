/-
  What owned bytes give: their form, the places where they read, the parts of a literal. No condition.
-/
import Derived.Lib.SlBytesConst
import Derived.Lib.SmallJoins
import Derived.Test.YteeponciegmlcaaDoorWalkP
namespace Go.Proofs
open Go.RowKit Go.Shelf Sm
theorem Sm.own_form {w : World} {base : Nat} {e : TypeId} {v : Value} {n : Nat} {xs : List Value} (h : w.ownsRow base e 1 v n xs) (hn : 0 < n) : ∃ g cap, v = .slice (some ⟨g, 0, none⟩) n cap ∧ base ≤ g ∧ g < w.heap.size ∧ n ≤ cap := by
  obtain ⟨g, cap, hv, hb, hg⟩ := h.form hn
  refine ⟨g, cap, hv, hb, hg, ?_⟩
  rcases h.2 with ⟨_, h0⟩ | ⟨g', cap', cur, hv', _, _, hnc, _⟩
  · omega
  · rw [hv] at hv'
    injection hv' with _ _ e3
    omega
theorem Sm.Rd.lit (w : World) (cs : Array Value) (t : TypeId) (fr : Nat × Nat) (l : List (BitVec 8)) (N B : Nat) (hN : w.heap.size = N) (hB : N < B) (hcs : cs.toList = l.map byteCell) : Rd (w.alloc (.cells cs t fr)) B (some ⟨N, 0, none⟩) l := fun _ => by
  subst hN
  refine ⟨w.heap.size, 0, rfl, hB, fun j c hj => ?_⟩
  rw [Nat.zero_add, World.cell?_alloc_mark]
  have : cs.toList[j]? = some (byteCell c) := by rw [hcs, List.getElem?_map, hj]; rfl
  rw [← Array.getElem?_toList, this]
  rfl
def Sm.hi : List (BitVec 8) := [104#8, 105#8]
theorem Sm.str_hi : (strB hi).toList = [104, 105] := by rw [ByteArray.toList_eq]; rfl
theorem Sm.ne_self {x y : Int} (h : x = y) : (x != y) = false := by simp [h]
theorem Sm.eq_self {x y : Int} (h : x = y) : (x == y) = true := by simp [h]
theorem Sm.Rd.len0 {w : World} {B : Nat} {A : Option Addr} {l : List (BitVec 8)} {n : Nat} (h : Rd w B A l) (hn : l.length = n) (h0 : 0 < n) : ∃ b off, A = some ⟨b, off, none⟩ := by
  obtain ⟨b, off, e, _⟩ := h (by omega)
  exact ⟨b, off, e⟩
/-- a part that is read out of a row of the call's own -/
theorem Sm.Pt.ok_own {w : World} {base n c : Nat} {A : Option Addr} {l : List (BitVec 8)} (h : w.ownsRow base 5 1 (.slice A n c) n (l.map byteCell)) (hm : n ≤ 9223372036854775807) : Pt.ok ⟨A, n, c, l⟩ w w.heap.size :=
  ⟨by have := h.1; simpa using this, hm, Rd.of_own h (Nat.le_refl _)⟩
theorem Sm.own_some {w : World} {base : Nat} {e : TypeId} {v : Value} {n : Nat} {xs : List Value} (h : w.ownsRow base e 1 v n xs) (hv : v.ownBlock ≠ none) : ∃ g cap, v = .slice (some ⟨g, 0, none⟩) n cap ∧ base ≤ g ∧ g < w.heap.size ∧ n ≤ cap := by
  rcases h.2 with ⟨rfl, _⟩ | ⟨g, cap, cur, rfl, hb, hg, hnc, _⟩
  · exact absurd rfl hv
  · exact ⟨g, cap, rfl, hb, (Array.getElem?_eq_some_iff.1 hg).1, hnc⟩
theorem Sm.own_apart {w : World} {base n g : Nat} {e : TypeId} {size : Nat} {v : Value} {xs : List Value} (h : w.ownsRow base e size v n xs) (hg : g < base) : v.ownBlock = none ∨ v.ownBlock ≠ some g := by
  rcases hv : v.ownBlock with _ | k
  · exact .inl rfl
  · refine .inr fun e => ?_
    have h1 := (h.lt k hv).1
    injection e with e
    omega
