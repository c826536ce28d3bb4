/-
  The contract of the reference's Press: at every state, block, count.
-/
import Derived.Deep.QuietTactic
import Derived.BigQuiet
import Derived.IntWalk
import Derived.Deep.CutRange
import Derived.StillTailTactics
import Derived.Test.YtbojnblececnhaaGreatDoorQ09
import Derived.Test.YtbojnblececnhaaGreatDoorQ05
namespace Go.Proofs
open Go.RowKit Sm
theorem Sm.sub_word (x : BitVec 32) : IntKind.u32.wrap (4294967295 - iv x) = iv (~~~x) := by
  have e : 4294967295 - iv x = iv (~~~x) := by
    unfold iv
    rw [BitVec.toNat_not]
    have := x.isLt
    omega
  rw [e, wrap_iv]
theorem Sm.sub_word' (x : BitVec 32) : 4294967295 - iv x = iv (~~~x) := by
  unfold iv
  rw [BitVec.toNat_not]
  have := x.isLt
  omega
theorem Sm.quo_wrap (n : Nat) (h : n < 18446744073709551616) : IntKind.u64.wrap ((n : Int) / 4294967296) = (n : Int) / 4294967296 := by
  simp [IntKind.wrap, IntKind.signed, IntKind.bits]
  omega
theorem Sm.iv_mod (x : BitVec 32) : iv x % 4294967296 = iv x := Int.emod_eq_of_lt (iv_lo x) (iv_hi x)
theorem Sm.nv_size (l : List Nat) : (nv l).size = l.length := by simp [nv]
/-- the cells that a mixing of the reference reads stay -/
theorem Sm.keep12 {W2 W : World} {P N O G m0 m1 m2 m3 o0 o1 g0 g1 : Nat} {a0 a1 a2 a3 v0 v1 v2 v3 b0 b1 c0 c1 : Value} (hP : P < W2.heap.size) (hN : N < W2.heap.size) (hO : O < W2.heap.size) (hG : G < W2.heap.size)
    (h : (W2.cell? ⟨P, 0, none⟩ = some a0 ∧ W2.cell? ⟨P, 1, none⟩ = some a1 ∧ W2.cell? ⟨P, 2, none⟩ = some a2 ∧ W2.cell? ⟨P, 3, none⟩ = some a3 ∧ W2.cell? ⟨N, m0, none⟩ = some v0 ∧ W2.cell? ⟨N, m1, none⟩ = some v1 ∧ W2.cell? ⟨N, m2, none⟩ = some v2 ∧ W2.cell? ⟨N, m3, none⟩ = some v3) ∧ W2.cell? ⟨O, o0, none⟩ = some b0 ∧ W2.cell? ⟨O, o1, none⟩ = some b1 ∧ W2.cell? ⟨G, g0, none⟩ = some c0 ∧ W2.cell? ⟨G, g1, none⟩ = some c1) (hb : Below W2.heap.size W2 W) :
    W.cell? ⟨P, 0, none⟩ = some a0 ∧ W.cell? ⟨P, 1, none⟩ = some a1 ∧ W.cell? ⟨P, 2, none⟩ = some a2 ∧ W.cell? ⟨P, 3, none⟩ = some a3 ∧ W.cell? ⟨N, m0, none⟩ = some v0 ∧ W.cell? ⟨N, m1, none⟩ = some v1 ∧ W.cell? ⟨N, m2, none⟩ = some v2 ∧ W.cell? ⟨N, m3, none⟩ = some v3 ∧ W.cell? ⟨O, o0, none⟩ = some b0 ∧ W.cell? ⟨O, o1, none⟩ = some b1 ∧ W.cell? ⟨G, g0, none⟩ = some c0 ∧ W.cell? ⟨G, g1, none⟩ = some c1 := by
  obtain ⟨h8, e0, e1, e2, e3⟩ := h
  obtain ⟨k0, k1, k2, k3, k4, k5, k6, k7⟩ := keep8 hP hN h8 hb
  exact ⟨k0, k1, k2, k3, k4, k5, k6, k7, (hb.cell (p := ⟨O, o0, none⟩) hO).trans e0, (hb.cell (p := ⟨O, o1, none⟩) hO).trans e1, (hb.cell (p := ⟨G, g0, none⟩) hG).trans e2, (hb.cell (p := ⟨G, g1, none⟩) hG).trans e3⟩
theorem Sm.keepPQ {W2 W : World} {P Q N : Nat} {a0 a1 a2 a3 v0 v1 v2 v3 : Value} (hP : P < W2.heap.size ∧ P ≠ N) (hQ : Q < W2.heap.size ∧ Q ≠ N)
    (h : W2.cell? ⟨P, 0, none⟩ = some a0 ∧ W2.cell? ⟨P, 1, none⟩ = some a1 ∧ W2.cell? ⟨P, 2, none⟩ = some a2 ∧ W2.cell? ⟨P, 3, none⟩ = some a3 ∧ W2.cell? ⟨Q, 0, none⟩ = some v0 ∧ W2.cell? ⟨Q, 1, none⟩ = some v1 ∧ W2.cell? ⟨Q, 2, none⟩ = some v2 ∧ W2.cell? ⟨Q, 3, none⟩ = some v3) (hb : But (fun b => b = N) W2 W) :
    W.cell? ⟨P, 0, none⟩ = some a0 ∧ W.cell? ⟨P, 1, none⟩ = some a1 ∧ W.cell? ⟨P, 2, none⟩ = some a2 ∧ W.cell? ⟨P, 3, none⟩ = some a3 ∧ W.cell? ⟨Q, 0, none⟩ = some v0 ∧ W.cell? ⟨Q, 1, none⟩ = some v1 ∧ W.cell? ⟨Q, 2, none⟩ = some v2 ∧ W.cell? ⟨Q, 3, none⟩ = some v3 := by
  obtain ⟨h0, h1, h2, h3, h4, h5, h6, h7⟩ := h
  exact ⟨(hb.cell (p := ⟨P, 0, none⟩) hP.1 hP.2).trans h0, (hb.cell (p := ⟨P, 1, none⟩) hP.1 hP.2).trans h1, (hb.cell (p := ⟨P, 2, none⟩) hP.1 hP.2).trans h2, (hb.cell (p := ⟨P, 3, none⟩) hP.1 hP.2).trans h3,
    (hb.cell (p := ⟨Q, 0, none⟩) hQ.1 hQ.2).trans h4, (hb.cell (p := ⟨Q, 1, none⟩) hQ.1 hQ.2).trans h5, (hb.cell (p := ⟨Q, 2, none⟩) hQ.1 hQ.2).trans h6, (hb.cell (p := ⟨Q, 3, none⟩) hQ.1 hQ.2).trans h7⟩
theorem Sm.mx_ne (j : Nat) (h : j < 8) : mx j 0 ≠ mx j 1 ∧ mx j 0 ≠ mx j 2 ∧ mx j 0 ≠ mx j 3 ∧ mx j 1 ≠ mx j 2 ∧ mx j 1 ≠ mx j 3 ∧ mx j 2 ≠ mx j 3 := by
  have : ∀ j, j < 8 → mx j 0 ≠ mx j 1 ∧ mx j 0 ≠ mx j 2 ∧ mx j 0 ≠ mx j 3 ∧ mx j 1 ≠ mx j 2 ∧ mx j 1 ≠ mx j 3 ∧ mx j 2 ≠ mx j 3 := by decide
  exact this j h
end Go.Proofs
