/-
  Contracts of a word turned (the code's and the reference's).
-/
import Derived.WalkKit
import Derived.Outline
import Derived.LoopTactic
import Derived.OwnWalk
import Derived.Lib.Hide
import Derived.Shelf.Abstract
import Derived.RangeFuncNested
import Derived.RegionTactic
import Derived.BigRegion
import Derived.ChangeAlike
import Derived.Test.YtbnemingkdofmaaDoorProg
import Derived.Test.YtbnemingkdofmaaDoorQ01
namespace Go.Proofs
open Go.RowKit Sm
theorem Sm.ret_u32 {a b : Int} (h : a = b) : Ending.returned (.int .u32 a) = .returned (.int .u32 b) := by rw [h]
theorem Sm.shl_mod (x : BitVec 32) (k : Nat) (m : Int) (h : (2 : Int) ^ k = m) : iv x * m % (4294967296 : Int) = iv (x <<< k) := by
  subst h
  have h := wrap_shl x k
  have e : IntKind.u32.wrap (iv x * 2 ^ k) = iv x * (2 : Int) ^ k % (4294967296 : Int) := by
    simp [IntKind.wrap, IntKind.signed, IntKind.bits]
  rw [e] at h
  exact h
theorem Sm.shr_div (x : BitVec 32) (k : Nat) (m : Int) (h : (2 : Int) ^ k = m) : iv x / m = iv (x >>> k) := by
  subst h
  exact iv_shr x k
set_option maxHeartbeats 400000 in
theorem Sm.rotl16 (x : BitVec 32) (w : World) : Calls Tryd.prog 97 #[.int .u32 (iv x), .int .i64 (-16)] w fun e w' => e = .returned (.int .u32 (iv (rotN 16 x))) ∧ w = w' := by
  have h0 := iv_lo x
  have h1 := iv_hi x
  have hb : bits .and .u64 (IntKind.u64.wrap (-16)) 31 = 16 := by decide +kernel
  go_enter Tryd.func97, Tryd.ntmps97
  go_wp2
  go_ret
  refine ⟨ret_u32 ?_, rfl⟩
  rw [shl_mod x 16 _ (by decide), shr_div x 16 _ (by decide), bits_or, turn16]
set_option maxHeartbeats 400000 in
theorem Sm.turnc16 (x : BitVec 32) (w : World) : Calls Tryd.prog 96 #[.int .u32 (iv x), .int .i64 16] w fun e w' => e = .returned (.int .u32 (iv (rotN 16 x))) ∧ w = w' := by
  go_enter Tryd.func96, Tryd.ntmps96
  go_wp2_with (go_at_call 97; (with_reducible refine (rotl16 _ _).mono ?_); rintro e w' ⟨rfl, rfl⟩)
  go_ret
  exact ⟨rfl, rfl⟩
set_option maxHeartbeats 400000 in
theorem Sm.rotl12 (x : BitVec 32) (w : World) : Calls Tryd.prog 97 #[.int .u32 (iv x), .int .i64 (-12)] w fun e w' => e = .returned (.int .u32 (iv (rotN 12 x))) ∧ w = w' := by
  have h0 := iv_lo x
  have h1 := iv_hi x
  have hb : bits .and .u64 (IntKind.u64.wrap (-12)) 31 = 20 := by decide +kernel
  go_enter Tryd.func97, Tryd.ntmps97
  go_wp2
  go_ret
  refine ⟨ret_u32 ?_, rfl⟩
  rw [shl_mod x 20 _ (by decide), shr_div x 12 _ (by decide), bits_or, turn12]
set_option maxHeartbeats 400000 in
theorem Sm.turnc12 (x : BitVec 32) (w : World) : Calls Tryd.prog 96 #[.int .u32 (iv x), .int .i64 12] w fun e w' => e = .returned (.int .u32 (iv (rotN 12 x))) ∧ w = w' := by
  go_enter Tryd.func96, Tryd.ntmps96
  go_wp2_with (go_at_call 97; (with_reducible refine (rotl12 _ _).mono ?_); rintro e w' ⟨rfl, rfl⟩)
  go_ret
  exact ⟨rfl, rfl⟩
set_option maxHeartbeats 400000 in
theorem Sm.rotl8 (x : BitVec 32) (w : World) : Calls Tryd.prog 97 #[.int .u32 (iv x), .int .i64 (-8)] w fun e w' => e = .returned (.int .u32 (iv (rotN 8 x))) ∧ w = w' := by
  have h0 := iv_lo x
  have h1 := iv_hi x
  have hb : bits .and .u64 (IntKind.u64.wrap (-8)) 31 = 24 := by decide +kernel
  go_enter Tryd.func97, Tryd.ntmps97
  go_wp2
  go_ret
  refine ⟨ret_u32 ?_, rfl⟩
  rw [shl_mod x 24 _ (by decide), shr_div x 8 _ (by decide), bits_or, turn8]
set_option maxHeartbeats 400000 in
theorem Sm.turnc8 (x : BitVec 32) (w : World) : Calls Tryd.prog 96 #[.int .u32 (iv x), .int .i64 8] w fun e w' => e = .returned (.int .u32 (iv (rotN 8 x))) ∧ w = w' := by
  go_enter Tryd.func96, Tryd.ntmps96
  go_wp2_with (go_at_call 97; (with_reducible refine (rotl8 _ _).mono ?_); rintro e w' ⟨rfl, rfl⟩)
  go_ret
  exact ⟨rfl, rfl⟩
set_option maxHeartbeats 400000 in
theorem Sm.rotl7 (x : BitVec 32) (w : World) : Calls Tryd.prog 97 #[.int .u32 (iv x), .int .i64 (-7)] w fun e w' => e = .returned (.int .u32 (iv (rotN 7 x))) ∧ w = w' := by
  have h0 := iv_lo x
  have h1 := iv_hi x
  have hb : bits .and .u64 (IntKind.u64.wrap (-7)) 31 = 25 := by decide +kernel
  go_enter Tryd.func97, Tryd.ntmps97
  go_wp2
  go_ret
  refine ⟨ret_u32 ?_, rfl⟩
  rw [shl_mod x 25 _ (by decide), shr_div x 7 _ (by decide), bits_or, turn7]
set_option maxHeartbeats 400000 in
theorem Sm.turnc7 (x : BitVec 32) (w : World) : Calls Tryd.prog 96 #[.int .u32 (iv x), .int .i64 7] w fun e w' => e = .returned (.int .u32 (iv (rotN 7 x))) ∧ w = w' := by
  go_enter Tryd.func96, Tryd.ntmps96
  go_wp2_with (go_at_call 97; (with_reducible refine (rotl7 _ _).mono ?_); rintro e w' ⟨rfl, rfl⟩)
  go_ret
  exact ⟨rfl, rfl⟩
/-- the four words of a mixing, each in a box of its own, and the closure that turns -/
structure Sm.M4 (w : World) (A B C D T : Nat) (q : Q4) : Prop where
  a : Boxed w A 0x85 (.int .u32 (iv q.a))
  b : Boxed w B 0x85 (.int .u32 (iv q.b))
  c : Boxed w C 0x85 (.int .u32 (iv q.c))
  d : Boxed w D 0x85 (.int .u32 (iv q.d))
  t : Boxed w T 0xa2 (.func (.func 96) #[] #[])
/-- they are apart -/
structure Sm.Ap4 (A B C D : Nat) : Prop where
  ab : A ≠ B
  ac : A ≠ C
  ad : A ≠ D
  bc : B ≠ C
  bd : B ≠ D
  cd : C ≠ D
theorem Sm.box_ne_ty {w : World} {A T : Nat} {u v : Value} (h : Boxed w A 0x85 u) (k : Boxed w T 0xa2 v) : T ≠ A := fun e => by
  subst e
  have := h.symm.trans k
  simp at this
set_option maxHeartbeats 1000000 in
theorem Sm.half16 (q : Q4) (x : BitVec 32) (A B C D T n : Nat) (w : World) (h : M4 w A B C D T q) (ap : Ap4 A B C D) (hlo : n ≤ A ∧ n ≤ B ∧ n ≤ C ∧ n ≤ D) : Calls Tryd.prog 98 #[.int .u32 (iv x), .int .i64 16, .int .i64 12, .pointer (some ⟨A, 0, none⟩), .pointer (some ⟨B, 0, none⟩), .pointer (some ⟨T, 0, none⟩), .pointer (some ⟨D, 0, none⟩), .pointer (some ⟨C, 0, none⟩)] w fun e w' => (∃ v, e = .returned v) ∧ M4 w' A B C D T (halfS q x 16 12) ∧ Below n w w' := by
  have ca := h.a.cell
  have cb := h.b.cell
  have cc := h.c.cell
  have cd := h.d.cell
  have ct := h.t.cell
  have fa := h.a.frozen
  have fb := h.b.frozen
  have fc := h.c.frozen
  have fd := h.d.frozen
  have e1 := iv_add_wrap q.b x
  have e2 := iv_add_wrap q.a (q.b + x)
  have e3 := bits_xor q.d (q.a + (q.b + x))
  have e4 := iv_add_wrap q.c (rotN 16 (q.d ^^^ (q.a + (q.b + x))))
  have e5 := bits_xor q.b (q.c + rotN 16 (q.d ^^^ (q.a + (q.b + x))))
  obtain ⟨n1, n2, n3, n4, n5, n6⟩ := ap
  have m1 := n1.symm
  have m2 := n2.symm
  have m3 := n3.symm
  have m4 := n4.symm
  have m5 := n5.symm
  have m6 := n6.symm
  have t1 := box_ne_ty h.a h.t
  have t2 := box_ne_ty h.b h.t
  have t3 := box_ne_ty h.c h.t
  have t4 := box_ne_ty h.d h.t
  have u1 := t1.symm
  have u2 := t2.symm
  have u3 := t3.symm
  have u4 := t4.symm
  go_enter Tryd.func98, Tryd.ntmps98
  go_wp2_with (first
    | (go_at_call 96; (with_reducible refine (turnc16 _ _).mono ?_); rintro e w' ⟨rfl, rfl⟩)
    | (go_at_call 96; (with_reducible refine (turnc12 _ _).mono ?_); rintro e w' ⟨rfl, rfl⟩))
  go_end0
  exact ⟨⟨_, rfl⟩, ⟨(((h.a.set _).other n3 _).other n2 _).other n1 _, (((h.b.other m1 _).other n5 _).other n4 _).set _, (((h.c.other m2 _).other n6 _).set _).other m4 _, (((h.d.other m3 _).set _).other m6 _).other m5 _, (((h.t.other t1 _).other t4 _).other t3 _).other t2 _⟩,
    ((((Below.refl _ w).setCell (p := ⟨A, 0, none⟩) hlo.1 _).setCell (p := ⟨D, 0, none⟩) hlo.2.2.2 _).setCell (p := ⟨C, 0, none⟩) hlo.2.2.1 _).setCell (p := ⟨B, 0, none⟩) hlo.2.1 _⟩
set_option maxHeartbeats 1000000 in
theorem Sm.half8 (q : Q4) (x : BitVec 32) (A B C D T n : Nat) (w : World) (h : M4 w A B C D T q) (ap : Ap4 A B C D) (hlo : n ≤ A ∧ n ≤ B ∧ n ≤ C ∧ n ≤ D) : Calls Tryd.prog 98 #[.int .u32 (iv x), .int .i64 8, .int .i64 7, .pointer (some ⟨A, 0, none⟩), .pointer (some ⟨B, 0, none⟩), .pointer (some ⟨T, 0, none⟩), .pointer (some ⟨D, 0, none⟩), .pointer (some ⟨C, 0, none⟩)] w fun e w' => (∃ v, e = .returned v) ∧ M4 w' A B C D T (halfS q x 8 7) ∧ Below n w w' := by
  have ca := h.a.cell
  have cb := h.b.cell
  have cc := h.c.cell
  have cd := h.d.cell
  have ct := h.t.cell
  have fa := h.a.frozen
  have fb := h.b.frozen
  have fc := h.c.frozen
  have fd := h.d.frozen
  have e1 := iv_add_wrap q.b x
  have e2 := iv_add_wrap q.a (q.b + x)
  have e3 := bits_xor q.d (q.a + (q.b + x))
  have e4 := iv_add_wrap q.c (rotN 8 (q.d ^^^ (q.a + (q.b + x))))
  have e5 := bits_xor q.b (q.c + rotN 8 (q.d ^^^ (q.a + (q.b + x))))
  obtain ⟨n1, n2, n3, n4, n5, n6⟩ := ap
  have m1 := n1.symm
  have m2 := n2.symm
  have m3 := n3.symm
  have m4 := n4.symm
  have m5 := n5.symm
  have m6 := n6.symm
  have t1 := box_ne_ty h.a h.t
  have t2 := box_ne_ty h.b h.t
  have t3 := box_ne_ty h.c h.t
  have t4 := box_ne_ty h.d h.t
  have u1 := t1.symm
  have u2 := t2.symm
  have u3 := t3.symm
  have u4 := t4.symm
  go_enter Tryd.func98, Tryd.ntmps98
  go_wp2_with (first
    | (go_at_call 96; (with_reducible refine (turnc8 _ _).mono ?_); rintro e w' ⟨rfl, rfl⟩)
    | (go_at_call 96; (with_reducible refine (turnc7 _ _).mono ?_); rintro e w' ⟨rfl, rfl⟩))
  go_end0
  exact ⟨⟨_, rfl⟩, ⟨(((h.a.set _).other n3 _).other n2 _).other n1 _, (((h.b.other m1 _).other n5 _).other n4 _).set _, (((h.c.other m2 _).other n6 _).set _).other m4 _, (((h.d.other m3 _).set _).other m6 _).other m5 _, (((h.t.other t1 _).other t4 _).other t3 _).other t2 _⟩,
    ((((Below.refl _ w).setCell (p := ⟨A, 0, none⟩) hlo.1 _).setCell (p := ⟨D, 0, none⟩) hlo.2.2.2 _).setCell (p := ⟨C, 0, none⟩) hlo.2.2.1 _).setCell (p := ⟨B, 0, none⟩) hlo.2.1 _⟩
end Go.Proofs
