/-
  Words turned, and the mixing of four words with two: what the arithmetic of the walk is. No condition.
  Contracts of a word turned (the code's and the reference's).
  Arrays of words and of small numbers in memory; the tables; what a round of mixing makes of sixteen words. No condition.
  The contract of word: four bytes read as a word.
  What a block presses into a state. No condition.
-/
import Derived.Test.YtbojnblececnhaaGreatDoorQ00
import Derived.WalkKit
import Derived.Outline
import Derived.LoopTactic
import Derived.OwnWalk
import Derived.Lib.Hide
import Derived.Shelf.Abstract
import Derived.RangeFuncNested
import Derived.RegionTactic
import Derived.BigRegion
import Derived.ChangeAlike
import Derived.Test.YtbojnblececnhaaGreatDoorProg
import Derived.Deep.MidRow
import Derived.Laws.CopyOwn
namespace Go.Proofs.Sm
/-- a word turned by one place -/
def rot1 (w : BitVec 32) : BitVec 32 := (w >>> 1) ||| (w <<< 31)
def rotN : Nat → BitVec 32 → BitVec 32
  | 0, w => w
  | n + 1, w => rot1 (rotN n w)
theorem turn_lin (n m : Nat) (h : n + m = 32) : Lin (fun w : BitVec 32 => (w >>> n) ||| (w <<< m)) := by
  intro a b
  apply BitVec.eq_of_getLsbD_eq
  intro i hi
  simp only [BitVec.getLsbD_or, BitVec.getLsbD_xor, BitVec.getLsbD_ushiftRight, BitVec.getLsbD_shiftLeft]
  by_cases hm : i < m
  · simp [hm]
  · have h1 : 32 ≤ n + i := by omega
    simp [hm, hi, BitVec.getLsbD_of_ge _ _ h1]
theorem rot1_lin : Lin rot1 := turn_lin 1 31 rfl
theorem rotN_lin : ∀ n, Lin (rotN n)
  | 0 => fun _ _ => rfl
  | n + 1 => fun a b => by rw [rotN, rotN_lin n, rot1_lin]; rfl
theorem turn16 (w : BitVec 32) : (w <<< 16) ||| (w >>> 16) = rotN 16 w := by
  rw [BitVec.or_comm]
  revert w
  exact Lin.ext (turn_lin 16 16 rfl) (rotN_lin 16) (by decide +kernel)
theorem turn12 (w : BitVec 32) : (w <<< 20) ||| (w >>> 12) = rotN 12 w := by
  rw [BitVec.or_comm]
  revert w
  exact Lin.ext (turn_lin 12 20 rfl) (rotN_lin 12) (by decide +kernel)
theorem turn8 (w : BitVec 32) : (w <<< 24) ||| (w >>> 8) = rotN 8 w := by
  rw [BitVec.or_comm]
  revert w
  exact Lin.ext (turn_lin 8 24 rfl) (rotN_lin 8) (by decide +kernel)
theorem turn7 (w : BitVec 32) : (w <<< 25) ||| (w >>> 7) = rotN 7 w := by
  rw [BitVec.or_comm]
  revert w
  exact Lin.ext (turn_lin 7 25 rfl) (rotN_lin 7) (by decide +kernel)
theorem bits_or (x y : BitVec 32) : bits .or .u32 (iv x) (iv y) = iv (x ||| y) := by
  show IntKind.u32.wrap ((BitVec.ofInt 32 (iv x) ||| BitVec.ofInt 32 (iv y)).toNat : Int) = _
  rw [ofInt_iv, ofInt_iv, wrap_u32]
theorem iv_add (x y : BitVec 32) : (iv x + iv y) % (4294967296 : Int) = iv (x + y) := by
  unfold iv
  rw [BitVec.toNat_add]
  simp
theorem iv_add_wrap (x y : BitVec 32) : IntKind.u32.wrap (iv x + iv y) = iv (x + y) := by
  rw [← iv_add]
  simp [IntKind.wrap, IntKind.signed, IntKind.bits]
theorem rot1_num (x : BitVec 32) : iv x / (2 : Int) + 2147483648 * (iv x % (2 : Int)) = iv (rot1 x) := by
  have e : iv (rot1 x) = iv (x >>> 1) + iv (x <<< 31) := by
    unfold rot1 iv
    rw [BitVec.toNat_or]
    have h1 : (x <<< 31).toNat = 2147483648 * (x.toNat % 2) := by
      rw [BitVec.toNat_shiftLeft, Nat.shiftLeft_eq]
      have := x.isLt
      omega
    have h2 : (x >>> 1).toNat < 2 ^ 31 := by
      rw [BitVec.toNat_ushiftRight, Nat.shiftRight_eq_div_pow]
      have := x.isLt
      omega
    rw [h1, Nat.or_comm, show 2147483648 = 2 ^ 31 from rfl, ← Nat.two_pow_add_eq_or_of_lt h2]
    omega
  rw [e]
  have h1 := iv_div2 x
  have h2 := shl1 (x <<< 30)
  have h3 : iv (x <<< 31) = 2147483648 * (iv x % 2) := by
    unfold iv
    rw [BitVec.toNat_shiftLeft, Nat.shiftLeft_eq]
    have := x.isLt
    omega
  rw [← h1, h3]
/-- half of a mixing -/
structure Q4 where
  a : BitVec 32
  b : BitVec 32
  c : BitVec 32
  d : BitVec 32
def halfS (q : Q4) (x : BitVec 32) (far near : Nat) : Q4 :=
  let a := q.a + (q.b + x)
  let d := rotN far (q.d ^^^ a)
  let c := q.c + d
  let b := rotN near (q.b ^^^ c)
  ⟨a, b, c, d⟩
def mixS (q : Q4) (x y : BitVec 32) : Q4 := halfS (halfS q x 16 12) y 8 7
/-- words as the values of memory -/
def wv (x : BitVec 32) : Value := .int .u32 (iv x)
def Q4.cells (q : Q4) : Array Value := #[.int .u32 (iv q.a), .int .u32 (iv q.b), .int .u32 (iv q.c), .int .u32 (iv q.d)]
end Go.Proofs.Sm
namespace Go.Proofs
open Go.RowKit Sm
theorem Sm.ret_u32 {a b : Int} (h : a = b) : Ending.returned (.int .u32 a) = .returned (.int .u32 b) := by rw [h]
theorem Sm.shl_mod (x : BitVec 32) (k : Nat) (m : Int) (h : (2 : Int) ^ k = m) : iv x * m % (4294967296 : Int) = iv (x <<< k) := by
  subst h
  have h := wrap_shl x k
  have e : IntKind.u32.wrap (iv x * 2 ^ k) = iv x * (2 : Int) ^ k % (4294967296 : Int) := by
    simp [IntKind.wrap, IntKind.signed, IntKind.bits]
  rw [e] at h
  exact h
theorem Sm.shr_div (x : BitVec 32) (k : Nat) (m : Int) (h : (2 : Int) ^ k = m) : iv x / m = iv (x >>> k) := by
  subst h
  exact iv_shr x k
set_option maxHeartbeats 400000 in
theorem Sm.rotl16 (x : BitVec 32) (w : World) : Calls Tryz.prog 127 #[.int .u32 (iv x), .int .i64 (-16)] w fun e w' => e = .returned (.int .u32 (iv (rotN 16 x))) ∧ w = w' := by
  have h0 := iv_lo x
  have h1 := iv_hi x
  have hb : bits .and .u64 (IntKind.u64.wrap (-16)) 31 = 16 := by decide +kernel
  go_enter Tryz.func127, Tryz.ntmps127
  go_wp2
  go_ret
  refine ⟨ret_u32 ?_, rfl⟩
  rw [shl_mod x 16 _ (by decide), shr_div x 16 _ (by decide), bits_or, turn16]
set_option maxHeartbeats 400000 in
theorem Sm.turnc16 (x : BitVec 32) (w : World) : Calls Tryz.prog 126 #[.int .u32 (iv x), .int .i64 16] w fun e w' => e = .returned (.int .u32 (iv (rotN 16 x))) ∧ w = w' := by
  go_enter Tryz.func126, Tryz.ntmps126
  go_wp2_with (go_at_call 127; (with_reducible refine (rotl16 _ _).mono ?_); rintro e w' ⟨rfl, rfl⟩)
  go_ret
  exact ⟨rfl, rfl⟩
set_option maxHeartbeats 400000 in
theorem Sm.rotl12 (x : BitVec 32) (w : World) : Calls Tryz.prog 127 #[.int .u32 (iv x), .int .i64 (-12)] w fun e w' => e = .returned (.int .u32 (iv (rotN 12 x))) ∧ w = w' := by
  have h0 := iv_lo x
  have h1 := iv_hi x
  have hb : bits .and .u64 (IntKind.u64.wrap (-12)) 31 = 20 := by decide +kernel
  go_enter Tryz.func127, Tryz.ntmps127
  go_wp2
  go_ret
  refine ⟨ret_u32 ?_, rfl⟩
  rw [shl_mod x 20 _ (by decide), shr_div x 12 _ (by decide), bits_or, turn12]
set_option maxHeartbeats 400000 in
theorem Sm.turnc12 (x : BitVec 32) (w : World) : Calls Tryz.prog 126 #[.int .u32 (iv x), .int .i64 12] w fun e w' => e = .returned (.int .u32 (iv (rotN 12 x))) ∧ w = w' := by
  go_enter Tryz.func126, Tryz.ntmps126
  go_wp2_with (go_at_call 127; (with_reducible refine (rotl12 _ _).mono ?_); rintro e w' ⟨rfl, rfl⟩)
  go_ret
  exact ⟨rfl, rfl⟩
set_option maxHeartbeats 400000 in
theorem Sm.rotl8 (x : BitVec 32) (w : World) : Calls Tryz.prog 127 #[.int .u32 (iv x), .int .i64 (-8)] w fun e w' => e = .returned (.int .u32 (iv (rotN 8 x))) ∧ w = w' := by
  have h0 := iv_lo x
  have h1 := iv_hi x
  have hb : bits .and .u64 (IntKind.u64.wrap (-8)) 31 = 24 := by decide +kernel
  go_enter Tryz.func127, Tryz.ntmps127
  go_wp2
  go_ret
  refine ⟨ret_u32 ?_, rfl⟩
  rw [shl_mod x 24 _ (by decide), shr_div x 8 _ (by decide), bits_or, turn8]
set_option maxHeartbeats 400000 in
theorem Sm.turnc8 (x : BitVec 32) (w : World) : Calls Tryz.prog 126 #[.int .u32 (iv x), .int .i64 8] w fun e w' => e = .returned (.int .u32 (iv (rotN 8 x))) ∧ w = w' := by
  go_enter Tryz.func126, Tryz.ntmps126
  go_wp2_with (go_at_call 127; (with_reducible refine (rotl8 _ _).mono ?_); rintro e w' ⟨rfl, rfl⟩)
  go_ret
  exact ⟨rfl, rfl⟩
set_option maxHeartbeats 400000 in
theorem Sm.rotl7 (x : BitVec 32) (w : World) : Calls Tryz.prog 127 #[.int .u32 (iv x), .int .i64 (-7)] w fun e w' => e = .returned (.int .u32 (iv (rotN 7 x))) ∧ w = w' := by
  have h0 := iv_lo x
  have h1 := iv_hi x
  have hb : bits .and .u64 (IntKind.u64.wrap (-7)) 31 = 25 := by decide +kernel
  go_enter Tryz.func127, Tryz.ntmps127
  go_wp2
  go_ret
  refine ⟨ret_u32 ?_, rfl⟩
  rw [shl_mod x 25 _ (by decide), shr_div x 7 _ (by decide), bits_or, turn7]
set_option maxHeartbeats 400000 in
theorem Sm.turnc7 (x : BitVec 32) (w : World) : Calls Tryz.prog 126 #[.int .u32 (iv x), .int .i64 7] w fun e w' => e = .returned (.int .u32 (iv (rotN 7 x))) ∧ w = w' := by
  go_enter Tryz.func126, Tryz.ntmps126
  go_wp2_with (go_at_call 127; (with_reducible refine (rotl7 _ _).mono ?_); rintro e w' ⟨rfl, rfl⟩)
  go_ret
  exact ⟨rfl, rfl⟩
/-- the four words of a mixing, each in a box of its own, and the closure that turns -/
structure Sm.M4 (w : World) (A B C D T : Nat) (q : Q4) : Prop where
  a : Boxed w A 0xa3 (.int .u32 (iv q.a))
  b : Boxed w B 0xa3 (.int .u32 (iv q.b))
  c : Boxed w C 0xa3 (.int .u32 (iv q.c))
  d : Boxed w D 0xa3 (.int .u32 (iv q.d))
  t : Boxed w T 0xbf (.func (.func 126) #[] #[])
/-- they are apart -/
structure Sm.Ap4 (A B C D : Nat) : Prop where
  ab : A ≠ B
  ac : A ≠ C
  ad : A ≠ D
  bc : B ≠ C
  bd : B ≠ D
  cd : C ≠ D
theorem Sm.box_ne_ty {w : World} {A T : Nat} {u v : Value} (h : Boxed w A 0xa3 u) (k : Boxed w T 0xbf v) : T ≠ A := fun e => by
  subst e
  have := h.symm.trans k
  simp at this
set_option maxHeartbeats 1000000 in
theorem Sm.half16 (q : Q4) (x : BitVec 32) (A B C D T n : Nat) (w : World) (h : M4 w A B C D T q) (ap : Ap4 A B C D) (hlo : n ≤ A ∧ n ≤ B ∧ n ≤ C ∧ n ≤ D) : Calls Tryz.prog 128 #[.int .u32 (iv x), .int .i64 16, .int .i64 12, .pointer (some ⟨A, 0, none⟩), .pointer (some ⟨B, 0, none⟩), .pointer (some ⟨T, 0, none⟩), .pointer (some ⟨D, 0, none⟩), .pointer (some ⟨C, 0, none⟩)] w fun e w' => (∃ v, e = .returned v) ∧ M4 w' A B C D T (halfS q x 16 12) ∧ Below n w w' := by
  have ca := h.a.cell
  have cb := h.b.cell
  have cc := h.c.cell
  have cd := h.d.cell
  have ct := h.t.cell
  have fa := h.a.frozen
  have fb := h.b.frozen
  have fc := h.c.frozen
  have fd := h.d.frozen
  have e1 := iv_add_wrap q.b x
  have e2 := iv_add_wrap q.a (q.b + x)
  have e3 := bits_xor q.d (q.a + (q.b + x))
  have e4 := iv_add_wrap q.c (rotN 16 (q.d ^^^ (q.a + (q.b + x))))
  have e5 := bits_xor q.b (q.c + rotN 16 (q.d ^^^ (q.a + (q.b + x))))
  obtain ⟨n1, n2, n3, n4, n5, n6⟩ := ap
  have m1 := n1.symm
  have m2 := n2.symm
  have m3 := n3.symm
  have m4 := n4.symm
  have m5 := n5.symm
  have m6 := n6.symm
  have t1 := box_ne_ty h.a h.t
  have t2 := box_ne_ty h.b h.t
  have t3 := box_ne_ty h.c h.t
  have t4 := box_ne_ty h.d h.t
  have u1 := t1.symm
  have u2 := t2.symm
  have u3 := t3.symm
  have u4 := t4.symm
  go_enter Tryz.func128, Tryz.ntmps128
  go_wp2_with (first
    | (go_at_call 126; (with_reducible refine (turnc16 _ _).mono ?_); rintro e w' ⟨rfl, rfl⟩)
    | (go_at_call 126; (with_reducible refine (turnc12 _ _).mono ?_); rintro e w' ⟨rfl, rfl⟩))
  go_end0
  exact ⟨⟨_, rfl⟩, ⟨(((h.a.set _).other n3 _).other n2 _).other n1 _, (((h.b.other m1 _).other n5 _).other n4 _).set _, (((h.c.other m2 _).other n6 _).set _).other m4 _, (((h.d.other m3 _).set _).other m6 _).other m5 _, (((h.t.other t1 _).other t4 _).other t3 _).other t2 _⟩,
    ((((Below.refl _ w).setCell (p := ⟨A, 0, none⟩) hlo.1 _).setCell (p := ⟨D, 0, none⟩) hlo.2.2.2 _).setCell (p := ⟨C, 0, none⟩) hlo.2.2.1 _).setCell (p := ⟨B, 0, none⟩) hlo.2.1 _⟩
set_option maxHeartbeats 1000000 in
theorem Sm.half8 (q : Q4) (x : BitVec 32) (A B C D T n : Nat) (w : World) (h : M4 w A B C D T q) (ap : Ap4 A B C D) (hlo : n ≤ A ∧ n ≤ B ∧ n ≤ C ∧ n ≤ D) : Calls Tryz.prog 128 #[.int .u32 (iv x), .int .i64 8, .int .i64 7, .pointer (some ⟨A, 0, none⟩), .pointer (some ⟨B, 0, none⟩), .pointer (some ⟨T, 0, none⟩), .pointer (some ⟨D, 0, none⟩), .pointer (some ⟨C, 0, none⟩)] w fun e w' => (∃ v, e = .returned v) ∧ M4 w' A B C D T (halfS q x 8 7) ∧ Below n w w' := by
  have ca := h.a.cell
  have cb := h.b.cell
  have cc := h.c.cell
  have cd := h.d.cell
  have ct := h.t.cell
  have fa := h.a.frozen
  have fb := h.b.frozen
  have fc := h.c.frozen
  have fd := h.d.frozen
  have e1 := iv_add_wrap q.b x
  have e2 := iv_add_wrap q.a (q.b + x)
  have e3 := bits_xor q.d (q.a + (q.b + x))
  have e4 := iv_add_wrap q.c (rotN 8 (q.d ^^^ (q.a + (q.b + x))))
  have e5 := bits_xor q.b (q.c + rotN 8 (q.d ^^^ (q.a + (q.b + x))))
  obtain ⟨n1, n2, n3, n4, n5, n6⟩ := ap
  have m1 := n1.symm
  have m2 := n2.symm
  have m3 := n3.symm
  have m4 := n4.symm
  have m5 := n5.symm
  have m6 := n6.symm
  have t1 := box_ne_ty h.a h.t
  have t2 := box_ne_ty h.b h.t
  have t3 := box_ne_ty h.c h.t
  have t4 := box_ne_ty h.d h.t
  have u1 := t1.symm
  have u2 := t2.symm
  have u3 := t3.symm
  have u4 := t4.symm
  go_enter Tryz.func128, Tryz.ntmps128
  go_wp2_with (first
    | (go_at_call 126; (with_reducible refine (turnc8 _ _).mono ?_); rintro e w' ⟨rfl, rfl⟩)
    | (go_at_call 126; (with_reducible refine (turnc7 _ _).mono ?_); rintro e w' ⟨rfl, rfl⟩))
  go_end0
  exact ⟨⟨_, rfl⟩, ⟨(((h.a.set _).other n3 _).other n2 _).other n1 _, (((h.b.other m1 _).other n5 _).other n4 _).set _, (((h.c.other m2 _).other n6 _).set _).other m4 _, (((h.d.other m3 _).set _).other m6 _).other m5 _, (((h.t.other t1 _).other t4 _).other t3 _).other t2 _⟩,
    ((((Below.refl _ w).setCell (p := ⟨A, 0, none⟩) hlo.1 _).setCell (p := ⟨D, 0, none⟩) hlo.2.2.2 _).setCell (p := ⟨C, 0, none⟩) hlo.2.2.1 _).setCell (p := ⟨B, 0, none⟩) hlo.2.1 _⟩
end Go.Proofs
namespace Go.Proofs.Sm
open Go.RowKit
def wl (l : List (BitVec 32)) : List Value := l.map wv
def wvs (l : List (BitVec 32)) : Array Value := (wl l).toArray
def o8 (n : Nat) : Value := .int .u8 (n : Int)
def ol (l : List Nat) : List Value := l.map o8
def ovs (l : List Nat) : Array Value := (ol l).toArray
theorem wl_length (l : List (BitVec 32)) : (wl l).length = l.length := by simp [wl]
theorem wvs_size (l : List (BitVec 32)) : (wvs l).size = l.length := by simp [wvs, wl]
theorem ovs_size (l : List Nat) : (ovs l).size = l.length := by simp [ovs, ol]
theorem wl_one (l : List (BitVec 32)) : ∀ v ∈ wl l, v.oneCell' = true := by
  intro v hv
  simp only [wl, List.mem_map] at hv
  obtain ⟨x, _, rfl⟩ := hv
  rfl
theorem ol_one (l : List Nat) : ∀ v ∈ ol l, v.oneCell' = true := by
  intro v hv
  simp only [ol, List.mem_map] at hv
  obtain ⟨x, _, rfl⟩ := hv
  rfl
theorem wvs_one (l : List (BitVec 32)) : (wvs l).all (·.oneCell') = true := all_oneCell_toArray (wl_one l)
/-- the block of a row -/
def Blk (w : World) (b : Nat) (t : TypeId) (cs : Array Value) : Prop := w.heap[b]? = some (.cells cs t (0, 0))
section
variable {w w' : World} {b : Nat} {t : TypeId} {cs : Array Value}
theorem Blk.lt (h : Blk w b t cs) : b < w.heap.size := (Array.getElem?_eq_some_iff.1 h).1
theorem Blk.new (w : World) (t : TypeId) (cs : Array Value) : Blk (w.alloc (.cells cs t)) w.heap.size t cs := World.alloc_heap_new w _
theorem Blk.alloc (h : Blk w b t cs) (o : Obj) : Blk (w.alloc o) b t cs := (Below.heap_alloc w o b h.lt).trans h
theorem Blk.below {n : Nat} (h : Blk w b t cs) (hb : Below n w w') (hn : b < n) : Blk w' b t cs := (hb.block b hn).trans h
theorem Blk.keep (h : Blk w b t cs) (hb : Below w.heap.size w w') : Blk w' b t cs := (hb.block b h.lt).trans h
theorem Blk.other (h : Blk w b t cs) {p : Addr} (hp : b ≠ p.block) (v : Value) : Blk (w.setCell p v) b t cs := (Below.heap_setCell w p v b hp).trans h
theorem Blk.drew (h : Blk w b t cs) : Blk w.drew b t cs := h
theorem Blk.frozen (h : Blk w b t cs) (j : Nat) : w.frozen? ⟨b, j, none⟩ = false := frozen_of_row w b j cs t h
theorem Blk.cell (h : Blk w b t cs) (j : Nat) : w.cell? ⟨b, j, none⟩ = cs[j]? := cell_of_row w b j cs t (0, 0) h
theorem Blk.range (h : Blk w b t cs) : w.rangeAt b 0 cs.toList := fun j v hv => by
  rw [Nat.zero_add, h.cell]; simpa using hv
theorem Blk.there (h : Blk w b t cs) {n : Nat} (hn : n ≤ cs.size) : w.there b 0 n := fun j hj => by
  rw [Nat.zero_add]
  exact ⟨by rw [h.cell, Array.getElem?_eq_getElem (by omega)]; rfl, h.frozen j⟩
end
section
variable {w : World} {b : Nat} {t : TypeId} {l : List (BitVec 32)}
theorem Blk.word (h : Blk w b t (wvs l)) {k : Nat} (hk : k < l.length) : w.cell? ⟨b, k, none⟩ = some (.int .u32 (iv (l.getD k 0))) := by
  rw [h.cell]
  simp [wvs, wl, hk, wv]
theorem Blk.setWord (h : Blk w b t (wvs l)) (k : Nat) (x : BitVec 32) : Blk (w.setCell ⟨b, k, none⟩ (.int .u32 (iv x))) b t (wvs (l.set k x)) := by
  have := heap_setCell_same w b k (wvs l) t (.int .u32 (iv x)) h
  have e : (wvs l).setIfInBounds k (.int .u32 (iv x)) = wvs (l.set k x) := by
    simp [wvs, wl, wv, List.map_set]
  rw [e] at this
  exact this
theorem Blk.num {O : List Nat} (h : Blk w b t (ovs O)) {k : Nat} (hk : k < O.length) : w.cell? ⟨b, k, none⟩ = some (.int .u8 ((O.getD k 0 : Nat) : Int)) := by
  rw [h.cell]
  simp [ovs, ol, hk, o8]
end
/-- the places of the words that are mixed -/
def mxL : List (List Nat) := [[0, 4, 8, 12], [1, 5, 9, 13], [2, 6, 10, 14], [3, 7, 11, 15], [0, 5, 10, 15], [1, 6, 11, 12], [2, 7, 8, 13], [3, 4, 9, 14]]
def mx (k j : Nat) : Nat := (mxL.getD k []).getD j 0
theorem mx_lt (k j : Nat) (hk : k < 8) (hj : j < 4) : mx k j < 16 := by
  have : ∀ k, k < 8 → ∀ j, j < 4 → mx k j < 16 := by decide
  exact this k hk j hj
def orL : List (List Nat) := [[0, 1, 2, 3, 4, 5, 6, 7, 8, 9, 10, 11, 12, 13, 14, 15], [14, 10, 4, 8, 9, 15, 13, 6, 1, 12, 0, 2, 11, 7, 5, 3],
  [11, 8, 12, 0, 5, 2, 15, 13, 10, 14, 3, 6, 7, 1, 9, 4], [7, 9, 3, 1, 13, 12, 11, 14, 2, 6, 5, 10, 4, 0, 15, 8], [9, 0, 5, 7, 2, 4, 10, 15, 14, 1, 11, 12, 6, 8, 3, 13],
  [2, 12, 6, 10, 0, 11, 8, 3, 4, 13, 7, 5, 15, 14, 1, 9], [12, 5, 1, 15, 14, 13, 4, 10, 0, 7, 6, 3, 9, 2, 8, 11], [13, 11, 7, 14, 12, 1, 3, 9, 5, 0, 15, 4, 8, 6, 2, 10],
  [6, 15, 14, 9, 11, 3, 0, 8, 12, 2, 13, 7, 1, 4, 10, 5], [10, 2, 8, 4, 7, 6, 1, 5, 15, 11, 9, 14, 3, 12, 13, 0]]
def ord (n : Nat) : List Nat := orL.getD n []
theorem ord_length (n : Nat) (h : n < 10) : (ord n).length = 16 := by
  have : ∀ n, n < 10 → (ord n).length = 16 := by decide
  exact this n h
theorem ord_lt (n : Nat) (h : n < 10) : ∀ o ∈ ord n, o < 16 := by
  have : ∀ n, n < 10 → ∀ o ∈ ord n, o < 16 := by decide
  exact this n h
def beginL : List (BitVec 32) := [0x6a09e667#32, 0xbb67ae85#32, 0x3c6ef372#32, 0xa54ff53a#32, 0x510e527f#32, 0x9b05688c#32, 0x1f83d9ab#32, 0x5be0cd19#32]
/-- the package's tables as they lie in memory -/
def mixV : List Value := mxL.flatMap ol
def ordV : List Value := orL.flatMap ol
structure Tabs (w : World) : Prop where
  size : 4 ≤ w.heap.size
  first : w.rangeAt 1 0 (wl beginL)
  order : w.rangeAt 2 0 ordV
  mixed : w.rangeAt 3 0 mixV
theorem rangeAt_below {w w' : World} {n b o : Nat} {cs : List Value} (h : w.rangeAt b o cs) (hb : Below n w w') (hn : b < n) : w'.rangeAt b o cs := fun j v hv => (hb.cell (p := ⟨b, o + j, none⟩) hn).trans (h j v hv)
theorem Tabs.below {w w' : World} {n : Nat} (h : Tabs w) (hb : Below n w w') (hn : 4 ≤ n) : Tabs w' :=
  ⟨Nat.le_trans h.size hb.size, rangeAt_below h.first hb (by omega), rangeAt_below h.order hb (by omega), rangeAt_below h.mixed hb (by omega)⟩
theorem Tabs.keep {w w' : World} (h : Tabs w) (hb : Below w.heap.size w w') : Tabs w' := h.below hb h.size
def Q4.get (q : Q4) : Nat → BitVec 32
  | 0 => q.a
  | 1 => q.b
  | 2 => q.c
  | _ => q.d
/-- four words put into their places, as far as they have come -/
def setQ (W : List (BitVec 32)) (k : Nat) (q : Q4) : Nat → List (BitVec 32)
  | 0 => W
  | j + 1 => (setQ W k q j).set (mx k j) (q.get j)
theorem setQ_length (W : List (BitVec 32)) (k : Nat) (q : Q4) : ∀ j, (setQ W k q j).length = W.length
  | 0 => rfl
  | j + 1 => by rw [setQ, List.length_set, setQ_length]
def gatherQ (W : List (BitVec 32)) (k : Nat) : Q4 := ⟨W.getD (mx k 0) 0, W.getD (mx k 1) 0, W.getD (mx k 2) 0, W.getD (mx k 3) 0⟩
def stepQ (W M : List (BitVec 32)) (O : List Nat) (k : Nat) : Q4 := mixS (gatherQ W k) (M.getD (O.getD (2 * k) 0) 0) (M.getD (O.getD (2 * k + 1) 0) 0)
/-- the words behind k mixings of a round -/
def rndS (W M : List (BitVec 32)) (O : List Nat) : Nat → List (BitVec 32)
  | 0 => W
  | k + 1 => setQ (rndS W M O k) k (stepQ (rndS W M O k) M O k) 4
theorem rndS_length (W M : List (BitVec 32)) (O : List Nat) : ∀ k, (rndS W M O k).length = W.length
  | 0 => rfl
  | k + 1 => by rw [rndS, setQ_length, rndS_length]
/-- the words behind n rounds -/
def rounds (V M : List (BitVec 32)) : Nat → List (BitVec 32)
  | 0 => V
  | n + 1 => rndS (rounds V M n) M (ord n) 8
theorem rounds_length (V M : List (BitVec 32)) : ∀ n, (rounds V M n).length = V.length
  | 0 => rfl
  | n + 1 => by rw [rounds, rndS_length, rounds_length]
end Go.Proofs.Sm
namespace Go.Proofs
open Go.RowKit Sm
/-- a word out of four bytes, as far as they have come -/
def Sm.wordF (f : Nat → BitVec 8) : Nat → BitVec 32
  | 0 => 0#32
  | k + 1 => wordF f k ||| (((f k).setWidth 32) <<< (8 * k))
theorem Sm.byte_iv (c : BitVec 8) : 0 ≤ iv (c.setWidth 32) ∧ iv (c.setWidth 32) < 256 := by
  rw [← ib_iv]; exact ⟨ib_lo c, ib_hi c⟩
theorem Sm.shl_small (x : BitVec 32) (k : Nat) (m : Int) (h : (2 : Int) ^ k = m) (hb : iv x * m < 4294967296) : iv x * m = iv (x <<< k) := by
  rw [← shl_mod x k m h, Int.emod_eq_of_lt _ hb]
  have h0 := iv_lo x
  have : 0 ≤ m := by rw [← h]; exact Int.le_of_lt (Int.pow_pos (by decide))
  exact Int.mul_nonneg h0 this
set_option maxHeartbeats 1000000 in
theorem Sm.word_any (f : Nat → BitVec 8) (g off cap : Nat) (w : World) (h : ∀ k, k < 4 → w.cell? ⟨g, off + k, none⟩ = some (.int .u8 (ib (f k)))) :
    Calls Tryz.prog 123 #[.slice (some ⟨g, off, none⟩) 4 cap] w fun e w' => e = .returned (.int .u32 (iv (wordF f 4))) ∧ w = w' := by
  have h0 := h 0 (by decide)
  have h1 := h 1 (by decide)
  have h2 := h 2 (by decide)
  have h3 := h 3 (by decide)
  rw [ib_iv] at h0 h1 h2 h3
  obtain ⟨b0, c0⟩ := byte_iv (f 0)
  obtain ⟨b1, c1⟩ := byte_iv (f 1)
  obtain ⟨b2, c2⟩ := byte_iv (f 2)
  obtain ⟨b3, c3⟩ := byte_iv (f 3)
  clear h
  rw [Nat.add_zero] at h0
  go_enter Tryz.func123, Tryz.ntmps123
  go_wp2
  go_loop [3, 9] (fun v i => ∃ k : Nat, k ≤ 4 ∧ i = .int .i64 (k : Int) ∧ v = .int .u32 (iv (wordF f k))) (fun _ i => 4 - (intOf i).toNat)
  case atStart => exact ⟨0, Nat.zero_le _, rfl, rfl⟩
  case round =>
    obtain ⟨k, hk, rfl, rfl⟩ := hrel
    have : k = 0 ∨ k = 1 ∨ k = 2 ∨ k = 3 ∨ k = 4 := by omega
    rcases this with rfl | rfl | rfl | rfl | rfl
    · go_wp2
      refine ⟨⟨1, by omega, rfl, congrArg (Value.int .u32) ?_⟩, by simp [intOf]⟩
      rw [bits_or]
      show iv (wordF f 0 ||| _) = iv (wordF f 0 ||| _)
      simp
    · go_wp2
      refine ⟨⟨2, by omega, rfl, congrArg (Value.int .u32) ?_⟩, by simp [intOf]⟩
      rw [shl_small _ 8 _ (by decide) (by omega), bits_or]
      rfl
    · go_wp2
      refine ⟨⟨3, by omega, rfl, congrArg (Value.int .u32) ?_⟩, by simp [intOf]⟩
      rw [shl_small _ 16 _ (by decide) (by omega), bits_or]
      rfl
    · go_wp2
      refine ⟨⟨4, by omega, rfl, congrArg (Value.int .u32) ?_⟩, by simp [intOf]⟩
      rw [shl_small _ 24 _ (by decide) (by omega), bits_or]
      rfl
    · go_wp2
      go_ret
      exact ⟨rfl, rfl⟩
end Go.Proofs
namespace Go.Proofs
open Go.RowKit Sm
def Sm.bvs (l : List (BitVec 8)) : Array Value := (l.map byteCell).toArray
theorem Sm.bvs_size (l : List (BitVec 8)) : (bvs l).size = l.length := by simp [bvs]
theorem Sm.bvs_one (l : List (BitVec 8)) : (bvs l).all (·.oneCell') = true := by
  refine all_oneCell_toArray fun v hv => ?_
  simp only [List.mem_map] at hv
  obtain ⟨x, _, rfl⟩ := hv
  rfl
theorem Sm.Blk.byte {w : World} {b : Nat} {t : TypeId} {l : List (BitVec 8)} (h : Blk w b t (bvs l)) {k : Nat} (hk : k < l.length) : w.cell? ⟨b, k, none⟩ = some (.int .u8 (ib (l.getD k 0))) := by
  rw [h.cell]
  simp [bvs, hk, byteCell]
/-- the word at k of a block's bytes -/
def Sm.wordB (B : List (BitVec 8)) (k : Nat) : BitVec 32 := wordF (fun j => B.getD (4 * k + j) 0) 4
def Sm.giv (B : List (BitVec 8)) : Nat → List (BitVec 32)
  | 0 => List.replicate 16 0#32
  | k + 1 => (giv B k).set k (wordB B k)
theorem Sm.giv_length (B : List (BitVec 8)) : ∀ k, (giv B k).length = 16
  | 0 => by simp [giv]
  | k + 1 => by rw [giv, List.length_set, giv_length]
def Sm.vin (H : List (BitVec 32)) : Nat → List (BitVec 32)
  | 0 => List.replicate 16 0#32
  | k + 1 => ((vin H k).set k (H.getD k 0)).set (k + 8) (beginL.getD k 0)
theorem Sm.vin_length (H : List (BitVec 32)) : ∀ k, (vin H k).length = 16
  | 0 => by simp [vin]
  | k + 1 => by rw [vin, List.length_set, List.length_set, vin_length]
def Sm.vlo (n : Nat) (V : List (BitVec 32)) : List (BitVec 32) := V.set 12 (V.getD 12 0 ^^^ BitVec.ofNat 32 n)
def Sm.vhi (n : Nat) (V : List (BitVec 32)) : List (BitVec 32) := V.set 13 (V.getD 13 0 ^^^ BitVec.ofNat 32 (n / 4294967296))
def Sm.vla (V : List (BitVec 32)) : List (BitVec 32) := V.set 14 (~~~ V.getD 14 0)
def Sm.vfl (H : List (BitVec 32)) (n : Nat) (last : Bool) : List (BitVec 32) := if last then vla (vhi n (vlo n (vin H 8))) else vhi n (vlo n (vin H 8))
theorem Sm.vlo_length (n : Nat) (V : List (BitVec 32)) : (vlo n V).length = V.length := List.length_set ..
theorem Sm.vhi_length (n : Nat) (V : List (BitVec 32)) : (vhi n V).length = V.length := List.length_set ..
theorem Sm.vla_length (V : List (BitVec 32)) : (vla V).length = V.length := List.length_set ..
def Sm.fin (H V : List (BitVec 32)) : Nat → List (BitVec 32)
  | 0 => H
  | k + 1 => (fin H V k).set k ((fin H V k).getD k 0 ^^^ (V.getD k 0 ^^^ V.getD (k + 8) 0))
theorem Sm.fin_length (H V : List (BitVec 32)) : ∀ k, (fin H V k).length = H.length
  | 0 => rfl
  | k + 1 => by rw [fin, List.length_set, fin_length]
def Sm.pressS (H : List (BitVec 32)) (B : List (BitVec 8)) (n : Nat) (last : Bool) : List (BitVec 32) := fin H (rounds (vfl H n last) (giv B 16) 10) 8
theorem Sm.vfl_length (H : List (BitVec 32)) (n : Nat) (last : Bool) : (vfl H n last).length = 16 := by
  unfold vfl
  cases last
  · simp [vhi_length, vlo_length, vin_length]
  · simp [vla_length, vhi_length, vlo_length, vin_length]
theorem Sm.pressS_length (H : List (BitVec 32)) (B : List (BitVec 8)) (n : Nat) (last : Bool) : (pressS H B n last).length = H.length := fin_length ..
theorem Sm.z16_eq' : (#[.int .u32 0, .int .u32 0, .int .u32 0, .int .u32 0, .int .u32 0, .int .u32 0, .int .u32 0, .int .u32 0, .int .u32 0, .int .u32 0, .int .u32 0, .int .u32 0, .int .u32 0, .int .u32 0, .int .u32 0, .int .u32 0] : Array Value) = wvs (List.replicate 16 0#32) := rfl
theorem Sm.z8_eq : (#[.int .u32 0, .int .u32 0, .int .u32 0, .int .u32 0, .int .u32 0, .int .u32 0, .int .u32 0, .int .u32 0] : Array Value) = wvs (List.replicate 8 0#32) := rfl
/-- how all stands while a block is pressed -/
structure Sm.PrAt (w wr : World) (H : List (BitVec 32)) (B : List (BitVec 8)) (G V : List (BitVec 32)) : Prop where
  h : Blk wr w.heap.size 0xa4 (wvs H)
  b : Blk wr (w.heap.size + 1) 0x84 (bvs B)
  r : Blk wr (w.heap.size + 2) 0xa4 (wvs (List.replicate 8 0#32))
  g : Blk wr (w.heap.size + 3) 0xb7 (wvs G)
  v : Blk wr (w.heap.size + 4) 0xb7 (wvs V)
  below : Below w.heap.size w wr
theorem Sm.PrAt.keep {w wr w' : World} {H G V : List (BitVec 32)} {B : List (BitVec 8)} (h : PrAt w wr H B G V) (hb : Below wr.heap.size wr w') : PrAt w w' H B G V :=
  ⟨h.h.keep hb, h.b.keep hb, h.r.keep hb, h.g.keep hb, h.v.keep hb, h.below.trans (hb.mono h.below.size)⟩
theorem Sm.PrAt.drew {w wr : World} {H G V : List (BitVec 32)} {B : List (BitVec 8)} (h : PrAt w wr H B G V) : PrAt w wr.drew H B G V := ⟨h.h, h.b, h.r, h.g, h.v, h.below.drew⟩
theorem Sm.PrAt.setG {w wr : World} {H G V : List (BitVec 32)} {B : List (BitVec 8)} (h : PrAt w wr H B G V) (k : Nat) (x : BitVec 32) : PrAt w (wr.setCell ⟨w.heap.size + 3, k, none⟩ (.int .u32 (iv x))) H B (G.set k x) V :=
  ⟨h.h.other (by simp) _, h.b.other (by simp) _, h.r.other (by simp) _, h.g.setWord k x, h.v.other (by simp) _, h.below.setCell (p := ⟨w.heap.size + 3, k, none⟩) (by simp) _⟩
theorem Sm.PrAt.setV {w wr : World} {H G V : List (BitVec 32)} {B : List (BitVec 8)} (h : PrAt w wr H B G V) (k : Nat) (x : BitVec 32) : PrAt w (wr.setCell ⟨w.heap.size + 4, k, none⟩ (.int .u32 (iv x))) H B G (V.set k x) :=
  ⟨h.h.other (by simp) _, h.b.other (by simp) _, h.r.other (by simp) _, h.g.other (by simp) _, h.v.setWord k x, h.below.setCell (p := ⟨w.heap.size + 4, k, none⟩) (by simp) _⟩
theorem Sm.PrAt.setH {w wr : World} {H G V : List (BitVec 32)} {B : List (BitVec 8)} (h : PrAt w wr H B G V) (k : Nat) (x : BitVec 32) : PrAt w (wr.setCell ⟨w.heap.size, k, none⟩ (.int .u32 (iv x))) (H.set k x) B G V :=
  ⟨h.h.setWord k x, h.b.other (by simp) _, h.r.other (by simp) _, h.g.other (by simp) _, h.v.other (by simp) _, h.below.setCell (p := ⟨w.heap.size, k, none⟩) (by simp) _⟩
theorem Sm.PrAt.rowV {w wr : World} {H G V : List (BitVec 32)} {B : List (BitVec 8)} (h : PrAt w wr H B G V) (V' : List (BitVec 32)) : PrAt w (wr.setRow (w.heap.size + 4) (wvs V')) H B G V' :=
  ⟨(setRow_other _ _ _ _ (by omega)).trans h.h, (setRow_other _ _ _ _ (by omega)).trans h.b, (setRow_other _ _ _ _ (by omega)).trans h.r, (setRow_other _ _ _ _ (by omega)).trans h.g, setRow_heap _ _ _ _ _ _ h.v, below_setRow h.below (by omega) _⟩
theorem Sm.Blk.newAt {X : World} {N : Nat} (h : X.heap.size = N) (t : TypeId) (cs : Array Value) : Blk (X.alloc (.cells cs t)) N t cs := h ▸ Blk.new X t cs
theorem Sm.slice64 (b lo hi : Nat) (l h : Int) (el : l = lo) (eh : h = hi) (h1 : lo < hi) (h2 : hi ≤ 64) (w : World) :
    (Instr.sliceAt 0x84 (.pointer (some ⟨b, 0, none⟩)) (some (.int .i64 l)) (some (.int .i64 h)) none).run Tryz.prog w = .ok (.slice (some ⟨b, lo, none⟩) (hi - lo) (64 - lo)) w := by
  subst el eh
  have hu : Tryz.prog.underlying 0x84 = some (.array (Tryz.prog.arrayLen 0x84) (Tryz.prog.elem 0x84)) := by kernel_rfl
  have ha : Tryz.prog.arrayLen 0x84 = 64 := by kernel_rfl
  have he : Tryz.prog.elem 0x84 = 5 := by kernel_rfl
  have hs : ∀ w, (sizeOf 5).run Tryz.prog w = .ok 1 w := fun _ => by kernel_rfl
  rw [run_sliceAt_array_lh w 0x84 ⟨b, 0, none⟩ hu .i64 .i64 _ _ (by omega) (by omega) (by rw [ha]; omega), he, hs]
  simp only [Result.andThen_ok, slicedAt, ha, Int.toNat_natCast, Nat.mul_one]
  rw [if_neg (by omega), Addr.add_mid, Nat.zero_add]
end Go.Proofs
