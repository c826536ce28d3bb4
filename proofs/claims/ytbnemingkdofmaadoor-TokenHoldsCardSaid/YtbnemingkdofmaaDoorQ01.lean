/-
  Between two worlds the blocks of a set may have turned, all others lie as they lay. No condition.
  Words turned, and the mixing of four words with two: what the arithmetic of the walk is. No condition.
-/
import Derived.Lib.AppendStr
import Derived.Shelf.Abstract
import Derived.WalkKit
import Derived.Test.YtbnemingkdofmaaDoorQ00
namespace Go.Proofs
open Go.RowKit Go.Shelf Sm
/-- all but the blocks of S lies as it lay -/
structure Sm.But (S : Nat → Prop) (w w' : World) : Prop where
  os : w'.os = w.os
  tape : w'.tape = w.tape
  output : w'.output = w.output
  size : w.heap.size ≤ w'.heap.size
  block : ∀ k, k < w.heap.size → ¬ S k → w'.heap[k]? = w.heap[k]?
namespace Sm
section
variable {S S' : Nat → Prop} {w w1 w' : World}
theorem But.refl (S : Nat → Prop) (w : World) : But S w w := ⟨rfl, rfl, rfl, Nat.le_refl _, fun _ _ _ => rfl⟩
theorem But.trans (h : But S w w1) (k : But S' w1 w') (hS : ∀ b, b < w.heap.size → S' b → S b) : But S w w' :=
  ⟨k.os.trans h.os, k.tape.trans h.tape, k.output.trans h.output, Nat.le_trans h.size k.size, fun b hb hn => (k.block b (Nat.lt_of_lt_of_le hb h.size) (fun e => hn (hS b hb e))).trans (h.block b hb hn)⟩
theorem But.mono (h : But S w w') (hS : ∀ b, b < w.heap.size → S b → S' b) : But S' w w' := ⟨h.os, h.tape, h.output, h.size, fun b hb hn => h.block b hb (fun e => hn (hS b hb e))⟩
theorem But.grown {row : Option Nat} (h : w.grownBy w' row) : But (fun b => row = some b) w w' := ⟨h.os, h.tape, h.output, h.size, fun b hb hn => h.block b hb (fun e => hn e.symm)⟩
theorem But.to_grown {row : Option Nat} (h : But (fun b => row = some b) w w') : w.grownBy w' row := ⟨h.os, h.tape, h.output, h.size, fun b hb hn => h.block b hb (fun e => hn e.symm)⟩
theorem But.of_below {n : Nat} (h : Below n w w') : But (fun b => n ≤ b) w w' := ⟨h.os, h.tape, h.output, h.size, fun b _ hn => h.block b (by omega)⟩
theorem But.of_all (h : Below w.heap.size w w') (S : Nat → Prop) : But S w w' := ⟨h.os, h.tape, h.output, h.size, fun b hb _ => h.block b hb⟩
theorem But.to_below {n : Nat} (h : But S w w') (hn : n ≤ w.heap.size) (hS : ∀ b, S b → n ≤ b) : Below n w w' := ⟨h.os, h.tape, h.output, h.size, fun b hb => h.block b (by omega) (fun e => by have := hS b e; omega)⟩
theorem But.below {w0 : World} (hb : Below w0.heap.size w0 w) (h : But S w w') (hS : ∀ b, S b → w0.heap.size ≤ b) : Below w0.heap.size w0 w' := hb.trans (h.to_below hb.size hS)
theorem But.cell (h : But S w w') {p : Addr} (hp : p.block < w.heap.size) (hn : ¬ S p.block) : w'.cell? p = w.cell? p := World.cell?_of_block (h.block _ hp hn)
theorem But.frozen (h : But S w w') {p : Addr} (hp : p.block < w.heap.size) (hn : ¬ S p.block) : w'.frozen? p = w.frozen? p := World.frozen?_of_block (h.block _ hp hn)
theorem But.row (h : But S w w') {base : Nat} {e : TypeId} {size : Nat} {v : Value} {n : Nat} {xs : List Value} (ho : w.ownsRow base e size v n xs) (hn : ∀ g, v.ownBlock = some g → ¬ S g) : w'.ownsRow base e size v n xs := by
  refine ⟨ho.1, ?_⟩
  rcases ho.2 with h2 | ⟨g, cap, cur, rfl, hb, hg, r⟩
  · exact .inl h2
  · exact .inr ⟨g, cap, cur, rfl, hb, (h.block g (Array.getElem?_eq_some_iff.1 hg).1 (hn g rfl)).trans hg, r⟩
theorem But.box (h : But S w w') {b : Nat} {o : Obj} (hb : w.heap[b]? = some o) (hn : ¬ S b) : w'.heap[b]? = some o := (h.block b (Array.getElem?_eq_some_iff.1 hb).1 hn).trans hb
theorem But.rd (h : But S w w') {A : Option Addr} {l : List (BitVec 8)} {B : Nat} (hr : Rd w B A l) (hB : B ≤ w.heap.size) (hn : ∀ b, b < B → ¬ S b) : Rd w' B A l := hr.keep fun p hp => h.cell (by omega) (hn _ hp)
theorem But.alloc (h : But S w w') (o : Obj) : But S w (w'.alloc o) := ⟨h.os, h.tape, h.output, Nat.le_trans h.size (by simp), fun b hb hn => (Below.heap_alloc w' o b (Nat.lt_of_lt_of_le hb h.size)).trans (h.block b hb hn)⟩
theorem But.set (h : But S w w') (p : Addr) (v : Value) (hp : S p.block ∨ w.heap.size ≤ p.block) : But S w (w'.setCell p v) :=
  ⟨h.os, h.tape, h.output, Nat.le_trans h.size (by simp), fun b hb hn => (Below.heap_setCell w' p v b (fun e => by subst e; rcases hp with hp | hp; exact hn hp; omega)).trans (h.block b hb hn)⟩
theorem But.drew (h : But S w w') : But S w w'.drew := ⟨h.os, h.tape, h.output, h.size, h.block⟩
end
/-- cells that are read, in a block outside S -/
def Rds (w : World) (S : Nat → Prop) (A : Option Addr) (cs : List Value) : Prop :=
  0 < cs.length → ∃ b off, A = some ⟨b, off, none⟩ ∧ b < w.heap.size ∧ ¬ S b ∧ ∀ j c, cs[j]? = some c → w.cell? ⟨b, off + j, none⟩ = some c
theorem Rds.but {w w' : World} {S S' : Nat → Prop} {A : Option Addr} {cs : List Value} (h : Rds w S A cs) (hb : But S' w w') (hS : ∀ b, S' b → S b) : Rds w' S A cs := fun hn => by
  obtain ⟨b, off, rfl, hlt, hns, hc⟩ := h hn
  exact ⟨b, off, rfl, Nat.lt_of_lt_of_le hlt hb.size, hns, fun j c hj => (hb.cell (p := ⟨b, off + j, none⟩) hlt (fun e => hns (hS _ e))).trans (hc j c hj)⟩
/-- a row stays where it lay, or is a new one -/
def Stays (w : World) (v v' : Value) : Prop := v'.ownBlock = v.ownBlock ∨ ∀ g, v'.ownBlock = some g → w.heap.size ≤ g
theorem Stays.refl (w : World) (v : Value) : Stays w v v := .inl rfl
theorem Stays.of {w : World} {v v' : Value} (h : v'.ownBlock = v.ownBlock ∨ v'.ownBlock = some w.heap.size) : Stays w v v' := by
  rcases h with h | h
  · exact .inl h
  · exact .inr fun g e => by rw [h] at e; cases e; exact Nat.le_refl _
theorem Stays.after {w w1 : World} {v v' : Value} (h : Stays w1 v v') (hs : w.heap.size ≤ w1.heap.size) : Stays w v v' := by
  rcases h with h | h
  · exact .inl h
  · exact .inr fun g e => Nat.le_trans hs (h g e)
theorem Stays.trans {w w1 : World} {v v1 v' : Value} (h : Stays w v v1) (k : Stays w1 v1 v') (hs : w.heap.size ≤ w1.heap.size) : Stays w v v' := by
  rcases k with k | k
  · rcases h with h | h
    · exact .inl (k.trans h)
    · exact .inr fun g e => h g (k.symm.trans e)
  · exact .inr fun g e => Nat.le_trans hs (k g e)
/-- a block that was not the row's is not the row's later -/
theorem Stays.other {w : World} {v v' : Value} (h : Stays w v v') {b : Nat} (hb : b < w.heap.size) (hn : v.ownBlock ≠ some b) : v'.ownBlock ≠ some b := by
  rcases h with h | h
  · rw [h]; exact hn
  · intro e; have := h b e; omega
/-- the row of the later value, at an old block, is the earlier one's -/
theorem Stays.back {w : World} {v v' : Value} (h : Stays w v v') {b : Nat} (hb : b < w.heap.size) (e : v'.ownBlock = some b) : v.ownBlock = some b := by
  rcases h with h | h
  · rw [← h]; exact e
  · have := h b e; omega
theorem But.rows {w w1 w' : World} {v v1 : Value} (h : But (fun b => v.ownBlock = some b) w w1) (hs : Stays w v v1) (k : But (fun b => v1.ownBlock = some b) w1 w') : But (fun b => v.ownBlock = some b) w w' :=
  h.trans k fun _ hb e => hs.back hb e
end Sm
end Go.Proofs
namespace Go.Proofs.Sm
/-- a word turned by one place -/
def rot1 (w : BitVec 32) : BitVec 32 := (w >>> 1) ||| (w <<< 31)
def rotN : Nat → BitVec 32 → BitVec 32
  | 0, w => w
  | n + 1, w => rot1 (rotN n w)
theorem turn_lin (n m : Nat) (h : n + m = 32) : Lin (fun w : BitVec 32 => (w >>> n) ||| (w <<< m)) := by
  intro a b
  apply BitVec.eq_of_getLsbD_eq
  intro i hi
  simp only [BitVec.getLsbD_or, BitVec.getLsbD_xor, BitVec.getLsbD_ushiftRight, BitVec.getLsbD_shiftLeft]
  by_cases hm : i < m
  · simp [hm]
  · have h1 : 32 ≤ n + i := by omega
    simp [hm, hi, BitVec.getLsbD_of_ge _ _ h1]
theorem rot1_lin : Lin rot1 := turn_lin 1 31 rfl
theorem rotN_lin : ∀ n, Lin (rotN n)
  | 0 => fun _ _ => rfl
  | n + 1 => fun a b => by rw [rotN, rotN_lin n, rot1_lin]; rfl
theorem turn16 (w : BitVec 32) : (w <<< 16) ||| (w >>> 16) = rotN 16 w := by
  rw [BitVec.or_comm]
  revert w
  exact Lin.ext (turn_lin 16 16 rfl) (rotN_lin 16) (by decide +kernel)
theorem turn12 (w : BitVec 32) : (w <<< 20) ||| (w >>> 12) = rotN 12 w := by
  rw [BitVec.or_comm]
  revert w
  exact Lin.ext (turn_lin 12 20 rfl) (rotN_lin 12) (by decide +kernel)
theorem turn8 (w : BitVec 32) : (w <<< 24) ||| (w >>> 8) = rotN 8 w := by
  rw [BitVec.or_comm]
  revert w
  exact Lin.ext (turn_lin 8 24 rfl) (rotN_lin 8) (by decide +kernel)
theorem turn7 (w : BitVec 32) : (w <<< 25) ||| (w >>> 7) = rotN 7 w := by
  rw [BitVec.or_comm]
  revert w
  exact Lin.ext (turn_lin 7 25 rfl) (rotN_lin 7) (by decide +kernel)
theorem bits_or (x y : BitVec 32) : bits .or .u32 (iv x) (iv y) = iv (x ||| y) := by
  show IntKind.u32.wrap ((BitVec.ofInt 32 (iv x) ||| BitVec.ofInt 32 (iv y)).toNat : Int) = _
  rw [ofInt_iv, ofInt_iv, wrap_u32]
theorem iv_add (x y : BitVec 32) : (iv x + iv y) % (4294967296 : Int) = iv (x + y) := by
  unfold iv
  rw [BitVec.toNat_add]
  simp
theorem iv_add_wrap (x y : BitVec 32) : IntKind.u32.wrap (iv x + iv y) = iv (x + y) := by
  rw [← iv_add]
  simp [IntKind.wrap, IntKind.signed, IntKind.bits]
theorem rot1_num (x : BitVec 32) : iv x / (2 : Int) + 2147483648 * (iv x % (2 : Int)) = iv (rot1 x) := by
  have e : iv (rot1 x) = iv (x >>> 1) + iv (x <<< 31) := by
    unfold rot1 iv
    rw [BitVec.toNat_or]
    have h1 : (x <<< 31).toNat = 2147483648 * (x.toNat % 2) := by
      rw [BitVec.toNat_shiftLeft, Nat.shiftLeft_eq]
      have := x.isLt
      omega
    have h2 : (x >>> 1).toNat < 2 ^ 31 := by
      rw [BitVec.toNat_ushiftRight, Nat.shiftRight_eq_div_pow]
      have := x.isLt
      omega
    rw [h1, Nat.or_comm, show 2147483648 = 2 ^ 31 from rfl, ← Nat.two_pow_add_eq_or_of_lt h2]
    omega
  rw [e]
  have h1 := iv_div2 x
  have h2 := shl1 (x <<< 30)
  have h3 : iv (x <<< 31) = 2147483648 * (iv x % 2) := by
    unfold iv
    rw [BitVec.toNat_shiftLeft, Nat.shiftLeft_eq]
    have := x.isLt
    omega
  rw [← h1, h3]
/-- half of a mixing -/
structure Q4 where
  a : BitVec 32
  b : BitVec 32
  c : BitVec 32
  d : BitVec 32
def halfS (q : Q4) (x : BitVec 32) (far near : Nat) : Q4 :=
  let a := q.a + (q.b + x)
  let d := rotN far (q.d ^^^ a)
  let c := q.c + d
  let b := rotN near (q.b ^^^ c)
  ⟨a, b, c, d⟩
def mixS (q : Q4) (x y : BitVec 32) : Q4 := halfS (halfS q x 16 12) y 8 7
/-- words as the values of memory -/
def wv (x : BitVec 32) : Value := .int .u32 (iv x)
def Q4.cells (q : Q4) : Array Value := #[.int .u32 (iv q.a), .int .u32 (iv q.b), .int .u32 (iv q.c), .int .u32 (iv q.d)]
end Go.Proofs.Sm
