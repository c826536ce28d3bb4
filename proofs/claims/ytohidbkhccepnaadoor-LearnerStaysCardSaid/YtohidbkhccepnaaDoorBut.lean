/-
  Between two worlds the blocks of a set may have turned, all others lie as they lay. No condition.
-/
import Derived.Lib.AppendStr
import Derived.Shelf.Abstract
import Derived.WalkKit
import Derived.Test.YtohidbkhccepnaaDoorValsB
namespace Go.Proofs
open Go.RowKit Go.Shelf Sm
/-- all but the blocks of S lies as it lay -/
structure Sm.But (S : Nat → Prop) (w w' : World) : Prop where
  os : w'.os = w.os
  tape : w'.tape = w.tape
  output : w'.output = w.output
  size : w.heap.size ≤ w'.heap.size
  block : ∀ k, k < w.heap.size → ¬ S k → w'.heap[k]? = w.heap[k]?
namespace Sm
section
variable {S S' : Nat → Prop} {w w1 w' : World}
theorem But.refl (S : Nat → Prop) (w : World) : But S w w := ⟨rfl, rfl, rfl, Nat.le_refl _, fun _ _ _ => rfl⟩
theorem But.trans (h : But S w w1) (k : But S' w1 w') (hS : ∀ b, b < w.heap.size → S' b → S b) : But S w w' :=
  ⟨k.os.trans h.os, k.tape.trans h.tape, k.output.trans h.output, Nat.le_trans h.size k.size, fun b hb hn => (k.block b (Nat.lt_of_lt_of_le hb h.size) (fun e => hn (hS b hb e))).trans (h.block b hb hn)⟩
theorem But.mono (h : But S w w') (hS : ∀ b, b < w.heap.size → S b → S' b) : But S' w w' := ⟨h.os, h.tape, h.output, h.size, fun b hb hn => h.block b hb (fun e => hn (hS b hb e))⟩
theorem But.grown {row : Option Nat} (h : w.grownBy w' row) : But (fun b => row = some b) w w' := ⟨h.os, h.tape, h.output, h.size, fun b hb hn => h.block b hb (fun e => hn e.symm)⟩
theorem But.to_grown {row : Option Nat} (h : But (fun b => row = some b) w w') : w.grownBy w' row := ⟨h.os, h.tape, h.output, h.size, fun b hb hn => h.block b hb (fun e => hn e.symm)⟩
theorem But.of_below {n : Nat} (h : Below n w w') : But (fun b => n ≤ b) w w' := ⟨h.os, h.tape, h.output, h.size, fun b _ hn => h.block b (by omega)⟩
theorem But.of_all (h : Below w.heap.size w w') (S : Nat → Prop) : But S w w' := ⟨h.os, h.tape, h.output, h.size, fun b hb _ => h.block b hb⟩
theorem But.to_below {n : Nat} (h : But S w w') (hn : n ≤ w.heap.size) (hS : ∀ b, S b → n ≤ b) : Below n w w' := ⟨h.os, h.tape, h.output, h.size, fun b hb => h.block b (by omega) (fun e => by have := hS b e; omega)⟩
theorem But.below {w0 : World} (hb : Below w0.heap.size w0 w) (h : But S w w') (hS : ∀ b, S b → w0.heap.size ≤ b) : Below w0.heap.size w0 w' := hb.trans (h.to_below hb.size hS)
theorem But.cell (h : But S w w') {p : Addr} (hp : p.block < w.heap.size) (hn : ¬ S p.block) : w'.cell? p = w.cell? p := World.cell?_of_block (h.block _ hp hn)
theorem But.frozen (h : But S w w') {p : Addr} (hp : p.block < w.heap.size) (hn : ¬ S p.block) : w'.frozen? p = w.frozen? p := World.frozen?_of_block (h.block _ hp hn)
theorem But.row (h : But S w w') {base : Nat} {e : TypeId} {size : Nat} {v : Value} {n : Nat} {xs : List Value} (ho : w.ownsRow base e size v n xs) (hn : ∀ g, v.ownBlock = some g → ¬ S g) : w'.ownsRow base e size v n xs := by
  refine ⟨ho.1, ?_⟩
  rcases ho.2 with h2 | ⟨g, cap, cur, rfl, hb, hg, r⟩
  · exact .inl h2
  · exact .inr ⟨g, cap, cur, rfl, hb, (h.block g (Array.getElem?_eq_some_iff.1 hg).1 (hn g rfl)).trans hg, r⟩
theorem But.box (h : But S w w') {b : Nat} {o : Obj} (hb : w.heap[b]? = some o) (hn : ¬ S b) : w'.heap[b]? = some o := (h.block b (Array.getElem?_eq_some_iff.1 hb).1 hn).trans hb
theorem But.rd (h : But S w w') {A : Option Addr} {l : List (BitVec 8)} {B : Nat} (hr : Rd w B A l) (hB : B ≤ w.heap.size) (hn : ∀ b, b < B → ¬ S b) : Rd w' B A l := hr.keep fun p hp => h.cell (by omega) (hn _ hp)
theorem But.alloc (h : But S w w') (o : Obj) : But S w (w'.alloc o) := ⟨h.os, h.tape, h.output, Nat.le_trans h.size (by simp), fun b hb hn => (Below.heap_alloc w' o b (Nat.lt_of_lt_of_le hb h.size)).trans (h.block b hb hn)⟩
theorem But.set (h : But S w w') (p : Addr) (v : Value) (hp : S p.block ∨ w.heap.size ≤ p.block) : But S w (w'.setCell p v) :=
  ⟨h.os, h.tape, h.output, Nat.le_trans h.size (by simp), fun b hb hn => (Below.heap_setCell w' p v b (fun e => by subst e; rcases hp with hp | hp; exact hn hp; omega)).trans (h.block b hb hn)⟩
theorem But.drew (h : But S w w') : But S w w'.drew := ⟨h.os, h.tape, h.output, h.size, h.block⟩
end
/-- cells that are read, in a block outside S -/
def Rds (w : World) (S : Nat → Prop) (A : Option Addr) (cs : List Value) : Prop :=
  0 < cs.length → ∃ b off, A = some ⟨b, off, none⟩ ∧ b < w.heap.size ∧ ¬ S b ∧ ∀ j c, cs[j]? = some c → w.cell? ⟨b, off + j, none⟩ = some c
theorem Rds.but {w w' : World} {S S' : Nat → Prop} {A : Option Addr} {cs : List Value} (h : Rds w S A cs) (hb : But S' w w') (hS : ∀ b, S' b → S b) : Rds w' S A cs := fun hn => by
  obtain ⟨b, off, rfl, hlt, hns, hc⟩ := h hn
  exact ⟨b, off, rfl, Nat.lt_of_lt_of_le hlt hb.size, hns, fun j c hj => (hb.cell (p := ⟨b, off + j, none⟩) hlt (fun e => hns (hS _ e))).trans (hc j c hj)⟩
/-- a row stays where it lay, or is a new one -/
def Stays (w : World) (v v' : Value) : Prop := v'.ownBlock = v.ownBlock ∨ ∀ g, v'.ownBlock = some g → w.heap.size ≤ g
theorem Stays.refl (w : World) (v : Value) : Stays w v v := .inl rfl
theorem Stays.of {w : World} {v v' : Value} (h : v'.ownBlock = v.ownBlock ∨ v'.ownBlock = some w.heap.size) : Stays w v v' := by
  rcases h with h | h
  · exact .inl h
  · exact .inr fun g e => by rw [h] at e; cases e; exact Nat.le_refl _
theorem Stays.after {w w1 : World} {v v' : Value} (h : Stays w1 v v') (hs : w.heap.size ≤ w1.heap.size) : Stays w v v' := by
  rcases h with h | h
  · exact .inl h
  · exact .inr fun g e => Nat.le_trans hs (h g e)
theorem Stays.trans {w w1 : World} {v v1 v' : Value} (h : Stays w v v1) (k : Stays w1 v1 v') (hs : w.heap.size ≤ w1.heap.size) : Stays w v v' := by
  rcases k with k | k
  · rcases h with h | h
    · exact .inl (k.trans h)
    · exact .inr fun g e => h g (k.symm.trans e)
  · exact .inr fun g e => Nat.le_trans hs (k g e)
/-- a block that was not the row's is not the row's later -/
theorem Stays.other {w : World} {v v' : Value} (h : Stays w v v') {b : Nat} (hb : b < w.heap.size) (hn : v.ownBlock ≠ some b) : v'.ownBlock ≠ some b := by
  rcases h with h | h
  · rw [h]; exact hn
  · intro e; have := h b e; omega
/-- the row of the later value, at an old block, is the earlier one's -/
theorem Stays.back {w : World} {v v' : Value} (h : Stays w v v') {b : Nat} (hb : b < w.heap.size) (e : v'.ownBlock = some b) : v.ownBlock = some b := by
  rcases h with h | h
  · rw [← h]; exact e
  · have := h b e; omega
theorem But.rows {w w1 w' : World} {v v1 : Value} (h : But (fun b => v.ownBlock = some b) w w1) (hs : Stays w v v1) (k : But (fun b => v1.ownBlock = some b) w1 w') : But (fun b => v.ownBlock = some b) w w' :=
  h.trans k fun _ hb e => hs.back hb e
end Sm
end Go.Proofs
