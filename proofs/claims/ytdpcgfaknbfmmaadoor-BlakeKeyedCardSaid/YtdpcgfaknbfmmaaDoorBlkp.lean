/-
  Parts that are read beside a state's block; the steps of the iterator over blocks. No condition.
-/
import Derived.Test.YtdpcgfaknbfmmaaDoorBlks
import Derived.Test.YtdpcgfaknbfmmaaDoorItr
namespace Go.Proofs
open Go.RowKit Sm
namespace Sm
/-- one of the parts: where it lies, how long it is, its room, its bytes -/
structure Pt where
  A : Option Addr
  n : Nat
  c : Nat
  l : List (BitVec 8)
def Pt.val (p : Pt) : Value := .slice p.A p.n p.c
/-- a slice of bytes that lies outside block g -/
structure PtOK (w : World) (g : Nat) (A : Option Addr) (n c : Nat) (l : List (BitVec 8)) : Prop where
  len : l.length = n
  room : n ≤ c
  most : c ≤ 9223372036854775807
  rd : Rds w (fun b => b = g) A (l.map byteCell)
structure PsOK (w : World) (g : Nat) (A : Option Addr) (n : Nat) (ps : List Pt) : Prop where
  len : ps.length = n
  most : n ≤ 1000000
  rd : Rds w (fun b => b = g) A (ps.map Pt.val)
  each : ∀ p ∈ ps, PtOK w g p.A p.n p.c p.l
def joinP (ps : List Pt) : List (BitVec 8) := ps.flatMap (·.l)
theorem Rds.below {w w' : World} {S : Nat → Prop} {A : Option Addr} {cs : List Value} (h : Rds w S A cs) (hb : Below w.heap.size w w') : Rds w' S A cs := fun hn => by
  obtain ⟨b, off, rfl, hlt, hns, hc⟩ := h hn
  exact ⟨b, off, rfl, Nat.lt_of_lt_of_le hlt hb.size, hns, fun j c hj => (hb.cell (p := ⟨b, off + j, none⟩) hlt).trans (hc j c hj)⟩
theorem PtOK.but {w w' : World} {g : Nat} {A : Option Addr} {n c : Nat} {l : List (BitVec 8)} (h : PtOK w g A n c l) {S : Nat → Prop} (hb : But S w w') (hS : ∀ b, b < w.heap.size → S b → b = g) : PtOK w' g A n c l :=
  ⟨h.len, h.room, h.most, h.rd.but (hb.mono hS) (fun _ e => e)⟩
theorem PsOK.but {w w' : World} {g : Nat} {A : Option Addr} {n : Nat} {ps : List Pt} (h : PsOK w g A n ps) {S : Nat → Prop} (hb : But S w w') (hS : ∀ b, b < w.heap.size → S b → b = g) : PsOK w' g A n ps :=
  ⟨h.len, h.most, h.rd.but (hb.mono hS) (fun _ e => e), fun p hp => (h.each p hp).but hb hS⟩
theorem PsOK.keep {w w' : World} {g : Nat} {A : Option Addr} {n : Nat} {ps : List Pt} (h : PsOK w g A n ps) (hb : Below w.heap.size w w') : PsOK w' g A n ps := h.but (But.of_all hb (fun _ => False)) (fun _ _ e => e.elim)
theorem PtOK.keep {w w' : World} {g : Nat} {A : Option Addr} {n c : Nat} {l : List (BitVec 8)} (h : PtOK w g A n c l) (hb : Below w.heap.size w w') : PtOK w' g A n c l := h.but (But.of_all hb (fun _ => False)) (fun _ _ e => e.elim)
/-- the rest of a part -/
theorem PtOK.drop {w : World} {g b off : Nat} {n c : Nat} {l : List (BitVec 8)} (h : PtOK w g (some ⟨b, off, none⟩) n c l) (k : Nat) (hk : k ≤ n) : PtOK w g (some ⟨b, off + k, none⟩) (n - k) (c - k) (l.drop k) := by
  have hl := h.len
  have hr := h.room
  have hm := h.most
  refine ⟨by simp; omega, by omega, by omega, fun hn => ?_⟩
  have h0 : 0 < (l.map byteCell).length := by simp at hn ⊢; omega
  obtain ⟨b', off', e, hlt, hns, hcell⟩ := h.rd h0
  cases e
  refine ⟨b, off + k, rfl, hlt, hns, fun j v hj => ?_⟩
  have := hcell (k + j) v (by rw [← hj]; simp [List.getElem?_drop])
  rw [Nat.add_assoc]
  exact this
theorem PtOK.end_ {w : World} {g : Nat} {A : Option Addr} {n c : Nat} {l : List (BitVec 8)} (h : PtOK w g A n c l) (hc : n = c) : PtOK w g A (n - n) (c - c) (l.drop n) := by
  have hl := h.len
  have hm := h.most
  refine ⟨by simp; omega, by omega, by omega, fun hn => ?_⟩
  simp [hl] at hn
/-- the block of what has come so far -/
def curB (s : List (BitVec 8)) : List (BitVec 8) := chunk s (cnt s)
def blkV (s : List (BitVec 8)) : Array Value := (blc (pad (curB s)) (curB s).length).toArray
theorem curB_le (s : List (BitVec 8)) : (curB s).length ≤ 64 := chunk_le ..
theorem curB_length (s : List (BitVec 8)) : (curB s).length = s.length - 64 * cnt s := by
  unfold curB
  rw [chunk_last, List.length_drop]
theorem pad_nil : pad [] = List.replicate 64 0#8 := rfl
theorem step_room {s : List (BitVec 8)} (c : List (BitVec 8)) (h : (curB s).length + c.length ≤ 64) : cnt (s ++ c) = cnt s ∧ curB (s ++ c) = curB s ++ c := by
  have hl := curB_length s
  have h1 : cnt (s ++ c) = cnt s := by
    unfold cnt at hl ⊢
    simp only [List.length_append]
    omega
  refine ⟨h1, ?_⟩
  unfold curB at *
  rw [chunk_last, chunk_last, h1, List.drop_append_of_le_length (by unfold cnt; omega)]
theorem step_full {s : List (BitVec 8)} (c : List (BitVec 8)) (h : (curB s).length = 64) (h0 : 0 < c.length) (h1 : c.length ≤ 64) : cnt (s ++ c) = cnt s + 1 ∧ curB (s ++ c) = c := by
  have hl := curB_length s
  have h2 : cnt (s ++ c) = cnt s + 1 := by
    unfold cnt at hl ⊢
    simp only [List.length_append]
    omega
  refine ⟨h2, ?_⟩
  have h3 : s.length = 64 * (cnt s + 1) := by unfold cnt at hl ⊢; omega
  unfold curB
  rw [chunk_last, h2, ← h3, List.drop_append_of_le_length (Nat.le_refl _), List.drop_length, List.nil_append]
theorem full_told {s r all : List (BitVec 8)} (ha : all = s ++ r) (h : (curB s).length = 64) (h0 : 0 < r.length) : cnt s < cnt all ∧ chunk all (cnt s) = curB s := by
  have hl := curB_length s
  subst ha
  have h3 : s.length = 64 * (cnt s + 1) := by unfold cnt at hl ⊢; omega
  refine ⟨?_, chunk_append s r _ (by omega)⟩
  unfold cnt at h3 ⊢
  simp only [List.length_append]
  omega
/-- a chunk laid over a padded block -/
theorem splice_pad (c d : List (BitVec 8)) (n : Nat) (h : c.length + d.length ≤ 64) : splice (blc (pad c) n) c.length (d.map byteCell) = blc (pad (c ++ d)) n := by
  unfold splice blc pad
  have e1 : (List.map byteCell (c ++ List.replicate (64 - c.length) 0#8) ++ [Value.int .i64 (n : Int)]).take c.length = c.map byteCell := by
    rw [List.map_append, List.append_assoc, List.take_append_of_le_length (by simp), List.take_of_length_le (by simp)]
  have e2 : (List.map byteCell (c ++ List.replicate (64 - c.length) 0#8) ++ [Value.int .i64 (n : Int)]).drop (c.length + (d.map byteCell).length) = (List.replicate (64 - (c ++ d).length) 0#8).map byteCell ++ [Value.int .i64 (n : Int)] := by
    rw [List.map_append, List.append_assoc, List.drop_append]
    have : (c.map byteCell).drop (c.length + (d.map byteCell).length) = [] := List.drop_eq_nil_of_le (by simp)
    rw [this, List.nil_append, List.drop_append_of_le_length (by simp; omega)]
    simp
    omega
  rw [e1, e2]
  simp
end Sm
end Go.Proofs
