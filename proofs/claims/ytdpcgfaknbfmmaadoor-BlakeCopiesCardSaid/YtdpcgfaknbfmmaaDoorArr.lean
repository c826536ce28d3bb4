/-
  Arrays of words and of small numbers in memory; the tables; what a round of mixing makes of sixteen words. No condition.
-/
import Derived.Deep.MidRow
import Derived.Laws.CopyOwn
import Derived.RangeFuncNested
import Derived.Test.YtdpcgfaknbfmmaaDoorProg
import Derived.Test.YtdpcgfaknbfmmaaDoorBut
import Derived.Test.YtdpcgfaknbfmmaaDoorMx
namespace Go.Proofs.Sm
open Go.RowKit
def wl (l : List (BitVec 32)) : List Value := l.map wv
def wvs (l : List (BitVec 32)) : Array Value := (wl l).toArray
def o8 (n : Nat) : Value := .int .u8 (n : Int)
def ol (l : List Nat) : List Value := l.map o8
def ovs (l : List Nat) : Array Value := (ol l).toArray
theorem wl_length (l : List (BitVec 32)) : (wl l).length = l.length := by simp [wl]
theorem wvs_size (l : List (BitVec 32)) : (wvs l).size = l.length := by simp [wvs, wl]
theorem ovs_size (l : List Nat) : (ovs l).size = l.length := by simp [ovs, ol]
theorem wl_one (l : List (BitVec 32)) : ∀ v ∈ wl l, v.oneCell' = true := by
  intro v hv
  simp only [wl, List.mem_map] at hv
  obtain ⟨x, _, rfl⟩ := hv
  rfl
theorem ol_one (l : List Nat) : ∀ v ∈ ol l, v.oneCell' = true := by
  intro v hv
  simp only [ol, List.mem_map] at hv
  obtain ⟨x, _, rfl⟩ := hv
  rfl
theorem wvs_one (l : List (BitVec 32)) : (wvs l).all (·.oneCell') = true := all_oneCell_toArray (wl_one l)
/-- the block of a row -/
def Blk (w : World) (b : Nat) (t : TypeId) (cs : Array Value) : Prop := w.heap[b]? = some (.cells cs t (0, 0))
section
variable {w w' : World} {b : Nat} {t : TypeId} {cs : Array Value}
theorem Blk.lt (h : Blk w b t cs) : b < w.heap.size := (Array.getElem?_eq_some_iff.1 h).1
theorem Blk.new (w : World) (t : TypeId) (cs : Array Value) : Blk (w.alloc (.cells cs t)) w.heap.size t cs := World.alloc_heap_new w _
theorem Blk.alloc (h : Blk w b t cs) (o : Obj) : Blk (w.alloc o) b t cs := (Below.heap_alloc w o b h.lt).trans h
theorem Blk.below {n : Nat} (h : Blk w b t cs) (hb : Below n w w') (hn : b < n) : Blk w' b t cs := (hb.block b hn).trans h
theorem Blk.keep (h : Blk w b t cs) (hb : Below w.heap.size w w') : Blk w' b t cs := (hb.block b h.lt).trans h
theorem Blk.other (h : Blk w b t cs) {p : Addr} (hp : b ≠ p.block) (v : Value) : Blk (w.setCell p v) b t cs := (Below.heap_setCell w p v b hp).trans h
theorem Blk.drew (h : Blk w b t cs) : Blk w.drew b t cs := h
theorem Blk.frozen (h : Blk w b t cs) (j : Nat) : w.frozen? ⟨b, j, none⟩ = false := frozen_of_row w b j cs t h
theorem Blk.cell (h : Blk w b t cs) (j : Nat) : w.cell? ⟨b, j, none⟩ = cs[j]? := cell_of_row w b j cs t (0, 0) h
theorem Blk.range (h : Blk w b t cs) : w.rangeAt b 0 cs.toList := fun j v hv => by
  rw [Nat.zero_add, h.cell]; simpa using hv
theorem Blk.there (h : Blk w b t cs) {n : Nat} (hn : n ≤ cs.size) : w.there b 0 n := fun j hj => by
  rw [Nat.zero_add]
  exact ⟨by rw [h.cell, Array.getElem?_eq_getElem (by omega)]; rfl, h.frozen j⟩
end
section
variable {w : World} {b : Nat} {t : TypeId} {l : List (BitVec 32)}
theorem Blk.word (h : Blk w b t (wvs l)) {k : Nat} (hk : k < l.length) : w.cell? ⟨b, k, none⟩ = some (.int .u32 (iv (l.getD k 0))) := by
  rw [h.cell]
  simp [wvs, wl, hk, wv]
theorem Blk.setWord (h : Blk w b t (wvs l)) (k : Nat) (x : BitVec 32) : Blk (w.setCell ⟨b, k, none⟩ (.int .u32 (iv x))) b t (wvs (l.set k x)) := by
  have := heap_setCell_same w b k (wvs l) t (.int .u32 (iv x)) h
  have e : (wvs l).setIfInBounds k (.int .u32 (iv x)) = wvs (l.set k x) := by
    simp [wvs, wl, wv, List.map_set]
  rw [e] at this
  exact this
theorem Blk.num {O : List Nat} (h : Blk w b t (ovs O)) {k : Nat} (hk : k < O.length) : w.cell? ⟨b, k, none⟩ = some (.int .u8 ((O.getD k 0 : Nat) : Int)) := by
  rw [h.cell]
  simp [ovs, ol, hk, o8]
end
/-- the places of the words that are mixed -/
def mxL : List (List Nat) := [[0, 4, 8, 12], [1, 5, 9, 13], [2, 6, 10, 14], [3, 7, 11, 15], [0, 5, 10, 15], [1, 6, 11, 12], [2, 7, 8, 13], [3, 4, 9, 14]]
def mx (k j : Nat) : Nat := (mxL.getD k []).getD j 0
theorem mx_lt (k j : Nat) (hk : k < 8) (hj : j < 4) : mx k j < 16 := by
  have : ∀ k, k < 8 → ∀ j, j < 4 → mx k j < 16 := by decide
  exact this k hk j hj
def orL : List (List Nat) := [[0, 1, 2, 3, 4, 5, 6, 7, 8, 9, 10, 11, 12, 13, 14, 15], [14, 10, 4, 8, 9, 15, 13, 6, 1, 12, 0, 2, 11, 7, 5, 3],
  [11, 8, 12, 0, 5, 2, 15, 13, 10, 14, 3, 6, 7, 1, 9, 4], [7, 9, 3, 1, 13, 12, 11, 14, 2, 6, 5, 10, 4, 0, 15, 8], [9, 0, 5, 7, 2, 4, 10, 15, 14, 1, 11, 12, 6, 8, 3, 13],
  [2, 12, 6, 10, 0, 11, 8, 3, 4, 13, 7, 5, 15, 14, 1, 9], [12, 5, 1, 15, 14, 13, 4, 10, 0, 7, 6, 3, 9, 2, 8, 11], [13, 11, 7, 14, 12, 1, 3, 9, 5, 0, 15, 4, 8, 6, 2, 10],
  [6, 15, 14, 9, 11, 3, 0, 8, 12, 2, 13, 7, 1, 4, 10, 5], [10, 2, 8, 4, 7, 6, 1, 5, 15, 11, 9, 14, 3, 12, 13, 0]]
def ord (n : Nat) : List Nat := orL.getD n []
theorem ord_length (n : Nat) (h : n < 10) : (ord n).length = 16 := by
  have : ∀ n, n < 10 → (ord n).length = 16 := by decide
  exact this n h
theorem ord_lt (n : Nat) (h : n < 10) : ∀ o ∈ ord n, o < 16 := by
  have : ∀ n, n < 10 → ∀ o ∈ ord n, o < 16 := by decide
  exact this n h
def beginL : List (BitVec 32) := [0x6a09e667#32, 0xbb67ae85#32, 0x3c6ef372#32, 0xa54ff53a#32, 0x510e527f#32, 0x9b05688c#32, 0x1f83d9ab#32, 0x5be0cd19#32]
/-- the package's tables as they lie in memory -/
def mixV : List Value := mxL.flatMap ol
def ordV : List Value := orL.flatMap ol
structure Tabs (w : World) : Prop where
  size : 3 ≤ w.heap.size
  first : w.rangeAt 0 0 (wl beginL)
  order : w.rangeAt 1 0 ordV
  mixed : w.rangeAt 2 0 mixV
theorem rangeAt_below {w w' : World} {n b o : Nat} {cs : List Value} (h : w.rangeAt b o cs) (hb : Below n w w') (hn : b < n) : w'.rangeAt b o cs := fun j v hv => (hb.cell (p := ⟨b, o + j, none⟩) hn).trans (h j v hv)
theorem Tabs.below {w w' : World} {n : Nat} (h : Tabs w) (hb : Below n w w') (hn : 3 ≤ n) : Tabs w' :=
  ⟨Nat.le_trans h.size hb.size, rangeAt_below h.first hb (by omega), rangeAt_below h.order hb (by omega), rangeAt_below h.mixed hb (by omega)⟩
theorem Tabs.keep {w w' : World} (h : Tabs w) (hb : Below w.heap.size w w') : Tabs w' := h.below hb h.size
def Q4.get (q : Q4) : Nat → BitVec 32
  | 0 => q.a
  | 1 => q.b
  | 2 => q.c
  | _ => q.d
/-- four words put into their places, as far as they have come -/
def setQ (W : List (BitVec 32)) (k : Nat) (q : Q4) : Nat → List (BitVec 32)
  | 0 => W
  | j + 1 => (setQ W k q j).set (mx k j) (q.get j)
theorem setQ_length (W : List (BitVec 32)) (k : Nat) (q : Q4) : ∀ j, (setQ W k q j).length = W.length
  | 0 => rfl
  | j + 1 => by rw [setQ, List.length_set, setQ_length]
def gatherQ (W : List (BitVec 32)) (k : Nat) : Q4 := ⟨W.getD (mx k 0) 0, W.getD (mx k 1) 0, W.getD (mx k 2) 0, W.getD (mx k 3) 0⟩
def stepQ (W M : List (BitVec 32)) (O : List Nat) (k : Nat) : Q4 := mixS (gatherQ W k) (M.getD (O.getD (2 * k) 0) 0) (M.getD (O.getD (2 * k + 1) 0) 0)
/-- the words behind k mixings of a round -/
def rndS (W M : List (BitVec 32)) (O : List Nat) : Nat → List (BitVec 32)
  | 0 => W
  | k + 1 => setQ (rndS W M O k) k (stepQ (rndS W M O k) M O k) 4
theorem rndS_length (W M : List (BitVec 32)) (O : List Nat) : ∀ k, (rndS W M O k).length = W.length
  | 0 => rfl
  | k + 1 => by rw [rndS, setQ_length, rndS_length]
/-- the words behind n rounds -/
def rounds (V M : List (BitVec 32)) : Nat → List (BitVec 32)
  | 0 => V
  | n + 1 => rndS (rounds V M n) M (ord n) 8
theorem rounds_length (V M : List (BitVec 32)) : ∀ n, (rounds V M n).length = V.length
  | 0 => rfl
  | n + 1 => by rw [rounds, rndS_length, rounds_length]
end Go.Proofs.Sm
