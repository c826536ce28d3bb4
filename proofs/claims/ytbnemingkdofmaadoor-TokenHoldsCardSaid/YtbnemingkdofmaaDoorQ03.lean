/-
  Arrays of words and of small numbers in memory; the tables; what a round of mixing makes of sixteen words. No condition.
  The contract of word: four bytes read as a word.
  What a block presses into a state. No condition.
  A state of the hash in memory: its words, how many bytes were pressed, the block that waits. No condition.
-/
import Derived.Deep.MidRow
import Derived.Laws.CopyOwn
import Derived.RangeFuncNested
import Derived.Test.YtbnemingkdofmaaDoorProg
import Derived.Test.YtbnemingkdofmaaDoorQ01
import Derived.Test.YtbnemingkdofmaaDoorQ02
namespace Go.Proofs.Sm
open Go.RowKit
def wl (l : List (BitVec 32)) : List Value := l.map wv
def wvs (l : List (BitVec 32)) : Array Value := (wl l).toArray
def o8 (n : Nat) : Value := .int .u8 (n : Int)
def ol (l : List Nat) : List Value := l.map o8
def ovs (l : List Nat) : Array Value := (ol l).toArray
theorem wl_length (l : List (BitVec 32)) : (wl l).length = l.length := by simp [wl]
theorem wvs_size (l : List (BitVec 32)) : (wvs l).size = l.length := by simp [wvs, wl]
theorem ovs_size (l : List Nat) : (ovs l).size = l.length := by simp [ovs, ol]
theorem wl_one (l : List (BitVec 32)) : ∀ v ∈ wl l, v.oneCell' = true := by
  intro v hv
  simp only [wl, List.mem_map] at hv
  obtain ⟨x, _, rfl⟩ := hv
  rfl
theorem ol_one (l : List Nat) : ∀ v ∈ ol l, v.oneCell' = true := by
  intro v hv
  simp only [ol, List.mem_map] at hv
  obtain ⟨x, _, rfl⟩ := hv
  rfl
theorem wvs_one (l : List (BitVec 32)) : (wvs l).all (·.oneCell') = true := all_oneCell_toArray (wl_one l)
/-- the block of a row -/
def Blk (w : World) (b : Nat) (t : TypeId) (cs : Array Value) : Prop := w.heap[b]? = some (.cells cs t (0, 0))
section
variable {w w' : World} {b : Nat} {t : TypeId} {cs : Array Value}
theorem Blk.lt (h : Blk w b t cs) : b < w.heap.size := (Array.getElem?_eq_some_iff.1 h).1
theorem Blk.new (w : World) (t : TypeId) (cs : Array Value) : Blk (w.alloc (.cells cs t)) w.heap.size t cs := World.alloc_heap_new w _
theorem Blk.alloc (h : Blk w b t cs) (o : Obj) : Blk (w.alloc o) b t cs := (Below.heap_alloc w o b h.lt).trans h
theorem Blk.below {n : Nat} (h : Blk w b t cs) (hb : Below n w w') (hn : b < n) : Blk w' b t cs := (hb.block b hn).trans h
theorem Blk.keep (h : Blk w b t cs) (hb : Below w.heap.size w w') : Blk w' b t cs := (hb.block b h.lt).trans h
theorem Blk.other (h : Blk w b t cs) {p : Addr} (hp : b ≠ p.block) (v : Value) : Blk (w.setCell p v) b t cs := (Below.heap_setCell w p v b hp).trans h
theorem Blk.drew (h : Blk w b t cs) : Blk w.drew b t cs := h
theorem Blk.frozen (h : Blk w b t cs) (j : Nat) : w.frozen? ⟨b, j, none⟩ = false := frozen_of_row w b j cs t h
theorem Blk.cell (h : Blk w b t cs) (j : Nat) : w.cell? ⟨b, j, none⟩ = cs[j]? := cell_of_row w b j cs t (0, 0) h
theorem Blk.range (h : Blk w b t cs) : w.rangeAt b 0 cs.toList := fun j v hv => by
  rw [Nat.zero_add, h.cell]; simpa using hv
theorem Blk.there (h : Blk w b t cs) {n : Nat} (hn : n ≤ cs.size) : w.there b 0 n := fun j hj => by
  rw [Nat.zero_add]
  exact ⟨by rw [h.cell, Array.getElem?_eq_getElem (by omega)]; rfl, h.frozen j⟩
end
section
variable {w : World} {b : Nat} {t : TypeId} {l : List (BitVec 32)}
theorem Blk.word (h : Blk w b t (wvs l)) {k : Nat} (hk : k < l.length) : w.cell? ⟨b, k, none⟩ = some (.int .u32 (iv (l.getD k 0))) := by
  rw [h.cell]
  simp [wvs, wl, hk, wv]
theorem Blk.setWord (h : Blk w b t (wvs l)) (k : Nat) (x : BitVec 32) : Blk (w.setCell ⟨b, k, none⟩ (.int .u32 (iv x))) b t (wvs (l.set k x)) := by
  have := heap_setCell_same w b k (wvs l) t (.int .u32 (iv x)) h
  have e : (wvs l).setIfInBounds k (.int .u32 (iv x)) = wvs (l.set k x) := by
    simp [wvs, wl, wv, List.map_set]
  rw [e] at this
  exact this
theorem Blk.num {O : List Nat} (h : Blk w b t (ovs O)) {k : Nat} (hk : k < O.length) : w.cell? ⟨b, k, none⟩ = some (.int .u8 ((O.getD k 0 : Nat) : Int)) := by
  rw [h.cell]
  simp [ovs, ol, hk, o8]
end
/-- the places of the words that are mixed -/
def mxL : List (List Nat) := [[0, 4, 8, 12], [1, 5, 9, 13], [2, 6, 10, 14], [3, 7, 11, 15], [0, 5, 10, 15], [1, 6, 11, 12], [2, 7, 8, 13], [3, 4, 9, 14]]
def mx (k j : Nat) : Nat := (mxL.getD k []).getD j 0
theorem mx_lt (k j : Nat) (hk : k < 8) (hj : j < 4) : mx k j < 16 := by
  have : ∀ k, k < 8 → ∀ j, j < 4 → mx k j < 16 := by decide
  exact this k hk j hj
def orL : List (List Nat) := [[0, 1, 2, 3, 4, 5, 6, 7, 8, 9, 10, 11, 12, 13, 14, 15], [14, 10, 4, 8, 9, 15, 13, 6, 1, 12, 0, 2, 11, 7, 5, 3],
  [11, 8, 12, 0, 5, 2, 15, 13, 10, 14, 3, 6, 7, 1, 9, 4], [7, 9, 3, 1, 13, 12, 11, 14, 2, 6, 5, 10, 4, 0, 15, 8], [9, 0, 5, 7, 2, 4, 10, 15, 14, 1, 11, 12, 6, 8, 3, 13],
  [2, 12, 6, 10, 0, 11, 8, 3, 4, 13, 7, 5, 15, 14, 1, 9], [12, 5, 1, 15, 14, 13, 4, 10, 0, 7, 6, 3, 9, 2, 8, 11], [13, 11, 7, 14, 12, 1, 3, 9, 5, 0, 15, 4, 8, 6, 2, 10],
  [6, 15, 14, 9, 11, 3, 0, 8, 12, 2, 13, 7, 1, 4, 10, 5], [10, 2, 8, 4, 7, 6, 1, 5, 15, 11, 9, 14, 3, 12, 13, 0]]
def ord (n : Nat) : List Nat := orL.getD n []
theorem ord_length (n : Nat) (h : n < 10) : (ord n).length = 16 := by
  have : ∀ n, n < 10 → (ord n).length = 16 := by decide
  exact this n h
theorem ord_lt (n : Nat) (h : n < 10) : ∀ o ∈ ord n, o < 16 := by
  have : ∀ n, n < 10 → ∀ o ∈ ord n, o < 16 := by decide
  exact this n h
def beginL : List (BitVec 32) := [0x6a09e667#32, 0xbb67ae85#32, 0x3c6ef372#32, 0xa54ff53a#32, 0x510e527f#32, 0x9b05688c#32, 0x1f83d9ab#32, 0x5be0cd19#32]
/-- the package's tables as they lie in memory -/
def mixV : List Value := mxL.flatMap ol
def ordV : List Value := orL.flatMap ol
structure Tabs (w : World) : Prop where
  size : 4 ≤ w.heap.size
  first : w.rangeAt 1 0 (wl beginL)
  order : w.rangeAt 2 0 ordV
  mixed : w.rangeAt 3 0 mixV
theorem rangeAt_below {w w' : World} {n b o : Nat} {cs : List Value} (h : w.rangeAt b o cs) (hb : Below n w w') (hn : b < n) : w'.rangeAt b o cs := fun j v hv => (hb.cell (p := ⟨b, o + j, none⟩) hn).trans (h j v hv)
theorem Tabs.below {w w' : World} {n : Nat} (h : Tabs w) (hb : Below n w w') (hn : 4 ≤ n) : Tabs w' :=
  ⟨Nat.le_trans h.size hb.size, rangeAt_below h.first hb (by omega), rangeAt_below h.order hb (by omega), rangeAt_below h.mixed hb (by omega)⟩
theorem Tabs.keep {w w' : World} (h : Tabs w) (hb : Below w.heap.size w w') : Tabs w' := h.below hb h.size
def Q4.get (q : Q4) : Nat → BitVec 32
  | 0 => q.a
  | 1 => q.b
  | 2 => q.c
  | _ => q.d
/-- four words put into their places, as far as they have come -/
def setQ (W : List (BitVec 32)) (k : Nat) (q : Q4) : Nat → List (BitVec 32)
  | 0 => W
  | j + 1 => (setQ W k q j).set (mx k j) (q.get j)
theorem setQ_length (W : List (BitVec 32)) (k : Nat) (q : Q4) : ∀ j, (setQ W k q j).length = W.length
  | 0 => rfl
  | j + 1 => by rw [setQ, List.length_set, setQ_length]
def gatherQ (W : List (BitVec 32)) (k : Nat) : Q4 := ⟨W.getD (mx k 0) 0, W.getD (mx k 1) 0, W.getD (mx k 2) 0, W.getD (mx k 3) 0⟩
def stepQ (W M : List (BitVec 32)) (O : List Nat) (k : Nat) : Q4 := mixS (gatherQ W k) (M.getD (O.getD (2 * k) 0) 0) (M.getD (O.getD (2 * k + 1) 0) 0)
/-- the words behind k mixings of a round -/
def rndS (W M : List (BitVec 32)) (O : List Nat) : Nat → List (BitVec 32)
  | 0 => W
  | k + 1 => setQ (rndS W M O k) k (stepQ (rndS W M O k) M O k) 4
theorem rndS_length (W M : List (BitVec 32)) (O : List Nat) : ∀ k, (rndS W M O k).length = W.length
  | 0 => rfl
  | k + 1 => by rw [rndS, setQ_length, rndS_length]
/-- the words behind n rounds -/
def rounds (V M : List (BitVec 32)) : Nat → List (BitVec 32)
  | 0 => V
  | n + 1 => rndS (rounds V M n) M (ord n) 8
theorem rounds_length (V M : List (BitVec 32)) : ∀ n, (rounds V M n).length = V.length
  | 0 => rfl
  | n + 1 => by rw [rounds, rndS_length, rounds_length]
end Go.Proofs.Sm
namespace Go.Proofs
open Go.RowKit Sm
/-- a word out of four bytes, as far as they have come -/
def Sm.wordF (f : Nat → BitVec 8) : Nat → BitVec 32
  | 0 => 0#32
  | k + 1 => wordF f k ||| (((f k).setWidth 32) <<< (8 * k))
theorem Sm.byte_iv (c : BitVec 8) : 0 ≤ iv (c.setWidth 32) ∧ iv (c.setWidth 32) < 256 := by
  rw [← ib_iv]; exact ⟨ib_lo c, ib_hi c⟩
theorem Sm.shl_small (x : BitVec 32) (k : Nat) (m : Int) (h : (2 : Int) ^ k = m) (hb : iv x * m < 4294967296) : iv x * m = iv (x <<< k) := by
  rw [← shl_mod x k m h, Int.emod_eq_of_lt _ hb]
  have h0 := iv_lo x
  have : 0 ≤ m := by rw [← h]; exact Int.le_of_lt (Int.pow_pos (by decide))
  exact Int.mul_nonneg h0 this
set_option maxHeartbeats 1000000 in
theorem Sm.word_any (f : Nat → BitVec 8) (g off cap : Nat) (w : World) (h : ∀ k, k < 4 → w.cell? ⟨g, off + k, none⟩ = some (.int .u8 (ib (f k)))) :
    Calls Tryd.prog 93 #[.slice (some ⟨g, off, none⟩) 4 cap] w fun e w' => e = .returned (.int .u32 (iv (wordF f 4))) ∧ w = w' := by
  have h0 := h 0 (by decide)
  have h1 := h 1 (by decide)
  have h2 := h 2 (by decide)
  have h3 := h 3 (by decide)
  rw [ib_iv] at h0 h1 h2 h3
  obtain ⟨b0, c0⟩ := byte_iv (f 0)
  obtain ⟨b1, c1⟩ := byte_iv (f 1)
  obtain ⟨b2, c2⟩ := byte_iv (f 2)
  obtain ⟨b3, c3⟩ := byte_iv (f 3)
  clear h
  rw [Nat.add_zero] at h0
  go_enter Tryd.func93, Tryd.ntmps93
  go_wp2
  go_loop [3, 9] (fun v i => ∃ k : Nat, k ≤ 4 ∧ i = .int .i64 (k : Int) ∧ v = .int .u32 (iv (wordF f k))) (fun _ i => 4 - (intOf i).toNat)
  case atStart => exact ⟨0, Nat.zero_le _, rfl, rfl⟩
  case round =>
    obtain ⟨k, hk, rfl, rfl⟩ := hrel
    have : k = 0 ∨ k = 1 ∨ k = 2 ∨ k = 3 ∨ k = 4 := by omega
    rcases this with rfl | rfl | rfl | rfl | rfl
    · go_wp2
      refine ⟨⟨1, by omega, rfl, congrArg (Value.int .u32) ?_⟩, by simp [intOf]⟩
      rw [bits_or]
      show iv (wordF f 0 ||| _) = iv (wordF f 0 ||| _)
      simp
    · go_wp2
      refine ⟨⟨2, by omega, rfl, congrArg (Value.int .u32) ?_⟩, by simp [intOf]⟩
      rw [shl_small _ 8 _ (by decide) (by omega), bits_or]
      rfl
    · go_wp2
      refine ⟨⟨3, by omega, rfl, congrArg (Value.int .u32) ?_⟩, by simp [intOf]⟩
      rw [shl_small _ 16 _ (by decide) (by omega), bits_or]
      rfl
    · go_wp2
      refine ⟨⟨4, by omega, rfl, congrArg (Value.int .u32) ?_⟩, by simp [intOf]⟩
      rw [shl_small _ 24 _ (by decide) (by omega), bits_or]
      rfl
    · go_wp2
      go_ret
      exact ⟨rfl, rfl⟩
end Go.Proofs
namespace Go.Proofs
open Go.RowKit Sm
def Sm.bvs (l : List (BitVec 8)) : Array Value := (l.map byteCell).toArray
theorem Sm.bvs_size (l : List (BitVec 8)) : (bvs l).size = l.length := by simp [bvs]
theorem Sm.bvs_one (l : List (BitVec 8)) : (bvs l).all (·.oneCell') = true := by
  refine all_oneCell_toArray fun v hv => ?_
  simp only [List.mem_map] at hv
  obtain ⟨x, _, rfl⟩ := hv
  rfl
theorem Sm.Blk.byte {w : World} {b : Nat} {t : TypeId} {l : List (BitVec 8)} (h : Blk w b t (bvs l)) {k : Nat} (hk : k < l.length) : w.cell? ⟨b, k, none⟩ = some (.int .u8 (ib (l.getD k 0))) := by
  rw [h.cell]
  simp [bvs, hk, byteCell]
/-- the word at k of a block's bytes -/
def Sm.wordB (B : List (BitVec 8)) (k : Nat) : BitVec 32 := wordF (fun j => B.getD (4 * k + j) 0) 4
def Sm.giv (B : List (BitVec 8)) : Nat → List (BitVec 32)
  | 0 => List.replicate 16 0#32
  | k + 1 => (giv B k).set k (wordB B k)
theorem Sm.giv_length (B : List (BitVec 8)) : ∀ k, (giv B k).length = 16
  | 0 => by simp [giv]
  | k + 1 => by rw [giv, List.length_set, giv_length]
def Sm.vin (H : List (BitVec 32)) : Nat → List (BitVec 32)
  | 0 => List.replicate 16 0#32
  | k + 1 => ((vin H k).set k (H.getD k 0)).set (k + 8) (beginL.getD k 0)
theorem Sm.vin_length (H : List (BitVec 32)) : ∀ k, (vin H k).length = 16
  | 0 => by simp [vin]
  | k + 1 => by rw [vin, List.length_set, List.length_set, vin_length]
def Sm.vlo (n : Nat) (V : List (BitVec 32)) : List (BitVec 32) := V.set 12 (V.getD 12 0 ^^^ BitVec.ofNat 32 n)
def Sm.vhi (n : Nat) (V : List (BitVec 32)) : List (BitVec 32) := V.set 13 (V.getD 13 0 ^^^ BitVec.ofNat 32 (n / 4294967296))
def Sm.vla (V : List (BitVec 32)) : List (BitVec 32) := V.set 14 (~~~ V.getD 14 0)
def Sm.vfl (H : List (BitVec 32)) (n : Nat) (last : Bool) : List (BitVec 32) := if last then vla (vhi n (vlo n (vin H 8))) else vhi n (vlo n (vin H 8))
theorem Sm.vlo_length (n : Nat) (V : List (BitVec 32)) : (vlo n V).length = V.length := List.length_set ..
theorem Sm.vhi_length (n : Nat) (V : List (BitVec 32)) : (vhi n V).length = V.length := List.length_set ..
theorem Sm.vla_length (V : List (BitVec 32)) : (vla V).length = V.length := List.length_set ..
def Sm.fin (H V : List (BitVec 32)) : Nat → List (BitVec 32)
  | 0 => H
  | k + 1 => (fin H V k).set k ((fin H V k).getD k 0 ^^^ (V.getD k 0 ^^^ V.getD (k + 8) 0))
theorem Sm.fin_length (H V : List (BitVec 32)) : ∀ k, (fin H V k).length = H.length
  | 0 => rfl
  | k + 1 => by rw [fin, List.length_set, fin_length]
def Sm.pressS (H : List (BitVec 32)) (B : List (BitVec 8)) (n : Nat) (last : Bool) : List (BitVec 32) := fin H (rounds (vfl H n last) (giv B 16) 10) 8
theorem Sm.vfl_length (H : List (BitVec 32)) (n : Nat) (last : Bool) : (vfl H n last).length = 16 := by
  unfold vfl
  cases last
  · simp [vhi_length, vlo_length, vin_length]
  · simp [vla_length, vhi_length, vlo_length, vin_length]
theorem Sm.pressS_length (H : List (BitVec 32)) (B : List (BitVec 8)) (n : Nat) (last : Bool) : (pressS H B n last).length = H.length := fin_length ..
theorem Sm.z16_eq' : (#[.int .u32 0, .int .u32 0, .int .u32 0, .int .u32 0, .int .u32 0, .int .u32 0, .int .u32 0, .int .u32 0, .int .u32 0, .int .u32 0, .int .u32 0, .int .u32 0, .int .u32 0, .int .u32 0, .int .u32 0, .int .u32 0] : Array Value) = wvs (List.replicate 16 0#32) := rfl
theorem Sm.z8_eq : (#[.int .u32 0, .int .u32 0, .int .u32 0, .int .u32 0, .int .u32 0, .int .u32 0, .int .u32 0, .int .u32 0] : Array Value) = wvs (List.replicate 8 0#32) := rfl
/-- how all stands while a block is pressed -/
structure Sm.PrAt (w wr : World) (H : List (BitVec 32)) (B : List (BitVec 8)) (G V : List (BitVec 32)) : Prop where
  h : Blk wr w.heap.size 0x86 (wvs H)
  b : Blk wr (w.heap.size + 1) 0x68 (bvs B)
  r : Blk wr (w.heap.size + 2) 0x86 (wvs (List.replicate 8 0#32))
  g : Blk wr (w.heap.size + 3) 0x99 (wvs G)
  v : Blk wr (w.heap.size + 4) 0x99 (wvs V)
  below : Below w.heap.size w wr
theorem Sm.PrAt.keep {w wr w' : World} {H G V : List (BitVec 32)} {B : List (BitVec 8)} (h : PrAt w wr H B G V) (hb : Below wr.heap.size wr w') : PrAt w w' H B G V :=
  ⟨h.h.keep hb, h.b.keep hb, h.r.keep hb, h.g.keep hb, h.v.keep hb, h.below.trans (hb.mono h.below.size)⟩
theorem Sm.PrAt.drew {w wr : World} {H G V : List (BitVec 32)} {B : List (BitVec 8)} (h : PrAt w wr H B G V) : PrAt w wr.drew H B G V := ⟨h.h, h.b, h.r, h.g, h.v, h.below.drew⟩
theorem Sm.PrAt.setG {w wr : World} {H G V : List (BitVec 32)} {B : List (BitVec 8)} (h : PrAt w wr H B G V) (k : Nat) (x : BitVec 32) : PrAt w (wr.setCell ⟨w.heap.size + 3, k, none⟩ (.int .u32 (iv x))) H B (G.set k x) V :=
  ⟨h.h.other (by simp) _, h.b.other (by simp) _, h.r.other (by simp) _, h.g.setWord k x, h.v.other (by simp) _, h.below.setCell (p := ⟨w.heap.size + 3, k, none⟩) (by simp) _⟩
theorem Sm.PrAt.setV {w wr : World} {H G V : List (BitVec 32)} {B : List (BitVec 8)} (h : PrAt w wr H B G V) (k : Nat) (x : BitVec 32) : PrAt w (wr.setCell ⟨w.heap.size + 4, k, none⟩ (.int .u32 (iv x))) H B G (V.set k x) :=
  ⟨h.h.other (by simp) _, h.b.other (by simp) _, h.r.other (by simp) _, h.g.other (by simp) _, h.v.setWord k x, h.below.setCell (p := ⟨w.heap.size + 4, k, none⟩) (by simp) _⟩
theorem Sm.PrAt.setH {w wr : World} {H G V : List (BitVec 32)} {B : List (BitVec 8)} (h : PrAt w wr H B G V) (k : Nat) (x : BitVec 32) : PrAt w (wr.setCell ⟨w.heap.size, k, none⟩ (.int .u32 (iv x))) (H.set k x) B G V :=
  ⟨h.h.setWord k x, h.b.other (by simp) _, h.r.other (by simp) _, h.g.other (by simp) _, h.v.other (by simp) _, h.below.setCell (p := ⟨w.heap.size, k, none⟩) (by simp) _⟩
theorem Sm.PrAt.rowV {w wr : World} {H G V : List (BitVec 32)} {B : List (BitVec 8)} (h : PrAt w wr H B G V) (V' : List (BitVec 32)) : PrAt w (wr.setRow (w.heap.size + 4) (wvs V')) H B G V' :=
  ⟨(setRow_other _ _ _ _ (by omega)).trans h.h, (setRow_other _ _ _ _ (by omega)).trans h.b, (setRow_other _ _ _ _ (by omega)).trans h.r, (setRow_other _ _ _ _ (by omega)).trans h.g, setRow_heap _ _ _ _ _ _ h.v, below_setRow h.below (by omega) _⟩
theorem Sm.Blk.newAt {X : World} {N : Nat} (h : X.heap.size = N) (t : TypeId) (cs : Array Value) : Blk (X.alloc (.cells cs t)) N t cs := h ▸ Blk.new X t cs
theorem Sm.slice64 (b lo hi : Nat) (l h : Int) (el : l = lo) (eh : h = hi) (h1 : lo < hi) (h2 : hi ≤ 64) (w : World) :
    (Instr.sliceAt 0x68 (.pointer (some ⟨b, 0, none⟩)) (some (.int .i64 l)) (some (.int .i64 h)) none).run Tryd.prog w = .ok (.slice (some ⟨b, lo, none⟩) (hi - lo) (64 - lo)) w := by
  subst el eh
  have hu : Tryd.prog.underlying 0x68 = some (.array (Tryd.prog.arrayLen 0x68) (Tryd.prog.elem 0x68)) := by kernel_rfl
  have ha : Tryd.prog.arrayLen 0x68 = 64 := by kernel_rfl
  have he : Tryd.prog.elem 0x68 = 5 := by kernel_rfl
  have hs : ∀ w, (sizeOf 5).run Tryd.prog w = .ok 1 w := fun _ => by kernel_rfl
  rw [run_sliceAt_array_lh w 0x68 ⟨b, 0, none⟩ hu .i64 .i64 _ _ (by omega) (by omega) (by rw [ha]; omega), he, hs]
  simp only [Result.andThen_ok, slicedAt, ha, Int.toNat_natCast, Nat.mul_one]
  rw [if_neg (by omega), Addr.add_mid, Nat.zero_add]
end Go.Proofs
namespace Go.Proofs
open Go.RowKit Sm
namespace Sm
def setAll (L : List Value) : Nat → List Value → List Value
  | _, [] => L
  | o, v :: r => setAll (L.set o v) (o + 1) r
theorem setAll_mid (A : List Value) : ∀ (B' B C : List Value), B'.length = B.length → setAll (A ++ (B ++ C)) A.length B' = A ++ (B' ++ C)
  | [], B, C, h => by
    obtain rfl : B = [] := List.eq_nil_of_length_eq_zero h.symm
    rfl
  | v :: r, B, C, h => by
    cases B with
    | nil => simp at h
    | cons b B =>
      rw [setAll]
      have e : (A ++ (b :: B ++ C)).set A.length v = (A ++ [v]) ++ (B ++ C) := by simp
      rw [e, show A.length + 1 = (A ++ [v]).length by simp, setAll_mid (A ++ [v]) r B C (by simpa using h)]
      simp
theorem blk_setCells (t : TypeId) (b : Nat) : ∀ (vs : List Value) (o : Nat) (L : List Value) (w : World), Blk w b t L.toArray → Blk (w.setCells b o vs) b t (setAll L o vs).toArray
  | [], _, _, _, h => h
  | v :: r, o, L, w, h => by
    rw [World.setCells, setAll]
    refine blk_setCells t b r (o + 1) (L.set o v) _ ?_
    have := heap_setCell_same w b o L.toArray t v h
    have e : L.toArray.setIfInBounds o v = (L.set o v).toArray := by simp
    rw [e] at this
    exact this
theorem but_setCells (b : Nat) : ∀ (vs : List Value) (o : Nat) (w : World), But (fun k => k = b) w (w.setCells b o vs)
  | [], _, w => But.refl _ w
  | v :: r, o, w => by
    rw [World.setCells]
    exact ((But.refl (fun k => k = b) w).set ⟨b, o, none⟩ v (.inl rfl)).trans (but_setCells b r (o + 1) _) (fun _ _ h => h)
theorem Blk.but {w w' : World} {S : Nat → Prop} {b : Nat} {t : TypeId} {cs : Array Value} (h : Blk w b t cs) (hb : But S w w') (hn : ¬ S b) : Blk w' b t cs := hb.box h hn
/-- a block that waits, as it lies -/
def blc (bl : List (BitVec 8)) (sz : Nat) : List Value := bl.map byteCell ++ [.int .i64 (sz : Int)]
/-- a state as it lies -/
def stc (ws : List (BitVec 32)) (p : Nat) (bl : List (BitVec 8)) (sz : Nat) : List Value := wl ws ++ (.int .u64 (p : Int) :: blc bl sz)
theorem blc_length (bl : List (BitVec 8)) (sz : Nat) : (blc bl sz).length = bl.length + 1 := by simp [blc]
theorem stc_length (ws : List (BitVec 32)) (p : Nat) (bl : List (BitVec 8)) (sz : Nat) : (stc ws p bl sz).length = ws.length + bl.length + 2 := by simp [stc, wl, blc]; omega
theorem blc_one (bl : List (BitVec 8)) (sz : Nat) : ∀ v ∈ blc bl sz, v.oneCell' = true := by
  intro v hv
  simp only [blc, List.mem_append, List.mem_map, List.mem_singleton] at hv
  rcases hv with ⟨x, _, rfl⟩ | rfl <;> rfl
theorem stc_one (ws : List (BitVec 32)) (p : Nat) (bl : List (BitVec 8)) (sz : Nat) : ∀ v ∈ stc ws p bl sz, v.oneCell' = true := by
  intro v hv
  simp only [stc, List.mem_append, List.mem_cons] at hv
  rcases hv with h | rfl | h
  · exact wl_one ws v h
  · rfl
  · exact blc_one bl sz v h
/-- a state lies at the head of block g -/
structure St (w : World) (g : Nat) (t : TypeId) (ws : List (BitVec 32)) (p : Nat) (bl : List (BitVec 8)) (sz : Nat) (tail : List Value) : Prop where
  blk : Blk w g t (stc ws p bl sz ++ tail).toArray
  wlen : ws.length = 8
  blen : bl.length = 64
theorem range_of {w : World} {g : Nat} {t : TypeId} {A B C : List Value} (h : Blk w g t (A ++ (B ++ C)).toArray) : w.rangeAt g A.length B := fun j v hv => by
  have hj := (List.getElem?_eq_some_iff.1 hv).1
  rw [h.cell]
  simp only [List.getElem?_toArray]
  rw [List.getElem?_append_right (by omega), List.getElem?_append_left (by omega), Nat.add_sub_cancel_left]
  exact hv
section
variable {w w' : World} {g : Nat} {t : TypeId} {ws : List (BitVec 32)} {p : Nat} {bl : List (BitVec 8)} {sz : Nat} {tail : List Value}
theorem St.keep (h : St w g t ws p bl sz tail) (hb : Below w.heap.size w w') : St w' g t ws p bl sz tail := ⟨h.blk.keep hb, h.wlen, h.blen⟩
theorem St.but {S : Nat → Prop} (h : St w g t ws p bl sz tail) (hb : But S w w') (hn : ¬ S g) : St w' g t ws p bl sz tail := ⟨h.blk.but hb hn, h.wlen, h.blen⟩
theorem St.drew (h : St w g t ws p bl sz tail) : St w.drew g t ws p bl sz tail := ⟨h.blk, h.wlen, h.blen⟩
theorem St.rangeW (h : St w g t ws p bl sz tail) : w.rangeAt g 0 (wl ws) := by
  have := range_of (A := []) (B := wl ws) (C := (.int .u64 (p : Int) :: blc bl sz) ++ tail) (t := t) (g := g) (w := w) (by simpa [stc, List.append_assoc] using h.blk)
  simpa using this
theorem St.rangeAll (h : St w g t ws p bl sz tail) : w.rangeAt g 0 (stc ws p bl sz) := by
  have := range_of (A := []) (B := stc ws p bl sz) (C := tail) (t := t) (g := g) (w := w) (by simpa using h.blk)
  simpa using this
theorem St.rangeB (h : St w g t ws p bl sz tail) : w.rangeAt g 9 (blc bl sz) := by
  have := range_of (A := wl ws ++ [.int .u64 (p : Int)]) (B := blc bl sz) (C := tail) (t := t) (g := g) (w := w) (by simpa [stc, List.append_assoc] using h.blk)
  have e : (wl ws ++ [Value.int .u64 (p : Int)]).length = 9 := by simp [wl, h.wlen]
  rwa [e] at this
theorem St.cellP (h : St w g t ws p bl sz tail) : w.cell? ⟨g, 8, none⟩ = some (.int .u64 (p : Int)) := by
  have := range_of (A := wl ws) (B := [.int .u64 (p : Int)]) (C := blc bl sz ++ tail) (t := t) (g := g) (w := w) (by simpa [stc, List.append_assoc] using h.blk)
  have e : (wl ws).length = 8 := by simp [wl, h.wlen]
  rw [e] at this
  exact this 0 _ rfl
theorem St.cellS (h : St w g t ws p bl sz tail) : w.cell? ⟨g, 73, none⟩ = some (.int .i64 (sz : Int)) := by
  have := h.rangeB 64 (.int .i64 (sz : Int)) (by simp [blc, h.blen])
  exact this
theorem St.frozen (h : St w g t ws p bl sz tail) (j : Nat) : w.frozen? ⟨g, j, none⟩ = false := h.blk.frozen j
theorem St.thereN (h : St w g t ws p bl sz tail) (o n : Nat) (hn : o + n ≤ 74) : w.there g o n := fun j hj => by
  refine ⟨?_, h.frozen _⟩
  rw [h.blk.cell, List.getElem?_toArray, List.getElem?_eq_getElem (by rw [List.length_append, stc_length, h.wlen, h.blen]; omega)]
  rfl
theorem St.setP (h : St w g t ws p bl sz tail) (p' : Nat) : St (w.setCell ⟨g, 8, none⟩ (.int .u64 (p' : Int))) g t ws p' bl sz tail := by
  refine ⟨?_, h.wlen, h.blen⟩
  have h1 := blk_setCells t g [.int .u64 (p' : Int)] 8 _ w h.blk
  have e : setAll (stc ws p bl sz ++ tail) 8 [.int .u64 (p' : Int)] = stc ws p' bl sz ++ tail := by
    have := setAll_mid (wl ws) [.int .u64 (p' : Int)] [.int .u64 (p : Int)] (blc bl sz ++ tail) rfl
    have el : (wl ws).length = 8 := by simp [wl, h.wlen]
    rw [el] at this
    simpa [stc, List.append_assoc] using this
  rw [e] at h1
  exact h1
theorem St.setW (h : St w g t ws p bl sz tail) (ws' : List (BitVec 32)) (hl : ws'.length = 8) : St (w.setCells g 0 (wl ws')) g t ws' p bl sz tail := by
  refine ⟨?_, hl, h.blen⟩
  have h1 := blk_setCells t g (wl ws') 0 _ w h.blk
  have e : setAll (stc ws p bl sz ++ tail) 0 (wl ws') = stc ws' p bl sz ++ tail := by
    have := setAll_mid [] (wl ws') (wl ws) ((.int .u64 (p : Int) :: blc bl sz) ++ tail) (by simp [wl, h.wlen, hl])
    simpa [stc, List.append_assoc] using this
  rw [e] at h1
  exact h1
theorem St.setB (h : St w g t ws p bl sz tail) (bl' : List (BitVec 8)) (sz' : Nat) (hl : bl'.length = 64) : St (w.setCells g 9 (blc bl' sz')) g t ws p bl' sz' tail := by
  refine ⟨?_, h.wlen, hl⟩
  have h1 := blk_setCells t g (blc bl' sz') 9 _ w h.blk
  have e : setAll (stc ws p bl sz ++ tail) 9 (blc bl' sz') = stc ws p bl' sz' ++ tail := by
    have := setAll_mid (wl ws ++ [.int .u64 (p : Int)]) (blc bl' sz') (blc bl sz) tail (by simp [blc_length, h.blen, hl])
    have el : (wl ws ++ [Value.int .u64 (p : Int)]).length = 9 := by simp [wl, h.wlen]
    rw [el] at this
    simpa [stc, List.append_assoc] using this
  rw [e] at h1
  exact h1
end
/-- a block that waits lies alone in block q -/
theorem blc_range {w : World} {q : Nat} {t : TypeId} {bl : List (BitVec 8)} {sz : Nat} (h : Blk w q t (blc bl sz).toArray) : w.rangeAt q 0 (bl.map byteCell) := by
  have := range_of (A := []) (B := bl.map byteCell) (C := [.int .i64 (sz : Int)]) (t := t) (g := q) (w := w) (by simpa [blc] using h)
  simpa using this
theorem blc_size {w : World} {q : Nat} {t : TypeId} {bl : List (BitVec 8)} {sz : Nat} (h : Blk w q t (blc bl sz).toArray) (hl : bl.length = 64) : w.cell? ⟨q, 64, none⟩ = some (.int .i64 (sz : Int)) := by
  rw [h.cell]
  simp [blc, hl]
end Sm
end Go.Proofs
