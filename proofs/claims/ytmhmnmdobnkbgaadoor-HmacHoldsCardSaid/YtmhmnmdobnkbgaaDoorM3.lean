/-
  The contract of word: four bytes read as a word.
  The contract of the reference's Mix: at every four words and two.
  What a block presses into a state. No condition.
  A state of the hash in memory: its words, how many bytes were pressed, the block that waits. No condition.
  Blocks of bytes, and what the blocks that are full press into a state. No condition.
  Parts that are read beside a state's block; the steps of the iterator over blocks. No condition.
-/
import Derived.Test.YtmhmnmdobnkbgaaDoorM2
import Derived.Test.YtmhmnmdobnkbgaaDoorM1
import Derived.Deep.QuietTactic
import Derived.BigQuiet
import Derived.Laws.CopyOwn
import Derived.Deep.CutRange
namespace Go.Proofs
open Go.RowKit Sm
/-- a word out of four bytes, as far as they have come -/
def Sm.wordF (f : Nat → BitVec 8) : Nat → BitVec 32
  | 0 => 0#32
  | k + 1 => wordF f k ||| (((f k).setWidth 32) <<< (8 * k))
theorem Sm.byte_iv (c : BitVec 8) : 0 ≤ iv (c.setWidth 32) ∧ iv (c.setWidth 32) < 256 := by
  rw [← ib_iv]; exact ⟨ib_lo c, ib_hi c⟩
theorem Sm.shl_small (x : BitVec 32) (k : Nat) (m : Int) (h : (2 : Int) ^ k = m) (hb : iv x * m < 4294967296) : iv x * m = iv (x <<< k) := by
  rw [← shl_mod x k m h, Int.emod_eq_of_lt _ hb]
  have h0 := iv_lo x
  have : 0 ≤ m := by rw [← h]; exact Int.le_of_lt (Int.pow_pos (by decide))
  exact Int.mul_nonneg h0 this
set_option maxHeartbeats 1000000 in
theorem Sm.word_any (f : Nat → BitVec 8) (g off cap : Nat) (w : World) (h : ∀ k, k < 4 → w.cell? ⟨g, off + k, none⟩ = some (.int .u8 (ib (f k)))) :
    Calls Tryd.prog 115 #[.slice (some ⟨g, off, none⟩) 4 cap] w fun e w' => e = .returned (.int .u32 (iv (wordF f 4))) ∧ w = w' := by
  have h0 := h 0 (by decide)
  have h1 := h 1 (by decide)
  have h2 := h 2 (by decide)
  have h3 := h 3 (by decide)
  rw [ib_iv] at h0 h1 h2 h3
  obtain ⟨b0, c0⟩ := byte_iv (f 0)
  obtain ⟨b1, c1⟩ := byte_iv (f 1)
  obtain ⟨b2, c2⟩ := byte_iv (f 2)
  obtain ⟨b3, c3⟩ := byte_iv (f 3)
  clear h
  rw [Nat.add_zero] at h0
  go_enter Tryd.func115, Tryd.ntmps115
  go_wp2
  go_loop [3, 9] (fun v i => ∃ k : Nat, k ≤ 4 ∧ i = .int .i64 (k : Int) ∧ v = .int .u32 (iv (wordF f k))) (fun _ i => 4 - (intOf i).toNat)
  case atStart => exact ⟨0, Nat.zero_le _, rfl, rfl⟩
  case round =>
    obtain ⟨k, hk, rfl, rfl⟩ := hrel
    have : k = 0 ∨ k = 1 ∨ k = 2 ∨ k = 3 ∨ k = 4 := by omega
    rcases this with rfl | rfl | rfl | rfl | rfl
    · go_wp2
      refine ⟨⟨1, by omega, rfl, congrArg (Value.int .u32) ?_⟩, by simp [intOf]⟩
      rw [bits_or]
      show iv (wordF f 0 ||| _) = iv (wordF f 0 ||| _)
      simp
    · go_wp2
      refine ⟨⟨2, by omega, rfl, congrArg (Value.int .u32) ?_⟩, by simp [intOf]⟩
      rw [shl_small _ 8 _ (by decide) (by omega), bits_or]
      rfl
    · go_wp2
      refine ⟨⟨3, by omega, rfl, congrArg (Value.int .u32) ?_⟩, by simp [intOf]⟩
      rw [shl_small _ 16 _ (by decide) (by omega), bits_or]
      rfl
    · go_wp2
      refine ⟨⟨4, by omega, rfl, congrArg (Value.int .u32) ?_⟩, by simp [intOf]⟩
      rw [shl_small _ 24 _ (by decide) (by omega), bits_or]
      rfl
    · go_wp2
      go_ret
      exact ⟨rfl, rfl⟩
end Go.Proofs
namespace Go.Proofs
open Go.RowKit Sm
theorem Sm.row4_set' {w : World} {g : Nat} {t : TypeId} {a0 a1 a2 a3 : Value} (v0 v1 v2 v3 : Value) (h : w.heap[g]? = some (.cells #[a0, a1, a2, a3] t (0, 0))) :
    ((((w.setCell ⟨g, 0, none⟩ v0).setCell ⟨g, 1, none⟩ v1).setCell ⟨g, 2, none⟩ v2).setCell ⟨g, 3, none⟩ v3).heap[g]? = some (.cells #[v0, v1, v2, v3] t (0, 0)) :=
  heap_setCell_same _ _ _ _ _ _ (heap_setCell_same _ _ _ _ _ _ (heap_setCell_same _ _ _ _ _ _ (heap_setCell_same _ _ _ _ _ _ h)))
theorem Sm.turned16 (x : BitVec 32) (w : World) : Calls Tryd.prog 117 #[.int .u32 (iv x), .int .i64 16] w fun e w' => e = .returned (.int .u32 (iv (rotN 16 x))) ∧ w = w' := turned_any x 16 (by decide) w
theorem Sm.turned12 (x : BitVec 32) (w : World) : Calls Tryd.prog 117 #[.int .u32 (iv x), .int .i64 12] w fun e w' => e = .returned (.int .u32 (iv (rotN 12 x))) ∧ w = w' := turned_any x 12 (by decide) w
theorem Sm.turned8 (x : BitVec 32) (w : World) : Calls Tryd.prog 117 #[.int .u32 (iv x), .int .i64 8] w fun e w' => e = .returned (.int .u32 (iv (rotN 8 x))) ∧ w = w' := turned_any x 8 (by decide) w
theorem Sm.turned7 (x : BitVec 32) (w : World) : Calls Tryd.prog 117 #[.int .u32 (iv x), .int .i64 7] w fun e w' => e = .returned (.int .u32 (iv (rotN 7 x))) ∧ w = w' := turned_any x 7 (by decide) w
def Sm.d1 (q : Q4) (x : BitVec 32) (f : Nat) : BitVec 32 := rotN f (q.d ^^^ (q.a + (q.b + x)))
set_option maxRecDepth 100000 in
set_option maxHeartbeats 2000000 in
theorem Sm.refMix_any (q : Q4) (x y : BitVec 32) (w : World) : Calls Tryd.prog 114 #[.agg q.cells, .int .u32 (iv x), .int .u32 (iv y)] w fun e w' => e = .returned (.agg (mixS q x y).cells) ∧ Below w.heap.size w w' := by
  obtain ⟨p, hp⟩ : ∃ p, halfS q x 16 12 = p := ⟨_, rfl⟩
  obtain ⟨r, hr⟩ : ∃ r, halfS p y 8 7 = r := ⟨_, rfl⟩
  have hm : mixS q x y = r := by unfold mixS; rw [hp, hr]
  have e1 := iv_add_wrap q.a q.b
  have e2 : IntKind.u32.wrap (iv (q.a + q.b) + iv x) = iv p.a := by rw [iv_add_wrap, BitVec.add_assoc, ← hp]; rfl
  have e3 := bits_xor q.d p.a
  have e4 : iv (rotN 16 (q.d ^^^ p.a)) = iv p.d := by rw [← hp]; rfl
  have e5 : IntKind.u32.wrap (iv q.c + iv p.d) = iv p.c := by rw [iv_add_wrap, ← hp]; rfl
  have e6 := bits_xor q.b p.c
  have e7 : iv (rotN 12 (q.b ^^^ p.c)) = iv p.b := by rw [← hp]; rfl
  have g1 := iv_add_wrap p.a p.b
  have g2 : IntKind.u32.wrap (iv (p.a + p.b) + iv y) = iv r.a := by rw [iv_add_wrap, BitVec.add_assoc, ← hr]; rfl
  have g3 := bits_xor p.d r.a
  have g4 : iv (rotN 8 (p.d ^^^ r.a)) = iv r.d := by rw [← hr]; rfl
  have g5 : IntKind.u32.wrap (iv p.c + iv r.d) = iv r.c := by rw [iv_add_wrap, ← hr]; rfl
  have g6 := bits_xor p.b r.c
  have g7 : iv (rotN 7 (p.b ^^^ r.c)) = iv r.b := by rw [← hr]; rfl
  rw [hm]
  clear hm hp hr
  unfold Q4.cells
  go_enter Tryd.func114, Tryd.ntmps114
  go_wp2
  go_quiet (fail)
  obtain ⟨W1, hW1⟩ : ∃ W1, ((w.alloc (.cells #[.int .u32 (iv q.a), .int .u32 (iv q.b), .int .u32 (iv q.c), .int .u32 (iv q.d)] 0xaa)).alloc (.cells #[.int .u32 0, .int .u32 0, .int .u32 0, .int .u32 0] 0xaa)).drewN nq = W1 := ⟨_, rfl⟩
  have hb0 : Below w.heap.size w W1 := by
    have := ((Below.refl _ w).alloc (Nat.le_refl _) (.cells #[.int .u32 (iv q.a), .int .u32 (iv q.b), .int .u32 (iv q.c), .int .u32 (iv q.d)] 0xaa)).alloc (by simp) (.cells #[.int .u32 0, .int .u32 0, .int .u32 0, .int .u32 0] 0xaa)
    rw [← hW1]
    exact ⟨this.os, this.tape, this.output, this.size, this.block⟩
  have hr0 : W1.heap[w.heap.size + 1]? = some (.cells #[.int .u32 0, .int .u32 0, .int .u32 0, .int .u32 0] 0xaa (0, 0)) := by
    have := World.alloc_heap_new (w.alloc (.cells #[.int .u32 (iv q.a), .int .u32 (iv q.b), .int .u32 (iv q.c), .int .u32 (iv q.d)] 0xaa)) (.cells #[.int .u32 0, .int .u32 0, .int .u32 0, .int .u32 0] 0xaa)
    rw [World.size_alloc] at this
    rw [← hW1]
    exact this
  rw [hW1]
  have r0 := cell_of_row _ _ 0 _ _ _ hr0
  have r1 := cell_of_row _ _ 1 _ _ _ hr0
  have r2 := cell_of_row _ _ 2 _ _ _ hr0
  have r3 := cell_of_row _ _ 3 _ _ _ hr0
  have f0 := frozen_of_row _ _ 0 _ _ hr0
  have f1 := frozen_of_row _ _ 1 _ _ hr0
  have f2 := frozen_of_row _ _ 2 _ _ hr0
  have f3 := frozen_of_row _ _ 3 _ _ hr0
  simp only [List.getElem?_toArray, List.getElem?_cons_zero, List.getElem?_cons_succ] at r0 r1 r2 r3
  have HR0 := Lib.hid hr0
  clear hr0 hW1
  go_wp2_with (first
    | (go_at_call 117; (with_reducible refine (turned16 _ _).mono ?_); rintro e w' ⟨rfl, rfl⟩)
    | (go_at_call 117; (with_reducible refine (turned12 _ _).mono ?_); rintro e w' ⟨rfl, rfl⟩)
    | (go_at_call 117; (with_reducible refine (turned8 _ _).mono ?_); rintro e w' ⟨rfl, rfl⟩)
    | (go_at_call 117; (with_reducible refine (turned7 _ _).mono ?_); rintro e w' ⟨rfl, rfl⟩))
  refine bodyPost_ret (results_cell_row rfl _ _ (w.heap.size + 1) 0xaa _ (0, 0) _ rfl (row4_set' _ _ _ _ HR0.out) Tryd.underlying170 rfl (by kernel_rfl)) rfl ⟨rfl, ?_⟩
  exact (((hb0.setCell (p := ⟨w.heap.size + 1, 0, none⟩) (by simp) _).setCell (p := ⟨w.heap.size + 1, 1, none⟩) (by simp) _).setCell (p := ⟨w.heap.size + 1, 2, none⟩) (by simp) _).setCell (p := ⟨w.heap.size + 1, 3, none⟩) (by simp) _
end Go.Proofs
namespace Go.Proofs
open Go.RowKit Sm
def Sm.bvs (l : List (BitVec 8)) : Array Value := (l.map byteCell).toArray
theorem Sm.bvs_size (l : List (BitVec 8)) : (bvs l).size = l.length := by simp [bvs]
theorem Sm.bvs_one (l : List (BitVec 8)) : (bvs l).all (·.oneCell') = true := by
  refine all_oneCell_toArray fun v hv => ?_
  simp only [List.mem_map] at hv
  obtain ⟨x, _, rfl⟩ := hv
  rfl
theorem Sm.Blk.byte {w : World} {b : Nat} {t : TypeId} {l : List (BitVec 8)} (h : Blk w b t (bvs l)) {k : Nat} (hk : k < l.length) : w.cell? ⟨b, k, none⟩ = some (.int .u8 (ib (l.getD k 0))) := by
  rw [h.cell]
  simp [bvs, hk, byteCell]
/-- the word at k of a block's bytes -/
def Sm.wordB (B : List (BitVec 8)) (k : Nat) : BitVec 32 := wordF (fun j => B.getD (4 * k + j) 0) 4
def Sm.giv (B : List (BitVec 8)) : Nat → List (BitVec 32)
  | 0 => List.replicate 16 0#32
  | k + 1 => (giv B k).set k (wordB B k)
theorem Sm.giv_length (B : List (BitVec 8)) : ∀ k, (giv B k).length = 16
  | 0 => by simp [giv]
  | k + 1 => by rw [giv, List.length_set, giv_length]
def Sm.vin (H : List (BitVec 32)) : Nat → List (BitVec 32)
  | 0 => List.replicate 16 0#32
  | k + 1 => ((vin H k).set k (H.getD k 0)).set (k + 8) (beginL.getD k 0)
theorem Sm.vin_length (H : List (BitVec 32)) : ∀ k, (vin H k).length = 16
  | 0 => by simp [vin]
  | k + 1 => by rw [vin, List.length_set, List.length_set, vin_length]
def Sm.vlo (n : Nat) (V : List (BitVec 32)) : List (BitVec 32) := V.set 12 (V.getD 12 0 ^^^ BitVec.ofNat 32 n)
def Sm.vhi (n : Nat) (V : List (BitVec 32)) : List (BitVec 32) := V.set 13 (V.getD 13 0 ^^^ BitVec.ofNat 32 (n / 4294967296))
def Sm.vla (V : List (BitVec 32)) : List (BitVec 32) := V.set 14 (~~~ V.getD 14 0)
def Sm.vfl (H : List (BitVec 32)) (n : Nat) (last : Bool) : List (BitVec 32) := if last then vla (vhi n (vlo n (vin H 8))) else vhi n (vlo n (vin H 8))
theorem Sm.vlo_length (n : Nat) (V : List (BitVec 32)) : (vlo n V).length = V.length := List.length_set ..
theorem Sm.vhi_length (n : Nat) (V : List (BitVec 32)) : (vhi n V).length = V.length := List.length_set ..
theorem Sm.vla_length (V : List (BitVec 32)) : (vla V).length = V.length := List.length_set ..
def Sm.fin (H V : List (BitVec 32)) : Nat → List (BitVec 32)
  | 0 => H
  | k + 1 => (fin H V k).set k ((fin H V k).getD k 0 ^^^ (V.getD k 0 ^^^ V.getD (k + 8) 0))
theorem Sm.fin_length (H V : List (BitVec 32)) : ∀ k, (fin H V k).length = H.length
  | 0 => rfl
  | k + 1 => by rw [fin, List.length_set, fin_length]
def Sm.pressS (H : List (BitVec 32)) (B : List (BitVec 8)) (n : Nat) (last : Bool) : List (BitVec 32) := fin H (rounds (vfl H n last) (giv B 16) 10) 8
theorem Sm.vfl_length (H : List (BitVec 32)) (n : Nat) (last : Bool) : (vfl H n last).length = 16 := by
  unfold vfl
  cases last
  · simp [vhi_length, vlo_length, vin_length]
  · simp [vla_length, vhi_length, vlo_length, vin_length]
theorem Sm.pressS_length (H : List (BitVec 32)) (B : List (BitVec 8)) (n : Nat) (last : Bool) : (pressS H B n last).length = H.length := fin_length ..
theorem Sm.z16_eq' : (#[.int .u32 0, .int .u32 0, .int .u32 0, .int .u32 0, .int .u32 0, .int .u32 0, .int .u32 0, .int .u32 0, .int .u32 0, .int .u32 0, .int .u32 0, .int .u32 0, .int .u32 0, .int .u32 0, .int .u32 0, .int .u32 0] : Array Value) = wvs (List.replicate 16 0#32) := rfl
theorem Sm.z8_eq : (#[.int .u32 0, .int .u32 0, .int .u32 0, .int .u32 0, .int .u32 0, .int .u32 0, .int .u32 0, .int .u32 0] : Array Value) = wvs (List.replicate 8 0#32) := rfl
/-- how all stands while a block is pressed -/
structure Sm.PrAt (w wr : World) (H : List (BitVec 32)) (B : List (BitVec 8)) (G V : List (BitVec 32)) : Prop where
  h : Blk wr w.heap.size 0x6f (wvs H)
  b : Blk wr (w.heap.size + 1) 0x31 (bvs B)
  r : Blk wr (w.heap.size + 2) 0x6f (wvs (List.replicate 8 0#32))
  g : Blk wr (w.heap.size + 3) 0xa5 (wvs G)
  v : Blk wr (w.heap.size + 4) 0xa5 (wvs V)
  below : Below w.heap.size w wr
theorem Sm.PrAt.keep {w wr w' : World} {H G V : List (BitVec 32)} {B : List (BitVec 8)} (h : PrAt w wr H B G V) (hb : Below wr.heap.size wr w') : PrAt w w' H B G V :=
  ⟨h.h.keep hb, h.b.keep hb, h.r.keep hb, h.g.keep hb, h.v.keep hb, h.below.trans (hb.mono h.below.size)⟩
theorem Sm.PrAt.drew {w wr : World} {H G V : List (BitVec 32)} {B : List (BitVec 8)} (h : PrAt w wr H B G V) : PrAt w wr.drew H B G V := ⟨h.h, h.b, h.r, h.g, h.v, h.below.drew⟩
theorem Sm.PrAt.setG {w wr : World} {H G V : List (BitVec 32)} {B : List (BitVec 8)} (h : PrAt w wr H B G V) (k : Nat) (x : BitVec 32) : PrAt w (wr.setCell ⟨w.heap.size + 3, k, none⟩ (.int .u32 (iv x))) H B (G.set k x) V :=
  ⟨h.h.other (by simp) _, h.b.other (by simp) _, h.r.other (by simp) _, h.g.setWord k x, h.v.other (by simp) _, h.below.setCell (p := ⟨w.heap.size + 3, k, none⟩) (by simp) _⟩
theorem Sm.PrAt.setV {w wr : World} {H G V : List (BitVec 32)} {B : List (BitVec 8)} (h : PrAt w wr H B G V) (k : Nat) (x : BitVec 32) : PrAt w (wr.setCell ⟨w.heap.size + 4, k, none⟩ (.int .u32 (iv x))) H B G (V.set k x) :=
  ⟨h.h.other (by simp) _, h.b.other (by simp) _, h.r.other (by simp) _, h.g.other (by simp) _, h.v.setWord k x, h.below.setCell (p := ⟨w.heap.size + 4, k, none⟩) (by simp) _⟩
theorem Sm.PrAt.setH {w wr : World} {H G V : List (BitVec 32)} {B : List (BitVec 8)} (h : PrAt w wr H B G V) (k : Nat) (x : BitVec 32) : PrAt w (wr.setCell ⟨w.heap.size, k, none⟩ (.int .u32 (iv x))) (H.set k x) B G V :=
  ⟨h.h.setWord k x, h.b.other (by simp) _, h.r.other (by simp) _, h.g.other (by simp) _, h.v.other (by simp) _, h.below.setCell (p := ⟨w.heap.size, k, none⟩) (by simp) _⟩
theorem Sm.PrAt.rowV {w wr : World} {H G V : List (BitVec 32)} {B : List (BitVec 8)} (h : PrAt w wr H B G V) (V' : List (BitVec 32)) : PrAt w (wr.setRow (w.heap.size + 4) (wvs V')) H B G V' :=
  ⟨(setRow_other _ _ _ _ (by omega)).trans h.h, (setRow_other _ _ _ _ (by omega)).trans h.b, (setRow_other _ _ _ _ (by omega)).trans h.r, (setRow_other _ _ _ _ (by omega)).trans h.g, setRow_heap _ _ _ _ _ _ h.v, below_setRow h.below (by omega) _⟩
theorem Sm.Blk.newAt {X : World} {N : Nat} (h : X.heap.size = N) (t : TypeId) (cs : Array Value) : Blk (X.alloc (.cells cs t)) N t cs := h ▸ Blk.new X t cs
theorem Sm.slice64 (b lo hi : Nat) (l h : Int) (el : l = lo) (eh : h = hi) (h1 : lo < hi) (h2 : hi ≤ 64) (w : World) :
    (Instr.sliceAt 0x31 (.pointer (some ⟨b, 0, none⟩)) (some (.int .i64 l)) (some (.int .i64 h)) none).run Tryd.prog w = .ok (.slice (some ⟨b, lo, none⟩) (hi - lo) (64 - lo)) w := by
  subst el eh
  have hu : Tryd.prog.underlying 0x31 = some (.array (Tryd.prog.arrayLen 0x31) (Tryd.prog.elem 0x31)) := by kernel_rfl
  have ha : Tryd.prog.arrayLen 0x31 = 64 := by kernel_rfl
  have he : Tryd.prog.elem 0x31 = 5 := by kernel_rfl
  have hs : ∀ w, (sizeOf 5).run Tryd.prog w = .ok 1 w := fun _ => by kernel_rfl
  rw [run_sliceAt_array_lh w 0x31 ⟨b, 0, none⟩ hu .i64 .i64 _ _ (by omega) (by omega) (by rw [ha]; omega), he, hs]
  simp only [Result.andThen_ok, slicedAt, ha, Int.toNat_natCast, Nat.mul_one]
  rw [if_neg (by omega), Addr.add_mid, Nat.zero_add]
end Go.Proofs
namespace Go.Proofs
open Go.RowKit Sm
namespace Sm
def setAll (L : List Value) : Nat → List Value → List Value
  | _, [] => L
  | o, v :: r => setAll (L.set o v) (o + 1) r
theorem setAll_mid (A : List Value) : ∀ (B' B C : List Value), B'.length = B.length → setAll (A ++ (B ++ C)) A.length B' = A ++ (B' ++ C)
  | [], B, C, h => by
    obtain rfl : B = [] := List.eq_nil_of_length_eq_zero h.symm
    rfl
  | v :: r, B, C, h => by
    cases B with
    | nil => simp at h
    | cons b B =>
      rw [setAll]
      have e : (A ++ (b :: B ++ C)).set A.length v = (A ++ [v]) ++ (B ++ C) := by simp
      rw [e, show A.length + 1 = (A ++ [v]).length by simp, setAll_mid (A ++ [v]) r B C (by simpa using h)]
      simp
theorem blk_setCells (t : TypeId) (b : Nat) : ∀ (vs : List Value) (o : Nat) (L : List Value) (w : World), Blk w b t L.toArray → Blk (w.setCells b o vs) b t (setAll L o vs).toArray
  | [], _, _, _, h => h
  | v :: r, o, L, w, h => by
    rw [World.setCells, setAll]
    refine blk_setCells t b r (o + 1) (L.set o v) _ ?_
    have := heap_setCell_same w b o L.toArray t v h
    have e : L.toArray.setIfInBounds o v = (L.set o v).toArray := by simp
    rw [e] at this
    exact this
theorem but_setCells (b : Nat) : ∀ (vs : List Value) (o : Nat) (w : World), But (fun k => k = b) w (w.setCells b o vs)
  | [], _, w => But.refl _ w
  | v :: r, o, w => by
    rw [World.setCells]
    exact ((But.refl (fun k => k = b) w).set ⟨b, o, none⟩ v (.inl rfl)).trans (but_setCells b r (o + 1) _) (fun _ _ h => h)
theorem Blk.but {w w' : World} {S : Nat → Prop} {b : Nat} {t : TypeId} {cs : Array Value} (h : Blk w b t cs) (hb : But S w w') (hn : ¬ S b) : Blk w' b t cs := hb.box h hn
/-- a block that waits, as it lies -/
def blc (bl : List (BitVec 8)) (sz : Nat) : List Value := bl.map byteCell ++ [.int .i64 (sz : Int)]
/-- a state as it lies -/
def stc (ws : List (BitVec 32)) (p : Nat) (bl : List (BitVec 8)) (sz : Nat) : List Value := wl ws ++ (.int .u64 (p : Int) :: blc bl sz)
theorem blc_length (bl : List (BitVec 8)) (sz : Nat) : (blc bl sz).length = bl.length + 1 := by simp [blc]
theorem stc_length (ws : List (BitVec 32)) (p : Nat) (bl : List (BitVec 8)) (sz : Nat) : (stc ws p bl sz).length = ws.length + bl.length + 2 := by simp [stc, wl, blc]; omega
theorem blc_one (bl : List (BitVec 8)) (sz : Nat) : ∀ v ∈ blc bl sz, v.oneCell' = true := by
  intro v hv
  simp only [blc, List.mem_append, List.mem_map, List.mem_singleton] at hv
  rcases hv with ⟨x, _, rfl⟩ | rfl <;> rfl
theorem stc_one (ws : List (BitVec 32)) (p : Nat) (bl : List (BitVec 8)) (sz : Nat) : ∀ v ∈ stc ws p bl sz, v.oneCell' = true := by
  intro v hv
  simp only [stc, List.mem_append, List.mem_cons] at hv
  rcases hv with h | rfl | h
  · exact wl_one ws v h
  · rfl
  · exact blc_one bl sz v h
/-- a state lies at the head of block g -/
structure St (w : World) (g : Nat) (t : TypeId) (ws : List (BitVec 32)) (p : Nat) (bl : List (BitVec 8)) (sz : Nat) (tail : List Value) : Prop where
  blk : Blk w g t (stc ws p bl sz ++ tail).toArray
  wlen : ws.length = 8
  blen : bl.length = 64
theorem range_of {w : World} {g : Nat} {t : TypeId} {A B C : List Value} (h : Blk w g t (A ++ (B ++ C)).toArray) : w.rangeAt g A.length B := fun j v hv => by
  have hj := (List.getElem?_eq_some_iff.1 hv).1
  rw [h.cell]
  simp only [List.getElem?_toArray]
  rw [List.getElem?_append_right (by omega), List.getElem?_append_left (by omega), Nat.add_sub_cancel_left]
  exact hv
section
variable {w w' : World} {g : Nat} {t : TypeId} {ws : List (BitVec 32)} {p : Nat} {bl : List (BitVec 8)} {sz : Nat} {tail : List Value}
theorem St.keep (h : St w g t ws p bl sz tail) (hb : Below w.heap.size w w') : St w' g t ws p bl sz tail := ⟨h.blk.keep hb, h.wlen, h.blen⟩
theorem St.but {S : Nat → Prop} (h : St w g t ws p bl sz tail) (hb : But S w w') (hn : ¬ S g) : St w' g t ws p bl sz tail := ⟨h.blk.but hb hn, h.wlen, h.blen⟩
theorem St.drew (h : St w g t ws p bl sz tail) : St w.drew g t ws p bl sz tail := ⟨h.blk, h.wlen, h.blen⟩
theorem St.rangeW (h : St w g t ws p bl sz tail) : w.rangeAt g 0 (wl ws) := by
  have := range_of (A := []) (B := wl ws) (C := (.int .u64 (p : Int) :: blc bl sz) ++ tail) (t := t) (g := g) (w := w) (by simpa [stc, List.append_assoc] using h.blk)
  simpa using this
theorem St.rangeAll (h : St w g t ws p bl sz tail) : w.rangeAt g 0 (stc ws p bl sz) := by
  have := range_of (A := []) (B := stc ws p bl sz) (C := tail) (t := t) (g := g) (w := w) (by simpa using h.blk)
  simpa using this
theorem St.rangeB (h : St w g t ws p bl sz tail) : w.rangeAt g 9 (blc bl sz) := by
  have := range_of (A := wl ws ++ [.int .u64 (p : Int)]) (B := blc bl sz) (C := tail) (t := t) (g := g) (w := w) (by simpa [stc, List.append_assoc] using h.blk)
  have e : (wl ws ++ [Value.int .u64 (p : Int)]).length = 9 := by simp [wl, h.wlen]
  rwa [e] at this
theorem St.cellP (h : St w g t ws p bl sz tail) : w.cell? ⟨g, 8, none⟩ = some (.int .u64 (p : Int)) := by
  have := range_of (A := wl ws) (B := [.int .u64 (p : Int)]) (C := blc bl sz ++ tail) (t := t) (g := g) (w := w) (by simpa [stc, List.append_assoc] using h.blk)
  have e : (wl ws).length = 8 := by simp [wl, h.wlen]
  rw [e] at this
  exact this 0 _ rfl
theorem St.cellS (h : St w g t ws p bl sz tail) : w.cell? ⟨g, 73, none⟩ = some (.int .i64 (sz : Int)) := by
  have := h.rangeB 64 (.int .i64 (sz : Int)) (by simp [blc, h.blen])
  exact this
theorem St.frozen (h : St w g t ws p bl sz tail) (j : Nat) : w.frozen? ⟨g, j, none⟩ = false := h.blk.frozen j
theorem St.thereN (h : St w g t ws p bl sz tail) (o n : Nat) (hn : o + n ≤ 74) : w.there g o n := fun j hj => by
  refine ⟨?_, h.frozen _⟩
  rw [h.blk.cell, List.getElem?_toArray, List.getElem?_eq_getElem (by rw [List.length_append, stc_length, h.wlen, h.blen]; omega)]
  rfl
theorem St.setP (h : St w g t ws p bl sz tail) (p' : Nat) : St (w.setCell ⟨g, 8, none⟩ (.int .u64 (p' : Int))) g t ws p' bl sz tail := by
  refine ⟨?_, h.wlen, h.blen⟩
  have h1 := blk_setCells t g [.int .u64 (p' : Int)] 8 _ w h.blk
  have e : setAll (stc ws p bl sz ++ tail) 8 [.int .u64 (p' : Int)] = stc ws p' bl sz ++ tail := by
    have := setAll_mid (wl ws) [.int .u64 (p' : Int)] [.int .u64 (p : Int)] (blc bl sz ++ tail) rfl
    have el : (wl ws).length = 8 := by simp [wl, h.wlen]
    rw [el] at this
    simpa [stc, List.append_assoc] using this
  rw [e] at h1
  exact h1
theorem St.setW (h : St w g t ws p bl sz tail) (ws' : List (BitVec 32)) (hl : ws'.length = 8) : St (w.setCells g 0 (wl ws')) g t ws' p bl sz tail := by
  refine ⟨?_, hl, h.blen⟩
  have h1 := blk_setCells t g (wl ws') 0 _ w h.blk
  have e : setAll (stc ws p bl sz ++ tail) 0 (wl ws') = stc ws' p bl sz ++ tail := by
    have := setAll_mid [] (wl ws') (wl ws) ((.int .u64 (p : Int) :: blc bl sz) ++ tail) (by simp [wl, h.wlen, hl])
    simpa [stc, List.append_assoc] using this
  rw [e] at h1
  exact h1
theorem St.setB (h : St w g t ws p bl sz tail) (bl' : List (BitVec 8)) (sz' : Nat) (hl : bl'.length = 64) : St (w.setCells g 9 (blc bl' sz')) g t ws p bl' sz' tail := by
  refine ⟨?_, h.wlen, hl⟩
  have h1 := blk_setCells t g (blc bl' sz') 9 _ w h.blk
  have e : setAll (stc ws p bl sz ++ tail) 9 (blc bl' sz') = stc ws p bl' sz' ++ tail := by
    have := setAll_mid (wl ws ++ [.int .u64 (p : Int)]) (blc bl' sz') (blc bl sz) tail (by simp [blc_length, h.blen, hl])
    have el : (wl ws ++ [Value.int .u64 (p : Int)]).length = 9 := by simp [wl, h.wlen]
    rw [el] at this
    simpa [stc, List.append_assoc] using this
  rw [e] at h1
  exact h1
end
/-- a block that waits lies alone in block q -/
theorem blc_range {w : World} {q : Nat} {t : TypeId} {bl : List (BitVec 8)} {sz : Nat} (h : Blk w q t (blc bl sz).toArray) : w.rangeAt q 0 (bl.map byteCell) := by
  have := range_of (A := []) (B := bl.map byteCell) (C := [.int .i64 (sz : Int)]) (t := t) (g := q) (w := w) (by simpa [blc] using h)
  simpa using this
theorem blc_size {w : World} {q : Nat} {t : TypeId} {bl : List (BitVec 8)} {sz : Nat} (h : Blk w q t (blc bl sz).toArray) (hl : bl.length = 64) : w.cell? ⟨q, 64, none⟩ = some (.int .i64 (sz : Int)) := by
  rw [h.cell]
  simp [blc, hl]
end Sm
end Go.Proofs
namespace Go.Proofs.Sm
/-- filled with noughts -/
def pad (c : List (BitVec 8)) : List (BitVec 8) := c ++ List.replicate (64 - c.length) 0#8
theorem pad_length (c : List (BitVec 8)) (h : c.length ≤ 64) : (pad c).length = 64 := by simp [pad]; omega
/-- how many blocks are told ahead of the last one -/
def cnt (all : List (BitVec 8)) : Nat := (all.length - 1) / 64
/-- what is told the k-th time -/
def chunk (all : List (BitVec 8)) (k : Nat) : List (BitVec 8) := (all.drop (64 * k)).take 64
def pressK (ws : List (BitVec 32)) (p : Nat) (all : List (BitVec 8)) : Nat → List (BitVec 32)
  | 0 => ws
  | k + 1 => pressS (pressK ws p all k) (pad (chunk all k)) (p + 64 * (k + 1)) false
theorem chunk_full (all : List (BitVec 8)) (k : Nat) (h : 64 * (k + 1) ≤ all.length) : (chunk all k).length = 64 := by
  simp [chunk]; omega
theorem chunk_full' (all : List (BitVec 8)) (k : Nat) (h : k < cnt all) : (chunk all k).length = 64 := by
  unfold cnt at h
  exact chunk_full all k (by omega)
theorem chunk_le (all : List (BitVec 8)) (k : Nat) : (chunk all k).length ≤ 64 := by simp [chunk]; omega
theorem chunk_last (all : List (BitVec 8)) : chunk all (cnt all) = all.drop (64 * cnt all) := by
  unfold chunk
  rw [List.take_of_length_le]
  unfold cnt
  simp; omega
theorem chunk_append (a b : List (BitVec 8)) (k : Nat) (h : 64 * (k + 1) ≤ a.length) : chunk (a ++ b) k = chunk a k := by
  unfold chunk
  rw [List.drop_append_of_le_length (by omega), List.take_append_of_le_length (by simp; omega)]
theorem pressK_length (ws : List (BitVec 32)) (p : Nat) (all : List (BitVec 8)) : ∀ k, (pressK ws p all k).length = ws.length
  | 0 => rfl
  | k + 1 => by rw [pressK, pressS_length, pressK_length]
theorem pressK_append (ws : List (BitVec 32)) (p : Nat) (a b : List (BitVec 8)) : ∀ k, 64 * k ≤ a.length → pressK ws p (a ++ b) k = pressK ws p a k
  | 0, _ => rfl
  | k + 1, h => by rw [pressK, pressK, pressK_append ws p a b k (by omega), chunk_append a b k h]
theorem pressK_add (ws : List (BitVec 32)) (p : Nat) (all : List (BitVec 8)) (m : Nat) : ∀ j, pressK ws p all (m + j) = pressK (pressK ws p all m) (p + 64 * m) (all.drop (64 * m)) j
  | 0 => rfl
  | j + 1 => by
    rw [← Nat.add_assoc, pressK, pressK_add ws p all m j, pressK]
    have e1 : p + 64 * (m + j + 1) = p + 64 * m + 64 * (j + 1) := by omega
    have e2 : chunk all (m + j) = chunk (all.drop (64 * m)) j := by
      unfold chunk
      rw [List.drop_drop, show 64 * m + 64 * j = 64 * (m + j) by omega]
    rw [e1, e2]
/-- the sum's words of a state in which bytes wait -/
def endS (ws : List (BitVec 32)) (p : Nat) (cur : List (BitVec 8)) : List (BitVec 32) := pressS ws (pad cur) (p + cur.length) true
/-- a state: words, how many bytes were pressed, the bytes that wait -/
structure HS where
  ws : List (BitVec 32)
  p : Nat
  cur : List (BitVec 8)
def takeS (s : HS) (b : List (BitVec 8)) : HS := ⟨pressK s.ws s.p (s.cur ++ b) (cnt (s.cur ++ b)), s.p + 64 * cnt (s.cur ++ b), (s.cur ++ b).drop (64 * cnt (s.cur ++ b))⟩
theorem takeS_takeS (s : HS) (a b : List (BitVec 8)) : takeS (takeS s a) b = takeS s (a ++ b) := by
  obtain ⟨ws, p, cur⟩ := s
  unfold takeS
  simp only
  obtain ⟨A, hA⟩ : ∃ A, cur ++ a = A := ⟨_, rfl⟩
  have e : cur ++ (a ++ b) = A ++ b := by rw [← hA, List.append_assoc]
  rw [e, hA]
  have hm : 64 * cnt A ≤ A.length := by unfold cnt; omega
  have hd : A.drop (64 * cnt A) ++ b = (A ++ b).drop (64 * cnt A) := by rw [List.drop_append_of_le_length hm]
  rw [hd]
  have hc : cnt (A ++ b) = cnt A + cnt ((A ++ b).drop (64 * cnt A)) := by
    unfold cnt
    simp only [List.length_drop, List.length_append]
    omega
  rw [hc, pressK_add, pressK_append ws p A b _ hm, List.drop_drop]
  congr 1
  · omega
  · congr 1; omega
theorem takeS_cur_le (s : HS) (b : List (BitVec 8)) : (takeS s b).cur.length ≤ 64 := by
  unfold takeS cnt
  simp; omega
theorem takeS_ws (s : HS) (b : List (BitVec 8)) : (takeS s b).ws.length = s.ws.length := pressK_length ..
theorem takeS_count (s : HS) (b : List (BitVec 8)) : (takeS s b).p + (takeS s b).cur.length = s.p + s.cur.length + b.length := by
  unfold takeS cnt
  simp; omega
end Go.Proofs.Sm
namespace Go.Proofs
open Go.RowKit Sm
namespace Sm
/-- one of the parts: where it lies, how long it is, its room, its bytes -/
structure Pt where
  A : Option Addr
  n : Nat
  c : Nat
  l : List (BitVec 8)
def Pt.val (p : Pt) : Value := .slice p.A p.n p.c
/-- a slice of bytes that lies outside block g -/
structure PtOK (w : World) (g : Nat) (A : Option Addr) (n c : Nat) (l : List (BitVec 8)) : Prop where
  len : l.length = n
  room : n ≤ c
  most : c ≤ 9223372036854775807
  rd : Rds w (fun b => b = g) A (l.map byteCell)
structure PsOK (w : World) (g : Nat) (A : Option Addr) (n : Nat) (ps : List Pt) : Prop where
  len : ps.length = n
  most : n ≤ 1000000
  rd : Rds w (fun b => b = g) A (ps.map Pt.val)
  each : ∀ p ∈ ps, PtOK w g p.A p.n p.c p.l
def joinP (ps : List Pt) : List (BitVec 8) := ps.flatMap (·.l)
theorem Rds.below {w w' : World} {S : Nat → Prop} {A : Option Addr} {cs : List Value} (h : Rds w S A cs) (hb : Below w.heap.size w w') : Rds w' S A cs := fun hn => by
  obtain ⟨b, off, rfl, hlt, hns, hc⟩ := h hn
  exact ⟨b, off, rfl, Nat.lt_of_lt_of_le hlt hb.size, hns, fun j c hj => (hb.cell (p := ⟨b, off + j, none⟩) hlt).trans (hc j c hj)⟩
theorem PtOK.but {w w' : World} {g : Nat} {A : Option Addr} {n c : Nat} {l : List (BitVec 8)} (h : PtOK w g A n c l) {S : Nat → Prop} (hb : But S w w') (hS : ∀ b, b < w.heap.size → S b → b = g) : PtOK w' g A n c l :=
  ⟨h.len, h.room, h.most, h.rd.but (hb.mono hS) (fun _ e => e)⟩
theorem PsOK.but {w w' : World} {g : Nat} {A : Option Addr} {n : Nat} {ps : List Pt} (h : PsOK w g A n ps) {S : Nat → Prop} (hb : But S w w') (hS : ∀ b, b < w.heap.size → S b → b = g) : PsOK w' g A n ps :=
  ⟨h.len, h.most, h.rd.but (hb.mono hS) (fun _ e => e), fun p hp => (h.each p hp).but hb hS⟩
theorem PsOK.keep {w w' : World} {g : Nat} {A : Option Addr} {n : Nat} {ps : List Pt} (h : PsOK w g A n ps) (hb : Below w.heap.size w w') : PsOK w' g A n ps := h.but (But.of_all hb (fun _ => False)) (fun _ _ e => e.elim)
theorem PtOK.keep {w w' : World} {g : Nat} {A : Option Addr} {n c : Nat} {l : List (BitVec 8)} (h : PtOK w g A n c l) (hb : Below w.heap.size w w') : PtOK w' g A n c l := h.but (But.of_all hb (fun _ => False)) (fun _ _ e => e.elim)
/-- the rest of a part -/
theorem PtOK.drop {w : World} {g b off : Nat} {n c : Nat} {l : List (BitVec 8)} (h : PtOK w g (some ⟨b, off, none⟩) n c l) (k : Nat) (hk : k ≤ n) : PtOK w g (some ⟨b, off + k, none⟩) (n - k) (c - k) (l.drop k) := by
  have hl := h.len
  have hr := h.room
  have hm := h.most
  refine ⟨by simp; omega, by omega, by omega, fun hn => ?_⟩
  have h0 : 0 < (l.map byteCell).length := by simp at hn ⊢; omega
  obtain ⟨b', off', e, hlt, hns, hcell⟩ := h.rd h0
  cases e
  refine ⟨b, off + k, rfl, hlt, hns, fun j v hj => ?_⟩
  have := hcell (k + j) v (by rw [← hj]; simp [List.getElem?_drop])
  rw [Nat.add_assoc]
  exact this
theorem PtOK.end_ {w : World} {g : Nat} {A : Option Addr} {n c : Nat} {l : List (BitVec 8)} (h : PtOK w g A n c l) (hc : n = c) : PtOK w g A (n - n) (c - c) (l.drop n) := by
  have hl := h.len
  have hm := h.most
  refine ⟨by simp; omega, by omega, by omega, fun hn => ?_⟩
  simp [hl] at hn
/-- the block of what has come so far -/
def curB (s : List (BitVec 8)) : List (BitVec 8) := chunk s (cnt s)
def blkV (s : List (BitVec 8)) : Array Value := (blc (pad (curB s)) (curB s).length).toArray
theorem curB_le (s : List (BitVec 8)) : (curB s).length ≤ 64 := chunk_le ..
theorem curB_length (s : List (BitVec 8)) : (curB s).length = s.length - 64 * cnt s := by
  unfold curB
  rw [chunk_last, List.length_drop]
theorem pad_nil : pad [] = List.replicate 64 0#8 := rfl
theorem step_room {s : List (BitVec 8)} (c : List (BitVec 8)) (h : (curB s).length + c.length ≤ 64) : cnt (s ++ c) = cnt s ∧ curB (s ++ c) = curB s ++ c := by
  have hl := curB_length s
  have h1 : cnt (s ++ c) = cnt s := by
    unfold cnt at hl ⊢
    simp only [List.length_append]
    omega
  refine ⟨h1, ?_⟩
  unfold curB at *
  rw [chunk_last, chunk_last, h1, List.drop_append_of_le_length (by unfold cnt; omega)]
theorem step_full {s : List (BitVec 8)} (c : List (BitVec 8)) (h : (curB s).length = 64) (h0 : 0 < c.length) (h1 : c.length ≤ 64) : cnt (s ++ c) = cnt s + 1 ∧ curB (s ++ c) = c := by
  have hl := curB_length s
  have h2 : cnt (s ++ c) = cnt s + 1 := by
    unfold cnt at hl ⊢
    simp only [List.length_append]
    omega
  refine ⟨h2, ?_⟩
  have h3 : s.length = 64 * (cnt s + 1) := by unfold cnt at hl ⊢; omega
  unfold curB
  rw [chunk_last, h2, ← h3, List.drop_append_of_le_length (Nat.le_refl _), List.drop_length, List.nil_append]
theorem full_told {s r all : List (BitVec 8)} (ha : all = s ++ r) (h : (curB s).length = 64) (h0 : 0 < r.length) : cnt s < cnt all ∧ chunk all (cnt s) = curB s := by
  have hl := curB_length s
  subst ha
  have h3 : s.length = 64 * (cnt s + 1) := by unfold cnt at hl ⊢; omega
  refine ⟨?_, chunk_append s r _ (by omega)⟩
  unfold cnt at h3 ⊢
  simp only [List.length_append]
  omega
/-- a chunk laid over a padded block -/
theorem splice_pad (c d : List (BitVec 8)) (n : Nat) (h : c.length + d.length ≤ 64) : splice (blc (pad c) n) c.length (d.map byteCell) = blc (pad (c ++ d)) n := by
  unfold splice blc pad
  have e1 : (List.map byteCell (c ++ List.replicate (64 - c.length) 0#8) ++ [Value.int .i64 (n : Int)]).take c.length = c.map byteCell := by
    rw [List.map_append, List.append_assoc, List.take_append_of_le_length (by simp), List.take_of_length_le (by simp)]
  have e2 : (List.map byteCell (c ++ List.replicate (64 - c.length) 0#8) ++ [Value.int .i64 (n : Int)]).drop (c.length + (d.map byteCell).length) = (List.replicate (64 - (c ++ d).length) 0#8).map byteCell ++ [Value.int .i64 (n : Int)] := by
    rw [List.map_append, List.append_assoc, List.drop_append]
    have : (c.map byteCell).drop (c.length + (d.map byteCell).length) = [] := List.drop_eq_nil_of_le (by simp)
    rw [this, List.nil_append, List.drop_append_of_le_length (by simp; omega)]
    simp
    omega
  rw [e1, e2]
  simp
end Sm
end Go.Proofs
