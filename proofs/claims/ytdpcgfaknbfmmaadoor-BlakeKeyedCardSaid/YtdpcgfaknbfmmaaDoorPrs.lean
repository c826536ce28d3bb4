/-
  What a block presses into a state. No condition.
-/
import Derived.Test.YtdpcgfaknbfmmaaDoorWalkE
namespace Go.Proofs
open Go.RowKit Sm
def Sm.bvs (l : List (BitVec 8)) : Array Value := (l.map byteCell).toArray
theorem Sm.bvs_size (l : List (BitVec 8)) : (bvs l).size = l.length := by simp [bvs]
theorem Sm.bvs_one (l : List (BitVec 8)) : (bvs l).all (·.oneCell') = true := by
  refine all_oneCell_toArray fun v hv => ?_
  simp only [List.mem_map] at hv
  obtain ⟨x, _, rfl⟩ := hv
  rfl
theorem Sm.Blk.byte {w : World} {b : Nat} {t : TypeId} {l : List (BitVec 8)} (h : Blk w b t (bvs l)) {k : Nat} (hk : k < l.length) : w.cell? ⟨b, k, none⟩ = some (.int .u8 (ib (l.getD k 0))) := by
  rw [h.cell]
  simp [bvs, hk, byteCell]
/-- the word at k of a block's bytes -/
def Sm.wordB (B : List (BitVec 8)) (k : Nat) : BitVec 32 := wordF (fun j => B.getD (4 * k + j) 0) 4
def Sm.giv (B : List (BitVec 8)) : Nat → List (BitVec 32)
  | 0 => List.replicate 16 0#32
  | k + 1 => (giv B k).set k (wordB B k)
theorem Sm.giv_length (B : List (BitVec 8)) : ∀ k, (giv B k).length = 16
  | 0 => by simp [giv]
  | k + 1 => by rw [giv, List.length_set, giv_length]
def Sm.vin (H : List (BitVec 32)) : Nat → List (BitVec 32)
  | 0 => List.replicate 16 0#32
  | k + 1 => ((vin H k).set k (H.getD k 0)).set (k + 8) (beginL.getD k 0)
theorem Sm.vin_length (H : List (BitVec 32)) : ∀ k, (vin H k).length = 16
  | 0 => by simp [vin]
  | k + 1 => by rw [vin, List.length_set, List.length_set, vin_length]
def Sm.vlo (n : Nat) (V : List (BitVec 32)) : List (BitVec 32) := V.set 12 (V.getD 12 0 ^^^ BitVec.ofNat 32 n)
def Sm.vhi (n : Nat) (V : List (BitVec 32)) : List (BitVec 32) := V.set 13 (V.getD 13 0 ^^^ BitVec.ofNat 32 (n / 4294967296))
def Sm.vla (V : List (BitVec 32)) : List (BitVec 32) := V.set 14 (~~~ V.getD 14 0)
def Sm.vfl (H : List (BitVec 32)) (n : Nat) (last : Bool) : List (BitVec 32) := if last then vla (vhi n (vlo n (vin H 8))) else vhi n (vlo n (vin H 8))
theorem Sm.vlo_length (n : Nat) (V : List (BitVec 32)) : (vlo n V).length = V.length := List.length_set ..
theorem Sm.vhi_length (n : Nat) (V : List (BitVec 32)) : (vhi n V).length = V.length := List.length_set ..
theorem Sm.vla_length (V : List (BitVec 32)) : (vla V).length = V.length := List.length_set ..
def Sm.fin (H V : List (BitVec 32)) : Nat → List (BitVec 32)
  | 0 => H
  | k + 1 => (fin H V k).set k ((fin H V k).getD k 0 ^^^ (V.getD k 0 ^^^ V.getD (k + 8) 0))
theorem Sm.fin_length (H V : List (BitVec 32)) : ∀ k, (fin H V k).length = H.length
  | 0 => rfl
  | k + 1 => by rw [fin, List.length_set, fin_length]
def Sm.pressS (H : List (BitVec 32)) (B : List (BitVec 8)) (n : Nat) (last : Bool) : List (BitVec 32) := fin H (rounds (vfl H n last) (giv B 16) 10) 8
theorem Sm.vfl_length (H : List (BitVec 32)) (n : Nat) (last : Bool) : (vfl H n last).length = 16 := by
  unfold vfl
  cases last
  · simp [vhi_length, vlo_length, vin_length]
  · simp [vla_length, vhi_length, vlo_length, vin_length]
theorem Sm.pressS_length (H : List (BitVec 32)) (B : List (BitVec 8)) (n : Nat) (last : Bool) : (pressS H B n last).length = H.length := fin_length ..
theorem Sm.z16_eq' : (#[.int .u32 0, .int .u32 0, .int .u32 0, .int .u32 0, .int .u32 0, .int .u32 0, .int .u32 0, .int .u32 0, .int .u32 0, .int .u32 0, .int .u32 0, .int .u32 0, .int .u32 0, .int .u32 0, .int .u32 0, .int .u32 0] : Array Value) = wvs (List.replicate 16 0#32) := rfl
theorem Sm.z8_eq : (#[.int .u32 0, .int .u32 0, .int .u32 0, .int .u32 0, .int .u32 0, .int .u32 0, .int .u32 0, .int .u32 0] : Array Value) = wvs (List.replicate 8 0#32) := rfl
/-- how all stands while a block is pressed -/
structure Sm.PrAt (w wr : World) (H : List (BitVec 32)) (B : List (BitVec 8)) (G V : List (BitVec 32)) : Prop where
  h : Blk wr w.heap.size 0x17 (wvs H)
  b : Blk wr (w.heap.size + 1) 0x18 (bvs B)
  r : Blk wr (w.heap.size + 2) 0x17 (wvs (List.replicate 8 0#32))
  g : Blk wr (w.heap.size + 3) 0x4f (wvs G)
  v : Blk wr (w.heap.size + 4) 0x4f (wvs V)
  below : Below w.heap.size w wr
theorem Sm.PrAt.keep {w wr w' : World} {H G V : List (BitVec 32)} {B : List (BitVec 8)} (h : PrAt w wr H B G V) (hb : Below wr.heap.size wr w') : PrAt w w' H B G V :=
  ⟨h.h.keep hb, h.b.keep hb, h.r.keep hb, h.g.keep hb, h.v.keep hb, h.below.trans (hb.mono h.below.size)⟩
theorem Sm.PrAt.drew {w wr : World} {H G V : List (BitVec 32)} {B : List (BitVec 8)} (h : PrAt w wr H B G V) : PrAt w wr.drew H B G V := ⟨h.h, h.b, h.r, h.g, h.v, h.below.drew⟩
theorem Sm.PrAt.setG {w wr : World} {H G V : List (BitVec 32)} {B : List (BitVec 8)} (h : PrAt w wr H B G V) (k : Nat) (x : BitVec 32) : PrAt w (wr.setCell ⟨w.heap.size + 3, k, none⟩ (.int .u32 (iv x))) H B (G.set k x) V :=
  ⟨h.h.other (by simp) _, h.b.other (by simp) _, h.r.other (by simp) _, h.g.setWord k x, h.v.other (by simp) _, h.below.setCell (p := ⟨w.heap.size + 3, k, none⟩) (by simp) _⟩
theorem Sm.PrAt.setV {w wr : World} {H G V : List (BitVec 32)} {B : List (BitVec 8)} (h : PrAt w wr H B G V) (k : Nat) (x : BitVec 32) : PrAt w (wr.setCell ⟨w.heap.size + 4, k, none⟩ (.int .u32 (iv x))) H B G (V.set k x) :=
  ⟨h.h.other (by simp) _, h.b.other (by simp) _, h.r.other (by simp) _, h.g.other (by simp) _, h.v.setWord k x, h.below.setCell (p := ⟨w.heap.size + 4, k, none⟩) (by simp) _⟩
theorem Sm.PrAt.setH {w wr : World} {H G V : List (BitVec 32)} {B : List (BitVec 8)} (h : PrAt w wr H B G V) (k : Nat) (x : BitVec 32) : PrAt w (wr.setCell ⟨w.heap.size, k, none⟩ (.int .u32 (iv x))) (H.set k x) B G V :=
  ⟨h.h.setWord k x, h.b.other (by simp) _, h.r.other (by simp) _, h.g.other (by simp) _, h.v.other (by simp) _, h.below.setCell (p := ⟨w.heap.size, k, none⟩) (by simp) _⟩
theorem Sm.PrAt.rowV {w wr : World} {H G V : List (BitVec 32)} {B : List (BitVec 8)} (h : PrAt w wr H B G V) (V' : List (BitVec 32)) : PrAt w (wr.setRow (w.heap.size + 4) (wvs V')) H B G V' :=
  ⟨(setRow_other _ _ _ _ (by omega)).trans h.h, (setRow_other _ _ _ _ (by omega)).trans h.b, (setRow_other _ _ _ _ (by omega)).trans h.r, (setRow_other _ _ _ _ (by omega)).trans h.g, setRow_heap _ _ _ _ _ _ h.v, below_setRow h.below (by omega) _⟩
theorem Sm.Blk.newAt {X : World} {N : Nat} (h : X.heap.size = N) (t : TypeId) (cs : Array Value) : Blk (X.alloc (.cells cs t)) N t cs := h ▸ Blk.new X t cs
theorem Sm.slice64 (b lo hi : Nat) (l h : Int) (el : l = lo) (eh : h = hi) (h1 : lo < hi) (h2 : hi ≤ 64) (w : World) :
    (Instr.sliceAt 0x18 (.pointer (some ⟨b, 0, none⟩)) (some (.int .i64 l)) (some (.int .i64 h)) none).run Tryd.prog w = .ok (.slice (some ⟨b, lo, none⟩) (hi - lo) (64 - lo)) w := by
  subst el eh
  have hu : Tryd.prog.underlying 0x18 = some (.array (Tryd.prog.arrayLen 0x18) (Tryd.prog.elem 0x18)) := by kernel_rfl
  have ha : Tryd.prog.arrayLen 0x18 = 64 := by kernel_rfl
  have he : Tryd.prog.elem 0x18 = 5 := by kernel_rfl
  have hs : ∀ w, (sizeOf 5).run Tryd.prog w = .ok 1 w := fun _ => by kernel_rfl
  rw [run_sliceAt_array_lh w 0x18 ⟨b, 0, none⟩ hu .i64 .i64 _ _ (by omega) (by omega) (by rw [ha]; omega), he, hs]
  simp only [Result.andThen_ok, slicedAt, ha, Int.toNat_natCast, Nat.mul_one]
  rw [if_neg (by omega), Addr.add_mid, Nat.zero_add]
end Go.Proofs
