/-
  Parts of slices of bytes, and parts in a row of the call itself. No condition.
-/
import Derived.Deep.RegionHeld3
import Derived.Test.YtdpcgfaknbfmmaaDoorWalkO
import Derived.Test.YtdpcgfaknbfmmaaDoorSame
namespace Go.Proofs
open Go.RowKit Sm
/-- where a part of a slice lies -/
def Sm.cutA (A : Option Addr) (lo c : Nat) : Option Addr := if c = lo then A else A.map (·.add lo)
theorem Sm.size5 (w : World) : (sizeOf 5).run Tryd.prog w = .ok 1 w := by kernel_rfl
theorem Sm.elem33 : Tryd.prog.elem 0x1e = 5 := by kernel_rfl
theorem Sm.und33 : Tryd.prog.underlying 0x1e = some (.slice (Tryd.prog.elem 0x1e)) := by rw [elem33]; exact Tryd.underlying30
theorem Sm.cut_h (A : Option Addr) (n c hi : Nat) (hc : hi ≤ c) (w : World) : (Instr.sliceAt 0x1e (.slice A n c) none (some (.int .i64 (hi : Int))) none).run Tryd.prog w = .ok (.slice (cutA A 0 c) hi c) w := by
  rw [run_sliceAt_slice w 0x1e _ _ _ _ und33, run_slice_h w 0x1e A n c und33 .i64 _ (by omega) (by omega), elem33, size5]
  simp [sliced, cutA]
theorem Sm.cut_lh (A : Option Addr) (n c lo hi : Nat) (hl : lo ≤ hi) (hc : hi ≤ c) (w : World) : (Instr.sliceAt 0x1e (.slice A n c) (some (.int .i64 (lo : Int))) (some (.int .i64 (hi : Int))) none).run Tryd.prog w = .ok (.slice (cutA A lo c) (hi - lo) (c - lo)) w := by
  rw [run_sliceAt_slice w 0x1e _ _ _ _ und33, run_slice_lh w 0x1e A n c und33 .i64 .i64 _ _ (by omega) (by omega) (by omega), elem33, size5]
  simp [sliced, cutA]
theorem Sm.cut_l (A : Option Addr) (n c lo : Nat) (hl : lo ≤ n) (w : World) : (Instr.sliceAt 0x1e (.slice A n c) (some (.int .i64 (lo : Int))) none none).run Tryd.prog w = .ok (.slice (cutA A lo c) (n - lo) (c - lo)) w := by
  rw [run_sliceAt_slice w 0x1e _ _ _ _ und33, run_slice_l w 0x1e A n c und33 .i64 _ (by omega) (by omega), elem33, size5]
  simp [sliced, cutA]
theorem Sm.PtOK.cut {w : World} {g n c : Nat} {A : Option Addr} {l : List (BitVec 8)} (h : PtOK w g A n c l) (lo hi : Nat) (hl : lo ≤ hi) (hn : hi ≤ n) : PtOK w g (cutA A lo c) (hi - lo) (c - lo) ((l.take hi).drop lo) := by
  have h1 := h.len
  have h2 := h.room
  have h3 := h.most
  refine ⟨by simp; omega, by omega, by omega, fun h0 => ?_⟩
  simp at h0
  obtain ⟨b, off, rfl, hlt, hns, hcell⟩ := h.rd (by rw [List.length_map]; omega)
  refine ⟨b, off + lo, ?_, hlt, hns, fun j v hj => ?_⟩
  · rw [cutA, if_neg (by omega), Option.map_some, Addr.add_mid]
  · rw [Nat.add_assoc]
    refine hcell (lo + j) v ?_
    rw [List.getElem?_map] at hj ⊢
    rw [List.getElem?_drop, List.getElem?_take] at hj
    split at hj
    · exact hj
    · simp at hj
theorem Sm.pt_of_rd {w : World} {A : Option Addr} {n c : Nat} {l : List (BitVec 8)} (hl : l.length = n) (hn : n ≤ c) (hm : c ≤ 9223372036854775807) (hr : Rd w w.heap.size A l) (g : Nat) (hg : w.heap.size ≤ g) : PtOK w g A n c l := by
  refine ⟨hl, hn, hm, fun h0 => ?_⟩
  obtain ⟨b, off, rfl, hb, hc⟩ := hr (by rw [List.length_map] at h0; exact h0)
  refine ⟨b, off, rfl, hb, by omega, fun j v hj => ?_⟩
  rw [List.getElem?_map] at hj
  obtain ⟨x, hx, rfl⟩ := Option.map_eq_some_iff.1 hj
  exact hc j x hx
theorem Sm.rds_of_rd {w : World} {A : Option Addr} {l : List (BitVec 8)} (hr : Rd w w.heap.size A l) : Rds w (fun _ => False) A (l.map byteCell) := fun h0 => by
  obtain ⟨b, off, rfl, hb, hc⟩ := hr (by rw [List.length_map] at h0; exact h0)
  refine ⟨b, off, rfl, hb, id, fun j v hj => ?_⟩
  rw [List.getElem?_map] at hj
  obtain ⟨x, hx, rfl⟩ := Option.map_eq_some_iff.1 hj
  exact hc j x hx
/-- parts in a row of their own -/
theorem Sm.parts_ok {w w' : World} {N n : Nat} {ps : List Pt} (hrow : Blk w' N 0x1e (ps.map Pt.val).toArray) (hb : Below w.heap.size w w') (hl : ps.length = n) (hm : n ≤ 1000000) (g : Nat) (hg : g ≠ N) (h : ∀ p ∈ ps, PtOK w g p.A p.n p.c p.l) : PsOK w' g (some ⟨N, 0, none⟩) n ps := by
  refine ⟨hl, hm, fun _ => ⟨N, 0, rfl, hrow.lt, fun e => hg e.symm, fun j v hj => ?_⟩, fun p hp => (h p hp).keep hb⟩
  rw [Nat.zero_add, hrow.cell]
  simpa using hj
theorem Sm.row_new (w : World) (ps : List Pt) : Blk (w.alloc (.cells (ps.map Pt.val).toArray 0x1e)) w.heap.size 0x1e (ps.map Pt.val).toArray := World.alloc_heap_new w _
end Go.Proofs
