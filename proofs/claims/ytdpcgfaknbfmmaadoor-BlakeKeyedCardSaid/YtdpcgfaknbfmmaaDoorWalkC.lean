/-
  The contract of the reference's Mix: at every four words and two.
-/
import Derived.Deep.QuietTactic
import Derived.BigQuiet
import Derived.Laws.CopyOwn
import Derived.Deep.CutRange
import Derived.Test.YtdpcgfaknbfmmaaDoorWalkA
namespace Go.Proofs
open Go.RowKit Sm
theorem Sm.row4_set' {w : World} {g : Nat} {t : TypeId} {a0 a1 a2 a3 : Value} (v0 v1 v2 v3 : Value) (h : w.heap[g]? = some (.cells #[a0, a1, a2, a3] t (0, 0))) :
    ((((w.setCell ⟨g, 0, none⟩ v0).setCell ⟨g, 1, none⟩ v1).setCell ⟨g, 2, none⟩ v2).setCell ⟨g, 3, none⟩ v3).heap[g]? = some (.cells #[v0, v1, v2, v3] t (0, 0)) :=
  heap_setCell_same _ _ _ _ _ _ (heap_setCell_same _ _ _ _ _ _ (heap_setCell_same _ _ _ _ _ _ (heap_setCell_same _ _ _ _ _ _ h)))
theorem Sm.turned16 (x : BitVec 32) (w : World) : Calls Tryd.prog 61 #[.int .u32 (iv x), .int .i64 16] w fun e w' => e = .returned (.int .u32 (iv (rotN 16 x))) ∧ w = w' := turned_any x 16 (by decide) w
theorem Sm.turned12 (x : BitVec 32) (w : World) : Calls Tryd.prog 61 #[.int .u32 (iv x), .int .i64 12] w fun e w' => e = .returned (.int .u32 (iv (rotN 12 x))) ∧ w = w' := turned_any x 12 (by decide) w
theorem Sm.turned8 (x : BitVec 32) (w : World) : Calls Tryd.prog 61 #[.int .u32 (iv x), .int .i64 8] w fun e w' => e = .returned (.int .u32 (iv (rotN 8 x))) ∧ w = w' := turned_any x 8 (by decide) w
theorem Sm.turned7 (x : BitVec 32) (w : World) : Calls Tryd.prog 61 #[.int .u32 (iv x), .int .i64 7] w fun e w' => e = .returned (.int .u32 (iv (rotN 7 x))) ∧ w = w' := turned_any x 7 (by decide) w
def Sm.d1 (q : Q4) (x : BitVec 32) (f : Nat) : BitVec 32 := rotN f (q.d ^^^ (q.a + (q.b + x)))
set_option maxRecDepth 100000 in
set_option maxHeartbeats 2000000 in
theorem Sm.refMix_any (q : Q4) (x y : BitVec 32) (w : World) : Calls Tryd.prog 47 #[.agg q.cells, .int .u32 (iv x), .int .u32 (iv y)] w fun e w' => e = .returned (.agg (mixS q x y).cells) ∧ Below w.heap.size w w' := by
  obtain ⟨p, hp⟩ : ∃ p, halfS q x 16 12 = p := ⟨_, rfl⟩
  obtain ⟨r, hr⟩ : ∃ r, halfS p y 8 7 = r := ⟨_, rfl⟩
  have hm : mixS q x y = r := by unfold mixS; rw [hp, hr]
  have e1 := iv_add_wrap q.a q.b
  have e2 : IntKind.u32.wrap (iv (q.a + q.b) + iv x) = iv p.a := by rw [iv_add_wrap, BitVec.add_assoc, ← hp]; rfl
  have e3 := bits_xor q.d p.a
  have e4 : iv (rotN 16 (q.d ^^^ p.a)) = iv p.d := by rw [← hp]; rfl
  have e5 : IntKind.u32.wrap (iv q.c + iv p.d) = iv p.c := by rw [iv_add_wrap, ← hp]; rfl
  have e6 := bits_xor q.b p.c
  have e7 : iv (rotN 12 (q.b ^^^ p.c)) = iv p.b := by rw [← hp]; rfl
  have g1 := iv_add_wrap p.a p.b
  have g2 : IntKind.u32.wrap (iv (p.a + p.b) + iv y) = iv r.a := by rw [iv_add_wrap, BitVec.add_assoc, ← hr]; rfl
  have g3 := bits_xor p.d r.a
  have g4 : iv (rotN 8 (p.d ^^^ r.a)) = iv r.d := by rw [← hr]; rfl
  have g5 : IntKind.u32.wrap (iv p.c + iv r.d) = iv r.c := by rw [iv_add_wrap, ← hr]; rfl
  have g6 := bits_xor p.b r.c
  have g7 : iv (rotN 7 (p.b ^^^ r.c)) = iv r.b := by rw [← hr]; rfl
  rw [hm]
  clear hm hp hr
  unfold Q4.cells
  go_enter Tryd.func47, Tryd.ntmps47
  go_wp2
  go_quiet (fail)
  obtain ⟨W1, hW1⟩ : ∃ W1, ((w.alloc (.cells #[.int .u32 (iv q.a), .int .u32 (iv q.b), .int .u32 (iv q.c), .int .u32 (iv q.d)] 0x5a)).alloc (.cells #[.int .u32 0, .int .u32 0, .int .u32 0, .int .u32 0] 0x5a)).drewN nq = W1 := ⟨_, rfl⟩
  have hb0 : Below w.heap.size w W1 := by
    have := ((Below.refl _ w).alloc (Nat.le_refl _) (.cells #[.int .u32 (iv q.a), .int .u32 (iv q.b), .int .u32 (iv q.c), .int .u32 (iv q.d)] 0x5a)).alloc (by simp) (.cells #[.int .u32 0, .int .u32 0, .int .u32 0, .int .u32 0] 0x5a)
    rw [← hW1]
    exact ⟨this.os, this.tape, this.output, this.size, this.block⟩
  have hr0 : W1.heap[w.heap.size + 1]? = some (.cells #[.int .u32 0, .int .u32 0, .int .u32 0, .int .u32 0] 0x5a (0, 0)) := by
    have := World.alloc_heap_new (w.alloc (.cells #[.int .u32 (iv q.a), .int .u32 (iv q.b), .int .u32 (iv q.c), .int .u32 (iv q.d)] 0x5a)) (.cells #[.int .u32 0, .int .u32 0, .int .u32 0, .int .u32 0] 0x5a)
    rw [World.size_alloc] at this
    rw [← hW1]
    exact this
  rw [hW1]
  have r0 := cell_of_row _ _ 0 _ _ _ hr0
  have r1 := cell_of_row _ _ 1 _ _ _ hr0
  have r2 := cell_of_row _ _ 2 _ _ _ hr0
  have r3 := cell_of_row _ _ 3 _ _ _ hr0
  have f0 := frozen_of_row _ _ 0 _ _ hr0
  have f1 := frozen_of_row _ _ 1 _ _ hr0
  have f2 := frozen_of_row _ _ 2 _ _ hr0
  have f3 := frozen_of_row _ _ 3 _ _ hr0
  simp only [List.getElem?_toArray, List.getElem?_cons_zero, List.getElem?_cons_succ] at r0 r1 r2 r3
  have HR0 := Lib.hid hr0
  clear hr0 hW1
  go_wp2_with (first
    | (go_at_call 61; (with_reducible refine (turned16 _ _).mono ?_); rintro e w' ⟨rfl, rfl⟩)
    | (go_at_call 61; (with_reducible refine (turned12 _ _).mono ?_); rintro e w' ⟨rfl, rfl⟩)
    | (go_at_call 61; (with_reducible refine (turned8 _ _).mono ?_); rintro e w' ⟨rfl, rfl⟩)
    | (go_at_call 61; (with_reducible refine (turned7 _ _).mono ?_); rintro e w' ⟨rfl, rfl⟩))
  refine bodyPost_ret (results_cell_row rfl _ _ (w.heap.size + 1) 0x5a _ (0, 0) _ rfl (row4_set' _ _ _ _ HR0.out) Tryd.underlying90 rfl (by kernel_rfl)) rfl ⟨rfl, ?_⟩
  exact (((hb0.setCell (p := ⟨w.heap.size + 1, 0, none⟩) (by simp) _).setCell (p := ⟨w.heap.size + 1, 1, none⟩) (by simp) _).setCell (p := ⟨w.heap.size + 1, 2, none⟩) (by simp) _).setCell (p := ⟨w.heap.size + 1, 3, none⟩) (by simp) _
end Go.Proofs
