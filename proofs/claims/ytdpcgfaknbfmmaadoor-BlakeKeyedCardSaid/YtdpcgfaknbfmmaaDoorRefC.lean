/-
  The contract of the reference's places.
-/
import Derived.Test.YtdpcgfaknbfmmaaDoorRefB
namespace Go.Proofs
open Go.RowKit Sm
/-- the places of a mixing -/
def Sm.mxR (k : Nat) : List Nat := mxL.getD k []
theorem Sm.eqz4 : (#[.int .i64 0, .int .i64 0, .int .i64 0, .int .i64 0] : Array Value) = nv (List.replicate 4 0) := rfl
theorem Sm.i88_0 : (Tryd.prog.info? 0x58).map (·.size) = some (nv (mxR 0)).size := by kernel_rfl
set_option maxRecDepth 100000 in
set_option maxHeartbeats 2000000 in
theorem Sm.places_0 (w : World) : Calls Tryd.prog 46 #[.int .i64 0] w fun e w' => e = .returned (.agg (nv (mxR 0))) ∧ Below w.heap.size w w' := by
  go_enter Tryd.func46, Tryd.ntmps46
  go_wp2_with (refine wpList_store_row rfl 0x58 _ _ rfl w.heap.size (nv (mxR 0)) rfl rfl 0x58 (nv (List.replicate 4 0)) (World.alloc_heap_new w _) i88_0 rfl (nv_one _) ?_)
  rw [eqz4]
  refine bodyPost_ret (results_cell_row rfl _ _ w.heap.size 0x58 (nv (mxR 0)) (0, 0) _ rfl (setRow_heap _ _ _ _ _ _ (World.alloc_heap_new w _)) Tryd.underlying88 rfl i88_0) rfl ⟨rfl, ?_⟩
  exact below_setRow ((Below.refl _ w).alloc (Nat.le_refl _) _) (Nat.le_refl _) _
theorem Sm.i88_1 : (Tryd.prog.info? 0x58).map (·.size) = some (nv (mxR 1)).size := by kernel_rfl
set_option maxRecDepth 100000 in
set_option maxHeartbeats 2000000 in
theorem Sm.places_1 (w : World) : Calls Tryd.prog 46 #[.int .i64 1] w fun e w' => e = .returned (.agg (nv (mxR 1))) ∧ Below w.heap.size w w' := by
  go_enter Tryd.func46, Tryd.ntmps46
  go_wp2_with (refine wpList_store_row rfl 0x58 _ _ rfl w.heap.size (nv (mxR 1)) rfl rfl 0x58 (nv (List.replicate 4 0)) (World.alloc_heap_new w _) i88_1 rfl (nv_one _) ?_)
  rw [eqz4]
  refine bodyPost_ret (results_cell_row rfl _ _ w.heap.size 0x58 (nv (mxR 1)) (0, 0) _ rfl (setRow_heap _ _ _ _ _ _ (World.alloc_heap_new w _)) Tryd.underlying88 rfl i88_1) rfl ⟨rfl, ?_⟩
  exact below_setRow ((Below.refl _ w).alloc (Nat.le_refl _) _) (Nat.le_refl _) _
theorem Sm.i88_2 : (Tryd.prog.info? 0x58).map (·.size) = some (nv (mxR 2)).size := by kernel_rfl
set_option maxRecDepth 100000 in
set_option maxHeartbeats 2000000 in
theorem Sm.places_2 (w : World) : Calls Tryd.prog 46 #[.int .i64 2] w fun e w' => e = .returned (.agg (nv (mxR 2))) ∧ Below w.heap.size w w' := by
  go_enter Tryd.func46, Tryd.ntmps46
  go_wp2_with (refine wpList_store_row rfl 0x58 _ _ rfl w.heap.size (nv (mxR 2)) rfl rfl 0x58 (nv (List.replicate 4 0)) (World.alloc_heap_new w _) i88_2 rfl (nv_one _) ?_)
  rw [eqz4]
  refine bodyPost_ret (results_cell_row rfl _ _ w.heap.size 0x58 (nv (mxR 2)) (0, 0) _ rfl (setRow_heap _ _ _ _ _ _ (World.alloc_heap_new w _)) Tryd.underlying88 rfl i88_2) rfl ⟨rfl, ?_⟩
  exact below_setRow ((Below.refl _ w).alloc (Nat.le_refl _) _) (Nat.le_refl _) _
theorem Sm.i88_3 : (Tryd.prog.info? 0x58).map (·.size) = some (nv (mxR 3)).size := by kernel_rfl
set_option maxRecDepth 100000 in
set_option maxHeartbeats 2000000 in
theorem Sm.places_3 (w : World) : Calls Tryd.prog 46 #[.int .i64 3] w fun e w' => e = .returned (.agg (nv (mxR 3))) ∧ Below w.heap.size w w' := by
  go_enter Tryd.func46, Tryd.ntmps46
  go_wp2_with (refine wpList_store_row rfl 0x58 _ _ rfl w.heap.size (nv (mxR 3)) rfl rfl 0x58 (nv (List.replicate 4 0)) (World.alloc_heap_new w _) i88_3 rfl (nv_one _) ?_)
  rw [eqz4]
  refine bodyPost_ret (results_cell_row rfl _ _ w.heap.size 0x58 (nv (mxR 3)) (0, 0) _ rfl (setRow_heap _ _ _ _ _ _ (World.alloc_heap_new w _)) Tryd.underlying88 rfl i88_3) rfl ⟨rfl, ?_⟩
  exact below_setRow ((Below.refl _ w).alloc (Nat.le_refl _) _) (Nat.le_refl _) _
theorem Sm.i88_4 : (Tryd.prog.info? 0x58).map (·.size) = some (nv (mxR 4)).size := by kernel_rfl
set_option maxRecDepth 100000 in
set_option maxHeartbeats 2000000 in
theorem Sm.places_4 (w : World) : Calls Tryd.prog 46 #[.int .i64 4] w fun e w' => e = .returned (.agg (nv (mxR 4))) ∧ Below w.heap.size w w' := by
  go_enter Tryd.func46, Tryd.ntmps46
  go_wp2_with (refine wpList_store_row rfl 0x58 _ _ rfl w.heap.size (nv (mxR 4)) rfl rfl 0x58 (nv (List.replicate 4 0)) (World.alloc_heap_new w _) i88_4 rfl (nv_one _) ?_)
  rw [eqz4]
  refine bodyPost_ret (results_cell_row rfl _ _ w.heap.size 0x58 (nv (mxR 4)) (0, 0) _ rfl (setRow_heap _ _ _ _ _ _ (World.alloc_heap_new w _)) Tryd.underlying88 rfl i88_4) rfl ⟨rfl, ?_⟩
  exact below_setRow ((Below.refl _ w).alloc (Nat.le_refl _) _) (Nat.le_refl _) _
theorem Sm.i88_5 : (Tryd.prog.info? 0x58).map (·.size) = some (nv (mxR 5)).size := by kernel_rfl
set_option maxRecDepth 100000 in
set_option maxHeartbeats 2000000 in
theorem Sm.places_5 (w : World) : Calls Tryd.prog 46 #[.int .i64 5] w fun e w' => e = .returned (.agg (nv (mxR 5))) ∧ Below w.heap.size w w' := by
  go_enter Tryd.func46, Tryd.ntmps46
  go_wp2_with (refine wpList_store_row rfl 0x58 _ _ rfl w.heap.size (nv (mxR 5)) rfl rfl 0x58 (nv (List.replicate 4 0)) (World.alloc_heap_new w _) i88_5 rfl (nv_one _) ?_)
  rw [eqz4]
  refine bodyPost_ret (results_cell_row rfl _ _ w.heap.size 0x58 (nv (mxR 5)) (0, 0) _ rfl (setRow_heap _ _ _ _ _ _ (World.alloc_heap_new w _)) Tryd.underlying88 rfl i88_5) rfl ⟨rfl, ?_⟩
  exact below_setRow ((Below.refl _ w).alloc (Nat.le_refl _) _) (Nat.le_refl _) _
theorem Sm.i88_6 : (Tryd.prog.info? 0x58).map (·.size) = some (nv (mxR 6)).size := by kernel_rfl
set_option maxRecDepth 100000 in
set_option maxHeartbeats 2000000 in
theorem Sm.places_6 (w : World) : Calls Tryd.prog 46 #[.int .i64 6] w fun e w' => e = .returned (.agg (nv (mxR 6))) ∧ Below w.heap.size w w' := by
  go_enter Tryd.func46, Tryd.ntmps46
  go_wp2_with (refine wpList_store_row rfl 0x58 _ _ rfl w.heap.size (nv (mxR 6)) rfl rfl 0x58 (nv (List.replicate 4 0)) (World.alloc_heap_new w _) i88_6 rfl (nv_one _) ?_)
  rw [eqz4]
  refine bodyPost_ret (results_cell_row rfl _ _ w.heap.size 0x58 (nv (mxR 6)) (0, 0) _ rfl (setRow_heap _ _ _ _ _ _ (World.alloc_heap_new w _)) Tryd.underlying88 rfl i88_6) rfl ⟨rfl, ?_⟩
  exact below_setRow ((Below.refl _ w).alloc (Nat.le_refl _) _) (Nat.le_refl _) _
theorem Sm.i88_7 : (Tryd.prog.info? 0x58).map (·.size) = some (nv (mxR 7)).size := by kernel_rfl
set_option maxRecDepth 100000 in
set_option maxHeartbeats 2000000 in
theorem Sm.places_7 (w : World) : Calls Tryd.prog 46 #[.int .i64 7] w fun e w' => e = .returned (.agg (nv (mxR 7))) ∧ Below w.heap.size w w' := by
  go_enter Tryd.func46, Tryd.ntmps46
  go_wp2_with (refine wpList_store_row rfl 0x58 _ _ rfl w.heap.size (nv (mxR 7)) rfl rfl 0x58 (nv (List.replicate 4 0)) (World.alloc_heap_new w _) i88_7 rfl (nv_one _) ?_)
  rw [eqz4]
  refine bodyPost_ret (results_cell_row rfl _ _ w.heap.size 0x58 (nv (mxR 7)) (0, 0) _ rfl (setRow_heap _ _ _ _ _ _ (World.alloc_heap_new w _)) Tryd.underlying88 rfl i88_7) rfl ⟨rfl, ?_⟩
  exact below_setRow ((Below.refl _ w).alloc (Nat.le_refl _) _) (Nat.le_refl _) _
theorem Sm.places_any (n : Nat) (h : n < 8) (w : World) : Calls Tryd.prog 46 #[.int .i64 (n : Int)] w fun e w' => e = .returned (.agg (nv (mxR n))) ∧ Below w.heap.size w w' := by
  match n, h with
  | 0, _ => exact places_0 w
  | 1, _ => exact places_1 w
  | 2, _ => exact places_2 w
  | 3, _ => exact places_3 w
  | 4, _ => exact places_4 w
  | 5, _ => exact places_5 w
  | 6, _ => exact places_6 w
  | 7, _ => exact places_7 w
end Go.Proofs
