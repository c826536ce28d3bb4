/-
  The contract of the reference's order.
-/
import Derived.Test.YtdpcgfaknbfmmaaDoorRefA
namespace Go.Proofs
open Go.RowKit Sm
def Sm.nv (l : List Nat) : Array Value := (l.map fun n : Nat => Value.int .i64 (Int.ofNat n)).toArray
theorem Sm.nv_one (l : List Nat) : (nv l).all (·.oneCell') = true := by
  refine all_oneCell_toArray fun v hv => ?_
  simp only [List.mem_map] at hv
  obtain ⟨x, _, rfl⟩ := hv
  rfl
theorem Sm.eqz16 : (#[.int .i64 0, .int .i64 0, .int .i64 0, .int .i64 0, .int .i64 0, .int .i64 0, .int .i64 0, .int .i64 0, .int .i64 0, .int .i64 0, .int .i64 0, .int .i64 0, .int .i64 0, .int .i64 0, .int .i64 0, .int .i64 0] : Array Value) = nv (List.replicate 16 0) := rfl
theorem Sm.i70_0 : (Tryd.prog.info? 0x56).map (·.size) = some (nv (ord 0)).size := by kernel_rfl
set_option maxRecDepth 100000 in
set_option maxHeartbeats 2000000 in
theorem Sm.order_0 (w : World) : Calls Tryd.prog 45 #[.int .i64 0] w fun e w' => e = .returned (.agg (nv (ord 0))) ∧ Below w.heap.size w w' := by
  go_enter Tryd.func45, Tryd.ntmps45
  go_wp2_with (refine wpList_store_row rfl 0x56 _ _ rfl w.heap.size (nv (ord 0)) rfl rfl 0x56 (nv (List.replicate 16 0)) (World.alloc_heap_new w _) i70_0 rfl (nv_one _) ?_)
  rw [eqz16]
  refine bodyPost_ret (results_cell_row rfl _ _ w.heap.size 0x56 (nv (ord 0)) (0, 0) _ rfl (setRow_heap _ _ _ _ _ _ (World.alloc_heap_new w _)) Tryd.underlying86 rfl i70_0) rfl ⟨rfl, ?_⟩
  exact below_setRow ((Below.refl _ w).alloc (Nat.le_refl _) _) (Nat.le_refl _) _
theorem Sm.i70_1 : (Tryd.prog.info? 0x56).map (·.size) = some (nv (ord 1)).size := by kernel_rfl
set_option maxRecDepth 100000 in
set_option maxHeartbeats 2000000 in
theorem Sm.order_1 (w : World) : Calls Tryd.prog 45 #[.int .i64 1] w fun e w' => e = .returned (.agg (nv (ord 1))) ∧ Below w.heap.size w w' := by
  go_enter Tryd.func45, Tryd.ntmps45
  go_wp2_with (refine wpList_store_row rfl 0x56 _ _ rfl w.heap.size (nv (ord 1)) rfl rfl 0x56 (nv (List.replicate 16 0)) (World.alloc_heap_new w _) i70_1 rfl (nv_one _) ?_)
  rw [eqz16]
  refine bodyPost_ret (results_cell_row rfl _ _ w.heap.size 0x56 (nv (ord 1)) (0, 0) _ rfl (setRow_heap _ _ _ _ _ _ (World.alloc_heap_new w _)) Tryd.underlying86 rfl i70_1) rfl ⟨rfl, ?_⟩
  exact below_setRow ((Below.refl _ w).alloc (Nat.le_refl _) _) (Nat.le_refl _) _
theorem Sm.i70_2 : (Tryd.prog.info? 0x56).map (·.size) = some (nv (ord 2)).size := by kernel_rfl
set_option maxRecDepth 100000 in
set_option maxHeartbeats 2000000 in
theorem Sm.order_2 (w : World) : Calls Tryd.prog 45 #[.int .i64 2] w fun e w' => e = .returned (.agg (nv (ord 2))) ∧ Below w.heap.size w w' := by
  go_enter Tryd.func45, Tryd.ntmps45
  go_wp2_with (refine wpList_store_row rfl 0x56 _ _ rfl w.heap.size (nv (ord 2)) rfl rfl 0x56 (nv (List.replicate 16 0)) (World.alloc_heap_new w _) i70_2 rfl (nv_one _) ?_)
  rw [eqz16]
  refine bodyPost_ret (results_cell_row rfl _ _ w.heap.size 0x56 (nv (ord 2)) (0, 0) _ rfl (setRow_heap _ _ _ _ _ _ (World.alloc_heap_new w _)) Tryd.underlying86 rfl i70_2) rfl ⟨rfl, ?_⟩
  exact below_setRow ((Below.refl _ w).alloc (Nat.le_refl _) _) (Nat.le_refl _) _
theorem Sm.i70_3 : (Tryd.prog.info? 0x56).map (·.size) = some (nv (ord 3)).size := by kernel_rfl
set_option maxRecDepth 100000 in
set_option maxHeartbeats 2000000 in
theorem Sm.order_3 (w : World) : Calls Tryd.prog 45 #[.int .i64 3] w fun e w' => e = .returned (.agg (nv (ord 3))) ∧ Below w.heap.size w w' := by
  go_enter Tryd.func45, Tryd.ntmps45
  go_wp2_with (refine wpList_store_row rfl 0x56 _ _ rfl w.heap.size (nv (ord 3)) rfl rfl 0x56 (nv (List.replicate 16 0)) (World.alloc_heap_new w _) i70_3 rfl (nv_one _) ?_)
  rw [eqz16]
  refine bodyPost_ret (results_cell_row rfl _ _ w.heap.size 0x56 (nv (ord 3)) (0, 0) _ rfl (setRow_heap _ _ _ _ _ _ (World.alloc_heap_new w _)) Tryd.underlying86 rfl i70_3) rfl ⟨rfl, ?_⟩
  exact below_setRow ((Below.refl _ w).alloc (Nat.le_refl _) _) (Nat.le_refl _) _
theorem Sm.i70_4 : (Tryd.prog.info? 0x56).map (·.size) = some (nv (ord 4)).size := by kernel_rfl
set_option maxRecDepth 100000 in
set_option maxHeartbeats 2000000 in
theorem Sm.order_4 (w : World) : Calls Tryd.prog 45 #[.int .i64 4] w fun e w' => e = .returned (.agg (nv (ord 4))) ∧ Below w.heap.size w w' := by
  go_enter Tryd.func45, Tryd.ntmps45
  go_wp2_with (refine wpList_store_row rfl 0x56 _ _ rfl w.heap.size (nv (ord 4)) rfl rfl 0x56 (nv (List.replicate 16 0)) (World.alloc_heap_new w _) i70_4 rfl (nv_one _) ?_)
  rw [eqz16]
  refine bodyPost_ret (results_cell_row rfl _ _ w.heap.size 0x56 (nv (ord 4)) (0, 0) _ rfl (setRow_heap _ _ _ _ _ _ (World.alloc_heap_new w _)) Tryd.underlying86 rfl i70_4) rfl ⟨rfl, ?_⟩
  exact below_setRow ((Below.refl _ w).alloc (Nat.le_refl _) _) (Nat.le_refl _) _
theorem Sm.i70_5 : (Tryd.prog.info? 0x56).map (·.size) = some (nv (ord 5)).size := by kernel_rfl
set_option maxRecDepth 100000 in
set_option maxHeartbeats 2000000 in
theorem Sm.order_5 (w : World) : Calls Tryd.prog 45 #[.int .i64 5] w fun e w' => e = .returned (.agg (nv (ord 5))) ∧ Below w.heap.size w w' := by
  go_enter Tryd.func45, Tryd.ntmps45
  go_wp2_with (refine wpList_store_row rfl 0x56 _ _ rfl w.heap.size (nv (ord 5)) rfl rfl 0x56 (nv (List.replicate 16 0)) (World.alloc_heap_new w _) i70_5 rfl (nv_one _) ?_)
  rw [eqz16]
  refine bodyPost_ret (results_cell_row rfl _ _ w.heap.size 0x56 (nv (ord 5)) (0, 0) _ rfl (setRow_heap _ _ _ _ _ _ (World.alloc_heap_new w _)) Tryd.underlying86 rfl i70_5) rfl ⟨rfl, ?_⟩
  exact below_setRow ((Below.refl _ w).alloc (Nat.le_refl _) _) (Nat.le_refl _) _
theorem Sm.i70_6 : (Tryd.prog.info? 0x56).map (·.size) = some (nv (ord 6)).size := by kernel_rfl
set_option maxRecDepth 100000 in
set_option maxHeartbeats 2000000 in
theorem Sm.order_6 (w : World) : Calls Tryd.prog 45 #[.int .i64 6] w fun e w' => e = .returned (.agg (nv (ord 6))) ∧ Below w.heap.size w w' := by
  go_enter Tryd.func45, Tryd.ntmps45
  go_wp2_with (refine wpList_store_row rfl 0x56 _ _ rfl w.heap.size (nv (ord 6)) rfl rfl 0x56 (nv (List.replicate 16 0)) (World.alloc_heap_new w _) i70_6 rfl (nv_one _) ?_)
  rw [eqz16]
  refine bodyPost_ret (results_cell_row rfl _ _ w.heap.size 0x56 (nv (ord 6)) (0, 0) _ rfl (setRow_heap _ _ _ _ _ _ (World.alloc_heap_new w _)) Tryd.underlying86 rfl i70_6) rfl ⟨rfl, ?_⟩
  exact below_setRow ((Below.refl _ w).alloc (Nat.le_refl _) _) (Nat.le_refl _) _
theorem Sm.i70_7 : (Tryd.prog.info? 0x56).map (·.size) = some (nv (ord 7)).size := by kernel_rfl
set_option maxRecDepth 100000 in
set_option maxHeartbeats 2000000 in
theorem Sm.order_7 (w : World) : Calls Tryd.prog 45 #[.int .i64 7] w fun e w' => e = .returned (.agg (nv (ord 7))) ∧ Below w.heap.size w w' := by
  go_enter Tryd.func45, Tryd.ntmps45
  go_wp2_with (refine wpList_store_row rfl 0x56 _ _ rfl w.heap.size (nv (ord 7)) rfl rfl 0x56 (nv (List.replicate 16 0)) (World.alloc_heap_new w _) i70_7 rfl (nv_one _) ?_)
  rw [eqz16]
  refine bodyPost_ret (results_cell_row rfl _ _ w.heap.size 0x56 (nv (ord 7)) (0, 0) _ rfl (setRow_heap _ _ _ _ _ _ (World.alloc_heap_new w _)) Tryd.underlying86 rfl i70_7) rfl ⟨rfl, ?_⟩
  exact below_setRow ((Below.refl _ w).alloc (Nat.le_refl _) _) (Nat.le_refl _) _
theorem Sm.i70_8 : (Tryd.prog.info? 0x56).map (·.size) = some (nv (ord 8)).size := by kernel_rfl
set_option maxRecDepth 100000 in
set_option maxHeartbeats 2000000 in
theorem Sm.order_8 (w : World) : Calls Tryd.prog 45 #[.int .i64 8] w fun e w' => e = .returned (.agg (nv (ord 8))) ∧ Below w.heap.size w w' := by
  go_enter Tryd.func45, Tryd.ntmps45
  go_wp2_with (refine wpList_store_row rfl 0x56 _ _ rfl w.heap.size (nv (ord 8)) rfl rfl 0x56 (nv (List.replicate 16 0)) (World.alloc_heap_new w _) i70_8 rfl (nv_one _) ?_)
  rw [eqz16]
  refine bodyPost_ret (results_cell_row rfl _ _ w.heap.size 0x56 (nv (ord 8)) (0, 0) _ rfl (setRow_heap _ _ _ _ _ _ (World.alloc_heap_new w _)) Tryd.underlying86 rfl i70_8) rfl ⟨rfl, ?_⟩
  exact below_setRow ((Below.refl _ w).alloc (Nat.le_refl _) _) (Nat.le_refl _) _
theorem Sm.i70_9 : (Tryd.prog.info? 0x56).map (·.size) = some (nv (ord 9)).size := by kernel_rfl
set_option maxRecDepth 100000 in
set_option maxHeartbeats 2000000 in
theorem Sm.order_9 (w : World) : Calls Tryd.prog 45 #[.int .i64 9] w fun e w' => e = .returned (.agg (nv (ord 9))) ∧ Below w.heap.size w w' := by
  go_enter Tryd.func45, Tryd.ntmps45
  go_wp2_with (refine wpList_store_row rfl 0x56 _ _ rfl w.heap.size (nv (ord 9)) rfl rfl 0x56 (nv (List.replicate 16 0)) (World.alloc_heap_new w _) i70_9 rfl (nv_one _) ?_)
  rw [eqz16]
  refine bodyPost_ret (results_cell_row rfl _ _ w.heap.size 0x56 (nv (ord 9)) (0, 0) _ rfl (setRow_heap _ _ _ _ _ _ (World.alloc_heap_new w _)) Tryd.underlying86 rfl i70_9) rfl ⟨rfl, ?_⟩
  exact below_setRow ((Below.refl _ w).alloc (Nat.le_refl _) _) (Nat.le_refl _) _
theorem Sm.order_any (n : Nat) (h : n < 10) (w : World) : Calls Tryd.prog 45 #[.int .i64 (n : Int)] w fun e w' => e = .returned (.agg (nv (ord n))) ∧ Below w.heap.size w w' := by
  match n, h with
  | 0, _ => exact order_0 w
  | 1, _ => exact order_1 w
  | 2, _ => exact order_2 w
  | 3, _ => exact order_3 w
  | 4, _ => exact order_4 w
  | 5, _ => exact order_5 w
  | 6, _ => exact order_6 w
  | 7, _ => exact order_7 w
  | 8, _ => exact order_8 w
  | 9, _ => exact order_9 w
end Go.Proofs
