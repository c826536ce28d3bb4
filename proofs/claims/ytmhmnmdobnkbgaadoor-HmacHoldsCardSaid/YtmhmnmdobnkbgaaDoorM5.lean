/-
  The contract of the reference's first words.
  The contract of the reference's order.
  The contract of the reference's places.
  What the walk of the reference's Press wants: words out of four bytes as sums; how all stands. No condition.
-/
import Derived.Test.YtmhmnmdobnkbgaaDoorM3
import Derived.Test.YtmhmnmdobnkbgaaDoorM4
namespace Go.Proofs
open Go.RowKit Sm
theorem Sm.i27b : (Tryd.prog.info? 0x6f).map (·.size) = some (wvs beginL).size := by kernel_rfl
set_option maxRecDepth 100000 in
set_option maxHeartbeats 2000000 in
theorem Sm.first_any (w : World) : Calls Tryd.prog 105 #[] w fun e w' => e = .returned (.agg (wvs beginL)) ∧ Below w.heap.size w w' := by
  go_enter Tryd.func105, Tryd.ntmps105
  go_wp2_with (refine wpList_store_row rfl 0x6f _ _ rfl w.heap.size (wvs beginL) rfl rfl 0x6f (wvs (List.replicate 8 0#32)) (World.alloc_heap_new w _) i27b rfl (wvs_one beginL) ?_)
  rw [z8_eq]
  refine bodyPost_ret (results_cell_row rfl _ _ w.heap.size 0x6f (wvs beginL) (0, 0) _ rfl (setRow_heap _ _ _ _ _ _ (World.alloc_heap_new w _)) Tryd.underlying111 rfl i27b) rfl ⟨rfl, ?_⟩
  exact below_setRow ((Below.refl _ w).alloc (Nat.le_refl _) _) (Nat.le_refl _) _
end Go.Proofs
namespace Go.Proofs
open Go.RowKit Sm
def Sm.nv (l : List Nat) : Array Value := (l.map fun n : Nat => Value.int .i64 (Int.ofNat n)).toArray
theorem Sm.nv_one (l : List Nat) : (nv l).all (·.oneCell') = true := by
  refine all_oneCell_toArray fun v hv => ?_
  simp only [List.mem_map] at hv
  obtain ⟨x, _, rfl⟩ := hv
  rfl
theorem Sm.eqz16 : (#[.int .i64 0, .int .i64 0, .int .i64 0, .int .i64 0, .int .i64 0, .int .i64 0, .int .i64 0, .int .i64 0, .int .i64 0, .int .i64 0, .int .i64 0, .int .i64 0, .int .i64 0, .int .i64 0, .int .i64 0, .int .i64 0] : Array Value) = nv (List.replicate 16 0) := rfl
theorem Sm.i70_0 : (Tryd.prog.info? 0xa6).map (·.size) = some (nv (ord 0)).size := by kernel_rfl
set_option maxRecDepth 100000 in
set_option maxHeartbeats 2000000 in
theorem Sm.order_0 (w : World) : Calls Tryd.prog 112 #[.int .i64 0] w fun e w' => e = .returned (.agg (nv (ord 0))) ∧ Below w.heap.size w w' := by
  go_enter Tryd.func112, Tryd.ntmps112
  go_wp2_with (refine wpList_store_row rfl 0xa6 _ _ rfl w.heap.size (nv (ord 0)) rfl rfl 0xa6 (nv (List.replicate 16 0)) (World.alloc_heap_new w _) i70_0 rfl (nv_one _) ?_)
  rw [eqz16]
  refine bodyPost_ret (results_cell_row rfl _ _ w.heap.size 0xa6 (nv (ord 0)) (0, 0) _ rfl (setRow_heap _ _ _ _ _ _ (World.alloc_heap_new w _)) Tryd.underlying166 rfl i70_0) rfl ⟨rfl, ?_⟩
  exact below_setRow ((Below.refl _ w).alloc (Nat.le_refl _) _) (Nat.le_refl _) _
theorem Sm.i70_1 : (Tryd.prog.info? 0xa6).map (·.size) = some (nv (ord 1)).size := by kernel_rfl
set_option maxRecDepth 100000 in
set_option maxHeartbeats 2000000 in
theorem Sm.order_1 (w : World) : Calls Tryd.prog 112 #[.int .i64 1] w fun e w' => e = .returned (.agg (nv (ord 1))) ∧ Below w.heap.size w w' := by
  go_enter Tryd.func112, Tryd.ntmps112
  go_wp2_with (refine wpList_store_row rfl 0xa6 _ _ rfl w.heap.size (nv (ord 1)) rfl rfl 0xa6 (nv (List.replicate 16 0)) (World.alloc_heap_new w _) i70_1 rfl (nv_one _) ?_)
  rw [eqz16]
  refine bodyPost_ret (results_cell_row rfl _ _ w.heap.size 0xa6 (nv (ord 1)) (0, 0) _ rfl (setRow_heap _ _ _ _ _ _ (World.alloc_heap_new w _)) Tryd.underlying166 rfl i70_1) rfl ⟨rfl, ?_⟩
  exact below_setRow ((Below.refl _ w).alloc (Nat.le_refl _) _) (Nat.le_refl _) _
theorem Sm.i70_2 : (Tryd.prog.info? 0xa6).map (·.size) = some (nv (ord 2)).size := by kernel_rfl
set_option maxRecDepth 100000 in
set_option maxHeartbeats 2000000 in
theorem Sm.order_2 (w : World) : Calls Tryd.prog 112 #[.int .i64 2] w fun e w' => e = .returned (.agg (nv (ord 2))) ∧ Below w.heap.size w w' := by
  go_enter Tryd.func112, Tryd.ntmps112
  go_wp2_with (refine wpList_store_row rfl 0xa6 _ _ rfl w.heap.size (nv (ord 2)) rfl rfl 0xa6 (nv (List.replicate 16 0)) (World.alloc_heap_new w _) i70_2 rfl (nv_one _) ?_)
  rw [eqz16]
  refine bodyPost_ret (results_cell_row rfl _ _ w.heap.size 0xa6 (nv (ord 2)) (0, 0) _ rfl (setRow_heap _ _ _ _ _ _ (World.alloc_heap_new w _)) Tryd.underlying166 rfl i70_2) rfl ⟨rfl, ?_⟩
  exact below_setRow ((Below.refl _ w).alloc (Nat.le_refl _) _) (Nat.le_refl _) _
theorem Sm.i70_3 : (Tryd.prog.info? 0xa6).map (·.size) = some (nv (ord 3)).size := by kernel_rfl
set_option maxRecDepth 100000 in
set_option maxHeartbeats 2000000 in
theorem Sm.order_3 (w : World) : Calls Tryd.prog 112 #[.int .i64 3] w fun e w' => e = .returned (.agg (nv (ord 3))) ∧ Below w.heap.size w w' := by
  go_enter Tryd.func112, Tryd.ntmps112
  go_wp2_with (refine wpList_store_row rfl 0xa6 _ _ rfl w.heap.size (nv (ord 3)) rfl rfl 0xa6 (nv (List.replicate 16 0)) (World.alloc_heap_new w _) i70_3 rfl (nv_one _) ?_)
  rw [eqz16]
  refine bodyPost_ret (results_cell_row rfl _ _ w.heap.size 0xa6 (nv (ord 3)) (0, 0) _ rfl (setRow_heap _ _ _ _ _ _ (World.alloc_heap_new w _)) Tryd.underlying166 rfl i70_3) rfl ⟨rfl, ?_⟩
  exact below_setRow ((Below.refl _ w).alloc (Nat.le_refl _) _) (Nat.le_refl _) _
theorem Sm.i70_4 : (Tryd.prog.info? 0xa6).map (·.size) = some (nv (ord 4)).size := by kernel_rfl
set_option maxRecDepth 100000 in
set_option maxHeartbeats 2000000 in
theorem Sm.order_4 (w : World) : Calls Tryd.prog 112 #[.int .i64 4] w fun e w' => e = .returned (.agg (nv (ord 4))) ∧ Below w.heap.size w w' := by
  go_enter Tryd.func112, Tryd.ntmps112
  go_wp2_with (refine wpList_store_row rfl 0xa6 _ _ rfl w.heap.size (nv (ord 4)) rfl rfl 0xa6 (nv (List.replicate 16 0)) (World.alloc_heap_new w _) i70_4 rfl (nv_one _) ?_)
  rw [eqz16]
  refine bodyPost_ret (results_cell_row rfl _ _ w.heap.size 0xa6 (nv (ord 4)) (0, 0) _ rfl (setRow_heap _ _ _ _ _ _ (World.alloc_heap_new w _)) Tryd.underlying166 rfl i70_4) rfl ⟨rfl, ?_⟩
  exact below_setRow ((Below.refl _ w).alloc (Nat.le_refl _) _) (Nat.le_refl _) _
theorem Sm.i70_5 : (Tryd.prog.info? 0xa6).map (·.size) = some (nv (ord 5)).size := by kernel_rfl
set_option maxRecDepth 100000 in
set_option maxHeartbeats 2000000 in
theorem Sm.order_5 (w : World) : Calls Tryd.prog 112 #[.int .i64 5] w fun e w' => e = .returned (.agg (nv (ord 5))) ∧ Below w.heap.size w w' := by
  go_enter Tryd.func112, Tryd.ntmps112
  go_wp2_with (refine wpList_store_row rfl 0xa6 _ _ rfl w.heap.size (nv (ord 5)) rfl rfl 0xa6 (nv (List.replicate 16 0)) (World.alloc_heap_new w _) i70_5 rfl (nv_one _) ?_)
  rw [eqz16]
  refine bodyPost_ret (results_cell_row rfl _ _ w.heap.size 0xa6 (nv (ord 5)) (0, 0) _ rfl (setRow_heap _ _ _ _ _ _ (World.alloc_heap_new w _)) Tryd.underlying166 rfl i70_5) rfl ⟨rfl, ?_⟩
  exact below_setRow ((Below.refl _ w).alloc (Nat.le_refl _) _) (Nat.le_refl _) _
theorem Sm.i70_6 : (Tryd.prog.info? 0xa6).map (·.size) = some (nv (ord 6)).size := by kernel_rfl
set_option maxRecDepth 100000 in
set_option maxHeartbeats 2000000 in
theorem Sm.order_6 (w : World) : Calls Tryd.prog 112 #[.int .i64 6] w fun e w' => e = .returned (.agg (nv (ord 6))) ∧ Below w.heap.size w w' := by
  go_enter Tryd.func112, Tryd.ntmps112
  go_wp2_with (refine wpList_store_row rfl 0xa6 _ _ rfl w.heap.size (nv (ord 6)) rfl rfl 0xa6 (nv (List.replicate 16 0)) (World.alloc_heap_new w _) i70_6 rfl (nv_one _) ?_)
  rw [eqz16]
  refine bodyPost_ret (results_cell_row rfl _ _ w.heap.size 0xa6 (nv (ord 6)) (0, 0) _ rfl (setRow_heap _ _ _ _ _ _ (World.alloc_heap_new w _)) Tryd.underlying166 rfl i70_6) rfl ⟨rfl, ?_⟩
  exact below_setRow ((Below.refl _ w).alloc (Nat.le_refl _) _) (Nat.le_refl _) _
theorem Sm.i70_7 : (Tryd.prog.info? 0xa6).map (·.size) = some (nv (ord 7)).size := by kernel_rfl
set_option maxRecDepth 100000 in
set_option maxHeartbeats 2000000 in
theorem Sm.order_7 (w : World) : Calls Tryd.prog 112 #[.int .i64 7] w fun e w' => e = .returned (.agg (nv (ord 7))) ∧ Below w.heap.size w w' := by
  go_enter Tryd.func112, Tryd.ntmps112
  go_wp2_with (refine wpList_store_row rfl 0xa6 _ _ rfl w.heap.size (nv (ord 7)) rfl rfl 0xa6 (nv (List.replicate 16 0)) (World.alloc_heap_new w _) i70_7 rfl (nv_one _) ?_)
  rw [eqz16]
  refine bodyPost_ret (results_cell_row rfl _ _ w.heap.size 0xa6 (nv (ord 7)) (0, 0) _ rfl (setRow_heap _ _ _ _ _ _ (World.alloc_heap_new w _)) Tryd.underlying166 rfl i70_7) rfl ⟨rfl, ?_⟩
  exact below_setRow ((Below.refl _ w).alloc (Nat.le_refl _) _) (Nat.le_refl _) _
theorem Sm.i70_8 : (Tryd.prog.info? 0xa6).map (·.size) = some (nv (ord 8)).size := by kernel_rfl
set_option maxRecDepth 100000 in
set_option maxHeartbeats 2000000 in
theorem Sm.order_8 (w : World) : Calls Tryd.prog 112 #[.int .i64 8] w fun e w' => e = .returned (.agg (nv (ord 8))) ∧ Below w.heap.size w w' := by
  go_enter Tryd.func112, Tryd.ntmps112
  go_wp2_with (refine wpList_store_row rfl 0xa6 _ _ rfl w.heap.size (nv (ord 8)) rfl rfl 0xa6 (nv (List.replicate 16 0)) (World.alloc_heap_new w _) i70_8 rfl (nv_one _) ?_)
  rw [eqz16]
  refine bodyPost_ret (results_cell_row rfl _ _ w.heap.size 0xa6 (nv (ord 8)) (0, 0) _ rfl (setRow_heap _ _ _ _ _ _ (World.alloc_heap_new w _)) Tryd.underlying166 rfl i70_8) rfl ⟨rfl, ?_⟩
  exact below_setRow ((Below.refl _ w).alloc (Nat.le_refl _) _) (Nat.le_refl _) _
theorem Sm.i70_9 : (Tryd.prog.info? 0xa6).map (·.size) = some (nv (ord 9)).size := by kernel_rfl
set_option maxRecDepth 100000 in
set_option maxHeartbeats 2000000 in
theorem Sm.order_9 (w : World) : Calls Tryd.prog 112 #[.int .i64 9] w fun e w' => e = .returned (.agg (nv (ord 9))) ∧ Below w.heap.size w w' := by
  go_enter Tryd.func112, Tryd.ntmps112
  go_wp2_with (refine wpList_store_row rfl 0xa6 _ _ rfl w.heap.size (nv (ord 9)) rfl rfl 0xa6 (nv (List.replicate 16 0)) (World.alloc_heap_new w _) i70_9 rfl (nv_one _) ?_)
  rw [eqz16]
  refine bodyPost_ret (results_cell_row rfl _ _ w.heap.size 0xa6 (nv (ord 9)) (0, 0) _ rfl (setRow_heap _ _ _ _ _ _ (World.alloc_heap_new w _)) Tryd.underlying166 rfl i70_9) rfl ⟨rfl, ?_⟩
  exact below_setRow ((Below.refl _ w).alloc (Nat.le_refl _) _) (Nat.le_refl _) _
theorem Sm.order_any (n : Nat) (h : n < 10) (w : World) : Calls Tryd.prog 112 #[.int .i64 (n : Int)] w fun e w' => e = .returned (.agg (nv (ord n))) ∧ Below w.heap.size w w' := by
  match n, h with
  | 0, _ => exact order_0 w
  | 1, _ => exact order_1 w
  | 2, _ => exact order_2 w
  | 3, _ => exact order_3 w
  | 4, _ => exact order_4 w
  | 5, _ => exact order_5 w
  | 6, _ => exact order_6 w
  | 7, _ => exact order_7 w
  | 8, _ => exact order_8 w
  | 9, _ => exact order_9 w
end Go.Proofs
namespace Go.Proofs
open Go.RowKit Sm
/-- the places of a mixing -/
def Sm.mxR (k : Nat) : List Nat := mxL.getD k []
theorem Sm.eqz4 : (#[.int .i64 0, .int .i64 0, .int .i64 0, .int .i64 0] : Array Value) = nv (List.replicate 4 0) := rfl
theorem Sm.i88_0 : (Tryd.prog.info? 0xa8).map (·.size) = some (nv (mxR 0)).size := by kernel_rfl
set_option maxRecDepth 100000 in
set_option maxHeartbeats 2000000 in
theorem Sm.places_0 (w : World) : Calls Tryd.prog 113 #[.int .i64 0] w fun e w' => e = .returned (.agg (nv (mxR 0))) ∧ Below w.heap.size w w' := by
  go_enter Tryd.func113, Tryd.ntmps113
  go_wp2_with (refine wpList_store_row rfl 0xa8 _ _ rfl w.heap.size (nv (mxR 0)) rfl rfl 0xa8 (nv (List.replicate 4 0)) (World.alloc_heap_new w _) i88_0 rfl (nv_one _) ?_)
  rw [eqz4]
  refine bodyPost_ret (results_cell_row rfl _ _ w.heap.size 0xa8 (nv (mxR 0)) (0, 0) _ rfl (setRow_heap _ _ _ _ _ _ (World.alloc_heap_new w _)) Tryd.underlying168 rfl i88_0) rfl ⟨rfl, ?_⟩
  exact below_setRow ((Below.refl _ w).alloc (Nat.le_refl _) _) (Nat.le_refl _) _
theorem Sm.i88_1 : (Tryd.prog.info? 0xa8).map (·.size) = some (nv (mxR 1)).size := by kernel_rfl
set_option maxRecDepth 100000 in
set_option maxHeartbeats 2000000 in
theorem Sm.places_1 (w : World) : Calls Tryd.prog 113 #[.int .i64 1] w fun e w' => e = .returned (.agg (nv (mxR 1))) ∧ Below w.heap.size w w' := by
  go_enter Tryd.func113, Tryd.ntmps113
  go_wp2_with (refine wpList_store_row rfl 0xa8 _ _ rfl w.heap.size (nv (mxR 1)) rfl rfl 0xa8 (nv (List.replicate 4 0)) (World.alloc_heap_new w _) i88_1 rfl (nv_one _) ?_)
  rw [eqz4]
  refine bodyPost_ret (results_cell_row rfl _ _ w.heap.size 0xa8 (nv (mxR 1)) (0, 0) _ rfl (setRow_heap _ _ _ _ _ _ (World.alloc_heap_new w _)) Tryd.underlying168 rfl i88_1) rfl ⟨rfl, ?_⟩
  exact below_setRow ((Below.refl _ w).alloc (Nat.le_refl _) _) (Nat.le_refl _) _
theorem Sm.i88_2 : (Tryd.prog.info? 0xa8).map (·.size) = some (nv (mxR 2)).size := by kernel_rfl
set_option maxRecDepth 100000 in
set_option maxHeartbeats 2000000 in
theorem Sm.places_2 (w : World) : Calls Tryd.prog 113 #[.int .i64 2] w fun e w' => e = .returned (.agg (nv (mxR 2))) ∧ Below w.heap.size w w' := by
  go_enter Tryd.func113, Tryd.ntmps113
  go_wp2_with (refine wpList_store_row rfl 0xa8 _ _ rfl w.heap.size (nv (mxR 2)) rfl rfl 0xa8 (nv (List.replicate 4 0)) (World.alloc_heap_new w _) i88_2 rfl (nv_one _) ?_)
  rw [eqz4]
  refine bodyPost_ret (results_cell_row rfl _ _ w.heap.size 0xa8 (nv (mxR 2)) (0, 0) _ rfl (setRow_heap _ _ _ _ _ _ (World.alloc_heap_new w _)) Tryd.underlying168 rfl i88_2) rfl ⟨rfl, ?_⟩
  exact below_setRow ((Below.refl _ w).alloc (Nat.le_refl _) _) (Nat.le_refl _) _
theorem Sm.i88_3 : (Tryd.prog.info? 0xa8).map (·.size) = some (nv (mxR 3)).size := by kernel_rfl
set_option maxRecDepth 100000 in
set_option maxHeartbeats 2000000 in
theorem Sm.places_3 (w : World) : Calls Tryd.prog 113 #[.int .i64 3] w fun e w' => e = .returned (.agg (nv (mxR 3))) ∧ Below w.heap.size w w' := by
  go_enter Tryd.func113, Tryd.ntmps113
  go_wp2_with (refine wpList_store_row rfl 0xa8 _ _ rfl w.heap.size (nv (mxR 3)) rfl rfl 0xa8 (nv (List.replicate 4 0)) (World.alloc_heap_new w _) i88_3 rfl (nv_one _) ?_)
  rw [eqz4]
  refine bodyPost_ret (results_cell_row rfl _ _ w.heap.size 0xa8 (nv (mxR 3)) (0, 0) _ rfl (setRow_heap _ _ _ _ _ _ (World.alloc_heap_new w _)) Tryd.underlying168 rfl i88_3) rfl ⟨rfl, ?_⟩
  exact below_setRow ((Below.refl _ w).alloc (Nat.le_refl _) _) (Nat.le_refl _) _
theorem Sm.i88_4 : (Tryd.prog.info? 0xa8).map (·.size) = some (nv (mxR 4)).size := by kernel_rfl
set_option maxRecDepth 100000 in
set_option maxHeartbeats 2000000 in
theorem Sm.places_4 (w : World) : Calls Tryd.prog 113 #[.int .i64 4] w fun e w' => e = .returned (.agg (nv (mxR 4))) ∧ Below w.heap.size w w' := by
  go_enter Tryd.func113, Tryd.ntmps113
  go_wp2_with (refine wpList_store_row rfl 0xa8 _ _ rfl w.heap.size (nv (mxR 4)) rfl rfl 0xa8 (nv (List.replicate 4 0)) (World.alloc_heap_new w _) i88_4 rfl (nv_one _) ?_)
  rw [eqz4]
  refine bodyPost_ret (results_cell_row rfl _ _ w.heap.size 0xa8 (nv (mxR 4)) (0, 0) _ rfl (setRow_heap _ _ _ _ _ _ (World.alloc_heap_new w _)) Tryd.underlying168 rfl i88_4) rfl ⟨rfl, ?_⟩
  exact below_setRow ((Below.refl _ w).alloc (Nat.le_refl _) _) (Nat.le_refl _) _
theorem Sm.i88_5 : (Tryd.prog.info? 0xa8).map (·.size) = some (nv (mxR 5)).size := by kernel_rfl
set_option maxRecDepth 100000 in
set_option maxHeartbeats 2000000 in
theorem Sm.places_5 (w : World) : Calls Tryd.prog 113 #[.int .i64 5] w fun e w' => e = .returned (.agg (nv (mxR 5))) ∧ Below w.heap.size w w' := by
  go_enter Tryd.func113, Tryd.ntmps113
  go_wp2_with (refine wpList_store_row rfl 0xa8 _ _ rfl w.heap.size (nv (mxR 5)) rfl rfl 0xa8 (nv (List.replicate 4 0)) (World.alloc_heap_new w _) i88_5 rfl (nv_one _) ?_)
  rw [eqz4]
  refine bodyPost_ret (results_cell_row rfl _ _ w.heap.size 0xa8 (nv (mxR 5)) (0, 0) _ rfl (setRow_heap _ _ _ _ _ _ (World.alloc_heap_new w _)) Tryd.underlying168 rfl i88_5) rfl ⟨rfl, ?_⟩
  exact below_setRow ((Below.refl _ w).alloc (Nat.le_refl _) _) (Nat.le_refl _) _
theorem Sm.i88_6 : (Tryd.prog.info? 0xa8).map (·.size) = some (nv (mxR 6)).size := by kernel_rfl
set_option maxRecDepth 100000 in
set_option maxHeartbeats 2000000 in
theorem Sm.places_6 (w : World) : Calls Tryd.prog 113 #[.int .i64 6] w fun e w' => e = .returned (.agg (nv (mxR 6))) ∧ Below w.heap.size w w' := by
  go_enter Tryd.func113, Tryd.ntmps113
  go_wp2_with (refine wpList_store_row rfl 0xa8 _ _ rfl w.heap.size (nv (mxR 6)) rfl rfl 0xa8 (nv (List.replicate 4 0)) (World.alloc_heap_new w _) i88_6 rfl (nv_one _) ?_)
  rw [eqz4]
  refine bodyPost_ret (results_cell_row rfl _ _ w.heap.size 0xa8 (nv (mxR 6)) (0, 0) _ rfl (setRow_heap _ _ _ _ _ _ (World.alloc_heap_new w _)) Tryd.underlying168 rfl i88_6) rfl ⟨rfl, ?_⟩
  exact below_setRow ((Below.refl _ w).alloc (Nat.le_refl _) _) (Nat.le_refl _) _
theorem Sm.i88_7 : (Tryd.prog.info? 0xa8).map (·.size) = some (nv (mxR 7)).size := by kernel_rfl
set_option maxRecDepth 100000 in
set_option maxHeartbeats 2000000 in
theorem Sm.places_7 (w : World) : Calls Tryd.prog 113 #[.int .i64 7] w fun e w' => e = .returned (.agg (nv (mxR 7))) ∧ Below w.heap.size w w' := by
  go_enter Tryd.func113, Tryd.ntmps113
  go_wp2_with (refine wpList_store_row rfl 0xa8 _ _ rfl w.heap.size (nv (mxR 7)) rfl rfl 0xa8 (nv (List.replicate 4 0)) (World.alloc_heap_new w _) i88_7 rfl (nv_one _) ?_)
  rw [eqz4]
  refine bodyPost_ret (results_cell_row rfl _ _ w.heap.size 0xa8 (nv (mxR 7)) (0, 0) _ rfl (setRow_heap _ _ _ _ _ _ (World.alloc_heap_new w _)) Tryd.underlying168 rfl i88_7) rfl ⟨rfl, ?_⟩
  exact below_setRow ((Below.refl _ w).alloc (Nat.le_refl _) _) (Nat.le_refl _) _
theorem Sm.places_any (n : Nat) (h : n < 8) (w : World) : Calls Tryd.prog 113 #[.int .i64 (n : Int)] w fun e w' => e = .returned (.agg (nv (mxR n))) ∧ Below w.heap.size w w' := by
  match n, h with
  | 0, _ => exact places_0 w
  | 1, _ => exact places_1 w
  | 2, _ => exact places_2 w
  | 3, _ => exact places_3 w
  | 4, _ => exact places_4 w
  | 5, _ => exact places_5 w
  | 6, _ => exact places_6 w
  | 7, _ => exact places_7 w
end Go.Proofs
namespace Go.Proofs
open Go.RowKit Sm
theorem Sm.or_add (n : Nat) (x z : BitVec 32) (h : x.toNat < 2 ^ n) : x ||| (z <<< n) = x + (z <<< n) := by
  refine (BitVec.add_eq_or_of_and_eq_zero x (z <<< n) ?_).symm
  apply BitVec.eq_of_getLsbD_eq
  intro i hi
  rw [BitVec.getLsbD_and, BitVec.getLsbD_shiftLeft]
  by_cases hn : i < n
  · simp [hn]
  · have : x.getLsbD i = false := by
      rw [BitVec.getLsbD]
      exact Nat.testBit_lt_two_pow (Nat.lt_of_lt_of_le h (Nat.pow_le_pow_right (by decide) (by omega)))
    simp [this]
theorem Sm.wordF_lt (f : Nat → BitVec 8) : ∀ k, k ≤ 4 → (wordF f k).toNat < 2 ^ (8 * k)
  | 0, _ => by simp [wordF]
  | k + 1, h => by
    rw [wordF, BitVec.toNat_or]
    have h1 := wordF_lt f k (by omega)
    have h2 : ((f k).setWidth 32 <<< (8 * k)).toNat < 2 ^ (8 * (k + 1)) := by
      rw [BitVec.toNat_shiftLeft, Nat.shiftLeft_eq]
      refine Nat.lt_of_le_of_lt (Nat.mod_le _ _) ?_
      have : ((f k).setWidth 32).toNat < 2 ^ 8 := by
        have := (byte_iv (f k)).2
        unfold iv at this
        omega
      rw [show 8 * (k + 1) = 8 + 8 * k by omega, Nat.pow_add]
      exact Nat.mul_lt_mul_of_pos_right this (Nat.two_pow_pos _)
    exact Nat.or_lt_two_pow (Nat.lt_of_lt_of_le h1 (Nat.pow_le_pow_right (by decide) (by omega))) h2
theorem Sm.wordF_sum (f : Nat → BitVec 8) : wordF f 4 = (((f 0).setWidth 32 + (f 1).setWidth 32 <<< 8) + (f 2).setWidth 32 <<< 16) + (f 3).setWidth 32 <<< 24 := by
  have h1 : wordF f 1 = (f 0).setWidth 32 := by simp [wordF]
  have h2 : wordF f 2 = wordF f 1 + (f 1).setWidth 32 <<< 8 := or_add 8 _ _ (wordF_lt f 1 (by decide))
  have h3 : wordF f 3 = wordF f 2 + (f 2).setWidth 32 <<< 16 := or_add 16 _ _ (wordF_lt f 2 (by decide))
  have h4 : wordF f 4 = wordF f 3 + (f 3).setWidth 32 <<< 24 := or_add 24 _ _ (wordF_lt f 3 (by decide))
  rw [h4, h3, h2, h1]
theorem Sm.mul_wrap (x : BitVec 32) (k : Nat) (m : Int) (h : (2 : Int) ^ k = m) : IntKind.u32.wrap (m * iv x) = iv (x <<< k) := by
  rw [Int.mul_comm, ← h, wrap_shl]
theorem Sm.wrap_iv (x : BitVec 32) : IntKind.u32.wrap (iv x) = iv x := wrap_u32 x
/-- how all stands ahead of the words -/
structure Sm.RfAt (w wr : World) (H : List (BitVec 32)) (B : List (BitVec 8)) (G : List (BitVec 32)) : Prop where
  h : Blk wr w.heap.size 0x6f (wvs H)
  b : Blk wr (w.heap.size + 1) 0x31 (bvs B)
  r : Blk wr (w.heap.size + 2) 0x6f (wvs (List.replicate 8 0#32))
  g : Blk wr (w.heap.size + 3) 0xa5 (wvs G)
  below : Below w.heap.size w wr
  size : wr.heap.size = w.heap.size + 4
theorem Sm.RfAt.drew {w wr : World} {H G : List (BitVec 32)} {B : List (BitVec 8)} (h : RfAt w wr H B G) : RfAt w wr.drew H B G := ⟨h.h, h.b, h.r, h.g, h.below.drew, h.size⟩
theorem Sm.RfAt.setG {w wr : World} {H G : List (BitVec 32)} {B : List (BitVec 8)} (h : RfAt w wr H B G) (k : Nat) (x : BitVec 32) : RfAt w (wr.setCell ⟨w.heap.size + 3, k, none⟩ (.int .u32 (iv x))) H B (G.set k x) :=
  ⟨h.h.other (by simp) _, h.b.other (by simp) _, h.r.other (by simp) _, h.g.setWord k x, h.below.setCell (p := ⟨w.heap.size + 3, k, none⟩) (by simp) _, by rw [← h.size]; simp⟩
theorem Sm.RfAt.newV {w wr : World} {H G : List (BitVec 32)} {B : List (BitVec 8)} (h : RfAt w wr H B G) : PrAt w (wr.alloc (.cells (wvs (List.replicate 16 0#32)) 0xa5)) H B G (vin H 0) :=
  ⟨h.h.alloc _, h.b.alloc _, h.r.alloc _, h.g.alloc _, Blk.newAt h.size 0xa5 _, h.below.alloc (by rw [h.size]; omega) _⟩
theorem Sm.refmixc (a b c d x y : BitVec 32) (q : Q4) (hq : Hid (mixS ⟨a, b, c, d⟩ x y = q)) (w : World) : Calls Tryd.prog 114 #[.agg #[.int .u32 (iv a), .int .u32 (iv b), .int .u32 (iv c), .int .u32 (iv d)], .int .u32 (iv x), .int .u32 (iv y)] w fun e w' => e = .returned (.agg #[.int .u32 (iv q.a), .int .u32 (iv q.b), .int .u32 (iv q.c), .int .u32 (iv q.d)]) ∧ Below w.heap.size w w' := by
  rw [← hq.out]
  exact refMix_any ⟨a, b, c, d⟩ x y w
theorem Sm.Blk.nat {w : World} {b : Nat} {t : TypeId} {l : List Nat} (h : Blk w b t (nv l)) {k : Nat} (hk : k < l.length) : w.cell? ⟨b, k, none⟩ = some (.int .i64 ((l.getD k 0 : Nat) : Int)) := by
  rw [h.cell]
  simp [nv, hk]
theorem Sm.mxR_length (k : Nat) (h : k < 8) : (mxR k).length = 4 := by
  have : ∀ k, k < 8 → (mxR k).length = 4 := by decide
  exact this k h
end Go.Proofs
