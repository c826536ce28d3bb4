/-
  The contract of the reference's first words.
-/
import Derived.Test.YtdpcgfaknbfmmaaDoorPrs
import Derived.Test.YtdpcgfaknbfmmaaDoorWalkC
namespace Go.Proofs
open Go.RowKit Sm
theorem Sm.i27b : (Tryd.prog.info? 0x17).map (·.size) = some (wvs beginL).size := by kernel_rfl
set_option maxRecDepth 100000 in
set_option maxHeartbeats 2000000 in
theorem Sm.first_any (w : World) : Calls Tryd.prog 44 #[] w fun e w' => e = .returned (.agg (wvs beginL)) ∧ Below w.heap.size w w' := by
  go_enter Tryd.func44, Tryd.ntmps44
  go_wp2_with (refine wpList_store_row rfl 0x17 _ _ rfl w.heap.size (wvs beginL) rfl rfl 0x17 (wvs (List.replicate 8 0#32)) (World.alloc_heap_new w _) i27b rfl (wvs_one beginL) ?_)
  rw [z8_eq]
  refine bodyPost_ret (results_cell_row rfl _ _ w.heap.size 0x17 (wvs beginL) (0, 0) _ rfl (setRow_heap _ _ _ _ _ _ (World.alloc_heap_new w _)) Tryd.underlying23 rfl i27b) rfl ⟨rfl, ?_⟩
  exact below_setRow ((Below.refl _ w).alloc (Nat.le_refl _) _) (Nat.le_refl _) _
end Go.Proofs
