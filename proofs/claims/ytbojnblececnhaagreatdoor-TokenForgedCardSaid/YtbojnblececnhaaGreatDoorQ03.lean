/-
  The contract of Mix: at every four words and two.
-/
import Derived.Deep.RegionHeld3
import Derived.Laws.CopyOwn
import Derived.Laws.EntriesVeiled
import Derived.Deep.DeepCutAuto
import Derived.Deep.CutRange
import Derived.Test.YtbojnblececnhaaGreatDoorQ01
namespace Go.Proofs
open Go.RowKit Sm
theorem Sm.keep4 {W0 W : World} {b : Nat} {v0 v1 v2 v3 : Value} (hlt : b < W0.heap.size) (c0 : W0.cell? ⟨b, 0, none⟩ = some v0) (c1 : W0.cell? ⟨b, 1, none⟩ = some v1) (c2 : W0.cell? ⟨b, 2, none⟩ = some v2) (c3 : W0.cell? ⟨b, 3, none⟩ = some v3) (hb : Below W0.heap.size W0 W) :
    W.cell? ⟨b, 0, none⟩ = some v0 ∧ W.cell? ⟨b, 1, none⟩ = some v1 ∧ W.cell? ⟨b, 2, none⟩ = some v2 ∧ W.cell? ⟨b, 3, none⟩ = some v3 :=
  ⟨(hb.cell (p := ⟨b, 0, none⟩) hlt).trans c0, (hb.cell (p := ⟨b, 1, none⟩) hlt).trans c1, (hb.cell (p := ⟨b, 2, none⟩) hlt).trans c2, (hb.cell (p := ⟨b, 3, none⟩) hlt).trans c3⟩
theorem Sm.row4_set {w : World} {g : Nat} {t : TypeId} {a0 a1 a2 a3 : Value} (v0 v1 v2 v3 : Value) (h : w.heap[g]? = some (.cells #[a0, a1, a2, a3] t (0, 0))) :
    ((((w.setCell ⟨g, 0, none⟩ v0).setCell ⟨g, 1, none⟩ v1).setCell ⟨g, 2, none⟩ v2).setCell ⟨g, 3, none⟩ v3).heap[g]? = some (.cells #[v0, v1, v2, v3] t (0, 0)) :=
  heap_setCell_same _ _ _ _ _ _ (heap_setCell_same _ _ _ _ _ _ (heap_setCell_same _ _ _ _ _ _ (heap_setCell_same _ _ _ _ _ _ h)))
section
variable (W0 : World) (o0 o1 o2 o3 : Obj)
theorem Sm.bx0 : (((((W0.alloc o0).alloc o1).alloc o2).alloc o3).drew).heap[W0.heap.size]? = some o0 := by
  show ((((W0.alloc o0).alloc o1).alloc o2).alloc o3).heap[W0.heap.size]? = some o0
  rw [Below.heap_alloc _ _ _ (by simp <;> omega), Below.heap_alloc _ _ _ (by simp <;> omega), Below.heap_alloc _ _ _ (by simp)]
  exact World.alloc_heap_new W0 o0
theorem Sm.bx1 : (((((W0.alloc o0).alloc o1).alloc o2).alloc o3).drew).heap[W0.heap.size + 1]? = some o1 := by
  show ((((W0.alloc o0).alloc o1).alloc o2).alloc o3).heap[W0.heap.size + 1]? = some o1
  rw [Below.heap_alloc _ _ _ (by simp <;> omega), Below.heap_alloc _ _ _ (by simp)]
  have := World.alloc_heap_new (W0.alloc o0) o1
  rwa [World.size_alloc] at this
theorem Sm.bx2 : (((((W0.alloc o0).alloc o1).alloc o2).alloc o3).drew).heap[W0.heap.size + 1 + 1]? = some o2 := by
  show ((((W0.alloc o0).alloc o1).alloc o2).alloc o3).heap[W0.heap.size + 1 + 1]? = some o2
  rw [Below.heap_alloc _ _ _ (by simp)]
  have := World.alloc_heap_new ((W0.alloc o0).alloc o1) o2
  simp only [World.size_alloc] at this
  exact this
theorem Sm.bx3 : (((((W0.alloc o0).alloc o1).alloc o2).alloc o3).drew).heap[W0.heap.size + 1 + 1 + 1]? = some o3 := by
  show ((((W0.alloc o0).alloc o1).alloc o2).alloc o3).heap[W0.heap.size + 1 + 1 + 1]? = some o3
  have := World.alloc_heap_new (((W0.alloc o0).alloc o1).alloc o2) o3
  simp only [World.size_alloc] at this
  exact this
theorem Sm.bx_below : Below W0.heap.size W0 ((((W0.alloc o0).alloc o1).alloc o2).alloc o3).drew :=
  (((((Below.refl _ W0).alloc (Nat.le_refl _) _).alloc (by simp) _).alloc (by simp <;> omega) _).alloc (by simp <;> omega) _).drew
end
/-- what the first statement of Mix leaves -/
structure Sm.MixCut (W0 wx : World) (A B C D : Nat) (q : Q4) : Prop where
  a : wx.heap[A]? = some (.cells #[.int .u32 (iv q.a)] 0xa3 (0, 0))
  b : wx.heap[B]? = some (.cells #[.int .u32 (iv q.b)] 0xa3 (0, 0))
  c : wx.heap[C]? = some (.cells #[.int .u32 (iv q.c)] 0xa3 (0, 0))
  d : wx.heap[D]? = some (.cells #[.int .u32 (iv q.d)] 0xa3 (0, 0))
  ap : Ap4 A B C D
  lo : W0.heap.size ≤ A ∧ W0.heap.size ≤ B ∧ W0.heap.size ≤ C ∧ W0.heap.size ≤ D
  below : Below W0.heap.size W0 wx
def Sm.MixRel (W0 : World) (q : Q4) (s7 s8 s9 s10 : Value) (wx : World) : Prop :=
  ∃ A B C D : Nat, s7 = .pointer (some ⟨A, 0, none⟩) ∧ s8 = .pointer (some ⟨B, 0, none⟩) ∧ s9 = .pointer (some ⟨C, 0, none⟩) ∧ s10 = .pointer (some ⟨D, 0, none⟩) ∧ MixCut W0 wx A B C D q
set_option maxRecDepth 100000 in
set_option maxHeartbeats 2000000 in
theorem Sm.mix_any (q : Q4) (x y : BitVec 32) (w : World) : Calls Tryz.prog 125 #[.agg q.cells, .int .u32 (iv x), .int .u32 (iv y)] w fun e w' => e = .returned (.agg (mixS q x y).cells) ∧ Below w.heap.size w w' := by
  unfold Q4.cells
  go_enter Tryz.func125, Tryz.ntmps125
  go_upto_region 1 with fail
  obtain ⟨W0, hW0⟩ : ∃ W0, (w.alloc (.cells #[.int .u32 (iv q.a), .int .u32 (iv q.b), .int .u32 (iv q.c), .int .u32 (iv q.d)] 0xbc)).alloc (.cells #[.int .u32 0, .int .u32 0, .int .u32 0, .int .u32 0] 0xbc) = W0 := ⟨_, rfl⟩
  have hz : W0.heap.size = w.heap.size + 2 := by rw [← hW0]; simp
  have c0 : W0.cell? ⟨w.heap.size, 0, none⟩ = some (.int .u32 (iv q.a)) := by rw [← hW0]; simp
  have c1 : W0.cell? ⟨w.heap.size, 1, none⟩ = some (.int .u32 (iv q.b)) := by rw [← hW0]; simp
  have c2 : W0.cell? ⟨w.heap.size, 2, none⟩ = some (.int .u32 (iv q.c)) := by rw [← hW0]; simp
  have c3 : W0.cell? ⟨w.heap.size, 3, none⟩ = some (.int .u32 (iv q.d)) := by rw [← hW0]; simp
  have hb0 : Below w.heap.size w W0 := by rw [← hW0]; exact ((Below.refl _ w).alloc (Nat.le_refl _) _).alloc (by simp) _
  have hlt : w.heap.size < W0.heap.size := by omega
  rw [hW0]
  have HW := Lib.hid hW0
  have HB := Lib.hid hb0
  have HZ := Lib.hid hz
  have HL := Lib.hid hlt
  clear hW0 hb0 hz hlt
  go_cut [7, 8, 9, 10] (fun s7 s8 s9 s10 wx => MixRel W0 q s7 s8 s9 s10 wx)
  case first =>
    go_region_held3 (fun W => W.cell? ⟨w.heap.size, 0, none⟩ = some (.int .u32 (iv q.a)) ∧ W.cell? ⟨w.heap.size, 1, none⟩ = some (.int .u32 (iv q.b)) ∧ W.cell? ⟨w.heap.size, 2, none⟩ = some (.int .u32 (iv q.c)) ∧ W.cell? ⟨w.heap.size, 3, none⟩ = some (.int .u32 (iv q.d)))
      ((refine keep4 HL.out c0 c1 c2 c3 ?_; (repeat first | exact Below.refl _ _ | apply Below.drew | (refine Below.alloc ?_ (by simp <;> omega) _) | (refine Below.alloc ?_ (by simp) _)))) (first | fail)
    all_goals
      go_wp2_with fail
      go_meet
      exact ⟨_, _, _, _, rfl, rfl, rfl, rfl, ⟨by first | exact bx0 _ _ _ _ _ | exact bx1 _ _ _ _ _ | exact bx2 _ _ _ _ _ | exact bx3 _ _ _ _ _, by first | exact bx0 _ _ _ _ _ | exact bx1 _ _ _ _ _ | exact bx2 _ _ _ _ _ | exact bx3 _ _ _ _ _, by first | exact bx0 _ _ _ _ _ | exact bx1 _ _ _ _ _ | exact bx2 _ _ _ _ _ | exact bx3 _ _ _ _ _, by first | exact bx0 _ _ _ _ _ | exact bx1 _ _ _ _ _ | exact bx2 _ _ _ _ _ | exact bx3 _ _ _ _ _, ⟨by omega, by omega, by omega, by omega, by omega, by omega⟩, ⟨by omega, by omega, by omega, by omega⟩, bx_below _ _ _ _ _⟩⟩
  case rest =>
    obtain ⟨A, B, C, D, rfl, rfl, rfl, rfl, hM⟩ := hcut
    clear c0 c1 c2 c3
    have hres : W0.heap[w.heap.size + 1]? = some (.cells #[.int .u32 0, .int .u32 0, .int .u32 0, .int .u32 0] 0xbc (0, 0)) := by
      rw [← HW.out]
      have := World.alloc_heap_new (w.alloc (.cells #[.int .u32 (iv q.a), .int .u32 (iv q.b), .int .u32 (iv q.c), .int .u32 (iv q.d)] 0xbc)) (.cells #[.int .u32 0, .int .u32 0, .int .u32 0, .int .u32 0] 0xbc)
      rwa [World.size_alloc] at this
    have hz := HZ.out
    have h4 : M4 (wc.alloc (.cells #[.func (.func 126) #[] #[]] 0xbf)) A B C D wc.heap.size q :=
      ⟨Boxed.alloc hM.a _, Boxed.alloc hM.b _, Boxed.alloc hM.c _, Boxed.alloc hM.d _, World.alloc_heap_new wc _⟩
    have hbw : Below w.heap.size w (wc.alloc (.cells #[.func (.func 126) #[] #[]] 0xbf)) := (HB.out.trans (hM.below.mono (by omega))).alloc (by have := hM.below.size; omega) _
    have hb2 : Below W0.heap.size W0 (wc.alloc (.cells #[.func (.func 126) #[] #[]] 0xbf)) := hM.below.alloc (by have := hM.below.size; omega) _
    have h16 := half16 q x A B C D wc.heap.size W0.heap.size _ h4 hM.ap hM.lo
    have HM := Lib.hid hM
    have HZ2 := Lib.hid hz
    have HR := Lib.hid hres
    clear hM hz h4 hres
    go_wp2_with (go_at_call 128; (with_reducible refine h16.mono ?_); clear h16; rintro e w1 ⟨⟨v1, rfl⟩, h1, hb1⟩; have h8 := half8 (halfS q x 16 12) y A B C D wc.heap.size W0.heap.size _ h1 HM.out.ap HM.out.lo; clear h1)
    go_wp2_with (go_at_call 128; (with_reducible refine h8.mono ?_); clear h8; rintro e w2 ⟨⟨v2, rfl⟩, h2, hb3⟩; have c0 := h2.a.cell; have c1 := h2.b.cell; have c2 := h2.c.cell; have c3 := h2.d.cell; have hr0 : w2.heap[w.heap.size + 1]? = some (.cells #[.int .u32 0, .int .u32 0, .int .u32 0, .int .u32 0] 0xbc (0, 0)) := ((hb3.block (w.heap.size + 1) (by have := HZ2.out; omega)).trans ((hb1.block (w.heap.size + 1) (by have := HZ2.out; omega)).trans ((hb2.block (w.heap.size + 1) (by have := HZ2.out; omega)).trans HR.out))); have r0 := cell_of_row _ _ 0 _ _ _ hr0; have r1 := cell_of_row _ _ 1 _ _ _ hr0; have r2 := cell_of_row _ _ 2 _ _ _ hr0; have r3 := cell_of_row _ _ 3 _ _ _ hr0; have f0 := frozen_of_row _ _ 0 _ _ hr0; have f1 := frozen_of_row _ _ 1 _ _ hr0; have f2 := frozen_of_row _ _ 2 _ _ hr0; have f3 := frozen_of_row _ _ 3 _ _ hr0; have HR0 := Lib.hid hr0; clear hr0; simp only [List.getElem?_toArray, List.getElem?_cons_zero, List.getElem?_cons_succ] at r0 r1 r2 r3)
    refine bodyPost_ret (results_cell_row rfl _ _ (w.heap.size + 1) 0xbc _ (0, 0) _ rfl (row4_set _ _ _ _ HR0.out) Tryz.underlying188 rfl (by kernel_rfl)) rfl ⟨rfl, ?_⟩
    have hbz := (hbw.trans (hb1.mono (by have := HZ2.out; omega))).trans (hb3.mono (by have := HZ2.out; omega))
    exact (((hbz.setCell (p := ⟨w.heap.size + 1, 0, none⟩) (by simp) _).setCell (p := ⟨w.heap.size + 1, 1, none⟩) (by simp) _).setCell (p := ⟨w.heap.size + 1, 2, none⟩) (by simp) _).setCell (p := ⟨w.heap.size + 1, 3, none⟩) (by simp) _
end Go.Proofs
