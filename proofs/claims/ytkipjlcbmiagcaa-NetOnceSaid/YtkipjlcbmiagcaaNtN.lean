/-
  copied, among and what it makes, on. Conditions: as each theorem names them.
-/
import Derived.Test.YtkipjlcbmiagcaaNtM
namespace Go.Proofs
open Go Go.RowKit Sm Go.Lib Go.Maps Go.WideMaps
attribute [local go_sem] Oper.semAt_some
set_option maxRecDepth 100000 in
theorem Sm.among_any (x y : Int) (w : World) : Calls Try.prog 66 #[.int .i64 x, .int .i64 y] w fun e w' => e = .returned (.func (.func 73) #[] #[.pointer (some ⟨w.heap.size, 0, none⟩), .pointer (some ⟨w.heap.size + 1, 0, none⟩)]) ∧
    w'.heap[w.heap.size]? = some (.cells #[.int .i64 x] 3 (0, 0)) ∧ w'.heap[w.heap.size + 1]? = some (.cells #[.int .i64 y] 3 (0, 0)) ∧ Below w.heap.size w w' := by
  go_enter Try.func66, Try.ntmps66
  go_wp2
  refine bodyPost_ret (v := .func (.func 73) #[] #[.pointer (some ⟨w.heap.size, 0, none⟩), .pointer (some ⟨w.heap.size + 1, 0, none⟩)]) ?_ rfl ⟨rfl, ?_, ?_, ?_⟩
  · simp [results, Try.results66, go_sem]
  · exact old_alloc _ (new_alloc _ rfl)
  · exact new_alloc _ (by simp)
  · exact bel2 _ _ _
/-- does a pick on a link, or on all, pick a message of such ends? -/
def Sm.pkB (x y a b : Int) : Bool := anyB x y || (decide (a = x) && decide (b = y))
set_option maxRecDepth 100000 in
theorem Sm.copied_any (num a b : Int) (B n c : Nat) (A : Option Addr) (l : List (BitVec 8)) (w : World) (hl : l.length = n) (hr : Rd w B A l) (hB : B ≤ w.heap.size) (hn : n ≤ 8192) :
    Calls Try.prog 46 #[.agg #[.int .i64 num, .int .i64 a, .int .i64 b, .slice A n c]] w fun e w' => ∃ A' c', e = .returned (.agg #[.int .i64 num, .int .i64 a, .int .i64 b, .slice A' n c']) ∧ w'.ownsRow w.heap.size 5 1 (.slice A' n c') n (l.map byteCell) ∧ Below w.heap.size w w' := by
  obtain ⟨W3, hW3⟩ : ∃ V, (((w.alloc (.cells #[.int .i64 num, .int .i64 a, .int .i64 b, .slice A n c] 83)).alloc (.cells #[.int .i64 0, .int .i64 0, .int .i64 0, .slice none 0 0] 41)).alloc (.cells #[.int .i64 num, .int .i64 a, .int .i64 b, .slice A n c] 41)) = V := ⟨_, rfl⟩
  have hb3 : Below w.heap.size w W3 := by rw [← hW3]; exact (bel2 w _ _).alloc (bel2 w _ _).size _
  have hx3 : W3.heap[w.heap.size + 2]? = some (.cells #[.int .i64 num, .int .i64 a, .int .i64 b, .slice A n c] 41 (0, 0)) := by rw [← hW3]; exact new_alloc _ (by simp)
  have hy3 : W3.heap[w.heap.size + 1]? = some (.cells #[.int .i64 0, .int .i64 0, .int .i64 0, .slice none 0 0] 41 (0, 0)) := by rw [← hW3]; exact old_alloc _ (new_alloc _ (by simp))
  have HY3 := Lib.hid hy3
  have hcl := clone_any B n c A l W3 hl (hr.keep (fun q hq => hb3.cell (by omega))) (by have := hb3.size; omega) (by omega)
  rw [← hW3] at hcl
  have HB3 := Lib.hid hb3
  have HX3 := Lib.hid hx3
  have HW3 := Lib.hid hW3
  clear hr hl hb3 hx3 hy3 hW3
  go_enter Try.func46, Try.ntmps46
  go_wp2_with (go_at_call 38; (with_reducible refine hcl.mono ?_); clear hcl; rintro e w4 ⟨A', c', rfl, ho, hb⟩; rw [HW3.out] at ho hb; have hx4 := (hb.block _ (Array.getElem?_eq_some_iff.1 HX3.out).1).trans HX3.out; have k0 := cell_of_heap hx4 0; have k1 := cell_of_heap hx4 1; have k2 := cell_of_heap hx4 2; have k3 := cell_of_heap hx4 3; have f3 := frozen_of_heap hx4 3; simp only [List.getElem?_toArray, List.getElem?_cons_zero, List.getElem?_cons_succ] at k0 k1 k2 k3; have hy4 := (hb.block _ (Array.getElem?_eq_some_iff.1 HY3.out).1).trans HY3.out; have j0 := cell_of_heap hy4 0; have j1 := cell_of_heap hy4 1; have j2 := cell_of_heap hy4 2; have j3 := cell_of_heap hy4 3; have g0 := frozen_of_heap hy4 0; have g1 := frozen_of_heap hy4 1; have g2 := frozen_of_heap hy4 2; have g3 := frozen_of_heap hy4 3; simp only [List.getElem?_toArray, List.getElem?_cons_zero, List.getElem?_cons_succ] at j0 j1 j2 j3; have HY4 := Lib.hid hy4; have HO := Lib.hid ho; have HB := Lib.hid hb; clear ho hb hx4 hy4)
  have hs3 : W3.heap.size = w.heap.size + 3 := by rw [← HW3.out]; simp
  obtain ⟨W5, hW5⟩ : ∃ V, w4.setCell ⟨w.heap.size + 1 + 1, 3, none⟩ (.slice A' n c') = V := ⟨_, rfl⟩
  have hb45 : But (fun q => q = w.heap.size + 1 + 1) w4 W5 := by rw [← hW5]; exact (But.refl (fun q => q = w.heap.size + 1 + 1) w4).set ⟨w.heap.size + 1 + 1, 3, none⟩ _ (.inl rfl)
  have hy5 := But.box hb45 HY4.out (by omega)
  have hz5 := put4 hy5 (.int .i64 num) (.int .i64 a) (.int .i64 b) (.slice A' n c')
  have hb56 := put4_but W5 (w.heap.size + 1) (.int .i64 num) (.int .i64 a) (.int .i64 b) (.slice A' n c')
  unfold put4W at hz5 hb56
  rw [hW5]
  have r0 := cell_of_heap hz5 0
  have r1 := cell_of_heap hz5 1
  have r2 := cell_of_heap hz5 2
  have r3 := cell_of_heap hz5 3
  simp only [List.getElem?_toArray, List.getElem?_cons_zero, List.getElem?_cons_succ] at r0 r1 r2 r3
  have ho5 := hb45.row HO.out (fun g e1 e2 => by have h7 := (HO.out.lt g e1).1; have e3 : g = w.heap.size + 1 + 1 := e2; omega)
  have ho6 := hb56.row ho5 (fun g e1 e2 => by have h7 := (ho5.lt g e1).1; have e3 : g = w.heap.size + 1 := e2; omega)
  have hbw : Below w.heap.size w w4 := HB3.out.trans (HB.out.mono HB3.out.size)
  have hb5 := hbw.trans (hb45.to_below hbw.size (fun q e => by have e2 : q = w.heap.size + 1 + 1 := e; omega))
  have hb6 := hb5.trans (hb56.to_below hb5.size (fun q e => by have e2 : q = w.heap.size + 1 := e; omega))
  exact bodyPost_ret (v := .agg #[.int .i64 num, .int .i64 a, .int .i64 b, .slice A' n c']) (by simp [results, Try.results46, go_sem, r0, r1, r2, r3]) rfl ⟨A', c', rfl, own_base ho6 (by omega), hb6⟩
end Go.Proofs
