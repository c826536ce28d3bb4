/-
  ballot: First, May; the document's Less, Compare, Right, None, First, May. Conditions: as each theorem names them.
-/
import Derived.Test.YtohidbkhccepnaaDoorBaB
import Derived.Test.YtohidbkhccepnaaDoorSlJ
namespace Go.Proofs
open Go Go.RowKit Sm Go.Lib
attribute [local go_sem] Oper.semAt_some
/-- is one ballot less -/
def Sm.lessB (r p r2 p2 : Int) : Bool := decide (r < r2) || (decide (r = r2) && decide (p < p2))
theorem Sm.cmpB_less (r p r2 p2 : Int) : cmpB r p r2 p2 = if lessB r p r2 p2 = true then -1 else if lessB r2 p2 r p = true then 1 else 0 := by
  unfold cmpB lessB orI cmpI
  simp only [Bool.or_eq_true, Bool.and_eq_true, decide_eq_true_eq]
  repeat' split
  all_goals omega
theorem Sm.First_any (c s : Int) (w : World) : Calls Tryd.prog 46 #[.int .i64 c, .int .i64 s] w fun e w' => e = .returned (.tuple #[.agg #[.int .i64 0, .int .i64 (slotV c s (s % c)).1], .int .i64 (slotV c s (s % c)).2]) ∧ Below w.heap.size w w' := by
  have h1 := fun W => Owner_any c s W
  obtain ⟨x, hx⟩ : ∃ x, (slotV c s (s % c)).1 = x := ⟨_, rfl⟩
  obtain ⟨y, hy⟩ : ∃ x, (slotV c s (s % c)).2 = x := ⟨_, rfl⟩
  rw [hx, hy] at h1 ⊢
  clear hx hy
  have hb0 : Below w.heap.size w (w.alloc (.cells #[.int .i64 0, .int .i64 0] 37)) := (Below.refl _ w).alloc (Nat.le_refl _) _
  go_enter Tryd.func46, Tryd.ntmps46
  go_wp2_with (go_at_call 13; (with_reducible refine (h1 _).mono ?_); rintro e w1 ⟨rfl, hb1⟩; have hr1 : w1.heap[w.heap.size]? = some (.cells #[.int .i64 0, .int .i64 0] 37 (0, 0)) := (hb1.block _ (by simp)).trans (World.alloc_heap_new w _); have r0 := cell_of_heap hr1 0; have r1 := cell_of_heap hr1 1; have f0 := frozen_of_heap hr1 0; have f1 := frozen_of_heap hr1 1; simp only [List.getElem?_toArray, List.getElem?_cons_zero, List.getElem?_cons_succ] at r0 r1; have HB1 := Lib.hid (hb0.trans (hb1.mono hb0.size)); clear hb1)
  have hz := heap_setCells (i := 1) (u := .int .i64 x) (heap_setCells (i := 0) (u := .int .i64 0) hr1)
  have z0 := cell_of_heap hz 0
  have z1 := cell_of_heap hz 1
  simp at z0 z1
  refine bodyPost_ret (v := .tuple #[.agg #[.int .i64 0, .int .i64 x], .int .i64 y]) (by simp [results, Tryd.results46, go_sem, z0, z1]) rfl ⟨rfl, ?_⟩
  repeat' (first | exact HB1.out | exact Below.refl _ _ | refine Below.drew ?_ | refine Below.alloc ?_ ?_ _ | refine Below.setCell ?_ ?_ _ | (simp; done) | (simp; omega) | omega)
end Go.Proofs
