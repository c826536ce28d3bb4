/-
  ballot: First, May; the document's Less, Compare, Right, None, First, May. Conditions: as each theorem names them.
-/
import Derived.Test.YtamlacofmihldaaGreatDoorBaB
import Derived.Test.YtamlacofmihldaaGreatDoorSlJ
namespace Go.Proofs
open Go Go.RowKit Sm Go.Lib
attribute [local go_sem] Oper.semAt_some
/-- is one ballot less -/
def Sm.lessB (r p r2 p2 : Int) : Bool := decide (r < r2) || (decide (r = r2) && decide (p < p2))
set_option maxHeartbeats 1000000 in
theorem Sm.Less_any (r p r2 p2 : Int) (w : World) : Calls Tryz.prog 42 #[.agg #[.int .i64 r, .int .i64 p], .agg #[.int .i64 r2, .int .i64 p2]] w fun e w' => e = .returned (.bool (lessB r p r2 p2)) ∧ Below w.heap.size w w' := by
  have hb1 : Below w.heap.size w ((w.alloc (.cells #[.int .i64 r, .int .i64 p] 31)).alloc (.cells #[.int .i64 r2, .int .i64 p2] 31)) := ((Below.refl _ w).alloc (Nat.le_refl _) _).alloc (by simp) _
  unfold lessB
  by_cases h1 : r < r2
  · go_enter Tryz.func42, Tryz.ntmps42
    go_wp2
    go_ret
    exact ⟨by simp [h1], hb1⟩
  · by_cases h2 : r = r2
    · subst h2
      go_enter Tryz.func42, Tryz.ntmps42
      go_wp2
      go_ret
      exact ⟨by simp, hb1⟩
    · have h3 : (r == r2) = false := by simpa using h2
      go_enter Tryz.func42, Tryz.ntmps42
      go_wp2
      go_ret
      exact ⟨by simp [h1], hb1⟩
theorem Sm.cmpB_less (r p r2 p2 : Int) : cmpB r p r2 p2 = if lessB r p r2 p2 = true then -1 else if lessB r2 p2 r p = true then 1 else 0 := by
  unfold cmpB lessB orI cmpI
  simp only [Bool.or_eq_true, Bool.and_eq_true, decide_eq_true_eq]
  repeat' split
  all_goals omega
set_option maxHeartbeats 1000000 in
theorem Sm.rRight_any (c r p : Int) (w : World) : Calls Tryz.prog 52 #[.int .i64 c, .agg #[.int .i64 r, .int .i64 p]] w fun e w' => e = .returned (.bool (ckB c r p)) ∧ Below w.heap.size w w' := by
  have hb1 : Below w.heap.size w (w.alloc (.cells #[.int .i64 r, .int .i64 p] 31)) := (Below.refl _ w).alloc (Nat.le_refl _) _
  have h1 := fun W => Right_any c W
  have h2 := fun W => Place_any c p W
  unfold ckB bpB roB
  obtain ⟨x, hx⟩ : ∃ x, chB c = x := ⟨_, rfl⟩
  obtain ⟨y, hy⟩ : ∃ x, rpB c p = x := ⟨_, rfl⟩
  rw [hx] at h1 ⊢
  rw [hy] at h2 ⊢
  clear hx hy
  cases x with
  | false =>
    go_enter Tryz.func52, Tryz.ntmps52
    go_wp2_with (go_at_call 24; (with_reducible refine (h1 _).mono ?_); rintro e w' ⟨rfl, rfl⟩)
    go_ret
    exact ⟨by simp, hb1⟩
  | true =>
    by_cases h3 : 0 ≤ r
    · by_cases h4 : r ≤ 2147483647
      · go_enter Tryz.func52, Tryz.ntmps52
        go_wp2_with (first | (go_at_call 24; (with_reducible refine (h1 _).mono ?_); rintro e w' ⟨rfl, rfl⟩) | (go_at_call 66; (with_reducible refine (h2 _).mono ?_); rintro e w' ⟨rfl, rfl⟩))
        go_ret
        exact ⟨by simp [h3, h4], hb1⟩
      · go_enter Tryz.func52, Tryz.ntmps52
        go_wp2_with (first | (go_at_call 24; (with_reducible refine (h1 _).mono ?_); rintro e w' ⟨rfl, rfl⟩) | (go_at_call 66; (with_reducible refine (h2 _).mono ?_); rintro e w' ⟨rfl, rfl⟩))
        go_ret
        exact ⟨by simp; omega, hb1⟩
    · go_enter Tryz.func52, Tryz.ntmps52
      go_wp2_with (first | (go_at_call 24; (with_reducible refine (h1 _).mono ?_); rintro e w' ⟨rfl, rfl⟩) | (go_at_call 66; (with_reducible refine (h2 _).mono ?_); rintro e w' ⟨rfl, rfl⟩))
      go_ret
      exact ⟨by simp; omega, hb1⟩
theorem Sm.rFirst_any (c s : Int) (w : World) (h : chB c = true) (h0 : 0 ≤ s) : Calls Tryz.prog 26 #[.int .i64 c, .int .i64 s] w fun e w' => e = .returned (.agg #[.int .i64 0, .int .i64 (s % c)]) ∧ Below w.heap.size w w' := by
  have hb0 : Below w.heap.size w (w.alloc (.cells #[.int .i64 0, .int .i64 0] 31)) := (Below.refl _ w).alloc (Nat.le_refl _) _
  rcases chB_iff.1 h with rfl | rfl | rfl | rfl
  all_goals
    clear h
    go_enter Tryz.func26, Tryz.ntmps26
    go_wp2
    refine bodyPost_ret (v := .agg #[.int .i64 0, .int .i64 _]) (by simp [results, Tryz.results26, go_sem]; rfl) rfl ⟨by rfl, ?_⟩
    repeat' (first | exact hb0 | exact Below.refl _ _ | refine Below.drew ?_ | refine Below.alloc ?_ ?_ _ | refine Below.setCell ?_ ?_ _ | (simp; done) | (simp; omega) | omega)
theorem Sm.First_any (c s : Int) (w : World) : Calls Tryz.prog 22 #[.int .i64 c, .int .i64 s] w fun e w' => e = .returned (.tuple #[.agg #[.int .i64 0, .int .i64 (slotV c s (s % c)).1], .int .i64 (slotV c s (s % c)).2]) ∧ Below w.heap.size w w' := by
  have h1 := fun W => Owner_any c s W
  obtain ⟨x, hx⟩ : ∃ x, (slotV c s (s % c)).1 = x := ⟨_, rfl⟩
  obtain ⟨y, hy⟩ : ∃ x, (slotV c s (s % c)).2 = x := ⟨_, rfl⟩
  rw [hx, hy] at h1 ⊢
  clear hx hy
  have hb0 : Below w.heap.size w (w.alloc (.cells #[.int .i64 0, .int .i64 0] 31)) := (Below.refl _ w).alloc (Nat.le_refl _) _
  go_enter Tryz.func22, Tryz.ntmps22
  go_wp2_with (go_at_call 43; (with_reducible refine (h1 _).mono ?_); rintro e w1 ⟨rfl, hb1⟩; have hr1 : w1.heap[w.heap.size]? = some (.cells #[.int .i64 0, .int .i64 0] 31 (0, 0)) := (hb1.block _ (by simp)).trans (World.alloc_heap_new w _); have r0 := cell_of_heap hr1 0; have r1 := cell_of_heap hr1 1; have f0 := frozen_of_heap hr1 0; have f1 := frozen_of_heap hr1 1; simp only [List.getElem?_toArray, List.getElem?_cons_zero, List.getElem?_cons_succ] at r0 r1; have HB1 := Lib.hid (hb0.trans (hb1.mono hb0.size)); clear hb1)
  have hz := heap_setCells (i := 1) (u := .int .i64 x) (heap_setCells (i := 0) (u := .int .i64 0) hr1)
  have z0 := cell_of_heap hz 0
  have z1 := cell_of_heap hz 1
  simp at z0 z1
  refine bodyPost_ret (v := .tuple #[.agg #[.int .i64 0, .int .i64 x], .int .i64 y]) (by simp [results, Tryz.results22, go_sem, z0, z1]) rfl ⟨rfl, ?_⟩
  repeat' (first | exact HB1.out | exact Below.refl _ _ | refine Below.drew ?_ | refine Below.alloc ?_ ?_ _ | refine Below.setCell ?_ ?_ _ | (simp; done) | (simp; omega) | omega)
end Go.Proofs
