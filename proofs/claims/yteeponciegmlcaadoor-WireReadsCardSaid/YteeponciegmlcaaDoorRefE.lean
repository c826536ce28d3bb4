/-
  The contract of the reference reader's end.
-/
import Derived.Test.YteeponciegmlcaaDoorRefR
namespace Go.Proofs
open Go.RowKit Go.Shelf Sm
/-- the refusal, called behind the two blocks of a reference reader's call -/
theorem Sm.refFail_two (A : Option Addr) (n c : Nat) (w : World) : Calls Tryd.prog 49 #[.agg #[.slice A n c, .int .i64 0]] ((w.alloc (.cells #[.slice A n c, .int .i64 0] 47)).alloc (.cells #[.slice none 0 0, .int .i64 0] 47)) fun x w3 => x = .returned (.tuple #[.agg #[.slice none 0 0, .int .i64 120], .int .i64 120]) ∧ Below w.heap.size w w3 ∧ w3.heap[w.heap.size + 1]? = some (.cells #[.slice none 0 0, .int .i64 0] 47 (0, 0)) ∧ w.heap.size + 1 < w3.heap.size ∧
      w3.cell? ⟨w.heap.size + 1, 0, none⟩ = some (.slice none 0 0) ∧ w3.cell? ⟨w.heap.size + 1, 1, none⟩ = some (.int .i64 0) ∧ w3.frozen? ⟨w.heap.size + 1, 0, none⟩ = false ∧ w3.frozen? ⟨w.heap.size + 1, 1, none⟩ = false := by
  have hb2 := alloc2 w (.cells #[.slice A n c, .int .i64 0] 47) (.cells #[.slice none 0 0, .int .i64 0] 47)
  have hs2 : ((w.alloc (.cells #[.slice A n c, .int .i64 0] 47)).alloc (.cells #[.slice none 0 0, .int .i64 0] 47)).heap.size = w.heap.size + 1 + 1 := by simp
  have hnew : ((w.alloc (.cells #[.slice A n c, .int .i64 0] 47)).alloc (.cells #[.slice none 0 0, .int .i64 0] 47)).heap[w.heap.size + 1]? = some (.cells #[.slice none 0 0, .int .i64 0] 47 (0, 0)) := by
    have := World.alloc_heap_new (w.alloc (.cells #[.slice A n c, .int .i64 0] 47)) (.cells #[.slice none 0 0, .int .i64 0] 47)
    rwa [World.size_alloc] at this
  exact (refFail_any A n c 0 _).mono (fun x w3 ⟨hx, hb3⟩ => by
    have h3 := (hb3.block (w.heap.size + 1) (by omega)).trans hnew
    exact ⟨hx, hb2.trans (hb3.mono hb2.size), h3, (Array.getElem?_eq_some_iff.1 h3).1, cell_of_heap h3 0, cell_of_heap h3 1, frozen_of_heap h3 0, frozen_of_heap h3 1⟩)
/-- what the call leaves when it has stored the refusal -/
theorem Sm.fail_fin {w w3 : World} (h3 : w3.heap[w.heap.size + 1]? = some (.cells #[.slice none 0 0, .int .i64 0] 47 (0, 0))) (hlt : w.heap.size + 1 < w3.heap.size) (hb : Below w.heap.size w w3) (o : Obj) : (((w3.setCell ⟨w.heap.size + 1, 0, none⟩ (.slice none 0 0)).setCell ⟨w.heap.size + 1, 1, none⟩ (.int .i64 120)).alloc o).cell? ⟨w.heap.size + 1, 0, none⟩ = some (.slice none 0 0) ∧ (((w3.setCell ⟨w.heap.size + 1, 0, none⟩ (.slice none 0 0)).setCell ⟨w.heap.size + 1, 1, none⟩ (.int .i64 120)).alloc o).cell? ⟨w.heap.size + 1, 1, none⟩ = some (.int .i64 120) ∧ Below w.heap.size w (((w3.setCell ⟨w.heap.size + 1, 0, none⟩ (.slice none 0 0)).setCell ⟨w.heap.size + 1, 1, none⟩ (.int .i64 120)).alloc o) := by
  have h5 := heap_setCells (i := 1) (u := .int .i64 120) (heap_setCells (i := 0) (u := .slice none 0 0) h3)
  have h6 := (Below.heap_alloc _ o _ (by simp; exact hlt)).trans h5
  have hb6 := (hb.setCell (p := ⟨w.heap.size + 1, 0, none⟩) (by simp) (.slice none 0 0)).setCell (p := ⟨w.heap.size + 1, 1, none⟩) (by simp) (.int .i64 120)
  exact ⟨cell_of_heap h6 0, cell_of_heap h6 1, hb6.alloc hb6.size o⟩
theorem Sm.fail_fin0 {w w3 : World} (h3 : w3.heap[w.heap.size + 1]? = some (.cells #[.slice none 0 0, .int .i64 0] 47 (0, 0))) (hb : Below w.heap.size w w3) : (w3.setCell ⟨w.heap.size + 1, 0, none⟩ (.slice none 0 0)).cell? ⟨w.heap.size + 1, 0, none⟩ = some (.slice none 0 0) ∧ ((w3.setCell ⟨w.heap.size + 1, 0, none⟩ (.slice none 0 0)).setCell ⟨w.heap.size + 1, 1, none⟩ (.int .i64 120)).cell? ⟨w.heap.size + 1, 1, none⟩ = some (.int .i64 120) ∧ Below w.heap.size w ((w3.setCell ⟨w.heap.size + 1, 0, none⟩ (.slice none 0 0)).setCell ⟨w.heap.size + 1, 1, none⟩ (.int .i64 120)) := by
  have h4 := heap_setCells (i := 0) (u := .slice none 0 0) h3
  have h5 := heap_setCells (i := 1) (u := .int .i64 120) h4
  exact ⟨cell_of_heap h4 0, cell_of_heap h5 1, (hb.setCell (p := ⟨w.heap.size + 1, 0, none⟩) (by simp) (.slice none 0 0)).setCell (p := ⟨w.heap.size + 1, 1, none⟩) (by simp) (.int .i64 120)⟩
set_option maxRecDepth 100000 in
set_option maxHeartbeats 4000000 in
theorem Sm.refEnd_err (A : Option Addr) (n c : Nat) (w : World) : Calls Tryd.prog 52 #[rdV A n c 120] w fun x w' => x = .returned (.tuple #[rdV A n c 120, .int .i64 120]) ∧ Below w.heap.size w w' := by
  unfold rdV
  go_enter Tryd.func52, Tryd.ntmps52
  go_wp2
  go_region
  all_goals go_wp2
  all_goals exact bodyPost_ret (v := .tuple #[.agg #[.slice A n c, .int .i64 120], .int .i64 120]) (by simp [results, Tryd.results52, go_sem]) rfl ⟨rfl, (alloc2 _ _ _).drew⟩
set_option maxRecDepth 100000 in
set_option maxHeartbeats 4000000 in
theorem Sm.refEnd_ok (A : Option Addr) (c : Nat) (w : World) : Calls Tryd.prog 52 #[rdV A 0 c 0] w fun x w' => x = .returned (.tuple #[rdV A 0 c 0, .int .i64 0]) ∧ Below w.heap.size w w' := by
  unfold rdV
  go_enter Tryd.func52, Tryd.ntmps52
  go_wp2
  go_region
  all_goals go_wp2
  all_goals exact bodyPost_ret (v := .tuple #[.agg #[.slice A 0 c, .int .i64 0], .int .i64 0]) (by simp [results, Tryd.results52, go_sem]) rfl ⟨rfl, (alloc2 _ _ _).drew⟩
set_option maxRecDepth 100000 in
set_option maxHeartbeats 4000000 in
theorem Sm.refEnd_bad (A : Option Addr) (n c : Nat) (w : World) (hn : 0 < n) : Calls Tryd.prog 52 #[rdV A n c 0] w fun x w' => x = .returned (.tuple #[rdV none 0 0 120, .int .i64 120]) ∧ Below w.heap.size w w' := by
  have hf := refFail_two A n c w
  unfold rdV
  go_enter Tryd.func52, Tryd.ntmps52
  go_wp2_with (go_at_call 49; (with_reducible refine hf.mono ?_); rintro e w3 ⟨rfl, hb3, h3, hlt, c0, c1, f0, f1⟩; have hg0 := Nat.ne_of_gt hlt)
  obtain ⟨z0, z1, z2⟩ := fail_fin0 h3 hb3
  exact bodyPost_ret (v := .tuple #[.agg #[.slice none 0 0, .int .i64 120], .int .i64 120]) (by simp [results, Tryd.results52, go_sem, z0, z1]) rfl ⟨rfl, z2⟩
/-- the end that is asked for -/
theorem Sm.refEnd_any (A : Option Addr) (n c : Nat) (l : List (BitVec 8)) (e : Int) (w : World) (h : RefAt w A n c l) (he : e = 0 ∨ e = 120) : Calls Tryd.prog 52 #[rdV A n c e] w fun x w' =>
    (∃ A' n' c', x = .returned (.tuple #[rdV A' n' c' (endS l e).2.1, .int .i64 (endS l e).2.2]) ∧ RefAt w' A' n' c' (endS l e).1) ∧ Below w.heap.size w w' := by
  rcases he with rfl | rfl
  · by_cases hl : l = []
    · have hn : n = 0 := by rw [← h.len, hl]; rfl
      have e1 : endS l 0 = (l, 0, 0) := by unfold endS; rw [if_neg (by simp), if_pos hl]
      rw [e1]
      subst hn
      refine (refEnd_ok A c w).mono ?_
      rintro x w' ⟨rfl, hb⟩
      exact ⟨⟨A, 0, c, rfl, h.below hb⟩, hb⟩
    · have hn : 0 < n := by
        rw [← h.len]
        exact List.length_pos_iff.2 hl
      have e1 : endS l 0 = ([], 120, 120) := by unfold endS; rw [if_neg (by simp), if_neg hl]
      rw [e1]
      refine (refEnd_bad A n c w hn).mono ?_
      rintro x w' ⟨rfl, hb⟩
      exact ⟨⟨none, 0, 0, rfl, RefAt.nil _⟩, hb⟩
  · have e1 : endS l 120 = (l, 120, 120) := by unfold endS; rw [if_pos (by simp)]
    rw [e1]
    refine (refEnd_err A n c w).mono ?_
    rintro x w' ⟨rfl, hb⟩
    exact ⟨⟨A, n, c, rfl, h.below hb⟩, hb⟩
