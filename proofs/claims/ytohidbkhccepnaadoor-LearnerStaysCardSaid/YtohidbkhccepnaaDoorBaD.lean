/-
  ballot: May; the document's May. Conditions: as each theorem names them.
-/
import Derived.Test.YtohidbkhccepnaaDoorBaC
namespace Go.Proofs
open Go Go.RowKit Sm Go.Lib
attribute [local go_sem] Oper.semAt_some
theorem Sm.box_cell2 (w : World) (v u : Value) (t : TypeId) : (w.alloc (.cells #[v, u] t)).cell? ⟨w.heap.size, 0, none⟩ = some v ∧ (w.alloc (.cells #[v, u] t)).cell? ⟨w.heap.size, 1, none⟩ = some u := ⟨cell_of_heap (World.alloc_heap_new w _) 0, cell_of_heap (World.alloc_heap_new w _) 1⟩
/-- may one speak by a ballot for a slot -/
def Sm.mayB (c s r p : Int) : Bool := chB c && slB s && ckB c r p && (decide (0 < r) || (decide (r = 0) && decide (p = s % c)))
theorem Sm.slotV_e (c s v : Int) : ((slotV c s v).2 = 0) = (chB c = true ∧ slB s = true) := by
  unfold slotV
  cases chB c <;> cases slB s <;> simp
theorem Sm.slotV_v (c s v : Int) (h1 : chB c = true) (h2 : slB s = true) : slotV c s v = (v, 0) := by
  unfold slotV
  rw [h1, h2]
  rfl
set_option maxHeartbeats 2000000 in
theorem Sm.May_any (c s r p : Int) (w : World) : Calls Tryd.prog 34 #[.int .i64 c, .int .i64 s, .agg #[.int .i64 r, .int .i64 p]] w fun e w' => e = .returned (.bool (mayB c s r p)) ∧ Below w.heap.size w w' := by
  have hb1 : Below w.heap.size w (w.alloc (.cells #[.int .i64 r, .int .i64 p] 37)) := (Below.refl _ w).alloc (Nat.le_refl _) _
  have q0 := World.alloc_heap_new w (.cells #[.int .i64 r, .int .i64 p] 37)
  have HS : Hid (∀ W, Below (w.heap.size + 1) (w.alloc (.cells #[.int .i64 r, .int .i64 p] 37)) W → W.cell? ⟨w.heap.size, 0, none⟩ = some (.int .i64 r) ∧ W.cell? ⟨w.heap.size, 1, none⟩ = some (.int .i64 p)) := Lib.hid fun W hb => ⟨(hb.cell (p := ⟨w.heap.size, 0, none⟩) (by simp)).trans (cell_of_heap q0 0), (hb.cell (p := ⟨w.heap.size, 1, none⟩) (by simp)).trans (cell_of_heap q0 1)⟩
  have h1 := fun W => First_any c s W
  have h2 := fun W => CheckB_any c r p W
  unfold mayB
  have hv := slotV_e c s (s % c)
  have HB1 := Lib.hid hb1
  clear q0 hb1
  by_cases hc : chB c = true ∧ slB s = true
  · rw [slotV_v c s _ hc.1 hc.2] at h1
    rw [hc.1, hc.2]
    clear hv hc
    obtain ⟨x, hx⟩ : ∃ x, ckB c r p = x := ⟨_, rfl⟩
    obtain ⟨o, ho⟩ : ∃ o, s % c = o := ⟨_, rfl⟩
    rw [hx] at h2 ⊢
    rw [ho] at h1 ⊢
    clear hx ho
    cases x with
    | false =>
      simp only [Bool.false_eq_true, if_false] at h2
      go_enter Tryd.func34, Tryd.ntmps34
      go_wp2_with (first
        | (go_at_call 46; (with_reducible refine (h1 _).mono ?_); rintro e w2 ⟨rfl, hb⟩; have HB2 : Hid (Below (w.heap.size + 1) (w.alloc (.cells #[.int .i64 r, .int .i64 p] 37)) w2) := Lib.hid (hb.mono (by simp)); obtain ⟨d0, d1⟩ := HS.out _ (HB2.out.alloc (by have := HB2.out.size; simpa using this) (.cells #[.int .i64 0, .int .i64 o] 37)); clear hb)
        | (go_at_call 33; (with_reducible refine (h2 _).mono ?_); rintro e w3 ⟨rfl, hb3⟩; have HB3 := Lib.hid hb3; clear hb3))
      go_ret
      exact ⟨by simp, HB1.out.trans (((HB2.out.alloc (by have := HB2.out.size; simpa using this) _).trans (HB3.out.mono (by have := HB2.out.size; simp at this ⊢; omega))).mono (by omega))⟩
    | true =>
      simp only [if_true] at h2
      by_cases h3 : 0 < r
      · have h4 : 1 ≤ r := h3
        go_enter Tryd.func34, Tryd.ntmps34
        go_wp2_with (first
          | (go_at_call 46; (with_reducible refine (h1 _).mono ?_); rintro e w2 ⟨rfl, hb⟩; have HB2 : Hid (Below (w.heap.size + 1) (w.alloc (.cells #[.int .i64 r, .int .i64 p] 37)) w2) := Lib.hid (hb.mono (by simp)); obtain ⟨d0, d1⟩ := HS.out _ (HB2.out.alloc (by have := HB2.out.size; simpa using this) (.cells #[.int .i64 0, .int .i64 o] 37)); clear hb)
          | (go_at_call 33; (with_reducible refine (h2 _).mono ?_); rintro e w3 ⟨rfl, hb3⟩; have HB3 := Lib.hid hb3; obtain ⟨e0, e1⟩ := HS.out _ ((HB2.out.alloc (by have := HB2.out.size; simpa using this) (.cells #[.int .i64 0, .int .i64 o] 37)).trans (hb3.mono (by have := HB2.out.size; simp at this ⊢; omega))); clear hb3))
        go_ret
        exact ⟨by simp [h3], HB1.out.trans (((HB2.out.alloc (by have := HB2.out.size; simpa using this) _).trans (HB3.out.mono (by have := HB2.out.size; simp at this ⊢; omega))).mono (by omega))⟩
      · have h4 : ¬ 1 ≤ r := by omega
        by_cases h5 : r = 0
        · have h8 : (r == 0) = true := by simpa using h5
          have H5 := Lib.hid h5
          clear h5
          by_cases h6 : p = o
          · have h7 : (p == o) = true := by simpa using h6
            have H6 := Lib.hid h6
            clear h6
            go_enter Tryd.func34, Tryd.ntmps34
            go_wp2_with (first
              | (go_at_call 46; (with_reducible refine (h1 _).mono ?_); rintro e w2 ⟨rfl, hb⟩; have HB2 : Hid (Below (w.heap.size + 1) (w.alloc (.cells #[.int .i64 r, .int .i64 p] 37)) w2) := Lib.hid (hb.mono (by simp)); obtain ⟨d0, d1⟩ := HS.out _ (HB2.out.alloc (by have := HB2.out.size; simpa using this) (.cells #[.int .i64 0, .int .i64 o] 37)); clear hb)
              | (go_at_call 33; (with_reducible refine (h2 _).mono ?_); rintro e w3 ⟨rfl, hb3⟩; have HB3 := Lib.hid hb3; obtain ⟨e0, e1⟩ := HS.out _ ((HB2.out.alloc (by have := HB2.out.size; simpa using this) (.cells #[.int .i64 0, .int .i64 o] 37)).trans (hb3.mono (by have := HB2.out.size; simp at this ⊢; omega)));
                  have g0 := cell_keep hb3 (by simp) (box_cell2 w2 (.int .i64 0) (.int .i64 o) 37).1; have g1 := cell_keep hb3 (by simp) (box_cell2 w2 (.int .i64 0) (.int .i64 o) 37).2; clear hb3))
            go_ret
            exact ⟨by rw [H5.out, H6.out]; simp, HB1.out.trans (((HB2.out.alloc (by have := HB2.out.size; simpa using this) _).trans (HB3.out.mono (by have := HB2.out.size; simp at this ⊢; omega))).mono (by omega))⟩
          · have h7 : (p == o) = false := by simpa using h6
            go_enter Tryd.func34, Tryd.ntmps34
            go_wp2_with (first
              | (go_at_call 46; (with_reducible refine (h1 _).mono ?_); rintro e w2 ⟨rfl, hb⟩; have HB2 : Hid (Below (w.heap.size + 1) (w.alloc (.cells #[.int .i64 r, .int .i64 p] 37)) w2) := Lib.hid (hb.mono (by simp)); obtain ⟨d0, d1⟩ := HS.out _ (HB2.out.alloc (by have := HB2.out.size; simpa using this) (.cells #[.int .i64 0, .int .i64 o] 37)); clear hb)
              | (go_at_call 33; (with_reducible refine (h2 _).mono ?_); rintro e w3 ⟨rfl, hb3⟩; have HB3 := Lib.hid hb3; obtain ⟨e0, e1⟩ := HS.out _ ((HB2.out.alloc (by have := HB2.out.size; simpa using this) (.cells #[.int .i64 0, .int .i64 o] 37)).trans (hb3.mono (by have := HB2.out.size; simp at this ⊢; omega)));
                  have g0 := cell_keep hb3 (by simp) (box_cell2 w2 (.int .i64 0) (.int .i64 o) 37).1; have g1 := cell_keep hb3 (by simp) (box_cell2 w2 (.int .i64 0) (.int .i64 o) 37).2; clear hb3))
            go_ret
            exact ⟨by rw [H5.out]; simp [h6], HB1.out.trans (((HB2.out.alloc (by have := HB2.out.size; simpa using this) _).trans (HB3.out.mono (by have := HB2.out.size; simp at this ⊢; omega))).mono (by omega))⟩
        · have h7 : (r == 0) = false := by simpa using h5
          go_enter Tryd.func34, Tryd.ntmps34
          go_wp2_with (first
            | (go_at_call 46; (with_reducible refine (h1 _).mono ?_); rintro e w2 ⟨rfl, hb⟩; have HB2 : Hid (Below (w.heap.size + 1) (w.alloc (.cells #[.int .i64 r, .int .i64 p] 37)) w2) := Lib.hid (hb.mono (by simp)); obtain ⟨d0, d1⟩ := HS.out _ (HB2.out.alloc (by have := HB2.out.size; simpa using this) (.cells #[.int .i64 0, .int .i64 o] 37)); clear hb)
            | (go_at_call 33; (with_reducible refine (h2 _).mono ?_); rintro e w3 ⟨rfl, hb3⟩; have HB3 := Lib.hid hb3; obtain ⟨e0, e1⟩ := HS.out _ ((HB2.out.alloc (by have := HB2.out.size; simpa using this) (.cells #[.int .i64 0, .int .i64 o] 37)).trans (hb3.mono (by have := HB2.out.size; simp at this ⊢; omega)));
                have g0 := cell_keep hb3 (by simp) (box_cell2 w2 (.int .i64 0) (.int .i64 o) 37).1; have g1 := cell_keep hb3 (by simp) (box_cell2 w2 (.int .i64 0) (.int .i64 o) 37).2; clear hb3))
          go_ret
          exact ⟨by simp [h5]; omega, HB1.out.trans (((HB2.out.alloc (by have := HB2.out.size; simpa using this) _).trans (HB3.out.mono (by have := HB2.out.size; simp at this ⊢; omega))).mono (by omega))⟩
  · have h4 : ((slotV c s (s % c)).2 == 0) = false := by
      simp only [beq_eq_false_iff_ne, ne_eq]
      rw [hv]
      exact hc
    have h5 : (chB c && slB s) = false := by
      cases e1 : chB c <;> cases e2 : slB s <;> simp_all
    rw [h5]
    obtain ⟨x, hx⟩ : ∃ x, (slotV c s (s % c)).1 = x := ⟨_, rfl⟩
    obtain ⟨y, hy⟩ : ∃ x, (slotV c s (s % c)).2 = x := ⟨_, rfl⟩
    rw [hx, hy] at h1
    rw [hy] at h4
    clear hx hy hv hc h5
    go_enter Tryd.func34, Tryd.ntmps34
    go_wp2_with (go_at_call 46; (with_reducible refine (h1 _).mono ?_); rintro e w2 ⟨rfl, hb⟩; have HB2 : Hid (Below (w.heap.size + 1) (w.alloc (.cells #[.int .i64 r, .int .i64 p] 37)) w2) := Lib.hid (hb.mono (by simp)); clear hb)
    go_ret
    exact ⟨by simp, HB1.out.trans ((HB2.out.alloc (by have := HB2.out.size; simpa using this) _).mono (by omega))⟩
end Go.Proofs
