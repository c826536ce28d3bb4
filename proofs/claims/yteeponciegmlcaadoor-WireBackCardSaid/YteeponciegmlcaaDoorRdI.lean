/-
  The contracts of the calls of no reader.
-/
import Derived.Test.YteeponciegmlcaaDoorRdH
namespace Go.Proofs
open Go.RowKit Go.Shelf Sm
theorem Sm.NoRd.below {w w' : World} {v : Value} (h : NoRd w v) (hb : Below w.heap.size w w') : NoRd w' v := by
  rcases h with rfl | ⟨B, rfl, hB, h1, h2, h3⟩
  · exact .inl rfl
  · exact .inr ⟨B, rfl, Nat.lt_of_lt_of_le hB hb.size, (hb.cell (p := ⟨B, 1, none⟩) hB).trans h1, (hb.cell (p := ⟨B, 0, none⟩) hB).trans h2, (hb.cell (p := ⟨B, 2, none⟩) hB).trans h3⟩
theorem Sm.NoRd.form {w : World} {v : Value} (h : NoRd w v) : ∃ B, v = .pointer none ∨ v = .pointer (some ⟨B, 0, none⟩) := by
  rcases h with rfl | ⟨B, rfl, _⟩
  · exact ⟨0, .inl rfl⟩
  · exact ⟨B, .inr rfl⟩
theorem Sm.alloc3 (w : World) (a b c : Obj) : Below w.heap.size w (((w.alloc a).alloc b).alloc c) := (((Below.refl _ w).alloc (Nat.le_refl _) _).alloc (by simp) _).alloc (by simp; omega) _
theorem Sm.last3 (w : World) (a b : Obj) (z : Value) (T : TypeId) : (((w.alloc a).alloc b).alloc (.cells #[z] T)).cell? ⟨w.heap.size + 1 + 1, 0, none⟩ = some z := by
  have h := World.cell?_alloc_new (w := (w.alloc a).alloc b) #[z] T 0
  rw [World.size_alloc, World.size_alloc] at h
  exact h
theorem Sm.last3f (w : World) (a b : Obj) (z : Value) (T : TypeId) : (((w.alloc a).alloc b).alloc (.cells #[z] T)).frozen? ⟨w.heap.size + 1 + 1, 0, none⟩ = false := by simp [go_sem]
theorem Sm.last2 (w : World) (a : Obj) (z : Value) (T : TypeId) : ((w.alloc a).alloc (.cells #[z] T)).cell? ⟨w.heap.size + 1, 0, none⟩ = some z := by
  have h := World.cell?_alloc_new (w := w.alloc a) #[z] T 0
  rw [World.size_alloc] at h
  exact h
theorem Sm.last2f (w : World) (a : Obj) (z : Value) (T : TypeId) : ((w.alloc a).alloc (.cells #[z] T)).frozen? ⟨w.heap.size + 1, 0, none⟩ = false := by simp [go_sem]
theorem Sm.Number_no {w : World} {v : Value} (h : NoRd w v) (most : Int) : Calls Tryd.prog 22 #[v, .int .i64 most] w fun x w' => x = .returned (.tuple #[.int .i64 0, .int .i64 1]) ∧ Below w.heap.size w w' := by
  obtain ⟨B, hB⟩ := h.form
  have hb := alloc3 w (.cells #[v] 42) (.cells #[.int .i64 most] 2) (.cells #[.int .i64 0] 2)
  refine (Number_by (B := B) 0 1 (fun w2 => Below w.heap.size w w2) ((take_no v _ (h.below hb) _).mono ?_) hB).mono ?_
  · rintro x w2 ⟨rfl, hk⟩
    exact ⟨rfl, hb.trans (hk.mono hb.size), (hk.cell (p := ⟨w.heap.size + 1 + 1, 0, none⟩) (by simp)).trans (last3 _ _ _ _ _), (hk.frozen (p := ⟨w.heap.size + 1 + 1, 0, none⟩) (by simp)).trans (last3f _ _ _ _ _)⟩
  · rintro x w' ⟨rfl, w2, hk, rfl⟩
    exact ⟨rfl, hk.setCell (p := ⟨w.heap.size + 1 + 1, 0, none⟩) (by simp; omega) _⟩
theorem Sm.Text_no {w : World} {v : Value} (h : NoRd w v) (most : Int) : Calls Tryd.prog 26 #[v, .int .i64 most] w fun x w' => x = .returned (.tuple #[.string ⟨#[]⟩, .int .i64 1]) ∧ Below w.heap.size w w' := by
  obtain ⟨B, hB⟩ := h.form
  have hb := alloc3 w (.cells #[v] 42) (.cells #[.int .i64 most] 3) (.cells #[.string ⟨#[]⟩] 9)
  refine (Text_by (B := B) ⟨#[]⟩ 1 (fun w2 => Below w.heap.size w w2) ((take_no v _ (h.below hb) _).mono ?_) hB).mono ?_
  · rintro x w2 ⟨rfl, hk⟩
    exact ⟨rfl, hb.trans (hk.mono hb.size), (hk.cell (p := ⟨w.heap.size + 1 + 1, 0, none⟩) (by simp)).trans (last3 _ _ _ _ _), (hk.frozen (p := ⟨w.heap.size + 1 + 1, 0, none⟩) (by simp)).trans (last3f _ _ _ _ _)⟩
  · rintro x w' ⟨rfl, w2, hk, rfl⟩
    exact ⟨rfl, hk.setCell (p := ⟨w.heap.size + 1 + 1, 0, none⟩) (by simp; omega) _⟩
theorem Sm.Truth_no {w : World} {v : Value} (h : NoRd w v) : Calls Tryd.prog 27 #[v] w fun x w' => x = .returned (.tuple #[.bool false, .int .i64 1]) ∧ Below w.heap.size w w' := by
  obtain ⟨B, hB⟩ := h.form
  have hb : Below w.heap.size w ((w.alloc (.cells #[v] 42)).alloc (.cells #[.bool false] 4)) := ((Below.refl _ w).alloc (Nat.le_refl _) _).alloc (by simp) _
  refine (Truth_by (B := B) false 1 (fun w2 => Below w.heap.size w w2) ((take_no v _ (h.below hb) _).mono ?_) hB).mono ?_
  · rintro x w2 ⟨rfl, hk⟩
    exact ⟨rfl, hb.trans (hk.mono hb.size), (hk.cell (p := ⟨w.heap.size + 1, 0, none⟩) (by simp)).trans (last2 _ _ _ _), (hk.frozen (p := ⟨w.heap.size + 1, 0, none⟩) (by simp)).trans (last2f _ _ _ _)⟩
  · rintro x w' ⟨rfl, w2, hk, rfl⟩
    exact ⟨rfl, hk.setCell (p := ⟨w.heap.size + 1, 0, none⟩) (by simp) _⟩
theorem Sm.End_no {w : World} {v : Value} (h : NoRd w v) : Calls Tryd.prog 28 #[v] w fun x w' => x = .returned (.int .i64 1) ∧ Below w.heap.size w w' := by
  obtain ⟨B, hB⟩ := h.form
  have hb : Below w.heap.size w (w.alloc (.cells #[v] 42)) := (Below.refl _ w).alloc (Nat.le_refl _) _
  refine (End_by (B := B) 1 (fun w2 => Below w.heap.size w w2) ((take_no v _ (h.below hb) _).mono ?_) hB)
  rintro x w2 ⟨rfl, hk⟩
  exact ⟨rfl, hb.trans (hk.mono hb.size)⟩
set_option maxHeartbeats 1000000 in
theorem Sm.Left_no {w : World} {v : Value} (h : NoRd w v) : Calls Tryd.prog 24 #[v] w fun x w' => x = .returned (.int .i64 0) ∧ w = w' := by
  rcases h with rfl | ⟨B, rfl, hB, h1, h2, h3⟩
  · go_enter Tryd.func24, Tryd.ntmps24
    go_wp2
    go_ret
    exact ⟨rfl, rfl⟩
  · go_enter Tryd.func24, Tryd.ntmps24
    go_wp2
    go_ret
    exact ⟨rfl, rfl⟩
