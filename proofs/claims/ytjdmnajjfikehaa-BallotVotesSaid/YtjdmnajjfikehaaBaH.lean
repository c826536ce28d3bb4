/-
  ballot: votes: what lies in memory; whole, there, New. Conditions: as each theorem names them.
-/
import Derived.Test.YtjdmnajjfikehaaBaG
namespace Go.Proofs
open Go Go.RowKit Sm Go.Lib
attribute [local go_sem] Oper.semAt_some
/-- votes that are none, or lie in memory -/
def Sm.VP (w : World) (v : Value) (c : Int) (f : Nat → Bool) : Prop := (v = .pointer none ∧ c = 0 ∧ f = fun _ => false) ∨ ∃ b, v = .pointer (some ⟨b, 0, none⟩) ∧ w.heap[b]? = some (.cells #[.int .i64 c, .bool (f 0), .bool (f 1), .bool (f 2), .bool (f 3), .bool (f 4), .bool (f 5), .bool (f 6), .bool (f 7), .bool (f 8)] 54 (0, 0))
theorem Sm.VP.keep {w W : World} {v : Value} {c : Int} {f : Nat → Bool} (h : VP w v c f) (hb : Below w.heap.size w W) : VP W v c f :=
  h.imp id fun ⟨b, e, hc⟩ => ⟨b, e, (hb.block _ (Array.getElem?_eq_some_iff.1 hc).1).trans hc⟩
theorem Sm.cells10 {W : World} {b : Nat} {c : Int} {f : Nat → Bool} (h : W.heap[b]? = some (.cells #[.int .i64 c, .bool (f 0), .bool (f 1), .bool (f 2), .bool (f 3), .bool (f 4), .bool (f 5), .bool (f 6), .bool (f 7), .bool (f 8)] 54 (0, 0))) :
    W.cell? ⟨b, 0, none⟩ = some (.int .i64 c) ∧ W.cell? ⟨b, 1, none⟩ = some (.bool (f 0)) ∧ W.cell? ⟨b, 2, none⟩ = some (.bool (f 1)) ∧ W.cell? ⟨b, 3, none⟩ = some (.bool (f 2)) ∧ W.cell? ⟨b, 4, none⟩ = some (.bool (f 3)) ∧ W.cell? ⟨b, 5, none⟩ = some (.bool (f 4)) ∧
    W.cell? ⟨b, 6, none⟩ = some (.bool (f 5)) ∧ W.cell? ⟨b, 7, none⟩ = some (.bool (f 6)) ∧ W.cell? ⟨b, 8, none⟩ = some (.bool (f 7)) ∧ W.cell? ⟨b, 9, none⟩ = some (.bool (f 8)) :=
  ⟨cell_of_heap h 0, cell_of_heap h 1, cell_of_heap h 2, cell_of_heap h 3, cell_of_heap h 4, cell_of_heap h 5, cell_of_heap h 6, cell_of_heap h 7, cell_of_heap h 8, cell_of_heap h 9⟩
theorem Sm.whole_any (v : Value) (c : Int) (f : Nat → Bool) (w : World) (h : VP w v c f) : Calls Try.prog 49 #[v] w fun e w' => e = .returned (.agg #[.int .i64 c, .bool (f 0), .bool (f 1), .bool (f 2), .bool (f 3), .bool (f 4), .bool (f 5), .bool (f 6), .bool (f 7), .bool (f 8)]) ∧ Below w.heap.size w w' := by
  have hb0 : Below w.heap.size w (w.alloc (.cells #[.int .i64 0, .bool ((fun _ => false) 0), .bool ((fun _ => false) 1), .bool ((fun _ => false) 2), .bool ((fun _ => false) 3), .bool ((fun _ => false) 4), .bool ((fun _ => false) 5), .bool ((fun _ => false) 6), .bool ((fun _ => false) 7), .bool ((fun _ => false) 8)] 54)) := (Below.refl _ w).alloc (Nat.le_refl _) _
  have hb1 : Below w.heap.size w (w.alloc (.cells #[.int .i64 c, .bool (f 0), .bool (f 1), .bool (f 2), .bool (f 3), .bool (f 4), .bool (f 5), .bool (f 6), .bool (f 7), .bool (f 8)] 54)) := (Below.refl _ w).alloc (Nat.le_refl _) _
  rcases h with ⟨rfl, rfl, rfl⟩ | ⟨b, rfl, hc⟩
  · go_enter Try.func49, Try.ntmps49
    go_wp2
    exact bodyPost_ret (v := .agg #[.int .i64 0, .bool ((fun _ => false) 0), .bool ((fun _ => false) 1), .bool ((fun _ => false) 2), .bool ((fun _ => false) 3), .bool ((fun _ => false) 4), .bool ((fun _ => false) 5), .bool ((fun _ => false) 6), .bool ((fun _ => false) 7), .bool ((fun _ => false) 8)]) (by simp [results, Try.results49, go_sem]) rfl ⟨rfl, hb0⟩
  · have hl := (Array.getElem?_eq_some_iff.1 hc).1
    obtain ⟨c0, c1, c2, c3, c4, c5, c6, c7, c8, c9⟩ := cells10 hc
    clear hc
    go_enter Try.func49, Try.ntmps49
    go_wp2
    exact bodyPost_ret (v := .agg #[.int .i64 c, .bool (f 0), .bool (f 1), .bool (f 2), .bool (f 3), .bool (f 4), .bool (f 5), .bool (f 6), .bool (f 7), .bool (f 8)]) (by simp [results, Try.results49, go_sem]) rfl ⟨rfl, hb1⟩
theorem Sm.fld0 (c : Int) (f : Nat → Bool) (W : World) : (Instr.field 54 (.agg #[.int .i64 c, .bool (f 0), .bool (f 1), .bool (f 2), .bool (f 3), .bool (f 4), .bool (f 5), .bool (f 6), .bool (f 7), .bool (f 8)]) 0).run Try.prog W = .ok (.agg #[.int .i64 c]) W := by kernel_rfl
theorem Sm.fld1 (c : Int) (f : Nat → Bool) (W : World) : (Instr.field 54 (.agg #[.int .i64 c, .bool (f 0), .bool (f 1), .bool (f 2), .bool (f 3), .bool (f 4), .bool (f 5), .bool (f 6), .bool (f 7), .bool (f 8)]) 1).run Try.prog W = .ok (.agg #[.bool (f 0), .bool (f 1), .bool (f 2), .bool (f 3), .bool (f 4), .bool (f 5), .bool (f 6), .bool (f 7), .bool (f 8)]) W := by kernel_rfl
theorem Sm.fld2 (c : Int) (W : World) : (Instr.field 50 (.agg #[.int .i64 c]) 0).run Try.prog W = .ok (.int .i64 c) W := by kernel_rfl
set_option maxRecDepth 100000 in
theorem Sm.there_any (v : Value) (c : Int) (f : Nat → Bool) (w : World) (h : VP w v c f) : Calls Try.prog 47 #[v] w fun e w' => e = .returned (.bool (c != 0)) ∧ Below w.heap.size w w' := by
  have hW := fun W (hb : Below w.heap.size w W) => whole_any v c f W (h.keep hb)
  have hW := hW w (Below.refl _ _)
  have g0 := fun W => fld0 c f W
  have g2 := fun W => fld2 c W
  clear h
  obtain ⟨x, hx⟩ : ∃ x, (c != 0) = x := ⟨_, rfl⟩
  rw [hx]
  go_enter Try.func47, Try.ntmps47
  go_wp2_with (go_at_call 49; (with_reducible refine hW.mono ?_); rintro e w1 ⟨rfl, hb⟩)
  go_ret
  exact ⟨rfl, hb⟩
theorem Sm.New_no (c : Int) (w : World) (hc : chB c = false) : Calls Try.prog 23 #[.int .i64 c] w fun e w' => e = .returned (.tuple #[.pointer none, .int .i64 2]) ∧ Below w.heap.size w w' := by
  have h1 := fun W => Check_any c W
  rw [hc] at h1
  simp only [Bool.false_eq_true, if_false] at h1
  clear hc
  go_enter Try.func23, Try.ntmps23
  go_wp2_with (go_at_call 46; (with_reducible refine (h1 _).mono ?_); rintro e w1 ⟨rfl, hb⟩)
  go_ret2
  exact ⟨rfl, hb⟩
theorem Sm.New_yes (c : Int) (w : World) (hc : chB c = true) : Calls Try.prog 23 #[.int .i64 c] w fun e w' => ∃ b, e = .returned (.tuple #[.pointer (some ⟨b, 0, none⟩), .int .i64 0]) ∧ w.heap.size ≤ b ∧ w'.heap[b]? = some (.cells #[.int .i64 c, .bool ((fun _ => false) 0), .bool ((fun _ => false) 1), .bool ((fun _ => false) 2), .bool ((fun _ => false) 3), .bool ((fun _ => false) 4), .bool ((fun _ => false) 5), .bool ((fun _ => false) 6), .bool ((fun _ => false) 7), .bool ((fun _ => false) 8)] 54 (0, 0)) ∧ Below w.heap.size w w' := by
  have h1 := fun W => Check_any c W
  rw [hc] at h1
  simp only [if_true] at h1
  clear hc
  go_enter Try.func23, Try.ntmps23
  go_wp2_with (go_at_call 46; (with_reducible refine (h1 _).mono ?_); rintro e w1 ⟨rfl, hb⟩)
  go_ret2
  exact ⟨_, rfl, hb.size, World.alloc_heap_new w1 _, hb.trans (((Below.refl _ _).alloc (Nat.le_refl _) _).mono hb.size)⟩
end Go.Proofs
