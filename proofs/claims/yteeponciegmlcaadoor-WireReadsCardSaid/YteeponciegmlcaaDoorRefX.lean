/-
  The contract of the reference reader's text.
-/
import Derived.Test.YteeponciegmlcaaDoorRefE
namespace Go.Proofs
open Go.RowKit Go.Shelf Sm
/-- a call behind the two blocks leaves the second one -/
theorem Sm.two_keep {w w3 : World} (o : Obj) (hb3 : Below ((w.alloc o).alloc (.cells #[.slice none 0 0, .int .i64 0] 47)).heap.size ((w.alloc o).alloc (.cells #[.slice none 0 0, .int .i64 0] 47)) w3) : Below w.heap.size w w3 ∧ w3.heap[w.heap.size + 1]? = some (.cells #[.slice none 0 0, .int .i64 0] 47 (0, 0)) ∧ w.heap.size + 1 < w3.heap.size ∧
      w3.cell? ⟨w.heap.size + 1, 0, none⟩ = some (.slice none 0 0) ∧ w3.cell? ⟨w.heap.size + 1, 1, none⟩ = some (.int .i64 0) ∧ w3.frozen? ⟨w.heap.size + 1, 0, none⟩ = false ∧ w3.frozen? ⟨w.heap.size + 1, 1, none⟩ = false := by
  have hb2 := alloc2 w o (.cells #[.slice none 0 0, .int .i64 0] 47)
  have hs2 : ((w.alloc o).alloc (.cells #[.slice none 0 0, .int .i64 0] 47)).heap.size = w.heap.size + 1 + 1 := by simp
  have hnew : ((w.alloc o).alloc (.cells #[.slice none 0 0, .int .i64 0] 47)).heap[w.heap.size + 1]? = some (.cells #[.slice none 0 0, .int .i64 0] 47 (0, 0)) := by
    have := World.alloc_heap_new (w.alloc o) (.cells #[.slice none 0 0, .int .i64 0] 47)
    rwa [World.size_alloc] at this
  have h3 := (hb3.block (w.heap.size + 1) (by omega)).trans hnew
  exact ⟨hb2.trans (hb3.mono hb2.size), h3, (Array.getElem?_eq_some_iff.1 h3).1, cell_of_heap h3 0, cell_of_heap h3 1, frozen_of_heap h3 0, frozen_of_heap h3 1⟩
/-- what the call leaves when it has stored a reader -/
theorem Sm.two_fin {w w3 : World} (h3 : w3.heap[w.heap.size + 1]? = some (.cells #[.slice none 0 0, .int .i64 0] 47 (0, 0))) (hlt : w.heap.size + 1 < w3.heap.size) (hb : Below w.heap.size w w3) (u0 u1 : Value) (o : Obj) : (((w3.setCell ⟨w.heap.size + 1, 0, none⟩ u0).setCell ⟨w.heap.size + 1, 1, none⟩ u1).alloc o).cell? ⟨w.heap.size + 1, 0, none⟩ = some u0 ∧ (((w3.setCell ⟨w.heap.size + 1, 0, none⟩ u0).setCell ⟨w.heap.size + 1, 1, none⟩ u1).alloc o).cell? ⟨w.heap.size + 1, 1, none⟩ = some u1 ∧ Below w.heap.size w (((w3.setCell ⟨w.heap.size + 1, 0, none⟩ u0).setCell ⟨w.heap.size + 1, 1, none⟩ u1).alloc o) := by
  have h5 := heap_setCells (i := 1) (u := u1) (heap_setCells (i := 0) (u := u0) h3)
  have h6 := (Below.heap_alloc _ o _ (by simp; exact hlt)).trans h5
  have hb6 := (hb.setCell (p := ⟨w.heap.size + 1, 0, none⟩) (by simp) u0).setCell (p := ⟨w.heap.size + 1, 1, none⟩) (by simp) u1
  exact ⟨cell_of_heap h6 0, cell_of_heap h6 1, hb6.alloc hb6.size o⟩
set_option maxRecDepth 100000 in
set_option maxHeartbeats 8000000 in
/-- no number: no text -/
theorem Sm.refTxt_not (A A' : Option Addr) (n c n' c' : Nat) (e e' m no most : Int) (w : World) (hno : (no == 0) = false)
    (hf : Calls Tryd.prog 23 #[.agg #[.slice A n c, .int .i64 e], .int .i64 most] ((w.alloc (.cells #[.slice A n c, .int .i64 e] 47)).alloc (.cells #[.slice none 0 0, .int .i64 0] 47)) fun x w3 => x = .returned (.tuple #[.agg #[.slice A' n' c', .int .i64 e'], .int .i64 m, .int .i64 no]) ∧ Below ((w.alloc (.cells #[.slice A n c, .int .i64 e] 47)).alloc (.cells #[.slice none 0 0, .int .i64 0] 47)).heap.size ((w.alloc (.cells #[.slice A n c, .int .i64 e] 47)).alloc (.cells #[.slice none 0 0, .int .i64 0] 47)) w3) :
    Calls Tryd.prog 50 #[.agg #[.slice A n c, .int .i64 e], .int .i64 most] w fun x w' => x = .returned (.tuple #[.agg #[.slice A' n' c', .int .i64 e'], .string ⟨#[]⟩, .int .i64 no]) ∧ Below w.heap.size w w' := by
  have hf2 := hf.mono (R' := fun x w3 => x = .returned (.tuple #[.agg #[.slice A' n' c', .int .i64 e'], .int .i64 m, .int .i64 no]) ∧ _) (fun x w3 ⟨hx, hb3⟩ => ⟨hx, two_keep _ hb3⟩)
  clear hf
  go_enter Tryd.func50, Tryd.ntmps50
  go_wp2_with (go_at_call 23; (with_reducible refine hf2.mono ?_); rintro x w3 ⟨rfl, hb3, h3, hlt, c0, c1, f0, f1⟩; have hg0 := Nat.ne_of_gt hlt)
  obtain ⟨z0, z1, z2⟩ := two_fin h3 hlt hb3 (.slice A' n' c') (.int .i64 e') (.cells #[.slice A' n' c', .int .i64 e'] 47)
  exact bodyPost_ret (v := .tuple #[.agg #[.slice A' n' c', .int .i64 e'], .string ⟨#[]⟩, .int .i64 no]) (by simp [results, Tryd.results50, go_sem, z0, z1]) rfl ⟨rfl, z2⟩
