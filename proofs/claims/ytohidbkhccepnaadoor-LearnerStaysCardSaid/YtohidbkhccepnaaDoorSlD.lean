/-
  slots: Majority, Owner, Turn. Conditions: as each theorem names them.
-/
import Derived.Test.YtohidbkhccepnaaDoorSlC
namespace Go.Proofs
open Go Go.RowKit Sm Go.Lib
attribute [local go_sem] Oper.semAt_some
theorem Sm.box_cell (w : World) (v : Value) (t : TypeId) : (w.alloc (.cells #[v] t)).cell? ⟨w.heap.size, 0, none⟩ = some v := cell_of_heap (World.alloc_heap_new w _) 0
theorem Sm.cell_keep {w W : World} {b i : Nat} {v : Value} (hb : Below w.heap.size w W) (hl : b < w.heap.size) (h : w.cell? ⟨b, i, none⟩ = some v) : W.cell? ⟨b, i, none⟩ = some v := (hb.cell (p := ⟨b, i, none⟩) hl).trans h
theorem Sm.f33_any (b d : Nat) (s c : Int) (w : World) (hs : w.cell? ⟨b, 0, none⟩ = some (.int .i64 s)) (hc : w.cell? ⟨d, 0, none⟩ = some (.int .i64 c)) (h : chB c = true) (h0 : 0 ≤ s) (h1 : s ≤ 4095) : Calls Tryd.prog 27 #[.pointer (some ⟨b, 0, none⟩), .pointer (some ⟨d, 0, none⟩)] w fun e w' => e = .returned (.int .i64 (s % c)) ∧ w = w' := by
  rcases chB_iff.1 h with rfl | rfl | rfl | rfl
  all_goals
    go_enter Tryd.func27, Tryd.ntmps27
    go_wp2
    go_ret
    exact ⟨by rfl, rfl⟩
/-- the majority of a choir -/
def Sm.majV (c : Int) : Int := if chB c = true then c / 2 + 1 else 0
end Go.Proofs
