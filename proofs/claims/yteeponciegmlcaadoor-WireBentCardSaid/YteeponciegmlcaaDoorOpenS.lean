/-
  Opening of texts that came in. Conditions: what the frame says of an argument that can be read.
-/
import Derived.SliceStrings
import Derived.Test.YteeponciegmlcaaDoorOpen
import Derived.Test.YteeponciegmlcaaDoorLawV
namespace Go.Proofs
open Go Go.ChangeShapes Go.WideShapes Go.ChangeAt Go.WideMaps Go.WideElems Go.RowKit Sm
namespace YteeponciegmlcaaDoor
theorem c9s : Tryd.prog.cellsOf 9 = 1 := by kernel_rfl
set_option maxRecDepth 100000 in
theorem open_strs {H : Type} {enc : TypeId × Value → H} {W : World} {base : Nat} {v : Value} {d : DataW H} {p : List MemPlace} (hok : Value.okWide Tryd.prog W .any base 82 v) (h : DataW.Trod enc Tryd.prog W 0 (fun _ => true) true 82 v d p) :
    ∃ (A : Option Addr) (n c : Nat) (ss : List ByteArray), v = .slice A n c ∧ ss.length = n ∧ n ≤ c ∧ c ≤ 9223372036854775807 ∧ RdStrs W A ss := by
  obtain ⟨a0, len, cap, rfl⟩ := okWide_slice Tryd.underlying82 hok
  obtain ⟨fuel, hf⟩ := h
  rcases open_strings Tryd.underlying82 Tryd.underlying9 c9s (cs := [.slice a0 len cap]) (by simpa [Value.cells] using hf) with ⟨hcs, _⟩ | ⟨a, len', cap', ss, hcs, _, hl, hm, hsl, _, hc, _⟩
  · simp only [List.cons.injEq, and_true] at hcs
    exact ⟨none, 0, 0, [], hcs, rfl, Nat.le_refl _, by omega, (fun h => absurd h (by simp))⟩
  · simp only [List.cons.injEq, and_true] at hcs
    have hlm : len' ≤ ss.length := by rw [hsl]; simp; omega
    refine ⟨some a, len', cap', ss.take len', hcs, by rw [List.length_take]; omega, hl, by unfold maxLen at hm; omega, ?_⟩
    intro h0
    rw [List.length_take] at h0
    have c0 := hc 0 (by omega)
    obtain ⟨b, off, spot⟩ := a
    have hspot : spot = none := by simpa [Addr.add] using World.cell?_spot c0
    subst hspot
    have hb : b < W.heap.size := by
      have := World.block_lt_of_cell? W _ c0
      rw [Go.WideShapes.add_plain] at this
      exact this
    refine ⟨b, off, rfl, hb, fun j s hj => ?_⟩
    rw [List.getElem?_take] at hj
    split at hj
    · rename_i hjl
      have hjz : j < ss.length := (List.getElem?_eq_some_iff.1 hj).1
      have := hc j hjz
      simp only [Go.WideShapes.add_plain] at this
      rw [this]
      rw [List.getD_eq_getElem?_getD, hj]
      rfl
    · simp at hj
end YteeponciegmlcaaDoor
end Go.Proofs
