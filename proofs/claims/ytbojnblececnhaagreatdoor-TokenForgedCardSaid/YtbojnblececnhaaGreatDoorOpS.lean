/-
  The opening of texts in a row, and of a token, among the arguments. Conditions: what the frame says of an argument that can be read.
-/
import Derived.SliceStrings
import Derived.Deep.Strs
import Derived.Test.YtbojnblececnhaaGreatDoorQ12
namespace Go.Proofs
open Go.RowKit Go.Shelf Sm
end Go.Proofs
namespace Go.Proofs.YtbojnblececnhaaGreatDoor
open Go Go.ChangeShapes Go.WideShapes Go.ChangeAt Go.WideMaps Go.WideElems Go.RowKit Sm
theorem c9s : Tryz.prog.cellsOf 9 = 1 := by kernel_rfl
theorem c36t : Tryz.prog.cellsOf 0x18 = 3 := by kernel_rfl
theorem c3t : Tryz.prog.cellsOf 3 = 1 := by kernel_rfl
theorem c2t : Tryz.prog.cellsOf 2 = 1 := by kernel_rfl
set_option maxRecDepth 100000 in
theorem open_strs {H : Type} {enc : TypeId × Value → H} {W : World} {base : Nat} {v : Value} {d : DataW H} {p : List MemPlace} (hok : Value.okWide Tryz.prog W .any base 0x16 v) (h : DataW.Trod enc Tryz.prog W 0 (fun _ => true) true 0x16 v d p) :
    ∃ (A : Option Addr) (n c : Nat) (ss : List ByteArray), v = .slice A n c ∧ ss.length = n ∧ n ≤ c ∧ c ≤ 9223372036854775807 ∧ Rds W (fun _ => False) A (ss.map Value.string) := by
  obtain ⟨a0, len, cap, rfl⟩ := okWide_slice Tryz.underlying22 hok
  obtain ⟨fuel, hf⟩ := h
  rcases open_strings Tryz.underlying22 Tryz.underlying9 c9s (cs := [.slice a0 len cap]) (by simpa [Value.cells] using hf) with ⟨hcs, _⟩ | ⟨a, len', cap', ss, hcs, _, hl, hm, hsl, _, hc, _⟩
  · simp only [List.cons.injEq, and_true] at hcs
    exact ⟨none, 0, 0, [], hcs, rfl, Nat.le_refl _, by omega, (fun h => absurd h (by simp))⟩
  · simp only [List.cons.injEq, and_true] at hcs
    have hlm : len' ≤ ss.length := by rw [hsl]; simp; omega
    refine ⟨some a, len', cap', ss.take len', hcs, by rw [List.length_take]; omega, hl, by unfold maxLen at hm; omega, ?_⟩
    intro h0
    rw [List.length_map, List.length_take] at h0
    have c0 := hc 0 (by omega)
    obtain ⟨b, off, spot⟩ := a
    have hspot : spot = none := by simpa [Addr.add] using World.cell?_spot c0
    subst hspot
    have hb : b < W.heap.size := by
      have := World.block_lt_of_cell? W _ c0
      rw [Go.WideShapes.add_plain] at this
      exact this
    refine ⟨b, off, rfl, hb, id, fun j x hj => ?_⟩
    rw [List.getElem?_map] at hj
    obtain ⟨s, hjs, rfl⟩ := Option.map_eq_some_iff.1 hj
    rw [List.getElem?_take] at hjs
    split at hjs
    · rename_i hjl
      have hjz : j < ss.length := (List.getElem?_eq_some_iff.1 hjs).1
      have := hc j hjz
      simp only [Go.WideShapes.add_plain] at this
      rw [this]
      rw [List.getD_eq_getElem?_getD, hjs]
      rfl
    · simp at hjs
set_option maxRecDepth 100000 in
theorem open_tok {H : Type} {enc : TypeId × Value → H} {W : World} {base : Nat} {v : Value} {d : DataW H} {p : List MemPlace} (hok : Value.okWide Tryz.prog W .any base 0x18 v) (h : DataW.Trod enc Tryz.prog W 0 (fun _ => true) true 0x18 v d p) :
    ∃ m s i : Int, v = .agg #[.int .i64 m, .int .i64 s, .int .i64 i] := by
  obtain ⟨cs, rfl, hcs⟩ := okWide_struct Tryz.underlying24 hok
  obtain ⟨fuel, hf⟩ := h
  rw [c36t] at hcs
  obtain ⟨y0, y1, y2, n, _, _, g0, g1, g2⟩ := Go.Deep.trod_struct3 Tryz.underlying24 (cs := cs.toList) (by simpa [Value.cells] using hf)
  obtain ⟨a, ha, _, _⟩ := DataW.trod_int Tryz.underlying3 g0
  obtain ⟨b, hb, _, _⟩ := DataW.trod_int Tryz.underlying2 g1
  obtain ⟨c, hc, _, _⟩ := DataW.trod_int Tryz.underlying2 g2
  rw [c3t] at ha
  rw [c2t] at hb hc
  obtain ⟨l⟩ := cs
  match l, hcs with
  | [x, y, z], _ =>
    simp at ha hb hc
    subst ha hb hc
    exact ⟨a, b, c, rfl⟩
end Go.Proofs.YtbojnblececnhaaGreatDoor
