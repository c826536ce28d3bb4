/-
  Opening of an argument that is a slice of slices of bytes. Conditions: what the frame says of an argument that can be read.
-/
import Derived.Deep.Matrix
import Derived.Test.YtdpcgfaknbfmmaaDoorOpenB
import Derived.Test.YtdpcgfaknbfmmaaDoorJoi
namespace Go.Proofs.YtdpcgfaknbfmmaaDoor
open Go Go.ChangeShapes Go.WideShapes Go.ChangeAt Go.WideMaps Go.WideElems Go.RowKit Go.Deep Sm
theorem c30 : Tryd.prog.cellsOf 0x1e = 1 := by kernel_rfl
set_option maxRecDepth 100000 in
theorem rd_of_cells {W : World} {a : Addr} {len : Nat} {zs : List Int} (hcell : ∀ i, i < zs.length → W.cell? (a.add i) = some (.int .u8 (zs.getD i 0))) (hwz : ∀ n ∈ zs, (Lit.int .u8 n).wf = true) :
    Rd W W.heap.size (some a) ((zs.take len).map (fun n => BitVec.ofNat 8 n.toNat)) := by
  intro h0
  have hp : 0 < zs.length := by simp at h0; omega
  obtain ⟨b, off, rfl, hc⟩ := ints_at hcell hp
  refine ⟨b, off, rfl, World.block_lt_of_cell? W _ (hc 0 hp), fun j c hj => ?_⟩
  rw [List.getElem?_map, List.getElem?_take] at hj
  split at hj
  · have hjz : j < zs.length := by
      rcases Nat.lt_or_ge j zs.length with h | h
      · exact h
      · rw [List.getElem?_eq_none h] at hj; simp at hj
    rw [List.getElem?_eq_getElem hjz] at hj
    simp only [Option.map_some, Option.some.injEq] at hj
    subst hj
    rw [hc j hjz, toIb (hwz _ (List.getElem_mem hjz))]
    congr 2
    simp [List.getD_eq_getElem?_getD, hjz]
  · simp at hj
set_option maxRecDepth 100000 in
/-- parts that came in -/
theorem open_psc {H : Type} {enc : TypeId × Value → H} {W : World} {base : Nat} {v : Value} {d : DataW H} {p : List MemPlace} (hok : Value.okWide Tryd.prog W .any base 0x1d v) (h : DataW.Trod enc Tryd.prog W 0 (fun _ => true) true 0x1d v d p) :
    ∃ A n c ps, v = .slice A n c ∧ n ≤ c ∧ n ≤ 9223372036854775807 ∧ PsC W A n ps := by
  obtain ⟨a0, len, cap, rfl⟩ := okWide_slice Tryd.underlying29 hok
  obtain ⟨fuel, hf⟩ := h
  rcases open_int_rows Tryd.underlying29 Tryd.underlying30 Tryd.underlying5 c30 c5 (cs := [.slice a0 len cap]) (by simpa [Value.cells] using hf) with ⟨hcs, _⟩ | ⟨a, len', cap', A, L, C, Z, hcs, _, hl, hm, _, hr⟩
  · simp only [List.cons.injEq, and_true] at hcs
    exact ⟨none, 0, 0, [], hcs, Nat.le_refl _, by omega, ⟨rfl, (fun h => absurd h (by simp)), fun q hq => by cases hq⟩⟩
  · simp only [List.cons.injEq, and_true] at hcs
    refine ⟨some a, len', cap', (List.range len').map (fun r => ⟨A r, L r, C r, ((Z r).take (L r)).map (fun n => BitVec.ofNat 8 n.toNat)⟩), hcs, hl, by unfold maxLen at hm; omega, ⟨by simp, ?_, ?_⟩⟩
    · intro h0
      have hp : 0 < len' := by simpa using h0
      have c0 := (hr 0 (by omega)).1
      obtain ⟨b, off, spot⟩ := a
      have hspot : spot = none := by simpa [Addr.add] using World.cell?_spot c0
      subst hspot
      have hb : b < W.heap.size := by
        have := World.block_lt_of_cell? W _ c0
        rw [Go.WideShapes.add_plain] at this
        exact this
      refine ⟨b, off, rfl, hb, id, fun j q hj => ?_⟩
      rw [List.getElem?_map, List.getElem?_map] at hj
      obtain ⟨r0, hr0, rfl⟩ := Option.map_eq_some_iff.1 hj
      obtain ⟨r, hr1, rfl⟩ := Option.map_eq_some_iff.1 hr0
      have hjl : j < len' := by have := (List.getElem?_eq_some_iff.1 hr1).1; simpa using this
      obtain rfl : j = r := by rw [List.getElem?_range hjl] at hr1; exact Option.some.inj hr1
      have := (hr j (by omega)).1
      rw [Go.WideShapes.add_plain] at this
      exact this
    · intro q hq
      obtain ⟨r, hr1, rfl⟩ := List.mem_map.1 hq
      have hrl : r < len' := by simpa using hr1
      obtain ⟨_, h2, h3, h4, h5, h6, h7⟩ := hr r (by omega)
      refine ⟨by simp; omega, by show L r ≤ C r; omega, by show C r ≤ 9223372036854775807; unfold maxLen at h3; omega, ?_⟩
      rcases hA : A r with _ | a'
      · have hc0 := h6 hA
        intro hpos
        simp at hpos
        omega
      · exact rd_of_cells (fun i hi => (h7 a' hA).2 i (by omega)) h5
end Go.Proofs.YtdpcgfaknbfmmaaDoor
