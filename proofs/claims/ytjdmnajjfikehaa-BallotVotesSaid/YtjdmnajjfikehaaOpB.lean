/-
  Opening of arguments of these laws: ballots, rows of ballots, numbers. Conditions: what the frame says of an argument that can be read.
-/
import Derived.Lib.SmallJoins
import Derived.Deep.Slices
import Derived.Test.YtjdmnajjfikehaaFrame
import Derived.Test.YtjdmnajjfikehaaWBut
import Derived.Test.YtjdmnajjfikehaaBut
import Derived.Test.YtjdmnajjfikehaaBaE
namespace Go.Proofs
open Go Go.ChangeShapes Go.WideShapes Go.ChangeAt Go.WideMaps Go.WideElems Go.RowKit Sm Go.Deep
/-- ballots that came in -/
def Sm.RdBals (w : World) (A : Option Addr) (xs : List (Int × Int)) : Prop :=
  xs = [] ∨ ∃ g off, A = some ⟨g, off, none⟩ ∧ g < w.heap.size ∧ ∀ j (h : j < xs.length), w.cell? ⟨g, off + j * 2, none⟩ = some (.int .i64 xs[j].1) ∧ w.cell? ⟨g, off + j * 2 + 1, none⟩ = some (.int .i64 xs[j].2)
namespace Ytjdmnajjfikehaa
theorem c2 : Try.prog.cellsOf 2 = 1 := by kernel_rfl
theorem c3 : Try.prog.cellsOf 3 = 1 := by kernel_rfl
theorem c23 : Try.prog.cellsOf 23 = 2 := by kernel_rfl
/-- numbers that came in -/
theorem nums_of_trod {H : Type} {enc : TypeId × Value → H} {W : World} {fuel : Nat} {cs : List Value} {x : DataW H × List MemPlace} (h : DataW.trod enc Try.prog W 0 (fun _ => true) true fuel 45 cs = some x) :
    ∃ (A : Option Addr) (n c : Nat) (l : List Int), cs = [.slice A n c] ∧ l.length = n ∧ n ≤ c ∧ c ≤ 9223372036854775807 ∧ Rds W (fun _ => False) A (l.map fun k => .int .i64 k) := by
  rcases open_ints Try.underlying45 Try.underlying3 c3 h with ⟨rfl, _⟩ | ⟨a, len, cap, zs, rfl, _, hl, hm, hz, _, hcell, hwz⟩
  · exact ⟨none, 0, 0, [], rfl, rfl, Nat.le_refl _, by omega, fun h => absurd h (by simp)⟩
  · simp at hz
    refine ⟨some a, len, cap, zs.take len, rfl, by simp; omega, hl, by unfold maxLen at hm; omega, ?_⟩
    intro h0
    have hp : 0 < zs.length := by simp at h0; omega
    obtain ⟨b, off, rfl, hc⟩ := ints_at hcell hp
    refine ⟨b, off, rfl, World.block_lt_of_cell? W _ (hc 0 hp), id, fun j c hj => ?_⟩
    rw [List.getElem?_map, List.getElem?_take] at hj
    split at hj
    · rename_i hjl
      have hjz : j < zs.length := by omega
      rw [List.getElem?_eq_getElem hjz] at hj
      simp only [Option.map_some, Option.some.injEq] at hj
      subst hj
      rw [hc j hjz]
      congr 2
      simp [List.getD_eq_getElem?_getD, hjz]
    · simp at hj
set_option maxRecDepth 100000 in
theorem open_nums {H : Type} {enc : TypeId × Value → H} {W : World} {base : Nat} {v : Value} {d : DataW H} {p : List MemPlace} (hok : Value.okWide Try.prog W .any base 45 v) (h : DataW.Trod enc Try.prog W 0 (fun _ => true) true 45 v d p) :
    ∃ (A : Option Addr) (n c : Nat) (l : List Int), v = .slice A n c ∧ l.length = n ∧ n ≤ c ∧ c ≤ 9223372036854775807 ∧ Rds W (fun _ => False) A (l.map fun k => .int .i64 k) := by
  obtain ⟨a0, len, cap, rfl⟩ := okWide_slice Try.underlying45 hok
  obtain ⟨fuel, hf⟩ := h
  obtain ⟨A, n, c, l, hcs, h1, h2, h3, h4⟩ := nums_of_trod (cs := [.slice a0 len cap]) (by simpa [Value.cells] using hf)
  simp only [List.cons.injEq, and_true] at hcs
  exact ⟨A, n, c, l, hcs, h1, h2, h3, h4⟩
set_option maxRecDepth 100000 in
/-- one ballot that came in, by its two cells -/
theorem bal_of_trod {H : Type} {enc : TypeId × Value → H} {W : World} {fuel : Nat} {cs : List Value} {x : DataW H × List MemPlace} (h : DataW.trod enc Try.prog W 0 (fun _ => true) true fuel 23 cs = some x) : ∃ r p : Int, cs = [.int .i64 r, .int .i64 p] := by
  obtain ⟨y0, y1, n, _, hlen, g0, g1⟩ := trod_struct2 Try.underlying23 h
  rw [c23] at hlen
  match cs, hlen with
  | [v0, v1], _ =>
    simp [c2, c3] at g0 g1
    obtain ⟨a, e0, _, _⟩ := DataW.trod_int Try.underlying2 g0
    obtain ⟨b, e1, _, _⟩ := DataW.trod_int Try.underlying3 g1
    simp only [List.cons.injEq, and_true] at e0 e1
    subst e0 e1
    exact ⟨a, b, rfl⟩
set_option maxRecDepth 100000 in
theorem open_bal {H : Type} {enc : TypeId × Value → H} {W : World} {base : Nat} {v : Value} {d : DataW H} {p : List MemPlace} (hok : Value.okWide Try.prog W .any base 23 v) (h : DataW.Trod enc Try.prog W 0 (fun _ => true) true 23 v d p) :
    ∃ r p : Int, v = .agg #[.int .i64 r, .int .i64 p] := by
  obtain ⟨cs, rfl, hcs⟩ := okWide_struct Try.underlying23 hok
  obtain ⟨fuel, hf⟩ := h
  obtain ⟨r, q, h1⟩ := bal_of_trod (cs := cs.toList) (by simpa [Value.cells] using hf)
  exact ⟨r, q, by rw [← h1]⟩
set_option maxRecDepth 100000 in
set_option maxHeartbeats 2000000 in
theorem open_bals {H : Type} {enc : TypeId × Value → H} {W : World} {base : Nat} {v : Value} {d : DataW H} {p : List MemPlace} (hok : Value.okWide Try.prog W .any base 40 v) (h : DataW.Trod enc Try.prog W 0 (fun _ => true) true 40 v d p) :
    ∃ (A : Option Addr) (n c : Nat) (xs : List (Int × Int)), v = .slice A n c ∧ xs.length = n ∧ n ≤ c ∧ c ≤ 9223372036854775807 ∧ RdBals W A xs := by
  obtain ⟨a0, len, cap, rfl⟩ := okWide_slice Try.underlying40 hok
  obtain ⟨fuel, hf⟩ := h
  rcases open_slice Try.underlying40 (cs := [.slice a0 len cap]) (by simpa [Value.cells] using hf) with ⟨hcs, _⟩ | ⟨a, len', cap', m, n, D, Pl, hcs, _, hl, hm, hmm, _, hx⟩
  · simp only [List.cons.injEq, and_true] at hcs
    exact ⟨none, 0, 0, [], hcs, rfl, Nat.le_refl _, by omega, .inl rfl⟩
  · simp only [List.cons.injEq, and_true] at hcs
    have hlm : len' ≤ m := by rw [hmm]; simp; omega
    have hone : ∀ i, i < m → ∃ x : Int × Int, W.cell? (a.add (i * 2)) = some (.int .i64 x.1) ∧ W.cell? (a.add (i * 2 + 1)) = some (.int .i64 x.2) := by
      intro i hi
      obtain ⟨cs', h1, h2⟩ := hx i hi
      rw [c23] at h1
      obtain ⟨_, hlen, hcell⟩ := World.cells?_some h1
      obtain ⟨r, q, hy⟩ := bal_of_trod h2
      subst hy
      have q0 := hcell 0 (by omega)
      have q1 := hcell 1 (by omega)
      rw [add_add] at q0 q1
      exact ⟨(r, q), q0, q1⟩
    obtain ⟨X, hX⟩ := choose_lt hone
    refine ⟨some a, len', cap', (List.range len').map X, hcs, by simp, hl, by unfold maxLen at hm; omega, ?_⟩
    by_cases hp : 0 < len'
    · right
      have c0 := (hX 0 (by omega)).1
      obtain ⟨b, off, spot⟩ := a
      have hspot : spot = none := by simpa [Addr.add] using World.cell?_spot c0
      subst hspot
      have hb : b < W.heap.size := by
        have := World.block_lt_of_cell? W _ c0
        rw [Go.WideShapes.add_plain] at this
        exact this
      refine ⟨b, off, rfl, hb, fun j hj => ?_⟩
      have hjl : j < len' := by simpa using hj
      have := hX j (by omega)
      rw [Go.WideShapes.add_plain, Go.WideShapes.add_plain] at this
      simp only [List.getElem_map, List.getElem_range]
      exact this
    · left
      obtain rfl : len' = 0 := by omega
      rfl
end Ytjdmnajjfikehaa
end Go.Proofs
