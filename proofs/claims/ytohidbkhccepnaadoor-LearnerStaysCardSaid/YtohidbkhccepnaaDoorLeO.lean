/-
  Opening of arguments of these laws: calls. Conditions: what the frame says of an argument that can be read.
-/
import Derived.Lib.SmallJoins
import Derived.Deep.Slices
import Derived.Test.YtohidbkhccepnaaDoorFrame
import Derived.Test.YtohidbkhccepnaaDoorLeK
namespace Go.Proofs
open Go Go.ChangeShapes Go.WideShapes Go.ChangeAt Go.WideMaps Go.WideElems Go.RowKit Sm Go.Deep
theorem Sm.trod_s2 {H : Type} {enc : TypeId × Value → H} {P : Program} {w : World} {base : Nat} {spare : Nat → Bool} {held : Bool} {t : TypeId} {f0 f1 : Field} {fuel : Nat} {cs : List Value} {x : DataW H × List MemPlace} (ht : P.underlying t = some (.struct #[f0, f1])) (h : DataW.trod enc P w base spare held fuel t cs = some x) :
    ∃ y0 y1 n, cs.length = P.cellsOf t ∧ DataW.trod enc P w base spare held n f0.type ((cs.drop f0.offset).take (P.cellsOf f0.type)) = some y0 ∧ DataW.trod enc P w base spare held n f1.type ((cs.drop f1.offset).take (P.cellsOf f1.type)) = some y1 := by
  obtain ⟨xs, n, _, rfl, hl, hlen, hf⟩ := DataW.trod_struct ht h
  match xs, hlen with
  | [y0, y1], _ => exact ⟨y0, y1, n, hl, by simpa using hf 0 f0 rfl, by simpa using hf 1 f1 rfl⟩
namespace YtohidbkhccepnaaDoor
theorem c3 : Tryd.prog.cellsOf 3 = 1 := by kernel_rfl
theorem c2 : Tryd.prog.cellsOf 2 = 1 := by kernel_rfl
theorem c9 : Tryd.prog.cellsOf 9 = 1 := by kernel_rfl
theorem c31 : Tryd.prog.cellsOf 31 = 1 := by kernel_rfl
theorem c37 : Tryd.prog.cellsOf 37 = 2 := by kernel_rfl
theorem c33 : Tryd.prog.cellsOf 33 = 4 := by kernel_rfl
theorem c39 : Tryd.prog.cellsOf 39 = 8 := by kernel_rfl
set_option maxRecDepth 100000 in
set_option maxHeartbeats 2000000 in
theorem bal_of_trod {H : Type} {enc : TypeId × Value → H} {W : World} {fuel : Nat} {cs : List Value} {x : DataW H × List MemPlace} (h : DataW.trod enc Tryd.prog W 0 (fun _ => true) true fuel 37 cs = some x) : ∃ r q : Int, cs = [.int .i64 r, .int .i64 q] ∧ I64 r ∧ I64 q := by
  obtain ⟨y0, y1, k, hlen, g0, g1⟩ := trod_s2 Tryd.underlying37 h
  rw [c37] at hlen
  match cs, hlen with
  | [v0, v1], _ =>
    simp [c2, c3] at g0 g1
    obtain ⟨a, e0, _, w0⟩ := DataW.trod_int Tryd.underlying2 g0
    obtain ⟨b, e1, _, w1⟩ := DataW.trod_int Tryd.underlying3 g1
    simp only [List.cons.injEq, and_true] at e0 e1
    subst e0 e1
    exact ⟨a, b, rfl, bd64 rfl w0, bd64 rfl w1⟩
set_option maxRecDepth 100000 in
set_option maxHeartbeats 2000000 in
theorem ent_of_trod {H : Type} {enc : TypeId × Value → H} {W : World} {fuel : Nat} {cs : List Value} {x : DataW H × List MemPlace} (h : DataW.trod enc Tryd.prog W 0 (fun _ => true) true fuel 33 cs = some x) : ∃ (e0 : EntM), cs = [.int .i64 e0.k, .int .i64 e0.m, .int .i64 e0.n, .string e0.t] ∧ I64 e0.k ∧ I64 e0.m ∧ I64 e0.n ∧ e0.t.size ≤ 9223372036854775807 := by
  obtain ⟨y0, y1, y2, y3, k, _, hlen, g0, g1, g2, g3⟩ := Go.Joins.trod_struct4 Tryd.underlying33 h
  rw [c33] at hlen
  match cs, hlen with
  | [v0, v1, v2, v3], _ =>
    simp [c2, c3, c9, c31] at g0 g1 g2 g3
    obtain ⟨a, e0, _, w0⟩ := DataW.trod_int Tryd.underlying31 g0
    obtain ⟨b, e1, _, w1⟩ := DataW.trod_int Tryd.underlying3 g1
    obtain ⟨c, e2, _, w2⟩ := DataW.trod_int Tryd.underlying2 g2
    obtain ⟨s, e3, hs⟩ := DataW.trod_string Tryd.underlying9 g3
    simp only [List.cons.injEq, and_true] at e0 e1 e2 e3
    subst e0 e1 e2 e3
    exact ⟨⟨a, b, c, s⟩, rfl, bd64 rfl w0, bd64 rfl w1, bd64 rfl w2, by first | exact hs | exact hs.2 | exact hs.1 | (have := hs; unfold maxLen at this; omega) | (have := hs.2; unfold maxLen at this; omega)⟩
set_option maxRecDepth 100000 in
set_option maxHeartbeats 2000000 in
/-- one call that came in, by its eight cells -/
theorem act_of_trod {H : Type} {enc : TypeId × Value → H} {W : World} {fuel : Nat} {cs : List Value} {x : DataW H × List MemPlace} (h : DataW.trod enc Tryd.prog W 0 (fun _ => true) true fuel 39 cs = some x) : ∃ y : XV, cs = y.cells ∧ y.came := by
  obtain ⟨y0, y1, y2, y3, k, _, hlen, g0, g1, g2, g3⟩ := Go.Joins.trod_struct4 Tryd.underlying39 h
  rw [c39] at hlen
  match cs, hlen with
  | [v0, v1, v2, v3, v4, v5, v6, v7], _ =>
    simp [c3, c37, c33] at g0 g1 g2 g3
    obtain ⟨a, e0, _, w0⟩ := DataW.trod_int Tryd.underlying3 g0
    obtain ⟨b, e1, _, w1⟩ := DataW.trod_int Tryd.underlying3 g1
    obtain ⟨r, q, e2, hr, hq⟩ := bal_of_trod g2
    obtain ⟨e, e3, hk, hm, hn, ht⟩ := ent_of_trod g3
    simp only [List.cons.injEq, and_true] at e0 e1 e2 e3
    obtain ⟨e20, e21⟩ := e2
    obtain ⟨e30, e31, e32, e33⟩ := e3
    subst e0 e1 e20 e21 e30 e31 e32 e33
    exact ⟨⟨a, b, r, q, e⟩, rfl, hk, hm, hn, hr, hq, ht⟩
set_option maxRecDepth 100000 in
set_option maxHeartbeats 2000000 in
theorem open_acts {H : Type} {enc : TypeId × Value → H} {W : World} {base : Nat} {v : Value} {d : DataW H} {p : List MemPlace} (hok : Value.okWide Tryd.prog W .any base 22 v) (h : DataW.Trod enc Tryd.prog W 0 (fun _ => true) true 22 v d p) :
    ∃ (A : Option Addr) (n c : Nat) (xs : List XV), v = .slice A n c ∧ xs.length = n ∧ n ≤ c ∧ c ≤ 9223372036854775807 ∧ RdX W A xs ∧ ∀ x ∈ xs, XV.came x := by
  obtain ⟨a0, len, cap, rfl⟩ := okWide_slice Tryd.underlying22 hok
  obtain ⟨fuel, hf⟩ := h
  rcases open_slice Tryd.underlying22 (cs := [.slice a0 len cap]) (by simpa [Value.cells] using hf) with ⟨hcs, _⟩ | ⟨a, len', cap', m, n, D, Pl, hcs, _, hl, hm, hmm, _, hx⟩
  · simp only [List.cons.injEq, and_true] at hcs
    exact ⟨none, 0, 0, [], hcs, rfl, Nat.le_refl _, by omega, (fun h => absurd h (by simp)), fun q hq => by cases hq⟩
  · simp only [List.cons.injEq, and_true] at hcs
    have hlm : len' ≤ m := by rw [hmm]; simp; omega
    have hone : ∀ i, i < m → ∃ x : XV, (∀ j v, x.cells[j]? = some v → W.cell? (a.add (i * 8 + j)) = some v) ∧ XV.came x := by
      intro i hi
      obtain ⟨cs', h1, h2⟩ := hx i hi
      rw [c39] at h1
      obtain ⟨_, hlen, hcell⟩ := World.cells?_some h1
      obtain ⟨y, hy, hc⟩ := act_of_trod h2
      refine ⟨y, fun j v hj => ?_, hc⟩
      rw [← hy] at hj
      have hjl : j < cs'.length := (List.getElem?_eq_some_iff.1 hj).1
      have q := hcell j (by omega)
      rw [add_add] at q
      rw [q]
      exact hj
    haveI : Inhabited XV := ⟨⟨0, 0, 0, 0, noE⟩⟩
    obtain ⟨X, hX⟩ := choose_lt hone
    refine ⟨some a, len', cap', (List.range len').map X, hcs, by simp, hl, by unfold maxLen at hm; omega, ?_, ?_⟩
    · intro h0
      have hp : 0 < len' := by simpa using h0
      have c0 := (hX 0 (by omega)).1 0 _ rfl
      obtain ⟨b, off, spot⟩ := a
      have hspot : spot = none := by simpa [Addr.add] using World.cell?_spot c0
      subst hspot
      have hb : b < W.heap.size := by
        have := World.block_lt_of_cell? W _ c0
        rw [Go.WideShapes.add_plain] at this
        exact this
      refine ⟨b, off, rfl, hb, fun j q hj i v hi => ?_⟩
      rw [List.getElem?_map] at hj
      obtain ⟨r, hr1, rfl⟩ := Option.map_eq_some_iff.1 hj
      have hjl : j < len' := by have := (List.getElem?_eq_some_iff.1 hr1).1; simpa using this
      obtain rfl : j = r := by rw [List.getElem?_range hjl] at hr1; exact Option.some.inj hr1
      have := (hX j (by omega)).1 i v hi
      rw [Go.WideShapes.add_plain] at this
      rw [Nat.add_assoc]
      exact this
    · intro q hq
      obtain ⟨r, hr, rfl⟩ := List.mem_map.1 hq
      exact (hX r (by have := List.mem_range.1 hr; omega)).2
end YtohidbkhccepnaaDoor
end Go.Proofs
