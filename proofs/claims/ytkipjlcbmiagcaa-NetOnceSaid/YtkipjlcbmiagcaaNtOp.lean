/-
  Opening of arguments of these laws: bytes, numbers, calls. Conditions: what the frame says of an argument that can be read.
-/
import Derived.Lib.SmallJoins
import Derived.Deep.Slices
import Derived.Test.YtkipjlcbmiagcaaFrame
import Derived.Test.YtkipjlcbmiagcaaWBut
import Derived.Test.YtkipjlcbmiagcaaBut
namespace Go.Proofs
open Go Go.ChangeShapes Go.WideShapes Go.ChangeAt Go.WideMaps Go.WideElems Go.RowKit Sm Go.Deep
/-- a call that came in -/
structure Sm.ActV where
  what : Int
  src : Int
  dst : Int
  pick : Int
  A : Option Addr
  n : Nat
  c : Nat
  bytes : List (BitVec 8)
  is : Bool
def Sm.ActV.cells (x : ActV) : List Value := [.int .i64 x.what, .int .i64 x.src, .int .i64 x.dst, .int .i64 x.pick, .slice x.A x.n x.c, .bool x.is]
structure Sm.ActV.came (x : ActV) (w : World) : Prop where
  len : x.bytes.length = x.n
  room : x.n ≤ x.c ∧ x.c ≤ 9223372036854775807
  rd : Rd w w.heap.size x.A x.bytes
  ws : -9223372036854775808 ≤ x.src ∧ x.src ≤ 9223372036854775807
  wd : -9223372036854775808 ≤ x.dst ∧ x.dst ≤ 9223372036854775807
  ww : -9223372036854775808 ≤ x.what ∧ x.what ≤ 9223372036854775807
/-- calls that came in -/
def Sm.RdActs (w : World) (A : Option Addr) (xs : List ActV) : Prop :=
  0 < xs.length → ∃ b off, A = some ⟨b, off, none⟩ ∧ b < w.heap.size ∧ ∀ j x, xs[j]? = some x → ∀ i v, x.cells[i]? = some v → w.cell? ⟨b, off + j * 6 + i, none⟩ = some v
namespace Ytkipjlcbmiagcaa
theorem c3 : Try.prog.cellsOf 3 = 1 := by kernel_rfl
theorem c4 : Try.prog.cellsOf 4 = 1 := by kernel_rfl
theorem c5 : Try.prog.cellsOf 5 = 1 := by kernel_rfl
theorem c39 : Try.prog.cellsOf 39 = 1 := by kernel_rfl
theorem c64 : Try.prog.cellsOf 64 = 6 := by kernel_rfl
theorem toIb {n : Int} (h : (Lit.int .u8 n).wf = true) : ib (BitVec.ofNat 8 n.toNat) = n := by
  simp [Lit.wf, IntKind.min, IntKind.max, IntKind.signed, IntKind.bits] at h
  unfold ib
  simp
  omega
/-- bytes that came in: their address, length and room, and what they are -/
theorem bytes_of_trod {H : Type} {enc : TypeId × Value → H} {W : World} {fuel : Nat} {cs : List Value} {x : DataW H × List MemPlace} (h : DataW.trod enc Try.prog W 0 (fun _ => true) true fuel 39 cs = some x) :
    ∃ A n c l, cs = [.slice A n c] ∧ l.length = n ∧ n ≤ c ∧ c ≤ 9223372036854775807 ∧ Rd W W.heap.size A l := by
  rcases open_ints Try.underlying39 Try.underlying5 c5 h with ⟨rfl, _⟩ | ⟨a, len, cap, zs, rfl, _, hl, hm, hz, _, hcell, hwz⟩
  · exact ⟨none, 0, 0, [], rfl, rfl, Nat.le_refl _, by omega, Rd.nil⟩
  · simp at hz
    refine ⟨some a, len, cap, (zs.take len).map (fun n => BitVec.ofNat 8 n.toNat), rfl, by simp; omega, hl, by unfold maxLen at hm; omega, ?_⟩
    intro h0
    have hp : 0 < zs.length := by simp at h0; omega
    obtain ⟨b, off, rfl, hc⟩ := ints_at hcell hp
    refine ⟨b, off, rfl, World.block_lt_of_cell? W _ (hc 0 hp), fun j c hj => ?_⟩
    rw [List.getElem?_map, List.getElem?_take] at hj
    split at hj
    · rename_i hjl
      have hjz : j < zs.length := by omega
      rw [List.getElem?_eq_getElem hjz] at hj
      simp only [Option.map_some, Option.some.injEq] at hj
      subst hj
      rw [hc j hjz, toIb (hwz _ (List.getElem_mem hjz))]
      congr 2
      simp [List.getD_eq_getElem?_getD, hjz]
    · simp at hj
set_option maxRecDepth 100000 in
set_option maxHeartbeats 1000000 in
theorem open_bytes {H : Type} {enc : TypeId × Value → H} {W : World} {base : Nat} {v : Value} {d : DataW H} {p : List MemPlace} (hok : Value.okWide Try.prog W .any base 39 v) (h : DataW.Trod enc Try.prog W 0 (fun _ => true) true 39 v d p) :
    ∃ A n c l, v = .slice A n c ∧ l.length = n ∧ n ≤ c ∧ c ≤ 9223372036854775807 ∧ Rd W W.heap.size A l := by
  obtain ⟨a0, len, cap, rfl⟩ := okWide_slice Try.underlying39 hok
  obtain ⟨fuel, hf⟩ := h
  obtain ⟨A, n, c, l, hcs, h1, h2, h3, h4⟩ := bytes_of_trod (cs := [.slice a0 len cap]) (by simpa [Value.cells] using hf)
  simp only [List.cons.injEq, and_true] at hcs
  exact ⟨A, n, c, l, hcs, h1, h2, h3, h4⟩
theorem trod_struct6 {H : Type} {enc : TypeId × Value → H} {P : Program} {w : World} {base : Nat} {spare : Nat → Bool} {held : Bool} {t : TypeId} {f0 f1 f2 f3 f4 f5 : Field} {fuel : Nat} {cs : List Value} {x : DataW H × List MemPlace} (ht : P.underlying t = some (.struct #[f0, f1, f2, f3, f4, f5])) (h : DataW.trod enc P w base spare held fuel t cs = some x) :
    ∃ y0 y1 y2 y3 y4 y5 n, cs.length = P.cellsOf t ∧ DataW.trod enc P w base spare held n f0.type ((cs.drop f0.offset).take (P.cellsOf f0.type)) = some y0 ∧
      DataW.trod enc P w base spare held n f1.type ((cs.drop f1.offset).take (P.cellsOf f1.type)) = some y1 ∧ DataW.trod enc P w base spare held n f2.type ((cs.drop f2.offset).take (P.cellsOf f2.type)) = some y2 ∧
      DataW.trod enc P w base spare held n f3.type ((cs.drop f3.offset).take (P.cellsOf f3.type)) = some y3 ∧ DataW.trod enc P w base spare held n f4.type ((cs.drop f4.offset).take (P.cellsOf f4.type)) = some y4 ∧ DataW.trod enc P w base spare held n f5.type ((cs.drop f5.offset).take (P.cellsOf f5.type)) = some y5 := by
  obtain ⟨xs, n, _, rfl, hl, hlen, hf⟩ := DataW.trod_struct ht h
  match xs, hlen with
  | [y0, y1, y2, y3, y4, y5], _ => exact ⟨y0, y1, y2, y3, y4, y5, n, hl, by simpa using hf 0 f0 rfl, by simpa using hf 1 f1 rfl, by simpa using hf 2 f2 rfl, by simpa using hf 3 f3 rfl, by simpa using hf 4 f4 rfl, by simpa using hf 5 f5 rfl⟩
set_option maxRecDepth 100000 in
set_option maxHeartbeats 2000000 in
/-- one call that came in, by its six cells -/
theorem act_of_trod {H : Type} {enc : TypeId × Value → H} {W : World} {fuel : Nat} {cs : List Value} {x : DataW H × List MemPlace} (h : DataW.trod enc Try.prog W 0 (fun _ => true) true fuel 64 cs = some x) : ∃ y : ActV, cs = y.cells ∧ y.came W := by
  obtain ⟨z0, z1, z2, z3, z4, z5, m, hlen, k0, k1, k2, k3, k4, k5⟩ := trod_struct6 Try.underlying64 h
  rw [c64] at hlen
  match cs, hlen with
  | [v0, v1, v2, v3, v4, v5], _ =>
    simp [c3, c39, c4] at k0 k1 k2 k3 k4 k5
    obtain ⟨a, e0, _, w0⟩ := DataW.trod_int Try.underlying3 k0
    obtain ⟨b, e1, _, w1⟩ := DataW.trod_int Try.underlying3 k1
    obtain ⟨b2, e2, _, w2⟩ := DataW.trod_int Try.underlying3 k2
    obtain ⟨b3, e3, _, w3⟩ := DataW.trod_int Try.underlying3 k3
    obtain ⟨A4, n4, c4', l4, e4, p1, p2, p3, p4⟩ := bytes_of_trod k4
    obtain ⟨b5, e5, _⟩ := DataW.trod_bool Try.underlying4 k5
    simp only [List.cons.injEq, and_true] at e0 e1 e2 e3 e4 e5
    subst e0 e1 e2 e3 e4 e5
    exact ⟨⟨a, b, b2, b3, A4, n4, c4', l4, b5⟩, rfl, p1, ⟨p2, p3⟩, p4, bd64 rfl w1, bd64 rfl w2, bd64 rfl w0⟩
set_option maxRecDepth 100000 in
theorem open_act {H : Type} {enc : TypeId × Value → H} {W : World} {base : Nat} {v : Value} {d : DataW H} {p : List MemPlace} (hok : Value.okWide Try.prog W .any base 64 v) (h : DataW.Trod enc Try.prog W 0 (fun _ => true) true 64 v d p) :
    ∃ y : ActV, v = .agg y.cells.toArray ∧ y.came W := by
  obtain ⟨cs, rfl, hcs⟩ := okWide_struct Try.underlying64 hok
  obtain ⟨fuel, hf⟩ := h
  obtain ⟨y, h1, h2⟩ := act_of_trod (cs := cs.toList) (by simpa [Value.cells] using hf)
  exact ⟨y, by rw [← h1], h2⟩
set_option maxRecDepth 100000 in
set_option maxHeartbeats 2000000 in
theorem open_acts {H : Type} {enc : TypeId × Value → H} {W : World} {base : Nat} {v : Value} {d : DataW H} {p : List MemPlace} (hok : Value.okWide Try.prog W .any base 22 v) (h : DataW.Trod enc Try.prog W 0 (fun _ => true) true 22 v d p) :
    ∃ (A : Option Addr) (n c : Nat) (xs : List ActV), v = .slice A n c ∧ xs.length = n ∧ n ≤ c ∧ c ≤ 9223372036854775807 ∧ RdActs W A xs ∧ ∀ x ∈ xs, ActV.came x W := by
  obtain ⟨a0, len, cap, rfl⟩ := okWide_slice Try.underlying22 hok
  obtain ⟨fuel, hf⟩ := h
  rcases open_slice Try.underlying22 (cs := [.slice a0 len cap]) (by simpa [Value.cells] using hf) with ⟨hcs, _⟩ | ⟨a, len', cap', m, n, D, Pl, hcs, _, hl, hm, hmm, _, hx⟩
  · simp only [List.cons.injEq, and_true] at hcs
    exact ⟨none, 0, 0, [], hcs, rfl, Nat.le_refl _, by omega, (fun h => absurd h (by simp)), fun q hq => by cases hq⟩
  · simp only [List.cons.injEq, and_true] at hcs
    have hlm : len' ≤ m := by rw [hmm]; simp; omega
    have hone : ∀ i, i < m → ∃ x : ActV, (∀ j v, x.cells[j]? = some v → W.cell? (a.add (i * 6 + j)) = some v) ∧ ActV.came x W := by
      intro i hi
      obtain ⟨cs', h1, h2⟩ := hx i hi
      rw [c64] at h1
      obtain ⟨_, hlen, hcell⟩ := World.cells?_some h1
      obtain ⟨y, hy, hc⟩ := act_of_trod h2
      refine ⟨y, fun j v hj => ?_, hc⟩
      rw [← hy] at hj
      have hjl : j < cs'.length := (List.getElem?_eq_some_iff.1 hj).1
      have q := hcell j (by omega)
      rw [add_add] at q
      rw [q]
      exact hj
    haveI : Inhabited ActV := ⟨⟨0, 0, 0, 0, none, 0, 0, [], false⟩⟩
    obtain ⟨X, hX⟩ := choose_lt hone
    refine ⟨some a, len', cap', (List.range len').map X, hcs, by simp, hl, by unfold maxLen at hm; omega, ?_, ?_⟩
    · intro h0
      have hp : 0 < len' := by simpa using h0
      have c0 := (hX 0 (by omega)).1 0 _ rfl
      obtain ⟨b, off, spot⟩ := a
      have hspot : spot = none := by simpa [Addr.add] using World.cell?_spot c0
      subst hspot
      have hb : b < W.heap.size := by
        have := World.block_lt_of_cell? W _ c0
        rw [Go.WideShapes.add_plain] at this
        exact this
      refine ⟨b, off, rfl, hb, fun j q hj i v hi => ?_⟩
      rw [List.getElem?_map] at hj
      obtain ⟨r, hr1, rfl⟩ := Option.map_eq_some_iff.1 hj
      have hjl : j < len' := by have := (List.getElem?_eq_some_iff.1 hr1).1; simpa using this
      obtain rfl : j = r := by rw [List.getElem?_range hjl] at hr1; exact Option.some.inj hr1
      have := (hX j (by omega)).1 i v hi
      rw [Go.WideShapes.add_plain] at this
      rw [Nat.add_assoc]
      exact this
    · intro q hq
      obtain ⟨r, hr, rfl⟩ := List.mem_map.1 hq
      exact (hX r (by have := List.mem_range.1 hr; omega)).2
end Ytkipjlcbmiagcaa
end Go.Proofs
