/-
  Opening of arguments of these laws: words, numbers and bytes as the walks take them. Conditions: what the frame says of an argument that can be read.
-/
import Derived.Test.YteeponciegmlcaaDoorFrame
namespace Go.Proofs.YteeponciegmlcaaDoor
open Go Go.ChangeShapes Go.WideShapes Go.ChangeAt Go.WideMaps Go.WideElems Go.RowKit Sm
theorem c5 : Tryd.prog.cellsOf 5 = 1 := by kernel_rfl
theorem toIv {n : Int} (h : (Lit.int .u32 n).wf = true) : ∃ x : BitVec 32, n = iv x := by
  simp [Lit.wf, IntKind.min, IntKind.max, IntKind.signed, IntKind.bits] at h
  refine ⟨BitVec.ofNat 32 n.toNat, ?_⟩
  unfold iv
  simp
  omega
theorem toIb {n : Int} (h : (Lit.int .u8 n).wf = true) : ib (BitVec.ofNat 8 n.toNat) = n := by
  simp [Lit.wf, IntKind.min, IntKind.max, IntKind.signed, IntKind.bits] at h
  unfold ib
  simp
  omega
/-- bytes that came in: their address, length and room, and what they are -/
theorem bytes_of_trod {H : Type} {enc : TypeId × Value → H} {W : World} {fuel : Nat} {cs : List Value} {x : DataW H × List MemPlace} (h : DataW.trod enc Tryd.prog W 0 (fun _ => true) true fuel 27 cs = some x) :
    ∃ A n c l, cs = [.slice A n c] ∧ l.length = n ∧ n ≤ c ∧ c ≤ 9223372036854775807 ∧ Rd W W.heap.size A l := by
  rcases open_ints Tryd.underlying27 Tryd.underlying5 c5 h with ⟨rfl, _⟩ | ⟨a, len, cap, zs, rfl, _, hl, hm, hz, _, hcell, hwz⟩
  · exact ⟨none, 0, 0, [], rfl, rfl, Nat.le_refl _, by omega, Rd.nil⟩
  · simp at hz
    refine ⟨some a, len, cap, (zs.take len).map (fun n => BitVec.ofNat 8 n.toNat), rfl, by simp; omega, hl, by unfold maxLen at hm; omega, ?_⟩
    intro h0
    have hp : 0 < zs.length := by simp at h0; omega
    obtain ⟨b, off, rfl, hc⟩ := ints_at hcell hp
    refine ⟨b, off, rfl, World.block_lt_of_cell? W _ (hc 0 hp), fun j c hj => ?_⟩
    rw [List.getElem?_map, List.getElem?_take] at hj
    split at hj
    · rename_i hjl
      have hjz : j < zs.length := by omega
      rw [List.getElem?_eq_getElem hjz] at hj
      simp only [Option.map_some, Option.some.injEq] at hj
      subst hj
      rw [hc j hjz, toIb (hwz _ (List.getElem_mem hjz))]
      congr 2
      simp [List.getD_eq_getElem?_getD, hjz]
    · simp at hj
set_option maxRecDepth 100000 in
set_option maxHeartbeats 1000000 in
theorem open_bytes {H : Type} {enc : TypeId × Value → H} {W : World} {base : Nat} {v : Value} {d : DataW H} {p : List MemPlace} (hok : Value.okWide Tryd.prog W .any base 27 v) (h : DataW.Trod enc Tryd.prog W 0 (fun _ => true) true 27 v d p) :
    ∃ A n c l, v = .slice A n c ∧ l.length = n ∧ n ≤ c ∧ c ≤ 9223372036854775807 ∧ Rd W W.heap.size A l := by
  obtain ⟨a0, len, cap, rfl⟩ := okWide_slice Tryd.underlying27 hok
  obtain ⟨fuel, hf⟩ := h
  obtain ⟨A, n, c, l, hcs, h1, h2, h3, h4⟩ := bytes_of_trod (cs := [.slice a0 len cap]) (by simpa [Value.cells] using hf)
  simp only [List.cons.injEq, and_true] at hcs
  exact ⟨A, n, c, l, hcs, h1, h2, h3, h4⟩
theorem bd64 {k : IntKind} {n : Int} (hk : k = .i64) (h : (Lit.int k n).wf = true) : -9223372036854775808 ≤ n ∧ n ≤ 9223372036854775807 := by
  subst hk
  simp [Lit.wf, IntKind.min, IntKind.max, IntKind.signed, IntKind.bits] at h
  omega
end Go.Proofs.YteeponciegmlcaaDoor
