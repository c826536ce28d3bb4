/-
  Opening of arguments of these laws: a ballot, what was accepted. Conditions: what the frame says of an argument that can be read.
-/
import Derived.Test.YtamlacofmihldaaGreatDoorAcOp
namespace Go.Proofs
open Go Go.ChangeShapes Go.WideShapes Go.ChangeAt Go.WideMaps Go.WideElems Go.RowKit Sm Go.Deep
namespace YtamlacofmihldaaGreatDoor
theorem c36 : Tryz.prog.cellsOf 36 = 6 := by kernel_rfl
set_option maxRecDepth 100000 in
set_option maxHeartbeats 2000000 in
theorem acc_of_trod {H : Type} {enc : TypeId × Value → H} {W : World} {fuel : Nat} {cs : List Value} {x : DataW H × List MemPlace} (h : DataW.trod enc Tryz.prog W 0 (fun _ => true) true fuel 36 cs = some x) : ∃ (r q k m n : Int) (t : ByteArray), cs = [.int .i64 r, .int .i64 q, .int .i64 k, .int .i64 m, .int .i64 n, .string t] ∧ I64 k ∧ t.size ≤ 9223372036854775807 := by
  obtain ⟨y0, y1, k, hlen, g0, g1⟩ := trod_s2 Tryz.underlying36 h
  rw [c36] at hlen
  match cs, hlen with
  | [v0, v1, v2, v3, v4, v5], _ =>
    simp [c31, c34] at g0 g1
    obtain ⟨r, q, e1⟩ := bal_of_trod g0
    obtain ⟨k, m, n, t, e2, hk, ht⟩ := ent_of_trod g1
    simp only [List.cons.injEq, and_true] at e1 e2
    obtain ⟨e10, e11⟩ := e1
    obtain ⟨e20, e21, e22, e23⟩ := e2
    subst e10 e11 e20 e21 e22 e23
    exact ⟨r, q, k, m, n, t, rfl, hk, ht⟩
set_option maxRecDepth 100000 in
theorem open_bal {H : Type} {enc : TypeId × Value → H} {W : World} {base : Nat} {v : Value} {d : DataW H} {p : List MemPlace} (hok : Value.okWide Tryz.prog W .any base 31 v) (h : DataW.Trod enc Tryz.prog W 0 (fun _ => true) true 31 v d p) :
    ∃ r q : Int, v = .agg #[.int .i64 r, .int .i64 q] := by
  obtain ⟨cs, rfl, hcs⟩ := okWide_struct Tryz.underlying31 hok
  obtain ⟨fuel, hf⟩ := h
  obtain ⟨r, q, h1⟩ := bal_of_trod (cs := cs.toList) (by simpa [Value.cells] using hf)
  exact ⟨r, q, by cases cs; simp at h1; rw [h1]⟩
set_option maxRecDepth 100000 in
theorem open_acc {H : Type} {enc : TypeId × Value → H} {W : World} {base : Nat} {v : Value} {d : DataW H} {p : List MemPlace} (hok : Value.okWide Tryz.prog W .any base 36 v) (h : DataW.Trod enc Tryz.prog W 0 (fun _ => true) true 36 v d p) :
    ∃ (r q k m n : Int) (t : ByteArray), v = .agg #[.int .i64 r, .int .i64 q, .int .i64 k, .int .i64 m, .int .i64 n, .string t] ∧ I64 k ∧ t.size ≤ 9223372036854775807 := by
  obtain ⟨cs, rfl, hcs⟩ := okWide_struct Tryz.underlying36 hok
  obtain ⟨fuel, hf⟩ := h
  obtain ⟨r, q, k, m, n, t, h1, h2, h3⟩ := acc_of_trod (cs := cs.toList) (by simpa [Value.cells] using hf)
  exact ⟨r, q, k, m, n, t, by cases cs; simp at h1; rw [h1], h2, h3⟩
end YtamlacofmihldaaGreatDoor
end Go.Proofs
