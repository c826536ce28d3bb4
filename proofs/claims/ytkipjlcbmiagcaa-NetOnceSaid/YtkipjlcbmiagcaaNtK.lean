/-
  A message is put behind a row of messages. Conditions: as each theorem names them.
-/
import Derived.Laws.CopyOwn
import Derived.Maps.AppendAt
import Derived.Test.YtkipjlcbmiagcaaNtH
namespace Go.Proofs
open Go Go.RowKit Sm Go.Lib Go.Maps Go.WideMaps
set_option maxRecDepth 100000 in
theorem Sm.info83 : ∃ i, Try.prog.info? 83 = some i ∧ i.zero = some (.agg #[.int .i64 0, .int .i64 0, .int .i64 0, .slice none 0 0]) ∧ i.size = 4 ∧ i.bytes = 48 := by
  refine ⟨Try.t83, rfl, ?_, ?_, ?_⟩
  · trace_state
    rfl
  · rfl
  · rfl
theorem Sm.run_app_msg (base N c : Nat) (A : Option Addr) (xs : List Value) (a b d e : Value) (g : Nat) (W : World) (hown : W.ownsRow base 83 4 (.slice A N c) N xs) (hnew : W.heap[g]? = some (.cells #[a, b, d, e] 83 (0, 0)))
    (h1 : a.oneCell' = true ∧ b.oneCell' = true ∧ d.oneCell' = true ∧ e.oneCell' = true) (hN : N ≤ 4096) (hbase : base ≤ W.heap.size) :
    ∃ v' w', (Builtin.append_ #[33, 33] 33 #[.slice A N c, .slice (some ⟨g, 0, none⟩) 1 1]).run Try.prog W = .ok v' w' ∧ w'.ownsRow base 83 4 v' (N + 1) (xs ++ [a, b, d, e]) ∧ W.grownBy w' (Value.slice A N c).ownBlock ∧ (v'.ownBlock = (Value.slice A N c).ownBlock ∨ v'.ownBlock = some W.heap.size) := by
  obtain ⟨i, hi, hz, hs, hb⟩ := info83
  obtain ⟨v', w', r1, r2, r3, _, r5⟩ := run_append_own_at (P := Try.prog) W base 33 33 83 i _ 4 48 Try.underlying33 hi hz hs hb rfl (by decide) (.slice A N c) N xs hown ⟨g, 0, none⟩ 1 1 [a, b, d, e] rfl (World.news_of_block hnew) (fun u hu => by
    simp only [List.mem_cons, List.mem_nil_iff, or_false] at hu
    rcases hu with rfl | rfl | rfl | rfl
    · exact h1.1
    · exact h1.2.1
    · exact h1.2.2.1
    · exact h1.2.2.2) (by unfold maxLen; omega) (by omega) hbase
  exact ⟨v', w', r1, r2, r3, r5⟩
end Go.Proofs
