/-
  acceptor: structs that are the same. Conditions: none.
-/
import Derived.ChangeKeysEq
import Derived.Test.YtohidbkhccepnaaDoorAcA
namespace Go.Proofs
open Go Go.RowKit Sm Go.Lib
attribute [local go_sem] Oper.semAt_some
theorem Sm.toList_inj {s t : ByteArray} (h : s.toList = t.toList) : s = t := by
  rw [ByteArray.toList_eq, ByteArray.toList_eq] at h
  cases s with
  | mk a => cases t with
    | mk b => exact congrArg ByteArray.mk (Array.toList_inj.1 h)
set_option maxRecDepth 100000 in
set_option maxHeartbeats 1000000 in
theorem Sm.eql31 (w : World) (r r' p p' : Int) : (binOp .eql 37 (.agg #[.int .i64 r, .int .i64 p]) (.agg #[.int .i64 r', .int .i64 p'])).run Tryd.prog w = .ok (.bool (decide (r = r' ∧ p = p'))) w := by
  by_cases h0 : r = r'
  · subst h0
    by_cases h1 : p = p'
    · subst h1
      simp [go_sem]
    · simp [go_sem, h1]
  · simp [go_sem, h0]
set_option maxRecDepth 100000 in
set_option maxHeartbeats 1000000 in
theorem Sm.eql34 (w : World) (k k' m m' n n' : Int) (t t' : ByteArray) : (binOp .eql 33 (.agg #[.int .i64 k, .int .i64 m, .int .i64 n, .string t]) (.agg #[.int .i64 k', .int .i64 m', .int .i64 n', .string t'])).run Tryd.prog w = .ok (.bool (decide (k = k' ∧ m = m' ∧ n = n' ∧ t = t'))) w := by
  by_cases h0 : k = k'
  · subst h0
    by_cases h1 : m = m'
    · subst h1
      by_cases h2 : n = n'
      · subst h2
        by_cases h3 : t = t'
        · subst h3
          simp [go_sem]
        · have g3 : ¬ t.toList = t'.toList := fun e => h3 (toList_inj e)
          simp [go_sem, h3, g3]
      · simp [go_sem, h2]
    · simp [go_sem, h1]
  · simp [go_sem, h0]
set_option maxRecDepth 100000 in
set_option maxHeartbeats 1000000 in
theorem Sm.neq31 (w : World) (r r' p p' : Int) : (binOp .neq 37 (.agg #[.int .i64 r, .int .i64 p]) (.agg #[.int .i64 r', .int .i64 p'])).run Tryd.prog w = .ok (.bool (!decide (r = r' ∧ p = p'))) w := by
  by_cases h0 : r = r'
  · subst h0
    by_cases h1 : p = p'
    · subst h1
      simp [go_sem]
    · simp [go_sem, h1]
  · simp [go_sem, h0]
set_option maxRecDepth 100000 in
set_option maxHeartbeats 1000000 in
theorem Sm.neq34 (w : World) (k k' m m' n n' : Int) (t t' : ByteArray) : (binOp .neq 33 (.agg #[.int .i64 k, .int .i64 m, .int .i64 n, .string t]) (.agg #[.int .i64 k', .int .i64 m', .int .i64 n', .string t'])).run Tryd.prog w = .ok (.bool (!decide (k = k' ∧ m = m' ∧ n = n' ∧ t = t'))) w := by
  by_cases h0 : k = k'
  · subst h0
    by_cases h1 : m = m'
    · subst h1
      by_cases h2 : n = n'
      · subst h2
        by_cases h3 : t = t'
        · subst h3
          simp [go_sem]
        · have g3 : ¬ t.toList = t'.toList := fun e => h3 (toList_inj e)
          simp [go_sem, h3, g3]
      · simp [go_sem, h2]
    · simp [go_sem, h1]
  · simp [go_sem, h0]
end Go.Proofs
