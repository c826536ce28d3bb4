/-
  Small ones: an error's number, the document's pick, two files alike. Conditions: as each theorem names them.
-/
import Derived.Test.YtnobmejcbgocoaaDkQ
namespace Go.Proofs
open Go Go.RowKit Sm Go.Lib Go.Maps Go.WideMaps
attribute [local go_sem] Oper.semAt_some
theorem Sm.num_any (e : Int) (w : World) (_h0 : 0 ≤ e) (_h1 : e ≤ 100000) : Calls Try.prog 15 #[.int .i64 e] w fun r w' => r = .returned (.int .i64 e) ∧ w = w' := by
  go_enter Try.func15, Try.ntmps15
  go_wp2
  go_ret
  exact ⟨rfl, rfl⟩
set_option maxRecDepth 100000 in
theorem Sm.Pick_any (x n : Int) (w : World) (h : 0 ≤ n) (hn : n ≤ 1000000000) : Calls Try.prog 70 #[.int .i64 x, .int .i64 n] w fun e w' => e = .returned (.int .i64 (x % (n + 1))) ∧ w = w' := by
  have h1 := tmod_rng x (n + 1) (by omega)
  have hnz : n + 1 ≠ 0 := by omega
  obtain ⟨a1, a2⟩ := h1
  have e0 := Int.emod_nonneg x hnz
  have e1 := Int.emod_lt_of_pos x (by omega : 0 < n + 1)
  have key : x.tmod (n + 1) = x % (n + 1) ∨ x.tmod (n + 1) = x % (n + 1) - (n + 1) := by
    rw [Int.tmod_eq_emod]
    split
    · left; omega
    · right; omega
  have hr : x % (n + 1) = if x.tmod (n + 1) < 0 then x.tmod (n + 1) + n + 1 else x.tmod (n + 1) := by
    split <;> omega
  obtain ⟨R, hR⟩ : ∃ R, x % (n + 1) = R := ⟨_, rfl⟩
  rw [hR] at hr ⊢
  have HR := Lib.hid hr
  clear hr hR key e0 e1
  by_cases hneg : x.tmod (n + 1) < 0
  · have b1 : x.tmod (n + 1) + n ≤ 1000000000 := by omega
    have b0 : -1000000002 ≤ x.tmod (n + 1) + n := by omega
    go_enter Try.func70, Try.ntmps70
    go_wp2
    go_ret
    rw [HR.out, if_pos hneg]
    exact ⟨rfl, rfl⟩
  · go_enter Try.func70, Try.ntmps70
    go_wp2
    go_ret
    rw [HR.out, if_neg (by omega)]
    exact ⟨rfl, rfl⟩
end Go.Proofs
