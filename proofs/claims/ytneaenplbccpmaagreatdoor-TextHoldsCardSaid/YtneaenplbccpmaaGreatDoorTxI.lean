/-
  The document's value of a digit, and whether a byte is a name's sign. No condition.
-/
import Derived.Test.YtneaenplbccpmaaGreatDoorTxH
namespace Go.Proofs
open Go Go.RowKit Sm Go.Lib
/-- the value of a digit to the base 16; -1: it is none -/
def Sm.valueN (x : Nat) : Int := if 48 ≤ x ∧ x ≤ 57 then (x : Int) - 48 else if 97 ≤ x ∧ x ≤ 102 then (x : Int) - 97 + 10 else -1
/-- a name's sign -/
def Sm.nameN (x : Nat) : Bool := decide ((97 ≤ x ∧ x ≤ 122) ∨ (48 ≤ x ∧ x ≤ 57) ∨ x = 95)
set_option maxRecDepth 100000 in
set_option maxHeartbeats 1000000 in
theorem Sm.value_any (x : Nat) (hx : x < 256) (w : World) : Calls Tryz.prog 57 #[.int .u8 (x : Int)] w fun e w' => e = .returned (.int .i64 (valueN x)) ∧ w = w' := by
  by_cases a1 : 48 ≤ x
  · by_cases a2 : x ≤ 57
    · have e : valueN x = (x : Int) - 48 := by unfold valueN; rw [if_pos ⟨a1, a2⟩]
      rw [e]
      clear e
      go_enter Tryz.func57, Tryz.ntmps57
      go_wp2
      go_ret
      exact ⟨rfl, rfl⟩
    · by_cases b1 : 97 ≤ x
      · by_cases b2 : x ≤ 102
        · have e : valueN x = (x : Int) - 97 + 10 := by unfold valueN; rw [if_neg (by omega), if_pos ⟨b1, b2⟩]
          rw [e]
          clear e
          go_enter Tryz.func57, Tryz.ntmps57
          go_wp2
          go_ret
          exact ⟨rfl, rfl⟩
        · have e : valueN x = -1 := by unfold valueN; rw [if_neg (by omega), if_neg (by omega)]
          rw [e]
          clear e
          go_enter Tryz.func57, Tryz.ntmps57
          go_wp2
          go_ret
          exact ⟨rfl, rfl⟩
      · have e : valueN x = -1 := by unfold valueN; rw [if_neg (by omega), if_neg (by omega)]
        rw [e]
        clear e
        go_enter Tryz.func57, Tryz.ntmps57
        go_wp2
        go_ret
        exact ⟨rfl, rfl⟩
  · have e : valueN x = -1 := by unfold valueN; rw [if_neg (by omega), if_neg (by omega)]
    rw [e]
    clear e
    go_enter Tryz.func57, Tryz.ntmps57
    go_wp2
    go_ret
    exact ⟨rfl, rfl⟩
end Go.Proofs
