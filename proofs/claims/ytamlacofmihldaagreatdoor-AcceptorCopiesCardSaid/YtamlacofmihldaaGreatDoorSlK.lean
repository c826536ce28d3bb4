/-
  slots: the document's answers: Right, Place, Slot, check, Majority, Owner, Turn. Conditions: as each theorem names them.
-/
import Derived.Test.YtamlacofmihldaaGreatDoorSlE
namespace Go.Proofs
open Go Go.RowKit Sm Go.Lib
attribute [local go_sem] Oper.semAt_some
theorem Sm.Right_any (c : Int) (w : World) : Calls Tryz.prog 24 #[.int .i64 c] w fun e w' => e = .returned (.bool (chB c)) ∧ w = w' := by
  by_cases h3 : c = 3
  · subst h3
    go_enter Tryz.func24, Tryz.ntmps24
    go_wp2
    go_ret
    exact ⟨rfl, rfl⟩
  by_cases h5 : c = 5
  · subst h5
    go_enter Tryz.func24, Tryz.ntmps24
    go_wp2
    go_ret
    exact ⟨rfl, rfl⟩
  by_cases h7 : c = 7
  · subst h7
    go_enter Tryz.func24, Tryz.ntmps24
    go_wp2
    go_ret
    exact ⟨rfl, rfl⟩
  by_cases h9 : c = 9
  · subst h9
    go_enter Tryz.func24, Tryz.ntmps24
    go_wp2
    go_ret
    exact ⟨rfl, rfl⟩
  have hc : chB c = false := by
    rw [Bool.eq_false_iff]
    intro e
    have := chB_iff.1 e
    omega
  have e3 : (c == 3) = false := by simpa using h3
  have e5 : (c == 5) = false := by simpa using h5
  have e7 : (c == 7) = false := by simpa using h7
  have e9 : (c == 9) = false := by simpa using h9
  rw [hc]
  clear hc h3 h5 h7 h9
  go_enter Tryz.func24, Tryz.ntmps24
  go_wp2
  go_ret
  exact ⟨rfl, rfl⟩
/-- is a place one of a choir's -/
def Sm.rpB (c p : Int) : Bool := decide (0 ≤ p) && decide (p < c)
theorem Sm.Place_any (c p : Int) (w : World) : Calls Tryz.prog 66 #[.int .i64 c, .int .i64 p] w fun e w' => e = .returned (.bool (rpB c p)) ∧ w = w' := by
  unfold rpB
  by_cases h0 : 0 ≤ p
  · by_cases h1 : p < c
    · go_enter Tryz.func66, Tryz.ntmps66
      go_wp2
      go_ret
      exact ⟨by simp [h0, h1], rfl⟩
    · go_enter Tryz.func66, Tryz.ntmps66
      go_wp2
      go_ret
      exact ⟨by simp [h1], rfl⟩
  · go_enter Tryz.func66, Tryz.ntmps66
    go_wp2
    go_ret
    exact ⟨by simp; omega, rfl⟩
theorem Sm.rSlot_any (s : Int) (w : World) : Calls Tryz.prog 25 #[.int .i64 s] w fun e w' => e = .returned (.bool (slB s)) ∧ w = w' := by
  have h := slB_iff (s := s)
  by_cases h0 : 0 ≤ s
  · by_cases h1 : s < 4096
    · rw [h.2 (by omega)]
      clear h
      go_enter Tryz.func25, Tryz.ntmps25
      go_wp2
      go_ret
      exact ⟨rfl, rfl⟩
    · rw [show slB s = false by rw [Bool.eq_false_iff]; exact fun e => by have := h.1 e; omega]
      clear h
      go_enter Tryz.func25, Tryz.ntmps25
      go_wp2
      go_ret
      exact ⟨rfl, rfl⟩
  · rw [show slB s = false by rw [Bool.eq_false_iff]; exact fun e => by have := h.1 e; omega]
    clear h
    go_enter Tryz.func25, Tryz.ntmps25
    go_wp2
    go_ret
    exact ⟨rfl, rfl⟩
end Go.Proofs
