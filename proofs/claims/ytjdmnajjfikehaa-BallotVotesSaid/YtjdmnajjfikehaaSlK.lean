/-
  slots: the document's answers: Right, Place, Slot, check, Majority, Owner, Turn. Conditions: as each theorem names them.
-/
import Derived.Test.YtjdmnajjfikehaaSlE
namespace Go.Proofs
open Go Go.RowKit Sm Go.Lib
attribute [local go_sem] Oper.semAt_some
theorem Sm.num_any (x : Int) (w : World) : Calls Try.prog 13 #[.int .i64 x] w fun e w' => e = .returned (.int .i64 x) ∧ w = w' := by
  go_enter Try.func13, Try.ntmps13
  go_wp2
  go_ret
  exact ⟨rfl, rfl⟩
theorem Sm.Right_any (c : Int) (w : World) : Calls Try.prog 31 #[.int .i64 c] w fun e w' => e = .returned (.bool (chB c)) ∧ w = w' := by
  by_cases h3 : c = 3
  · subst h3
    go_enter Try.func31, Try.ntmps31
    go_wp2
    go_ret
    exact ⟨rfl, rfl⟩
  by_cases h5 : c = 5
  · subst h5
    go_enter Try.func31, Try.ntmps31
    go_wp2
    go_ret
    exact ⟨rfl, rfl⟩
  by_cases h7 : c = 7
  · subst h7
    go_enter Try.func31, Try.ntmps31
    go_wp2
    go_ret
    exact ⟨rfl, rfl⟩
  by_cases h9 : c = 9
  · subst h9
    go_enter Try.func31, Try.ntmps31
    go_wp2
    go_ret
    exact ⟨rfl, rfl⟩
  have hc : chB c = false := by
    rw [Bool.eq_false_iff]
    intro e
    have := chB_iff.1 e
    omega
  have e3 : (c == 3) = false := by simpa using h3
  have e5 : (c == 5) = false := by simpa using h5
  have e7 : (c == 7) = false := by simpa using h7
  have e9 : (c == 9) = false := by simpa using h9
  rw [hc]
  clear hc h3 h5 h7 h9
  go_enter Try.func31, Try.ntmps31
  go_wp2
  go_ret
  exact ⟨rfl, rfl⟩
/-- is a place one of a choir's -/
def Sm.rpB (c p : Int) : Bool := decide (0 ≤ p) && decide (p < c)
theorem Sm.Place_any (c p : Int) (w : World) : Calls Try.prog 40 #[.int .i64 c, .int .i64 p] w fun e w' => e = .returned (.bool (rpB c p)) ∧ w = w' := by
  unfold rpB
  by_cases h0 : 0 ≤ p
  · by_cases h1 : p < c
    · go_enter Try.func40, Try.ntmps40
      go_wp2
      go_ret
      exact ⟨by simp [h0, h1], rfl⟩
    · go_enter Try.func40, Try.ntmps40
      go_wp2
      go_ret
      exact ⟨by simp [h1], rfl⟩
  · go_enter Try.func40, Try.ntmps40
    go_wp2
    go_ret
    exact ⟨by simp; omega, rfl⟩
theorem Sm.rSlot_any (s : Int) (w : World) : Calls Try.prog 42 #[.int .i64 s] w fun e w' => e = .returned (.bool (slB s)) ∧ w = w' := by
  have h := slB_iff (s := s)
  by_cases h0 : 0 ≤ s
  · by_cases h1 : s < 4096
    · rw [h.2 (by omega)]
      clear h
      go_enter Try.func42, Try.ntmps42
      go_wp2
      go_ret
      exact ⟨rfl, rfl⟩
    · rw [show slB s = false by rw [Bool.eq_false_iff]; exact fun e => by have := h.1 e; omega]
      clear h
      go_enter Try.func42, Try.ntmps42
      go_wp2
      go_ret
      exact ⟨rfl, rfl⟩
  · rw [show slB s = false by rw [Bool.eq_false_iff]; exact fun e => by have := h.1 e; omega]
    clear h
    go_enter Try.func42, Try.ntmps42
    go_wp2
    go_ret
    exact ⟨rfl, rfl⟩
theorem Sm.check_any (c s : Int) (w : World) : Calls Try.prog 43 #[.int .i64 c, .int .i64 s] w fun e w' => e = .returned (.int .i64 (slotV c s 0).2) ∧ w = w' := by
  have hr := Right_any c w
  have hs := rSlot_any s w
  unfold slotV
  cases hc : chB c with
  | false =>
    rw [hc] at hr
    go_enter Try.func43, Try.ntmps43
    go_wp2_with (first | (go_at_call 31; (with_reducible refine hr.mono ?_); rintro e w' ⟨rfl, rfl⟩) | (go_at_call 42; (with_reducible refine hs.mono ?_); rintro e w' ⟨rfl, rfl⟩))
    go_ret
    exact ⟨rfl, rfl⟩
  | true =>
    rw [hc] at hr
    cases hl : slB s with
    | false =>
      rw [hl] at hs
      go_enter Try.func43, Try.ntmps43
      go_wp2_with (first | (go_at_call 31; (with_reducible refine hr.mono ?_); rintro e w' ⟨rfl, rfl⟩) | (go_at_call 42; (with_reducible refine hs.mono ?_); rintro e w' ⟨rfl, rfl⟩))
      go_ret
      exact ⟨rfl, rfl⟩
    | true =>
      rw [hl] at hs
      go_enter Try.func43, Try.ntmps43
      go_wp2_with (first | (go_at_call 31; (with_reducible refine hr.mono ?_); rintro e w' ⟨rfl, rfl⟩) | (go_at_call 42; (with_reducible refine hs.mono ?_); rintro e w' ⟨rfl, rfl⟩))
      go_ret
      exact ⟨rfl, rfl⟩
theorem Sm.rOwner_any (c s : Int) (w : World) : Calls Try.prog 19 #[.int .i64 c, .int .i64 s] w fun e w' => e = .returned (.tuple #[.int .i64 (slotV c s (s % c)).1, .int .i64 (slotV c s (s % c)).2]) ∧ w = w' := by
  have hk := check_any c s w
  unfold slotV at hk ⊢
  cases hc : chB c with
  | false =>
    rw [hc] at hk
    go_enter Try.func19, Try.ntmps19
    go_wp2_with (go_at_call 43; (with_reducible refine hk.mono ?_); rintro e w' ⟨rfl, rfl⟩)
    go_ret2
    exact ⟨rfl, rfl⟩
  | true =>
    cases hl : slB s with
    | false =>
      rw [hc, hl] at hk
      go_enter Try.func19, Try.ntmps19
      go_wp2_with (go_at_call 43; (with_reducible refine hk.mono ?_); rintro e w' ⟨rfl, rfl⟩)
      go_ret2
      exact ⟨rfl, rfl⟩
    | true =>
      rw [hc, hl] at hk
      obtain ⟨h0, h1⟩ := slB_iff.1 hl
      simp only [Bool.true_eq_false, if_false] at hk ⊢
      rcases chB_iff.1 hc with rfl | rfl | rfl | rfl
      all_goals
        clear hc hl
        go_enter Try.func19, Try.ntmps19
        go_wp2_with (go_at_call 43; (with_reducible refine hk.mono ?_); rintro e w' ⟨rfl, rfl⟩)
        go_ret2
        exact ⟨rfl, rfl⟩
theorem Sm.rMaj_any (c : Int) (w : World) (h : chB c = true) : Calls Try.prog 52 #[.int .i64 c] w fun e w' => e = .returned (.int .i64 (c / 2 + 1)) ∧ w = w' := by
  have hc : 0 ≤ c ∧ c ≤ 9 := by rcases chB_iff.1 h with e | e | e | e <;> omega
  obtain ⟨m, hm⟩ : ∃ m : Nat, (m : Int) = c / 2 + 1 := ⟨(c / 2 + 1).toNat, by omega⟩
  rw [← hm]
  have h2 : 2 * (m : Int) > c := by omega
  have h3 : 2 * ((m : Int) - 1) ≤ c := by omega
  clear hm h
  go_enter Try.func52, Try.ntmps52
  go_wp2
  go_loopw [3] (fun v3 wr => ∃ k : Nat, k ≤ m ∧ v3 = .int .i64 (k : Int) ∧ wr = w) (fun v3 _ => m - (RowKit.intOf v3).toNat)
  case atStart => exact ⟨0, Nat.zero_le _, rfl, rfl⟩
  case round =>
    obtain ⟨k, hk, rfl, rfl⟩ := hrel
    by_cases hlt : k < m
    · have h4 : 2 * (k : Int) ≤ c := by omega
      go_wp2
      go_roundw
      case rel => exact ⟨k + 1, by omega, by go_num, trivial⟩
      case measure => simp [RowKit.intOf]; omega
    · obtain rfl : k = m := by omega
      have h4 : ¬ 2 * (k : Int) ≤ c := by omega
      go_wp2
      go_ret
      exact ⟨rfl, rfl⟩
end Go.Proofs
