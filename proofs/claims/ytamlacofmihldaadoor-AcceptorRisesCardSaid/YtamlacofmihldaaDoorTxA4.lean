/-
  The document's sign where four bytes begin. Condition: the class of the first byte.
-/
import Derived.Test.YtamlacofmihldaaDoorTxA
namespace Go.Proofs
open Go Go.RowKit Sm Go.Lib
set_option maxRecDepth 100000 in
set_option maxHeartbeats 4000000 in
theorem Sm.sign_4 (s : ByteArray) (w : World) (n b0 b1 b2 b3 : Nat) (hn : s.size = n) (hm : n ≤ 9223372036854775807) (g0 : b0 < 256) (g1 : b1 < 256) (g2 : b2 < 256) (g3 : b3 < 256)
    (hc : 240 ≤ b0 ∧ b0 < 248)
    (i0 : ∀ w, (Instr.index 9 (.string s) (.int .i64 0)).run Tryd.prog w = .ok (.int .u8 (b0 : Int)) w)
    (i1 : 1 < n → ∀ w, (Instr.index 9 (.string s) (.int .i64 1)).run Tryd.prog w = .ok (.int .u8 (b1 : Int)) w)
    (i2 : 2 < n → ∀ w, (Instr.index 9 (.string s) (.int .i64 2)).run Tryd.prog w = .ok (.int .u8 (b2 : Int)) w)
    (i3 : 3 < n → ∀ w, (Instr.index 9 (.string s) (.int .i64 3)).run Tryd.prog w = .ok (.int .u8 (b3 : Int)) w) :
    Calls Tryd.prog 40 #[.string s] w fun e w' => e = .returned (.tuple #[.int .i64 ((signN n b0 b1 b2 b3).1 : Int), .int .i64 ((signN n b0 b1 b2 b3).2 : Int)]) ∧ Below w.heap.size w w' := by
  have m1 : ∀ w, Calls Tryd.prog 61 #[.int .u8 (b1 : Int)] w fun e w' => e = .returned (.bool (decide (b1 / 64 = 2))) ∧ w = w' := more_any b1 g1
  have m2 : ∀ w, Calls Tryd.prog 61 #[.int .u8 (b2 : Int)] w fun e w' => e = .returned (.bool (decide (b2 / 64 = 2))) ∧ w = w' := more_any b2 g2
  have m3 : ∀ w, Calls Tryd.prog 61 #[.int .u8 (b3 : Int)] w fun e w' => e = .returned (.bool (decide (b3 / 64 = 2))) ∧ w = w' := more_any b3 g3
  by_cases c0 : b0 < 128
  · exfalso; omega
  · by_cases c1 : b0 < 192
    · exfalso; omega
    · by_cases c2 : b0 < 224
      · exfalso; omega
      · by_cases c3 : b0 < 240
        · exfalso; omega
        · by_cases c4 : b0 < 248
          · by_cases l4 : 3 < n
            · have i1 := i1 (by omega)
              have i2 := i2 (by omega)
              have i3 := i3 l4
              by_cases k1 : b1 / 64 = 2
              · rw [decide_eq_true k1] at m1
                by_cases k2 : b2 / 64 = 2
                · rw [decide_eq_true k2] at m2
                  by_cases k3 : b3 / 64 = 2
                  · rw [decide_eq_true k3] at m3
                    by_cases z : 65536 ≤ (((b0 - 240) * 64 + (b1 - 128)) * 64 + (b2 - 128)) * 64 + (b3 - 128)
                    · by_cases z2 : (((b0 - 240) * 64 + (b1 - 128)) * 64 + (b2 - 128)) * 64 + (b3 - 128) ≤ 1114111
                      · have e : signN n b0 b1 b2 b3 = ((((b0 - 240) * 64 + (b1 - 128)) * 64 + (b2 - 128)) * 64 + (b3 - 128), 4) := by
                          unfold signN decodeN
                          repeat' split
                          all_goals first | rfl | (exfalso; omega) | (apply Prod.ext <;> simp only <;> omega)
                        rw [e]
                        clear e
                        go_enter Tryd.func40, Tryd.ntmps40
                        go_wp2_with (first | (go_at_call 61; (with_reducible refine (m1 _).mono ?_); rintro e w' ⟨rfl, rfl⟩) | (go_at_call 61; (with_reducible refine (m2 _).mono ?_); rintro e w' ⟨rfl, rfl⟩) | (go_at_call 61; (with_reducible refine (m3 _).mono ?_); rintro e w' ⟨rfl, rfl⟩))
                        go_quiet (fail)
                        go_wp2
                        go_ret2
                        exact ⟨by simp <;> omega, below_drewN w _⟩
                      · have e : signN n b0 b1 b2 b3 = (0, 0) := by
                          unfold signN decodeN
                          repeat' split
                          all_goals first | rfl | (exfalso; omega) | (apply Prod.ext <;> simp only <;> omega)
                        rw [e]
                        clear e
                        go_enter Tryd.func40, Tryd.ntmps40
                        go_wp2_with (first | (go_at_call 61; (with_reducible refine (m1 _).mono ?_); rintro e w' ⟨rfl, rfl⟩) | (go_at_call 61; (with_reducible refine (m2 _).mono ?_); rintro e w' ⟨rfl, rfl⟩) | (go_at_call 61; (with_reducible refine (m3 _).mono ?_); rintro e w' ⟨rfl, rfl⟩))
                        go_quiet (fail)
                        go_wp2
                        go_ret2
                        exact ⟨by simp <;> omega, below_drewN w _⟩
                    · have e : signN n b0 b1 b2 b3 = (0, 0) := by
                        unfold signN decodeN
                        repeat' split
                        all_goals first | rfl | (exfalso; omega) | (apply Prod.ext <;> simp only <;> omega)
                      rw [e]
                      clear e
                      go_enter Tryd.func40, Tryd.ntmps40
                      go_wp2_with (first | (go_at_call 61; (with_reducible refine (m1 _).mono ?_); rintro e w' ⟨rfl, rfl⟩) | (go_at_call 61; (with_reducible refine (m2 _).mono ?_); rintro e w' ⟨rfl, rfl⟩) | (go_at_call 61; (with_reducible refine (m3 _).mono ?_); rintro e w' ⟨rfl, rfl⟩))
                      go_quiet (fail)
                      go_wp2
                      go_ret2
                      exact ⟨by simp <;> omega, below_drewN w _⟩
                  · rw [decide_eq_false k3] at m3
                    have e : signN n b0 b1 b2 b3 = (0, 0) := by
                      unfold signN decodeN
                      repeat' split
                      all_goals first | rfl | (exfalso; omega) | (apply Prod.ext <;> simp only <;> omega)
                    rw [e]
                    clear e
                    go_enter Tryd.func40, Tryd.ntmps40
                    go_wp2_with (first | (go_at_call 61; (with_reducible refine (m1 _).mono ?_); rintro e w' ⟨rfl, rfl⟩) | (go_at_call 61; (with_reducible refine (m2 _).mono ?_); rintro e w' ⟨rfl, rfl⟩) | (go_at_call 61; (with_reducible refine (m3 _).mono ?_); rintro e w' ⟨rfl, rfl⟩))
                    all_goals
                      go_ret2
                      exact ⟨by simp <;> omega, Below.refl _ _⟩
                · rw [decide_eq_false k2] at m2
                  have e : signN n b0 b1 b2 b3 = (0, 0) := by
                    unfold signN decodeN
                    repeat' split
                    all_goals first | rfl | (exfalso; omega) | (apply Prod.ext <;> simp only <;> omega)
                  rw [e]
                  clear e
                  go_enter Tryd.func40, Tryd.ntmps40
                  go_wp2_with (first | (go_at_call 61; (with_reducible refine (m1 _).mono ?_); rintro e w' ⟨rfl, rfl⟩) | (go_at_call 61; (with_reducible refine (m2 _).mono ?_); rintro e w' ⟨rfl, rfl⟩) | (go_at_call 61; (with_reducible refine (m3 _).mono ?_); rintro e w' ⟨rfl, rfl⟩))
                  all_goals
                    go_ret2
                    exact ⟨by simp <;> omega, Below.refl _ _⟩
              · rw [decide_eq_false k1] at m1
                have e : signN n b0 b1 b2 b3 = (0, 0) := by
                  unfold signN decodeN
                  repeat' split
                  all_goals first | rfl | (exfalso; omega) | (apply Prod.ext <;> simp only <;> omega)
                rw [e]
                clear e
                go_enter Tryd.func40, Tryd.ntmps40
                go_wp2_with (first | (go_at_call 61; (with_reducible refine (m1 _).mono ?_); rintro e w' ⟨rfl, rfl⟩) | (go_at_call 61; (with_reducible refine (m2 _).mono ?_); rintro e w' ⟨rfl, rfl⟩) | (go_at_call 61; (with_reducible refine (m3 _).mono ?_); rintro e w' ⟨rfl, rfl⟩))
                all_goals
                  go_ret2
                  exact ⟨by simp <;> omega, Below.refl _ _⟩
            · have e : signN n b0 b1 b2 b3 = (0, 0) := by
                unfold signN decodeN
                repeat' split
                all_goals first | rfl | (exfalso; omega) | (apply Prod.ext <;> simp only <;> omega)
              rw [e]
              clear e
              go_enter Tryd.func40, Tryd.ntmps40
              go_wp2_with (first | (go_at_call 61; (with_reducible refine (m1 _).mono ?_); rintro e w' ⟨rfl, rfl⟩) | (go_at_call 61; (with_reducible refine (m2 _).mono ?_); rintro e w' ⟨rfl, rfl⟩) | (go_at_call 61; (with_reducible refine (m3 _).mono ?_); rintro e w' ⟨rfl, rfl⟩))
              all_goals
                go_ret2
                exact ⟨by simp <;> omega, Below.refl _ _⟩
          · exfalso; omega
end Go.Proofs
