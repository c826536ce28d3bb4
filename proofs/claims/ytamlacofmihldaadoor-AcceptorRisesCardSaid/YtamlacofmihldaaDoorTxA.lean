/-
  The contracts of the document's more and sign: the sign with which bytes begin. Condition: there is a byte.
-/
import Derived.WalkKit
import Derived.WalkSpells
import Derived.Deep.QuietTactic
import Derived.BigQuiet
import Derived.Test.YtamlacofmihldaaDoorBut
import Derived.Test.YtamlacofmihldaaDoorTxMath
import Derived.Test.YtamlacofmihldaaDoorProg
namespace Go.Proofs
open Go Go.RowKit Sm Go.Lib
set_option maxRecDepth 100000 in
theorem Sm.more_any (c : Nat) (hc : c < 256) (w : World) : Calls Tryd.prog 61 #[.int .u8 (c : Int)] w fun e w' => e = .returned (.bool (decide (c / 64 = 2))) ∧ w = w' := by
  by_cases h1 : 128 ≤ c
  · by_cases h2 : c < 192
    · have e : decide (c / 64 = 2) = true := by simp; omega
      have p2 : decide ((c : Int) < 192) = true := by simp; omega
      rw [e]
      go_enter Tryd.func61, Tryd.ntmps61
      go_wp2
      go_ret
      exact ⟨rfl, rfl⟩
    · have e : decide (c / 64 = 2) = false := by simp; omega
      have p2 : decide ((c : Int) < 192) = false := by simp; omega
      rw [e]
      go_enter Tryd.func61, Tryd.ntmps61
      go_wp2
      go_ret
      exact ⟨rfl, rfl⟩
  · have e : decide (c / 64 = 2) = false := by simp; omega
    rw [e]
    go_enter Tryd.func61, Tryd.ntmps61
    go_wp2
    go_ret
    exact ⟨rfl, rfl⟩
theorem Sm.byte_at (s : ByteArray) (i : Nat) (h : i < s.size) (w : World) : (Instr.index 9 (.string s) (.int .i64 (i : Int))).run Tryd.prog w = .ok (.int .u8 ((s.get! i).toNat : Int)) w := by
  rw [run_index_string _ _ _ _ _ Tryd.underlying9, dif_pos ⟨by omega, by omega⟩]
  have e : (s[(i : Int).toNat]'(by simpa using h)) = s.get! i := by
    simp only [Int.toNat_natCast]
    cases s with
    | mk a =>
      show a[i] = a[i]!
      rw [getElem!_pos a i h]
  rw [e]
theorem Sm.below_drewN (w : World) (n : Nat) : Below w.heap.size w (w.drewN n) := ⟨rfl, rfl, rfl, Nat.le_refl _, fun _ _ => rfl⟩
/-- the document's sign, of the numbers -/
def Sm.signN (n b0 b1 b2 b3 : Nat) : Nat × Nat := if 128 ≤ b0 ∧ (decodeN n b0 b1 b2 b3).2 = 1 then (0, 0) else decodeN n b0 b1 b2 b3
theorem Sm.signP_eq (s : ByteArray) (p : Nat) : signP s p = signN (s.size - p) (s.get! p).toNat (s.get! (p + 1)).toNat (s.get! (p + 2)).toNat (s.get! (p + 3)).toNat := by
  unfold signP signN brokeP
  rw [decode_at]
  by_cases h : 128 ≤ (s.get! p).toNat ∧ (decodeN (s.size - p) (s.get! p).toNat (s.get! (p + 1)).toNat (s.get! (p + 2)).toNat (s.get! (p + 3)).toNat).2 = 1
  · rw [if_pos h, decide_eq_true h, if_pos rfl]
  · rw [if_neg h, decide_eq_false h]
    simp
set_option maxRecDepth 100000 in
set_option maxHeartbeats 4000000 in
theorem Sm.sign_lo (s : ByteArray) (w : World) (n b0 b1 b2 b3 : Nat) (hn : s.size = n) (hm : n ≤ 9223372036854775807) (g0 : b0 < 256) (g1 : b1 < 256) (g2 : b2 < 256) (g3 : b3 < 256)
    (hc : b0 < 224 ∨ 248 ≤ b0)
    (i0 : ∀ w, (Instr.index 9 (.string s) (.int .i64 0)).run Tryd.prog w = .ok (.int .u8 (b0 : Int)) w)
    (i1 : 1 < n → ∀ w, (Instr.index 9 (.string s) (.int .i64 1)).run Tryd.prog w = .ok (.int .u8 (b1 : Int)) w)
    (i2 : 2 < n → ∀ w, (Instr.index 9 (.string s) (.int .i64 2)).run Tryd.prog w = .ok (.int .u8 (b2 : Int)) w)
    (i3 : 3 < n → ∀ w, (Instr.index 9 (.string s) (.int .i64 3)).run Tryd.prog w = .ok (.int .u8 (b3 : Int)) w) :
    Calls Tryd.prog 40 #[.string s] w fun e w' => e = .returned (.tuple #[.int .i64 ((signN n b0 b1 b2 b3).1 : Int), .int .i64 ((signN n b0 b1 b2 b3).2 : Int)]) ∧ Below w.heap.size w w' := by
  have m1 : ∀ w, Calls Tryd.prog 61 #[.int .u8 (b1 : Int)] w fun e w' => e = .returned (.bool (decide (b1 / 64 = 2))) ∧ w = w' := more_any b1 g1
  have m2 : ∀ w, Calls Tryd.prog 61 #[.int .u8 (b2 : Int)] w fun e w' => e = .returned (.bool (decide (b2 / 64 = 2))) ∧ w = w' := more_any b2 g2
  have m3 : ∀ w, Calls Tryd.prog 61 #[.int .u8 (b3 : Int)] w fun e w' => e = .returned (.bool (decide (b3 / 64 = 2))) ∧ w = w' := more_any b3 g3
  by_cases c0 : b0 < 128
  · have e : signN n b0 b1 b2 b3 = (b0, 1) := by
      unfold signN decodeN
      repeat' split
      all_goals first | rfl | (exfalso; omega) | (apply Prod.ext <;> simp only <;> omega)
    rw [e]
    clear e
    go_enter Tryd.func40, Tryd.ntmps40
    go_wp2_with (first | (go_at_call 61; (with_reducible refine (m1 _).mono ?_); rintro e w' ⟨rfl, rfl⟩) | (go_at_call 61; (with_reducible refine (m2 _).mono ?_); rintro e w' ⟨rfl, rfl⟩) | (go_at_call 61; (with_reducible refine (m3 _).mono ?_); rintro e w' ⟨rfl, rfl⟩))
    all_goals
      go_ret2
      exact ⟨by simp <;> omega, Below.refl _ _⟩
  · by_cases c1 : b0 < 192
    · have e : signN n b0 b1 b2 b3 = (0, 0) := by
        unfold signN decodeN
        repeat' split
        all_goals first | rfl | (exfalso; omega) | (apply Prod.ext <;> simp only <;> omega)
      rw [e]
      clear e
      go_enter Tryd.func40, Tryd.ntmps40
      go_wp2_with (first | (go_at_call 61; (with_reducible refine (m1 _).mono ?_); rintro e w' ⟨rfl, rfl⟩) | (go_at_call 61; (with_reducible refine (m2 _).mono ?_); rintro e w' ⟨rfl, rfl⟩) | (go_at_call 61; (with_reducible refine (m3 _).mono ?_); rintro e w' ⟨rfl, rfl⟩))
      all_goals
        go_ret2
        exact ⟨by simp <;> omega, Below.refl _ _⟩
    · by_cases c2 : b0 < 224
      · by_cases l2 : 1 < n
        · have i1 := i1 l2
          by_cases k1 : b1 / 64 = 2
          · rw [decide_eq_true k1] at m1
            by_cases z : 128 ≤ (b0 - 192) * 64 + (b1 - 128)
            · have e : signN n b0 b1 b2 b3 = ((b0 - 192) * 64 + (b1 - 128), 2) := by
                unfold signN decodeN
                repeat' split
                all_goals first | rfl | (exfalso; omega) | (apply Prod.ext <;> simp only <;> omega)
              rw [e]
              clear e
              go_enter Tryd.func40, Tryd.ntmps40
              go_wp2_with (first | (go_at_call 61; (with_reducible refine (m1 _).mono ?_); rintro e w' ⟨rfl, rfl⟩) | (go_at_call 61; (with_reducible refine (m2 _).mono ?_); rintro e w' ⟨rfl, rfl⟩) | (go_at_call 61; (with_reducible refine (m3 _).mono ?_); rintro e w' ⟨rfl, rfl⟩))
              all_goals
                go_ret2
                exact ⟨by simp <;> omega, Below.refl _ _⟩
            · have e : signN n b0 b1 b2 b3 = (0, 0) := by
                unfold signN decodeN
                repeat' split
                all_goals first | rfl | (exfalso; omega) | (apply Prod.ext <;> simp only <;> omega)
              rw [e]
              clear e
              go_enter Tryd.func40, Tryd.ntmps40
              go_wp2_with (first | (go_at_call 61; (with_reducible refine (m1 _).mono ?_); rintro e w' ⟨rfl, rfl⟩) | (go_at_call 61; (with_reducible refine (m2 _).mono ?_); rintro e w' ⟨rfl, rfl⟩) | (go_at_call 61; (with_reducible refine (m3 _).mono ?_); rintro e w' ⟨rfl, rfl⟩))
              all_goals
                go_ret2
                exact ⟨by simp <;> omega, Below.refl _ _⟩
          · rw [decide_eq_false k1] at m1
            have e : signN n b0 b1 b2 b3 = (0, 0) := by
              unfold signN decodeN
              repeat' split
              all_goals first | rfl | (exfalso; omega) | (apply Prod.ext <;> simp only <;> omega)
            rw [e]
            clear e
            go_enter Tryd.func40, Tryd.ntmps40
            go_wp2_with (first | (go_at_call 61; (with_reducible refine (m1 _).mono ?_); rintro e w' ⟨rfl, rfl⟩) | (go_at_call 61; (with_reducible refine (m2 _).mono ?_); rintro e w' ⟨rfl, rfl⟩) | (go_at_call 61; (with_reducible refine (m3 _).mono ?_); rintro e w' ⟨rfl, rfl⟩))
            all_goals
              go_ret2
              exact ⟨by simp <;> omega, Below.refl _ _⟩
        · have e : signN n b0 b1 b2 b3 = (0, 0) := by
            unfold signN decodeN
            repeat' split
            all_goals first | rfl | (exfalso; omega) | (apply Prod.ext <;> simp only <;> omega)
          rw [e]
          clear e
          go_enter Tryd.func40, Tryd.ntmps40
          go_wp2_with (first | (go_at_call 61; (with_reducible refine (m1 _).mono ?_); rintro e w' ⟨rfl, rfl⟩) | (go_at_call 61; (with_reducible refine (m2 _).mono ?_); rintro e w' ⟨rfl, rfl⟩) | (go_at_call 61; (with_reducible refine (m3 _).mono ?_); rintro e w' ⟨rfl, rfl⟩))
          all_goals
            go_ret2
            exact ⟨by simp <;> omega, Below.refl _ _⟩
      · by_cases c3 : b0 < 240
        · exfalso; omega
        · by_cases c4 : b0 < 248
          · exfalso; omega
          · have e : signN n b0 b1 b2 b3 = (0, 0) := by
              unfold signN decodeN
              repeat' split
              all_goals first | rfl | (exfalso; omega) | (apply Prod.ext <;> simp only <;> omega)
            rw [e]
            clear e
            go_enter Tryd.func40, Tryd.ntmps40
            go_wp2_with (first | (go_at_call 61; (with_reducible refine (m1 _).mono ?_); rintro e w' ⟨rfl, rfl⟩) | (go_at_call 61; (with_reducible refine (m2 _).mono ?_); rintro e w' ⟨rfl, rfl⟩) | (go_at_call 61; (with_reducible refine (m3 _).mono ?_); rintro e w' ⟨rfl, rfl⟩))
            all_goals
              go_ret2
              exact ⟨by simp <;> omega, Below.refl _ _⟩
end Go.Proofs
