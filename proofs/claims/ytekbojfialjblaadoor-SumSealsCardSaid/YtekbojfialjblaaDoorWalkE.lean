/-
  The contracts of Power, Join and of their references: the power, the joined sum, or that there is none.
-/
import Derived.Test.YtekbojfialjblaaDoorWalkD
namespace Go.Proofs
open Go.RowKit Go.Shelf Sm
/-- may a number be? -/
def Sm.mayB (n : Int) : Bool := decide (0 ≤ n) && decide (n ≤ 1099511627776)
theorem Sm.mayB_yes {n : Int} (h : mayB n = true) : 0 ≤ n ∧ n ≤ 1099511627776 := by simpa [mayB] using h
theorem Sm.mayB_no {n : Int} (h : mayB n = false) : n < 0 ∨ 1099511627776 < n := by
  simp only [mayB, Bool.and_eq_false_iff, decide_eq_false_iff_not] at h
  omega
set_option maxHeartbeats 400000 in
theorem Sm.may_yes (n : Int) (w : World) (h : mayB n = true) : Calls Tryd.prog 35 #[.int .i64 n] w fun e w' => e = .returned (.bool true) ∧ w = w' := by
  obtain ⟨h1, h2⟩ := mayB_yes h
  clear h
  go_enter Tryd.func35, Tryd.ntmps35
  go_wp2
  all_goals (go_ret; exact ⟨rfl, rfl⟩)
set_option maxHeartbeats 400000 in
theorem Sm.may_no (n : Int) (w : World) (h : mayB n = false) : Calls Tryd.prog 35 #[.int .i64 n] w fun e w' => e = .returned (.bool false) ∧ w = w' := by
  have h := mayB_no h
  by_cases h1 : 0 ≤ n
  · have h2 : 1099511627776 < n := by omega
    have h3 : decide (n ≤ 1099511627776) = false := by simpa using h2
    clear h
    go_enter Tryd.func35, Tryd.ntmps35
    go_wp2
    all_goals (go_ret; exact ⟨rfl, rfl⟩)
  · clear h
    go_enter Tryd.func35, Tryd.ntmps35
    go_wp2
    all_goals (go_ret; exact ⟨rfl, rfl⟩)
set_option maxHeartbeats 400000 in
theorem Sm.right_yes (n : Int) (w : World) (h : mayB n = true) : Calls Tryd.prog 22 #[.int .i64 n] w fun e w' => e = .returned (.bool true) ∧ w = w' := by
  obtain ⟨h1, h2⟩ := mayB_yes h
  clear h
  go_enter Tryd.func22, Tryd.ntmps22
  go_wp2
  all_goals (go_ret; exact ⟨rfl, rfl⟩)
set_option maxHeartbeats 400000 in
theorem Sm.right_no (n : Int) (w : World) (h : mayB n = false) : Calls Tryd.prog 22 #[.int .i64 n] w fun e w' => e = .returned (.bool false) ∧ w = w' := by
  have h := mayB_no h
  by_cases h1 : 0 ≤ n
  · have h2 : 1099511627776 < n := by omega
    have h3 : decide (n ≤ 1099511627776) = false := by simpa using h2
    clear h
    go_enter Tryd.func22, Tryd.ntmps22
    go_wp2
    all_goals (go_ret; exact ⟨rfl, rfl⟩)
  · clear h
    go_enter Tryd.func22, Tryd.ntmps22
    go_wp2
    all_goals (go_ret; exact ⟨rfl, rfl⟩)
set_option maxHeartbeats 400000 in
theorem Sm.num_any (n : Int) (w : World) : Calls Tryd.prog 23 #[.int .i64 n] w fun e w' => e = .returned (.int .i64 n) ∧ w = w' := by
  go_enter Tryd.func23, Tryd.ntmps23
  go_wp2
  go_ret
  exact ⟨rfl, rfl⟩
theorem Sm.toQ {n : Int} (h : mayB n = true) : ∃ N : BitVec 64, n = iq N ∧ N.toNat = n.toNat := by
  obtain ⟨h1, h2⟩ := mayB_yes h
  refine ⟨BitVec.ofNat 64 n.toNat, ?_, ?_⟩
  · unfold iq; simp; omega
  · simp; omega
set_option maxHeartbeats 400000 in
theorem Sm.Power_no (n : Int) (w : World) (h : mayB n = false) : Calls Tryd.prog 20 #[.int .i64 n] w fun e w' => e = .returned (.tuple #[.int .u32 0, .int .i64 2]) ∧ w = w' := by
  have HH := Lib.hid h
  clear h
  go_enter Tryd.func20, Tryd.ntmps20
  go_wp2_with (go_at_call 35; refine (may_no _ _ HH.out).mono ?_; rintro e w' ⟨rfl, rfl⟩)
  go_ret2
  exact ⟨rfl, rfl⟩
set_option maxHeartbeats 400000 in
theorem Sm.Power_yes (n : Int) (w : World) (h : mayB n = true) : Calls Tryd.prog 20 #[.int .i64 n] w fun e w' => e = .returned (.tuple #[.int .u32 (iv (pw n.toNat)), .int .i64 0]) ∧ Below w.heap.size w w' := by
  obtain ⟨N, hN, hN2⟩ := toQ h
  have HH := Lib.hid h
  have H2 := Lib.hid hN2
  have b1 := mayB_yes h
  have b2 : 0 ≤ iq N ∧ iq N ≤ 1099511627776 := by rw [← hN]; exact b1
  obtain ⟨b3, b4⟩ := b2
  clear h hN2 b1
  subst hN
  go_enter Tryd.func20, Tryd.ntmps20
  go_wp2_with (first | (go_at_call 35; refine (may_yes _ _ HH.out).mono ?_; rintro e w' ⟨rfl, rfl⟩) | (go_at_call 36; refine (power_any _ _).mono ?_; rintro e w' ⟨rfl, hb1⟩))
  go_ret2
  exact ⟨by rw [← H2.out]; rfl, hb1⟩
set_option maxHeartbeats 400000 in
theorem Sm.Join_no (n : Int) (a b : BitVec 32) (w : World) (h : mayB n = false) : Calls Tryd.prog 21 #[.int .u32 (iv a), .int .u32 (iv b), .int .i64 n] w fun e w' => e = .returned (.tuple #[.int .u32 0, .int .i64 2]) ∧ w = w' := by
  have HH := Lib.hid h
  clear h
  go_enter Tryd.func21, Tryd.ntmps21
  go_wp2_with (go_at_call 35; refine (may_no _ _ HH.out).mono ?_; rintro e w' ⟨rfl, rfl⟩)
  go_ret2
  exact ⟨rfl, rfl⟩
theorem Sm.toQ8 {n : Int} (h : mayB n = true) : ∃ M : BitVec 64, 8 * n = iq M ∧ M.toNat = 8 * n.toNat := by
  obtain ⟨h1, h2⟩ := mayB_yes h
  refine ⟨BitVec.ofNat 64 (8 * n.toNat), ?_, ?_⟩
  · unfold iq; simp; omega
  · simp; omega
set_option maxHeartbeats 400000 in
theorem Sm.Join_yes (n : Int) (a b : BitVec 32) (w : World) (h : mayB n = true) : Calls Tryd.prog 21 #[.int .u32 (iv a), .int .u32 (iv b), .int .i64 n] w fun e w' => e = .returned (.tuple #[.int .u32 (iv (mul a (pw (8 * n.toNat)) ^^^ b)), .int .i64 0]) ∧ Below w.heap.size w w' := by
  obtain ⟨M, hM, hM2⟩ := toQ8 h
  have HH := Lib.hid h
  have H2 := Lib.hid hM2
  obtain ⟨b1, b2⟩ := mayB_yes h
  clear h hM2
  have hx := bits_xor (mul a (pw M.toNat)) b
  go_enter Tryd.func21, Tryd.ntmps21
  go_wp2_with (first | (go_at_call 35; refine (may_yes _ _ HH.out).mono ?_; rintro e w' ⟨rfl, rfl⟩) | (go_at_call 36; refine (power_any _ _).mono ?_; rintro e w' ⟨rfl, hb1⟩) | (go_at_call 18; refine (mul_any _ _ _).mono ?_; rintro e w' ⟨rfl, hb2⟩))
  go_ret2
  exact ⟨by rw [← H2.out]; rfl, hb1.trans (hb2.mono hb1.size)⟩
theorem Sm.pstep_odd {o x R : BitVec 32} {p m : Nat} (h : x = pw p ∧ mul o (pw (p * m)) = R) (hm : m % 2 = 1) : mul x x = pw (2 * p) ∧ mul (mul o x) (pw (2 * p * (m / 2))) = R := by
  obtain ⟨rfl, h2⟩ := h
  refine ⟨pw_double p, ?_⟩
  rw [← mul_assoc, pw_add]
  have e : p + 2 * p * (m / 2) = p * m := by
    have : m = 2 * (m / 2) + 1 := by omega
    generalize m / 2 = k at this
    subst this
    rw [Nat.mul_add, Nat.mul_one, Nat.mul_comm 2 p, Nat.mul_assoc]; omega
  rw [e]; exact h2
theorem Sm.pstep_even {o x R : BitVec 32} {p m : Nat} (h : x = pw p ∧ mul o (pw (p * m)) = R) (hm : m % 2 = 0) : mul x x = pw (2 * p) ∧ mul o (pw (2 * p * (m / 2))) = R := by
  obtain ⟨rfl, h2⟩ := h
  refine ⟨pw_double p, ?_⟩
  have e : 2 * p * (m / 2) = p * m := by
    have : m = 2 * (m / 2) := by omega
    generalize m / 2 = k at this
    subst this
    rw [Nat.mul_comm 2 p, Nat.mul_assoc]
  rw [e]; exact h2
set_option maxHeartbeats 400000 in
theorem Sm.refPower_core (n : Int) (w : World) (N : Nat) (hN : n = N) (hn : N ≤ 8796093022208) (R : BitVec 32) (HR : Hid (pw N = R)) : Calls Tryd.prog 24 #[.int .i64 n] w fun e w' => e = .returned (.int .u32 (iv R)) ∧ w = w' := by
  subst hN
  have HN := Lib.hid hn
  clear hn
  go_enter Tryd.func24, Tryd.ntmps24
  go_wp2
  go_loop [0, 3, 4] (fun vn vo vx => ∃ (m : Nat) (o x : BitVec 32) (p : Nat), m ≤ 8796093022208 ∧ vn = .int .i64 (m : Int) ∧ vo = .int .u32 (iv o) ∧ vx = .int .u32 (iv x) ∧ Hid (x = pw p ∧ mul o (pw (p * m)) = R)) (fun vn _ _ => (intOf vn).toNat)
  case atStart => exact ⟨N, one, pw 1, 1, HN.out, rfl, rfl, rfl, Lib.hid ⟨rfl, by rw [one_mul, Nat.one_mul]; exact HR.out⟩⟩
  case round =>
    obtain ⟨m, o, x, p, hm, rfl, rfl, rfl, H⟩ := hrel
    by_cases h0 : 0 < m
    · rcases Nat.mod_two_eq_zero_or_one m with h2 | h2
      · have ht : (((m : Nat) : Int) % 2 == 1) = false := by simp; omega
        have H2 := Lib.hid (pstep_even H.out h2)
        clear h2 H
        go_wp2_with (go_at_call 19; refine (refMul_any _ _ _).mono ?_; rintro e w' ⟨rfl, rfl⟩)
        go_round
        case rel => exact ⟨m / 2, o, mul x x, 2 * p, by omega, by simp, rfl, rfl, H2⟩
        case measure => simp [intOf]; omega
      · have ht : (((m : Nat) : Int) % 2 == 1) = true := by simp; omega
        have H2 := Lib.hid (pstep_odd H.out h2)
        clear h2 H
        go_wp2_with (go_at_call 19; refine (refMul_any _ _ _).mono ?_; rintro e w' ⟨rfl, rfl⟩)
        go_round
        case rel => exact ⟨m / 2, mul o x, mul x x, 2 * p, by omega, by simp, rfl, rfl, H2⟩
        case measure => simp [intOf]; omega
    · have hz : m = 0 := by omega
      subst hz
      have H2 := H.out.2
      have H3 : o = R := by rw [← H2]; exact (mul_one o).symm
      clear H H2 h0
      subst H3
      go_wp2
      go_ret
      exact ⟨rfl, rfl⟩
theorem Sm.refPower_any (n : Int) (w : World) (h0 : 0 ≤ n) (h1 : n ≤ 8796093022208) : Calls Tryd.prog 24 #[.int .i64 n] w fun e w' => e = .returned (.int .u32 (iv (pw n.toNat))) ∧ w = w' :=
  refPower_core n w n.toNat (by omega) (by omega) _ rfl
set_option maxHeartbeats 400000 in
theorem Sm.refJoin_any (n : Int) (a b : BitVec 32) (w : World) (h : mayB n = true) : Calls Tryd.prog 25 #[.int .u32 (iv a), .int .u32 (iv b), .int .i64 n] w fun e w' => e = .returned (.int .u32 (iv (mul a (pw (8 * n.toNat)) ^^^ b))) ∧ w = w' := by
  obtain ⟨b1, b2⟩ := mayB_yes h
  clear h
  have e8 : (8 * n).toNat = 8 * n.toNat := by omega
  have E8 := Lib.hid e8
  clear e8
  have hx := bits_xor (mul a (pw (8 * n).toNat)) b
  go_enter Tryd.func25, Tryd.ntmps25
  go_wp2_with (first | (go_at_call 24; refine (refPower_any _ _ (by omega) (by omega)).mono ?_; rintro e w' ⟨rfl, rfl⟩) | (go_at_call 19; refine (refMul_any _ _ _).mono ?_; rintro e w' ⟨rfl, rfl⟩))
  go_ret
  exact ⟨by rw [← E8.out]; rfl, rfl⟩
