/-
  The walk of SlotsMeet. Conditions: as the theorem names them.
-/
import Derived.Laws.BitsAllLaws
import Derived.Test.YtdiidiaipfkmlaaSlO
namespace Go.Proofs
open Go Go.RowKit Sm Go.Lib
attribute [local go_sem] Oper.semAt_some
theorem Sm.bit_one (x : Int) (p : Nat) (hx0 : 0 ≤ x) (hx1 : x ≤ 65535) : ∃ i : Nat, i ≤ 1 ∧ bits BinOp.and IntKind.u16 (x / 2 ^ p) 1 = (i : Int) := by
  have h0 : 0 ≤ x / 2 ^ p := Int.ediv_nonneg hx0 (Int.le_of_lt (Int.pow_pos (by decide)))
  have h1 : x / 2 ^ p ≤ 65535 := Int.le_trans (Int.ediv_le_self _ hx0) hx1
  rw [u16_and _ _ h0 (by omega) (by decide) (by decide)]
  exact ⟨_, by rw [show (1 : Int).toNat = 1 from rfl, Nat.and_one_is_mod]; omega, rfl⟩
set_option maxRecDepth 100000 in
set_option maxHeartbeats 4000000 in
theorem Sm.meet_law (c x y : Int) (w : World) (hx0 : 0 ≤ x) (hx1 : x ≤ 65535) (hy0 : 0 ≤ y) (hy1 : y ≤ 65535) : Calls Try.prog 8 #[.int .i64 c, .int .u16 x, .int .u16 y] w fun e w' => e = .returned (.bool true) ∧ Below w.heap.size w w' := by
  have hM := fun W => Majority_any c W
  have hw := fun W => works_any W
  have hn := fun x W => num_any x W
  have HB : Hid (Below w.heap.size w w) := Lib.hid (Below.refl _ _)
  unfold majV at hM
  cases h : chB c with
  | false =>
    rw [h] at hM
    simp only [Bool.false_eq_true, if_false] at hM
    go_enter Try.func8, Try.ntmps8
    go_wp2_with (first
      | (go_at_call 12; (with_reducible refine (hn _ _).mono ?_); rintro e w' ⟨rfl, rfl⟩)
      | (go_at_call 10; (with_reducible refine (hM _).mono ?_); rintro e wn ⟨rfl, hb⟩; replace HB := Lib.hid (HB.out.trans (hb.mono HB.out.size)); clear hb)
      | (go_at_call 14; (with_reducible refine (hw _).mono ?_); rintro e wn ⟨rfl, hb⟩; replace HB := Lib.hid (HB.out.trans (hb.mono HB.out.size)); clear hb))
    go_ret
    exact ⟨rfl, HB.out⟩
  | true =>
    rw [h] at hM
    simp only [if_true] at hM
    have h9 : 0 ≤ c ∧ c ≤ 9 := by rcases chB_iff.1 h with e | e | e | e <;> omega
    obtain ⟨m, hm⟩ : ∃ m : Nat, (m : Int) = c / 2 + 1 := ⟨(c / 2 + 1).toNat, by omega⟩
    obtain ⟨cn, rfl⟩ : ∃ cn : Nat, c = (cn : Int) := ⟨c.toNat, by omega⟩
    have hm2 : cn < 2 * m := by omega
    rw [← hm] at hM
    clear hm h
    have hcn : cn ≤ 9 := by omega
    go_enter Try.func8, Try.ntmps8
    go_wp2_with (first
      | (go_at_call 12; (with_reducible refine (hn _ _).mono ?_); rintro e w' ⟨rfl, rfl⟩)
      | (go_at_call 10; (with_reducible refine (hM _).mono ?_); rintro e wn ⟨rfl, hb⟩; replace HB := Lib.hid (HB.out.trans (hb.mono HB.out.size)); clear hb))
    have HB0 := HB
    clear HB
    rename_i w1
    go_loopw [9, 10, 11, 12] (fun v9 v10 v11 v12 wr => ∃ a b d p : Nat, p ≤ cn ∧ v9 = .int .i64 (a : Int) ∧ v10 = .int .i64 (b : Int) ∧ v11 = .int .i64 (d : Int) ∧ v12 = .int .i64 (p : Int) ∧ a ≤ 9 ∧ b ≤ 9 ∧ d ≤ 9 ∧ Hid (a + b ≤ p + d ∧ a ≤ p ∧ b ≤ p ∧ d ≤ p) ∧ Hid (Below w.heap.size w wr)) (fun _ _ _ v12 _ => cn - (RowKit.intOf v12).toNat)
    case atStart => exact ⟨0, 0, 0, 0, by omega, rfl, rfl, rfl, rfl, by omega, by omega, by omega, Lib.hid (by omega), HB0⟩
    case round =>
      obtain ⟨wo, rfl⟩ : ∃ wo : World, wo = wr := ⟨_, rfl⟩
      obtain ⟨a, b, d, p, hp, rfl, rfl, rfl, rfl, ha, hb, hd, HI, HB⟩ := hrel
      clear HB0
      by_cases hlt : p < cn
      · go_upto_region 8 with fail
        go_quiet (fail)
        obtain ⟨X1, hl1, hX1⟩ := bit_one x p hx0 hx1
        obtain ⟨Y1, hl2, hY1⟩ := bit_one y p hy0 hy1
        rw [hX1, hY1]
        have HB2 : Hid (Below w.heap.size w (wo.drewN nq)) := Lib.hid (HB.out.trans ⟨rfl, rfl, rfl, Nat.le_refl _, fun _ _ => rfl⟩)
        obtain ⟨wz, hwz⟩ : ∃ wz, wo.drewN nq = wz := ⟨_, rfl⟩
        rw [hwz] at HB2 ⊢
        clear hX1 hY1 hwz
        have b00 : bits BinOp.and IntKind.u16 0 0 = 0 := by decide
        have b01 : bits BinOp.and IntKind.u16 0 1 = 0 := by decide
        have b10 : bits BinOp.and IntKind.u16 1 0 = 0 := by decide
        have b11 : bits BinOp.and IntKind.u16 1 1 = 1 := by decide
        have hI := HI.out
        obtain rfl | rfl : X1 = 0 ∨ X1 = 1 := by omega
        all_goals obtain rfl | rfl : Y1 = 0 ∨ Y1 = 1 := by omega
        · have HI2 : Hid (a + b ≤ p + 1 + d ∧ a ≤ p + 1 ∧ b ≤ p + 1 ∧ d ≤ p + 1) := Lib.hid (by omega)
          clear hI
          go_wp2
          go_roundw
          case rel => exact ⟨a, b, d, p + 1, by omega, by go_num, by go_num, by go_num, by go_num, by omega, by omega, by omega, HI2, HB2⟩
          case measure => simp [RowKit.intOf]; omega
        · have HI2 : Hid (a + (b + 1) ≤ p + 1 + d ∧ a ≤ p + 1 ∧ b + 1 ≤ p + 1 ∧ d ≤ p + 1) := Lib.hid (by omega)
          clear hI
          go_wp2
          go_roundw
          case rel => exact ⟨a, b + 1, d, p + 1, by omega, by go_num, by go_num, by go_num, by go_num, by omega, by have := HI2.out; omega, by omega, HI2, HB2⟩
          case measure => simp [RowKit.intOf]; omega
        · have HI2 : Hid (a + 1 + b ≤ p + 1 + d ∧ a + 1 ≤ p + 1 ∧ b ≤ p + 1 ∧ d ≤ p + 1) := Lib.hid (by omega)
          clear hI
          go_wp2
          go_roundw
          case rel => exact ⟨a + 1, b, d, p + 1, by omega, by go_num, by go_num, by go_num, by go_num, by have := HI2.out; omega, by omega, by omega, HI2, HB2⟩
          case measure => simp [RowKit.intOf]; omega
        · have HI2 : Hid (a + 1 + (b + 1) ≤ p + 1 + (d + 1) ∧ a + 1 ≤ p + 1 ∧ b + 1 ≤ p + 1 ∧ d + 1 ≤ p + 1) := Lib.hid (by omega)
          clear hI
          go_wp2
          go_roundw
          case rel => exact ⟨a + 1, b + 1, d + 1, p + 1, by omega, by go_num, by go_num, by go_num, by go_num, by have := HI2.out; omega, by have := HI2.out; omega, by have := HI2.out; omega, HI2, HB2⟩
          case measure => simp [RowKit.intOf]; omega
      · obtain rfl : p = cn := by omega
        have hI := HI.out
        by_cases h1 : a < m
        · clear hI
          go_wp2_with (go_at_call 14; (with_reducible refine (hw _).mono ?_); rintro e wn ⟨rfl, hb⟩; replace HB := Lib.hid (HB.out.trans (hb.mono HB.out.size)); clear hb)
          go_ret
          exact ⟨rfl, HB.out⟩
        · by_cases h2 : b < m
          · clear hI
            go_wp2_with (go_at_call 14; (with_reducible refine (hw _).mono ?_); rintro e wn ⟨rfl, hb⟩; replace HB := Lib.hid (HB.out.trans (hb.mono HB.out.size)); clear hb)
            go_ret
            exact ⟨rfl, HB.out⟩
          · have h3 : 0 < d := by omega
            clear hI
            go_wp2_with (go_at_call 14; (with_reducible refine (hw _).mono ?_); rintro e wn ⟨rfl, hb⟩; replace HB := Lib.hid (HB.out.trans (hb.mono HB.out.size)); clear hb)
            go_ret
            exact ⟨rfl, HB.out⟩
end Go.Proofs
