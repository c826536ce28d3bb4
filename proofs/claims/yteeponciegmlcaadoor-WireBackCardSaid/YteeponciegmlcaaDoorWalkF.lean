/-
  The contract of the reference run over bytes: at every word and every readable bytes.
-/
import Derived.Test.YteeponciegmlcaaDoorWalkE
import Derived.Test.YteeponciegmlcaaDoorValsB
namespace Go.Proofs
open Go.RowKit Go.Shelf Sm
set_option maxRecDepth 100000 in
set_option maxHeartbeats 1000000 in
theorem Sm.refRun_core (x : BitVec 32) (l : List (BitVec 8)) (n c B : Nat) (A : Option Addr) (w : World) (hn : Hid (l.length = n)) (hm : n ≤ 9223372036854775807) (hr : Rd w B A l) (R : BitVec 32) (HR : Hid (crc x l = R)) :
    Calls Tryd.prog 75 #[.int .u32 (iv x), .slice A n c] w fun e w' => e = .returned (.int .u32 (iv R)) ∧ w = w' := by
  go_enter Tryd.func75, Tryd.ntmps75
  go_wp2
  go_loop [0, 5] (fun vw vi => ∃ (k : Nat) (y : BitVec 32), k ≤ n ∧ vi = .int .i64 (k : Int) ∧ vw = .int .u32 (iv y) ∧ Hid (crc y (l.drop k) = R)) (fun _ vi => n - (intOf vi).toNat)
  case atStart => exact ⟨0, x, Nat.zero_le _, rfl, rfl, HR⟩
  case round =>
    obtain ⟨k, y, hk, rfl, rfl, H⟩ := hrel
    by_cases hlt : k < n
    · have hkl : k < l.length := by rw [hn.out]; exact hlt
      obtain ⟨b, off, hA, hb, hc⟩ := hr.at_ hkl
      have H2 : Hid (crc (iter 8 (y ^^^ l[k].setWidth 32)) (l.drop (k + 1)) = R) := Lib.hid (by rw [← crc_drop _ _ _ hkl]; exact H.out)
      obtain ⟨cc, hcc⟩ : ∃ cc, cc = l[k] := ⟨_, rfl⟩
      rw [← hcc] at hc H2
      have hx := xor_byte y cc
      have hb0 := ib_lo cc
      have hb1 := ib_hi cc
      clear hr H hcc
      subst hA
      go_wp2
      go_loop [0, 6] (fun vw vi => ∃ (m : Nat) (z : BitVec 32), m ≤ 8 ∧ vi = .int .i64 (m : Int) ∧ vw = .int .u32 (iv z) ∧ Hid (iter (8 - m) z = iter 8 (y ^^^ cc.setWidth 32))) (fun _ vi => 8 - (intOf vi).toNat)
      case atStart => exact ⟨0, _, Nat.zero_le _, rfl, rfl, Lib.hid rfl⟩
      case round =>
        obtain ⟨m, z, hm8, rfl, rfl, HI⟩ := hrel
        by_cases hml : m < 8
        · have HI2 : Hid (iter (8 - (m + 1)) (byx z) = iter 8 (y ^^^ cc.setWidth 32)) := Lib.hid (by
            have := HI.out
            rw [show 8 - m = (8 - (m + 1)) + 1 by omega] at this
            exact this)
          clear hx hc hb0 hb1
          go_wp2_with (go_at_call 77; refine (times_any _ _).mono ?_; rintro e w' ⟨rfl, rfl⟩)
          go_round
          case rel => exact ⟨m + 1, byx z, by omega, by go_num, rfl, HI2⟩
          case measure => simp [intOf]; omega
        · have HI2 : Hid (z = iter 8 (y ^^^ cc.setWidth 32)) := Lib.hid (by
            have := HI.out
            rw [show 8 - m = 0 by omega] at this
            exact this)
          clear hx hc hb0 hb1
          go_wp2
          go_round
          case rel => exact ⟨k + 1, z, by omega, by go_num, rfl, Lib.hid (by rw [HI2.out]; exact H2.out)⟩
          case measure => simp [intOf]; omega
    · go_wp2
      go_ret
      have := H.out
      rw [crc_end _ _ _ (by rw [hn.out]; omega)] at this
      subst this
      exact ⟨rfl, rfl⟩
theorem Sm.refRun_any (x : BitVec 32) (l : List (BitVec 8)) (n c B : Nat) (A : Option Addr) (w : World) (hn : Hid (l.length = n)) (hm : n ≤ 9223372036854775807) (hr : Rd w B A l) :
    Calls Tryd.prog 75 #[.int .u32 (iv x), .slice A n c] w fun e w' => e = .returned (.int .u32 (iv (crc x l))) ∧ w = w' := refRun_core x l n c B A w hn hm hr _ (Lib.hid rfl)
