/-
  Contracts of byX, of the reference word by x and of the reference product, at every word.
-/
import Derived.WalkKit
import Derived.Outline
import Derived.LoopTactic
import Derived.OwnWalk
import Derived.Lib.Hide
import Derived.Test.YtekbojfialjblaaDoorProg
import Derived.Test.YtekbojfialjblaaDoorVals
namespace Go.Proofs
open Go.RowKit Sm
theorem Sm.ret_u32 {a b : Int} (h : a = b) : Ending.returned (.int .u32 a) = .returned (.int .u32 b) := by rw [h]
set_option maxHeartbeats 400000 in
theorem Sm.byX_any (x : BitVec 32) (w : World) : Calls Tryd.prog 33 #[.int .u32 (iv x)] w fun e w' => e = .returned (.int .u32 (iv (byx x))) ∧ w = w' := by
  have h0 := iv_lo x
  have h1 := iv_hi x
  have ho := and1_bit x
  cases hb : x.getLsbD 0 <;> rw [hb] at ho
  · go_enter Tryd.func33, Tryd.ntmps33
    go_wp2
    go_ret
    exact ⟨ret_u32 (byx_even hb), rfl⟩
  · go_enter Tryd.func33, Tryd.ntmps33
    go_wp2
    go_ret
    exact ⟨ret_u32 (byx_odd hb), rfl⟩
set_option maxHeartbeats 400000 in
theorem Sm.times_any (x : BitVec 32) (w : World) : Calls Tryd.prog 34 #[.int .u32 (iv x)] w fun e w' => e = .returned (.int .u32 (iv (byx x))) ∧ w = w' := by
  have h0 := iv_lo x
  have h1 := iv_hi x
  have ho := odd_bit x
  cases hb : x.getLsbD 0 <;> rw [hb] at ho
  · go_enter Tryd.func34, Tryd.ntmps34
    go_wp2
    go_ret
    exact ⟨ret_u32 (byx_even hb), rfl⟩
  · go_enter Tryd.func34, Tryd.ntmps34
    go_wp2
    go_ret
    exact ⟨ret_u32 (byx_odd hb), rfl⟩
set_option maxHeartbeats 400000 in
theorem Sm.refMul_core (a b M : BitVec 32) (w : World) (H0 : Hid (mulL 32 a b = M)) : Calls Tryd.prog 19 #[.int .u32 (iv a), .int .u32 (iv b)] w fun e w' => e = .returned (.int .u32 (iv M)) ∧ w = w' := by
  go_enter Tryd.func19, Tryd.ntmps19
  go_wp2
  go_loop [0, 1, 5, 6] (fun va vb vo vk => ∃ (k : Nat) (a' b' o : BitVec 32), k ≤ 32 ∧ va = .int .u32 (iv a') ∧ vb = .int .u32 (iv b') ∧ vo = .int .u32 (iv o) ∧ vk = .int .i64 k ∧ Hid (o ^^^ mulL (32 - k) a' b' = M)) (fun _ _ _ vk => 32 - (intOf vk).toNat)
  case atStart => exact ⟨0, a, b, 0#32, by omega, rfl, rfl, rfl, rfl, Lib.hid (by simpa using H0.out)⟩
  case round =>
    obtain ⟨k, a', b', o, hk, rfl, rfl, rfl, rfl, HM⟩ := hrel
    have ht := msb_bit a'
    by_cases hlt : k < 32
    · cases hb : a'.msb <;> rw [hb] at ht
      · have hb' := Lib.hid hb
        clear hb
        go_wp2_with (go_at_call 34; refine (times_any _ _).mono ?_; rintro e w' ⟨rfl, rfl⟩)
        go_round
        case rel => exact ⟨k + 1, a' <<< 1, byx b', o, by omega, by rw [shl1], rfl, rfl, by go_num, Lib.hid (by have := mul_step (n := 32 - (k + 1)) (by omega) HM.out; rw [hb'.out] at this; simpa using this)⟩
        case measure => simp [intOf]; omega
      · have hb' := Lib.hid hb
        clear hb
        go_wp2_with (go_at_call 34; refine (times_any _ _).mono ?_; rintro e w' ⟨rfl, rfl⟩)
        go_round
        case rel => exact ⟨k + 1, a' <<< 1, byx b', o ^^^ b', by omega, by rw [shl1], rfl, by rw [bits_xor], by go_num, Lib.hid (by have := mul_step (n := 32 - (k + 1)) (by omega) HM.out; rw [hb'.out] at this; simpa using this)⟩
        case measure => simp [intOf]; omega
    · go_wp2
      go_ret
      have e : 32 - k = 0 := by omega
      have := HM.out
      rw [e] at this
      simp [mulL] at this
      subst this
      exact ⟨rfl, rfl⟩
theorem Sm.refMul_any (a b : BitVec 32) (w : World) : Calls Tryd.prog 19 #[.int .u32 (iv a), .int .u32 (iv b)] w fun e w' => e = .returned (.int .u32 (iv (mul a b))) ∧ w = w' := refMul_core a b _ w rfl
