/-
  The contract of through, by the table of four bits: at every word and readable bytes, where the table lies in memory.
-/
import Derived.Test.YteeponciegmlcaaDoorWalkF
namespace Go.Proofs
open Go.RowKit Go.Shelf Sm
set_option maxRecDepth 100000 in
set_option maxHeartbeats 1000000 in
theorem Sm.through_core (x : BitVec 32) (l : List (BitVec 8)) (n c B : Nat) (A : Option Addr) (w : World) (hn : Hid (l.length = n)) (hm : n ≤ 9223372036854775807) (hr : Rd w B A l) (ht : Tab w) (R : BitVec 32) (HR : Hid (crc x l = R)) :
    Calls Tryd.prog 80 #[.int .u32 (iv x), .slice A n c] w fun e w' => e = .returned (.int .u32 (iv R)) ∧ w = w' := by
  go_enter Tryd.func80, Tryd.ntmps80
  go_wp2
  go_loop [0, 9] (fun vw vi => ∃ (k : Nat) (y : BitVec 32), k ≤ n ∧ vi = .int .i64 (k : Int) ∧ vw = .int .u32 (iv y) ∧ Hid (crc y (l.drop k) = R)) (fun _ vi => n - (intOf vi).toNat)
  case atStart => exact ⟨0, x, Nat.zero_le _, rfl, rfl, HR⟩
  case round =>
    obtain ⟨k, y, hk, rfl, rfl, H⟩ := hrel
    by_cases hlt : k < n
    · have hkl : k < l.length := by rw [hn.out]; exact hlt
      obtain ⟨b, off, hA, hb, hc⟩ := hr.at_ hkl
      have H2 : Hid (crc (iter 8 (y ^^^ l[k].setWidth 32)) (l.drop (k + 1)) = R) := Lib.hid (by rw [← crc_drop _ _ _ hkl]; exact H.out)
      obtain ⟨cc, hcc⟩ : ∃ cc, cc = l[k] := ⟨_, rfl⟩
      rw [← hcc] at hc H2
      have hx := xor_byte y cc
      have hb0 := ib_lo cc
      have hb1 := ib_hi cc
      obtain ⟨z, hz⟩ : ∃ z, z = y ^^^ cc.setWidth 32 := ⟨_, rfl⟩
      rw [← hz] at hx H2
      have a1 := and15 z
      have t1 := ht.2 (z.toNat % 16) (Nat.mod_lt _ (by decide))
      have x1 := nib_walk z
      obtain ⟨i1, hi1, hl1⟩ : ∃ i : Nat, z.toNat % 16 = i ∧ i < 16 := ⟨_, rfl, Nat.mod_lt _ (by decide)⟩
      rw [hi1] at a1 t1 x1
      have a2 := and15 (iter 4 z)
      have t2 := ht.2 ((iter 4 z).toNat % 16) (Nat.mod_lt _ (by decide))
      have x2 := nib_walk (iter 4 z)
      obtain ⟨i2, hi2, hl2⟩ : ∃ i : Nat, (iter 4 z).toNat % 16 = i ∧ i < 16 := ⟨_, rfl, Nat.mod_lt _ (by decide)⟩
      rw [hi2] at a2 t2 x2
      rw [nib_twice] at x2
      have z0 := iv_lo z
      have z1 := iv_lo (iter 4 z)
      clear hr H hcc ht hi1 hi2 hz
      subst hA
      go_wp2
      go_round
      case rel => exact ⟨k + 1, _, by omega, by go_num, rfl, H2⟩
      case measure => simp [intOf]; omega
    · go_wp2
      go_ret
      have := H.out
      rw [crc_end _ _ _ (by rw [hn.out]; omega)] at this
      subst this
      exact ⟨rfl, rfl⟩
