/-
  The contracts of the reference number with which bytes begin, and of the reference first frame.
-/
import Derived.Test.YteeponciegmlcaaDoorFrB
namespace Go.Proofs
open Go.RowKit Go.Shelf Sm
/-- what the reference answers of the number with which bytes begin -/
def Sm.takeV (l : List (BitVec 8)) : Int × Int := match getN l with
  | .num m k => (m, k)
  | .bad => (0, -1)
  | .cut => (0, 0)
theorem Sm.pow128 (k : Nat) (hk : k < 8) : wrap64 (((128 ^ k : Nat) : Int) * 128) = ((128 ^ (k + 1) : Nat) : Int) := by
  have h : ∀ k : Fin 8, wrap64 (((128 ^ k.val : Nat) : Int) * 128) = ((128 ^ (k.val + 1) : Nat) : Int) := by decide +kernel
  exact h ⟨k, hk⟩
theorem Sm.step128 {a k m : Nat} {x : BitVec 8} (hk : k ≤ 8) (ha : a < 128 ^ k) (hm : m = a + 128 ^ k * (x.toNat % 128)) : wrap64 ((a : Int) + wrap64 (((128 ^ k : Nat) : Int) * (ib x % 128))) = (m : Int) := by
  have hp : 128 ^ k ≤ 128 ^ 8 := Nat.pow_le_pow_right (by decide) hk
  have h1 : 128 ^ k * (x.toNat % 128) ≤ 128 ^ 8 * 127 := Nat.mul_le_mul hp (by omega)
  have e : ((128 ^ k : Nat) : Int) * (ib x % 128) = ((128 ^ k * (x.toNat % 128) : Nat) : Int) := by unfold ib; simp
  rw [e, hm]
  generalize 128 ^ k * (x.toNat % 128) = y at *
  generalize 128 ^ k = p at *
  unfold wrap64
  omega
set_option maxRecDepth 100000 in
set_option maxHeartbeats 8000000 in
theorem Sm.refTake_any (l : List (BitVec 8)) (n c B : Nat) (A : Option Addr) (w : World) (hn : Hid (l.length = n)) (hm : n ≤ 9223372036854775807) (hr : Rd w B A l) :
    Calls Tryd.prog 48 #[.slice A n c] w fun e w' => e = .returned (.tuple #[.int .i64 (takeV l).1, .int .i64 (takeV l).2]) ∧ w = w' := by
  go_enter Tryd.func48, Tryd.ntmps48
  go_wp2
  go_loopw [4, 5, 6] (fun vn vu vi wr => ∃ k : Nat, k ≤ 9 ∧ k ≤ n ∧ vi = .int .i64 (k : Int) ∧ vn = .int .i64 (numV (l.take k) : Int) ∧ vu = .int .i64 ((128 ^ (min k 8) : Nat) : Int) ∧ Hid (k ≤ lead l) ∧ w = wr) (fun _ _ vi _ => 9 - (intOf vi).toNat)
  case atStart => exact ⟨0, by omega, by omega, rfl, by simp [numV], rfl, Lib.hid (Nat.zero_le _), rfl⟩
  case round =>
    obtain ⟨k, h9, hkn, rfl, rfl, rfl, HL, rfl⟩ := hrel
    have hlen := hn.out
    by_cases hk9 : k < 9
    · by_cases hlt : k < n
      · obtain ⟨b, off, rfl, hbB, hcx⟩ := hr.at_ (k := k) (by omega)
        obtain ⟨x, hx⟩ : ∃ x, l[k]'(by omega) = x := ⟨_, rfl⟩
        rw [hx] at hcx
        have hxl : l[k]? = some x := by rw [← hx]; exact List.getElem?_eq_getElem (by omega)
        have hmin : min k 8 = k := by omega
        rw [hmin]
        obtain ⟨m, hmm⟩ : ∃ m, numV (l.take (k + 1)) = m := ⟨_, rfl⟩
        have htl : (l.take k).length = k := by rw [List.length_take]; omega
        have hst := step128 (a := numV (l.take k)) (k := k) (m := m) (x := x) (by omega) (by have := numV_lt (l.take k); rwa [htl] at this) (by rw [← hmm, take_succ_get hxl])
        have HX := Lib.hid hxl
        have HM := Lib.hid hmm
        have i0 := ib_lo x
        have i1 := ib_hi x
        generalize hu : ((128 ^ k : Nat) : Int) = u at hst ⊢
        have HU := Lib.hid hu
        generalize hnn : ((numV (l.take k) : Nat) : Int) = nn at hst ⊢
        clear hlen hx hxl hmm htl
        by_cases hge : (128 : Int) ≤ ib x
        · have hl1 := Lib.hid (lead_more l k x HL.out HX.out (by unfold ib at hge; omega))
          clear hnn
          by_cases h8 : k < 8
          · have hpw : wrap64 (u * 128) = ((128 ^ (k + 1) : Nat) : Int) := by rw [← hu]; exact pow128 k h8
            generalize hv : ((128 ^ (k + 1) : Nat) : Int) = v at hpw
            have HV := Lib.hid hv
            clear hu hv
            go_wp2
            go_roundw
            case rel => exact ⟨k + 1, by omega, by omega, by go_num, by rw [HM.out, hst], by rw [show min (k + 1) 8 = k + 1 by omega, HV.out, hpw], hl1, trivial⟩
            case measure => simp [intOf]; omega
          · clear hu
            go_wp2
            go_roundw
            case rel => exact ⟨k + 1, by omega, by omega, by go_num, by rw [HM.out, hst], by rw [show min (k + 1) 8 = k by omega, HU.out], hl1, trivial⟩
            case measure => simp [intOf]; omega
        · have hlead := Lib.hid (lead_eq l k x HL.out HX.out (by unfold ib at hge; omega))
          clear hu hnn
          have fin : ∀ v e : Int, takeV l = (v, e) → Ending.returned (.tuple #[.int .i64 v, .int .i64 e]) = .returned (.tuple #[.int .i64 (takeV l).1, .int .i64 (takeV l).2]) := fun v e h => by rw [h]
          by_cases hz : 0 < k ∧ ib x = 0
          · obtain ⟨z1, z2⟩ := hz
            have hT : takeV l = (0, -1) := by unfold takeV; rw [getN_zero hlead.out z1 hk9 HX.out (by unfold ib at z2; omega)]
            have z1' : (0 : Int) < (k : Int) := by omega
            clear hst
            go_wp2
            go_ret2
            exact ⟨fin _ _ hT, rfl⟩
          · have hx0 : ¬ (0 < k) ∨ ¬ ib x = 0 := by
              by_cases h : 0 < k
              · exact .inr fun h2 => hz ⟨h, h2⟩
              · exact .inl h
            by_cases hto : (4611686018427387904 : Int) < (m : Int)
            · have hT : takeV l = (0, -1) := by unfold takeV; rw [getN_over hlead.out hk9 HX.out (by rw [HM.out]; unfold top; omega)]
              have FF := Lib.hid (fin _ _ hT)
              clear fin hT hz
              rcases hx0 with hx0 | hx0
              · obtain rfl : k = 0 := by omega
                rw [Nat.add_zero] at hcx
                go_wp2
                go_ret2
                exact ⟨FF.out, rfl⟩
              · go_wp2
                all_goals (go_ret2; exact ⟨FF.out, rfl⟩)
            · have hT : takeV l = ((m : Int), (k : Int) + 1) := by
                unfold takeV
                rw [getN_num hlead.out hk9 HX.out (fun h => hz ⟨h.1, by unfold ib; omega⟩) (by rw [HM.out]; unfold top; omega), HM.out]
                rfl
              have FF := Lib.hid (fin _ _ hT)
              clear fin hT hz
              rcases hx0 with hx0 | hx0
              · obtain rfl : k = 0 := by omega
                rw [Nat.add_zero] at hcx
                go_wp2
                go_ret2
                exact ⟨FF.out, rfl⟩
              · go_wp2
                all_goals (go_ret2; exact ⟨FF.out, rfl⟩)
      · have h2 := HL.out
        have h3 := lead_le l
        have hT : takeV l = (0, 0) := by unfold takeV; rw [getN_cut (by omega) (by omega)]
        go_wp2
        all_goals (go_ret2; exact ⟨by first | rfl | (rw [hT]; rfl), rfl⟩)
    · have h2 := HL.out
      have hT : takeV l = (0, -1) := by unfold takeV; rw [getN_long (by omega)]
      by_cases hkn' : (k : Int) < (n : Int)
      · go_wp2
        go_ret2
        exact ⟨by first | rfl | (rw [hT]; rfl), rfl⟩
      · go_wp2
        go_ret2
        exact ⟨by first | rfl | (rw [hT]; rfl), rfl⟩
