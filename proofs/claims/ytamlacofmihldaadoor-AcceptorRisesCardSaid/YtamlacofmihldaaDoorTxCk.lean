/-
  The document's Check, and the law TextChecks, where works holds. Conditions: a text that is not too long; the package variables lie as they are laid.
-/
import Derived.Test.YtamlacofmihldaaDoorTxN
import Derived.Test.YtamlacofmihldaaDoorTxB
namespace Go.Proofs
open Go Go.RowKit Sm Go.Lib
attribute [local go_sem] Oper.semAt_some
set_option maxRecDepth 100000 in
set_option maxHeartbeats 2000000 in
theorem Sm.refCheck_any (s : ByteArray) (w : World) (hm : s.size ≤ 1000000) : Calls Tryd.prog 18 #[.string s] w fun e w' => e = .returned (.int .i64 (checkN s)) ∧ Below w.heap.size w w' := by
  by_cases hl : 200 < s.size
  · have hk : checkN s = 3 := by unfold checkN; rw [if_pos hl]
    rw [hk]
    go_enter Tryd.func18, Tryd.ntmps18
    go_wp2
    go_ret
    exact ⟨rfl, Below.refl _ _⟩
  · have hs := Signs_any s w hm
    have hk : checkN s = if brokenB s then 130 else if anyR badR s then 131 else if blankB s then 132 else 0 := by unfold checkN; rw [if_neg hl]
    obtain ⟨N, hN⟩ : ∃ N, cntS s = N := ⟨_, rfl⟩
    have hNl : N ≤ 200 := by have := cntS_le s; omega
    rw [hN] at hs
    obtain ⟨K, hK⟩ : ∃ K, checkN s = K := ⟨_, rfl⟩
    rw [hK] at hk ⊢
    have HK := Lib.hid hk
    have HN := Lib.hid hN
    clear hk hK hN
    go_enter Tryd.func18, Tryd.ntmps18
    go_wp2_with (go_at_call 30; (with_reducible refine hs.mono ?_); clear hs; rintro e w1 ⟨A, c, rfl, hown, hb1⟩)
    have HB1 := Lib.hid hb1
    have HOW : Hid (∀ k, k < N → ∃ g, A = some ⟨g, 0, none⟩ ∧ N ≤ c ∧ w1.cell? ⟨g, k * 4 + 2, none⟩ = some (.int .i64 (runeK s k : Int)) ∧ w1.cell? ⟨g, k * 4 + 3, none⟩ = some (.bool (brokeP s (posK s k)))) := Lib.hid fun k hk => by
      obtain ⟨g, cap, eg, hgb, hgl⟩ := hown.form (by omega)
      injection eg with e1 e2 e3
      subst e1 e3
      have h2 := signsC_get s (j := k) N 2 hk (by omega)
      have h3 := signsC_get s (j := k) N 3 hk (by omega)
      refine ⟨g, rfl, ?_, (hown.cellAt _ (by omega)).trans h2, (hown.cellAt _ (by omega)).trans h3⟩
      rcases hown.2 with ⟨h1, h2⟩ | ⟨g2, cap, cur, h1, h2, h3, h4, h5, h6, h7⟩
      · omega
      · injection h1 with f1 f2 f3
        omega
    clear hown hb1
    go_loopw [4] (fun vi wr => ∃ k : Nat, k ≤ N ∧ vi = .int .i64 (k : Int) ∧ w1 = wr ∧ Hid (anyF (fun k => brokeP s (posK s k)) k (N - k) = brokenB s)) (fun vi _ => N - (RowKit.intOf vi).toNat)
    case atStart => exact ⟨0, Nat.zero_le _, rfl, rfl, Lib.hid (by rw [← HN.out]; rfl)⟩
    case round =>
      obtain ⟨k, hk, rfl, hww, HA⟩ := hrel
      subst hww
      by_cases hlt : k < N
      · obtain ⟨g, rfl, hnc, c2, c3⟩ := HOW.out k hlt
        have hst : anyF (fun k => brokeP s (posK s k)) k (N - k) = (brokeP s (posK s k) || anyF (fun k => brokeP s (posK s k)) (k + 1) (N - (k + 1))) := by
          rw [show N - k = (N - (k + 1)) + 1 by omega]
          rfl
        have HST := Lib.hid hst
        clear hst c2
        by_cases hbr : brokeP s (posK s k) = true
        · rw [hbr] at c3
          have hK130 : K = 130 := by
            have h1 := HA.out
            rw [HST.out, hbr, Bool.true_or] at h1
            rw [HK.out, ← h1]
            rfl
          have HK130 := Lib.hid hK130
          clear hK130 hbr
          go_wp2
          go_ret
          exact ⟨by rw [HK130.out]; rfl, HB1.out⟩
        · simp only [Bool.not_eq_true] at hbr
          rw [hbr] at c3
          have HA2 : Hid (anyF (fun k => brokeP s (posK s k)) (k + 1) (N - (k + 1)) = brokenB s) := Lib.hid (by rw [← HA.out, HST.out, hbr, Bool.false_or])
          clear hbr
          go_wp2
          go_roundw
          case rel => exact ⟨k + 1, by omega, by go_num, trivial, HA2⟩
          case measure => simp [RowKit.intOf]; omega
      · obtain rfl : k = N := by omega
        have hb0 : brokenB s = false := by
          have h1 := HA.out
          rw [Nat.sub_self] at h1
          exact h1.symm
        have hk2 := HK.out
        rw [hb0, if_neg (by simp)] at hk2
        have HK2 := Lib.hid hk2
        clear hb0 hk2 HK
        go_wp2
        go_loopw [5] (fun vi wr => ∃ j : Nat, j ≤ k ∧ vi = .int .i64 (j : Int) ∧ w1 = wr ∧ Hid (anyF (fun k => badR (runeK s k)) j (k - j) = anyR badR s)) (fun vi _ => k - (RowKit.intOf vi).toNat)
        case atStart => exact ⟨0, Nat.zero_le _, rfl, rfl, Lib.hid (by rw [← HN.out]; rfl)⟩
        case round =>
          obtain ⟨j, hj, rfl, hww, HA3⟩ := hrel
          subst hww
          by_cases hlt2 : j < k
          · obtain ⟨g, rfl, hnc, c2, c3⟩ := HOW.out j hlt2
            have hst : anyF (fun k => badR (runeK s k)) j (k - j) = (badR (runeK s j) || anyF (fun k => badR (runeK s k)) (j + 1) (k - (j + 1))) := by
              rw [show k - j = (k - (j + 1)) + 1 by omega]
              rfl
            have HST := Lib.hid hst
            clear hst c3
            obtain ⟨r, hr⟩ : ∃ r, runeK s j = r := ⟨_, rfl⟩
            rw [hr] at c2 HST
            clear hr
            by_cases hbr : badR r = true
            · have hK131 : K = 131 := by
                have h1 := HA3.out
                rw [HST.out, hbr, Bool.true_or] at h1
                rw [HK2.out, ← h1]
                rfl
              have HK131 := Lib.hid hK131
              have hcs : r < 32 ∨ (127 ≤ r ∧ r ≤ 159) := by unfold badR at hbr; simpa using hbr
              clear hK131 hbr
              rcases hcs with h1 | ⟨h1, h2⟩
              · go_wp2
                go_ret
                exact ⟨by rw [HK131.out]; rfl, HB1.out⟩
              · have h0 : ¬ r < 32 := by omega
                go_wp2
                go_ret
                exact ⟨by rw [HK131.out]; rfl, HB1.out⟩
            · have hbr2 : badR r = false := by simpa using hbr
              have HA4 : Hid (anyF (fun k => badR (runeK s k)) (j + 1) (k - (j + 1)) = anyR badR s) := Lib.hid (by rw [← HA3.out, HST.out, hbr2, Bool.false_or])
              have hcs : ¬ r < 32 ∧ ¬ (127 ≤ r ∧ r ≤ 159) := by
                unfold badR at hbr2
                simp only [decide_eq_false_iff_not, not_or] at hbr2
                exact hbr2
              clear hbr hbr2
              obtain ⟨h1, h2⟩ := hcs
              by_cases h3 : 127 ≤ r
              · have h4 : ¬ r ≤ 159 := fun h => h2 ⟨h3, h⟩
                clear h2
                go_wp2
                go_roundw
                case rel => exact ⟨j + 1, by omega, by go_num, trivial, HA4⟩
                case measure => simp [RowKit.intOf]; omega
              · clear h2
                go_wp2
                go_roundw
                case rel => exact ⟨j + 1, by omega, by go_num, trivial, HA4⟩
                case measure => simp [RowKit.intOf]; omega
          · obtain rfl : j = k := by omega
            have hb0 : anyR badR s = false := by
              have h1 := HA3.out
              rw [Nat.sub_self] at h1
              exact h1.symm
            have hk3 := HK2.out
            rw [hb0, if_neg (by simp)] at hk3
            have HK3 := Lib.hid hk3
            clear hb0 hk3 HK2
            by_cases hz : s.size = 0
            · have hK132 : Hid (K = 132) := Lib.hid (by rw [HK3.out]; unfold blankB; rw [decide_eq_true (.inl hz)]; rfl)
              clear HK3
              go_wp2
              go_ret
              exact ⟨by rw [hK132.out]; rfl, HB1.out⟩
            · have i0 : ∀ w, (Instr.index 9 (.string s) (.int .i64 0)).run Tryd.prog w = .ok (.int .u8 ((s.get! 0).toNat : Int)) w := fun w => byte_at s 0 (by omega) w
              have i1 : ∀ w, (Instr.index 9 (.string s) (.int .i64 ((s.size : Int) - 1))).run Tryd.prog w = .ok (.int .u8 ((s.get! (s.size - 1)).toNat : Int)) w := fun w => by
                rw [show (s.size : Int) - 1 = ((s.size - 1 : Nat) : Int) by omega]
                exact byte_at s (s.size - 1) (by omega) w
              have hbk : blankB s = decide ((s.get! 0).toNat = 32 ∨ (s.get! (s.size - 1)).toNat = 32) := by
                unfold blankB
                have e : ∀ x : UInt8, x = 32 ↔ x.toNat = 32 := fun x => ⟨fun h => by rw [h]; rfl, fun h => UInt8.toNat_inj.1 (by rw [h]; rfl)⟩
                simp only [e, hz, false_or]
              have hk4 := HK3.out
              rw [hbk] at hk4
              obtain ⟨a, ha⟩ : ∃ a, (s.get! 0).toNat = a := ⟨_, rfl⟩
              obtain ⟨b, hb⟩ : ∃ b, (s.get! (s.size - 1)).toNat = b := ⟨_, rfl⟩
              rw [ha] at i0 hk4
              rw [hb] at i1 hk4
              have HK4 := Lib.hid hk4
              clear HK3 hk4 hbk ha hb
              by_cases h1 : a = 32
              · have hK132 : Hid (K = 132) := Lib.hid (by rw [HK4.out, decide_eq_true (.inl h1)]; rfl)
                subst h1
                clear HK4
                go_wp2
                go_ret
                exact ⟨by rw [hK132.out]; rfl, HB1.out⟩
              · by_cases h2 : b = 32
                · have hK132 : Hid (K = 132) := Lib.hid (by rw [HK4.out, decide_eq_true (.inr h2)]; rfl)
                  subst h2
                  clear HK4
                  have h3 : ((a : Int) == 32) = false := by simp; omega
                  go_wp2
                  go_ret
                  exact ⟨by rw [hK132.out]; rfl, HB1.out⟩
                · have hK0 : Hid (K = 0) := Lib.hid (by rw [HK4.out, decide_eq_false (by simp [h1, h2])]; rfl)
                  clear HK4
                  have h3 : ((a : Int) == 32) = false := by simp; omega
                  have h4 : ((b : Int) == 32) = false := by simp; omega
                  go_wp2
                  go_ret
                  exact ⟨by rw [hK0.out]; rfl, HB1.out⟩
end Go.Proofs
