/-
  The law TextChecks holds of every text: Check answers as the document's own does. Conditions: the row's own.
-/
import Derived.Test.YtneaenplbccpmaaGreatDoorTxWk
import Derived.Test.YtneaenplbccpmaaGreatDoorFrame
namespace Go.Proofs
open Go Go.RowKit Sm Go.Lib
attribute [local go_sem] Oper.semAt_some
set_option maxRecDepth 100000 in
set_option maxHeartbeats 2000000 in
theorem Sm.refCheck_any (s : ByteArray) (w : World) (hm : s.size ≤ 1000000) : Calls Tryz.prog 22 #[.string s] w fun e w' => e = .returned (.int .i64 (checkN s)) ∧ Below w.heap.size w w' := by
  by_cases hl : 200 < s.size
  · have hk : checkN s = 3 := by unfold checkN; rw [if_pos hl]
    rw [hk]
    go_enter Tryz.func22, Tryz.ntmps22
    go_wp2
    go_ret
    exact ⟨rfl, Below.refl _ _⟩
  · have hs := Signs_any s w hm
    have hk : checkN s = if brokenB s then 130 else if anyR badR s then 131 else if blankB s then 132 else 0 := by unfold checkN; rw [if_neg hl]
    obtain ⟨N, hN⟩ : ∃ N, cntS s = N := ⟨_, rfl⟩
    have hNl : N ≤ 200 := by have := cntS_le s; omega
    rw [hN] at hs
    obtain ⟨K, hK⟩ : ∃ K, checkN s = K := ⟨_, rfl⟩
    rw [hK] at hk ⊢
    have HK := Lib.hid hk
    have HN := Lib.hid hN
    clear hk hK hN
    go_enter Tryz.func22, Tryz.ntmps22
    go_wp2_with (go_at_call 13; (with_reducible refine hs.mono ?_); clear hs; rintro e w1 ⟨A, c, rfl, hown, hb1⟩)
    have HB1 := Lib.hid hb1
    have HOW : Hid (∀ k, k < N → ∃ g, A = some ⟨g, 0, none⟩ ∧ N ≤ c ∧ w1.cell? ⟨g, k * 4 + 2, none⟩ = some (.int .i64 (runeK s k : Int)) ∧ w1.cell? ⟨g, k * 4 + 3, none⟩ = some (.bool (brokeP s (posK s k)))) := Lib.hid fun k hk => by
      obtain ⟨g, cap, eg, hgb, hgl⟩ := hown.form (by omega)
      injection eg with e1 e2 e3
      subst e1 e3
      have h2 := signsC_get s (j := k) N 2 hk (by omega)
      have h3 := signsC_get s (j := k) N 3 hk (by omega)
      refine ⟨g, rfl, ?_, (hown.cellAt _ (by omega)).trans h2, (hown.cellAt _ (by omega)).trans h3⟩
      rcases hown.2 with ⟨h1, h2⟩ | ⟨g2, cap, cur, h1, h2, h3, h4, h5, h6, h7⟩
      · omega
      · injection h1 with f1 f2 f3
        omega
    clear hown hb1
    go_loopw [4] (fun vi wr => ∃ k : Nat, k ≤ N ∧ vi = .int .i64 (k : Int) ∧ w1 = wr ∧ Hid (anyF (fun k => brokeP s (posK s k)) k (N - k) = brokenB s)) (fun vi _ => N - (RowKit.intOf vi).toNat)
    case atStart => exact ⟨0, Nat.zero_le _, rfl, rfl, Lib.hid (by rw [← HN.out]; rfl)⟩
    case round =>
      obtain ⟨k, hk, rfl, hww, HA⟩ := hrel
      subst hww
      by_cases hlt : k < N
      · obtain ⟨g, rfl, hnc, c2, c3⟩ := HOW.out k hlt
        have hst : anyF (fun k => brokeP s (posK s k)) k (N - k) = (brokeP s (posK s k) || anyF (fun k => brokeP s (posK s k)) (k + 1) (N - (k + 1))) := by
          rw [show N - k = (N - (k + 1)) + 1 by omega]
          rfl
        have HST := Lib.hid hst
        clear hst c2
        by_cases hbr : brokeP s (posK s k) = true
        · rw [hbr] at c3
          have hK130 : K = 130 := by
            have h1 := HA.out
            rw [HST.out, hbr, Bool.true_or] at h1
            rw [HK.out, ← h1]
            rfl
          have HK130 := Lib.hid hK130
          clear hK130 hbr
          go_wp2
          go_ret
          exact ⟨by rw [HK130.out]; rfl, HB1.out⟩
        · simp only [Bool.not_eq_true] at hbr
          rw [hbr] at c3
          have HA2 : Hid (anyF (fun k => brokeP s (posK s k)) (k + 1) (N - (k + 1)) = brokenB s) := Lib.hid (by rw [← HA.out, HST.out, hbr, Bool.false_or])
          clear hbr
          go_wp2
          go_roundw
          case rel => exact ⟨k + 1, by omega, by go_num, trivial, HA2⟩
          case measure => simp [RowKit.intOf]; omega
      · obtain rfl : k = N := by omega
        have hb0 : brokenB s = false := by
          have h1 := HA.out
          rw [Nat.sub_self] at h1
          exact h1.symm
        have hk2 := HK.out
        rw [hb0, if_neg (by simp)] at hk2
        have HK2 := Lib.hid hk2
        clear hb0 hk2 HK
        go_wp2
        go_loopw [5] (fun vi wr => ∃ j : Nat, j ≤ k ∧ vi = .int .i64 (j : Int) ∧ w1 = wr ∧ Hid (anyF (fun k => badR (runeK s k)) j (k - j) = anyR badR s)) (fun vi _ => k - (RowKit.intOf vi).toNat)
        case atStart => exact ⟨0, Nat.zero_le _, rfl, rfl, Lib.hid (by rw [← HN.out]; rfl)⟩
        case round =>
          obtain ⟨j, hj, rfl, hww, HA3⟩ := hrel
          subst hww
          by_cases hlt2 : j < k
          · obtain ⟨g, rfl, hnc, c2, c3⟩ := HOW.out j hlt2
            have hst : anyF (fun k => badR (runeK s k)) j (k - j) = (badR (runeK s j) || anyF (fun k => badR (runeK s k)) (j + 1) (k - (j + 1))) := by
              rw [show k - j = (k - (j + 1)) + 1 by omega]
              rfl
            have HST := Lib.hid hst
            clear hst c3
            obtain ⟨r, hr⟩ : ∃ r, runeK s j = r := ⟨_, rfl⟩
            rw [hr] at c2 HST
            clear hr
            by_cases hbr : badR r = true
            · have hK131 : K = 131 := by
                have h1 := HA3.out
                rw [HST.out, hbr, Bool.true_or] at h1
                rw [HK2.out, ← h1]
                rfl
              have HK131 := Lib.hid hK131
              have hcs : r < 32 ∨ (127 ≤ r ∧ r ≤ 159) := by unfold badR at hbr; simpa using hbr
              clear hK131 hbr
              rcases hcs with h1 | ⟨h1, h2⟩
              · go_wp2
                go_ret
                exact ⟨by rw [HK131.out]; rfl, HB1.out⟩
              · have h0 : ¬ r < 32 := by omega
                go_wp2
                go_ret
                exact ⟨by rw [HK131.out]; rfl, HB1.out⟩
            · have hbr2 : badR r = false := by simpa using hbr
              have HA4 : Hid (anyF (fun k => badR (runeK s k)) (j + 1) (k - (j + 1)) = anyR badR s) := Lib.hid (by rw [← HA3.out, HST.out, hbr2, Bool.false_or])
              have hcs : ¬ r < 32 ∧ ¬ (127 ≤ r ∧ r ≤ 159) := by
                unfold badR at hbr2
                simp only [decide_eq_false_iff_not, not_or] at hbr2
                exact hbr2
              clear hbr hbr2
              obtain ⟨h1, h2⟩ := hcs
              by_cases h3 : 127 ≤ r
              · have h4 : ¬ r ≤ 159 := fun h => h2 ⟨h3, h⟩
                clear h2
                go_wp2
                go_roundw
                case rel => exact ⟨j + 1, by omega, by go_num, trivial, HA4⟩
                case measure => simp [RowKit.intOf]; omega
              · clear h2
                go_wp2
                go_roundw
                case rel => exact ⟨j + 1, by omega, by go_num, trivial, HA4⟩
                case measure => simp [RowKit.intOf]; omega
          · obtain rfl : j = k := by omega
            have hb0 : anyR badR s = false := by
              have h1 := HA3.out
              rw [Nat.sub_self] at h1
              exact h1.symm
            have hk3 := HK2.out
            rw [hb0, if_neg (by simp)] at hk3
            have HK3 := Lib.hid hk3
            clear hb0 hk3 HK2
            by_cases hz : s.size = 0
            · have hK132 : Hid (K = 132) := Lib.hid (by rw [HK3.out]; unfold blankB; rw [decide_eq_true (.inl hz)]; rfl)
              clear HK3
              go_wp2
              go_ret
              exact ⟨by rw [hK132.out]; rfl, HB1.out⟩
            · have i0 : ∀ w, (Instr.index 9 (.string s) (.int .i64 0)).run Tryz.prog w = .ok (.int .u8 ((s.get! 0).toNat : Int)) w := fun w => byte_at s 0 (by omega) w
              have i1 : ∀ w, (Instr.index 9 (.string s) (.int .i64 ((s.size : Int) - 1))).run Tryz.prog w = .ok (.int .u8 ((s.get! (s.size - 1)).toNat : Int)) w := fun w => by
                rw [show (s.size : Int) - 1 = ((s.size - 1 : Nat) : Int) by omega]
                exact byte_at s (s.size - 1) (by omega) w
              have hbk : blankB s = decide ((s.get! 0).toNat = 32 ∨ (s.get! (s.size - 1)).toNat = 32) := by
                unfold blankB
                have e : ∀ x : UInt8, x = 32 ↔ x.toNat = 32 := fun x => ⟨fun h => by rw [h]; rfl, fun h => UInt8.toNat_inj.1 (by rw [h]; rfl)⟩
                simp only [e, hz, false_or]
              have hk4 := HK3.out
              rw [hbk] at hk4
              obtain ⟨a, ha⟩ : ∃ a, (s.get! 0).toNat = a := ⟨_, rfl⟩
              obtain ⟨b, hb⟩ : ∃ b, (s.get! (s.size - 1)).toNat = b := ⟨_, rfl⟩
              rw [ha] at i0 hk4
              rw [hb] at i1 hk4
              have HK4 := Lib.hid hk4
              clear HK3 hk4 hbk ha hb
              by_cases h1 : a = 32
              · have hK132 : Hid (K = 132) := Lib.hid (by rw [HK4.out, decide_eq_true (.inl h1)]; rfl)
                subst h1
                clear HK4
                go_wp2
                go_ret
                exact ⟨by rw [hK132.out]; rfl, HB1.out⟩
              · by_cases h2 : b = 32
                · have hK132 : Hid (K = 132) := Lib.hid (by rw [HK4.out, decide_eq_true (.inr h2)]; rfl)
                  subst h2
                  clear HK4
                  have h3 : ((a : Int) == 32) = false := by simp; omega
                  go_wp2
                  go_ret
                  exact ⟨by rw [hK132.out]; rfl, HB1.out⟩
                · have hK0 : Hid (K = 0) := Lib.hid (by rw [HK4.out, decide_eq_false (by simp [h1, h2])]; rfl)
                  clear HK4
                  have h3 : ((a : Int) == 32) = false := by simp; omega
                  have h4 : ((b : Int) == 32) = false := by simp; omega
                  go_wp2
                  go_ret
                  exact ⟨by rw [hK0.out]; rfl, HB1.out⟩
set_option maxRecDepth 100000 in
set_option maxHeartbeats 1000000 in
theorem Sm.checks_law (s : ByteArray) (w : World) (_hs : s.size ≤ 9223372036854775807) (hL : LaysT w) : Calls Tryz.prog 5 #[.string s] w fun e w' => e = .returned (.bool true) ∧ Below w.heap.size w w' := by
  by_cases hl : 300 < s.size
  · have h12 := works_any w hL
    go_enter Tryz.func5, Tryz.ntmps5
    go_wp2_with (go_at_call 12; (with_reducible refine h12.mono ?_); rintro e w1 ⟨rfl, hb1⟩)
    go_ret
    exact ⟨rfl, hb1⟩
  · have c21 := Check_any s w (by omega) hL
    have c22 := fun w => refCheck_any s w (by omega)
    have HL := Lib.hid hL
    clear hL
    go_enter Tryz.func5, Tryz.ntmps5
    go_wp2_with (first
      | (go_at_call 20; (with_reducible refine (num_any _ _).mono ?_); rintro e w' ⟨rfl, rfl⟩)
      | (go_at_call 21; (with_reducible refine c21.mono ?_); clear c21; rintro e w1 ⟨rfl, hb1⟩)
      | (go_at_call 22; (with_reducible refine (c22 _).mono ?_); rintro e w2 ⟨rfl, hb2⟩; replace hb2 := hb1.trans (hb2.mono hb1.size); have h12 := works_any _ (HL.out.keep hb2))
      | (go_at_call 12; (with_reducible refine h12.mono ?_); clear h12; rintro e w3 ⟨rfl, hb3⟩))
    go_ret
    exact ⟨by simp, hb2.trans (hb3.mono hb2.size)⟩
end Go.Proofs
namespace Go.Proofs.YtneaenplbccpmaaGreatDoor
open Go Go.ChangeShapes Go.WideShapes Go.ChangeAt Go.WideMaps Go.WideElems Go.RowKit Go.Lib Sm
set_option maxRecDepth 100000 in
theorem textChecks_lifted (os : Os) (started : os.Started) (H : Type) (enc : TypeId × Value → H) :
    ReturnsInHanded {} Tryz.checked os 5 .any (fun w args => (Rows.textChecksSpec.pre enc Tryz.prog Tryz.f5 [] false w args ∧ laidMetH Tryz.prog laidL w) ∧ sizedMet enc Tryz.prog Tryz.f5 (OpenSpec.ofChange Rows.textChecksSpec) false w args)
      (Rows.textChecksSpec.post enc Tryz.prog Tryz.f5 false true false false) := by
  refine laidHanded started #[.string ByteArray.empty] (by kernel_rfl) Tryz.func5 (World.shaped_of_ZipB (by kernel_rfl) (by kernel_rfl)) (by kernel_rfl) (by kernel_rfl) (by kernel_rfl) ?_
  intro W base args ds gs before hval0 hW hL
  have hval : ∀ (j : Nat) t v, Tryz.f5.params[j]? = some t → args[j]? = some v → Value.okWide Tryz.prog W .any base t v := hval0
  have hW' := hW
  obtain ⟨p, q, hA0, hV, rfl, hfz, hnd⟩ := hW
  have hA : DataW.TrodAll enc Tryz.prog W 0 (fun _ => true) true Tryz.f5.params.toList args.toList ds p := hA0
  rw [Tryz.params5] at hA hval
  obtain ⟨v0, vs0, d0, ds0, p0, q0, hargs, rfl, rfl, h0, r0⟩ := trodAll_cons hA
  obtain ⟨rfl, rfl, rfl⟩ := trodAll_nil r0
  obtain rfl : args = #[v0] := by cases args; simp_all
  obtain ⟨rfl, rfl⟩ := trodVars_none hV
  obtain ⟨s0, rfl, rfl, rfl, hs0⟩ := Go.ChangeMaps.open_string Tryz.underlying9 (hval 0 9 v0 rfl rfl) h0
  refine (checks_law s0 W hs0 hL).mono fun e W' ⟨he, hb⟩ => ?_
  subst he
  exact ⟨_, rfl, law_post hW' rfl rfl rfl rfl (by kernel_rfl) (by rw [Tryz.params5]; intro t ht; simp at ht; subst ht; exact ⟨by kernel_rfl, of_decide_eq_true (by kernel_rfl)⟩) hb⟩
theorem textChecks_holds : Rows.TextChecksSaid :=
  OpenClaim.holds_of_wide 5 Tryz.f5 rfl rfl rfl rfl rfl rfl rfl ⟨rfl, rfl, rfl, rfl, rfl⟩ rfl rfl rfl rfl rfl (by kernel_rfl) Tryz.func5 (by kernel_rfl)
    (of_decide_eq_true (by kernel_rfl)) (by unfold Func.isWrapper; first | (rw [if_pos (by decide +kernel)]; kernel_rfl) | (rw [if_neg (by decide +kernel)]; exact ⟨rfl, rfl⟩))
    (fun os started H enc _ => textChecks_lifted os started H enc)
/-- the card -/
theorem textChecks_card : Rows.TextChecksCardSaid :=
  Claim7.holds_tied_plain_at .later [] [.data, .data, .data, .data, .sentinel, .sentinel, .pinned] true (true, "ed007c98b8e6bbfba8db0ed1f540fab899121459d0b3226e22db2c0e1694eb46") true
    textChecks_holds (fun _ h => by cases h) (by kernel_rfl) (fun _ h => by cases h) textChecks_row_tie rfl ⟨rfl, rfl⟩ (by kernel_rfl) rfl
    (fun f fn hf hfn => by
      obtain rfl : f = 5 := Option.some.inj ((show Tryz.prog.funcNamed "antiphon/antiphonlaw03.TextChecks" = some 5 by kernel_rfl).symm.trans hf) |>.symm
      obtain rfl : fn = Tryz.f5 := (Option.some.inj (Tryz.func5.symm.trans hfn)).symm
      exact ⟨by kernel_rfl, fun j t ht => by
        rw [Tryz.params5] at ht
        have hm : t ∈ [9] := by simpa using Array.mem_of_getElem? ht
        have hall : ([9].all fun u => !Tryz.prog.wantsStandIn u) = true := by kernel_rfl
        exact (show Tryz.prog.wantsStandIn t = false by simpa using List.all_eq_true.1 hall t hm)⟩)
    (by kernel_rfl)
end Go.Proofs.YtneaenplbccpmaaGreatDoor
