/-
  The library's ParseUint of two bytes to the base 16. Conditions: two bytes; the package variable that its error names lies as it is laid.
-/
import Derived.WalkLawsBesides
import Derived.Outline
import Derived.Deep.CutRange
import Derived.Deep.DeepCutAuto
import Derived.Test.YtneaenplbccpmaaGreatDoorTxF
import Derived.Test.YtneaenplbccpmaaGreatDoorTxN
namespace Go.Proofs
open Go Go.RowKit Sm Go.Lib
/-- the value of a digit -/
def Sm.digV (b : BitVec 8) : Nat := if 48 ≤ b.toNat ∧ b.toNat ≤ 57 then b.toNat - 48 else (b ||| 32#8).toNat - 87
def Sm.digOK (b : BitVec 8) : Bool := decide ((48 ≤ b.toNat ∧ b.toNat ≤ 57) ∨ (97 ≤ (b ||| 32#8).toNat ∧ (b ||| 32#8).toNat ≤ 102))
def Sm.valL (l : List (BitVec 8)) : Nat := l.foldl (fun n b => n * 16 + digV b) 0
theorem Sm.valL_succ {l : List (BitVec 8)} {k : Nat} (h : k < l.length) : valL (l.take (k + 1)) = valL (l.take k) * 16 + digV l[k] := by
  unfold valL
  rw [List.take_succ_eq_append_getElem h, List.foldl_append]
  rfl
theorem Sm.okL_succ {l : List (BitVec 8)} {k : Nat} (h : k < l.length) : (l.take (k + 1)).all digOK = ((l.take k).all digOK && digOK l[k]) := by
  rw [List.take_succ_eq_append_getElem h, List.all_append]
  simp
theorem Sm.okL_bad {l : List (BitVec 8)} {k : Nat} (h : k < l.length) (hb : digOK l[k] = false) : l.all digOK = false := by
  rw [List.all_eq_false]
  exact ⟨l[k], List.getElem_mem h, by simp [hb]⟩
theorem Sm.digV_le {b : BitVec 8} (h : digOK b = true) : digV b ≤ 15 := by
  unfold digOK at h
  have h := of_decide_eq_true h
  unfold digV
  split <;> omega
theorem Sm.valL_le {l : List (BitVec 8)} {k : Nat} (hk : k ≤ 1) (hl : k < l.length) (h : (l.take k).all digOK = true) : valL (l.take k) ≤ 15 := by
  rcases k with _ | k
  · simp [valL]
  · obtain rfl : k = 0 := by omega
    have h0 : 0 < l.length := by omega
    have h1 := valL_succ h0
    have h2 := okL_succ h0
    rw [h] at h2
    have h3 : digOK l[0] = true := by
      cases hd : digOK l[0]
      · rw [hd] at h2; simp at h2
      · rfl
    have := digV_le h3
    rw [h1]
    simp [valL] at *
    omega
def Sm.puV (l : List (BitVec 8)) : Value := if l.all digOK then .tuple #[.int .u64 (valL l : Int), .nilIface] else .tuple #[.int .u64 0, .iface 129 (.int .i64 2)]
theorem Sm.pu_bad {l : List (BitVec 8)} (h : l.all digOK = false) : Hid (Ending.returned (.tuple #[.int .u64 0, .iface 129 (.int .i64 2)]) = .returned (puV l)) := Lib.hid (by unfold puV; rw [h]; rfl)
theorem Sm.pu_good {l : List (BitVec 8)} (h : l.all digOK = true) : Hid (Ending.returned (.tuple #[.int .u64 (valL l : Int), .nilIface]) = .returned (puV l)) := Lib.hid (by unfold puV; rw [h]; rfl)
theorem Sm.or_lower (b : BitVec 8) : bits .or .u8 (ib b) 32 = (((b ||| 32#8).toNat : Nat) : Int) := by
  have e : ∀ x : Fin 256, bits .or .u8 (x.val : Int) 32 = (((BitVec.ofNat 8 x.val ||| 32#8).toNat : Nat) : Int) := by decide +kernel
  have := e ⟨b.toNat, b.isLt⟩
  simpa [ib] using this
set_option maxRecDepth 100000 in
set_option maxHeartbeats 4000000 in
theorem Sm.pu_any (s : ByteArray) (w : World) (hs : s.size = 2) :
    Calls Tryz.prog 105 #[.string s, .int .i64 16, .int .i64 8] w fun e w' => e = .returned (puV (strL s)) ∧ Below w.heap.size w w' := by
  obtain ⟨c, w1, hcv, hF, hc⟩ := conv_fold s w
  have hl := strL_length s
  rw [hs] at hl hcv
  have hne1 : s.toList.isEmpty = false := by
    cases h : s.toList with
    | nil =>
      rw [ByteArray.toList_eq] at h
      have := congrArg List.length h
      rw [list_len, hs] at this
      simp at this
    | cons _ _ => rfl
  have hne2 : ¬ s.toList = [] := fun e => by rw [e] at hne1; cases hne1
  obtain ⟨l, hle⟩ : ∃ l, strL s = l := ⟨_, rfl⟩
  rw [hle] at hF hl ⊢
  have HL := Lib.hid hl
  have HF := Lib.hid hF
  clear hl hle hF hc
  go_enter Tryz.func105, Tryz.ntmps105
  go_wp2
  clear hcv
  obtain ⟨C, hC⟩ : ∃ C : Int, 1152921504606846976 = C := ⟨_, rfl⟩
  rw [hC]
  have hC16 : 16 ≤ C := by omega
  clear hC
  go_loopw [12, 13, 101] (fun vu vn vi wr => ∃ k : Nat, vu = .bool false ∧ k ≤ 2 ∧ vi = .int .i64 (k : Int) ∧ vn = .int .u64 (valL (l.take k) : Int) ∧ Hid ((l.take k).all digOK = true) ∧ wr = w1) (fun _ _ vi _ => 2 - (RowKit.intOf vi).toNat)
  case atStart => exact ⟨0, rfl, Nat.zero_le _, rfl, rfl, Lib.hid rfl, rfl⟩
  case round =>
    obtain ⟨k, rfl, hk, rfl, rfl, HO, rfl⟩ := hrel
    by_cases hlt : k < 2
    · have hkl : k < l.length := by have := HL.out; omega
      have hvl := valL_le (l := l) (by omega) hkl HO.out
      have hvs := valL_succ hkl
      have hos := okL_succ hkl
      have hbd := okL_bad hkl
      have hdl := digV_le (b := l[k])
      have hat : l[k]? = some l[k] := List.getElem?_eq_getElem hkl
      have horl := or_lower l[k]
      obtain ⟨c0, f0⟩ := HF.out.cell hat
      have hib : ib l[k] = (l[k].toNat : Int) := rfl
      have hdv : digV l[k] = if 48 ≤ l[k].toNat ∧ l[k].toNat ≤ 57 then l[k].toNat - 48 else (l[k] ||| 32#8).toNat - 87 := rfl
      have hdo : digOK l[k] = decide ((48 ≤ l[k].toNat ∧ l[k].toNat ≤ 57) ∨ (97 ≤ (l[k] ||| 32#8).toNat ∧ (l[k] ||| 32#8).toNat ≤ 102)) := rfl
      have hXl := l[k].isLt
      have hYl := (l[k] ||| 32#8).isLt
      rw [hib] at c0 horl
      obtain ⟨D, hD⟩ : ∃ D, digV l[k] = D := ⟨_, rfl⟩
      obtain ⟨O, hO⟩ : ∃ O, digOK l[k] = O := ⟨_, rfl⟩
      obtain ⟨Y, hY⟩ : ∃ Y, (l[k] ||| 32#8).toNat = Y := ⟨_, rfl⟩
      obtain ⟨X, hX⟩ : ∃ X, l[k].toNat = X := ⟨_, rfl⟩
      rw [hD, hX, hY] at hdv
      rw [hO, hX, hY] at hdo
      rw [hD] at hvs hdl
      rw [hO] at hos hbd hdl
      rw [hX] at c0 horl hXl
      rw [hY] at horl hYl
      rw [HO.out] at hos
      have hlw : ∀ W, Calls Tryz.prog 112 #[.int .u8 (X : Int)] W fun e w' => e = .returned (.int .u8 (Y : Int)) ∧ W = w' := fun W => (Tryz.internal_strconv_lower (X : Int) W).mono fun e w' ⟨h1, h2⟩ => ⟨by rw [h1, horl], h2.symm⟩
      obtain ⟨n, hn⟩ : ∃ n, valL (l.take k) = n := ⟨_, rfl⟩
      rw [hn] at hvl hvs
      rw [hn]
      have HVS := Lib.hid hvs
      have HOS := Lib.hid hos
      have HBD := Lib.hid hbd
      have hn95 : X = 95 → ¬ (48 ≤ X ∧ X ≤ 57) ∧ Y = 127 := by
        intro e
        refine ⟨by omega, ?_⟩
        rw [← hY]
        have : l[k] = 95#8 := BitVec.eq_of_toNat_eq (by rw [hX, e]; rfl)
        rw [this]
        rfl
      clear hat hib hD hO hY hX hn hvs hos hbd horl HO f0
      by_cases hA : 48 ≤ X ∧ X ≤ 57
      · rw [if_pos hA] at hdv
        obtain rfl : O = true := by rw [hdo]; exact decide_eq_true (.inl hA)
        have hd15 := hdl rfl
        have n95 : ((X : Int) == 95) = false := by simp; omega
        obtain ⟨a0, a1⟩ := hA
        have HDV := Lib.hid hdv
        clear hdo hdl hdv hn95
        have hsub : (X : Int) - 48 = (D : Int) := by have := HDV.out; omega
        have hcut : ¬ C ≤ (n : Int) := by omega
        clear hC16
        go_wp2_with (go_at_call 112; (with_reducible refine (hlw _).mono ?_); rintro e w' ⟨rfl, rfl⟩)
        exact ⟨⟨k + 1, rfl, by omega, by go_num, by rw [HVS.out]; simp, Lib.hid HOS.out, trivial⟩, by simp [RowKit.intOf]; omega⟩
      · rw [if_neg hA] at hdv
        by_cases h95 : X = 95
        · have hY := (hn95 h95).2
          obtain rfl : O = false := by rw [hdo]; exact decide_eq_false (by omega)
          have HPU := pu_bad (HBD.out rfl)
          have n95 : ((X : Int) == 95) = true := by simp; omega
          have a0 : 57 < X := by omega
          have b0 : 122 < Y := by omega
          clear hdo hdl hdv hn95 hA hC16 h95 hY HBD HOS HVS
          go_wp2_with (go_at_call 112; (with_reducible refine (hlw _).mono ?_); rintro e w' ⟨rfl, rfl⟩)
          go_ret2
          exact ⟨HPU.out, HF.out.below⟩
        · have n95 : ((X : Int) == 95) = false := by simp; omega
          have hA2 : X < 48 ∨ 57 < X := by omega
          have hcut : ¬ C ≤ (n : Int) := by omega
          by_cases hB : 97 ≤ Y ∧ Y ≤ 102
          · obtain rfl : O = true := by rw [hdo]; exact decide_eq_true (.inr hB)
            have hd15 := hdl rfl
            obtain ⟨b0, b1⟩ := hB
            have HDV := Lib.hid hdv
            clear hdo hdl hdv hn95 hA h95 hC16
            have hsub : (Y : Int) - 97 + 10 = (D : Int) := by have := HDV.out; omega
            rcases hA2 with a0 | a0
            · go_wp2_with (go_at_call 112; (with_reducible refine (hlw _).mono ?_); rintro e w' ⟨rfl, rfl⟩)
              exact ⟨⟨k + 1, rfl, by omega, by go_num, by rw [HVS.out]; simp, Lib.hid HOS.out, trivial⟩, by simp [RowKit.intOf]; omega⟩
            · go_wp2_with (go_at_call 112; (with_reducible refine (hlw _).mono ?_); rintro e w' ⟨rfl, rfl⟩)
              exact ⟨⟨k + 1, rfl, by omega, by go_num, by rw [HVS.out]; simp, Lib.hid HOS.out, trivial⟩, by simp [RowKit.intOf]; omega⟩
          · obtain rfl : O = false := by rw [hdo]; exact decide_eq_false (by omega)
            have HPU := pu_bad (HBD.out rfl)
            by_cases b0 : 97 ≤ Y
            · have b1 : 103 ≤ Y := by omega
              clear hdo hdl hdv hn95 hA h95 hB hC16 HBD HOS HVS
              by_cases b2 : Y ≤ 122
              · rcases hA2 with a0 | a0
                · go_wp2_with (go_at_call 112; (with_reducible refine (hlw _).mono ?_); rintro e w' ⟨rfl, rfl⟩)
                  go_ret2
                  exact ⟨HPU.out, HF.out.below⟩
                · go_wp2_with (go_at_call 112; (with_reducible refine (hlw _).mono ?_); rintro e w' ⟨rfl, rfl⟩)
                  go_ret2
                  exact ⟨HPU.out, HF.out.below⟩
              · rcases hA2 with a0 | a0
                · go_wp2_with (go_at_call 112; (with_reducible refine (hlw _).mono ?_); rintro e w' ⟨rfl, rfl⟩)
                  go_ret2
                  exact ⟨HPU.out, HF.out.below⟩
                · go_wp2_with (go_at_call 112; (with_reducible refine (hlw _).mono ?_); rintro e w' ⟨rfl, rfl⟩)
                  go_ret2
                  exact ⟨HPU.out, HF.out.below⟩
            · clear hdo hdl hdv hn95 hA h95 hB hC16 HBD HOS HVS
              rcases hA2 with a0 | a0
              · go_wp2_with (go_at_call 112; (with_reducible refine (hlw _).mono ?_); rintro e w' ⟨rfl, rfl⟩)
                go_ret2
                exact ⟨HPU.out, HF.out.below⟩
              · go_wp2_with (go_at_call 112; (with_reducible refine (hlw _).mono ?_); rintro e w' ⟨rfl, rfl⟩)
                go_ret2
                exact ⟨HPU.out, HF.out.below⟩
    · obtain rfl : k = 2 := by omega
      have hall : l.take 2 = l := List.take_of_length_le (by rw [HL.out]; exact Nat.le_refl _)
      rw [hall] at HO ⊢
      have HPU := pu_good HO.out
      clear hall HO hlt hk hC16
      go_wp2
      go_ret2
      exact ⟨HPU.out, HF.out.below⟩
end Go.Proofs
