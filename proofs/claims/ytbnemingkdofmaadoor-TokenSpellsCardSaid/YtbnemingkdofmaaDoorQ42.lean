/-
  The contracts of the document's bit and Spell.
  Signs in a row, one more each time: of numbers alone.
-/
import Derived.Test.YtbnemingkdofmaaDoorQ40
namespace Go.Proofs
open Go.RowKit Go.Shelf Sm
theorem Sm.nat8_get {b : List (BitVec 8)} {k : Nat} (hk : k < b.length) : (nat8 b).getD k 0 = b[k].toNat := by
  unfold nat8
  rw [List.getD_eq_getElem?_getD, List.getElem?_map, List.getElem?_eq_getElem hk]
  rfl
set_option maxRecDepth 100000 in
set_option maxHeartbeats 1000000 in
theorem Sm.bit_any (n c i N : Nat) (A : Option Addr) (b : List (BitVec 8)) (w : World) (hb : b.length = n) (hi : i ≤ 1000000) (hr : Rd w N A b) :
    Calls Tryd.prog 22 #[.slice A n c, .int .i64 (i : Int)] w fun e w' => e = .returned (.int .i64 (bitW 8 (nat8 b) i : Nat)) ∧ w = w' := by
  have HB := Lib.hid hb
  obtain ⟨q, hqe⟩ : ∃ q, i / 8 = q := ⟨_, rfl⟩
  obtain ⟨r, hre⟩ : ∃ r, i % 8 = r := ⟨_, rfl⟩
  have hdv : (i : Int) / 8 = (q : Int) := by omega
  have hmd : (i : Int) % 8 = (r : Int) := by omega
  have hbw0 : bitW 8 (nat8 b) i = (nat8 b).getD q 0 / 2 ^ (7 - r) % 2 := by unfold bitW; rw [hqe, hre]
  have hr8 : r < 8 := by omega
  by_cases hlt : q < n
  · obtain ⟨bo, off, rfl, _, hc⟩ := hr.at_ (k := q) (by omega)
    rw [nat8_get (b := b) (k := q) (by omega)] at hbw0
    obtain ⟨x, hx⟩ : ∃ x, b[q]'(by omega) = x := ⟨_, rfl⟩
    rw [hx] at hc hbw0
    obtain ⟨X, hX⟩ : ∃ X, x.toNat = X := ⟨_, rfl⟩
    have hxl : X < 256 := by rw [← hX]; exact x.isLt
    have hib : ib x = (X : Int) := by unfold ib; rw [hX]
    rw [hib] at hc
    rw [hX] at hbw0
    have HBW := Lib.hid hbw0
    clear hbw0 hx hr hb hqe hre hib hX
    go_enter Tryd.func22, Tryd.ntmps22
    go_wp2
    go_loopw [5, 6] (fun s5 s6 wr => ∃ k : Nat, r ≤ k ∧ k ≤ 7 ∧ s6 = .int .i64 (k : Int) ∧ s5 = .int .i64 ((X / 2 ^ (k - r) : Nat) : Int) ∧ wr = w) (fun _ s6 _ => 7 - (intOf s6).toNat)
    case atStart => exact ⟨r, Nat.le_refl _, by omega, by rw [hmd], by simp, rfl⟩
    case round =>
      obtain ⟨k, hk1, hk2, rfl, rfl, rfl⟩ := hrel
      obtain ⟨Y, hY⟩ : ∃ Y, X / 2 ^ (k - r) = Y := ⟨_, rfl⟩
      have HY := Lib.hid hY
      have hYl : Y < 256 := by rw [← hY]; exact Nat.lt_of_le_of_lt (Nat.div_le_self _ _) hxl
      rw [hY]
      clear hY
      by_cases hk : k < 7
      · go_wp2
        refine ⟨⟨k + 1, by omega, by omega, by go_num, ?_, trivial⟩, by simp [intOf]; omega⟩
        have e1 : k + 1 - r = (k - r) + 1 := by omega
        rw [e1, Nat.pow_succ, ← Nat.div_div_eq_div_mul, HY.out]
        rfl
      · obtain rfl : k = 7 := by omega
        go_wp2
        go_ret
        refine ⟨?_, rfl⟩
        rw [HBW.out, HY.out]
        rfl
  · have hz : bitW 8 (nat8 b) i = 0 := bitW_beyond (by decide) (by rw [nat8_length]; omega)
    rw [hz]
    clear hbw0 hz hqe hre hb hr
    go_enter Tryd.func22, Tryd.ntmps22
    go_wp2
    go_ret
    exact ⟨rfl, rfl⟩
theorem Sm.valW_succ (w : Nat) (xs : List Nat) (a n : Nat) : valW w xs a (n + 1) = 2 * valW w xs a n + bitW w xs (a + n) := rfl
theorem Sm.ba_ext {s t : ByteArray} (h : s.data.toList = t.data.toList) : s = t := by
  have h2 : s.data = t.data := Array.toList_inj.1 h
  cases s
  cases t
  exact congrArg ByteArray.mk h2
theorem Sm.strB_join (a b : List (BitVec 8)) : strB a ++ strB b = strB (a ++ b) := by
  refine ba_ext ?_
  rw [ByteArray.data_append, Array.toList_append, strB_data, strB_data, strB_data, List.map_append]
theorem Sm.sign_cut : ∀ x : Fin 32, (signsB.extract x.val (x.val + 1)).data.toList = (strB [sgn x.val]).data.toList := by decide +kernel
theorem Sm.sign_slice (v : Nat) (h : v < 32) (w : World) : (Instr.sliceAt 9 (.string { data := #[97, 98, 99, 100, 101, 102, 103, 104, 105, 106, 107, 108, 109, 110, 111, 112, 113, 114, 115, 116, 117, 118, 119, 120, 121, 122, 50, 51, 52, 53, 54, 55] }) (some (.int .i64 (v : Int))) (some (.int .i64 ((v : Int) + 1))) none).run Tryd.prog w = .ok (.string (strB [sgn v])) w := by
  have e := sign_cut ⟨v, h⟩
  have hs : ({ data := #[97, 98, 99, 100, 101, 102, 103, 104, 105, 106, 107, 108, 109, 110, 111, 112, 113, 114, 115, 116, 117, 118, 119, 120, 121, 122, 50, 51, 52, 53, 54, 55] } : ByteArray).size = 32 := rfl
  rw [run_sliceAt_string w 9 _ _ _ _ Tryd.underlying9, run_slice_string w 9 _ .i64 .i64 (v : Int) ((v : Int) + 1) Tryd.underlying9 (by omega) (by omega) (by rw [hs]; omega)]
  have e2 : ((v : Int) + 1).toNat = v + 1 := by omega
  simp only [Int.toNat_natCast, e2]
  exact congrArg (fun x => Result.ok (Value.string x) w) (ba_ext e)
set_option maxRecDepth 100000 in
set_option maxHeartbeats 400000 in
theorem Sm.refSpell_any (n c N : Nat) (A : Option Addr) (b : List (BitVec 8)) (w : World) (hb : b.length = n) (hn : n ≤ 10000) (hr : Rd w N A b) :
    Calls Tryd.prog 10 #[.slice A n c] w fun e w' => e = .returned (.string (strB (spellS b))) ∧ w = w' := by
  have HB := Lib.hid hb
  have hbit : ∀ i : Nat, i ≤ 1000000 → Calls Tryd.prog 22 #[.slice A n c, .int .i64 (i : Int)] w fun e w' => e = .returned (.int .i64 (bitW 8 (nat8 b) i : Nat)) ∧ w = w' := fun i hi => bit_any n c i N A b w hb hi hr
  have HBT := Lib.hid hbit
  have hcn : cntW 8 5 n = (8 * n + 4) / 5 := rfl
  obtain ⟨M, hM⟩ : ∃ M, cntW 8 5 n = M := ⟨_, rfl⟩
  have hM2 : 5 * M ≤ 8 * n + 4 ∧ 8 * n ≤ 5 * M := by omega
  have HM := Lib.hid hM
  have HM2 := Lib.hid hM2
  clear hbit hb hr hcn hM hM2
  go_enter Tryd.func10, Tryd.ntmps10
  go_upto_region 3 with fail
  go_loopw [3, 4] (fun s3 s4 wr => ∃ k : Nat, k ≤ M ∧ s4 = .int .i64 (5 * (k : Int)) ∧ s3 = .string (strB ((spellS b).take k)) ∧ wr = w) (fun _ s4 _ => 8 * n + 5 - (intOf s4).toNat)
  case atStart => exact ⟨0, Nat.zero_le _, rfl, rfl, rfl⟩
  case round =>
    obtain ⟨k, hk, rfl, rfl, rfl⟩ := hrel
    have HKM := Lib.hid hk
    clear hk
    by_cases hlt : 5 * k < 8 * n
    · have hkl : k < (spellS b).length := by rw [spellS_length, HB.out, HM.out]; have := HM2.out; omega
      have hl2 : (5 * (k : Int)) < 8 * (n : Int) := by omega
      have hkn : k ≤ 20000 := by omega
      have hsg : (spellS b)[k] = sgn (valW 8 (nat8 b) (5 * k) 5) := by simp [spellS, fiveS]
      have htk : strB ((spellS b).take k) ++ strB [sgn (valW 8 (nat8 b) (5 * k) 5)] = strB ((spellS b).take (k + 1)) := by
        rw [strB_join, List.take_succ_eq_append_getElem hkl, hsg]
      have HTK := Lib.hid htk
      have HLT := Lib.hid hlt
      obtain ⟨SK, hSK⟩ : ∃ x, strB ((spellS b).take k) = x := ⟨_, rfl⟩
      have hsk : SK.size ≤ 20000 := by rw [← hSK, strB_length, List.length_take]; omega
      rw [hSK] at HTK
      rw [hSK]
      clear hkl hsg htk hSK hlt
      go_wp2
      go_loopw [5, 6] (fun s5 s6 wq => ∃ j : Nat, j ≤ 5 ∧ s6 = .int .i64 (j : Int) ∧ s5 = .int .i64 ((valW 8 (nat8 b) (5 * k) j : Nat) : Int) ∧ wq = wr) (fun _ s6 _ => 5 - (intOf s6).toNat)
      case atStart => exact ⟨0, by omega, rfl, rfl, rfl⟩
      case round =>
        obtain ⟨j, hj, rfl, rfl, rfl⟩ := hrel
        have hvl := valW_lt 8 (nat8 b) (5 * k) j
        have hpl : 2 ^ j ≤ 2 ^ 5 := Nat.pow_le_pow_right (by decide) hj
        obtain ⟨V, hV⟩ : ∃ V, valW 8 (nat8 b) (5 * k) j = V := ⟨_, rfl⟩
        rw [hV] at hvl
        rw [hV]
        have HV := Lib.hid hV
        have hV32 : V < 32 := by omega
        clear hvl hpl hV
        by_cases hj5 : j < 5
        · have hbt := HBT.out (5 * k + j) (by omega)
          have hbl := bitW_lt 8 (nat8 b) (5 * k + j)
          obtain ⟨T, hT⟩ : ∃ T, bitW 8 (nat8 b) (5 * k + j) = T := ⟨_, rfl⟩
          rw [hT] at hbt hbl
          rw [show ((5 * k + j : Nat) : Int) = 5 * (k : Int) + (j : Int) by omega] at hbt
          have HBB := Lib.hid hbt
          have HT := Lib.hid hT
          clear hbt hT
          go_wp2_with (go_at_call 22; (with_reducible refine HBB.out.mono ?_); rintro e w9 ⟨rfl, rfl⟩)
          refine ⟨⟨j + 1, by omega, by go_num, ?_, trivial⟩, by simp [intOf]; omega⟩
          rw [valW_succ, HV.out, HT.out]
          go_num
        · obtain rfl : j = 5 := by omega
          have hsl := sign_slice V hV32
          have htk := HTK.out
          rw [HV.out] at htk
          have HTK2 := Lib.hid htk
          have hlm : ¬ 9223372036854775807 < SK.size + (strB [sgn V]).size := by rw [strB_length]; simp; omega
          clear htk
          go_wp2
          exact ⟨⟨k + 1, by have := HLT.out; have := HM2.out; omega, by go_num, by rw [← HTK2.out], trivial⟩, by have := HLT.out; simp [intOf]; omega⟩
    · have hke : k = M := by have := HM2.out; have := HKM.out; omega
      subst hke
      have hl2 : ¬ ((5 * (k : Int)) < 8 * (n : Int)) := by omega
      go_wp2
      go_ret
      refine ⟨?_, rfl⟩
      rw [List.take_of_length_le (by rw [spellS_length, HB.out, HM.out]; exact Nat.le_refl _)]
      rfl
end Go.Proofs
namespace Go.Proofs
open Go.RowKit Go.Shelf Sm
theorem Sm.bitW_snoc (xs : List Nat) (v i : Nat) (h : i < 5 * xs.length) : bitW 5 (xs ++ [v]) i = bitW 5 xs i := by
  unfold bitW
  have : i / 5 < xs.length := by omega
  rw [List.getD_eq_getElem?_getD, List.getD_eq_getElem?_getD, List.getElem?_append_left this]
theorem Sm.valW_snoc (xs : List Nat) (v a n : Nat) (h : a + n ≤ 5 * xs.length) : valW 5 (xs ++ [v]) a n = valW 5 xs a n := valW_congr fun i hi => bitW_snoc xs v (a + i) (by omega)
theorem Sm.byteS_same (xs : List Nat) (v : Nat) (h : 5 * (xs.length + 1) / 8 = 5 * xs.length / 8) : byteS (xs ++ [v]) = byteS xs := by
  unfold byteS
  rw [List.length_append, List.length_singleton, h]
  refine List.map_congr_left fun j hj => ?_
  rw [List.mem_range] at hj
  rw [valW_snoc xs v (8 * j) 8 (by omega)]
theorem Sm.byteS_more (xs : List Nat) (v : Nat) (h : 5 * (xs.length + 1) / 8 = 5 * xs.length / 8 + 1) : byteS (xs ++ [v]) = byteS xs ++ [BitVec.ofNat 8 (valW 5 (xs ++ [v]) (8 * (5 * xs.length / 8)) 8)] := by
  unfold byteS
  rw [List.length_append, List.length_singleton, h, List.range_succ, List.map_append]
  refine congrArg (· ++ _) (List.map_congr_left fun j hj => ?_)
  rw [List.mem_range] at hj
  rw [valW_snoc xs v (8 * j) 8 (by omega)]
theorem Sm.val_snoc (xs : List Nat) (v : Nat) (hv : v < 32) : valW 5 (xs ++ [v]) (8 * (5 * xs.length / 8)) (5 * xs.length % 8 + 5) = valW 5 xs (8 * (5 * xs.length / 8)) (5 * xs.length % 8) * 32 + v := by
  rw [valW_add, valW_snoc xs v _ _ (by omega)]
  have e : 8 * (5 * xs.length / 8) + 5 * xs.length % 8 = 5 * xs.length := by omega
  have hg : (xs ++ [v]).getD xs.length 0 = v := by simp [List.getD_eq_getElem?_getD]
  rw [e, valW_item (by decide) (by rw [hg]; exact hv), hg]
/-- a sign looked for among the first k -/
def Sm.fndS (c : BitVec 8) (k : Nat) : Int := match sgnN c with
  | some m => if m < k then (m : Int) else -1
  | none => -1
theorem Sm.fndS_zero (c : BitVec 8) : fndS c 0 = -1 := by
  unfold fndS
  cases sgnN c with
  | some m => simp
  | none => rfl
theorem Sm.fndS_yes {c : BitVec 8} {k : Nat} (hk : k < 32) (h : sgn k = c) : fndS c (k + 1) = (k : Int) := by
  unfold fndS
  have := sgnN_sgn hk
  rw [h] at this
  rw [this]
  simp
theorem Sm.fndS_no {c : BitVec 8} {k : Nat} (h : ¬ sgn k = c) : fndS c (k + 1) = fndS c k := by
  unfold fndS
  cases hs : sgnN c with
  | none => rfl
  | some m =>
    have := (sgn_of hs).2
    have hne : m ≠ k := fun e => h (by rw [← e]; exact this)
    simp only
    by_cases hm : m < k
    · rw [if_pos (by omega), if_pos hm]
    · rw [if_neg (by omega), if_neg hm]
theorem Sm.fndS_some {c : BitVec 8} {m : Nat} (h : sgnN c = some m) : fndS c 32 = (m : Int) := by
  unfold fndS
  rw [h]
  simp only
  rw [if_pos (sgn_of h).1]
theorem Sm.fndS_none {c : BitVec 8} (h : sgnN c = none) : fndS c 32 = -1 := by
  unfold fndS
  rw [h]
theorem Sm.signs_ati (k : Nat) (h : k < 32) (w : World) : (Instr.index 9 (.string { data := #[97, 98, 99, 100, 101, 102, 103, 104, 105, 106, 107, 108, 109, 110, 111, 112, 113, 114, 115, 116, 117, 118, 119, 120, 121, 122, 50, 51, 52, 53, 54, 55] }) (.int .i64 (k : Int))).run Tryd.prog w = .ok (.int .u8 (ib (sgn k))) w := by
  have hs : ({ data := #[97, 98, 99, 100, 101, 102, 103, 104, 105, 106, 107, 108, 109, 110, 111, 112, 113, 114, 115, 116, 117, 118, 119, 120, 121, 122, 50, 51, 52, 53, 54, 55] } : ByteArray).size = 32 := rfl
  rw [run_index_string _ _ _ _ _ Tryd.underlying9, dif_pos ⟨by omega, by rw [hs]; omega⟩]
  have hv := signs_v ⟨k, h⟩
  simp only [Int.toNat_natCast]
  rw [← hv]
theorem Sm.str_ati (s : ByteArray) (i : Nat) (h : i < s.size) (w : World) : (Instr.index 9 (.string s) (.int .i64 (i : Int))).run Tryd.prog w = .ok (.int .u8 (ib ((sB s)[i]'(by rw [sB_length]; exact h)))) w := by
  rw [run_index_string _ _ _ _ _ Tryd.underlying9, dif_pos ⟨by omega, by omega⟩]
  have hg := sB_get s i h
  rw [List.getElem?_eq_getElem (by rw [sB_length]; exact h)] at hg
  rw [Option.some.inj hg]
  simp [ib]
theorem Sm.eq_ib (a b : BitVec 8) : (ib a == ib b) = decide (a = b) := by
  rw [Bool.eq_iff_iff]
  simp only [beq_iff_eq, decide_eq_true_eq]
  constructor
  · intro h
    unfold ib at h
    exact BitVec.eq_of_toNat_eq (by omega)
  · rintro rfl; rfl
end Go.Proofs
