/-
  The contracts of the document's reader's Number where a number stands ahead, and where none does.
  Signs in a row, one more each time: of numbers alone.
  The contract of the document's Unspell.
  What opens was made: of the texts alone.
-/
import Derived.Test.YtbojnblececnhaaGreatDoorQ28
import Derived.Test.YtbojnblececnhaaGreatDoorQ25
import Derived.Test.YtbojnblececnhaaGreatDoorQ31
import Derived.BigQuiet
import Derived.Test.YtbojnblececnhaaGreatDoorQ27
namespace Go.Proofs
open Go.RowKit Go.Shelf Sm
set_option maxRecDepth 100000 in
set_option maxHeartbeats 8000000 in
theorem Sm.refNum_some (b off : Nat) (n c : Nat) (l : List (BitVec 8)) (most : Int) (m k : Nat) (w : World) (h : RefAt w (some ⟨b, off, none⟩) n c l) (hm : n ≤ 9223372036854775807) (h0 : ¬ most < 0) (hg : getN l = .num m k) (hmo : (m : Int) ≤ most) : Calls Tryz.prog 43 #[rdV (some ⟨b, off, none⟩) n c 0, .int .i64 most] w fun x w' => (∃ off', x = .returned (.tuple #[rdV (some ⟨b, off', none⟩) (n - k) (c - k) 0, .int .i64 (m : Int), .int .i64 0]) ∧ RefAt w' (some ⟨b, off', none⟩) (n - k) (c - k) (l.drop k)) ∧ Below w.heap.size w w' := by
  have hb2 := alloc2 w (.cells #[.slice (some ⟨b, off, none⟩) n c, .int .i64 0] 0x4f) (.cells #[.slice none 0 0, .int .i64 0] 0x4f)
  have hct := refTake_any l n c w.heap.size (some ⟨b, off, none⟩) _ (Lib.hid h.len) hm (h.rd.below hb2)
  have hT : takeV l = ((m : Int), (k : Int)) := by unfold takeV; rw [hg]
  rw [hT] at hct
  obtain ⟨_, hk0, hk9, hkl⟩ := getN_form hg
  have hlen := h.len
  have hroom := h.room
  rw [hlen] at hkl
  have hb3 : ∀ x : Value, Below w.heap.size w ((w.alloc (.cells #[.slice (some ⟨b, off, none⟩) n c, .int .i64 0] 0x4f)).alloc (.cells #[x, .int .i64 0] 0x4f)) := fun x => alloc2 _ _ _
  have x1 : (0 : Int) ≤ (k : Int) := by omega
  have x2 : (k : Int) ≤ (n : Int) := by omega
  have x3 : (n : Int) ≤ (c : Int) := by omega
  unfold rdV
  by_cases hkc : k = c
  · have hkn : k = n := by omega
    subst hkc
    subst hkn
    have hdrop : l.drop k = [] := List.drop_eq_nil_of_le (by omega)
    go_enter Tryz.func43, Tryz.ntmps43
    go_wp2_with (go_at_call 68; (with_reducible refine hct.mono ?_); rintro e w2 ⟨rfl, rfl⟩)
    refine bodyPost_ret (v := .tuple #[.agg #[.slice (some ⟨b, off, none⟩) 0 0, .int .i64 0], .int .i64 (m : Int), .int .i64 0]) (by simp [results, Tryz.results43, go_sem]) rfl ⟨⟨off, by rw [Nat.sub_self], ?_⟩, hb3 _⟩
    rw [hdrop, Nat.sub_self]
    exact ⟨rfl, Nat.le_refl _, Rd.nil⟩
  · go_enter Tryz.func43, Tryz.ntmps43
    go_wp2_with (go_at_call 68; (with_reducible refine hct.mono ?_); rintro e w2 ⟨rfl, rfl⟩)
    refine bodyPost_ret (v := .tuple #[.agg #[.slice (some ⟨b, off + k, none⟩) (n - k) (c - k), .int .i64 0], .int .i64 (m : Int), .int .i64 0]) (by simp [results, Tryz.results43, go_sem]) rfl ⟨⟨off + k, rfl, ?_⟩, hb3 _⟩
    exact ⟨by rw [List.length_drop, hlen], by omega, ((h.rd.drop k).below (hb3 _)).more (hb3 _).size⟩
set_option maxRecDepth 100000 in
theorem Sm.refNum_yes (b off n c : Nat) (l l' : List (BitVec 8)) (most x : Int) (w : World) (h : RefAt w (some ⟨b, off, none⟩) n c l) (hm : n ≤ 9223372036854775807) (h0 : 0 ≤ most) (hn : numO l most = some (l', x)) :
    Calls Tryz.prog 43 #[.agg #[.slice (some ⟨b, off, none⟩) n c, .int .i64 0], .int .i64 most] w fun e w' => ∃ off' n' c', e = .returned (.tuple #[.agg #[.slice (some ⟨b, off', none⟩) n' c', .int .i64 0], .int .i64 x, .int .i64 0]) ∧ n' ≤ n ∧ RefAt w' (some ⟨b, off', none⟩) n' c' l' ∧ Below w.heap.size w w' := by
  unfold numO at hn
  cases hg : getN l with
  | num m k =>
    rw [hg] at hn
    simp only at hn
    by_cases hle : (m : Int) ≤ most
    · rw [if_pos hle] at hn
      injection hn with hn
      injection hn with h1 h2
      subst h1 h2
      refine (refNum_some b off n c l most m k w h hm (by omega) hg hle).mono ?_
      rintro e w' ⟨⟨off', rfl, hr⟩, hb⟩
      exact ⟨off', n - k, c - k, rfl, Nat.sub_le _ _, hr, hb⟩
    · rw [if_neg hle] at hn
      cases hn
  | cut => rw [hg] at hn; cases hn
  | bad => rw [hg] at hn; cases hn
theorem Sm.refNum_nay (A : Option Addr) (n c : Nat) (l : List (BitVec 8)) (most : Int) (w : World) (h : RefAt w A n c l) (hm : n ≤ 9223372036854775807) (h0 : 0 ≤ most) (hn : numO l most = none) :
    Calls Tryz.prog 43 #[.agg #[.slice A n c, .int .i64 0], .int .i64 most] w fun e w' => ∃ A' n' c', e = .returned (.tuple #[.agg #[.slice A' n' c', .int .i64 120], .int .i64 0, .int .i64 120]) ∧ Below w.heap.size w w' := by
  refine (refNum_any A n c l most w h hm).mono ?_
  rintro e w' ⟨⟨A', n', c', rfl, _⟩, hb⟩
  rw [numS_none h0 hn]
  exact ⟨A', n', c', rfl, hb⟩
theorem Sm.refNum_off (A : Option Addr) (n c : Nat) (most : Int) (w : World) : Calls Tryz.prog 43 #[.agg #[.slice A n c, .int .i64 120], .int .i64 most] w fun e w' => e = .returned (.tuple #[.agg #[.slice A n c, .int .i64 120], .int .i64 0, .int .i64 120]) ∧ Below w.heap.size w w' := refNum_err A n c most w
end Go.Proofs
namespace Go.Proofs
open Go.RowKit Go.Shelf Sm
theorem Sm.bitW_snoc (xs : List Nat) (v i : Nat) (h : i < 5 * xs.length) : bitW 5 (xs ++ [v]) i = bitW 5 xs i := by
  unfold bitW
  have : i / 5 < xs.length := by omega
  rw [List.getD_eq_getElem?_getD, List.getD_eq_getElem?_getD, List.getElem?_append_left this]
theorem Sm.valW_snoc (xs : List Nat) (v a n : Nat) (h : a + n ≤ 5 * xs.length) : valW 5 (xs ++ [v]) a n = valW 5 xs a n := valW_congr fun i hi => bitW_snoc xs v (a + i) (by omega)
theorem Sm.byteS_same (xs : List Nat) (v : Nat) (h : 5 * (xs.length + 1) / 8 = 5 * xs.length / 8) : byteS (xs ++ [v]) = byteS xs := by
  unfold byteS
  rw [List.length_append, List.length_singleton, h]
  refine List.map_congr_left fun j hj => ?_
  rw [List.mem_range] at hj
  rw [valW_snoc xs v (8 * j) 8 (by omega)]
theorem Sm.byteS_more (xs : List Nat) (v : Nat) (h : 5 * (xs.length + 1) / 8 = 5 * xs.length / 8 + 1) : byteS (xs ++ [v]) = byteS xs ++ [BitVec.ofNat 8 (valW 5 (xs ++ [v]) (8 * (5 * xs.length / 8)) 8)] := by
  unfold byteS
  rw [List.length_append, List.length_singleton, h, List.range_succ, List.map_append]
  refine congrArg (· ++ _) (List.map_congr_left fun j hj => ?_)
  rw [List.mem_range] at hj
  rw [valW_snoc xs v (8 * j) 8 (by omega)]
theorem Sm.val_snoc (xs : List Nat) (v : Nat) (hv : v < 32) : valW 5 (xs ++ [v]) (8 * (5 * xs.length / 8)) (5 * xs.length % 8 + 5) = valW 5 xs (8 * (5 * xs.length / 8)) (5 * xs.length % 8) * 32 + v := by
  rw [valW_add, valW_snoc xs v _ _ (by omega)]
  have e : 8 * (5 * xs.length / 8) + 5 * xs.length % 8 = 5 * xs.length := by omega
  have hg : (xs ++ [v]).getD xs.length 0 = v := by simp [List.getD_eq_getElem?_getD]
  rw [e, valW_item (by decide) (by rw [hg]; exact hv), hg]
/-- a sign looked for among the first k -/
def Sm.fndS (c : BitVec 8) (k : Nat) : Int := match sgnN c with
  | some m => if m < k then (m : Int) else -1
  | none => -1
theorem Sm.fndS_zero (c : BitVec 8) : fndS c 0 = -1 := by
  unfold fndS
  cases sgnN c with
  | some m => simp
  | none => rfl
theorem Sm.fndS_yes {c : BitVec 8} {k : Nat} (hk : k < 32) (h : sgn k = c) : fndS c (k + 1) = (k : Int) := by
  unfold fndS
  have := sgnN_sgn hk
  rw [h] at this
  rw [this]
  simp
theorem Sm.fndS_no {c : BitVec 8} {k : Nat} (h : ¬ sgn k = c) : fndS c (k + 1) = fndS c k := by
  unfold fndS
  cases hs : sgnN c with
  | none => rfl
  | some m =>
    have := (sgn_of hs).2
    have hne : m ≠ k := fun e => h (by rw [← e]; exact this)
    simp only
    by_cases hm : m < k
    · rw [if_pos (by omega), if_pos hm]
    · rw [if_neg (by omega), if_neg hm]
theorem Sm.fndS_some {c : BitVec 8} {m : Nat} (h : sgnN c = some m) : fndS c 32 = (m : Int) := by
  unfold fndS
  rw [h]
  simp only
  rw [if_pos (sgn_of h).1]
theorem Sm.fndS_none {c : BitVec 8} (h : sgnN c = none) : fndS c 32 = -1 := by
  unfold fndS
  rw [h]
theorem Sm.signs_ati (k : Nat) (h : k < 32) (w : World) : (Instr.index 9 (.string { data := #[97, 98, 99, 100, 101, 102, 103, 104, 105, 106, 107, 108, 109, 110, 111, 112, 113, 114, 115, 116, 117, 118, 119, 120, 121, 122, 50, 51, 52, 53, 54, 55] }) (.int .i64 (k : Int))).run Tryz.prog w = .ok (.int .u8 (ib (sgn k))) w := by
  have hs : ({ data := #[97, 98, 99, 100, 101, 102, 103, 104, 105, 106, 107, 108, 109, 110, 111, 112, 113, 114, 115, 116, 117, 118, 119, 120, 121, 122, 50, 51, 52, 53, 54, 55] } : ByteArray).size = 32 := rfl
  rw [run_index_string _ _ _ _ _ Tryz.underlying9, dif_pos ⟨by omega, by rw [hs]; omega⟩]
  have hv := signs_v ⟨k, h⟩
  simp only [Int.toNat_natCast]
  rw [← hv]
theorem Sm.str_ati (s : ByteArray) (i : Nat) (h : i < s.size) (w : World) : (Instr.index 9 (.string s) (.int .i64 (i : Int))).run Tryz.prog w = .ok (.int .u8 (ib ((sB s)[i]'(by rw [sB_length]; exact h)))) w := by
  rw [run_index_string _ _ _ _ _ Tryz.underlying9, dif_pos ⟨by omega, by omega⟩]
  have hg := sB_get s i h
  rw [List.getElem?_eq_getElem (by rw [sB_length]; exact h)] at hg
  rw [Option.some.inj hg]
  simp [ib]
theorem Sm.eq_ib (a b : BitVec 8) : (ib a == ib b) = decide (a = b) := by
  rw [Bool.eq_iff_iff]
  simp only [beq_iff_eq, decide_eq_true_eq]
  constructor
  · intro h
    unfold ib at h
    exact BitVec.eq_of_toNat_eq (by omega)
  · rintro rfl; rfl
end Go.Proofs
namespace Go.Proofs
open Go.RowKit Go.Shelf Sm
/-- how the document's unspelling ends -/
def Sm.RefUn (l : List (BitVec 8)) (w : World) (e : Ending) (w' : World) : Prop := Below w.heap.size w w' ∧ match unspellS l with
  | some b => ∃ v, e = .returned (.tuple #[v, .int .i64 0]) ∧ w'.ownsRow w.heap.size 5 1 v b.length (b.map byteCell)
  | none => e = .returned (.tuple #[.slice none 0 0, .int .i64 160])
/-- behind i signs -/
structure Sm.RunI (l : List (BitVec 8)) (w wr : World) (i : Nat) (xs : List Nat) (v : Value) : Prop where
  five : fivesOf (l.take i) = some xs
  len : xs.length = i
  own : wr.ownsRow w.heap.size 5 1 v (byteS xs).length ((byteS xs).map byteCell)
  below : Below w.heap.size w wr
set_option maxRecDepth 100000 in
set_option maxHeartbeats 2000000 in
theorem Sm.refUnspell_any (s : ByteArray) (w : World) (hs : s.size ≤ 10000) : Calls Tryz.prog 42 #[.string s] w (RefUn (sB s) w) := by
  obtain ⟨i0, hi, hz0, hz1, hz2⟩ := info_parts info5
  have hsl := sB_length s
  have HSL := Lib.hid hsl
  clear hsl
  go_enter Tryz.func42, Tryz.ntmps42
  go_upto_region 4 with fail
  go_loopw [4, 5, 6, 7] (fun s4 s5 s6 s7 wr => ∃ (i : Nat) (xs : List Nat) (v : Value), i ≤ s.size ∧ s7 = .int .i64 (i : Int) ∧ s4 = v ∧ s6 = .int .i64 ((5 * i % 8 : Nat) : Int) ∧ s5 = .int .i64 ((valW 5 xs (8 * (5 * i / 8)) (5 * i % 8) : Nat) : Int) ∧ Hid (RunI (sB s) w wr i xs v)) (fun _ _ _ s7 _ => s.size - (intOf s7).toNat)
  case atStart => exact ⟨0, [], _, Nat.zero_le _, rfl, rfl, rfl, rfl, Lib.hid ⟨rfl, rfl, World.ownsRow_nil _ _ _ _, Below.refl _ _⟩⟩
  case round =>
    obtain ⟨wo, rfl⟩ : ∃ wo : World, wo = wr := ⟨_, rfl⟩
    obtain ⟨i, xs, v, hin, rfl, rfl, rfl, rfl, HI⟩ := hrel
    have hvl := valW_lt 5 xs (8 * (5 * i / 8)) (5 * i % 8)
    have hpl : 2 ^ (5 * i % 8) ≤ 2 ^ 7 := Nat.pow_le_pow_right (by decide) (by omega)
    obtain ⟨V, hV⟩ : ∃ V, valW 5 xs (8 * (5 * i / 8)) (5 * i % 8) = V := ⟨_, rfl⟩
    obtain ⟨r, hr⟩ : ∃ r, 5 * i % 8 = r := ⟨_, rfl⟩
    have hV128 : V < 128 := by rw [← hV]; omega
    have hr8 : r < 8 := by omega
    rw [hV, hr]
    have HV := Lib.hid hV
    have HRR := Lib.hid hr
    clear hvl hpl hV hr
    by_cases hlt : i < s.size
    · have hsa := str_ati s i hlt
      have hget : (sB s)[i]? = some ((sB s)[i]'(by rw [HSL.out]; exact hlt)) := List.getElem?_eq_getElem _
      obtain ⟨c, hc⟩ : ∃ c, (sB s)[i]'(by rw [HSL.out]; exact hlt) = c := ⟨_, rfl⟩
      rw [hc] at hsa hget
      have HGET := Lib.hid hget
      have HSA := Lib.hid hsa
      clear hc hsa hget
      go_upto_region 8 with fail
      go_loopw [8, 9] (fun s8 s9 wq => ∃ k : Nat, k ≤ 32 ∧ s9 = .int .i64 (k : Int) ∧ s8 = .int .i64 (fndS c k) ∧ Hid (Below wo.heap.size wo wq)) (fun _ s9 _ => 32 - (intOf s9).toNat)
      case atStart => exact ⟨0, by omega, rfl, by rw [fndS_zero], Lib.hid (Below.refl _ _)⟩
      case round =>
        obtain ⟨k, hk, rfl, rfl, HBW⟩ := hrel
        by_cases hk32 : k < 32
        · by_cases he : sgn k = c
          · have he2 := fndS_yes hk32 he
            have HE2 := Lib.hid he2
            clear he2
            go_upto_region 10 with fail
            have hx1 := signs_ati k hk32
            have hx2 := HSA.out
            have hx3 := eq_ib (sgn k) c
            rw [decide_eq_true he] at hx3
            clear he
            go_quiet (fail)
            have hbd : Below wo.heap.size wo (wr.drewN nq) := HBW.out.trans ((below_drewN wr nq).mono HBW.out.size)
            obtain ⟨wz, hwz⟩ : ∃ x, wr.drewN nq = x := ⟨_, rfl⟩
            rw [hwz] at hbd ⊢
            have HBD := Lib.hid hbd
            clear hbd hwz HBW hx1 hx2 hx3
            go_wp2
            exact ⟨⟨k + 1, by omega, by go_num, by rw [HE2.out], HBD⟩, by simp [intOf]; omega⟩
          · have he2 := fndS_no he
            have HE2 := Lib.hid he2
            clear he2
            go_upto_region 10 with fail
            have hx1 := signs_ati k hk32
            have hx2 := HSA.out
            have hx3 := eq_ib (sgn k) c
            rw [decide_eq_false he] at hx3
            clear he
            go_quiet (fail)
            have hbd : Below wo.heap.size wo (wr.drewN nq) := HBW.out.trans ((below_drewN wr nq).mono HBW.out.size)
            obtain ⟨wz, hwz⟩ : ∃ x, wr.drewN nq = x := ⟨_, rfl⟩
            rw [hwz] at hbd ⊢
            have HBD := Lib.hid hbd
            clear hbd hwz HBW hx1 hx2 hx3
            go_wp2
            exact ⟨⟨k + 1, by omega, by go_num, by rw [HE2.out], HBD⟩, by simp [intOf]; omega⟩
        · obtain rfl : k = 32 := by omega
          clear hk hk32
          have hI2 : RunI (sB s) w wr i xs u4 := ⟨HI.out.five, HI.out.len, own_below HI.out.own HBW.out, HI.out.below.trans (HBW.out.mono HI.out.below.size)⟩
          have HI2 := Lib.hid hI2
          clear hI2 HI HBW HSA
          cases hsn : sgnN c with
          | none =>
            rw [fndS_none hsn]
            go_wp2
            have hun : unspellS (sB s) = none := by unfold unspellS; rw [fivesOf_none i c HGET.out hsn]
            refine bodyPost_ret (v := .tuple #[.slice none 0 0, .int .i64 160]) (by simp [results, Tryz.results42, go_sem]) rfl ⟨HI2.out.below, ?_⟩
            rw [hun]
          | some m =>
            rw [fndS_some hsn]
            have hm32 := (sgn_of hsn).1
            have hnx : fivesOf ((sB s).take (i + 1)) = some (xs ++ [m]) := fivesOf_snoc HI2.out.five HGET.out hsn
            have hvn := val_snoc xs m hm32
            rw [HI2.out.len, HV.out, HRR.out] at hvn
            have HNX := Lib.hid hnx
            have HVN := Lib.hid hvn
            clear hnx hvn hsn
            have hmn : ¬ (m : Int) < 0 := by omega
            by_cases h3 : 3 ≤ r
            · obtain ⟨q, rfl⟩ : ∃ q, r = q + 3 := ⟨r - 3, by omega⟩
              have hq4 : q ≤ 4 := by omega
              obtain ⟨NN, hNN⟩ : ∃ x : Nat, 32 * V + m = x := ⟨_, rfl⟩
              have hNI : 32 * (V : Int) + (m : Int) = (NN : Int) := by omega
              have hNl : NN < 4096 := by omega
              have HNN := Lib.hid hNN
              clear hNN
              go_upto_region 18 with fail
              go_loopw [10, 11] (fun s10 s11 wq => ∃ k : Nat, k ≤ q ∧ s11 = .int .i64 ((k : Int) + 8) ∧ s10 = .int .i64 ((2 ^ k : Nat) : Int) ∧ wq = wr) (fun _ s11 _ => q + 8 - (intOf s11).toNat)
              case atStart => exact ⟨0, Nat.zero_le _, rfl, rfl, rfl⟩
              case round =>
                obtain ⟨k, hk, rfl, rfl, rfl⟩ := hrel
                have hup : 2 ^ k ≤ 2 ^ 4 := Nat.pow_le_pow_right (by decide) (by omega)
                have hu0 : 0 < 2 ^ k := Nat.pow_pos (by decide)
                obtain ⟨U, hU⟩ : ∃ U, 2 ^ k = U := ⟨_, rfl⟩
                rw [hU] at hup hu0
                rw [hU]
                have hU16 : U ≤ 16 := hup
                have HU := Lib.hid hU
                clear hU hup
                by_cases hkq : k < q
                · go_wp2
                  exact ⟨⟨k + 1, by omega, by go_num, by rw [Nat.pow_succ, HU.out]; go_num, trivial⟩, by simp [intOf]; omega⟩
                · obtain rfl : k = q := by omega
                  clear hkq hk
                  have hvd := valW_div 5 (xs ++ [m]) (8 * (5 * i / 8)) 8 k
                  have hvm := valW_mod 5 (xs ++ [m]) (8 * (5 * i / 8)) 8 k
                  have hvn := HVN.out
                  rw [show k + 3 + 5 = 8 + k by omega, show V * 32 + m = NN by have := HNN.out; omega] at hvn
                  rw [hvn, HU.out] at hvd hvm
                  have hbl := valW_lt 5 (xs ++ [m]) (8 * (5 * i / 8)) 8
                  obtain ⟨Q, hQ⟩ : ∃ Q, valW 5 (xs ++ [m]) (8 * (5 * i / 8)) 8 = Q := ⟨_, rfl⟩
                  obtain ⟨G, hG⟩ : ∃ G, valW 5 (xs ++ [m]) (8 * (5 * i / 8) + 8) k = G := ⟨_, rfl⟩
                  rw [hQ] at hvd hbl
                  rw [hG] at hvm
                  have hQI : (NN : Int) / (U : Int) = (Q : Int) := by rw [← Int.natCast_ediv, hvd]
                  have hGI : (NN : Int) % (U : Int) = (G : Int) := by rw [← Int.natCast_emod, hvm]
                  have hQ256 : Q < 256 := hbl
                  have hUz : ¬ (U : Int) = 0 := by omega
                  have HQ := Lib.hid hQ
                  have HG := Lib.hid hG
                  have hxl : (byteS xs).length ≤ 10000 := by rw [byteS_length, HI2.out.len]; omega
                  have HOW := Lib.hid HI2.out.own
                  have hwz := HI2.out.below.size
                  have hGl : G ≤ 16 := by have := Nat.mod_lt NN hu0; omega
                  clear hvd hvm hvn hbl hQ hG
                  go_wp2_with (at_builtin; refine wpList_append_own_at _ rfl _ _ 0x38 rfl w.heap.size 5 i0 _ 1 1 Tryz.underlying56 hi hz0 hz1 hz2 rfl (by decide) _ _ _ rfl (HOW.out.alloc _) ⟨wr.heap.size, 0, none⟩ 1 1 [.int .u8 (Q : Int)] rfl rfl ?_ (by simp [Value.oneCell']) (by unfold maxLen; omega) (by omega) (by simp; omega) ?_; (exact cell_one_new _ _ _); intro v3 w3 hown3 hg3 _ hat3)
                  have e0 : 5 * i % 8 = k + 3 := HRR.out
                  have e1 : 5 * (i + 1) % 8 = k := by omega
                  have e2 : 5 * (i + 1) / 8 = 5 * i / 8 + 1 := by omega
                  have hby : byteS (xs ++ [m]) = byteS xs ++ [BitVec.ofNat 8 Q] := by rw [byteS_more xs m (by rw [HI2.out.len]; exact e2), HI2.out.len, HQ.out]
                  have hcl : byteCell (BitVec.ofNat 8 Q) = .int .u8 (Q : Int) := by unfold byteCell; rw [← low_num, Int.emod_eq_of_lt (by omega) (by omega)]
                  refine ⟨⟨i + 1, xs ++ [m], v3, by omega, by go_num, rfl, by rw [e1]; go_num, ?_, Lib.hid ⟨HNX.out, by rw [List.length_append, HI2.out.len]; rfl, ?_, ?_⟩⟩, by simp [intOf]; omega⟩
                  · rw [e1, e2, show 8 * (5 * i / 8 + 1) = 8 * (5 * i / 8) + 8 by omega, HG.out, hGI]
                  · rw [hby, List.length_append, List.map_append]
                    show w3.ownsRow w.heap.size 5 1 v3 ((byteS xs).length + 1) (_ ++ [byteCell (BitVec.ofNat 8 Q)])
                    rw [hcl]
                    exact hown3
                  · exact (HI2.out.below.alloc hwz _).grown hg3 (by simp; omega) (fun g e => own_ge (HOW.out) g e)
            · go_wp2
              have e1 : 5 * (i + 1) % 8 = r + 5 := by have := HRR.out; omega
              have e2 : 5 * (i + 1) / 8 = 5 * i / 8 := by have := HRR.out; omega
              refine ⟨⟨i + 1, xs ++ [m], _, by omega, by go_num, rfl, by rw [e1]; go_num, ?_, Lib.hid ⟨HNX.out, by rw [List.length_append, HI2.out.len]; rfl, ?_, HI2.out.below⟩⟩, by simp [intOf]; omega⟩
              · rw [e1, e2, HVN.out]
                go_num
              · rw [byteS_same xs m (by rw [HI2.out.len]; exact e2)]
                exact HI2.out.own
    · obtain rfl : i = s.size := by omega
      have hfull : (sB s).take s.size = sB s := List.take_of_length_le (by rw [HSL.out]; exact Nat.le_refl _)
      have hfv := HI.out.five
      rw [hfull] at hfv
      obtain ⟨A, c, rfl⟩ := own_slice HI.out.own
      have hxl : (byteS xs).length ≤ 10000 := by rw [byteS_length, HI.out.len]; omega
      have HSP := Lib.hid (refSpell_any (byteS xs).length c wo.heap.size A (byteS xs) wo rfl hxl (Rd.of_own HI.out.own (Nat.le_refl _)))
      have hfb := fiveS_byteS xs (fivesOf_some hfv).2
      have hss : strB (sB s) = s := strB_strL s
      by_cases hrs : restS xs = true
      · have hun : unspellS (sB s) = some (byteS xs) := by unfold unspellS; rw [hfv]; simp only; rw [if_pos hrs]
        have hsp : strB (spellS (byteS xs)) = s := by rw [spell_unspell hun, hss]
        rw [hsp] at HSP
        have HUN := Lib.hid hun
        clear hun hsp hss hfb hfv hfull hrs
        go_wp2_with (go_at_call 21; (with_reducible refine HSP.out.mono ?_); rintro e w9 ⟨rfl, rfl⟩)
        refine bodyPost_ret (v := .tuple #[.slice A (byteS xs).length c, .int .i64 0]) (by simp [results, Tryz.results42, go_sem]) rfl ⟨HI.out.below, ?_⟩
        rw [HUN.out]
        exact ⟨_, rfl, HI.out.own⟩
      · have hrf : restS xs = false := by simpa using hrs
        obtain ⟨hne, hun⟩ := unspell_none hfv hrf
        have hnq : ((strB (spellS (byteS xs))).toList == s.toList) = false := by rw [← hss, strB_eq]; exact decide_eq_false hne
        obtain ⟨SS, hSS⟩ : ∃ x, strB (spellS (byteS xs)) = x := ⟨_, rfl⟩
        rw [hSS] at HSP hnq
        have HUN := Lib.hid hun
        clear hun hss hfb hfv hfull hrs hrf hne hSS
        go_wp2_with (go_at_call 21; (with_reducible refine HSP.out.mono ?_); rintro e w9 ⟨rfl, rfl⟩)
        refine bodyPost_ret (v := .tuple #[.slice none 0 0, .int .i64 160]) (by simp [results, Tryz.results42, go_sem]) rfl ⟨HI.out.below, ?_⟩
        rw [HUN.out]
end Go.Proofs
namespace Go.Proofs
open Go.RowKit Go.Shelf Sm
theorem Sm.canon_take : ∀ (l : List (BitVec 8)) (c : BitVec 8), l[lead l]? = some c → ¬ (0 < lead l ∧ c.toNat = 0) → numB (numV (l.take (lead l + 1))) = l.take (lead l + 1) := by
  intro l
  induction l with
  | nil => intro c h; simp at h
  | cons d r ih =>
    intro c h hz
    have hd := d.isLt
    by_cases hb : 128 ≤ d.toNat
    · have hl : lead (d :: r) = lead r + 1 := by rw [lead, if_pos hb]
      rw [hl] at h hz ⊢
      rw [List.getElem?_cons_succ] at h
      have hc0 : ¬ c.toNat = 0 := fun e => hz ⟨by omega, e⟩
      have hq := ih c h (fun e => hc0 e.2)
      rw [List.take_succ_cons]
      obtain ⟨q, hqe⟩ : ∃ q, r.take (lead r + 1) = q := ⟨_, rfl⟩
      have hlen := (List.getElem?_eq_some_iff.1 h).1
      have hql : q.length = lead r + 1 := by rw [← hqe, List.length_take]; omega
      have hqc : q[lead r]? = some c := by rw [← hqe, List.getElem?_take, if_pos (by omega)]; exact h
      rw [hqe] at hq ⊢
      have hpos : ¬ numV q = 0 := by
        intro e
        rw [e, numB_small (by decide)] at hq
        rw [← hq] at hql hqc
        have h0 : lead r = 0 := by simpa using hql.symm
        rw [h0] at hqc
        simp at hqc
        exact hc0 (by rw [← hqc]; rfl)
      rw [numV, numB_big (by omega)]
      have e1 : (d.toNat % 128 + 128 * numV q) % 128 = d.toNat % 128 := by omega
      have e2 : (d.toNat % 128 + 128 * numV q) / 128 = numV q := by omega
      rw [e1, e2, hq]
      refine congrArg (· :: q) (BitVec.eq_of_toNat_eq ?_)
      simp
      omega
    · have hl : lead (d :: r) = 0 := by rw [lead, if_neg hb]
      rw [hl, Nat.zero_add, List.take_succ_cons, List.take_zero, numV, numV]
      rw [numB_small (by omega)]
      refine congrArg (· :: []) (BitVec.eq_of_toNat_eq ?_)
      simp
      omega
theorem Sm.getN_read {l : List (BitVec 8)} {m k : Nat} (h : getN l = .num m k) : l = numB m ++ l.drop k := by
  unfold getN at h
  split at h
  · cases h
  · split at h
    · cases h
    · rename_i c hc
      split at h
      · cases h
      · rename_i h2
        injection h with h3 h4
        subst h3 h4
        rw [canon_take l c hc (fun e => h2 (.inl e)), List.take_append_drop]
theorem Sm.numO_read {l r : List (BitVec 8)} {most x : Int} (h : numO l most = some (r, x)) : l = numB x.toNat ++ r := by
  unfold numO at h
  cases hg : getN l with
  | num m k =>
    rw [hg] at h
    simp only at h
    by_cases hle : (m : Int) ≤ most
    · rw [if_pos hle] at h
      injection h with h
      injection h with h1 h2
      subst h1 h2
      have := getN_read hg
      rw [Int.toNat_natCast]
      exact this
    · rw [if_neg hle] at h; cases h
  | cut => rw [hg] at h; cases h
  | bad => rw [hg] at h; cases h
/-- what opens under a key was made under it -/
theorem Sm.opened_read {k : Kpt} {b : List (BitVec 8)} {m s i : Int} (h : openedS k b = .ok (m, s, i)) : TokOK m s i ∧ ∃ n p, findS k n = some p ∧ 0 ≤ n ∧ n ≤ 2147483647 ∧ b = tokB p.2 n m s i := by
  unfold openedS at h
  cases h1 : numO b 2147483647 with
  | none => rw [h1] at h; cases h
  | some p1 =>
    obtain ⟨l1, n⟩ := p1
    rw [h1] at h
    simp only at h
    cases h2 : numO l1 15 with
    | none => rw [h2] at h; cases h
    | some p2 =>
      obtain ⟨l2, m'⟩ := p2
      rw [h2] at h
      simp only at h
      cases h3 : numO l2 2147483647 with
      | none => rw [h3] at h; cases h
      | some p3 =>
        obtain ⟨l3, s'⟩ := p3
        rw [h3] at h
        simp only at h
        cases h4 : numO l3 2147483647 with
        | none => rw [h4] at h; cases h
        | some p4 =>
          obtain ⟨l4, i'⟩ := p4
          rw [h4] at h
          simp only at h
          by_cases h16 : l4.length = 16
          · rw [if_pos h16] at h
            cases h5 : findS k n with
            | none => rw [h5] at h; cases h
            | some p =>
              rw [h5] at h
              simp only at h
              by_cases h6 : (tagS (keyS p.2) (b.take (b.length - 16))).take 16 = b.drop (b.length - 16)
              · rw [if_pos h6] at h
                injection h with h
                injection h with e1 h
                injection h with e2 e3
                subst e1 e2 e3
                have b1 := numO_bound h1
                have b2 := numO_bound h2
                have b3 := numO_bound h3
                have b4 := numO_bound h4
                have r1 := numO_read h1
                have r2 := numO_read h2
                have r3 := numO_read h3
                have r4 := numO_read h4
                have hb : b = numsB [n, m', s', i'] ++ l4 := by rw [numsB_cons4, r1, r2, r3, r4]; simp only [List.append_assoc]
                have hlen : b.length - 16 = (numsB [n, m', s', i']).length := by rw [hb, List.length_append, h16]; omega
                have ht : b.take (b.length - 16) = numsB [n, m', s', i'] := by rw [hlen, hb, List.take_append_of_le_length (Nat.le_refl _), List.take_of_length_le (Nat.le_refl _)]
                have hd : b.drop (b.length - 16) = l4 := by rw [hlen, hb, List.drop_append_of_le_length (Nat.le_refl _), List.drop_of_length_le (Nat.le_refl _), List.nil_append]
                rw [ht, hd] at h6
                refine ⟨⟨⟨b2.1, by omega⟩, ⟨b3.1, b3.2.1⟩, b4.1, b4.2.1⟩, n, p, h5, b1.1, b1.2.1, ?_⟩
                unfold tokB
                rw [h6]
                exact hb
              · rw [if_neg h6] at h; cases h
          · rw [if_neg h16] at h; cases h
theorem Sm.find_single {m : ByteArray} {n : Int} {p : Int × ByteArray} (h : findS (turnK zeroK 0 m) n = some p) : n = 0 ∧ p.2 = m := by
  unfold findS at h
  have e1 : hitK (turnK zeroK 0 m) n 1 = false := rfl
  have e2 : hitK (turnK zeroK 0 m) n 2 = false := rfl
  rw [e1, e2] at h
  by_cases h0 : hitK (turnK zeroK 0 m) n 0 = true
  · rw [if_pos h0] at h
    injection h with h
    subst h
    unfold hitK at h0
    simp only [Bool.and_eq_true, decide_eq_true_eq] at h0
    exact ⟨h0.2.symm, rfl⟩
  · rw [if_neg h0] at h
    cases h
/-- under one key what opens is what is made -/
theorem Sm.open_made {m0 : ByteArray} {t : ByteArray} {m s i : Int} (h : openS (turnK zeroK 0 m0) t = .ok (m, s, i)) : TokOK m s i ∧ strB (spellS (tokB m0 0 m s i)) = t := by
  unfold openS at h
  by_cases hl : 200 < t.size
  · rw [if_pos hl] at h; cases h
  · rw [if_neg hl] at h
    cases hu : unspellS (sB t) with
    | none => rw [hu] at h; cases h
    | some b =>
      rw [hu] at h
      simp only at h
      obtain ⟨hT, n, p, hf, _, _, hb⟩ := opened_read h
      obtain ⟨rfl, hp⟩ := find_single hf
      rw [hp] at hb
      refine ⟨hT, ?_⟩
      rw [← hb, spell_unspell hu]
      exact strB_strL t
def Sm.moreB : ByteArray := ⟨#[109, 111, 114, 101]⟩
/-- so many more turns -/
def Sm.turnsK (k : Kpt) : Nat → Kpt
  | 0 => k
  | b + 1 => turnK (turnsK k b) ((turnsK k b).n0 + 1) moreB
theorem Sm.turnsK_num (k : Kpt) (b : Nat) : (turnsK k b).n0 = k.n0 + b := by
  induction b with
  | zero => simp [turnsK]
  | succ b ih => show (turnsK k b).n0 + 1 = _; rw [ih]; omega
theorem Sm.thB_of {s : ByteArray} (h : ¬ s = ⟨#[]⟩) : thB s = true := by
  cases ht : thB s with
  | true => rfl
  | false => exact absurd (thB_no ht) h
theorem Sm.find_behind {k : Kpt} (h : ¬ k.s0 = ⟨#[]⟩) : ∀ b, b ≤ 2 → findS (turnsK k b) k.n0 = some (k.n0, k.s0) := by
  intro b hb
  have ht := thB_of h
  have hm : ∀ x : Int, ¬ x = k.n0 → ∀ s : ByteArray, (thB s && decide (x = k.n0)) = false := fun x hx s => by rw [decide_eq_false hx, Bool.and_false]
  rcases (by omega : b = 0 ∨ b = 1 ∨ b = 2) with rfl | rfl | rfl
  · exact findS_hit (j := 0) (by omega) (fun i hi => absurd hi (Nat.not_lt_zero _)) (by simp [hitK, pickK, turnsK, ht])
  · refine findS_hit (j := 1) (by omega) (fun i hi => ?_) (by simp [hitK, pickK, turnsK, turnK, ht])
    obtain rfl : i = 0 := by omega
    exact hm _ (by simp only [pickK, turnsK, turnK]; omega) _
  · refine findS_hit (j := 2) (by omega) (fun i hi => ?_) (by simp [hitK, pickK, turnsK, turnK, ht])
    rcases (by omega : i = 0 ∨ i = 1) with rfl | rfl
    · exact hm _ (by simp only [pickK, turnsK, turnK]; omega) _
    · exact hm _ (by simp only [pickK, turnsK, turnK]; omega) _
theorem Sm.find_beyond {k : Kpt} (b : Nat) (hb : 3 ≤ b) : findS (turnsK k b) k.n0 = none := by
  obtain ⟨c, rfl⟩ : ∃ c, b = c + 3 := ⟨b - 3, by omega⟩
  have hn := turnsK_num k c
  have hm : ∀ x : Int, ¬ x = k.n0 → ∀ s : ByteArray, (thB s && decide (x = k.n0)) = false := fun x hx s => by rw [decide_eq_false hx, Bool.and_false]
  refine findS_none fun i hi => ?_
  rcases (by omega : i = 0 ∨ i = 1 ∨ i = 2) with rfl | rfl | rfl
  · exact hm _ (by simp only [pickK, turnsK, turnK]; omega) _
  · exact hm _ (by simp only [pickK, turnsK, turnK]; omega) _
  · exact hm _ (by simp only [pickK, turnsK, turnK]; omega) _
end Go.Proofs
