/-
  The law of bounds.
-/
import Derived.Test.YtbnemingkdofmaaDoorQ40
namespace Go.Proofs
open Go.RowKit Go.Shelf Sm
/-- a row whose first j of 201 bytes are 97 -/
def Sm.Row97 (W : World) (R j : Nat) : Prop := ∃ cs : Array Value, Blk W R 5 cs ∧ cs.size = 201 ∧ ∀ i, i < j → cs[i]? = some (.int .u8 97)
theorem Sm.Row97.rd {W : World} {R : Nat} (h : Row97 W R 201) (n : Nat) (hn : n ≤ 201) : Rd W W.heap.size (some ⟨R, 0, none⟩) (List.replicate n 97#8) := fun _ => by
  obtain ⟨cs, h1, h2, h3⟩ := h
  refine ⟨R, 0, rfl, h1.lt, fun j c hj => ?_⟩
  have hjn : j < n := by
    have := (List.getElem?_eq_some_iff.1 hj).1
    rwa [List.length_replicate] at this
  rw [List.getElem?_replicate, if_pos hjn] at hj
  injection hj with hj
  subst hj
  rw [Nat.zero_add, h1.cell j]
  exact h3 j (by omega)
theorem Sm.Row97.set {W : World} {R j : Nat} (h : Row97 W R j) (hj : j < 201) : Row97 (W.setCell ⟨R, j, none⟩ (.int .u8 97)) R (j + 1) := by
  obtain ⟨cs, h1, h2, h3⟩ := h
  refine ⟨_, heap_setCell_same W R j cs 5 (.int .u8 97) h1, by rw [Array.size_setIfInBounds]; exact h2, fun i hi => ?_⟩
  rw [Array.getElem?_setIfInBounds]
  split
  · rename_i e
    subst e
    split
    · rfl
    · omega
  · exact h3 i (by omega)
theorem Sm.Row97.keep {W W' : World} {R j : Nat} (h : Row97 W R j) (hb : Below W.heap.size W W') : Row97 W' R j := by
  obtain ⟨cs, h1, h2, h3⟩ := h
  exact ⟨cs, h1.keep hb, h2, h3⟩
def Sm.xB : ByteArray := ⟨#[120]⟩
def Sm.kX : Kpt := turnK zeroK 0 xB
theorem Sm.find_kX : findS kX 0 = some (0, xB) := by kernel_rfl
theorem Sm.tokmax : TokOK 15 2147483647 2147483647 := by unfold TokOK; omega
theorem Sm.un_aaa : unspellS (List.replicate 200 97#8) = some (List.replicate 125 0#8) := by decide +kernel
theorem Sm.opened_noughts (k : Kpt) : openedS k (List.replicate 125 0#8) = .error 161 := by kernel_rfl
theorem Sm.open_noughts (k : Kpt) : openS k (strB (List.replicate 200 97#8)) = .error 161 := by
  unfold openS
  rw [if_neg (by rw [strB_length, List.length_replicate]; omega), sB_strB, un_aaa]
  exact opened_noughts k
theorem Sm.open_long (k : Kpt) (s : ByteArray) (h : 200 < s.size) : openS k s = .error 3 := by
  unfold openS
  rw [if_pos h]
theorem Sm.tokmax_size : (strB (spellS (tokB xB 0 15 2147483647 2147483647))).size ≤ 60 := by
  rw [strB_length, spellS_length]
  have h1 := tokB_length xB 0 15 2147483647 2147483647
  have h3 : cntW 8 5 (tokB xB 0 15 2147483647 2147483647).length = (8 * (tokB xB 0 15 2147483647 2147483647).length + 4) / 5 := rfl
  have h4 : (numsB [0, 15, 2147483647, 2147483647]).length = (numB (0 : Int).toNat).length + ((numB (15 : Int).toNat).length + ((numB (2147483647 : Int).toNat).length + (numB (2147483647 : Int).toNat).length)) := by rw [numsB_cons4]; simp only [List.length_append]
  have h5 := numB_len 0 (0 : Int).toNat (by decide)
  have h6 := numB_len 0 (15 : Int).toNat (by decide)
  have h7 := numB_len 4 (2147483647 : Int).toNat (by decide)
  omega
set_option maxRecDepth 100000 in
set_option maxHeartbeats 4000000 in
theorem Sm.bounds6_any (w : World) (ht : Tabs w) : Calls Tryd.prog 4 #[] w fun e w' => e = .returned (.bool true) ∧ Below w.heap.size w w' := by
  obtain ⟨i0, hi, hz0, hz1, hz2⟩ := info_parts info5
  have HT := Lib.hid ht
  have HKN := Lib.hid (KNew_ok xB w (by decide) (by decide))
  clear ht
  unfold xB at HKN
  go_enter Tryd.func4, Tryd.ntmps4
  go_upto_region 2 with (go_at_call 12; (with_reducible refine HKN.out.mono ?_); rintro e w4 ⟨B, rfl, hB3, hk4, hb4w⟩)
  have hB4 := Blk.lt hk4
  obtain ⟨T, hT⟩ : ∃ b, w4.heap.size = b := ⟨_, rfl⟩
  obtain ⟨W5, hW5⟩ : ∃ x, w4.alloc (.cells #[.int .i64 15, .int .i64 2147483647, .int .i64 2147483647] 36) = x := ⟨_, rfl⟩
  have hb5 : Below w4.heap.size w4 W5 := by rw [← hW5]; exact (Below.refl _ _).alloc (Nat.le_refl _) _
  have ht5 : Blk W5 T 36 #[.int .i64 15, .int .i64 2147483647, .int .i64 2147483647] := by rw [← hW5, ← hT]; exact Blk.new w4 36 _
  have hk5 : KeyAt W5 B kX := Blk.keep hk4 hb5
  have HB5 := Lib.hid (hb4w.trans (hb5.mono hb4w.size))
  have HK5 := Lib.hid hk5
  have HT5 := Lib.hid ht5
  have HW5 := Lib.hid hW5
  clear hb4w hB4 hW5 hb5 ht5 hk5 hk4 HKN hB3
  go_upto_region 3 with fail
  rw [HW5.out]
  clear hT HW5
  have t0 := HT5.out.cell 0
  have t1 := HT5.out.cell 1
  have t2 := HT5.out.cell 2
  simp only [List.getElem?_toArray, List.getElem?_cons_zero, List.getElem?_cons_succ] at t0 t1 t2
  have htl := HT5.out.lt
  have hmk := Make_ok B kX 15 2147483647 2147483647 W5 HK5.out (HT.out.keep HB5.out) (ne_of_size (by decide)) (by decide) (by decide) tokmax
  have hok : openS kX (strB (spellS (tokB kX.s0 kX.n0 15 2147483647 2147483647))) = .ok (15, 2147483647, 2147483647) := open_kept kX xB 0 15 2147483647 2147483647 (by decide) tokmax find_kX
  have htz : (strB (spellS (tokB kX.s0 kX.n0 15 2147483647 2147483647))).size ≤ 60 := tokmax_size
  obtain ⟨TX, hTX⟩ : ∃ x, strB (spellS (tokB kX.s0 kX.n0 15 2147483647 2147483647)) = x := ⟨_, rfl⟩
  rw [hTX] at hmk hok htz
  have HMK := Lib.hid hmk
  have HOK := Lib.hid hok
  have HTZ := Lib.hid htz
  clear hmk hok htz hTX
  go_upto_region 4 with (go_at_call 13; (with_reducible refine HMK.out.mono ?_); rintro e w6 ⟨rfl, hb6⟩)
  have hk6 : KeyAt w6 B kX := Blk.keep HK5.out hb6
  have HT6 := Lib.hid (HT5.out.keep hb6)
  have HK6 := Lib.hid hk6
  have HB6 := Lib.hid (HB5.out.trans (hb6.mono HB5.out.size))
  clear hb6 hk6 HT5 HB5 HK5 t0 t1 t2 htl HMK
  have hop := Open_ok B kX TX 15 2147483647 2147483647 w6 HK6.out (HT.out.keep HB6.out) (ne_of_size (by decide)) (by decide) (by have := HTZ.out; omega) HOK.out
  have HOP := Lib.hid hop
  clear hop
  go_upto_region 5 with (go_at_call 14; (with_reducible refine HOP.out.mono ?_); rintro e w9 ⟨rfl, hb9⟩)
  obtain ⟨U, hU⟩ : ∃ b, w9.heap.size = b := ⟨_, rfl⟩
  obtain ⟨W10, hW10⟩ : ∃ x, w9.alloc (.cells #[.int .i64 15, .int .i64 2147483647, .int .i64 2147483647] 36) = x := ⟨_, rfl⟩
  have hb10 : Below w9.heap.size w9 W10 := by rw [← hW10]; exact (Below.refl _ _).alloc (Nat.le_refl _) _
  have hu10 : Blk W10 U 36 #[.int .i64 15, .int .i64 2147483647, .int .i64 2147483647] := by rw [← hW10, ← hU]; exact Blk.new w9 36 _
  have hb610 : Below w6.heap.size w6 W10 := hb9.trans (hb10.mono hb9.size)
  have HK10 : Hid (KeyAt W10 B kX) := Lib.hid (Blk.keep HK6.out hb610)
  have HT10 := Lib.hid (HT6.out.keep hb610)
  have HB10 := Lib.hid (HB6.out.trans (hb610.mono HB6.out.size))
  have HU10 := Lib.hid hu10
  rw [hW10, hU]
  clear hb10 hu10 hb610 hW10 hb9 hU HOP HOK HK6 HT6 HB6
  go_upto_region 7 with (at_make; refine wpList_make_full _ rfl _ _ 0x16 rfl W10.heap.size 5 i0 (.int .u8 0) 1 Tryd.underlying22 hi hz0 hz1 .i64 .i64 _ _ 201 rfl rfl rfl rfl (by rw [hz2]; omega) (by unfold maxLen; omega) (Nat.le_refl _) ?_; intro w11 hown hg11)
  obtain ⟨R, hR⟩ : ∃ b, W10.heap.size = b := ⟨_, rfl⟩
  have hrow : Row97 w11 R 0 := by
    rcases hown.2 with ⟨e, _⟩ | ⟨g, cap, cur, e, _, hk, _, _, hcs, _⟩
    · cases e
    · simp only [Value.slice.injEq, Option.some.injEq, Addr.mk.injEq, and_true] at e
      obtain ⟨rfl, _, rfl⟩ := e
      rw [hR] at hk
      exact ⟨cur, hk, by simpa using hcs, fun i h => absurd h (Nat.not_lt_zero _)⟩
  have hb11 : Below W10.heap.size W10 w11 := (Below.refl _ _).grown hg11 (Nat.le_refl _) (fun g e => by cases e)
  have HROW := Lib.hid hrow
  have HB11 := Lib.hid hb11
  have HRE := Lib.hid hR
  rw [hR]
  clear hown hg11 hrow hb11 hR
  go_loopw [9] (fun s9 wr => ∃ j : Nat, j ≤ 201 ∧ s9 = .int .i64 (j : Int) ∧ Hid (Row97 wr R j) ∧ Hid (Below W10.heap.size W10 wr)) (fun s9 _ => 201 - (intOf s9).toNat)
  case atStart => exact ⟨0, by omega, rfl, HROW, HB11⟩
  case round =>
    obtain ⟨wo, rfl⟩ : ∃ wo : World, wo = wr := ⟨_, rfl⟩
    obtain ⟨j, hj, rfl, HQ, HB⟩ := hrel
    clear HROW HB11
    by_cases hlt : j < 201
    · obtain ⟨cs, k1, k2, k3⟩ := HQ.out
      have hcj := k1.cell j
      have hfj := k1.frozen j
      rw [Array.getElem?_eq_getElem (by omega)] at hcj
      obtain ⟨x, hx⟩ : ∃ x, cs[j] = x := ⟨_, rfl⟩
      rw [hx] at hcj
      clear hx k1 k2 k3
      go_wp2
      exact ⟨⟨j + 1, by omega, by go_num, Lib.hid (HQ.out.set hlt), Lib.hid (HB.out.setCell (p := ⟨R, j, none⟩) (by have := HRE.out; simp; omega) _)⟩, by simp [intOf]; omega⟩
    · obtain rfl : j = 201 := by omega
      clear hj hlt
      have HK11 : Hid (KeyAt wo B kX) := Lib.hid (Blk.keep HK10.out HB.out)
      have HT11 := Lib.hid (HT10.out.keep HB.out)
      have HU11 := Lib.hid (HU10.out.keep HB.out)
      have HB11 := Lib.hid (HB10.out.trans (HB.out.mono HB10.out.size))
      have hcv := conv_rd (c := 201) (List.length_replicate (n := 200) (a := 97#8)) (HQ.out.rd 200 (by omega))
      have hch := fun v => cut_h0 R 201 201 200 (by omega) v
      have hop := Open_no B kX (strB (List.replicate 200 97#8)) 161 wo HK11.out (HT.out.keep HB11.out) (ne_of_size (by decide)) (by decide) (by rw [strB_length, List.length_replicate]; omega) (open_noughts kX)
      obtain ⟨S1, hS1⟩ : ∃ x, strB (List.replicate 200 97#8) = x := ⟨_, rfl⟩
      rw [hS1] at hcv hop
      have HOP := Lib.hid hop
      clear hop hS1 HK10 HT10 HU10 HB10 HB
      go_upto_region 11 with (go_at_call 14; (with_reducible refine HOP.out.mono ?_); rintro e w12 ⟨rfl, hb12⟩)
      obtain ⟨X12, hX12⟩ : ∃ x, w12.alloc (.cells #[.int .i64 0, .int .i64 0, .int .i64 0] 36) = x := ⟨_, rfl⟩
      have hbX : Below wo.heap.size wo X12 := by rw [← hX12]; exact hb12.alloc hb12.size _
      have HK12 : Hid (KeyAt X12 B kX) := Lib.hid (Blk.keep HK11.out hbX)
      have HT12 := Lib.hid (HT11.out.keep hbX)
      have HU12 := Lib.hid (HU11.out.keep hbX)
      have HB12 := Lib.hid (HB11.out.trans (hbX.mono HB11.out.size))
      have HQ12 := Lib.hid (HQ.out.keep hbX)
      rw [hX12]
      clear hX12 hbX hb12 HK11 HT11 HU11 HB11 HOP hcv hch HQ
      have hcv := conv_rd (c := 201) (List.length_replicate (n := 201) (a := 97#8)) (HQ12.out.rd 201 (by omega))
      have hop := Open_no B kX (strB (List.replicate 201 97#8)) 3 X12 HK12.out (HT.out.keep HB12.out) (ne_of_size (by decide)) (by decide) (by rw [strB_length, List.length_replicate]; omega) (open_long kX _ (by rw [strB_length, List.length_replicate]; omega))
      obtain ⟨S2, hS2⟩ : ∃ x, strB (List.replicate 201 97#8) = x := ⟨_, rfl⟩
      rw [hS2] at hcv hop
      have HOP := Lib.hid hop
      clear hop hS2
      go_upto_region 12 with (go_at_call 14; (with_reducible refine HOP.out.mono ?_); rintro e w13 ⟨rfl, hb13⟩)
      obtain ⟨X14, hX14⟩ : ∃ x, w13.alloc (.cells #[.int .i64 0, .int .i64 0, .int .i64 0] 36) = x := ⟨_, rfl⟩
      have hbX : Below X12.heap.size X12 X14 := by rw [← hX14]; exact hb13.alloc hb13.size _
      have hT14 := HT12.out.keep hbX
      have hU14 := HU12.out.keep hbX
      have t0 := hT14.cell 0
      have t1 := hT14.cell 1
      have t2 := hT14.cell 2
      have u0 := hU14.cell 0
      have u1 := hU14.cell 1
      have u2 := hU14.cell 2
      simp only [List.getElem?_toArray, List.getElem?_cons_zero, List.getElem?_cons_succ] at t0 t1 t2 u0 u1 u2
      have HB14 := Lib.hid (HB12.out.trans (hbX.mono HB12.out.size))
      have HWK := Lib.hid (works_any X14 (HT.out.keep HB14.out))
      have htz : (TX.size : Int) ≤ 60 := by have := HTZ.out; omega
      have htl := hT14.lt
      have hul := hU14.lt
      rw [hX14]
      clear hX14 hbX hb13 HK12 HT12 HU12 HB12 HOP hcv HQ12 hT14 hU14 HT
      go_wp2_with (first
        | (go_at_call 11; (with_reducible refine (num_any _ _).mono ?_); rintro e w16 ⟨rfl, rfl⟩)
        | (go_at_call 6; (with_reducible refine HWK.out.mono ?_); rintro e w17 ⟨rfl, hb17⟩))
      go_ret
      exact ⟨rfl, HB14.out.trans (hb17.mono HB14.out.size)⟩
end Go.Proofs
