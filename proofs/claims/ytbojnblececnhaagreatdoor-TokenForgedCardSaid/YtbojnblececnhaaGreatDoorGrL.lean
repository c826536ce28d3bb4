/-
  The walk of TokenForged.
-/
import Derived.BigQuiet
import Derived.Deep.RegionHeldLaw
import Derived.Deep.CutRange
import Derived.Test.YtbojnblececnhaaGreatDoorGrI
namespace Go.Proofs
open Go.RowKit Go.Shelf Sm
set_option maxRecDepth 100000 in
set_option maxHeartbeats 2000000 in
theorem Sm.forged_long (f : ByteArray) (n c : Nat) (A : Option Addr) (ss : List ByteArray) (by_ : ByteArray) (k m s i at_ : Int) (add : BitVec 8) (fewer : Int) (w : World) (ht : Tabs w) (hl : ss.length = n) (hm : n ≤ 9223372036854775807) (hr : Rds w (fun _ => False) A (ss.map Value.string)) (hno : ¬ (fewB f ss = true ∧ by_.size ≤ 100 ∧ 0 ≤ k ∧ k ≤ 2147483647 ∧ TokOK m s i)) :
    Calls Tryz.prog 5 #[.string f, .slice A n c, .string by_, .int .i64 k, .agg #[.int .i64 m, .int .i64 s, .int .i64 i], .int .i64 at_, .int .u8 (ib add), .int .i64 fewer] w fun e w' => e = .returned (.bool true) ∧ Below w.heap.size w w' := by
  obtain ⟨W1, hW1⟩ : ∃ x, w.alloc (.cells #[.int .i64 m, .int .i64 s, .int .i64 i] 24) = x := ⟨_, rfl⟩
  have hb1 : Below w.heap.size w W1 := by rw [← hW1]; exact (Below.refl _ w).alloc (Nat.le_refl _) _
  have hT1 : Blk W1 w.heap.size 24 #[.int .i64 m, .int .i64 s, .int .i64 i] := by rw [← hW1]; exact Blk.new w 24 _
  have hfw := few_any f n c A ss W1 hl hm (Rds.below hr hb1)
  have t0 := hT1.cell 0
  have t1 := hT1.cell 1
  have t2 := hT1.cell 2
  simp only [List.getElem?_toArray, List.getElem?_cons_zero, List.getElem?_cons_succ] at t0 t1 t2
  have HW1 := Lib.hid hW1
  have HB1 := Lib.hid hb1
  have HWK := Lib.hid (works_any W1 (ht.keep hb1))
  have HT1 := Lib.hid (ht.keep hb1)
  have hrt := right_any m s i W1
  by_cases g1 : fewB f ss = true
  · rw [g1] at hfw
    have HFW := Lib.hid hfw
    by_cases g2 : by_.size ≤ 100
    · have h2 : ¬ (100 : Int) < (by_.size : Int) := by omega
      by_cases g3 : 0 ≤ k
      · have h3 : ¬ k < 0 := by omega
        by_cases g4 : k ≤ 2147483647
        · have h4 : ¬ (2147483647 : Int) < k := by omega
          have hT : ¬ TokOK m s i := fun h => hno ⟨g1, g2, g3, g4, h⟩
          rw [decide_eq_false hT] at hrt
          have HRT := Lib.hid hrt
          clear hno g1 g2 g3 g4 ht hr hl hfw hrt hT hW1 hb1 hT1
          go_enter Tryz.func5, Tryz.ntmps5
          go_upto_region 1 with fail
          rw [HW1.out]
          go_wp2_with (first
            | (go_at_call 7; (with_reducible refine HFW.out.mono ?_); rintro e w2 ⟨rfl, rfl⟩)
            | (go_at_call 17; (with_reducible refine HRT.out.mono ?_); rintro e w44 ⟨rfl, hb44⟩; have HWK2 := Lib.hid (works_any w44 (HT1.out.keep hb44)))
            | (go_at_call 8; (with_reducible refine HWK2.out.mono ?_); rintro e w8 ⟨rfl, hb8⟩))
          go_ret
          exact ⟨rfl, HB1.out.trans ((hb44.trans (hb8.mono hb44.size)).mono HB1.out.size)⟩
        · have h4 : (2147483647 : Int) < k := by omega
          clear hno g1 g2 g3 g4 ht hr hl hfw hrt hW1 hb1 hT1 HT1
          go_enter Tryz.func5, Tryz.ntmps5
          go_upto_region 1 with fail
          rw [HW1.out]
          go_wp2_with (first
            | (go_at_call 7; (with_reducible refine HFW.out.mono ?_); rintro e w2 ⟨rfl, rfl⟩)
            | (go_at_call 8; (with_reducible refine HWK.out.mono ?_); rintro e w8 ⟨rfl, hb8⟩))
          go_ret
          exact ⟨rfl, HB1.out.trans (hb8.mono HB1.out.size)⟩
      · have h3 : k < 0 := by omega
        clear hno g1 g2 g3 ht hr hl hfw hrt hW1 hb1 hT1 HT1
        go_enter Tryz.func5, Tryz.ntmps5
        go_upto_region 1 with fail
        rw [HW1.out]
        go_wp2_with (first
          | (go_at_call 7; (with_reducible refine HFW.out.mono ?_); rintro e w2 ⟨rfl, rfl⟩)
          | (go_at_call 8; (with_reducible refine HWK.out.mono ?_); rintro e w8 ⟨rfl, hb8⟩))
        go_ret
        exact ⟨rfl, HB1.out.trans (hb8.mono HB1.out.size)⟩
    · have h2 : (100 : Int) < (by_.size : Int) := by omega
      clear hno g1 g2 ht hr hl hfw hrt hW1 hb1 hT1 HT1
      go_enter Tryz.func5, Tryz.ntmps5
      go_upto_region 1 with fail
      rw [HW1.out]
      go_wp2_with (first
        | (go_at_call 7; (with_reducible refine HFW.out.mono ?_); rintro e w2 ⟨rfl, rfl⟩)
        | (go_at_call 8; (with_reducible refine HWK.out.mono ?_); rintro e w8 ⟨rfl, hb8⟩))
      go_ret
      exact ⟨rfl, HB1.out.trans (hb8.mono HB1.out.size)⟩
  · rw [show fewB f ss = false by simpa using g1] at hfw
    have HFW := Lib.hid hfw
    clear hno g1 ht hr hl hfw hrt hW1 hb1 hT1 HT1
    go_enter Tryz.func5, Tryz.ntmps5
    go_upto_region 1 with fail
    rw [HW1.out]
    go_wp2_with (first
      | (go_at_call 7; (with_reducible refine HFW.out.mono ?_); rintro e w2 ⟨rfl, rfl⟩)
      | (go_at_call 8; (with_reducible refine HWK.out.mono ?_); rintro e w8 ⟨rfl, hb8⟩))
    go_ret
    exact ⟨rfl, HB1.out.trans (hb8.mono HB1.out.size)⟩
theorem Sm.byte_sum (x y : BitVec 8) : (ib x + ib y) % 256 = ib (x + y) := by
  unfold ib
  rw [BitVec.toNat_add]
  omega
set_option maxRecDepth 100000 in
set_option maxHeartbeats 4000000 in
theorem Sm.forged_few (f : ByteArray) (n c : Nat) (A : Option Addr) (ss : List ByteArray) (by_ : ByteArray) (k m s i at_ : Int) (add : BitVec 8) (fewer : Int) (w : World) (ht : Tabs w) (hl : ss.length = n) (hm : n ≤ 9223372036854775807) (hr : Rds w (fun _ => False) A (ss.map Value.string)) (hfew : fewB f ss = true) (hby : by_.size ≤ 100) (hk0 : 0 ≤ k) (hk1 : k ≤ 2147483647) (hT : TokOK m s i) (lo5 : -9223372036854775808 ≤ at_) (up5 : at_ ≤ 9223372036854775807) (lo7 : -9223372036854775808 ≤ fewer) (up7 : fewer ≤ 9223372036854775807) :
    Calls Tryz.prog 5 #[.string f, .slice A n c, .string by_, .int .i64 k, .agg #[.int .i64 m, .int .i64 s, .int .i64 i], .int .i64 at_, .int .u8 (ib add), .int .i64 fewer] w fun e w' => e = .returned (.bool true) ∧ Below w.heap.size w w' := by
  obtain ⟨i0, hi0, hz0, hz1, hz2⟩ := info_parts info5
  obtain ⟨W1, hW1⟩ : ∃ x, w.alloc (.cells #[.int .i64 m, .int .i64 s, .int .i64 i] 24) = x := ⟨_, rfl⟩
  have hb1 : Below w.heap.size w W1 := by rw [← hW1]; exact (Below.refl _ w).alloc (Nat.le_refl _) _
  have hT1 : Blk W1 w.heap.size 24 #[.int .i64 m, .int .i64 s, .int .i64 i] := by rw [← hW1]; exact Blk.new w 24 _
  have hfw := few_any f n c A ss W1 hl hm (Rds.below hr hb1)
  have t0 := hT1.cell 0
  have t1 := hT1.cell 1
  have t2 := hT1.cell 2
  simp only [List.getElem?_toArray, List.getElem?_cons_zero, List.getElem?_cons_succ] at t0 t1 t2
  have HW1 := Lib.hid hW1
  have HB1 := Lib.hid hb1
  have hrt := right_any m s i W1
  rw [decide_eq_true hT] at hrt
  rw [hfew] at hfw
  have HFW := Lib.hid hfw
  have HRT := Lib.hid hrt
  have HTN : Hid (∀ W : World, Below W1.heap.size W1 W → Calls Tryz.prog 9 #[.string f, .slice A n c] W fun e w' => ∃ p f0 A0 n0 c0, e = .returned (.tuple #[.pointer p, .agg #[.int .i64 f0, .slice A0 n0 c0], .bool true]) ∧ Hid (Handed w' W.heap.size p f0 A0 n0) ∧ Below W.heap.size W w') := Lib.hid (fun W hb => turnedK_any f n c A ss W hl hfew ((Rds.below hr hb1).below hb))
  have HT := Lib.hid ht
  have HT1 := Lib.hid hT1
  have h2 : ¬ (100 : Int) < (by_.size : Int) := by omega
  have h3 : ¬ k < 0 := by omega
  have h4 : ¬ (2147483647 : Int) < k := by omega
  obtain ⟨⟨q1, q2⟩, ⟨q3, q4⟩, q5, q6⟩ := hT
  obtain ⟨m', rfl⟩ : ∃ y : Nat, m = (y : Int) := ⟨m.toNat, by omega⟩
  obtain ⟨s', rfl⟩ : ∃ y : Nat, s = (y : Int) := ⟨s.toNat, by omega⟩
  obtain ⟨i', rfl⟩ : ∃ y : Nat, i = (y : Int) := ⟨i.toNat, by omega⟩
  obtain ⟨k', rfl⟩ : ∃ y : Nat, k = (y : Int) := ⟨k.toNat, by omega⟩
  have hWI : ∀ W : World, Calls Tryz.prog 20 #[.string by_, .int .i64 (k' : Int), .agg #[.int .i64 (m' : Int), .int .i64 (s' : Int), .int .i64 (i' : Int)]] W fun e w' => ∃ A c, e = .returned (.slice A (tokB by_ k' m' s' i').length c) ∧ w'.ownsRow W.heap.size 5 1 (.slice A (tokB by_ k' m' s' i').length c) (tokB by_ k' m' s' i').length ((tokB by_ k' m' s' i').map byteCell) ∧ Below W.heap.size W w' := fun W => refWith_any by_ k' m' s' i' W (by omega) (by omega) (by omega) (by omega) (by omega)
  have hTl : 16 ≤ (tokB by_ k' m' s' i').length ∧ (tokB by_ k' m' s' i').length ≤ 60 := by
    rw [tokB_length]
    have hfl : (numsB [(k' : Int), (m' : Int), (s' : Int), (i' : Int)]).length ≤ 36 := by
      rw [← fourN_nums]
      have hl : ∀ k : Nat, k ≤ 2147483647 → (numB k).length ≤ 9 := fun k hk => numB_len9 (by unfold top; omega)
      unfold fourN
      simp only [List.length_append]
      have := hl k' (by omega)
      have := hl m' (by omega)
      have := hl s' (by omega)
      have := hl i' (by omega)
      omega
    omega
  obtain ⟨bb, hbb⟩ : ∃ x, tokB by_ k' m' s' i' = x := ⟨_, rfl⟩
  rw [hbb] at hWI hTl
  obtain ⟨L, hL⟩ : ∃ x, bb.length = x := ⟨_, rfl⟩
  rw [hL] at hWI hTl
  have HWI := Lib.hid hWI
  have HL := Lib.hid hL
  clear hfw hrt hr hl hfew ht hW1 hb1 hT1 hWI hbb hL hby hk0 hk1 q1 q2 q3 q4 q5 q6
  go_enter Tryz.func5, Tryz.ntmps5
  go_upto_region 1 with fail
  rw [HW1.out]
  go_upto_region 3 with (first
    | (go_at_call 7; (with_reducible refine HFW.out.mono ?_); rintro e w2 ⟨rfl, rfl⟩)
    | (go_at_call 17; (with_reducible refine HRT.out.mono ?_); rintro e w44 ⟨rfl, hb44⟩))
  go_upto_region 4 with (go_at_call 9; (with_reducible refine (HTN.out _ hb44).mono ?_); rintro e w3 ⟨p, f0, A0, n0, c0, rfl, HH, hb3⟩)
  obtain ⟨B18, hB18⟩ : ∃ b, w3.heap.size = b := ⟨_, rfl⟩
  obtain ⟨W4, hW4⟩ : ∃ v, w3.alloc (.cells #[.int .i64 f0, .slice A0 n0 c0] 29) = v := ⟨_, rfl⟩
  have hb34 : Below w3.heap.size w3 W4 := by rw [← hW4]; exact (Below.refl _ _).alloc (Nat.le_refl _) _
  have hb14 : Below W1.heap.size W1 W4 := hb44.trans ((hb3.trans (hb34.mono hb3.size)).mono hb44.size)
  have HB34 := Lib.hid hb34
  have HB4 := Lib.hid (HB1.out.trans (hb14.mono HB1.out.size))
  have H18 := Lib.hid (show Blk W4 B18 29 #[.int .i64 f0, .slice A0 n0 c0] by rw [← hW4, ← hB18]; exact Blk.new w3 29 _)
  have HT4 := Lib.hid (HT1.out.keep hb14)
  have HWK := Lib.hid (works_any W4 (HT.out.keep HB4.out))
  try rw [hW4]
  try rw [hB18]
  clear t0 t1 t2 hW4 hB18 hb34 hb14 hb44 hb3 HTN HFW HRT HT1
  rcases HH.out with rfl | ⟨B, d, j, rfl, rfl, rfl, hj, hok, hk, hBl, hrow⟩
  · clear HH
    go_wp2_with (go_at_call 8; (with_reducible refine HWK.out.mono ?_); rintro e w20 ⟨rfl, hb20⟩)
    go_ret
    exact ⟨rfl, HB4.out.trans (hb20.mono HB4.out.size)⟩
  · have HOK := Lib.hid hok
    have HK4 : Hid (KeyAt W4 B d.pt) := Lib.hid (Blk.keep hk HB34.out)
    have HR4 := Lib.hid ((hrow.below HB34.out).weaker (S' := fun _ => False) (fun _ h => h.elim))
    clear HH hok hk hrow HWK HB34
    have t0 := HT4.out.cell 0
    have t1 := HT4.out.cell 1
    have t2 := HT4.out.cell 2
    simp only [List.getElem?_toArray, List.getElem?_cons_zero, List.getElem?_cons_succ] at t0 t1 t2
    go_upto_region 7 with (go_at_call 20; (with_reducible refine (HWI.out W4).mono ?_); rintro e w6 ⟨A6, c6, rfl, ho6, hb6⟩)
    obtain ⟨g, c6', e6, hgc, hgb⟩ := own_slice1 ho6 (by omega)
    injection e6 with e61 e62 e63
    subst e61 e63
    have HO6 := Lib.hid ho6
    have HB6 := Lib.hid hb6
    clear ho6 hb6 t0 t1 t2 HWI HT4
    go_cut [72] from 65 to 72 (fun s72 wx => s72 = .bool (decide (0 ≤ at_ ∧ at_ < (L : Int))) ∧ w6 = wx)
    case first =>
      by_cases h0 : 0 ≤ at_
      · by_cases h1 : at_ < (L : Int)
        · go_wp2
          go_meet
          exact ⟨by simp [h0, h1], rfl⟩
        · go_wp2
          go_meet
          exact ⟨by simp [h0, h1], rfl⟩
      · go_wp2
        go_meet
        have h9 : ¬ (0 ≤ at_ ∧ at_ < (L : Int)) := fun h => by omega
        exact ⟨by rw [decide_eq_false h9] <;> (first | rfl | (simp; omega)), rfl⟩
    case' rest => obtain ⟨rfl, rfl⟩ := hcut
    go_upto_if 72 with fail
    go_cut [20] from 65 to 81 (fun s20 wx => s20 = .slice (some ⟨g, 0, none⟩) L c6 ∧ ∃ b1 : List (BitVec 8), Hid (b1.length = L ∧ wx.ownsRow W4.heap.size 5 1 (.slice (some ⟨g, 0, none⟩) L c6) L (b1.map byteCell)) ∧ Hid (Below W4.heap.size W4 wx))
    case first =>
      by_cases h01 : 0 ≤ at_ ∧ at_ < (L : Int)
      · have h9 : decide (0 ≤ at_ ∧ at_ < (L : Int)) = true := by simp [h01]
        obtain ⟨h0, h1⟩ := h01
        · obtain ⟨q, rfl⟩ : ∃ q : Nat, at_ = (q : Int) := ⟨at_.toNat, by omega⟩
          have hq : q < bb.length := by rw [HL.out]; omega
          have hcl : w6.cell? ⟨g, q, none⟩ = some (.int .u8 (ib bb[q])) := by
            rw [HO6.out.cellAt q (by have := HL.out; omega), List.getElem?_map, List.getElem?_eq_getElem hq]
            rfl
          have hfz := HO6.out.frozenAt q
          obtain ⟨x, hx⟩ : ∃ x, bb[q] = x := ⟨_, rfl⟩
          rw [hx] at hcl
          have hsum := byte_sum x add
          have HST := Lib.hid (own_put HO6.out q (x + add))
          have HSB := Lib.hid (HB6.out.setCell (p := ⟨g, q, none⟩) hgb (.int .u8 (ib (x + add))))
          clear hx hq
          go_wp2
          go_meet
          exact ⟨rfl, bb.set q (x + add), Lib.hid ⟨by rw [List.length_set, HL.out], HST.out⟩, Lib.hid HSB.out⟩
      · have h9 : decide (0 ≤ at_ ∧ at_ < (L : Int)) = false := by simp only [h01, decide_false]
        go_wp2
        go_meet
        exact ⟨rfl, bb, Lib.hid ⟨HL.out, HO6.out⟩, Lib.hid HB6.out⟩
    case rest =>
      obtain ⟨wx1, rfl⟩ : ∃ wo : World, wo = wc := ⟨_, rfl⟩
      obtain ⟨rfl, b1, H1, HX1⟩ := hcut
      clear HO6 HB6 HL
      go_upto_region 9 with fail
      go_cut [89] from 82 to 89 (fun s89 wx => s89 = .bool (decide (0 < fewer ∧ fewer ≤ (L : Int))) ∧ wx1 = wx)
      case first =>
        by_cases h0 : 0 < fewer
        · by_cases h1 : fewer ≤ (L : Int)
          · go_wp2
            go_meet
            exact ⟨by simp [h0, h1], rfl⟩
          · go_wp2
            go_meet
            exact ⟨by simp [h0, h1], rfl⟩
        · go_wp2
          go_meet
          have h9 : ¬ (0 < fewer ∧ fewer ≤ (L : Int)) := fun h => by omega
          exact ⟨by rw [decide_eq_false h9] <;> (first | rfl | (simp; omega)), rfl⟩
      case' rest => obtain ⟨rfl, rfl⟩ := hcut
      go_upto_if 89 with fail
      go_cut [20] from 82 to 95 (fun s20 wx => ∃ n2 : Nat, s20 = .slice (some ⟨g, 0, none⟩) n2 c6 ∧ n2 ≤ 60 ∧ ∃ b2 : List (BitVec 8), Hid (b2.length = n2 ∧ Rd wx wx.heap.size (some ⟨g, 0, none⟩) b2) ∧ Hid (fewer < 0 → wx.ownsRow W4.heap.size 5 1 (.slice (some ⟨g, 0, none⟩) n2 c6) n2 (b2.map byteCell)) ∧ Hid (Below W4.heap.size W4 wx))
      case first =>
        have hrd1 := Rd.of_own H1.out.2 (Nat.le_refl _)
        have HRD1 := Lib.hid hrd1
        clear hrd1
        by_cases h01 : 0 < fewer ∧ fewer ≤ (L : Int)
        · have h9 : decide (0 < fewer ∧ fewer ≤ (L : Int)) = true := by simp [h01]
          obtain ⟨h0, h1⟩ := h01
          · obtain ⟨q, rfl⟩ : ∃ q : Nat, fewer = (q : Int) := ⟨fewer.toNat, by omega⟩
            obtain ⟨n2, hn2⟩ : ∃ n2, L - q = n2 := ⟨_, rfl⟩
            have hsub : (L : Int) - (q : Int) = (n2 : Int) := by omega
            have hn2c : (n2 : Int) ≤ (c6 : Int) := by omega
            have hn20 : (0 : Int) ≤ (n2 : Int) := by omega
            have hn2L : n2 ≤ L := by omega
            clear hn2
            go_wp2
            go_meet
            exact ⟨n2, rfl, by omega, b1.take n2, Lib.hid ⟨by rw [List.length_take, H1.out.1]; omega, Rd.takeT HRD1.out n2⟩, Lib.hid (fun h => absurd h (by omega)), HX1⟩
        · have h9 : decide (0 < fewer ∧ fewer ≤ (L : Int)) = false := by simp only [h01, decide_false]
          go_wp2
          go_meet
          exact ⟨L, rfl, by omega, b1, Lib.hid ⟨H1.out.1, HRD1.out⟩, Lib.hid (fun _ => H1.out.2), HX1⟩
      case rest =>
        obtain ⟨wx2, rfl⟩ : ∃ wo : World, wo = wc := ⟨_, rfl⟩
        obtain ⟨n2, rfl, hn2, b2, H2, HO2, HX2⟩ := hcut
        clear H1 HX1
        have hx2s := HX2.out.size
        go_upto_region 11 with fail
        go_cut [101] from 96 to 101 (fun s101 wx => s101 = .bool (decide (fewer < 0 ∧ -20 < fewer)) ∧ wx2 = wx)
        case first =>
          by_cases h0 : fewer < 0
          · by_cases h1 : -20 < fewer
            · go_wp2
              go_meet
              exact ⟨by simp [h0, h1], rfl⟩
            · go_wp2
              go_meet
              exact ⟨by simp [h0, h1], rfl⟩
          · go_wp2
            go_meet
            have h9 : ¬ (fewer < 0 ∧ -20 < fewer) := fun h => by omega
            exact ⟨by rw [decide_eq_false h9] <;> (first | rfl | (simp; omega)), rfl⟩
        case' rest => obtain ⟨rfl, rfl⟩ := hcut
        go_upto_if 101 with fail
        go_cut [20] from 96 to 105 (fun s20 wx => ∃ (A3 : Option Addr) (n3 c3 : Nat), s20 = .slice A3 n3 c3 ∧ n3 ≤ 100 ∧ ∃ b3 : List (BitVec 8), Hid (b3.length = n3 ∧ Rd wx wx.heap.size A3 b3) ∧ Hid (Below W4.heap.size W4 wx))
        case first =>
          by_cases h01 : fewer < 0 ∧ -20 < fewer
          · have h9 : decide (fewer < 0 ∧ -20 < fewer) = true := by simp [h01]
            obtain ⟨h0, h1⟩ := h01
            · obtain ⟨q, rfl⟩ : ∃ q : Nat, fewer = -(q : Int) := ⟨(-fewer).toNat, by omega⟩
              have hq0 : 0 < q := by omega
              have hq2 : q < 20 := by omega
              have HOX := Lib.hid (HO2.out h0)
              go_wp2_with (at_builtin; refine wpList_append_zeros _ rfl (.tmp 102) (.tmp 104) 0x38 3 9 rfl W4.heap.size 5 i0 .i64 .i64 Tryz.underlying56 Tryz.underlying3 Tryz.underlying9 hi0 hz0 hz1 hz2 _ n2 _ rfl HOX.out q (by first | rfl | (simp; done)) hq0 (by omega) hx2s ?_; intro v105 w105 hown105 hg105; obtain ⟨A3, c3, rfl⟩ := own_slice hown105)
              go_meet
              refine ⟨A3, n2 + q, c3, rfl, by omega, b2 ++ List.replicate q 0#8, Lib.hid ⟨by rw [List.length_append, List.length_replicate, H2.out.1], Rd.of_own (by rw [List.map_append]; exact hown105) (Nat.le_refl _)⟩, Lib.hid (HX2.out.grown hg105 hx2s (fun g e => own_ge HOX.out g e))⟩
          · have h9 : decide (fewer < 0 ∧ -20 < fewer) = false := by simp only [h01, decide_false]
            go_wp2
            go_meet
            exact ⟨_, n2, c6, rfl, by omega, b2, H2, HX2⟩
        case rest =>
          obtain ⟨wz, rfl⟩ : ∃ wo : World, wo = wc := ⟨_, rfl⟩
          obtain ⟨A3, n3, c3, rfl, hn3, b3, H3, HB4z⟩ := hcut
          clear H2 HO2 HX2 hx2s
          have HR3 := Lib.hid H3.out.2
          have HBZ := Lib.hid (HB4.out.trans (HB4z.out.mono HB4.out.size))
          have hSsz : (strB (spellS b3)).size ≤ 300 := by
            rw [strB_length, spellS_length, H3.out.1]
            show (8 * n3 + 4) / 5 ≤ 300
            omega
          have hSPA : ∀ W : World, Rd W wz.heap.size A3 b3 → Calls Tryz.prog 21 #[.slice A3 n3 c3] W fun e w' => e = .returned (.string (strB (spellS b3))) ∧ W = w' := fun W hr => refSpell_any n3 c3 wz.heap.size A3 b3 W H3.out.1 (by omega) hr
          obtain ⟨S, hSS⟩ : ∃ x, strB (spellS b3) = x := ⟨_, rfl⟩
          rw [hSS] at hSPA hSsz
          have SPA := Lib.hid hSPA
          have SP : Hid (Calls Tryz.prog 21 #[.slice A3 n3 c3] wz fun e w' => e = .returned (.string S) ∧ wz = w') := Lib.hid (hSPA wz HR3.out)
          have hkz : KeyAt wz B d.pt := Blk.keep HK4.out HB4z.out
          have hop := Open_V B d.pt S wz hkz (HT.out.keep HBZ.out) (Kd.there HOK.out) (Kd.sizes HOK.out) (by omega)
          have HRO : Hid (∀ W : World, Below W4.heap.size W4 W → Calls Tryz.prog 19 #[.agg #[.int .i64 d.first, .slice A0 d.ms.length c0], .string S] W fun e w' => e = .returned (OpenV (openS d.pt S)) ∧ Below W.heap.size W w') := Lib.hid (fun W hb => refOpen_any d j c0 A0 S W HOK.out (by omega) (HR4.out.below hb))
          clear hSPA hSS hkz
          cases ho : openS d.pt S with
          | ok qq =>
            obtain ⟨qa, qb, qc⟩ := qq
            rw [ho] at hop HRO
            clear ho
            unfold OpenV at hop HRO
            have HOP := Lib.hid (hop)
            go_upto_region 14 with (first
              | (go_at_call 21; (with_reducible refine SP.out.mono ?_); rintro e w108 ⟨rfl, rfl⟩)
              | (go_at_call 11; (with_reducible refine HOP.out.mono ?_); rintro e w110 ⟨rfl, hb110⟩))
            obtain ⟨B21, hB21⟩ : ∃ b, w110.heap.size = b := ⟨_, rfl⟩
            obtain ⟨W13, hW13⟩ : ∃ v, w110.alloc (.cells #[.int .i64 qa, .int .i64 qb, .int .i64 qc] 24) = v := ⟨_, rfl⟩
            have hb13 : Below wz.heap.size wz W13 := by rw [← hW13]; exact hb110.alloc hb110.size _
            have h21 : Blk W13 B21 24 #[.int .i64 qa, .int .i64 qb, .int .i64 qc] := by rw [← hW13, ← hB21]; exact Blk.new w110 24 _
            have H21 := Lib.hid h21
            have HB13 := Lib.hid hb13
            have hRd13 : ∀ W : World, Below W13.heap.size W13 W → Calls Tryz.prog 21 #[.slice A3 n3 c3] W fun e w' => e = .returned (.string S) ∧ W = w' := fun W hb => SPA.out W (HR3.out.belowTo (hb13.trans (hb.mono hb13.size)) (Nat.le_refl _))
            have hS : ∀ W : World, Below W13.heap.size W13 W → W.cell? ⟨B18, 0, none⟩ = some (.int .i64 d.first) ∧ W.cell? ⟨B18, 1, none⟩ = some (.slice A0 d.ms.length c0) := fun W hb => by
              have h9 := (H18.out.keep (HB4z.out.trans (hb13.mono HB4z.out.size))).keep hb
              exact ⟨h9.cell 0, h9.cell 1⟩
            have hRO : ∀ W : World, Below W13.heap.size W13 W → Calls Tryz.prog 19 #[.agg #[.int .i64 d.first, .slice A0 d.ms.length c0], .string S] W fun e w' => e = .returned (.tuple #[.agg #[.int .i64 qa, .int .i64 qb, .int .i64 qc], .int .i64 0]) ∧ (w'.cell? ⟨B18, 0, none⟩ = some (.int .i64 d.first) ∧ w'.cell? ⟨B18, 1, none⟩ = some (.slice A0 d.ms.length c0)) ∧ Below W.heap.size W w' ∧ Below W13.heap.size W13 w' := fun W hb => by
              refine (HRO.out W (HB4z.out.trans ((hb13.trans (hb.mono hb13.size)).mono HB4z.out.size))).mono ?_
              rintro e w' ⟨rfl, hb'⟩
              have hbb := hb.trans (hb'.mono hb.size)
              exact ⟨rfl, hS _ hbb, hb', hbb⟩
            have SP13 := Lib.hid hRd13
            have RO13 := Lib.hid hRO
            have HS13 := Lib.hid hS
            have s0 := hS W13.drew (Below.refl _ _).drew
            have b0 : Below W13.heap.size W13 W13.drew := (Below.refl _ _).drew
            have b0a : ∀ o, Below W13.heap.size W13 (W13.alloc o).drew := fun o => ((Below.refl _ W13).alloc (Nat.le_refl _) o).drew
            try rw [hW13]
            try rw [hB21]
            clear hW13 hB21 hb110 hb13 h21 hRd13 hS hRO HOP
            go_cut [23, 24] from 113 to 119 (fun s23 s24 wx => ∃ B23 : Nat, s23 = .pointer (some ⟨B23, 0, none⟩) ∧ s24 = .int .i64 0 ∧ Hid (Blk wx B23 24 #[.int .i64 qa, .int .i64 qb, .int .i64 qc]) ∧ Hid (Below W13.heap.size W13 wx))
            case first =>
              go_region_held_law (fun W => W.cell? ⟨B18, 0, none⟩ = some (.int .i64 d.first) ∧ W.cell? ⟨B18, 1, none⟩ = some (.slice A0 d.ms.length c0))
                (first | exact sT | exact HS13.out _ (bT.alloc bT.size _) | exact HS13.out _ (b0a _) | exact HS13.out _ (((bT.setCell (p := ⟨W13.heap.size, 0, none⟩) (by simp) _).setCell (p := ⟨W13.heap.size, 1, none⟩) (by simp) _).setCell (p := ⟨W13.heap.size, 2, none⟩) (by simp) _) | exact s0)
                (first
                  | (go_at_call 21; (with_reducible refine (SP13.out _ b0).mono ?_); rintro e w116 ⟨rfl, rfl⟩)
                  | (go_at_call 21; (with_reducible refine (SP13.out _ (b0a _)).mono ?_); rintro e w116 ⟨rfl, rfl⟩)
                  | (go_at_call 19; (with_reducible refine (RO13.out _ b0).mono ?_); rintro e wT ⟨rfl, sT, hbT, bT⟩)
                  | (go_at_call 19; (with_reducible refine (RO13.out _ (b0a _)).mono ?_); rintro e wT ⟨rfl, sT, hbT, bT⟩; have hZ := (show Blk (W13.alloc (.cells #[.int .i64 0, .int .i64 0, .int .i64 0] 24)).drew W13.heap.size 24 #[.int .i64 0, .int .i64 0, .int .i64 0] from Blk.new W13 24 _).keep hbT; have z0 := hZ.cell 0; have z1 := hZ.cell 1; have z2 := hZ.cell 2; have y0 := hZ.frozen 0; have y1 := hZ.frozen 1; have y2 := hZ.frozen 2; have yl := hZ.lt; simp only [List.getElem?_toArray, List.getElem?_cons_zero, List.getElem?_cons_succ] at z0 z1 z2))
              all_goals go_wp2_with fail
              all_goals go_meet
              all_goals first
                | exact ⟨wT.heap.size, rfl, rfl, Lib.hid (Blk.new wT 24 _), Lib.hid (bT.alloc bT.size _)⟩
                | exact ⟨W13.heap.size, rfl, rfl, Lib.hid (blk_set3 hZ _ _ _), Lib.hid (((bT.setCell (p := ⟨W13.heap.size, 0, none⟩) (by simp) _).setCell (p := ⟨W13.heap.size, 1, none⟩) (by simp) _).setCell (p := ⟨W13.heap.size, 2, none⟩) (by simp) _)⟩
            case rest =>
              obtain ⟨W14, rfl⟩ : ∃ wo : World, wo = wc := ⟨_, rfl⟩
              obtain ⟨B23, rfl, rfl, H23, HB14⟩ := hcut
              have h21 := H21.out.keep HB14.out
              have x0 := h21.cell 0
              have x1 := h21.cell 1
              have x2 := h21.cell 2
              have y0 := H23.out.cell 0
              have y1 := H23.out.cell 1
              have y2 := H23.out.cell 2
              simp only [List.getElem?_toArray, List.getElem?_cons_zero, List.getElem?_cons_succ] at x0 x1 x2 y0 y1 y2
              have HBF := Lib.hid (HBZ.out.trans ((HB13.out.trans (HB14.out.mono HB13.out.size)).mono HBZ.out.size))
              have HWF := Lib.hid (works_any W14 (HT.out.keep HBF.out))
              clear h21 H23 H21 SP13 RO13 HS13 s0 b0 b0a
              go_wp2_with (first
                | (go_at_call 12; (with_reducible refine (num_any _ _).mono ?_); rintro e w8 ⟨rfl, rfl⟩)
                | (go_at_call 8; (with_reducible refine HWF.out.mono ?_); rintro e w9 ⟨rfl, hb9⟩))
              go_ret
              exact ⟨rfl, HBF.out.trans (hb9.mono HBF.out.size)⟩
          | error no =>
            rw [ho] at hop HRO
            clear ho
            unfold OpenV at hop HRO
            have HOP := Lib.hid (hop)
            go_upto_region 14 with (first
              | (go_at_call 21; (with_reducible refine SP.out.mono ?_); rintro e w108 ⟨rfl, rfl⟩)
              | (go_at_call 11; (with_reducible refine HOP.out.mono ?_); rintro e w110 ⟨rfl, hb110⟩))
            obtain ⟨B21, hB21⟩ : ∃ b, w110.heap.size = b := ⟨_, rfl⟩
            obtain ⟨W13, hW13⟩ : ∃ v, w110.alloc (.cells #[.int .i64 0, .int .i64 0, .int .i64 0] 24) = v := ⟨_, rfl⟩
            have hb13 : Below wz.heap.size wz W13 := by rw [← hW13]; exact hb110.alloc hb110.size _
            have h21 : Blk W13 B21 24 #[.int .i64 0, .int .i64 0, .int .i64 0] := by rw [← hW13, ← hB21]; exact Blk.new w110 24 _
            have H21 := Lib.hid h21
            have HB13 := Lib.hid hb13
            have hRd13 : ∀ W : World, Below W13.heap.size W13 W → Calls Tryz.prog 21 #[.slice A3 n3 c3] W fun e w' => e = .returned (.string S) ∧ W = w' := fun W hb => SPA.out W (HR3.out.belowTo (hb13.trans (hb.mono hb13.size)) (Nat.le_refl _))
            have hS : ∀ W : World, Below W13.heap.size W13 W → W.cell? ⟨B18, 0, none⟩ = some (.int .i64 d.first) ∧ W.cell? ⟨B18, 1, none⟩ = some (.slice A0 d.ms.length c0) := fun W hb => by
              have h9 := (H18.out.keep (HB4z.out.trans (hb13.mono HB4z.out.size))).keep hb
              exact ⟨h9.cell 0, h9.cell 1⟩
            have hRO : ∀ W : World, Below W13.heap.size W13 W → Calls Tryz.prog 19 #[.agg #[.int .i64 d.first, .slice A0 d.ms.length c0], .string S] W fun e w' => e = .returned (.tuple #[.agg #[.int .i64 0, .int .i64 0, .int .i64 0], .int .i64 no]) ∧ (w'.cell? ⟨B18, 0, none⟩ = some (.int .i64 d.first) ∧ w'.cell? ⟨B18, 1, none⟩ = some (.slice A0 d.ms.length c0)) ∧ Below W.heap.size W w' ∧ Below W13.heap.size W13 w' := fun W hb => by
              refine (HRO.out W (HB4z.out.trans ((hb13.trans (hb.mono hb13.size)).mono HB4z.out.size))).mono ?_
              rintro e w' ⟨rfl, hb'⟩
              have hbb := hb.trans (hb'.mono hb.size)
              exact ⟨rfl, hS _ hbb, hb', hbb⟩
            have SP13 := Lib.hid hRd13
            have RO13 := Lib.hid hRO
            have HS13 := Lib.hid hS
            have s0 := hS W13.drew (Below.refl _ _).drew
            have b0 : Below W13.heap.size W13 W13.drew := (Below.refl _ _).drew
            have b0a : ∀ o, Below W13.heap.size W13 (W13.alloc o).drew := fun o => ((Below.refl _ W13).alloc (Nat.le_refl _) o).drew
            try rw [hW13]
            try rw [hB21]
            clear hW13 hB21 hb110 hb13 h21 hRd13 hS hRO HOP
            go_cut [23, 24] from 113 to 119 (fun s23 s24 wx => ∃ B23 : Nat, s23 = .pointer (some ⟨B23, 0, none⟩) ∧ s24 = .int .i64 no ∧ Hid (Blk wx B23 24 #[.int .i64 0, .int .i64 0, .int .i64 0]) ∧ Hid (Below W13.heap.size W13 wx))
            case first =>
              go_region_held_law (fun W => W.cell? ⟨B18, 0, none⟩ = some (.int .i64 d.first) ∧ W.cell? ⟨B18, 1, none⟩ = some (.slice A0 d.ms.length c0))
                (first | exact sT | exact HS13.out _ (bT.alloc bT.size _) | exact HS13.out _ (b0a _) | exact HS13.out _ (((bT.setCell (p := ⟨W13.heap.size, 0, none⟩) (by simp) _).setCell (p := ⟨W13.heap.size, 1, none⟩) (by simp) _).setCell (p := ⟨W13.heap.size, 2, none⟩) (by simp) _) | exact s0)
                (first
                  | (go_at_call 21; (with_reducible refine (SP13.out _ b0).mono ?_); rintro e w116 ⟨rfl, rfl⟩)
                  | (go_at_call 21; (with_reducible refine (SP13.out _ (b0a _)).mono ?_); rintro e w116 ⟨rfl, rfl⟩)
                  | (go_at_call 19; (with_reducible refine (RO13.out _ b0).mono ?_); rintro e wT ⟨rfl, sT, hbT, bT⟩)
                  | (go_at_call 19; (with_reducible refine (RO13.out _ (b0a _)).mono ?_); rintro e wT ⟨rfl, sT, hbT, bT⟩; have hZ := (show Blk (W13.alloc (.cells #[.int .i64 0, .int .i64 0, .int .i64 0] 24)).drew W13.heap.size 24 #[.int .i64 0, .int .i64 0, .int .i64 0] from Blk.new W13 24 _).keep hbT; have z0 := hZ.cell 0; have z1 := hZ.cell 1; have z2 := hZ.cell 2; have y0 := hZ.frozen 0; have y1 := hZ.frozen 1; have y2 := hZ.frozen 2; have yl := hZ.lt; simp only [List.getElem?_toArray, List.getElem?_cons_zero, List.getElem?_cons_succ] at z0 z1 z2))
              all_goals go_wp2_with fail
              all_goals go_meet
              all_goals first
                | exact ⟨wT.heap.size, rfl, rfl, Lib.hid (Blk.new wT 24 _), Lib.hid (bT.alloc bT.size _)⟩
                | exact ⟨W13.heap.size, rfl, rfl, Lib.hid (blk_set3 hZ _ _ _), Lib.hid (((bT.setCell (p := ⟨W13.heap.size, 0, none⟩) (by simp) _).setCell (p := ⟨W13.heap.size, 1, none⟩) (by simp) _).setCell (p := ⟨W13.heap.size, 2, none⟩) (by simp) _)⟩
            case rest =>
              obtain ⟨W14, rfl⟩ : ∃ wo : World, wo = wc := ⟨_, rfl⟩
              obtain ⟨B23, rfl, rfl, H23, HB14⟩ := hcut
              have h21 := H21.out.keep HB14.out
              have x0 := h21.cell 0
              have x1 := h21.cell 1
              have x2 := h21.cell 2
              have y0 := H23.out.cell 0
              have y1 := H23.out.cell 1
              have y2 := H23.out.cell 2
              simp only [List.getElem?_toArray, List.getElem?_cons_zero, List.getElem?_cons_succ] at x0 x1 x2 y0 y1 y2
              have HBF := Lib.hid (HBZ.out.trans ((HB13.out.trans (HB14.out.mono HB13.out.size)).mono HBZ.out.size))
              have HWF := Lib.hid (works_any W14 (HT.out.keep HBF.out))
              clear h21 H23 H21 SP13 RO13 HS13 s0 b0 b0a
              go_wp2_with (first
                | (go_at_call 12; (with_reducible refine (num_any _ _).mono ?_); rintro e w8 ⟨rfl, rfl⟩)
                | (go_at_call 8; (with_reducible refine HWF.out.mono ?_); rintro e w9 ⟨rfl, hb9⟩))
              go_ret
              exact ⟨rfl, HBF.out.trans (hb9.mono HBF.out.size)⟩
theorem Sm.forged_law (f : ByteArray) (n c : Nat) (A : Option Addr) (ss : List ByteArray) (by_ : ByteArray) (k m s i at_ : Int) (add : BitVec 8) (fewer : Int) (lo5 : -9223372036854775808 ≤ at_) (up5 : at_ ≤ 9223372036854775807) (lo7 : -9223372036854775808 ≤ fewer) (up7 : fewer ≤ 9223372036854775807) (w : World) (ht : Tabs w) (hl : ss.length = n) (hm : n ≤ 9223372036854775807) (hr : Rds w (fun _ => False) A (ss.map Value.string)) :
    Calls Tryz.prog 5 #[.string f, .slice A n c, .string by_, .int .i64 k, .agg #[.int .i64 m, .int .i64 s, .int .i64 i], .int .i64 at_, .int .u8 (ib add), .int .i64 fewer] w fun e w' => e = .returned (.bool true) ∧ Below w.heap.size w w' := by
  by_cases h : fewB f ss = true ∧ by_.size ≤ 100 ∧ 0 ≤ k ∧ k ≤ 2147483647 ∧ TokOK m s i
  · exact forged_few f n c A ss by_ k m s i at_ add fewer w ht hl hm hr h.1 h.2.1 h.2.2.1 h.2.2.2.1 h.2.2.2.2 lo5 up5 lo7 up7
  · exact forged_long f n c A ss by_ k m s i at_ add fewer w ht hl hm hr h
end Go.Proofs
