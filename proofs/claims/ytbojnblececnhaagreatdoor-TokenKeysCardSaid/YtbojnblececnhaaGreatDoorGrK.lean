/-
  The walk of TokenKeys.
-/
import Derived.BigQuiet
import Derived.Deep.RegionHeldLaw
import Derived.Deep.CutRange
import Derived.Test.YtbojnblececnhaaGreatDoorGrI
namespace Go.Proofs
open Go.RowKit Go.Shelf Sm
/-- keys of the document behind a turn that may be refused -/
def Sm.turnD (d : Kd) (x : ByteArray) : Kd := if 1 ≤ x.size ∧ x.size ≤ 64 then d.turn x else d
def Sm.turnN (x : ByteArray) : Int := if 1 ≤ x.size ∧ x.size ≤ 64 then 0 else 2
theorem Sm.turnD_ok {d : Kd} {j : Nat} (h : d.OK j) (x : ByteArray) : (turnD d x).OK (j + 1) := by
  unfold turnD
  by_cases hv : 1 ≤ x.size ∧ x.size ≤ 64
  · rw [if_pos hv]; exact Kd.turn_ok h hv.1 hv.2
  · rw [if_neg hv]; exact Kd.more h
theorem Sm.refTurn_any (d : Kd) (j c : Nat) (A : Option Addr) (x : ByteArray) (w : World) (S : Nat → Prop) (hd : d.OK j) (hj : j ≤ 1000) (hr : Rds w S A (d.ms.map Value.string)) :
    Calls Tryz.prog 22 #[.agg #[.int .i64 d.first, .slice A d.ms.length c], .string x] w fun e w' => ∃ A' c', e = .returned (.tuple #[.agg #[.int .i64 (turnD d x).first, .slice A' (turnD d x).ms.length c'], .int .i64 (turnN x)]) ∧ Rds w' (fun b => S b ∧ b < w.heap.size) A' ((turnD d x).ms.map Value.string) ∧ Below w.heap.size w w' := by
  unfold turnD turnN
  by_cases hv : 1 ≤ x.size ∧ x.size ≤ 64
  · simp only [if_pos hv]
    refine (refTurn_ok d j c A x w hd hj hv.1 hv.2 (hr.weaker (fun _ h => h.elim))).mono ?_
    rintro e w' ⟨⟨A', c', rfl, hrd⟩, hb⟩
    exact ⟨A', c', rfl, hrd.weaker (fun q hq => hq.2), hb⟩
  · simp only [if_neg hv]
    refine (refTurn_no d.first d.ms.length c A x w hv).mono ?_
    rintro e w' ⟨rfl, hb⟩
    exact ⟨A, c, rfl, (hr.below hb).weaker (fun q hq => hq.1), hb⟩
theorem Sm.KTurn_any (x : ByteArray) (B : Nat) (d : Kd) (j : Nat) (w : World) (hx : x.size ≤ 1000) (hd : d.OK j) (hj : j ≤ 1000) (hK : KeyAt w B d.pt) :
    Calls Tryz.prog 13 #[.pointer (some ⟨B, 0, none⟩), .string x] w fun e w' => e = .returned (.int .i64 (turnN x)) ∧ KeyAt w' B (turnD d x).pt ∧ But (fun q => q = B) w w' := by
  have hn := Kd.num hd
  have h1 := hd.lo
  have h2 := hd.hi
  have h3 := hd.some
  unfold turnD turnN
  by_cases hv : 1 ≤ x.size ∧ x.size ≤ 64
  · simp only [if_pos hv]
    refine (Turn_ok x B d.pt w hv.1 hv.2 hK (Kd.there hd) (by rw [hn]; omega) (by rw [hn]; omega)).mono ?_
    rintro e w' ⟨rfl, hk, hb⟩
    rw [Kd.turn_pt hd]
    exact ⟨rfl, hk, hb⟩
  · simp only [if_neg hv]
    refine (Turn_arg x B d.pt w (by omega) hv hK (Kd.there hd) (by rw [hn]; omega) (by rw [hn]; omega)).mono ?_
    rintro e w' ⟨rfl, hb⟩
    exact ⟨rfl, Blk.keep hK hb, But.of_all hb _⟩
theorem Sm.sameK_comm (k k' : Kpt) : sameK k k' = sameK k' k := by
  rw [Bool.eq_iff_iff, sameK_iff, sameK_iff]
  exact ⟨Eq.symm, Eq.symm⟩
theorem Sm.few2_any (one two : ByteArray) (w : World) : Calls Tryz.prog 7 #[.string one, .slice (some ⟨w.heap.size, 0, none⟩) 1 1] (w.alloc (.cells #[.string two] 9)) fun e w' => e = .returned (.bool (fewB one [two])) ∧ w.alloc (.cells #[.string two] 9) = w' :=
  few_any one 1 1 (some ⟨w.heap.size, 0, none⟩) [two] (w.alloc (.cells #[.string two] 9)) rfl (by decide) (fun _ => ⟨w.heap.size, 0, rfl, by simp, fun h => h, fun j c hj => by
    match j, hj with
    | 0, hj =>
      simp at hj
      subst hj
      simp [go_sem]⟩)
set_option maxRecDepth 100000 in
set_option maxHeartbeats 2000000 in
theorem Sm.keys_long (f : ByteArray) (n c : Nat) (A : Option Addr) (ss : List ByteArray) (one two : ByteArray) (w : World) (ht : Tabs w) (hl : ss.length = n) (hm : n ≤ 9223372036854775807) (hr : Rds w (fun _ => False) A (ss.map Value.string)) (hno : ¬ (fewB f ss = true ∧ fewB one [two] = true)) :
    Calls Tryz.prog 6 #[.string f, .slice A n c, .string one, .string two] w fun e w' => e = .returned (.bool true) ∧ Below w.heap.size w w' := by
  have hfw := few_any f n c A ss w hl hm hr
  have hf2 := few2_any one two w
  have hba : Below w.heap.size w (w.alloc (.cells #[.string two] 9)) := (Below.refl _ _).alloc (Nat.le_refl _) _
  have HWK := Lib.hid (works_any w ht)
  have HWA := Lib.hid (works_any _ (ht.keep hba))
  have HBA := Lib.hid hba
  by_cases g1 : fewB f ss = true
  · rw [g1] at hfw
    rw [show fewB one [two] = false by cases h : fewB one [two]; rfl; exact absurd ⟨g1, h⟩ hno] at hf2
    have HFW := Lib.hid hfw
    have HF2 := Lib.hid hf2
    clear hfw hf2 hba hno g1 ht hr hl
    go_enter Tryz.func6, Tryz.ntmps6
    go_wp2_with (first
      | (go_at_call 7; (with_reducible refine HFW.out.mono ?_); rintro e w2 ⟨rfl, rfl⟩)
      | (go_at_call 7; (with_reducible refine HF2.out.mono ?_); rintro e w2 ⟨rfl, rfl⟩)
      | (go_at_call 8; (with_reducible refine HWA.out.mono ?_); rintro e w8 ⟨rfl, hb8⟩))
    go_ret
    exact ⟨rfl, HBA.out.trans (hb8.mono HBA.out.size)⟩
  · rw [show fewB f ss = false by simpa using g1] at hfw
    have HFW := Lib.hid hfw
    clear hfw hf2 hba hno g1 ht hr hl
    go_enter Tryz.func6, Tryz.ntmps6
    go_wp2_with (first
      | (go_at_call 7; (with_reducible refine HFW.out.mono ?_); rintro e w2 ⟨rfl, rfl⟩)
      | (go_at_call 8; (with_reducible refine HWK.out.mono ?_); rintro e w8 ⟨rfl, hb8⟩))
    go_ret
    exact ⟨rfl, hb8⟩
set_option maxRecDepth 100000 in
set_option maxHeartbeats 4000000 in
theorem Sm.keys_few (f : ByteArray) (n c : Nat) (A : Option Addr) (ss : List ByteArray) (one two : ByteArray) (w : World) (ht : Tabs w) (hl : ss.length = n) (hm : n ≤ 9223372036854775807) (hr : Rds w (fun _ => False) A (ss.map Value.string)) (hfew : fewB f ss = true) (hfew2 : fewB one [two] = true) :
    Calls Tryz.prog 6 #[.string f, .slice A n c, .string one, .string two] w fun e w' => e = .returned (.bool true) ∧ Below w.heap.size w w' := by
  obtain ⟨W1, hW1⟩ : ∃ x, w.alloc (.cells #[.string two] 9) = x := ⟨_, rfl⟩
  have hb1 : Below w.heap.size w W1 := by rw [← hW1]; exact (Below.refl _ w).alloc (Nat.le_refl _) _
  have hfw := few_any f n c A ss w hl hm hr
  have hf2 := few2_any one two w
  rw [hfew] at hfw
  rw [hfew2] at hf2
  have ho1 : one.size ≤ 1000 := by have := (few_parts hfew2).2.1; omega
  have ho2 : two.size ≤ 1000 := by have := (few_parts hfew2).1 two (by simp); omega
  have HFW := Lib.hid hfw
  have HF2 := Lib.hid hf2
  have HTN := Lib.hid (turnedK_any f n c A ss W1 hl hfew (Rds.below hr hb1))
  have HT := Lib.hid ht
  have HB1 := Lib.hid hb1
  have HW1 := Lib.hid hW1
  clear hfw hf2 hr hl hfew hfew2 ht hb1 hW1
  go_enter Tryz.func6, Tryz.ntmps6
  go_upto_region 3 with (first
    | (go_at_call 7; (with_reducible refine HFW.out.mono ?_); rintro e w2 ⟨rfl, rfl⟩)
    | (go_at_call 7; (with_reducible refine HF2.out.mono ?_); rintro e w2 ⟨rfl, rfl⟩))
  rw [HW1.out]
  clear HFW HF2
  go_upto_region 4 with (go_at_call 9; (with_reducible refine HTN.out.mono ?_); rintro e w3 ⟨p, f0, A0, n0, c0, rfl, HH, hb3⟩)
  obtain ⟨B10, hB10⟩ : ∃ b, w3.heap.size = b := ⟨_, rfl⟩
  obtain ⟨W4, hW4⟩ : ∃ v, w3.alloc (.cells #[.int .i64 f0, .slice A0 n0 c0] 29) = v := ⟨_, rfl⟩
  have hb34 : Below w3.heap.size w3 W4 := by rw [← hW4]; exact (Below.refl _ _).alloc (Nat.le_refl _) _
  have hb14 : Below W1.heap.size W1 W4 := hb3.trans (hb34.mono hb3.size)
  have HB34 := Lib.hid hb34
  have HB4 := Lib.hid (HB1.out.trans (hb14.mono HB1.out.size))
  have H10 := Lib.hid (show Blk W4 B10 29 #[.int .i64 f0, .slice A0 n0 c0] by rw [← hW4, ← hB10]; exact Blk.new w3 29 _)
  have hz3 : w3.heap.size ≤ W4.heap.size := hb34.size
  have HZ := Lib.hid (And.intro hB10 hz3)
  rw [hW4, hB10]
  clear hW4 hB10 hb34 hb14 hb3 HTN hz3
  have HWK4 := Lib.hid (works_any W4 (HT.out.keep HB4.out))
  rcases HH.out with rfl | ⟨B, d, j, rfl, rfl, rfl, hj, hok, hk, hBl, hrow⟩
  · clear HH
    go_wp2_with (go_at_call 8; (with_reducible refine HWK4.out.mono ?_); rintro e w20 ⟨rfl, hb20⟩)
    go_ret
    exact ⟨rfl, HB4.out.trans (hb20.mono HB4.out.size)⟩
  · have hk4 : KeyAt W4 B d.pt := Blk.keep hk HB34.out
    have hB3 := Blk.lt hk
    have HK4 := Lib.hid hk4
    have HOK := Lib.hid hok
    have HROW := Lib.hid (hrow.rowOf.below HB34.out)
    have HCP := Lib.hid (KCopy_ok W4 B d.pt hk4 (Kd.there hok))
    have hBW : w.heap.size ≤ B := by have := HB1.out.size; omega
    clear HH hk hk4 hrow hok HWK4
    go_upto_region 7 with (go_at_call 15; (with_reducible refine HCP.out.mono ?_); rintro e w6 ⟨Bc, rfl, hBc, hkc, hb6⟩)
    have hkb6 : KeyAt w6 B d.pt := Blk.keep HK4.out hb6
    have HS1 := Lib.hid (KSame_any w6 (.pointer (some ⟨B, 0, none⟩)) (.pointer (some ⟨Bc, 0, none⟩)) d.pt d.pt (.inr ⟨B, rfl, hkb6⟩) (.inr ⟨Bc, rfl, hkc⟩))
    rw [sameK_refl] at HS1
    have HB6 := Lib.hid hb6
    have HKB := Lib.hid (And.intro hkb6 hkc)
    clear hb6 hkb6 hkc HCP
    go_upto_region 9 with (go_at_call 16; (with_reducible refine HS1.out.mono ?_); rintro e w7 ⟨rfl, hb7⟩)
    have HB47 := Lib.hid (HB6.out.trans (hb7.mono HB6.out.size))
    have HK7 := Lib.hid (And.intro (Blk.keep HKB.out.1 hb7) (Blk.keep HKB.out.2 hb7))
    clear hb7 HS1 HKB HB6
    have h10 := H10.out.keep HB47.out
    have c0' := h10.cell 0
    have c1' := h10.cell 1
    simp only [List.getElem?_toArray, List.getElem?_cons_zero, List.getElem?_cons_succ] at c0' c1'
    clear h10
    have hzz := HZ.out
    have hBn : B ≠ Bc := by omega
    have hR7 : Rds w7 (fun b => b = B ∨ w3.heap.size ≤ b) A0 (d.ms.map Value.string) := HROW.out.below HB47.out
    have HTA := Lib.hid (refTurn_any d j c0 A0 one w7 _ HOK.out (by omega) hR7)
    have HOKA := Lib.hid (turnD_ok HOK.out one)
    have HOKB := Lib.hid (turnD_ok HOK.out two)
    have HSA := Lib.hid (sameK_doc (turnD_ok HOK.out one) HOK.out)
    have HSB := Lib.hid (sameK_doc (turnD_ok HOK.out one) (turnD_ok HOK.out two))
    have HKT1 : Hid (∀ W : World, KeyAt W B d.pt → Calls Tryz.prog 13 #[.pointer (some ⟨B, 0, none⟩), .string one] W fun e w' => e = .returned (.int .i64 (turnN one)) ∧ KeyAt w' B (turnD d one).pt ∧ But (fun q => q = B) W w') := Lib.hid (fun W hk => KTurn_any one B d j W ho1 HOK.out (by omega) hk)
    have HKT2 : Hid (∀ W : World, KeyAt W Bc d.pt → Calls Tryz.prog 13 #[.pointer (some ⟨Bc, 0, none⟩), .string two] W fun e w' => e = .returned (.int .i64 (turnN two)) ∧ KeyAt w' Bc (turnD d two).pt ∧ But (fun q => q = Bc) W w') := Lib.hid (fun W hk => KTurn_any two Bc d j W ho2 HOK.out (by omega) hk)
    have HTB : Hid (∀ W : World, Below w7.heap.size w7 W → Calls Tryz.prog 22 #[.agg #[.int .i64 d.first, .slice A0 d.ms.length c0], .string two] W fun e w' => ∃ A' c', e = .returned (.tuple #[.agg #[.int .i64 (turnD d two).first, .slice A' (turnD d two).ms.length c'], .int .i64 (turnN two)]) ∧ Rds w' (fun b => (b = B ∨ w3.heap.size ≤ b) ∧ b < W.heap.size) A' ((turnD d two).ms.map Value.string) ∧ Below W.heap.size W w') := Lib.hid (fun W hb => refTurn_any d j c0 A0 two W _ HOK.out (by omega) (hR7.below hb))
    obtain ⟨na, hna⟩ : ∃ x, turnN one = x := ⟨_, rfl⟩
    obtain ⟨nb, hnb⟩ : ∃ x, turnN two = x := ⟨_, rfl⟩
    obtain ⟨da, hda⟩ : ∃ x, turnD d one = x := ⟨_, rfl⟩
    obtain ⟨db, hdb⟩ : ∃ x, turnD d two = x := ⟨_, rfl⟩
    rw [hna, hda] at HTA HKT1
    rw [hnb, hdb] at HTB HKT2
    rw [hda] at HOKA HSA HSB
    rw [hdb] at HOKB HSB
    have hlB := Blk.lt HK7.out.1
    have hlC := Blk.lt HK7.out.2
    clear hR7 hna hnb hda hdb
    go_upto_region 10 with (go_at_call 22; (with_reducible refine HTA.out.mono ?_); rintro e w9 ⟨Aa, ca, rfl, hra, hb9⟩)
    obtain ⟨Ba, hBa⟩ : ∃ b, w9.heap.size = b := ⟨_, rfl⟩
    obtain ⟨W9, hW9⟩ : ∃ v, w9.alloc (.cells #[.int .i64 da.first, .slice Aa da.ms.length ca] 29) = v := ⟨_, rfl⟩
    have hb99 : Below w9.heap.size w9 W9 := by rw [← hW9]; exact (Below.refl _ _).alloc (Nat.le_refl _) _
    have hb79 : Below w7.heap.size w7 W9 := hb9.trans (hb99.mono hb9.size)
    have Ha := Lib.hid (show Blk W9 Ba 29 #[.int .i64 da.first, .slice Aa da.ms.length ca] by rw [← hW9, ← hBa]; exact Blk.new w9 29 _)
    have HRA := Lib.hid (hra.rowOf.below hb99)
    have HB79 := Lib.hid hb79
    have hlBa : Ba < W9.heap.size := Ha.out.lt
    have hBa7 : w7.heap.size ≤ Ba := by rw [← hBa]; exact hb9.size
    have h10 := H10.out.keep (HB47.out.trans (hb79.mono HB47.out.size))
    have c0'' := h10.cell 0
    have c1'' := h10.cell 1
    simp only [List.getElem?_toArray, List.getElem?_cons_zero, List.getElem?_cons_succ] at c0'' c1''
    have HTB9 := Lib.hid (HTB.out W9 hb79)
    have hw9Ba := hBa
    rw [hW9, hBa]
    clear hW9 hb99 hb79 hb9 hra h10 HTA HTB c0' c1'
    go_upto_region 11 with (go_at_call 22; (with_reducible refine HTB9.out.mono ?_); rintro e w10 ⟨Ab, cb, rfl, hrb, hb10⟩)
    obtain ⟨Bb, hBb⟩ : ∃ b, w10.heap.size = b := ⟨_, rfl⟩
    obtain ⟨W10, hW10⟩ : ∃ v, w10.alloc (.cells #[.int .i64 db.first, .slice Ab db.ms.length cb] 29) = v := ⟨_, rfl⟩
    have hbx : Below w10.heap.size w10 W10 := by rw [← hW10]; exact (Below.refl _ _).alloc (Nat.le_refl _) _
    have hb910 : Below W9.heap.size W9 W10 := hb10.trans (hbx.mono hb10.size)
    have Hb := Lib.hid (show Blk W10 Bb 29 #[.int .i64 db.first, .slice Ab db.ms.length cb] by rw [← hW10, ← hBb]; exact Blk.new w10 29 _)
    have HRB := Lib.hid (hrb.rowOf.below hbx)
    have HRA10 := Lib.hid (HRA.out.below hb910)
    have hBb9 : W9.heap.size ≤ Bb := by rw [← hBb]; exact hb10.size
    have hb710 : Below w7.heap.size w7 W10 := HB79.out.trans (hb910.mono HB79.out.size)
    have HB710 := Lib.hid hb710
    have HB410 := Lib.hid (HB47.out.trans (hb710.mono HB47.out.size))
    have HK10 := Lib.hid (And.intro (Blk.keep HK7.out.1 hb710) (Blk.keep HK7.out.2 hb710))
    have HA10 := Lib.hid (Ha.out.keep hb910)
    have HROW10 := Lib.hid ((HROW.out.below HB47.out).below hb710)
    rw [hW10, hBb]
    have hz9 : w9.heap.size = Ba := hw9Ba
    have hz10 : w10.heap.size = Bb := hBb
    clear hW10 hBb hbx hb910 hb10 hrb hb710 HTB9 c0'' c1'' HRA Ha HK7 hw9Ba
    have hlC10 : Bc < W10.heap.size := Blk.lt HK10.out.2
    have hlB10 : B < W10.heap.size := Blk.lt HK10.out.1
    have hw7 : w7.heap.size ≤ W10.heap.size := HB710.out.size
    have hBcW : w.heap.size ≤ Bc := by have := HB4.out.size; omega
    have HLB : Hid ((B10 ≠ B ∧ B10 ≠ Bc) ∧ (Ba ≠ B ∧ Ba ≠ Bc) ∧ Bb ≠ B ∧ Bb ≠ Bc) := Lib.hid (by have := H10.out.lt; omega)
    have hS : ∀ W : World, But (fun q => q = B ∨ q = Bc) W10 W → W.cell? ⟨B10, 0, none⟩ = some (.int .i64 d.first) ∧ W.cell? ⟨B10, 1, none⟩ = some (.slice A0 d.ms.length c0) ∧ W.cell? ⟨Ba, 0, none⟩ = some (.int .i64 da.first) ∧ W.cell? ⟨Ba, 1, none⟩ = some (.slice Aa da.ms.length ca) ∧ W.cell? ⟨Bb, 0, none⟩ = some (.int .i64 db.first) ∧ W.cell? ⟨Bb, 1, none⟩ = some (.slice Ab db.ms.length cb) := fun W hb => by
      obtain ⟨⟨n1, n2⟩, ⟨n3, n4⟩, n5, n6⟩ := HLB.out
      have h1 : Blk W B10 29 #[.int .i64 d.first, .slice A0 d.ms.length c0] := (H10.out.keep HB410.out).but hb (fun h => by rcases h with h | h; exact n1 h; exact n2 h)
      have h2 : Blk W Ba 29 #[.int .i64 da.first, .slice Aa da.ms.length ca] := HA10.out.but hb (fun h => by rcases h with h | h; exact n3 h; exact n4 h)
      have h3 : Blk W Bb 29 #[.int .i64 db.first, .slice Ab db.ms.length cb] := Hb.out.but hb (fun h => by rcases h with h | h; exact n5 h; exact n6 h)
      exact ⟨h1.cell 0, h1.cell 1, h2.cell 0, h2.cell 1, h3.cell 0, h3.cell 1⟩
    have hra : ∀ W : World, But (fun q => q = B ∨ q = Bc) W10 W → Rds W (fun _ => False) Aa (da.ms.map Value.string) := fun W hb => ((HRA10.out.weaker (S' := fun q => q = B ∨ q = Bc) (fun q hq => .inl (by rcases hq with rfl | rfl; exact ⟨.inl rfl, hlB⟩; exact ⟨.inr (by omega), hlC⟩))).but hb (fun _ h => h)).weaker (fun _ h => h.elim)
    have hrb : ∀ W : World, But (fun q => q = B ∨ q = Bc) W10 W → Rds W (fun _ => False) Ab (db.ms.map Value.string) := fun W hb => ((HRB.out.weaker (S' := fun q => q = B ∨ q = Bc) (fun q hq => .inl (by rcases hq with rfl | rfl; exact ⟨.inl rfl, by omega⟩; exact ⟨.inr (by omega), by omega⟩))).but hb (fun _ h => h)).weaker (fun _ h => h.elim)
    have hr0 : ∀ W : World, But (fun q => q = B ∨ q = Bc) W10 W → Rds W (fun _ => False) A0 (d.ms.map Value.string) := fun W hb => ((HROW10.out.weaker (S' := fun q => q = B ∨ q = Bc) (fun q hq => by rcases hq with rfl | rfl; exact .inl rfl; exact .inr (by omega))).but hb (fun _ h => h)).weaker (fun _ h => h.elim)
    have hC1 : ∀ W : World, Below W10.heap.size W10 W → Calls Tryz.prog 13 #[.pointer (some ⟨B, 0, none⟩), .string one] W fun e w' => e = .returned (.int .i64 na) ∧ (w'.cell? ⟨B10, 0, none⟩ = some (.int .i64 d.first) ∧ w'.cell? ⟨B10, 1, none⟩ = some (.slice A0 d.ms.length c0) ∧ w'.cell? ⟨Ba, 0, none⟩ = some (.int .i64 da.first) ∧ w'.cell? ⟨Ba, 1, none⟩ = some (.slice Aa da.ms.length ca) ∧ w'.cell? ⟨Bb, 0, none⟩ = some (.int .i64 db.first) ∧ w'.cell? ⟨Bb, 1, none⟩ = some (.slice Ab db.ms.length cb)) ∧ Hid (KeyAt w' B da.pt ∧ KeyAt w' Bc d.pt ∧ But (fun q => q = B ∨ q = Bc) W10 w') := fun W hb => by
      refine (HKT1.out W (Blk.keep HK10.out.1 hb)).mono ?_
      rintro e w' ⟨rfl, hk, hbt⟩
      have hF := (But.of_all hb (fun q => q = B ∨ q = Bc)).trans hbt (fun _ _ e => .inl e)
      exact ⟨rfl, hS _ hF, Lib.hid ⟨hk, Blk.but (Blk.keep HK10.out.2 hb) hbt (fun e => hBn e.symm), hF⟩⟩
    obtain ⟨r1, hr1⟩ : ∃ r, sameK da.pt d.pt = r := ⟨_, rfl⟩
    obtain ⟨r2, hr2⟩ : ∃ r, sameK da.pt db.pt = r := ⟨_, rfl⟩
    have hC2 : ∀ W : World, Hid (KeyAt W B da.pt ∧ KeyAt W Bc d.pt ∧ But (fun q => q = B ∨ q = Bc) W10 W) → Calls Tryz.prog 16 #[.pointer (some ⟨B, 0, none⟩), .pointer (some ⟨Bc, 0, none⟩)] W fun e w' => e = .returned (.bool r1) ∧ (w'.cell? ⟨B10, 0, none⟩ = some (.int .i64 d.first) ∧ w'.cell? ⟨B10, 1, none⟩ = some (.slice A0 d.ms.length c0) ∧ w'.cell? ⟨Ba, 0, none⟩ = some (.int .i64 da.first) ∧ w'.cell? ⟨Ba, 1, none⟩ = some (.slice Aa da.ms.length ca) ∧ w'.cell? ⟨Bb, 0, none⟩ = some (.int .i64 db.first) ∧ w'.cell? ⟨Bb, 1, none⟩ = some (.slice Ab db.ms.length cb)) ∧ Hid (KeyAt w' B da.pt ∧ KeyAt w' Bc d.pt ∧ But (fun q => q = B ∨ q = Bc) W10 w') := fun W hP => by
      refine (KSame_any W _ _ da.pt d.pt (.inr ⟨B, rfl, hP.out.1⟩) (.inr ⟨Bc, rfl, hP.out.2.1⟩)).mono ?_
      rintro e w' ⟨rfl, hb⟩
      have hF := hP.out.2.2.trans (But.of_all hb (fun q => q = B ∨ q = Bc)) (fun _ _ e => e)
      exact ⟨by rw [hr1], hS _ hF, Lib.hid ⟨Blk.keep hP.out.1 hb, Blk.keep hP.out.2.1 hb, hF⟩⟩
    have hC3 : ∀ W : World, Hid (KeyAt W B da.pt ∧ KeyAt W Bc d.pt ∧ But (fun q => q = B ∨ q = Bc) W10 W) → Calls Tryz.prog 23 #[.agg #[.int .i64 da.first, .slice Aa da.ms.length ca], .agg #[.int .i64 d.first, .slice A0 d.ms.length c0]] W fun e w' => e = .returned (.bool r1) ∧ (w'.cell? ⟨B10, 0, none⟩ = some (.int .i64 d.first) ∧ w'.cell? ⟨B10, 1, none⟩ = some (.slice A0 d.ms.length c0) ∧ w'.cell? ⟨Ba, 0, none⟩ = some (.int .i64 da.first) ∧ w'.cell? ⟨Ba, 1, none⟩ = some (.slice Aa da.ms.length ca) ∧ w'.cell? ⟨Bb, 0, none⟩ = some (.int .i64 db.first) ∧ w'.cell? ⟨Bb, 1, none⟩ = some (.slice Ab db.ms.length cb)) ∧ Hid (KeyAt w' B da.pt ∧ KeyAt w' Bc d.pt ∧ But (fun q => q = B ∨ q = Bc) W10 w') := fun W hP => by
      have ha := HOKA.out
      have h0 := HOK.out
      refine (refSame_any da.first d.first _ ca _ c0 Aa A0 da.ms d.ms W rfl rfl ha.some h0.some (by have := ha.most; omega) (by have := h0.most; omega) (hra _ hP.out.2.2) (hr0 _ hP.out.2.2)).mono ?_
      rintro e w' ⟨rfl, hb⟩
      have hF := hP.out.2.2.trans (But.of_all hb (fun q => q = B ∨ q = Bc)) (fun _ _ e => e)
      exact ⟨by rw [← hr1, HSA.out], hS _ hF, Lib.hid ⟨Blk.keep hP.out.1 hb, Blk.keep hP.out.2.1 hb, hF⟩⟩
    have hC4 : ∀ W : World, Hid (KeyAt W B da.pt ∧ KeyAt W Bc d.pt ∧ But (fun q => q = B ∨ q = Bc) W10 W) → Calls Tryz.prog 13 #[.pointer (some ⟨Bc, 0, none⟩), .string two] W fun e w' => e = .returned (.int .i64 nb) ∧ (w'.cell? ⟨B10, 0, none⟩ = some (.int .i64 d.first) ∧ w'.cell? ⟨B10, 1, none⟩ = some (.slice A0 d.ms.length c0) ∧ w'.cell? ⟨Ba, 0, none⟩ = some (.int .i64 da.first) ∧ w'.cell? ⟨Ba, 1, none⟩ = some (.slice Aa da.ms.length ca) ∧ w'.cell? ⟨Bb, 0, none⟩ = some (.int .i64 db.first) ∧ w'.cell? ⟨Bb, 1, none⟩ = some (.slice Ab db.ms.length cb)) ∧ Hid (KeyAt w' B da.pt ∧ KeyAt w' Bc db.pt ∧ But (fun q => q = B ∨ q = Bc) W10 w') := fun W hP => by
      refine (HKT2.out W hP.out.2.1).mono ?_
      rintro e w' ⟨rfl, hk, hbt⟩
      have hF := hP.out.2.2.trans hbt (fun _ _ e => .inr e)
      exact ⟨rfl, hS _ hF, Lib.hid ⟨Blk.but hP.out.1 hbt hBn, hk, hF⟩⟩
    have hC5 : ∀ W : World, Hid (KeyAt W B da.pt ∧ KeyAt W Bc db.pt ∧ But (fun q => q = B ∨ q = Bc) W10 W) → Calls Tryz.prog 16 #[.pointer (some ⟨Bc, 0, none⟩), .pointer (some ⟨B, 0, none⟩)] W fun e w' => e = .returned (.bool r2) ∧ (w'.cell? ⟨B10, 0, none⟩ = some (.int .i64 d.first) ∧ w'.cell? ⟨B10, 1, none⟩ = some (.slice A0 d.ms.length c0) ∧ w'.cell? ⟨Ba, 0, none⟩ = some (.int .i64 da.first) ∧ w'.cell? ⟨Ba, 1, none⟩ = some (.slice Aa da.ms.length ca) ∧ w'.cell? ⟨Bb, 0, none⟩ = some (.int .i64 db.first) ∧ w'.cell? ⟨Bb, 1, none⟩ = some (.slice Ab db.ms.length cb)) ∧ Hid (KeyAt w' B da.pt ∧ KeyAt w' Bc db.pt ∧ But (fun q => q = B ∨ q = Bc) W10 w') := fun W hP => by
      refine (KSame_any W _ _ db.pt da.pt (.inr ⟨Bc, rfl, hP.out.2.1⟩) (.inr ⟨B, rfl, hP.out.1⟩)).mono ?_
      rintro e w' ⟨rfl, hb⟩
      have hF := hP.out.2.2.trans (But.of_all hb (fun q => q = B ∨ q = Bc)) (fun _ _ e => e)
      exact ⟨by rw [sameK_comm, hr2], hS _ hF, Lib.hid ⟨Blk.keep hP.out.1 hb, Blk.keep hP.out.2.1 hb, hF⟩⟩
    have hC6 : ∀ W : World, Hid (KeyAt W B da.pt ∧ KeyAt W Bc db.pt ∧ But (fun q => q = B ∨ q = Bc) W10 W) → Calls Tryz.prog 23 #[.agg #[.int .i64 da.first, .slice Aa da.ms.length ca], .agg #[.int .i64 db.first, .slice Ab db.ms.length cb]] W fun e w' => e = .returned (.bool r2) ∧ (w'.cell? ⟨B10, 0, none⟩ = some (.int .i64 d.first) ∧ w'.cell? ⟨B10, 1, none⟩ = some (.slice A0 d.ms.length c0) ∧ w'.cell? ⟨Ba, 0, none⟩ = some (.int .i64 da.first) ∧ w'.cell? ⟨Ba, 1, none⟩ = some (.slice Aa da.ms.length ca) ∧ w'.cell? ⟨Bb, 0, none⟩ = some (.int .i64 db.first) ∧ w'.cell? ⟨Bb, 1, none⟩ = some (.slice Ab db.ms.length cb)) ∧ Hid (KeyAt w' B da.pt ∧ KeyAt w' Bc db.pt ∧ But (fun q => q = B ∨ q = Bc) W10 w') := fun W hP => by
      have ha := HOKA.out
      have h0 := HOKB.out
      refine (refSame_any da.first db.first _ ca _ cb Aa Ab da.ms db.ms W rfl rfl ha.some h0.some (by have := ha.most; omega) (by have := h0.most; omega) (hra _ hP.out.2.2) (hrb _ hP.out.2.2)).mono ?_
      rintro e w' ⟨rfl, hb⟩
      have hF := hP.out.2.2.trans (But.of_all hb (fun q => q = B ∨ q = Bc)) (fun _ _ e => e)
      exact ⟨by rw [← hr2, HSB.out], hS _ hF, Lib.hid ⟨Blk.keep hP.out.1 hb, Blk.keep hP.out.2.1 hb, hF⟩⟩
    have C1 := Lib.hid hC1
    have C2 := Lib.hid hC2
    have C3 := Lib.hid hC3
    have C4 := Lib.hid hC4
    have C5 := Lib.hid hC5
    have C6 := Lib.hid hC6
    have RA := Lib.hid hra
    have RB := Lib.hid hrb
    have s0 := hS W10.drew (But.refl _ W10).drew
    have b0 : Below W10.heap.size W10 W10.drew := (Below.refl _ _).drew
    have HS := Lib.hid hS
    have HBS : Hid ((w.heap.size ≤ B ∧ w.heap.size ≤ Bc) ∧ Below w.heap.size w W10) := Lib.hid ⟨⟨hBW, hBcW⟩, HB4.out.trans (HB410.out.mono HB4.out.size)⟩
    clear hC1 hC2 hC3 hC4 hC5 hC6 hra hrb hr0 hS hr1 hr2 HKT1 HKT2 HSA HSB HRA10 HRB HROW10 hz9 hz10 hBa hzz HZ HLB H10 Hb HA10 HROW HK4 HB34 HB47 HB79 HB710 HB410 HK10
    go_cut [96] from 65 to 96 (fun s96 wx => s96 = .bool false ∧ Hid (KeyAt wx B da.pt ∧ KeyAt wx Bc db.pt ∧ But (fun q => q = B ∨ q = Bc) W10 wx))
    case first =>
      go_region_held_law (fun W => W.cell? ⟨B10, 0, none⟩ = some (.int .i64 d.first) ∧ W.cell? ⟨B10, 1, none⟩ = some (.slice A0 d.ms.length c0) ∧ W.cell? ⟨Ba, 0, none⟩ = some (.int .i64 da.first) ∧ W.cell? ⟨Ba, 1, none⟩ = some (.slice Aa da.ms.length ca) ∧ W.cell? ⟨Bb, 0, none⟩ = some (.int .i64 db.first) ∧ W.cell? ⟨Bb, 1, none⟩ = some (.slice Ab db.ms.length cb))
        (first | exact s94 | exact s91 | exact s83 | exact s77 | exact s74 | exact s67 | exact s0)
        (first
          | (go_at_call 13; (with_reducible refine (C1.out _ b0).mono ?_); rintro e w67 ⟨rfl, s67, p67⟩)
          | (go_at_call 12; (with_reducible refine (num_any _ _).mono ?_); rintro e w5 ⟨rfl, rfl⟩)
          | (go_at_call 16; (with_reducible refine (C2.out _ p67).mono ?_); rintro e w74 ⟨rfl, s74, p74⟩)
          | (go_at_call 23; (with_reducible refine (C3.out _ p74).mono ?_); rintro e w77 ⟨rfl, s77, p77⟩)
          | (go_at_call 13; (with_reducible refine (C4.out _ p77).mono ?_); rintro e w83 ⟨rfl, s83, p83⟩)
          | (go_at_call 16; (with_reducible refine (C5.out _ p83).mono ?_); rintro e w91 ⟨rfl, s91, p91⟩)
          | (go_at_call 23; (with_reducible refine (C6.out _ p91).mono ?_); rintro e w94 ⟨rfl, s94, p94⟩))
      all_goals go_wp2_with fail
      all_goals go_meet
      all_goals exact ⟨rfl, Lib.hid p94.out⟩
    case rest =>
      obtain ⟨W11, rfl⟩ : ∃ wo : World, wo = wc := ⟨_, rfl⟩
      obtain ⟨rfl, HP⟩ := hcut
      have hF := HP.out.2.2
      obtain ⟨z0, z1, z2, z3, z4, z5⟩ := HS.out W11 hF
      have hbw : Below w.heap.size w W11 := But.below HBS.out.2 hF (fun q e => by have := HBS.out.1; have e : q = B ∨ q = Bc := e; rcases e with rfl | rfl; exact this.1; exact this.2)
      obtain ⟨W12, hW12⟩ : ∃ v, W11.alloc (.cells #[.int .i64 1, .int .i64 2, .int .i64 3] 24) = v := ⟨_, rfl⟩
      obtain ⟨B17, hB17⟩ : ∃ b, W11.heap.size = b := ⟨_, rfl⟩
      have hb12 : Below W11.heap.size W11 W12 := by rw [← hW12]; exact (Below.refl _ _).alloc (Nat.le_refl _) _
      have H17 := Lib.hid (show Blk W12 B17 24 #[.int .i64 1, .int .i64 2, .int .i64 3] by rw [← hW12, ← hB17]; exact Blk.new W11 24 _)
      have HBW := Lib.hid (hbw.trans (hb12.mono hbw.size))
      have ha := HOKA.out
      have hb := HOKB.out
      have na0 := Kd.num ha
      have nb0 := Kd.num hb
      have hT : TokOK 1 2 3 := by decide
      have TA : Hid (∀ W : World, Below W12.heap.size W12 W → Calls Tryz.prog 10 #[.pointer (some ⟨B, 0, none⟩), .agg #[.int .i64 1, .int .i64 2, .int .i64 3]] W fun e w' => e = .returned (.tuple #[.string (strB (spellS (tokB da.pt.s0 da.pt.n0 1 2 3))), .int .i64 0]) ∧ Below W12.heap.size W12 w') := Lib.hid (fun W hw => (Make_ok B da.pt 1 2 3 W (Blk.keep (Blk.keep HP.out.1 hb12) hw) (HT.out.keep (HBW.out.trans (hw.mono HBW.out.size))) (Kd.there ha) (Kd.sizes ha).1 (by rw [na0]; have := ha.lo; have := ha.hi; have := ha.some; omega) hT).mono fun e w' ⟨h1, h2⟩ => ⟨h1, hw.trans (h2.mono hw.size)⟩)
      have TB : Hid (∀ W : World, Below W12.heap.size W12 W → Calls Tryz.prog 10 #[.pointer (some ⟨Bc, 0, none⟩), .agg #[.int .i64 1, .int .i64 2, .int .i64 3]] W fun e w' => e = .returned (.tuple #[.string (strB (spellS (tokB db.pt.s0 db.pt.n0 1 2 3))), .int .i64 0]) ∧ Below W12.heap.size W12 w') := Lib.hid (fun W hw => (Make_ok Bc db.pt 1 2 3 W (Blk.keep (Blk.keep HP.out.2.1 hb12) hw) (HT.out.keep (HBW.out.trans (hw.mono HBW.out.size))) (Kd.there hb) (Kd.sizes hb).1 (by rw [nb0]; have := hb.lo; have := hb.hi; have := hb.some; omega) hT).mono fun e w' ⟨h1, h2⟩ => ⟨h1, hw.trans (h2.mono hw.size)⟩)
      have UA : Hid (∀ W : World, Below W12.heap.size W12 W → Calls Tryz.prog 18 #[.agg #[.int .i64 da.first, .slice Aa da.ms.length ca], .agg #[.int .i64 1, .int .i64 2, .int .i64 3]] W fun e w' => e = .returned (.string (strB (spellS (tokB da.pt.s0 da.pt.n0 1 2 3)))) ∧ Below W12.heap.size W12 w') := Lib.hid (fun W hw => (refMake_any da (j + 1) ca Aa 1 2 3 W ha (by omega) (((RA.out _ hF).below hb12).below hw) (by decide) (by decide) (by decide)).mono fun e w' ⟨h1, h2⟩ => ⟨h1, hw.trans (h2.mono hw.size)⟩)
      have UB : Hid (∀ W : World, Below W12.heap.size W12 W → Calls Tryz.prog 18 #[.agg #[.int .i64 db.first, .slice Ab db.ms.length cb], .agg #[.int .i64 1, .int .i64 2, .int .i64 3]] W fun e w' => e = .returned (.string (strB (spellS (tokB db.pt.s0 db.pt.n0 1 2 3)))) ∧ Below W12.heap.size W12 w') := Lib.hid (fun W hw => (refMake_any db (j + 1) cb Ab 1 2 3 W hb (by omega) (((RB.out _ hF).below hb12).below hw) (by decide) (by decide) (by decide)).mono fun e w' ⟨h1, h2⟩ => ⟨h1, hw.trans (h2.mono hw.size)⟩)
      have WK : Hid (∀ W : World, Below W12.heap.size W12 W → Calls Tryz.prog 8 #[] W fun e w' => e = .returned (.bool true) ∧ Below W12.heap.size W12 w') := Lib.hid (fun W hw => (works_any W (HT.out.keep (HBW.out.trans (hw.mono HBW.out.size)))).mono fun e w' ⟨h1, h2⟩ => ⟨h1, hw.trans (h2.mono hw.size)⟩)
      have CC : Hid (∀ W : World, Below W12.heap.size W12 W → (W.cell? ⟨B17, 0, none⟩ = some (.int .i64 1) ∧ W.cell? ⟨B17, 1, none⟩ = some (.int .i64 2) ∧ W.cell? ⟨B17, 2, none⟩ = some (.int .i64 3)) ∧ W.cell? ⟨Ba, 0, none⟩ = some (.int .i64 da.first) ∧ W.cell? ⟨Ba, 1, none⟩ = some (.slice Aa da.ms.length ca) ∧ W.cell? ⟨Bb, 0, none⟩ = some (.int .i64 db.first) ∧ W.cell? ⟨Bb, 1, none⟩ = some (.slice Ab db.ms.length cb)) := Lib.hid (fun W hw => by
        have h17 := H17.out.keep hw
        have k : ∀ (q o : Nat) (u : Value), W11.cell? ⟨q, o, none⟩ = some u → W.cell? ⟨q, o, none⟩ = some u := fun q o u hu => by
          have hl := World.block_lt_of_cell? W11 _ hu
          have hl2 : q < W12.heap.size := Nat.lt_of_lt_of_le hl hb12.size
          exact ((hw.cell (p := ⟨q, o, none⟩) hl2).trans (hb12.cell (p := ⟨q, o, none⟩) hl)).trans hu
        exact ⟨⟨h17.cell 0, h17.cell 1, h17.cell 2⟩, k _ _ _ z2, k _ _ _ z3, k _ _ _ z4, k _ _ _ z5⟩)
      obtain ⟨SA, hSA⟩ : ∃ x, strB (spellS (tokB da.pt.s0 da.pt.n0 1 2 3)) = x := ⟨_, rfl⟩
      obtain ⟨SB, hSB⟩ : ∃ x, strB (spellS (tokB db.pt.s0 db.pt.n0 1 2 3)) = x := ⟨_, rfl⟩
      rw [hSA] at TA UA
      rw [hSB] at TB UB
      have b12 := Below.refl W12.heap.size W12
      clear hSA hSB hF hbw ha hb na0 nb0 hT z0 z1 z2 z3 z4 z5 HP HS C1 C2 C3 C4 C5 C6 RA RB s0 b0
      go_upto_region 14 with fail
      try rw [hW12]
      try rw [hB17]
      clear hW12 hB17 hb12
      obtain ⟨⟨t0, t1, t2⟩, _⟩ := CC.out _ b12
      go_upto_region 15 with (go_at_call 10; (with_reducible refine (TA.out _ b12).mono ?_); rintro e w13 ⟨rfl, b13⟩)
      clear t0 t1 t2
      obtain ⟨⟨t0, t1, t2⟩, _⟩ := CC.out _ b13
      go_upto_region 16 with (go_at_call 10; (with_reducible refine (TB.out _ b13).mono ?_); rintro e w14 ⟨rfl, b14⟩)
      clear t0 t1 t2
      obtain ⟨⟨t0, t1, t2⟩, u0, u1, u2, u3⟩ := CC.out _ b14
      go_wp2_with (first
        | (go_at_call 18; (with_reducible refine (UA.out _ b14).mono ?_); rintro e w15 ⟨rfl, b15⟩; obtain ⟨⟨v0, v1, v2⟩, x0, x1, x2, x3⟩ := CC.out _ b15)
        | (go_at_call 18; (with_reducible refine (UB.out _ b15).mono ?_); rintro e w16 ⟨rfl, b16⟩)
        | (go_at_call 12; (with_reducible refine (num_any _ _).mono ?_); rintro e w5 ⟨rfl, rfl⟩)
        | (go_at_call 8; (with_reducible refine (WK.out _ b16).mono ?_); rintro e w17 ⟨rfl, b17⟩))
      go_ret
      exact ⟨rfl, HBW.out.trans (b17.mono HBW.out.size)⟩
theorem Sm.keys_law (f : ByteArray) (n c : Nat) (A : Option Addr) (ss : List ByteArray) (one two : ByteArray) (w : World) (ht : Tabs w) (hl : ss.length = n) (hm : n ≤ 9223372036854775807) (hr : Rds w (fun _ => False) A (ss.map Value.string)) :
    Calls Tryz.prog 6 #[.string f, .slice A n c, .string one, .string two] w fun e w' => e = .returned (.bool true) ∧ Below w.heap.size w w' := by
  by_cases h : fewB f ss = true ∧ fewB one [two] = true
  · exact keys_few f n c A ss one two w ht hl hm hr h.1 h.2
  · exact keys_long f n c A ss one two w ht hl hm hr h
end Go.Proofs
