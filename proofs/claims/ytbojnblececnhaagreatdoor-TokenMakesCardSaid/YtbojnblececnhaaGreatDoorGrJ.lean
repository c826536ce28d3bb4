/-
  The walk of TokenMakes.
-/
import Derived.BigQuiet
import Derived.Deep.CutRange
import Derived.Test.YtbojnblececnhaaGreatDoorGrI
namespace Go.Proofs
open Go.RowKit Go.Shelf Sm
theorem Sm.zero39 : Tryz.prog.built 39 [] = some #[.int .i64 0, .string ⟨#[]⟩, .int .i64 0, .string ⟨#[]⟩, .int .i64 0, .string ⟨#[]⟩] := by kernel_rfl
set_option maxRecDepth 100000 in
set_option maxHeartbeats 2000000 in
theorem Sm.makes_long (f : ByteArray) (n c : Nat) (A : Option Addr) (ss : List ByteArray) (m s i : Int) (w : World) (ht : Tabs w) (hl : ss.length = n) (hm : n ≤ 9223372036854775807) (hr : Rds w (fun _ => False) A (ss.map Value.string)) (hno : ¬ fewB f ss = true) :
    Calls Tryz.prog 3 #[.string f, .slice A n c, .agg #[.int .i64 m, .int .i64 s, .int .i64 i]] w fun e w' => e = .returned (.bool true) ∧ Below w.heap.size w w' := by
  obtain ⟨W1, hW1⟩ : ∃ x, w.alloc (.cells #[.int .i64 m, .int .i64 s, .int .i64 i] 24) = x := ⟨_, rfl⟩
  have hb1 : Below w.heap.size w W1 := by rw [← hW1]; exact (Below.refl _ w).alloc (Nat.le_refl _) _
  have hfw := few_any f n c A ss W1 hl hm (Rds.below hr hb1)
  have HWK := Lib.hid (works_any W1 (ht.keep hb1))
  have HW1 := Lib.hid hW1
  have HB1 := Lib.hid hb1
  rw [show fewB f ss = false by simpa using hno] at hfw
  have HFW := Lib.hid hfw
  clear hfw hno ht hr hl hW1 hb1
  go_enter Tryz.func3, Tryz.ntmps3
  go_upto_region 1 with fail
  rw [HW1.out]
  go_wp2_with (first
    | (go_at_call 7; (with_reducible refine HFW.out.mono ?_); rintro e w2 ⟨rfl, rfl⟩)
    | (go_at_call 8; (with_reducible refine HWK.out.mono ?_); rintro e w8 ⟨rfl, hb8⟩))
  go_ret
  exact ⟨rfl, HB1.out.trans (hb8.mono HB1.out.size)⟩
set_option maxRecDepth 100000 in
set_option maxHeartbeats 4000000 in
theorem Sm.makes_few (f : ByteArray) (n c : Nat) (A : Option Addr) (ss : List ByteArray) (m s i : Int) (w : World) (ht : Tabs w) (hl : ss.length = n) (hm : n ≤ 9223372036854775807) (hr : Rds w (fun _ => False) A (ss.map Value.string)) (hfew : fewB f ss = true) :
    Calls Tryz.prog 3 #[.string f, .slice A n c, .agg #[.int .i64 m, .int .i64 s, .int .i64 i]] w fun e w' => e = .returned (.bool true) ∧ Below w.heap.size w w' := by
  obtain ⟨W1, hW1⟩ : ∃ x, w.alloc (.cells #[.int .i64 m, .int .i64 s, .int .i64 i] 24) = x := ⟨_, rfl⟩
  have hb1 : Below w.heap.size w W1 := by rw [← hW1]; exact (Below.refl _ w).alloc (Nat.le_refl _) _
  have hT1 : Blk W1 w.heap.size 24 #[.int .i64 m, .int .i64 s, .int .i64 i] := by rw [← hW1]; exact Blk.new w 24 _
  have hfw := few_any f n c A ss W1 hl hm (Rds.below hr hb1)
  rw [hfew] at hfw
  have HFW := Lib.hid hfw
  have HTN := Lib.hid (turnedK_any f n c A ss W1 hl hfew (Rds.below hr hb1))
  have HT := Lib.hid ht
  have HW1 := Lib.hid hW1
  have HB1 := Lib.hid hb1
  have HT1 := Lib.hid hT1
  clear hfw hr hl hfew ht hW1 hb1 hT1
  go_enter Tryz.func3, Tryz.ntmps3
  go_upto_region 1 with fail
  rw [HW1.out]
  go_upto_region 4 with (first
    | (go_at_call 7; (with_reducible refine HFW.out.mono ?_); rintro e w2 ⟨rfl, rfl⟩)
    | (go_at_call 9; (with_reducible refine HTN.out.mono ?_); rintro e w3 ⟨p, f0, A0, n0, c0, rfl, HH, hb3⟩))
  obtain ⟨B8, hB8⟩ : ∃ b, w3.heap.size = b := ⟨_, rfl⟩
  obtain ⟨W4, hW4⟩ : ∃ v, w3.alloc (.cells #[.int .i64 f0, .slice A0 n0 c0] 29) = v := ⟨_, rfl⟩
  have hb34 : Below w3.heap.size w3 W4 := by rw [← hW4]; exact (Below.refl _ _).alloc (Nat.le_refl _) _
  have hb14 : Below W1.heap.size W1 W4 := hb3.trans (hb34.mono hb3.size)
  have HB34 := Lib.hid hb34
  have HB14 := Lib.hid hb14
  have HB4 := Lib.hid (HB1.out.trans (hb14.mono HB1.out.size))
  have H8 := Lib.hid (show Blk W4 B8 29 #[.int .i64 f0, .slice A0 n0 c0] by rw [← hW4, ← hB8]; exact Blk.new w3 29 _)
  have HT4 := Lib.hid (HT1.out.keep hb14)
  rw [hW4, hB8]
  clear hW4 hB8 hb34 hb14 hb3 HTN HFW
  go_upto_if 32 with fail
  go_cut [10] from 32 to 34 (fun s10 wx => ∃ pn, s10 = .pointer pn ∧ Hid (KeyV wx (.pointer pn) zeroK) ∧ Hid (Below W4.heap.size W4 wx))
  case first =>
    by_cases hp : (n : Int) % 2 = 1
    · go_wp2_with fail
      go_meet
      exact ⟨_, rfl, Lib.hid (.inr ⟨W4.heap.size, rfl, Blk.new W4 39 _⟩), Lib.hid ((Below.refl _ _).alloc (Nat.le_refl _) _)⟩
    · go_wp2_with fail
      go_meet
      exact ⟨none, rfl, Lib.hid (.inl ⟨rfl, rfl⟩), Lib.hid (Below.refl _ _)⟩
  case rest =>
    obtain ⟨W5, rfl⟩ : ∃ wo : World, wo = wc := ⟨_, rfl⟩
    obtain ⟨pn, rfl, HKV, HB45⟩ := hcut
    have HT5 := Lib.hid (HT4.out.keep HB45.out)
    have t0 := HT5.out.cell 0
    have t1 := HT5.out.cell 1
    have t2 := HT5.out.cell 2
    simp only [List.getElem?_toArray, List.getElem?_cons_zero, List.getElem?_cons_succ] at t0 t1 t2
    have KV : Hid (∀ W : World, Below W5.heap.size W5 W → KeyV W (.pointer pn) zeroK) := Lib.hid (fun W hb => HKV.out.below hb)
    have MN : Hid (∀ W : World, Below W5.heap.size W5 W → Calls Tryz.prog 10 #[.pointer pn, .agg #[.int .i64 m, .int .i64 s, .int .i64 i]] W fun e w' => e = .returned (.tuple #[.string ⟨#[]⟩, .int .i64 1]) ∧ Below W5.heap.size W5 w') := Lib.hid (fun W hb => (Make_nil pn m s i W (KV.out W hb)).mono fun e w' ⟨h1, h2⟩ => ⟨h1, hb.trans (h2.mono hb.size)⟩)
    have ON : Hid (∀ W : World, Below W5.heap.size W5 W → Calls Tryz.prog 11 #[.pointer pn, .string ⟨#[]⟩] W fun e w' => e = .returned (.tuple #[.agg #[.int .i64 0, .int .i64 0, .int .i64 0], .int .i64 1]) ∧ Below W5.heap.size W5 w') := Lib.hid (fun W hb => (Open_nil pn ⟨#[]⟩ W (KV.out W hb)).mono fun e w' ⟨h1, h2⟩ => ⟨h1, hb.trans (h2.mono hb.size)⟩)
    have TN : Hid (∀ W : World, Below W5.heap.size W5 W → Calls Tryz.prog 13 #[.pointer pn, .string ⟨#[120]⟩] W fun e w' => e = .returned (.int .i64 1) ∧ Below W5.heap.size W5 w') := Lib.hid (fun W hb => (Turn_nil ⟨#[120]⟩ pn W (KV.out W hb)).mono fun e w' ⟨h1, h2⟩ => ⟨h1, hb.trans (h2.mono hb.size)⟩)
    have NN : Hid (∀ W : World, Below W5.heap.size W5 W → Calls Tryz.prog 14 #[.pointer pn] W fun e w' => e = .returned (.int .i64 0) ∧ Below W5.heap.size W5 w') := Lib.hid (fun W hb => (Newest_any W _ zeroK (KV.out W hb)).mono fun e w' ⟨h1, h2⟩ => ⟨h1, hb.trans (h2.mono hb.size)⟩)
    have CN : Hid (∀ W : World, Below W5.heap.size W5 W → Calls Tryz.prog 15 #[.pointer pn] W fun e w' => e = .returned (.pointer none) ∧ Below W5.heap.size W5 w') := Lib.hid (fun W hb => (KCopy_no W _ (KV.out W hb)).mono fun e w' ⟨h1, h2⟩ => ⟨h1, hb.trans (h2.mono hb.size)⟩)
    have SN : Hid (∀ W : World, Below W5.heap.size W5 W → Calls Tryz.prog 16 #[.pointer pn, .pointer none] W fun e w' => e = .returned (.bool true) ∧ Below W5.heap.size W5 w') := Lib.hid (fun W hb => (KSame_any W _ _ zeroK zeroK (KV.out W hb) (.inl ⟨rfl, rfl⟩)).mono fun e w' ⟨h1, h2⟩ => ⟨h1.trans (by rw [sameK_refl]), hb.trans (h2.mono hb.size)⟩)
    have b5 := Below.refl W5.heap.size W5
    go_upto_region 8 with (go_at_call 10; (with_reducible refine (MN.out _ b5).mono ?_); rintro e w7 ⟨rfl, b7⟩)
    go_upto_region 9 with (go_at_call 11; (with_reducible refine (ON.out _ b7).mono ?_); rintro e w8 ⟨rfl, b8⟩)
    obtain ⟨W8, hW8⟩ : ∃ v, w8.alloc (.cells #[.int .i64 0, .int .i64 0, .int .i64 0] 24) = v := ⟨_, rfl⟩
    have bW8 : Below W5.heap.size W5 W8 := by rw [← hW8]; exact b8.alloc b8.size _
    rw [hW8]
    clear hW8 t0 t1 t2 b7 b8
    go_upto_region 11 with (first
      | (go_at_call 12; (with_reducible refine (num_any _ _).mono ?_); rintro e w5 ⟨rfl, rfl⟩)
      | (go_at_call 13; (with_reducible refine (TN.out _ bW8).mono ?_); rintro e w13 ⟨rfl, b13⟩)
      | (go_at_call 14; (with_reducible refine (NN.out _ b13).mono ?_); rintro e w14 ⟨rfl, b14⟩)
      | (go_at_call 15; (with_reducible refine (CN.out _ b14).mono ?_); rintro e w15 ⟨rfl, b15⟩)
      | (go_at_call 16; (with_reducible refine (SN.out _ b15).mono ?_); rintro e w16 ⟨rfl, b16⟩))
    have hb49 : Below W4.heap.size W4 w16 := HB45.out.trans (b16.mono HB45.out.size)
    have HB49 := Lib.hid hb49
    have HBW9 := Lib.hid (HB4.out.trans (hb49.mono HB4.out.size))
    have HWK := Lib.hid (works_any w16 (HT.out.keep HBW9.out))
    clear b5 bW8 b13 b14 b15 MN ON TN NN CN SN hb49
    rcases HH.out with rfl | ⟨B, d, j, rfl, rfl, rfl, hj, hok, hk, hBl, hrow⟩
    · clear HH
      go_wp2_with (go_at_call 8; (with_reducible refine HWK.out.mono ?_); rintro e w20 ⟨rfl, hb20⟩)
      go_ret
      exact ⟨rfl, HBW9.out.trans (hb20.mono HBW9.out.size)⟩
    · have hkA : ∀ W : World, Below w16.heap.size w16 W → KeyAt W B d.pt := fun W hb => Blk.keep (Blk.keep (Blk.keep hk HB34.out) HB49.out) hb
      have hrA : ∀ W : World, Below w16.heap.size w16 W → Rds W (fun _ => False) A0 (d.ms.map Value.string) := fun W hb => (((hrow.below HB34.out).below HB49.out).below hb).weaker (fun _ h => h.elim)
      have KA := Lib.hid hkA
      have RA := Lib.hid hrA
      have HOK := Lib.hid hok
      have KN : Hid (∀ W : World, Below w16.heap.size w16 W → KeyV W (.pointer pn) zeroK) := Lib.hid (fun W hb => KV.out W (b16.trans (hb.mono b16.size)))
      have hn0 := Kd.num hok
      have hlo := hok.lo
      have hhi := hok.hi
      have hso := hok.some
      have hmo := hok.most
      have HN0 : Hid (0 ≤ d.pt.n0 ∧ d.pt.n0 ≤ 2147483647) := Lib.hid (by rw [hn0]; omega)
      have b0 := Below.refl w16.heap.size w16
      have HTt := Lib.hid (HT5.out.keep b16)
      have t0 := HTt.out.cell 0
      have t1 := HTt.out.cell 1
      have t2 := HTt.out.cell 2
      simp only [List.getElem?_toArray, List.getElem?_cons_zero, List.getElem?_cons_succ] at t0 t1 t2
      clear hkA hrA hk hrow hok HH KV HKV hn0
      by_cases hT : TokOK m s i
      · have hmk := Make_ok B d.pt m s i w16 (KA.out _ b0) (HT.out.keep HBW9.out) (Kd.there HOK.out) (Kd.sizes HOK.out).1 HN0.out hT
        have hrt : ∀ W : World, Below w16.heap.size w16 W → Calls Tryz.prog 17 #[.agg #[.int .i64 m, .int .i64 s, .int .i64 i]] W fun e w' => e = .returned (.bool true) ∧ Below w16.heap.size w16 w' := fun W hb => (right_any m s i W).mono fun e w' ⟨h1, h2⟩ => ⟨by rw [h1, decide_eq_true hT], hb.trans (h2.mono hb.size)⟩
        have hrm : ∀ W : World, Below w16.heap.size w16 W → Calls Tryz.prog 18 #[.agg #[.int .i64 d.first, .slice A0 d.ms.length c0], .agg #[.int .i64 m, .int .i64 s, .int .i64 i]] W fun e w' => e = .returned (.string (strB (spellS (tokB d.pt.s0 d.pt.n0 m s i)))) ∧ Below w16.heap.size w16 w' := fun W hb => by
          obtain ⟨⟨g1, g2⟩, ⟨g3, g4⟩, g5, g6⟩ := hT
          obtain ⟨m', rfl⟩ : ∃ y : Nat, m = (y : Int) := ⟨m.toNat, by omega⟩
          obtain ⟨s', rfl⟩ : ∃ y : Nat, s = (y : Int) := ⟨s.toNat, by omega⟩
          obtain ⟨i', rfl⟩ : ∃ y : Nat, i = (y : Int) := ⟨i.toNat, by omega⟩
          exact (refMake_any d j c0 A0 m' s' i' W HOK.out (by omega) (RA.out W hb) (by omega) (by omega) (by omega)).mono fun e w' ⟨h1, h2⟩ => ⟨h1, hb.trans (h2.mono hb.size)⟩
        have hs1 : ∀ W : World, Below w16.heap.size w16 W → Calls Tryz.prog 16 #[.pointer (some ⟨B, 0, none⟩), .pointer pn] W fun e w' => e = .returned (.bool false) ∧ Below w16.heap.size w16 w' := fun W hb => (KSame_any W _ _ d.pt zeroK (.inr ⟨B, rfl, KA.out W hb⟩) (KN.out W hb)).mono fun e w' ⟨h1, h2⟩ => ⟨by rw [h1, (sameK_none HOK.out).1], hb.trans (h2.mono hb.size)⟩
        have hs2 : ∀ W : World, Below w16.heap.size w16 W → Calls Tryz.prog 16 #[.pointer pn, .pointer (some ⟨B, 0, none⟩)] W fun e w' => e = .returned (.bool false) ∧ Below w16.heap.size w16 w' := fun W hb => (KSame_any W _ _ zeroK d.pt (KN.out W hb) (.inr ⟨B, rfl, KA.out W hb⟩)).mono fun e w' ⟨h1, h2⟩ => ⟨by rw [h1, (sameK_none HOK.out).2], hb.trans (h2.mono hb.size)⟩
        obtain ⟨S, hS⟩ : ∃ x, strB (spellS (tokB d.pt.s0 d.pt.n0 m s i)) = x := ⟨_, rfl⟩
        rw [hS] at hmk hrm
        have MK := Lib.hid hmk
        have RT := Lib.hid hrt
        have RM := Lib.hid hrm
        have S1 := Lib.hid hs1
        have S2 := Lib.hid hs2
        have WK : Hid (∀ W : World, Below w16.heap.size w16 W → Calls Tryz.prog 8 #[] W fun e w' => e = .returned (.bool true) ∧ Below w16.heap.size w16 w') := Lib.hid (fun W hb => (works_any W (HT.out.keep (HBW9.out.trans (hb.mono HBW9.out.size)))).mono fun e w' ⟨h1, h2⟩ => ⟨h1, hb.trans (h2.mono hb.size)⟩)
        have TT : Hid (∀ W : World, Below w16.heap.size w16 W → W.cell? ⟨w.heap.size, 0, none⟩ = some (.int .i64 m) ∧ W.cell? ⟨w.heap.size, 1, none⟩ = some (.int .i64 s) ∧ W.cell? ⟨w.heap.size, 2, none⟩ = some (.int .i64 i)) := Lib.hid (fun W hb => ⟨(HTt.out.keep hb).cell 0, (HTt.out.keep hb).cell 1, (HTt.out.keep hb).cell 2⟩)
        have WW : Hid (∀ W : World, Below w16.heap.size w16 W → W.cell? ⟨B8, 0, none⟩ = some (.int .i64 d.first) ∧ W.cell? ⟨B8, 1, none⟩ = some (.slice A0 d.ms.length c0)) := Lib.hid (fun W hb => ⟨((H8.out.keep HB49.out).keep hb).cell 0, ((H8.out.keep HB49.out).keep hb).cell 1⟩)
        clear hmk hrt hrm hs1 hs2 hS HWK hT
        go_upto_region 14 with (go_at_call 10; (with_reducible refine MK.out.mono ?_); rintro e w17 ⟨rfl, b17⟩)
        obtain ⟨x0, x1, x2⟩ := TT.out _ b17
        go_upto_region 16 with (go_at_call 17; (with_reducible refine (RT.out _ b17).mono ?_); rintro e w18 ⟨rfl, b18⟩)
        obtain ⟨y0, y1, y2⟩ := TT.out _ b18
        obtain ⟨v0, v1⟩ := WW.out _ b18
        clear x0 x1 x2 t0 t1 t2
        go_wp2_with (first
          | (go_at_call 18; (with_reducible refine (RM.out _ b18).mono ?_); rintro e w19 ⟨rfl, b19⟩)
          | (go_at_call 12; (with_reducible refine (num_any _ _).mono ?_); rintro e w5 ⟨rfl, rfl⟩)
          | (go_at_call 16; (with_reducible refine (S1.out _ b19).mono ?_); rintro e w20 ⟨rfl, b20⟩)
          | (go_at_call 16; (with_reducible refine (S2.out _ b20).mono ?_); rintro e w21 ⟨rfl, b21⟩)
          | (go_at_call 8; (with_reducible refine (WK.out _ b21).mono ?_); rintro e w22 ⟨rfl, b22⟩))
        go_ret
        exact ⟨rfl, HBW9.out.trans (b22.mono HBW9.out.size)⟩
      · have MK := Lib.hid (Make_arg B d.pt m s i w16 (KA.out _ b0) (Kd.there HOK.out) hT)
        have RT : Hid (∀ W : World, Below w16.heap.size w16 W → Calls Tryz.prog 17 #[.agg #[.int .i64 m, .int .i64 s, .int .i64 i]] W fun e w' => e = .returned (.bool false) ∧ Below w16.heap.size w16 w') := Lib.hid (fun W hb => (right_any m s i W).mono fun e w' ⟨h1, h2⟩ => ⟨by rw [h1, decide_eq_false hT], hb.trans (h2.mono hb.size)⟩)
        have WK : Hid (∀ W : World, Below w16.heap.size w16 W → Calls Tryz.prog 8 #[] W fun e w' => e = .returned (.bool true) ∧ Below w16.heap.size w16 w') := Lib.hid (fun W hb => (works_any W (HT.out.keep (HBW9.out.trans (hb.mono HBW9.out.size)))).mono fun e w' ⟨h1, h2⟩ => ⟨h1, hb.trans (h2.mono hb.size)⟩)
        have TT : Hid (∀ W : World, Below w16.heap.size w16 W → W.cell? ⟨w.heap.size, 0, none⟩ = some (.int .i64 m) ∧ W.cell? ⟨w.heap.size, 1, none⟩ = some (.int .i64 s) ∧ W.cell? ⟨w.heap.size, 2, none⟩ = some (.int .i64 i)) := Lib.hid (fun W hb => ⟨(HTt.out.keep hb).cell 0, (HTt.out.keep hb).cell 1, (HTt.out.keep hb).cell 2⟩)
        clear HWK hT
        go_upto_region 14 with (go_at_call 10; (with_reducible refine MK.out.mono ?_); rintro e w17 ⟨rfl, b17⟩)
        obtain ⟨x0, x1, x2⟩ := TT.out _ b17
        clear t0 t1 t2
        go_wp2_with (first
          | (go_at_call 17; (with_reducible refine (RT.out _ b17).mono ?_); rintro e w18 ⟨rfl, b18⟩)
          | (go_at_call 12; (with_reducible refine (num_any _ _).mono ?_); rintro e w5 ⟨rfl, rfl⟩)
          | (go_at_call 8; (with_reducible refine (WK.out _ b18).mono ?_); rintro e w22 ⟨rfl, b22⟩))
        go_ret
        exact ⟨rfl, HBW9.out.trans (b22.mono HBW9.out.size)⟩
theorem Sm.makes_law (f : ByteArray) (n c : Nat) (A : Option Addr) (ss : List ByteArray) (m s i : Int) (w : World) (ht : Tabs w) (hl : ss.length = n) (hm : n ≤ 9223372036854775807) (hr : Rds w (fun _ => False) A (ss.map Value.string)) :
    Calls Tryz.prog 3 #[.string f, .slice A n c, .agg #[.int .i64 m, .int .i64 s, .int .i64 i]] w fun e w' => e = .returned (.bool true) ∧ Below w.heap.size w w' := by
  by_cases h : fewB f ss = true
  · exact makes_few f n c A ss m s i w ht hl hm hr h
  · exact makes_long f n c A ss m s i w ht hl hm hr h
end Go.Proofs
