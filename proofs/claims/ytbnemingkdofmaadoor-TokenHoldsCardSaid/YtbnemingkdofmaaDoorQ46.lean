/-
  The walk of the law of holding: what was made opens as long as its master is kept.
-/
import Derived.Test.YtbnemingkdofmaaDoorQ45
namespace Go.Proofs
open Go.RowKit Go.Shelf Sm
/-- keys that go on: some master, texts of a bounded length, a number in range -/
structure Sm.GoK (k : Kpt) (j : Nat) : Prop where
  there : ¬ k.s0 = ⟨#[]⟩
  size : k.s0.size ≤ 1000 ∧ k.s1.size ≤ 1000 ∧ k.s2.size ≤ 1000
  lo : 0 ≤ k.n0
  hi : k.n0 ≤ j
theorem Sm.GoK.turn {k : Kpt} {j : Nat} (h : GoK k j) {m : ByteArray} (h1 : 1 ≤ m.size) (h2 : m.size ≤ 64) : GoK (turnK k (k.n0 + 1) m) (j + 1) :=
  ⟨ne_of_size h1, ⟨by show m.size ≤ 1000; omega, h.size.1, h.size.2.1⟩, by have := h.lo; show 0 ≤ k.n0 + 1; omega, by have := h.hi; show k.n0 + 1 ≤ ((j + 1 : Nat) : Int); omega⟩
theorem Sm.GoK.more {k : Kpt} {j : Nat} (h : GoK k j) : GoK k (j + 1) := ⟨h.there, h.size, h.lo, by have := h.hi; omega⟩
theorem Sm.GoK.first {m : ByteArray} (h1 : 1 ≤ m.size) (h2 : m.size ≤ 64) : GoK (turnK zeroK 0 m) 0 := ⟨ne_of_size h1, ⟨by show m.size ≤ 1000; omega, (by decide : (⟨#[]⟩ : ByteArray).size ≤ 1000), (by decide : (⟨#[]⟩ : ByteArray).size ≤ 1000)⟩, (by decide : (0 : Int) ≤ 0), (by decide : (0 : Int) ≤ ((0 : Nat) : Int))⟩
theorem Sm.GoK.turns {k : Kpt} {j : Nat} (h : GoK k j) (b : Nat) : GoK (turnsK k b) (j + b) := by
  induction b with
  | zero => exact h
  | succ b ih => exact ih.turn (m := moreB) (by decide) (by decide)
theorem Sm.openedS_err {k : Kpt} {b : List (BitVec 8)} {no : Int} (h : openedS k b = .error no) : ¬ no = 0 := by
  unfold openedS at h
  cases h1 : numO b 2147483647 with
  | none => rw [h1] at h; injection h with h; omega
  | some p1 =>
    obtain ⟨l1, n⟩ := p1
    rw [h1] at h
    simp only at h
    cases h2 : numO l1 15 with
    | none => rw [h2] at h; injection h with h; omega
    | some p2 =>
      obtain ⟨l2, m'⟩ := p2
      rw [h2] at h
      simp only at h
      cases h3 : numO l2 2147483647 with
      | none => rw [h3] at h; injection h with h; omega
      | some p3 =>
        obtain ⟨l3, s'⟩ := p3
        rw [h3] at h
        simp only at h
        cases h4 : numO l3 2147483647 with
        | none => rw [h4] at h; injection h with h; omega
        | some p4 =>
          obtain ⟨l4, i'⟩ := p4
          rw [h4] at h
          simp only at h
          by_cases h16 : l4.length = 16
          · rw [if_pos h16] at h
            cases h5 : findS k n with
            | none => rw [h5] at h; injection h with h; omega
            | some p =>
              rw [h5] at h
              simp only at h
              by_cases h6 : (tagS (keyS p.2) (b.take (b.length - 16))).take 16 = b.drop (b.length - 16)
              · rw [if_pos h6] at h
                clear h6
                injection h
              · rw [if_neg h6] at h
                clear h6
                injection h with h
                omega
          · rw [if_neg h16] at h; injection h with h; omega
theorem Sm.openS_err {k : Kpt} {t : ByteArray} {no : Int} (h : openS k t = .error no) : ¬ no = 0 := by
  unfold openS at h
  split at h
  · injection h with h; omega
  · split at h
    · injection h with h; omega
    · exact openedS_err h
/-- within the first loop -/
structure Sm.HoI (w wr : World) (B T j : Nat) (f : ByteArray) (tk : Array Value) (nn : Nat) (k : Kpt) : Prop where
  key : KeyAt wr B k
  go : GoK k j
  tok : Blk wr T 0x24 tk
  below : Below w.heap.size w wr
  one : j = 0 → k = turnK zeroK 0 f
  ne : T ≠ B ∧ w.heap.size ≤ B
theorem Sm.HoI.keep {w wr w' : World} {B T j : Nat} {f : ByteArray} {tk : Array Value} {nn : Nat} {k : Kpt} (h : HoI w wr B T j f tk nn k) (hb : Below wr.heap.size wr w') : HoI w w' B T j f tk nn k :=
  ⟨Blk.keep h.key hb, h.go, h.tok.keep hb, h.below.trans (hb.mono h.below.size), h.one, h.ne⟩
theorem Sm.HoI.step {w wr w' : World} {B T j : Nat} {f : ByteArray} {tk : Array Value} {nn : Nat} {k k' : Kpt} (h : HoI w wr B T j f tk nn k) (hb : But (fun b => b = B) wr w') (hk : KeyAt w' B k') (hg : GoK k' (j + 1)) : HoI w w' B T (j + 1) f tk nn k' :=
  ⟨hk, hg, h.tok.but hb h.ne.1, But.below h.below hb (fun b e => by have e : b = B := e; have := h.ne.2; omega), fun e => by omega, h.ne⟩
set_option maxRecDepth 100000 in
set_option maxHeartbeats 8000000 in
theorem Sm.holds_few (f : ByteArray) (nn cc n c bh : Nat) (A2 A : Option Addr) (ss : List ByteArray) (m s i : Int) (l : List (BitVec 8)) (t : ByteArray) (w : World) (ht : Tabs w) (hs : ss.length = nn) (hrs : Rds w (fun _ => False) A2 (ss.map Value.string))
    (hl : l.length = n) (hr : Rd w w.heap.size A l) (hfs : f.size ≤ 100) (hfw : fewB f ss = true) (hsm : ∀ x ∈ ss, x.size ≤ 100) (hnn : nn ≤ 12) (hn : n ≤ 200) (htz : t.size ≤ 200) (hbh : bh ≤ 5) :
    Calls Tryd.prog 5 #[.string f, .slice A2 nn cc, .agg #[.int .i64 m, .int .i64 s, .int .i64 i], .int .i64 (bh : Int), .slice A n c, .string t] w fun e w' => e = .returned (.bool true) ∧ Below w.heap.size w w' := by
  obtain ⟨W1, hW1⟩ : ∃ x, w.alloc (.cells #[.int .i64 m, .int .i64 s, .int .i64 i] 0x24) = x := ⟨_, rfl⟩
  have hb1 : Below w.heap.size w W1 := by rw [← hW1]; exact (Below.refl _ w).alloc (Nat.le_refl _) _
  have h1 : Blk W1 w.heap.size 0x24 #[.int .i64 m, .int .i64 s, .int .i64 i] := by rw [← hW1]; exact Blk.new w 0x24 _
  have hrs1 : Rds W1 (fun _ => False) A2 (ss.map Value.string) := Rds.below hrs hb1
  have hfw1 := few_any f nn cc A2 ss W1 hs (by omega) hrs1
  rw [hfw] at hfw1
  have HFW := Lib.hid hfw1
  have HW := Lib.hid hW1
  have HB1 := Lib.hid hb1
  have HTK := Lib.hid h1
  have HT0 := Lib.hid ht
  have HT1 := Lib.hid (ht.keep hb1)
  have HRS := Lib.hid hrs
  have HSL := Lib.hid hs
  have HSM := Lib.hid hsm
  have HR := Lib.hid ((hr.below hb1).more hb1.size)
  have HL := Lib.hid hl
  have hq1 : ¬ (200 : Int) < (n : Int) := by omega
  have hq2 : ¬ (200 : Int) < (t.size : Int) := by omega
  have hq3 : ¬ (bh : Int) < 0 := by omega
  have hq4 : ¬ (5 : Int) < (bh : Int) := by omega
  have hlw1 := h1.lt
  obtain ⟨T8, hT8⟩ : ∃ b, w.heap.size = b := ⟨_, rfl⟩
  have HT8 := Lib.hid hT8
  clear hfw1 hW1 hb1 h1 hrs1 hs hsm hr hl hrs ht hfw
  go_enter Tryd.func5, Tryd.ntmps5
  go_upto_region 1 with fail
  rw [HW.out]
  clear hT8
  go_upto_region 3 with (go_at_call 15; (with_reducible refine HFW.out.mono ?_); rintro e w2 ⟨rfl, rfl⟩)
  clear HFW HW
  have hsp := Spell_any n c A l W1 HL.out (by omega) HR.out
  have HSP := Lib.hid hsp
  have hun := fun v => Unspell_ok (strB (spellS l)) l v (by rw [strB_length, spellS_length, HL.out]; have : cntW 8 5 n = (8 * n + 4) / 5 := rfl; omega) (by rw [sB_strB, unspell_spell])
  obtain ⟨SL, hSL⟩ : ∃ x, strB (spellS l) = x := ⟨_, rfl⟩
  rw [hSL] at HSP hun
  have HUN := Lib.hid hun
  clear hsp hun hSL
  go_upto_region 4 with (first
    | (go_at_call 7; (with_reducible refine HSP.out.mono ?_); rintro e w2 ⟨rfl, hb2⟩)
    | (go_at_call 8; (with_reducible refine (HUN.out w2).mono ?_); rintro e w3 ⟨A3, c3, rfl, hown3, hb3⟩))
  have hb13 : Below W1.heap.size W1 w3 := hb2.trans (hb3.mono hb2.size)
  have k1 := conv_rd (c := c3) rfl (Rd.of_own hown3 (Nat.le_refl _))
  have k2 := conv_rd (c := c) HL.out ((HR.out.below hb13).more hb13.size)
  have HB13 := Lib.hid hb13
  clear hb13 hb2 hb3 hown3 HSP HUN
  go_upto_region 6 with (go_at_call 11; (with_reducible refine (num_any _ _).mono ?_); rintro e w4 ⟨rfl, rfl⟩)
  clear k1 k2
  go_cut [14, 15] from 67 to 72 (fun s14 s15 wx => ∃ (A5 : Option Addr) (c5 : Nat) (b : List (BitVec 8)) (e : Int), s15 = .slice A5 b.length c5 ∧ s14 = .int .i64 e ∧ b.length ≤ 1000 ∧ (e = 0 → strB (spellS b) = t) ∧ (e = 0 ∨ e = 160) ∧ Hid (Rd wx wx.heap.size A5 b) ∧ Hid (Below w3.heap.size w3 wx))
  case first =>
    cases hu : unspellS (sB t) with
    | none =>
      have HUN := Lib.hid (Unspell_no t w3 (by omega) hu)
      go_wp2_with (go_at_call 8; (with_reducible refine HUN.out.mono ?_); rintro e w4 ⟨rfl, hb4⟩)
      go_meet
      exact ⟨none, 0, [], 160, rfl, rfl, by decide, fun e => by omega, .inr rfl, Lib.hid Rd.nil, Lib.hid hb4⟩
    | some b =>
      have HUN := Lib.hid (Unspell_ok t b w3 (by omega) hu)
      have hbl := unspell_length hu
      go_wp2_with (go_at_call 8; (with_reducible refine HUN.out.mono ?_); rintro e w4 ⟨A4, c4, rfl, hown4, hb4⟩)
      go_meet
      refine ⟨A4, c4, b, 0, rfl, rfl, by omega, fun _ => ?_, .inl rfl, Lib.hid (Rd.of_own hown4 (Nat.le_refl _)), Lib.hid hb4⟩
      rw [spell_unspell hu]
      exact strB_strL t
  case rest =>
    obtain ⟨wz, rfl⟩ : ∃ wz : World, wz = wc := ⟨_, rfl⟩
    obtain ⟨A5, c5, b, e5, rfl, rfl, hbl, hbt, h01, HRB, HBC⟩ := hcut
    have HB6 := Lib.hid (HB13.out.trans (HBC.out.mono HB13.out.size))
    have HSP := Lib.hid (Spell_any b.length c5 A5 b wz rfl (by omega) HRB.out)
    clear HBC HB13
    go_upto_region 7 with fail
    go_cut [80] from 72 to 80 (fun s80 wx => s80 = .bool false ∧ Hid (Below wz.heap.size wz wx))
    case first =>
      rcases h01 with rfl | rfl
      · have hbe := hbt rfl
        rw [hbe] at HSP
        go_wp2_with (first
          | (go_at_call 7; (with_reducible refine HSP.out.mono ?_); rintro e w7 ⟨rfl, hb7⟩)
          | (go_at_call 11; (with_reducible refine (num_any _ _).mono ?_); rintro e w4 ⟨rfl, rfl⟩))
        go_meet
        exact ⟨rfl, Lib.hid hb7⟩
      · go_wp2_with (go_at_call 11; (with_reducible refine (num_any _ _).mono ?_); rintro e w4 ⟨rfl, rfl⟩)
        go_meet
        exact ⟨rfl, Lib.hid (Below.refl _ _)⟩
    case rest =>
      obtain ⟨rfl, HBD⟩ := hcut
      obtain ⟨wy, rfl⟩ : ∃ wy : World, wy = wc := ⟨_, rfl⟩
      have hby := HB6.out.trans (HBD.out.mono HB6.out.size)
      have HTY := Lib.hid (HTK.out.keep hby)
      have HBY := Lib.hid (HB1.out.trans (hby.mono HB1.out.size))
      have HTT := Lib.hid (HT1.out.keep hby)
      have hTw := HT8.out
      clear hby HBD HB6 HSP HRB hbt h01 hbl HTK HB1 HT1 HR HL hlw1
      by_cases hf1 : 1 ≤ f.size ∧ f.size ≤ 64
      · have hkn := KNew_ok f wy hf1.1 hf1.2
        have HKN := Lib.hid hkn
        clear hkn hTw
        go_upto_region 10 with (go_at_call 12; (with_reducible refine HKN.out.mono ?_); rintro e w6 ⟨B, rfl, hBy, hk6, hb6⟩)
        have hI6 : HoI w w6 B T8 0 f #[.int .i64 m, .int .i64 s, .int .i64 i] nn (turnK zeroK 0 f) := ⟨hk6, GoK.first hf1.1 hf1.2, by rw [← HT8.out]; exact HTY.out.keep hb6, HBY.out.trans (hb6.mono HBY.out.size), fun _ => rfl, by have h1 := HTY.out.lt; have h2 := HBY.out.size; have h3 := HT8.out; omega⟩
        have HI6 := Lib.hid hI6
        have HTA := Lib.hid (HTT.out.keep hb6)
        have HF1 := Lib.hid hf1
        clear hI6 hk6 hb6 hBy HKN HTY HBY HTT hf1
        go_upto_region 13 with (go_at_call 11; (with_reducible refine (num_any _ _).mono ?_); rintro e w4 ⟨rfl, rfl⟩)
        go_loopw [18] (fun s18 wr => ∃ (j : Nat) (k : Kpt), j ≤ nn ∧ s18 = .int .i64 (j : Int) ∧ Hid (HoI w wr B T8 j f #[.int .i64 m, .int .i64 s, .int .i64 i] nn k)) (fun s18 _ => nn - (intOf s18).toNat)
        case atStart => exact ⟨0, _, Nat.zero_le _, rfl, HI6⟩
        case round =>
          obtain ⟨wo, rfl⟩ : ∃ wo : World, wo = wr := ⟨_, rfl⟩
          obtain ⟨j, k, hj, rfl, HI⟩ := hrel
          clear HI6
          have hkn := HI.out.go.hi
          by_cases hlt : j < nn
          · have hjl : j < ss.length := by rw [HSL.out]; exact hlt
            obtain ⟨b, off, rfl, hbl, _, hcell⟩ := HRS.out (by rw [List.length_map]; omega)
            have hc := hcell j (.string ss[j]) (by rw [List.getElem?_map, List.getElem?_eq_getElem hjl]; rfl)
            have hx100 := HSM.out ss[j] (List.getElem_mem hjl)
            obtain ⟨x, hx⟩ : ∃ x, ss[j] = x := ⟨_, rfl⟩
            rw [hx] at hc hx100
            have hcw := (HI.out.below.cell (p := ⟨b, off + j, none⟩) hbl).trans hc
            have hwl : b < wo.heap.size := Nat.lt_of_lt_of_le hbl HI.out.below.size
            clear hc hcell hx hjl hbl
            by_cases hx1 : 1 ≤ x.size ∧ x.size ≤ 64
            · have HTN := Lib.hid (Turn_ok x B k wo hx1.1 hx1.2 HI.out.key HI.out.go.there HI.out.go.lo (by omega))
              go_wp2_with (go_at_call 16; (with_reducible refine HTN.out.mono ?_); rintro e w7 ⟨rfl, hk7, hbt7⟩)
              exact ⟨⟨j + 1, _, by omega, by go_num, Lib.hid (HI.out.step hbt7 hk7 (HI.out.go.turn hx1.1 hx1.2))⟩, by simp [intOf]; omega⟩
            · have HTN := Lib.hid (Turn_arg x B k wo (by omega) hx1 HI.out.key HI.out.go.there HI.out.go.lo (by omega))
              go_wp2_with (go_at_call 16; (with_reducible refine HTN.out.mono ?_); rintro e w7 ⟨rfl, hb7⟩)
              have hk7 := HI.out.keep hb7
              exact ⟨⟨j + 1, k, by omega, by go_num, Lib.hid ⟨hk7.key, hk7.go.more, hk7.tok, hk7.below, fun e => by omega, hk7.ne⟩⟩, by simp [intOf]; omega⟩
          · obtain rfl : j = nn := by omega
            clear hj hlt
            have HTO := Lib.hid (HT0.out.keep HI.out.below)
            go_upto_region 16 with fail
            go_cut [19, 20] from 102 to 108 (fun s19 s20 wx => ∃ (U : Nat) (e a b' c' : Int), s19 = .pointer (some ⟨U, 0, none⟩) ∧ s20 = .int .i64 e ∧ Hid (Blk wx U 0x24 #[.int .i64 a, .int .i64 b', .int .i64 c']) ∧ (e = 0 → openS k t = .ok (a, b', c')) ∧ Hid (Below wo.heap.size wo wx))
            case first =>
              cases ho : openS k t with
              | ok p =>
                obtain ⟨a, b', c'⟩ := p
                have HOP := Lib.hid (Open_ok B k t a b' c' wo HI.out.key HTO.out HI.out.go.there HI.out.go.size (by omega) ho)
                have HO := Lib.hid ho
                clear ho
                go_wp2_with (go_at_call 14; (with_reducible refine HOP.out.mono ?_); rintro e w16 ⟨rfl, hb16⟩)
                go_meet
                exact ⟨_, _, a, b', c', rfl, rfl, Lib.hid (Blk.new w16 36 _), fun _ => HO.out, Lib.hid (hb16.alloc hb16.size _)⟩
              | error no =>
                have hnz := openS_err ho
                have HOP := Lib.hid (Open_no B k t no wo HI.out.key HTO.out HI.out.go.there HI.out.go.size (by omega) ho)
                clear ho
                go_wp2_with (go_at_call 14; (with_reducible refine HOP.out.mono ?_); rintro e w16 ⟨rfl, hb16⟩)
                go_meet
                exact ⟨_, _, 0, 0, 0, rfl, rfl, Lib.hid (Blk.new w16 36 _), fun e => absurd e hnz, Lib.hid (hb16.alloc hb16.size _)⟩
            case rest =>
              obtain ⟨wu, rfl⟩ : ∃ wu : World, wu = wc := ⟨_, rfl⟩
              obtain ⟨U, e, a, b', c', rfl, rfl, HU, hek, HBU⟩ := hcut
              have HX := Lib.hid (HI.out.keep HBU.out)
              have HTX := Lib.hid (HTO.out.keep HBU.out)
              have HEK := Lib.hid hek
              clear HBU HTO hek
              by_cases hq : e = 0 ∧ j = 0
              · obtain ⟨rfl, rfl⟩ := hq
                have hone := HX.out.one rfl
                subst hone
                obtain ⟨hTU, htx⟩ := open_made (HEK.out rfl)
                have hmk := Make_ok B (turnK zeroK 0 f) a b' c' wu HX.out.key HTX.out HX.out.go.there HX.out.go.size.1 ⟨HX.out.go.lo, by have := HX.out.go.hi; omega⟩ hTU
                rw [show strB (spellS (tokB (turnK zeroK 0 f).s0 (turnK zeroK 0 f).n0 a b' c')) = t from htx] at hmk
                have HMU := Lib.hid hmk
                have u0 := HU.out.cell 0
                have u1 := HU.out.cell 1
                have u2 := HU.out.cell 2
                simp only [List.getElem?_toArray, List.getElem?_cons_zero, List.getElem?_cons_succ] at u0 u1 u2
                clear hmk hTU htx
                go_upto_region 21 with (first
                  | (go_at_call 11; (with_reducible refine (num_any _ _).mono ?_); rintro e w4 ⟨rfl, rfl⟩)
                  | (go_at_call 13; (with_reducible refine HMU.out.mono ?_); rintro e w18 ⟨rfl, hb18⟩))
                have HXX := HX
                have HTXX := HTX
                clear HX HTX
                have HX := Lib.hid (HXX.out.keep hb18)
                have HTX := Lib.hid (HTXX.out.keep hb18)
                clear HXX HTXX u0 u1 u2 hb18 HMU HU HI
                obtain ⟨k, hkk⟩ : ∃ k, turnK zeroK 0 f = k := ⟨_, rfl⟩
                rw [hkk] at HX
                clear hkk
                have t0a := HX.out.tok.cell 0
                have t1a := HX.out.tok.cell 1
                have t2a := HX.out.tok.cell 2
                simp only [List.getElem?_toArray, List.getElem?_cons_zero, List.getElem?_cons_succ] at t0a t1a t2a
                by_cases hT : TokOK m s i
                · have HMK := Lib.hid (Make_ok B k m s i w18 HX.out.key HTX.out HX.out.go.there HX.out.go.size.1 ⟨HX.out.go.lo, by have := HX.out.go.hi; omega⟩ hT)
                  have htz2 := tok_size k.s0 k.n0 m s i ⟨HX.out.go.lo, by have := HX.out.go.hi; omega⟩ hT
                  have hkeep : ∀ q, q ≤ 2 → openS (turnsK k q) (strB (spellS (tokB k.s0 k.n0 m s i))) = .ok (m, s, i) := fun q hq => open_kept _ k.s0 k.n0 m s i ⟨HX.out.go.lo, by have := HX.out.go.hi; omega⟩ hT (find_behind HX.out.go.there q hq)
                  have hgone : ∀ q, 3 ≤ q → openS (turnsK k q) (strB (spellS (tokB k.s0 k.n0 m s i))) = .error 162 := fun q hq => open_gone _ k.s0 k.n0 m s i ⟨HX.out.go.lo, by have := HX.out.go.hi; omega⟩ hT (find_beyond q hq)
                  obtain ⟨TX, hTX⟩ : ∃ x, strB (spellS (tokB k.s0 k.n0 m s i)) = x := ⟨_, rfl⟩
                  rw [hTX] at HMK htz2
                  simp only [hTX] at hkeep hgone
                  have HKP := Lib.hid hkeep
                  have HGN := Lib.hid hgone
                  have HTZ2 := Lib.hid htz2
                  clear hkeep hgone htz2 hTX
                  go_upto_region 22 with (go_at_call 13; (with_reducible refine HMK.out.mono ?_); rintro e w21 ⟨rfl, hb21⟩)
                  have HX2 := Lib.hid (HX.out.keep hb21)
                  clear t0a t1a t2a HMK HX HTX hb21
                  go_upto_region 25 with (go_at_call 11; (with_reducible refine (num_any _ _).mono ?_); rintro e w4 ⟨rfl, rfl⟩)
                  go_loopw [25] (fun s25 wr => ∃ q : Nat, q ≤ bh ∧ s25 = .int .i64 (q : Int) ∧ Hid (KeyAt wr B (turnsK k q) ∧ Blk wr T8 0x24 #[.int .i64 m, .int .i64 s, .int .i64 i] ∧ Below w.heap.size w wr)) (fun s25 _ => bh - (intOf s25).toNat)
                  case atStart => exact ⟨0, Nat.zero_le _, rfl, Lib.hid ⟨HX2.out.key, HX2.out.tok, HX2.out.below⟩⟩
                  case round =>
                    obtain ⟨wp, rfl⟩ : ∃ wp : World, wp = wr := ⟨_, rfl⟩
                    obtain ⟨q, hq, rfl, HQ⟩ := hrel
                    have hgo := HX2.out.go.turns q
                    have hgh := hgo.hi
                    have HGO := Lib.hid hgo
                    clear hgo
                    by_cases hlt : q < bh
                    · have HTN := Lib.hid (Turn_ok moreB B (turnsK k q) wp (by decide) (by decide) HQ.out.1 HGO.out.there HGO.out.lo (by omega))
                      unfold moreB at HTN
                      go_wp2_with (first
                        | (go_at_call 16; (with_reducible refine HTN.out.mono ?_); rintro e w7 ⟨rfl, hk7, hbt7⟩)
                        | (go_at_call 11; (with_reducible refine (num_any _ _).mono ?_); rintro e w4 ⟨rfl, rfl⟩))
                      exact ⟨⟨q + 1, by omega, by go_num, Lib.hid ⟨hk7, HQ.out.2.1.but hbt7 HX2.out.ne.1, But.below HQ.out.2.2 hbt7 (fun b e => by have e : b = B := e; have := HX2.out.ne.2; omega)⟩⟩, by simp [intOf]; omega⟩
                    · obtain rfl : q = bh := by omega
                      clear hq hlt
                      have HTP := Lib.hid (HT0.out.keep HQ.out.2.2)
                      by_cases h2 : q ≤ 2
                      · have HOP := Lib.hid (Open_ok B (turnsK k q) TX m s i wp HQ.out.1 HTP.out HGO.out.there HGO.out.size (by have := HTZ2.out; omega) (HKP.out q h2))
                        have hq2i : (q : Int) ≤ 2 := by omega
                        go_upto_region 30 with (go_at_call 14; (with_reducible refine HOP.out.mono ?_); rintro e w29 ⟨rfl, hb29⟩)
                        obtain ⟨V, hV⟩ : ∃ b, w29.heap.size = b := ⟨_, rfl⟩
                        obtain ⟨W30, hW30⟩ : ∃ x, w29.alloc (.cells #[.int .i64 m, .int .i64 s, .int .i64 i] 36) = x := ⟨_, rfl⟩
                        have hb30 : Below wp.heap.size wp W30 := by rw [← hW30]; exact hb29.alloc hb29.size _
                        have hv30 : Blk W30 V 36 #[.int .i64 m, .int .i64 s, .int .i64 i] := by rw [← hW30, ← hV]; exact Blk.new w29 36 _
                        have hk30 := HQ.out.2.1.keep hb30
                        have v0 := hv30.cell 0
                        have v1 := hv30.cell 1
                        have v2 := hv30.cell 2
                        have k0 := hk30.cell 0
                        have k1 := hk30.cell 1
                        have k2 := hk30.cell 2
                        simp only [List.getElem?_toArray, List.getElem?_cons_zero, List.getElem?_cons_succ] at v0 v1 v2 k0 k1 k2
                        have HBF := Lib.hid (HQ.out.2.2.trans (hb30.mono HQ.out.2.2.size))
                        have HWK := Lib.hid (works_any W30 (HT0.out.keep HBF.out))
                        rw [hW30, hV]
                        clear hW30 hV hb30 hv30 hk30 hb29 HOP HTP HQ HGO HKP HGN
                        go_wp2_with (first
                          | (go_at_call 11; (with_reducible refine (num_any _ _).mono ?_); rintro e w4 ⟨rfl, rfl⟩)
                          | (go_at_call 6; (with_reducible refine HWK.out.mono ?_); rintro e w35 ⟨rfl, hb35⟩))
                        go_ret
                        exact ⟨rfl, HBF.out.trans (hb35.mono HBF.out.size)⟩
                      · have HOP := Lib.hid (Open_no B (turnsK k q) TX 162 wp HQ.out.1 HTP.out HGO.out.there HGO.out.size (by have := HTZ2.out; omega) (HGN.out q (by omega)))
                        have hq2i : ¬ (q : Int) ≤ 2 := by omega
                        go_upto_region 30 with (go_at_call 14; (with_reducible refine HOP.out.mono ?_); rintro e w29 ⟨rfl, hb29⟩)
                        obtain ⟨V, hV⟩ : ∃ b, w29.heap.size = b := ⟨_, rfl⟩
                        obtain ⟨W30, hW30⟩ : ∃ x, w29.alloc (.cells #[.int .i64 0, .int .i64 0, .int .i64 0] 36) = x := ⟨_, rfl⟩
                        have hb30 : Below wp.heap.size wp W30 := by rw [← hW30]; exact hb29.alloc hb29.size _
                        have hv30 : Blk W30 V 36 #[.int .i64 0, .int .i64 0, .int .i64 0] := by rw [← hW30, ← hV]; exact Blk.new w29 36 _
                        have v0 := hv30.cell 0
                        have v1 := hv30.cell 1
                        have v2 := hv30.cell 2
                        simp only [List.getElem?_toArray, List.getElem?_cons_zero, List.getElem?_cons_succ] at v0 v1 v2
                        have HBF := Lib.hid (HQ.out.2.2.trans (hb30.mono HQ.out.2.2.size))
                        have HWK := Lib.hid (works_any W30 (HT0.out.keep HBF.out))
                        rw [hW30, hV]
                        clear hW30 hV hb30 hv30 hb29 HOP HTP HQ HGO HKP HGN
                        go_wp2_with (first
                          | (go_at_call 11; (with_reducible refine (num_any _ _).mono ?_); rintro e w4 ⟨rfl, rfl⟩)
                          | (go_at_call 6; (with_reducible refine HWK.out.mono ?_); rintro e w35 ⟨rfl, hb35⟩))
                        go_ret
                        exact ⟨rfl, HBF.out.trans (hb35.mono HBF.out.size)⟩
                · have HMK := Lib.hid (Make_arg B k m s i w18 HX.out.key HX.out.go.there hT)
                  have HWK := Lib.hid (fun v (h : Below w18.heap.size w18 v) => works_any v (HTX.out.keep h))
                  clear hT
                  go_wp2_with (first
                    | (go_at_call 13; (with_reducible refine HMK.out.mono ?_); rintro e w21 ⟨rfl, hb21⟩)
                    | (go_at_call 11; (with_reducible refine (num_any _ _).mono ?_); rintro e w4 ⟨rfl, rfl⟩)
                    | (go_at_call 6; (with_reducible refine (HWK.out w21 hb21).mono ?_); rintro e w35 ⟨rfl, hb35⟩))
                  go_ret
                  exact ⟨rfl, HX.out.below.trans ((hb21.trans (hb35.mono hb21.size)).mono HX.out.below.size)⟩
              · go_upto_region 17 with fail
                go_cut [115] from 108 to 115 (fun s115 wx => s115 = .bool false ∧ wx = wu)
                case first =>
                  by_cases he : e = 0
                  · subst he
                    have hj0 : ¬ (j : Int) = 0 := fun h => hq ⟨rfl, by omega⟩
                    have hjb : ((j : Int) == 0) = false := beq_eq_false_iff_ne.2 hj0
                    have HJB := Lib.hid hjb
                    clear hq hjb
                    go_wp2_with (go_at_call 11; (with_reducible refine (num_any _ _).mono ?_); rintro e w4 ⟨rfl, rfl⟩)
                    go_meet
                    exact ⟨by first | rfl | rw [HJB.out], rfl⟩
                  · clear hq
                    go_wp2_with (go_at_call 11; (with_reducible refine (num_any _ _).mono ?_); rintro e w4 ⟨rfl, rfl⟩)
                    go_meet
                    exact ⟨rfl, rfl⟩
                case rest =>
                  obtain ⟨rfl, rfl⟩ := hcut
                  clear HU HI
                  go_upto_region 21 with fail
                  have t0b := HX.out.tok.cell 0
                  have t1b := HX.out.tok.cell 1
                  have t2b := HX.out.tok.cell 2
                  simp only [List.getElem?_toArray, List.getElem?_cons_zero, List.getElem?_cons_succ] at t0b t1b t2b
                  by_cases hT : TokOK m s i
                  · have HMK := Lib.hid (Make_ok B k m s i wc HX.out.key HTX.out HX.out.go.there HX.out.go.size.1 ⟨HX.out.go.lo, by have := HX.out.go.hi; omega⟩ hT)
                    have htz2 := tok_size k.s0 k.n0 m s i ⟨HX.out.go.lo, by have := HX.out.go.hi; omega⟩ hT
                    have hkeep : ∀ q, q ≤ 2 → openS (turnsK k q) (strB (spellS (tokB k.s0 k.n0 m s i))) = .ok (m, s, i) := fun q hq => open_kept _ k.s0 k.n0 m s i ⟨HX.out.go.lo, by have := HX.out.go.hi; omega⟩ hT (find_behind HX.out.go.there q hq)
                    have hgone : ∀ q, 3 ≤ q → openS (turnsK k q) (strB (spellS (tokB k.s0 k.n0 m s i))) = .error 162 := fun q hq => open_gone _ k.s0 k.n0 m s i ⟨HX.out.go.lo, by have := HX.out.go.hi; omega⟩ hT (find_beyond q hq)
                    obtain ⟨TX, hTX⟩ : ∃ x, strB (spellS (tokB k.s0 k.n0 m s i)) = x := ⟨_, rfl⟩
                    rw [hTX] at HMK htz2
                    simp only [hTX] at hkeep hgone
                    have HKP := Lib.hid hkeep
                    have HGN := Lib.hid hgone
                    have HTZ2 := Lib.hid htz2
                    clear hkeep hgone htz2 hTX
                    go_upto_region 22 with (go_at_call 13; (with_reducible refine HMK.out.mono ?_); rintro e w21 ⟨rfl, hb21⟩)
                    have HX2 := Lib.hid (HX.out.keep hb21)
                    clear t0b t1b t2b HMK HX HTX hb21
                    go_upto_region 25 with (go_at_call 11; (with_reducible refine (num_any _ _).mono ?_); rintro e w4 ⟨rfl, rfl⟩)
                    go_loopw [25] (fun s25 wr => ∃ q : Nat, q ≤ bh ∧ s25 = .int .i64 (q : Int) ∧ Hid (KeyAt wr B (turnsK k q) ∧ Blk wr T8 0x24 #[.int .i64 m, .int .i64 s, .int .i64 i] ∧ Below w.heap.size w wr)) (fun s25 _ => bh - (intOf s25).toNat)
                    case atStart => exact ⟨0, Nat.zero_le _, rfl, Lib.hid ⟨HX2.out.key, HX2.out.tok, HX2.out.below⟩⟩
                    case round =>
                      obtain ⟨wp, rfl⟩ : ∃ wp : World, wp = wr := ⟨_, rfl⟩
                      obtain ⟨q, hq, rfl, HQ⟩ := hrel
                      have hgo := HX2.out.go.turns q
                      have hgh := hgo.hi
                      have HGO := Lib.hid hgo
                      clear hgo
                      by_cases hlt : q < bh
                      · have HTN := Lib.hid (Turn_ok moreB B (turnsK k q) wp (by decide) (by decide) HQ.out.1 HGO.out.there HGO.out.lo (by omega))
                        unfold moreB at HTN
                        go_wp2_with (first
                          | (go_at_call 16; (with_reducible refine HTN.out.mono ?_); rintro e w7 ⟨rfl, hk7, hbt7⟩)
                          | (go_at_call 11; (with_reducible refine (num_any _ _).mono ?_); rintro e w4 ⟨rfl, rfl⟩))
                        exact ⟨⟨q + 1, by omega, by go_num, Lib.hid ⟨hk7, HQ.out.2.1.but hbt7 HX2.out.ne.1, But.below HQ.out.2.2 hbt7 (fun b e => by have e : b = B := e; have := HX2.out.ne.2; omega)⟩⟩, by simp [intOf]; omega⟩
                      · obtain rfl : q = bh := by omega
                        clear hq hlt
                        have HTP := Lib.hid (HT0.out.keep HQ.out.2.2)
                        by_cases h2 : q ≤ 2
                        · have HOP := Lib.hid (Open_ok B (turnsK k q) TX m s i wp HQ.out.1 HTP.out HGO.out.there HGO.out.size (by have := HTZ2.out; omega) (HKP.out q h2))
                          have hq2i : (q : Int) ≤ 2 := by omega
                          go_upto_region 30 with (go_at_call 14; (with_reducible refine HOP.out.mono ?_); rintro e w29 ⟨rfl, hb29⟩)
                          obtain ⟨V, hV⟩ : ∃ b, w29.heap.size = b := ⟨_, rfl⟩
                          obtain ⟨W30, hW30⟩ : ∃ x, w29.alloc (.cells #[.int .i64 m, .int .i64 s, .int .i64 i] 36) = x := ⟨_, rfl⟩
                          have hb30 : Below wp.heap.size wp W30 := by rw [← hW30]; exact hb29.alloc hb29.size _
                          have hv30 : Blk W30 V 36 #[.int .i64 m, .int .i64 s, .int .i64 i] := by rw [← hW30, ← hV]; exact Blk.new w29 36 _
                          have hk30 := HQ.out.2.1.keep hb30
                          have v0 := hv30.cell 0
                          have v1 := hv30.cell 1
                          have v2 := hv30.cell 2
                          have k0 := hk30.cell 0
                          have k1 := hk30.cell 1
                          have k2 := hk30.cell 2
                          simp only [List.getElem?_toArray, List.getElem?_cons_zero, List.getElem?_cons_succ] at v0 v1 v2 k0 k1 k2
                          have HBF := Lib.hid (HQ.out.2.2.trans (hb30.mono HQ.out.2.2.size))
                          have HWK := Lib.hid (works_any W30 (HT0.out.keep HBF.out))
                          rw [hW30, hV]
                          clear hW30 hV hb30 hv30 hk30 hb29 HOP HTP HQ HGO HKP HGN
                          go_wp2_with (first
                            | (go_at_call 11; (with_reducible refine (num_any _ _).mono ?_); rintro e w4 ⟨rfl, rfl⟩)
                            | (go_at_call 6; (with_reducible refine HWK.out.mono ?_); rintro e w35 ⟨rfl, hb35⟩))
                          go_ret
                          exact ⟨rfl, HBF.out.trans (hb35.mono HBF.out.size)⟩
                        · have HOP := Lib.hid (Open_no B (turnsK k q) TX 162 wp HQ.out.1 HTP.out HGO.out.there HGO.out.size (by have := HTZ2.out; omega) (HGN.out q (by omega)))
                          have hq2i : ¬ (q : Int) ≤ 2 := by omega
                          go_upto_region 30 with (go_at_call 14; (with_reducible refine HOP.out.mono ?_); rintro e w29 ⟨rfl, hb29⟩)
                          obtain ⟨V, hV⟩ : ∃ b, w29.heap.size = b := ⟨_, rfl⟩
                          obtain ⟨W30, hW30⟩ : ∃ x, w29.alloc (.cells #[.int .i64 0, .int .i64 0, .int .i64 0] 36) = x := ⟨_, rfl⟩
                          have hb30 : Below wp.heap.size wp W30 := by rw [← hW30]; exact hb29.alloc hb29.size _
                          have hv30 : Blk W30 V 36 #[.int .i64 0, .int .i64 0, .int .i64 0] := by rw [← hW30, ← hV]; exact Blk.new w29 36 _
                          have v0 := hv30.cell 0
                          have v1 := hv30.cell 1
                          have v2 := hv30.cell 2
                          simp only [List.getElem?_toArray, List.getElem?_cons_zero, List.getElem?_cons_succ] at v0 v1 v2
                          have HBF := Lib.hid (HQ.out.2.2.trans (hb30.mono HQ.out.2.2.size))
                          have HWK := Lib.hid (works_any W30 (HT0.out.keep HBF.out))
                          rw [hW30, hV]
                          clear hW30 hV hb30 hv30 hb29 HOP HTP HQ HGO HKP HGN
                          go_wp2_with (first
                            | (go_at_call 11; (with_reducible refine (num_any _ _).mono ?_); rintro e w4 ⟨rfl, rfl⟩)
                            | (go_at_call 6; (with_reducible refine HWK.out.mono ?_); rintro e w35 ⟨rfl, hb35⟩))
                          go_ret
                          exact ⟨rfl, HBF.out.trans (hb35.mono HBF.out.size)⟩
                  · have HMK := Lib.hid (Make_arg B k m s i wc HX.out.key HX.out.go.there hT)
                    have HWK := Lib.hid (fun v (h : Below wc.heap.size wc v) => works_any v (HTX.out.keep h))
                    clear hT
                    go_wp2_with (first
                      | (go_at_call 13; (with_reducible refine HMK.out.mono ?_); rintro e w21 ⟨rfl, hb21⟩)
                      | (go_at_call 11; (with_reducible refine (num_any _ _).mono ?_); rintro e w4 ⟨rfl, rfl⟩)
                      | (go_at_call 6; (with_reducible refine (HWK.out w21 hb21).mono ?_); rintro e w35 ⟨rfl, hb35⟩))
                    go_ret
                    exact ⟨rfl, HX.out.below.trans ((hb21.trans (hb35.mono hb21.size)).mono HX.out.below.size)⟩
      · have hkn := KNew_no f wy (by omega) hf1
        have HKN := Lib.hid hkn
        have HWK := fun v (h : Below wy.heap.size wy v) => works_any v (HTT.out.keep h)
        have HWK := Lib.hid HWK
        clear hkn hTw hf1
        go_wp2_with (first
          | (go_at_call 12; (with_reducible refine HKN.out.mono ?_); rintro e w6 ⟨rfl, hb6⟩)
          | (go_at_call 11; (with_reducible refine (num_any _ _).mono ?_); rintro e w4 ⟨rfl, rfl⟩)
          | (go_at_call 6; (with_reducible refine (HWK.out w6 hb6).mono ?_); rintro e w8 ⟨rfl, hb8⟩))
        go_ret
        exact ⟨rfl, HBY.out.trans ((hb6.trans (hb8.mono hb6.size)).mono HBY.out.size)⟩

end Go.Proofs
