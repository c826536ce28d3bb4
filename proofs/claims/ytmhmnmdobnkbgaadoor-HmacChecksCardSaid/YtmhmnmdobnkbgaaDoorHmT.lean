/-
  The walk of the law HmacChecks, where works is under contract (the hypothesis hw5).
-/
import Derived.Deep.CutRange
import Derived.Test.YtmhmnmdobnkbgaaDoorM18
namespace Go.Proofs
open Go.RowKit Sm
set_option maxRecDepth 100000 in
set_option maxHeartbeats 2000000 in
theorem Sm.checks5_no (hw5 : Works5) (n1 c1 n c nt ct : Nat) (A1 A At : Option Addr) (own : Bool) (m at_ : Int) (by_ : BitVec 8) (ps : List Pt) (w : World) (ht : Tabs w) (h : PsC w A n ps) (hnm : n ≤ 9223372036854775807) (hf : ¬ (Few 10 ps ∧ n1 ≤ 200)) :
    Calls Tryd.prog 5 #[.slice A1 n1 c1, .slice A n c, .slice At nt ct, .bool own, .int .i64 m, .int .i64 at_, .int .u8 (ib by_)] w fun e w' => e = .returned (.bool true) ∧ Below w.heap.size w w' := by
  have hj := joined5_no A1 n1 c1 A n c ps w h hnm hf
  have hw := fun v (hb : Below w.heap.size w v) => works5_from hw5 hb ht
  clear h hf ht
  go_enter Tryd.func5, Tryd.ntmps5
  go_wp2_with (first
    | (go_at_call 13; (with_reducible refine hj.mono ?_); clear hj; rintro e w1 ⟨rfl, hb1⟩)
    | (go_at_call 14; (with_reducible refine (hw _ hb1).mono ?_); clear hw; rintro e w2 ⟨rfl, hb2⟩))
  go_ret
  exact ⟨rfl, hb2⟩
set_option maxRecDepth 100000 in
set_option maxHeartbeats 2000000 in
theorem Sm.checks5_long (hw5 : Works5) (n1 c1 n c nt ct : Nat) (A1 A At : Option Addr) (own : Bool) (m at_ : Int) (by_ : BitVec 8) (ps : List Pt) (w : World) (ht : Tabs w) (h : PsC w A n ps) (hf : Few 10 ps) (hn1 : n1 ≤ 200) (hnt : 100 < nt) :
    Calls Tryd.prog 5 #[.slice A1 n1 c1, .slice A n c, .slice At nt ct, .bool own, .int .i64 m, .int .i64 at_, .int .u8 (ib by_)] w fun e w' => e = .returned (.bool true) ∧ Below w.heap.size w w' := by
  have hj := joined5_yes A1 n1 c1 A n c ps w h hf hn1
  have hw := fun v (hb : Below w.heap.size w v) => works5_from hw5 hb ht
  have h1 : (100 : Int) < (nt : Int) := by omega
  clear h hf ht hnt
  go_enter Tryd.func5, Tryd.ntmps5
  go_wp2_with (first
    | (go_at_call 13; (with_reducible refine hj.mono ?_); clear hj; rintro e w1 ⟨v1, rfl, _, hb1⟩)
    | (go_at_call 14; (with_reducible refine (hw _ hb1).mono ?_); clear hw; rintro e w2 ⟨rfl, hb2⟩))
  go_ret
  exact ⟨rfl, hb2⟩
/-- the bytes that are checked -/
structure Sm.ChAt (w1 wx : World) (A17 : Option Addr) (c17 : Nat) (D : List (BitVec 8)) (A' : Option Addr) (n' : Nat) (tg : List (BitVec 8)) : Prop where
  len : tg.length = n'
  most : n' ≤ 100
  rd : Rd wx wx.heap.size A' tg
  rdt : Rd wx wx.heap.size A17 D
  cap : 32 ≤ c17
  below : Below w1.heap.size w1 wx
theorem Sm.ChAt.keep {w1 wx w' : World} {A17 A' : Option Addr} {c17 n' : Nat} {D tg : List (BitVec 8)} (h : ChAt w1 wx A17 c17 D A' n' tg) (hb : Below wx.heap.size wx w') : ChAt w1 w' A17 c17 D A' n' tg :=
  ⟨h.len, h.most, (h.rd.below hb).more hb.size, (h.rdt.below hb).more hb.size, h.cap, h.below.trans (hb.mono h.below.size)⟩
set_option maxRecDepth 100000 in
set_option maxHeartbeats 8000000 in
theorem Sm.checks5_yes (hw5 : Works5) (n1 c1 n c nt ct : Nat) (A1 A At : Option Addr) (own : Bool) (m at_ : Int) (by_ : BitVec 8) (key tag : List (BitVec 8)) (ps : List Pt) (w : World) (ht : Tabs w) (h : PsC w A n ps) (hf : Few 10 ps) (hn1 : n1 ≤ 200) (hnt : nt ≤ 100) (hk : key.length = n1) (hr : Rd w w.heap.size A1 key) (hc1 : n1 ≤ c1) (hc2 : c1 ≤ 9223372036854775807) (hlt : tag.length = nt) (hrt : Rd w w.heap.size At tag) :
    Calls Tryd.prog 5 #[.slice A1 n1 c1, .slice A n c, .slice At nt ct, .bool own, .int .i64 m, .int .i64 at_, .int .u8 (ib by_)] w fun e w' => e = .returned (.bool true) ∧ Below w.heap.size w w' := by
  obtain ⟨i0, hi, hz0, hz1, hz2⟩ := info_parts info5
  have hj := joined5_yes A1 n1 c1 A n c ps w h hf hn1
  have hlen : (joinP ps).length ≤ 4000 := by
    have := joinP_take_le ps ps.length (fun p hp => by rw [List.take_length] at hp; rw [(h.each p hp).len]; exact hf.2 p hp) (by have := hf.1; omega)
    rwa [List.take_length] at this
  obtain ⟨J, hJ⟩ : ∃ J, joinP ps = J := ⟨_, rfl⟩
  have hTl := tagS_length key J
  obtain ⟨D, hD⟩ : ∃ D, tagS key J = D := ⟨_, rfl⟩
  have hck : ∀ (v : World) (A' : Option Addr) (n' c' : Nat) (tg : List (BitVec 8)), Below w.heap.size w v → 8 ≤ n' → n' ≤ 32 → tg.length = n' → Rd v v.heap.size A' tg → Calls Tryd.prog 19 #[.slice A1 n1 c1, .slice A' n' c', .slice A n c] v fun e w' => e = .returned (.tuple #[.bool (decide (D.take n' = tg)), .int .i64 0]) ∧ Below v.heap.size v w' := fun v A' n' c' tg hb h8 h32 hl hrg => by
    rw [← hD, ← hJ]
    exact Check_yes n1 c1 n' c' n c A1 A' A key tg ps v h8 h32 hl hrg (ht.keep hb) hk (by omega) hc1 hc2 ((hr.below hb).more hb.size) (fun g hg => (h.below hb).ok (by have := hf.1; have := h.len; omega) g hg) (by omega)
  have hrf : ∀ (v : World) (A3 : Option Addr) (L c3 : Nat), J.length = L → Below w.heap.size w v → Rd v v.heap.size A3 J → Calls Tryd.prog 16 #[.slice A1 n1 c1, .slice A3 L c3] v fun e w' => ∃ A' c', e = .returned (.slice A' 32 c') ∧ Rd w' w'.heap.size A' D ∧ 32 ≤ c' ∧ Below v.heap.size v w' := fun v A3 L c3 hL hb0 hr3 => by
    rw [← hD]
    exact (refTag_any n1 c1 L c3 A1 A3 key J v hk (by omega) hL (by rw [hJ] at hlen; omega) ((hr.below hb0).more hb0.size) hr3).mono fun _ _ ⟨A', c', e, p, q, _, r⟩ => ⟨A', c', e, p, r, q⟩
  rw [hD] at hTl
  rw [hJ] at hj hlen
  obtain ⟨L, hL⟩ : ∃ L, J.length = L := ⟨_, rfl⟩
  rw [hL] at hj hlen
  have h1 : ¬ ((100 : Int) < (nt : Int)) := by omega
  obtain ⟨k, hkm⟩ : ∃ k : Nat, max 0 (min 32 m) = (k : Int) := ⟨(max 0 (min 32 m)).toNat, by omega⟩
  have hk32 : k ≤ 32 := by omega
  have HJ := Lib.hid hj
  have HW5 := Lib.hid hw5
  have HT := Lib.hid ht
  have HCK := Lib.hid hck
  have HRF := Lib.hid hrf
  have HDL := Lib.hid hTl
  have HL := Lib.hid hL
  have HTG := Lib.hid (And.intro hlt hrt)
  clear hw5 h hf ht hj hk hr hck hrf hTl hL hJ hD hc1 hc2 hlt hrt
  go_enter Tryd.func5, Tryd.ntmps5
  go_upto_region 4 with (go_at_call 13; (with_reducible refine HJ.out.mono ?_); rintro e w1 ⟨v1, rfl, hown1, hb1⟩)
  obtain ⟨A7, c7, rfl⟩ := own_slice hown1
  have hr7 : Rd w1 w1.heap.size A7 J := Rd.of_own hown1 (Nat.le_refl _)
  have HB1 := Lib.hid hb1
  have HRF1 := Lib.hid (HRF.out w1 A7 L c7 HL.out hb1 hr7)
  clear hown1 hr7 hb1 HJ HRF
  go_upto_region 5 with (go_at_call 16; (with_reducible refine HRF1.out.mono ?_); rintro e w2 ⟨A17, c17, rfl, hr17, hc17, hb2⟩)
  obtain ⟨tb, tf, rfl, htb⟩ : ∃ b off, A17 = some ⟨b, off, none⟩ ∧ True := by
    obtain ⟨b, off, e, _⟩ := hr17 (by rw [HDL.out]; decide)
    exact ⟨b, off, e, trivial⟩
  clear htb
  have hbw2 := HB1.out.trans (hb2.mono HB1.out.size)
  have HCH : Hid (ChAt w1 w2 (some ⟨tb, tf, none⟩) c17 D At nt tag) := Lib.hid ⟨HTG.out.1, hnt, ((HTG.out.2.below hbw2).more hbw2.size), hr17, hc17, hb2⟩
  clear hbw2 hr17 hb2 HRF1
  go_upto_if 37 with fail
  go_cut [2] from 38 to 61 (fun s2 wx => ∃ (A' : Option Addr) (n' c' : Nat) (tg : List (BitVec 8)), s2 = .slice A' n' c' ∧ Hid (ChAt w1 wx (some ⟨tb, tf, none⟩) c17 D A' n' tg))
  case first =>
    cases own
    · go_wp2_with fail
      go_meet
      exact ⟨_, _, _, _, rfl, HCH⟩
    · go_upto_region 6 with fail
      go_cut [2] from 38 to 44 (fun s2 wx => ∃ (A' : Option Addr) (c' : Nat), s2 = .slice A' k c' ∧ Hid (wx.ownsRow w2.heap.size 5 1 (.slice A' k c') k ((D.take k).map byteCell)) ∧ Hid (Below w2.heap.size w2 wx))
      case first =>
        have htk : (D.take k).length = k := by rw [List.length_take, HDL.out]; omega
        have HRK : Hid (Rd (w2.alloc (.cells #[] 5)) w2.heap.size (some ⟨tb, tf, none⟩) (D.take k)) := Lib.hid ((HCH.out.rdt.take k).alloc (Nat.le_refl _) _)
        have HTKL := Lib.hid htk
        clear htk
        rcases (show m ≤ 0 ∨ (0 < m ∧ m < 32) ∨ 32 ≤ m by omega) with hm | hm | hm
        · have hk0 : (k : Int) = 0 := by omega
          obtain rfl : k = 0 := by omega
          clear hk0 hkm
          go_wp2_with (at_builtin; refine wpList_append_rd _ rfl (.tmp 38) (.tmp 43) 0x16 rfl w2.heap.size 5 i0 _ Tryd.underlying22 hi hz0 hz1 hz2 rfl _ 0 [] rfl (World.ownsRow_made w2 #[] 0 (Nat.le_refl _) (by decide) rfl) w2.heap.size (some ⟨tb, tf, none⟩) 0 c17 (D.take 0) rfl HTKL.out HRK.out (by omega) (by simp) ?_; intro v44 w44 hown44 hg44 _; rw [Nat.zero_add] at hown44; obtain ⟨A44, c44, rfl⟩ := own_slice hown44; have hba : Below w2.heap.size w2 (w2.alloc (.cells #[] 5)) := (Below.refl _ _).alloc (Nat.le_refl _) _; have hb44 : Below w2.heap.size w2 w44 := hba.grown hg44 hba.size (fun g e => by cases e; exact Nat.le_refl _))
          go_meet
          exact ⟨_, _, rfl, Lib.hid hown44, Lib.hid hb44⟩
        · obtain ⟨hm0, hm1⟩ := hm
          obtain rfl : m = (k : Int) := by omega
          clear hkm
          go_wp2_with (at_builtin; refine wpList_append_rd _ rfl (.tmp 38) (.tmp 43) 0x16 rfl w2.heap.size 5 i0 _ Tryd.underlying22 hi hz0 hz1 hz2 rfl _ 0 [] rfl (World.ownsRow_made w2 #[] 0 (Nat.le_refl _) (by decide) rfl) w2.heap.size (some ⟨tb, tf, none⟩) k c17 (D.take k) rfl HTKL.out HRK.out (by omega) (by simp) ?_; intro v44 w44 hown44 hg44 _; rw [Nat.zero_add] at hown44; obtain ⟨A44, c44, rfl⟩ := own_slice hown44; have hba : Below w2.heap.size w2 (w2.alloc (.cells #[] 5)) := (Below.refl _ _).alloc (Nat.le_refl _) _; have hb44 : Below w2.heap.size w2 w44 := hba.grown hg44 hba.size (fun g e => by cases e; exact Nat.le_refl _))
          go_meet
          exact ⟨_, _, rfl, Lib.hid hown44, Lib.hid hb44⟩
        · have hk0 : (k : Int) = 32 := by omega
          obtain rfl : k = 32 := by omega
          clear hk0 hkm
          go_wp2_with (at_builtin; refine wpList_append_rd _ rfl (.tmp 38) (.tmp 43) 0x16 rfl w2.heap.size 5 i0 _ Tryd.underlying22 hi hz0 hz1 hz2 rfl _ 0 [] rfl (World.ownsRow_made w2 #[] 0 (Nat.le_refl _) (by decide) rfl) w2.heap.size (some ⟨tb, tf, none⟩) 32 c17 (D.take 32) rfl HTKL.out HRK.out (by omega) (by simp) ?_; intro v44 w44 hown44 hg44 _; rw [Nat.zero_add] at hown44; obtain ⟨A44, c44, rfl⟩ := own_slice hown44; have hba : Below w2.heap.size w2 (w2.alloc (.cells #[] 5)) := (Below.refl _ _).alloc (Nat.le_refl _) _; have hb44 : Below w2.heap.size w2 w44 := hba.grown hg44 hba.size (fun g e => by cases e; exact Nat.le_refl _))
          go_meet
          exact ⟨_, _, rfl, Lib.hid hown44, Lib.hid hb44⟩
      case rest =>
        obtain ⟨A44, c44, rfl, HO44, HB44⟩ := hcut
        have htk : (D.take k).length = k := by rw [List.length_take, HDL.out]; omega
        have HTKL := Lib.hid htk
        have hkeep : ∀ (V : World) (tg : List (BitVec 8)), tg.length = k → Below w2.heap.size w2 V → V.ownsRow w2.heap.size 5 1 (.slice A44 k c44) k (tg.map byteCell) → ChAt w1 V (some ⟨tb, tf, none⟩) c17 D A44 k tg := fun V tg hl hb ho =>
          ⟨hl, by omega, Rd.of_own ho (Nat.le_refl _), (HCH.out.rdt.below hb).more hb.size, hc17, HCH.out.below.trans (hb.mono HCH.out.below.size)⟩
        have HKEEP := Lib.hid hkeep
        clear htk hkeep hkm
        by_cases hin : 0 ≤ at_ ∧ at_ < (k : Int)
        · obtain ⟨hat0, hat1⟩ := hin
          obtain ⟨j, rfl⟩ : ∃ j : Nat, at_ = (j : Int) := ⟨at_.toNat, by omega⟩
          have hjk : j < k := by omega
          obtain ⟨g, rfl, hgb⟩ := own_at HO44.out (by omega)
          obtain ⟨x, hx⟩ : ∃ x, (D.take k)[j]? = some x := ⟨_, List.getElem?_eq_getElem (by rw [HTKL.out]; exact hjk)⟩
          have hc : wc.cell? ⟨g, j, none⟩ = some (.int .u8 (ib x)) := (HO44.out.cellAt j (by omega)).trans (by rw [List.getElem?_map, hx]; rfl)
          have hf := HO44.out.frozenAt j
          have hst := own_put HO44.out j (x + by_)
          have hbs := HB44.out.setCell (p := ⟨g, j, none⟩) hgb (.int .u8 (ib (x + by_)))
          have HST := Lib.hid (HKEEP.out _ _ (by rw [List.length_set]; exact HTKL.out) hbs hst)
          have hadd : (ib x + ib by_) % 256 = ib (x + by_) := by unfold ib; rw [BitVec.toNat_add]; omega
          have hx0 := ib_lo x
          have hx1 := ib_hi x
          have hy0 := ib_lo by_
          have hy1 := ib_hi by_
          clear hx hst hbs
          go_wp2_with fail
          go_meet
          exact ⟨_, _, _, _, rfl, HST⟩
        · have HFIN := Lib.hid (HKEEP.out _ _ HTKL.out HB44.out HO44.out)
          by_cases h0 : 0 ≤ at_
          · have h1 : ¬ (at_ < (k : Int)) := fun e => hin ⟨h0, e⟩
            clear hin
            go_wp2_with fail
            go_meet
            exact ⟨_, _, _, _, rfl, HFIN⟩
          · clear hin
            go_wp2_with fail
            go_meet
            exact ⟨_, _, _, _, rfl, HFIN⟩
  case rest =>
    obtain ⟨A', n', c', tg, rfl, HCX⟩ := hcut
    clear hkm hk32 HCH HTG
    have hbw := HB1.out.trans (HCX.out.below.mono HB1.out.size)
    have htx := HT.out.keep hbw
    have HBW := Lib.hid hbw
    have HTX := Lib.hid htx
    by_cases hn8 : n' < 8 ∨ 32 < n'
    · have hno := Check_no n1 c1 n' c' n c A1 A' A wc hn8
      have hwk := fun v (hb : Below wc.heap.size wc v) => works5_from HW5.out hb htx
      have HNO := Lib.hid hno
      have HWK := Lib.hid hwk
      clear hno hwk hbw htx
      by_cases h8 : (n' : Int) < 8
      · clear hn8
        go_wp2_with (first
          | (go_at_call 19; (with_reducible refine HNO.out.mono ?_); rintro e w' ⟨rfl, rfl⟩)
          | (go_at_call 18; (with_reducible refine (num5_any _ _).mono ?_); rintro e w' ⟨rfl, rfl⟩)
          | (go_at_call 14; (with_reducible refine (HWK.out _ (Below.refl _ _)).mono ?_); rintro e w12 ⟨rfl, hb12⟩))
        go_ret
        exact ⟨rfl, HBW.out.trans (hb12.mono HBW.out.size)⟩
      · have h32 : (32 : Int) < (n' : Int) := by omega
        clear hn8
        go_wp2_with (first
          | (go_at_call 19; (with_reducible refine HNO.out.mono ?_); rintro e w' ⟨rfl, rfl⟩)
          | (go_at_call 18; (with_reducible refine (num5_any _ _).mono ?_); rintro e w' ⟨rfl, rfl⟩)
          | (go_at_call 14; (with_reducible refine (HWK.out _ (Below.refl _ _)).mono ?_); rintro e w12 ⟨rfl, hb12⟩))
        go_ret
        exact ⟨rfl, HBW.out.trans (hb12.mono HBW.out.size)⟩
    · have hck := HCK.out wc A' n' c' tg hbw (by omega) (by omega) HCX.out.len HCX.out.rd
      have heq := strB_eq (D.take n') tg
      have hRl : (D.take n').length = n' := by rw [List.length_take, HDL.out]; omega
      obtain ⟨R, hR⟩ : ∃ R, D.take n' = R := ⟨_, rfl⟩
      rw [hR] at hck heq hRl
      obtain ⟨q, hq⟩ : ∃ q, decide (R = tg) = q := ⟨_, rfl⟩
      rw [hq] at hck heq
      have hn0 : ¬ ((n' : Int) < 8) := by omega
      have hn1' : ¬ ((32 : Int) < (n' : Int)) := by omega
      have hcc := HCX.out.cap
      have hn32 : n' ≤ 32 := by omega
      have HCK9 := Lib.hid hck
      have HRL := Lib.hid hRl
      have HTK := Lib.hid hR
      clear hck hRl hR hq hn8 hbw htx HCK
      go_upto_region 10 with (go_at_call 19; (with_reducible refine HCK9.out.mono ?_); rintro e X ⟨rfl, hbX⟩)
      have hcx := HCX.out.keep hbX
      have hcv : ∀ W, Below X.heap.size X W → (convert 0x16 9 (.slice (some ⟨tb, tf, none⟩) n' c17)).run Tryd.prog W = .ok (.string (strB R)) W ∧ (convert 0x16 9 (.slice A' n' c')).run Tryd.prog W = .ok (.string (strB tg)) W := fun W hb =>
        ⟨conv_rd HRL.out (by rw [← HTK.out]; exact (((hcx.rdt.take n').below hb).more hb.size)), conv_rd hcx.len ((hcx.rd.below hb).more hb.size)⟩
      have htX := HTX.out.keep hbX
      have HBX := Lib.hid (HBW.out.trans (hbX.mono HBW.out.size))
      have HCV := Lib.hid hcv
      have HTX2 := Lib.hid htX
      have q0 := hcv X (Below.refl _ _)
      have q0d := hcv X.drew (Below.refl _ _).drew
      have HWK := Lib.hid (fun v (hb : Below X.heap.size X v) => works5_from HW5.out hb htX)
      clear hcx hcv htX hbX HCK9 HCX HTX HBW
      cases q
      all_goals
        go_upto_region 12 with fail
        go_region_held_law (fun W => (convert 0x16 9 (.slice (some ⟨tb, tf, none⟩) n' c17)).run Tryd.prog W = .ok (.string (strB R)) W ∧ (convert 0x16 9 (.slice A' n' c')).run Tryd.prog W = .ok (.string (strB tg)) W)
          (first | exact q12 | exact q0d | exact q0)
          (first
          | (go_at_call 18; (with_reducible refine (num5_any _ _).mono ?_); rintro e w' ⟨rfl, rfl⟩)
          | (go_at_call 14; (with_reducible refine (HWK.out _ (Below.refl _ _).drew).mono ?_); rintro e w12 ⟨rfl, hb12⟩; have q12 := HCV.out w12 hb12))
        all_goals
         go_wp2
         go_ret
         exact ⟨rfl, HBX.out.trans (hb12.mono HBX.out.size)⟩
theorem Sm.checks5_law (hw5 : Works5) (n1 c1 n c nt ct : Nat) (A1 A At : Option Addr) (own : Bool) (m at_ : Int) (by_ : BitVec 8) (key tag : List (BitVec 8)) (ps : List Pt) (w : World) (ht : Tabs w) (h : PsC w A n ps) (hk : key.length = n1) (hr : Rd w w.heap.size A1 key) (hc : n1 ≤ c1 ∧ c1 ≤ 9223372036854775807) (hnm : n ≤ 9223372036854775807) (hlt : tag.length = nt) (hrt : Rd w w.heap.size At tag) :
    Calls Tryd.prog 5 #[.slice A1 n1 c1, .slice A n c, .slice At nt ct, .bool own, .int .i64 m, .int .i64 at_, .int .u8 (ib by_)] w fun e w' => e = .returned (.bool true) ∧ Below w.heap.size w w' := by
  by_cases hf : Few 10 ps ∧ n1 ≤ 200
  · by_cases hnt : 100 < nt
    · exact checks5_long hw5 n1 c1 n c nt ct A1 A At own m at_ by_ ps w ht h hf.1 hf.2 hnt
    · exact checks5_yes hw5 n1 c1 n c nt ct A1 A At own m at_ by_ key tag ps w ht h hf.1 hf.2 (by omega) hk hr hc.1 hc.2 hlt hrt
  · exact checks5_no hw5 n1 c1 n c nt ct A1 A At own m at_ by_ ps w ht h hnm hf
end Go.Proofs
