/-
  The walk of the law HmacShorts, where works is under contract (the hypothesis hw5).
-/
import Derived.Test.YtmhmnmdobnkbgaaDoorM18
namespace Go.Proofs
open Go.RowKit Sm
set_option maxRecDepth 100000 in
set_option maxHeartbeats 2000000 in
theorem Sm.shorts5_no (hw5 : Works5) (n1 c1 n c : Nat) (A1 A : Option Addr) (m : Int) (ps : List Pt) (w : World) (ht : Tabs w) (h : PsC w A n ps) (hnm : n ≤ 9223372036854775807) (hf : ¬ (Few 10 ps ∧ n1 ≤ 200)) :
    Calls Tryd.prog 4 #[.slice A1 n1 c1, .int .i64 m, .slice A n c] w fun e w' => e = .returned (.bool true) ∧ Below w.heap.size w w' := by
  have hj := joined5_no A1 n1 c1 A n c ps w h hnm hf
  have hw := fun v (hb : Below w.heap.size w v) => works5_from hw5 hb ht
  clear h hf ht
  go_enter Tryd.func4, Tryd.ntmps4
  go_wp2_with (first
    | (go_at_call 13; (with_reducible refine hj.mono ?_); clear hj; rintro e w1 ⟨rfl, hb1⟩)
    | (go_at_call 14; (with_reducible refine (hw _ hb1).mono ?_); clear hw; rintro e w2 ⟨rfl, hb2⟩))
  go_ret
  exact ⟨rfl, hb2⟩
set_option maxRecDepth 100000 in
set_option maxHeartbeats 4000000 in
theorem Sm.shorts5_out (hw5 : Works5) (n1 c1 n c : Nat) (A1 A : Option Addr) (m : Int) (ps : List Pt) (w : World) (ht : Tabs w) (h : PsC w A n ps) (hf : Few 10 ps) (hn1 : n1 ≤ 200) (hm : m < 8 ∨ 32 < m) :
    Calls Tryd.prog 4 #[.slice A1 n1 c1, .int .i64 m, .slice A n c] w fun e w' => e = .returned (.bool true) ∧ Below w.heap.size w w' := by
  have hj := joined5_yes A1 n1 c1 A n c ps w h hf hn1
  have hw := fun v (hb : Below w.heap.size w v) => works5_from hw5 hb ht
  have hs := fun v => Short_no m n1 c1 n c A1 A v hm
  have HJ := Lib.hid hj
  have HW := Lib.hid hw
  have HS := Lib.hid hs
  clear h hf ht hj hw hs
  by_cases h8 : m < 8
  · clear hm
    go_enter Tryd.func4, Tryd.ntmps4
    go_wp2_with (first
      | (go_at_call 13; (with_reducible refine HJ.out.mono ?_); rintro e w1 ⟨v1, rfl, _, hb1⟩)
      | (go_at_call 17; (with_reducible refine (HS.out _).mono ?_); rintro e w' ⟨rfl, rfl⟩)
      | (go_at_call 18; (with_reducible refine (num5_any _ _).mono ?_); rintro e w' ⟨rfl, rfl⟩)
      | (go_at_call 14; (with_reducible refine (HW.out _ hb1).mono ?_); rintro e w2 ⟨rfl, hb2⟩))
    go_ret
    exact ⟨rfl, hb2⟩
  · have h32 : 32 < m := by omega
    clear hm
    go_enter Tryd.func4, Tryd.ntmps4
    go_wp2_with (first
      | (go_at_call 13; (with_reducible refine HJ.out.mono ?_); rintro e w1 ⟨v1, rfl, _, hb1⟩)
      | (go_at_call 17; (with_reducible refine (HS.out _).mono ?_); rintro e w' ⟨rfl, rfl⟩)
      | (go_at_call 18; (with_reducible refine (num5_any _ _).mono ?_); rintro e w' ⟨rfl, rfl⟩)
      | (go_at_call 14; (with_reducible refine (HW.out _ hb1).mono ?_); rintro e w2 ⟨rfl, hb2⟩))
    go_ret
    exact ⟨rfl, hb2⟩
set_option maxRecDepth 100000 in
set_option maxHeartbeats 4000000 in
theorem Sm.shorts5_in (hw5 : Works5) (n1 c1 n c m : Nat) (A1 A : Option Addr) (key : List (BitVec 8)) (ps : List Pt) (w : World) (ht : Tabs w) (h : PsC w A n ps) (hf : Few 10 ps) (hn1 : n1 ≤ 200) (hk : key.length = n1) (hr : Rd w w.heap.size A1 key) (hc1 : n1 ≤ c1) (hc2 : c1 ≤ 9223372036854775807) (h8 : 8 ≤ m) (h32 : m ≤ 32) :
    Calls Tryd.prog 4 #[.slice A1 n1 c1, .int .i64 (m : Int), .slice A n c] w fun e w' => e = .returned (.bool true) ∧ Below w.heap.size w w' := by
  have hj := joined5_yes A1 n1 c1 A n c ps w h hf hn1
  have hlen : (joinP ps).length ≤ 4000 := by
    have := joinP_take_le ps ps.length (fun p hp => by rw [List.take_length] at hp; rw [(h.each p hp).len]; exact hf.2 p hp) (by have := hf.1; omega)
    rwa [List.take_length] at this
  obtain ⟨J, hJ⟩ : ∃ J, joinP ps = J := ⟨_, rfl⟩
  have hTl := tagS_length key J
  obtain ⟨D, hD⟩ : ∃ D, tagS key J = D := ⟨_, rfl⟩
  have hsh : ∀ (v : World), Below w.heap.size w v → Calls Tryd.prog 17 #[.slice A1 n1 c1, .int .i64 (m : Int), .slice A n c] v fun e w' => ∃ b, e = .returned (.tuple #[.slice (some ⟨b, 0, none⟩) m m, .int .i64 0]) ∧ Rd w' w'.heap.size (some ⟨b, 0, none⟩) (D.take m) ∧ Below v.heap.size v w' := fun v hb => by
    rw [← hD, ← hJ]
    exact Short_yes m n1 c1 n c A1 A key ps v h8 h32 (ht.keep hb) hk (by omega) hc1 hc2 ((hr.below hb).more hb.size) (fun g hg => (h.below hb).ok (by have := hf.1; have := h.len; omega) g hg) (by omega)
  have hrf : ∀ (v : World) (A3 : Option Addr) (L c3 : Nat), J.length = L → Below w.heap.size w v → Rd v v.heap.size A3 J → Calls Tryd.prog 16 #[.slice A1 n1 c1, .slice A3 L c3] v fun e w' => ∃ A' c', e = .returned (.slice A' 32 c') ∧ Rd w' w'.heap.size A' D ∧ 32 ≤ c' ∧ Below v.heap.size v w' := fun v A3 L c3 hL hb0 hr3 => by
    rw [← hD]
    exact (refTag_any n1 c1 L c3 A1 A3 key J v hk (by omega) hL (by rw [hJ] at hlen; omega) ((hr.below hb0).more hb0.size) hr3).mono fun _ _ ⟨A', c', e, p, q, _, r⟩ => ⟨A', c', e, p, r, q⟩
  rw [hD] at hTl
  rw [hJ] at hj hlen
  obtain ⟨L, hL⟩ : ∃ L, J.length = L := ⟨_, rfl⟩
  rw [hL] at hj hlen
  have htl : (D.take m).length = m := by rw [List.length_take, hTl]; omega
  obtain ⟨R, hR⟩ : ∃ R, D.take m = R := ⟨_, rfl⟩
  rw [hR] at htl
  simp only [hR] at hsh
  have h1 : ¬ ((m : Int) < 8) := by omega
  have h2 : ¬ ((32 : Int) < (m : Int)) := by omega
  have HJ := Lib.hid hj
  have HW5 := Lib.hid hw5
  have HT := Lib.hid ht
  have HSH := Lib.hid hsh
  have HRF := Lib.hid hrf
  have HL := Lib.hid hL
  have HTK := Lib.hid hR
  have HDL := Lib.hid hTl
  have HRL := Lib.hid htl
  clear hw5 h hf ht hj hk hr hsh hrf hTl hL hJ hD hR htl hc1 hc2
  go_enter Tryd.func4, Tryd.ntmps4
  go_upto_region 4 with (go_at_call 13; (with_reducible refine HJ.out.mono ?_); rintro e w1 ⟨v1, rfl, hown1, hb1⟩)
  obtain ⟨A7, c7, rfl⟩ := own_slice hown1
  have hr7 : Rd w1 w1.heap.size A7 J := Rd.of_own hown1 (Nat.le_refl _)
  have HB1 := Lib.hid hb1
  have HR7 := Lib.hid hr7
  have HSH1 := Lib.hid (HSH.out w1 hb1)
  clear hown1 hr7 hb1 HJ HSH
  go_upto_region 5 with (go_at_call 17; (with_reducible refine HSH1.out.mono ?_); rintro e X ⟨tb, rfl, hrx, hb1X⟩)
  have hbwX := HB1.out.trans (hb1X.mono HB1.out.size)
  have htX := HT.out.keep hbwX
  have hcv : ∀ W, Below X.heap.size X W → (convert 0x16 9 (.slice (some ⟨tb, 0, none⟩) m m)).run Tryd.prog W = .ok (.string (strB R)) W := fun W hb => conv_rd HRL.out ((hrx.below hb).more hb.size)
  have hrf2 := fun (v : World) (hv : Below X.heap.size X v) => HRF.out v A7 L c7 HL.out (hbwX.trans (hv.mono hbwX.size)) ((((HR7.out.below hb1X).more hb1X.size).below hv).more hv.size)
  have HCV := Lib.hid hcv
  have HRF2 := Lib.hid hrf2
  have HTX := Lib.hid htX
  have HBX := Lib.hid hbwX
  have q0 := hcv X (Below.refl _ _)
  have q0d := hcv X.drew (Below.refl _ _).drew
  clear hrx hb1X hbwX htX hcv hrf2 HSH1 HRF HR7 HB1 HT
  go_upto_region 7 with fail
  go_region_held_law (fun W => (convert 0x16 9 (.slice (some ⟨tb, 0, none⟩) m m)).run Tryd.prog W = .ok (.string (strB R)) W)
    (first | exact q12 | exact q11 | exact q0d | exact q0)
    (first
    | (go_at_call 18; (with_reducible refine (num5_any _ _).mono ?_); rintro e w' ⟨rfl, rfl⟩)
    | (go_at_call 16; (with_reducible refine (HRF2.out _ (Below.refl _ _).drew).mono ?_); rintro e w11 ⟨A11, c11, rfl, r11, hc11, hb11'⟩; obtain ⟨rb, ro, hro, _⟩ := r11 (by rw [HDL.out]; decide); subst hro; have t11 : (convert 0x16 9 (.slice (some ⟨rb, ro, none⟩) m c11)).run Tryd.prog w11 = .ok (.string (strB R)) w11 := conv_rd HRL.out (by rw [← HTK.out]; exact r11.take m); have hb11 : Below X.heap.size X w11 := (Below.refl _ _).drew.trans hb11'; have q11 := HCV.out w11 hb11)
    | (go_at_call 14; (with_reducible refine (works5_from HW5.out hb11 HTX.out).mono ?_); rintro e w12 ⟨rfl, hb12⟩; have q12 := HCV.out w12 hb12))
  all_goals
   go_wp2
   go_ret
   exact ⟨rfl, HBX.out.trans (hb12.mono HBX.out.size)⟩
theorem Sm.shorts5_law (hw5 : Works5) (n1 c1 : Nat) (m : Int) (n c : Nat) (A1 A : Option Addr) (key : List (BitVec 8)) (ps : List Pt) (w : World) (ht : Tabs w) (h : PsC w A n ps) (hk : key.length = n1) (hr : Rd w w.heap.size A1 key) (hc1 : n1 ≤ c1 ∧ c1 ≤ 9223372036854775807) (hnm : n ≤ 9223372036854775807) :
    Calls Tryd.prog 4 #[.slice A1 n1 c1, .int .i64 m, .slice A n c] w fun e w' => e = .returned (.bool true) ∧ Below w.heap.size w w' := by
  by_cases hf : Few 10 ps ∧ n1 ≤ 200
  · by_cases hm : m < 8 ∨ 32 < m
    · exact shorts5_out hw5 n1 c1 n c A1 A m ps w ht h hf.1 hf.2 hm
    · obtain ⟨k, rfl⟩ : ∃ k : Nat, m = (k : Int) := ⟨m.toNat, by omega⟩
      exact shorts5_in hw5 n1 c1 n c k A1 A key ps w ht h hf.1 hf.2 hk hr hc1.1 hc1.2 (by omega) (by omega)
  · exact shorts5_no hw5 n1 c1 n c A1 A m ps w ht h hnm hf
end Go.Proofs
