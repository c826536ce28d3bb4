/-
  The walk of the law BlakeKeyed where the key and the parts are few enough: where there is no sum, and where there is one.
-/
import Derived.Test.YtdpcgfaknbfmmaaDoorLawR
namespace Go.Proofs
open Go.RowKit Sm
theorem Sm.cut_h0 (g n c hi : Nat) (hc : hi ≤ c) (w : World) : (Instr.sliceAt 0x1e (.slice (some ⟨g, 0, none⟩) n c) none (some (.int .i64 (hi : Int))) none).run Tryd.prog w = .ok (.slice (some ⟨g, 0, none⟩) hi c) w := by
  rw [cut_h (some ⟨g, 0, none⟩) n c hi hc w]
  have : cutA (some ⟨g, 0, none⟩) 0 c = some ⟨g, 0, none⟩ := by
    unfold cutA
    split
    · rfl
    · rw [Option.map_some, Addr.add_mid]
  rw [this]
theorem Sm.rd77 (w : World) : Rd (w.alloc (.cells #[.int .u8 77] 5)) (w.heap.size + 1) (some ⟨w.heap.size, 0, none⟩) [77#8] := fun _ => ⟨w.heap.size, 0, rfl, by omega, fun j c hj => by
  rw [World.cell?_alloc_mark]
  rcases j with _ | j <;> simp at hj <;> subst hj <;> rfl⟩
theorem Sm.conv_rd {w : World} {A : Option Addr} {n c : Nat} {l : List (BitVec 8)} (hl : l.length = n) (hr : Rd w w.heap.size A l) : (convert 0x1e 9 (.slice A n c)).run Tryd.prog w = .ok (.string (strB l)) w :=
  run_str (P := Tryd.prog) w 0x1e 5 Tryd.underlying30 Tryd.underlying5 l n c w.heap.size A hl hr 9 Tryd.underlying9
set_option maxRecDepth 100000 in
set_option maxHeartbeats 4000000 in
theorem Sm.keyed_ref (size : Int) (n1 c1 n c : Nat) (A1 A : Option Addr) (key : List (BitVec 8)) (ps : List Pt) (w : World) (ht : Tabs w) (h : PsC w A n ps) (hf : Few 20 ps) (hl : n1 ≤ 100) (hk : key.length = n1) (hr : Rd w w.heap.size A1 key) (hno : size < 1 ∨ 32 < size ∨ 32 < n1) :
    Calls Tryd.prog 5 #[.int .i64 size, .slice A1 n1 c1, .slice A n c] w fun e w' => e = .returned (.bool true) ∧ Below w.heap.size w w' := by
  obtain ⟨i0, hi, hz0, hz1, hz2⟩ := info_parts info5
  have hj := joined_yes A n c ps w h hf
  have hl1 : ¬ ((100 : Int) < (n1 : Int)) := by omega
  have HJ := Lib.hid hj
  have HT := Lib.hid ht
  have HK := Lib.hid hk
  have HR := Lib.hid hr
  have HNO := Lib.hid hno
  clear hj h hf ht hk hr hno
  go_enter Tryd.func5, Tryd.ntmps5
  go_upto_region 6 with (first
    | (go_at_call 18; (with_reducible refine HJ.out.mono ?_); rintro e w1 ⟨v1, rfl, _, hb1⟩)
    | (at_builtin; refine wpList_append_rd _ rfl (.tmp 25) (.tmp 26) 0x1e rfl w1.heap.size 5 i0 _ Tryd.underlying30 hi hz0 hz1 hz2 rfl _ 0 [] rfl (World.ownsRow_made w1 #[] 0 (Nat.le_refl _) (by decide) rfl) w.heap.size A1 n1 c1 key rfl HK.out ((HR.out.below hb1).alloc hb1.size _) (by omega) (by simp) ?_; intro v27 w27 hown27 hg27 _)
    | (at_builtin; refine wpList_append_rd _ rfl (.tmp 27) (.tmp 28) 0x1e rfl w1.heap.size 5 i0 _ Tryd.underlying30 hi hz0 hz1 hz2 rfl v27 (0 + n1) _ rfl (own_below hown27 ((Below.refl _ _).alloc (Nat.le_refl _) _)) (w27.heap.size + 1) (some ⟨w27.heap.size, 0, none⟩) 1 1 [77#8] rfl rfl (rd77 w27) (by omega) (by have := hg27.size; simp at this ⊢; omega) ?_; intro v29 w29 hown29 hg29 _; obtain ⟨gm, cm, rfl, hgm, hcm, hown⟩ := copy_row hown29 HK.out; have hslm := cut_h0 gm (n1 + 1) cm n1 (by omega))
    | (go_at_call 21; (with_reducible refine (Keyed_no size n1 cm n c _ A w29 (by omega) HNO.out).mono ?_); rintro e w' ⟨rfl, rfl⟩))
  obtain ⟨hrm, hcell⟩ := row_reads hown HK.out
  have hba : Below w1.heap.size w1 (w1.alloc (.cells #[] 5)) := (Below.refl _ _).alloc (Nat.le_refl _) _
  have hb27 : Below w1.heap.size w1 w27 := hba.grown hg27 hba.size (fun g e => by cases e; exact Nat.le_refl _)
  have hb27a : Below w1.heap.size w1 (w27.alloc (.cells #[.int .u8 77] 5)) := hb27.alloc hb27.size _
  have hb29 : Below w1.heap.size w1 w29 := hb27a.grown hg29 hb27a.size (fun g e => own_ge hown27 g e)
  have hb29' : Below w.heap.size w w29 := hb1.trans (hb29.mono hb1.size)
  have k1 := conv_rd (c := cm) HK.out hrm
  have k2 := conv_rd (c := c1) HK.out ((HR.out.below hb29').more hb29'.size)
  have hsl2 := cut_h0 gm n1 cm (n1 + 1) hcm
  rw [show ((n1 + 1 : Nat) : Int) = (n1 : Int) + 1 from rfl] at hsl2
  have hrt := right_no size n1 c1 A1 w29 HNO.out
  have hw := works_from hb29' HT.out
  have HRT := Lib.hid hrt
  have HW := Lib.hid hw
  clear hown29 hg29 hown27 hg27 hown hrm hba hb27 hb27a hb29 hb29' hb1 hrt hw hslm HJ HR HK
  go_wp2_with (first
    | (go_at_call 22; (with_reducible refine HRT.out.mono ?_); rintro e w' ⟨rfl, rfl⟩)
    | (go_at_call 23; (with_reducible refine (num_any _ _).mono ?_); rintro e w' ⟨rfl, rfl⟩)
    | (go_at_call 17; (with_reducible refine HW.out.mono ?_); rintro e w8 ⟨rfl, hb8⟩))
  go_ret
  exact ⟨rfl, hb8⟩
set_option maxRecDepth 100000 in
set_option maxHeartbeats 4000000 in
theorem Sm.keyed_yes (size n1 c1 n c : Nat) (A1 A : Option Addr) (key : List (BitVec 8)) (ps : List Pt) (w : World) (ht : Tabs w) (h : PsC w A n ps) (hnc : n ≤ c) (hf : Few 20 ps) (hk : key.length = n1) (hr : Rd w w.heap.size A1 key) (hs0 : 1 ≤ size) (hs1 : size ≤ 32) (hn1 : n1 ≤ 32) :
    Calls Tryd.prog 5 #[.int .i64 (size : Int), .slice A1 n1 c1, .slice A n c] w fun e w' => e = .returned (.bool true) ∧ Below w.heap.size w w' := by
  obtain ⟨i0, hi, hz0, hz1, hz2⟩ := info_parts info5
  have hj := joined_yes A n c ps w h hf
  have hlen : (joinP ps).length ≤ 4000 := by
    have := joinP_take_le ps ps.length (fun p hp => by rw [List.take_length] at hp; rw [(h.each p hp).len]; exact hf.2 p hp) hf.1
    rwa [List.take_length] at this
  have hn20 : n ≤ 20 := by rw [← h.len]; exact hf.1
  have hl1 : ¬ ((100 : Int) < (n1 : Int)) := by omega
  have hky : ∀ v gm cm, Below w.heap.size w v → Rd v v.heap.size (some ⟨gm, 0, none⟩) key → Calls Tryd.prog 21 #[.int .i64 (size : Int), .slice (some ⟨gm, 0, none⟩) n1 cm, .slice A n c] v fun e w' => ∃ A' c', e = .returned (.tuple #[.slice A' size c', .int .i64 0]) ∧ Rd w' w'.heap.size A' ((hashW size key (joinP ps)).take size) ∧ Below v.heap.size v w' := by
    intro v gm cm hb hrm
    refine (Keyed_yes size n1 cm n c (some ⟨gm, 0, none⟩) A key ps v (ht.keep hb) hs0 hs1 hn1 hk (rds_of_rd hrm) (fun g hg => (h.below hb).ok (by omega) g hg) hnc (by omega)).mono ?_
    rintro e w' ⟨v0, rfl, hown, hb2⟩
    obtain ⟨A', c', rfl⟩ := own_slice hown
    exact ⟨A', c', rfl, Rd.of_own hown (Nat.le_refl _), hb2⟩
  have hrf : ∀ (v0 v : World) L A3 c3, (joinP ps).length = L → Below w.heap.size w v0 → Rd v0 v0.heap.size A3 (joinP ps) → Below v0.heap.size v0 v → Calls Tryd.prog 20 #[.int .i64 (size : Int), .slice A1 n1 c1, .slice A3 L c3] v fun e w' => ∃ A' c', e = .returned (.slice A' size c') ∧ (convert 0x1e 9 (.slice A' size c')).run Tryd.prog w' = .ok (.string (strB ((hashW size key (joinP ps)).take size))) w' ∧ Below v0.heap.size v0 w' := fun v0 v L A3 c3 hL hb0 hr3 hb =>
    refKeyed_from (w := v0) (v := v) size n1 c1 L c3 A1 A3 key (joinP ps) _ hs0 hs1 hn1 hk hL (by omega) ((hr.below hb0).more hb0.size) hr3 rfl hb
  have hrt := fun w => right_yes size n1 c1 A1 w hs0 hs1 hn1
  have hDl : ((hashW size key (joinP ps)).take size).length = size := by rw [List.length_take, hashW_length]; omega
  obtain ⟨D, hD⟩ : ∃ D, (hashW size key (joinP ps)).take size = D := ⟨_, rfl⟩
  simp only [hD] at hky hrf hDl
  obtain ⟨b, hb⟩ : ∃ b, joinP ps = b := ⟨_, rfl⟩
  rw [hb] at hj
  simp only [hb] at hrf
  obtain ⟨L, hL⟩ : ∃ L, b.length = L := ⟨_, rfl⟩
  rw [hL] at hj
  obtain ⟨sz, hsz⟩ : ∃ e : Int, (size : Int) = e := ⟨_, rfl⟩
  simp only [hsz] at hky hrf hrt
  rw [hsz]
  have HJ := Lib.hid hj
  have HT := Lib.hid ht
  have HK := Lib.hid hk
  have HR := Lib.hid hr
  have HKY := Lib.hid hky
  have HRF := Lib.hid hrf
  have HRT := Lib.hid hrt
  have HDL := Lib.hid hDl
  have HLB := Lib.hid hL
  clear hj h hf ht hk hr hky hrf hrt hD hDl hb hL hsz hlen hs0 hs1 hn1
  go_enter Tryd.func5, Tryd.ntmps5
  go_upto_region 5 with (first
    | (go_at_call 18; (with_reducible refine HJ.out.mono ?_); rintro e w1 ⟨v1, rfl, hown1, hb1⟩)
    | (at_builtin; refine wpList_append_rd _ rfl (.tmp 25) (.tmp 26) 0x1e rfl w1.heap.size 5 i0 _ Tryd.underlying30 hi hz0 hz1 hz2 rfl _ 0 [] rfl (World.ownsRow_made w1 #[] 0 (Nat.le_refl _) (by decide) rfl) w.heap.size A1 n1 c1 key rfl HK.out ((HR.out.below hb1).alloc hb1.size _) (by omega) (by simp) ?_; intro v27 w27 hown27 hg27 _)
    | (at_builtin; refine wpList_append_rd _ rfl (.tmp 27) (.tmp 28) 0x1e rfl w1.heap.size 5 i0 _ Tryd.underlying30 hi hz0 hz1 hz2 rfl v27 (0 + n1) _ rfl (own_below hown27 ((Below.refl _ _).alloc (Nat.le_refl _) _)) (w27.heap.size + 1) (some ⟨w27.heap.size, 0, none⟩) 1 1 [77#8] rfl rfl (rd77 w27) (by omega) (by have := hg27.size; simp at this ⊢; omega) ?_; intro v29 w29 hown29 hg29 _; obtain ⟨gm, cm, rfl, hgm, hcm, hown⟩ := copy_row hown29 HK.out; have hslm := cut_h0 gm (n1 + 1) cm n1 (by omega)))
  obtain ⟨hrm, hcell⟩ := row_reads hown HK.out
  have hgl : gm < w29.heap.size := World.block_lt_of_cell? _ _ hcell
  have hba : Below w1.heap.size w1 (w1.alloc (.cells #[] 5)) := (Below.refl _ _).alloc (Nat.le_refl _) _
  have hb27 : Below w1.heap.size w1 w27 := hba.grown hg27 hba.size (fun g e => by cases e; exact Nat.le_refl _)
  have hb27a : Below w1.heap.size w1 (w27.alloc (.cells #[.int .u8 77] 5)) := hb27.alloc hb27.size _
  have hb29 : Below w1.heap.size w1 w29 := hb27a.grown hg29 hb27a.size (fun g e => own_ge hown27 g e)
  have hb29' : Below w.heap.size w w29 := hb1.trans (hb29.mono hb1.size)
  obtain ⟨A3, c3, rfl⟩ := own_slice hown1
  have hr3 : Rd w1 w1.heap.size A3 b := Rd.of_own hown1 (Nat.le_refl _)
  have hkc := HKY.out w29 gm cm hb29' hrm
  have HKC := Lib.hid hkc
  have HRM := Lib.hid (And.intro hrm (And.intro hcell hgl))
  have HR3 := Lib.hid ((hr3.below hb29).more hb29.size)
  have HB29 := Lib.hid hb29'
  clear hown29 hg29 hown27 hg27 hown hown1 hrm hcell hgl hba hb27 hb27a hb29 hb29' hb1 hr3 hkc hslm HJ
  go_upto_region 6 with (go_at_call 21; (with_reducible refine HKC.out.mono ?_); rintro e w3 ⟨A10, c10, rfl, hrd10, hb3⟩)
  have hcell := (hb3.cell (p := ⟨gm, n1, none⟩) HRM.out.2.2).trans HRM.out.2.1
  have k1 := conv_rd (c := cm) HK.out ((HRM.out.1.below hb3).more hb3.size)
  have hb03 : Below w.heap.size w w3 := HB29.out.trans (hb3.mono HB29.out.size)
  have k2 := conv_rd (c := c1) HK.out ((HR.out.below hb03).more hb03.size)
  have hsl2 := cut_h0 gm n1 cm (n1 + 1) hcm
  rw [show ((n1 + 1 : Nat) : Int) = (n1 : Int) + 1 from rfl] at hsl2
  have hr3 := (HR3.out.below hb3).more hb3.size
  have hrf := fun v (hv : Below w3.heap.size w3 v) => HRF.out w3 v L A3 c3 HLB.out hb03 hr3 hv
  have HRFF := Lib.hid hrf
  have HRD10 := Lib.hid hrd10
  have HB3 := Lib.hid hb03
  have ht3 := HT.out.keep hb03
  have HT3 := Lib.hid ht3
  clear hrd10 hb3 hb03 hr3 hrf ht3 HR HR3 HRM HKC HKY HRF HB29
  go_upto_region 10 with (go_at_call 22; (with_reducible refine (HRT.out _).mono ?_); rintro e w' ⟨rfl, rfl⟩)
  clear hcell k1 k2 hsl2
  have hcv : ∀ W, Below w3.heap.size w3 W → (convert 0x1e 9 (.slice A10 size c10)).run Tryd.prog W = .ok (.string (strB D)) W := fun W hb => conv_rd HDL.out ((HRD10.out.below hb).more hb.size)
  have HCV := Lib.hid hcv
  have k0 := hcv w3 (Below.refl _ _)
  have k0d := hcv w3.drew (Below.refl _ _).drew
  clear hcv
  go_region_held_law (fun W => (convert 0x1e 9 (.slice A10 size c10)).run Tryd.prog W = .ok (.string (strB D)) W)
    (first | exact k8 | exact k7 | exact k0d | exact k0)
    (first
    | (go_at_call 23; (with_reducible refine (num_any _ _).mono ?_); rintro e w' ⟨rfl, rfl⟩)
    | (go_at_call 20; (with_reducible refine (HRFF.out _ (Below.refl _ _).drew).mono ?_); rintro e w7 ⟨A7, c7, rfl, t7, hb7⟩; have k7 := HCV.out w7 hb7)
    | (go_at_call 17; (with_reducible refine (works_from hb7 HT3.out).mono ?_); rintro e w8 ⟨rfl, hb8⟩; have k8 := HCV.out w8 hb8))
  all_goals
   go_wp2
   go_ret
   exact ⟨rfl, HB3.out.trans (hb8.mono HB3.out.size)⟩
theorem Sm.keyed_law (size : Int) (n1 c1 n c : Nat) (A1 A : Option Addr) (key : List (BitVec 8)) (ps : List Pt) (w : World) (ht : Tabs w) (hk : key.length = n1) (hr : Rd w w.heap.size A1 key) (h : PsC w A n ps) (hnc : n ≤ c) (hnm : n ≤ 9223372036854775807) :
    Calls Tryd.prog 5 #[.int .i64 size, .slice A1 n1 c1, .slice A n c] w fun e w' => e = .returned (.bool true) ∧ Below w.heap.size w w' := by
  by_cases hf : Few 20 ps
  · by_cases hl : 100 < n1
    · exact keyed_long size n1 c1 n c A1 A ps w ht h hf hl
    · by_cases hno : size < 1 ∨ 32 < size ∨ 32 < n1
      · exact keyed_ref size n1 c1 n c A1 A key ps w ht h hf (by omega) hk hr hno
      · obtain ⟨sz, rfl⟩ : ∃ sz : Nat, size = (sz : Int) := ⟨size.toNat, by omega⟩
        exact keyed_yes sz n1 c1 n c A1 A key ps w ht h hnc hf hk hr (by omega) (by omega) (by omega)
  · exact keyed_few size n1 c1 n c A1 A ps w ht h hnm hf
end Go.Proofs
