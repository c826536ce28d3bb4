/-
  The walk of the law HmacTags, where works is under contract (the hypothesis hw5).
-/
import Derived.Test.YtmhmnmdobnkbgaaDoorM18
namespace Go.Proofs
open Go.RowKit Sm
theorem Sm.own_max {w : World} {base n c : Nat} {e : TypeId} {A : Option Addr} {xs : List Value} (h : w.ownsRow base e 1 (.slice A n c) n xs) : c ≤ 9223372036854775807 := by
  rcases h.2 with ⟨e, e2⟩ | ⟨k, cap, cur, e, hb, hk, hnc, hcm, hcs, htake⟩
  · simp only [Value.slice.injEq] at e
    omega
  · simp only [Value.slice.injEq] at e
    obtain ⟨rfl, _, rfl⟩ := e
    unfold maxLen at hcm
    omega
set_option maxRecDepth 100000 in
set_option maxHeartbeats 2000000 in
theorem Sm.tags5_no (hw5 : Works5) (n1 c1 n c : Nat) (A1 A : Option Addr) (ps : List Pt) (w : World) (ht : Tabs w) (h : PsC w A n ps) (hnm : n ≤ 9223372036854775807) (hf : ¬ (Few 10 ps ∧ n1 ≤ 200)) :
    Calls Tryd.prog 3 #[.slice A1 n1 c1, .slice A n c] w fun e w' => e = .returned (.bool true) ∧ Below w.heap.size w w' := by
  have hj := joined5_no A1 n1 c1 A n c ps w h hnm hf
  have hw := fun v (hb : Below w.heap.size w v) => works5_from hw5 hb ht
  clear h hf ht
  go_enter Tryd.func3, Tryd.ntmps3
  go_wp2_with (first
    | (go_at_call 13; (with_reducible refine hj.mono ?_); clear hj; rintro e w1 ⟨rfl, hb1⟩)
    | (go_at_call 14; (with_reducible refine (hw _ hb1).mono ?_); clear hw; rintro e w2 ⟨rfl, hb2⟩))
  go_ret
  exact ⟨rfl, hb2⟩
set_option maxRecDepth 100000 in
set_option maxHeartbeats 4000000 in
theorem Sm.tags5_yes (hw5 : Works5) (n1 c1 n c : Nat) (A1 A : Option Addr) (key : List (BitVec 8)) (ps : List Pt) (w : World) (ht : Tabs w) (h : PsC w A n ps) (hf : Few 10 ps) (hn1 : n1 ≤ 200) (hk : key.length = n1) (hr : Rd w w.heap.size A1 key) :
    Calls Tryd.prog 3 #[.slice A1 n1 c1, .slice A n c] w fun e w' => e = .returned (.bool true) ∧ Below w.heap.size w w' := by
  obtain ⟨i0, hi, hz0, hz1, hz2⟩ := info_parts info5
  have hj := joined5_yes A1 n1 c1 A n c ps w h hf hn1
  have hlen : (joinP ps).length ≤ 4000 := by
    have := joinP_take_le ps ps.length (fun p hp => by rw [List.take_length] at hp; rw [(h.each p hp).len]; exact hf.2 p hp) (by have := hf.1; omega)
    rwa [List.take_length] at this
  obtain ⟨J, hJ⟩ : ∃ J, joinP ps = J := ⟨_, rfl⟩
  have hTl := tagS_length key J
  obtain ⟨D, hD⟩ : ∃ D, tagS key J = D := ⟨_, rfl⟩
  have htg : ∀ (v : World) (A3 : Option Addr) (c3 : Nat), Below w.heap.size w v → n1 ≤ c3 → c3 ≤ 9223372036854775807 → Rd v v.heap.size A3 key → Calls Tryd.prog 15 #[.slice A3 n1 c3, .slice A n c] v fun e w' => e = .returned (.agg (bvs D)) ∧ Below v.heap.size v w' := fun v A3 c3 hb h1 h2 h3 => by
    rw [← hD, ← hJ]
    exact Tag_any n1 c3 n c A3 A key ps v (ht.keep hb) hk (by omega) h1 h2 h3 (fun g hg => (h.below hb).ok (by have := hf.1; have := h.len; omega) g hg) (by omega)
  have hrf : ∀ (v : World) (A3 : Option Addr) (L c3 : Nat), J.length = L → Below w.heap.size w v → Rd v v.heap.size A3 J → Calls Tryd.prog 16 #[.slice A1 n1 c1, .slice A3 L c3] v fun e w' => ∃ A' c', e = .returned (.slice A' 32 c') ∧ (convert 0x16 9 (.slice A' 32 c')).run Tryd.prog w' = .ok (.string (strB D)) w' ∧ Below v.heap.size v w' := fun v A3 L c3 hL hb0 hr3 => by
    rw [← hD]
    exact (refTag_any n1 c1 L c3 A1 A3 key J v hk (by omega) hL (by rw [hJ] at hlen; omega) ((hr.below hb0).more hb0.size) hr3).mono fun _ _ ⟨A', c', e, p, q, _⟩ => ⟨A', c', e, conv_rd (tagS_length _ _) p, q⟩
  rw [hD] at hTl
  rw [hJ] at hj hlen
  obtain ⟨L, hL⟩ : ∃ L, J.length = L := ⟨_, rfl⟩
  rw [hL] at hj hlen
  have hwrap : IntKind.i64.wrap ((n1 : Int) + 1) = (n1 : Int) + 1 := IntWalk.i64_in _ (by omega)
  have HJ := Lib.hid hj
  have HW5 := Lib.hid hw5
  have HT := Lib.hid ht
  have HTG := Lib.hid htg
  have HRF := Lib.hid hrf
  have HTL := Lib.hid hTl
  have HL := Lib.hid hL
  have HR := Lib.hid hr
  have HK := Lib.hid hk
  clear hw5 h hf ht hj hk hr htg hrf hTl hL hJ hD
  go_enter Tryd.func3, Tryd.ntmps3
  go_upto_region 4 with (go_at_call 13; (with_reducible refine HJ.out.mono ?_); rintro e w1 ⟨v1, rfl, hown1, hb1⟩)
  obtain ⟨A7, c7, rfl⟩ := own_slice hown1
  have hr7 : Rd w1 w1.heap.size A7 J := Rd.of_own hown1 (Nat.le_refl _)
  have HB1 := Lib.hid hb1
  have HR7 := Lib.hid hr7
  clear hown1 hr7 HJ
  go_upto_region 5 with (first
    | (at_builtin; refine wpList_append_rd _ rfl (.tmp 18) (.tmp 19) 0x16 rfl w1.heap.size 5 i0 _ Tryd.underlying22 hi hz0 hz1 hz2 rfl _ 0 [] rfl (World.ownsRow_made w1 #[] 0 (Nat.le_refl _) (by decide) rfl) w.heap.size A1 n1 c1 key rfl HK.out ((HR.out.below HB1.out).alloc HB1.out.size _) (by omega) (by simp) ?_; intro v20 w20 hown20 hg20 _; have hba : Below w1.heap.size w1 (w1.alloc (.cells #[] 5)) := (Below.refl _ _).alloc (Nat.le_refl _) _; have hb20 : Below w1.heap.size w1 w20 := hba.grown hg20 hba.size (fun g e => by cases e; exact Nat.le_refl _))
    | (at_builtin; refine wpList_append_rd _ rfl (.tmp 20) (.tmp 21) 0x16 rfl w1.heap.size 5 i0 _ Tryd.underlying22 hi hz0 hz1 hz2 rfl v20 (0 + n1) _ rfl (own_below hown20 ((Below.refl _ _).alloc (Nat.le_refl _) _)) (w20.heap.size + 1) (some ⟨w20.heap.size, 0, none⟩) 1 1 [77#8] rfl rfl (rd_one _ _ rfl w20) (by omega) (by simp; have := hb20.size; omega) ?_; intro v22 w22 hown22 hg22 _; have hb20a : Below w1.heap.size w1 (w20.alloc (.cells #[.int .u8 77] 5)) := hb20.alloc hb20.size _; have hb22 : Below w1.heap.size w1 w22 := hb20a.grown hg22 hb20a.size (fun g e => own_ge hown20 g e); obtain ⟨A22, c22, rfl⟩ := own_slice hown22; obtain ⟨g22, rfl, hge22⟩ := own_at hown22 (by omega); have hcap := own_cap hown22))
  have hmx := own_max hown22
  have hn22 : 0 + n1 + 1 = n1 + 1 := by omega
  have hx22 : [] ++ key.map byteCell ++ [77#8].map byteCell = (key ++ [77#8]).map byteCell := by simp
  have hrow : w22.ownsRow w1.heap.size 5 1 (.slice (some ⟨g22, 0, none⟩) (n1 + 1) c22) (n1 + 1) ((key ++ [77#8]).map byteCell) := by rw [hn22, hx22] at hown22; exact hown22
  have hrdm : Rd w22 w22.heap.size (some ⟨g22, 0, none⟩) (key ++ [77#8]) := Rd.of_own hrow (Nat.le_refl _)
  have hrdk : Rd w22 w22.heap.size (some ⟨g22, 0, none⟩) key := by
    have h1 := hrdm.take n1
    rw [List.take_left' HK.out] at h1
    exact h1
  have hb2w : Below w.heap.size w w22 := HB1.out.trans (hb22.mono HB1.out.size)
  have htg2 := HTG.out w22 (some ⟨g22, 0, none⟩) c22 hb2w (by omega) hmx hrdk
  have HTG2 := Lib.hid htg2
  have HRM := Lib.hid hrdm
  have HRK := Lib.hid hrdk
  have HB22 := Lib.hid hb22
  have HBW := Lib.hid hb2w
  have hcap1 : n1 + 1 ≤ c22 := by omega
  clear hown20 hg20 hba hb20 hown22 hg22 hb20a hb22 hcap hn22 hx22 hrow hrdm hrdk hb2w htg2 HTG hge22
  go_upto_region 6 with (first
    | (go_at_call 15; (with_reducible refine HTG2.out.mono ?_); rintro e w10 ⟨rfl, hb10⟩)
    | (refine wpList_store_row rfl 0x1b _ _ rfl w10.heap.size (bvs D) rfl rfl 0x1b (bvs (List.replicate 32 0#8)) (World.alloc_heap_new w10 _) (i36 D HTL.out) (by rw [bvs_size, bvs_size, HTL.out]; rfl) (bvs_one D) ?_))
  rw [zu32_eq]
  obtain ⟨X, hX⟩ : ∃ X, (w10.alloc (.cells (bvs (List.replicate 32 0#8)) 0x1b)).setRow w10.heap.size (bvs D) = X := ⟨_, rfl⟩
  obtain ⟨tb, htb⟩ : ∃ b, w10.heap.size = b := ⟨_, rfl⟩
  have hBX : Blk X tb 0x1b (bvs D) := by rw [← hX, ← htb]; exact setRow_heap _ _ _ _ _ _ (World.alloc_heap_new w10 _)
  have hb2X : Below w22.heap.size w22 X := by rw [← hX]; exact below_setRow (hb10.alloc hb10.size _) hb10.size _
  rw [hX, htb]
  have hbwX := HBW.out.trans (hb2X.mono HBW.out.size)
  have hb1X := HB22.out.trans (hb2X.mono HB22.out.size)
  have htX := HT.out.keep hbwX
  have hcell : ∀ W, Below X.heap.size X W → W.cell? ⟨g22, n1, none⟩ = some (.int .u8 77) := fun W hb => by
    obtain ⟨b, off, e, _, hc⟩ := ((HRM.out.below hb2X).more hb2X.size).below hb (by simp)
    cases e
    have := hc n1 77#8 (by rw [List.getElem?_append_right (by rw [HK.out]; exact Nat.le_refl _), HK.out]; simp)
    rw [Nat.zero_add] at this
    exact this
  have hcv : ∀ W, Below X.heap.size X W → (convert 0x16 9 (.slice (some ⟨tb, 0, none⟩) 32 32)).run Tryd.prog W = .ok (.string (strB D)) W ∧ (convert 0x16 9 (.slice (some ⟨g22, 0, none⟩) n1 c22)).run Tryd.prog W = .ok (.string (strB key)) W ∧ (convert 0x16 9 (.slice A1 n1 c1)).run Tryd.prog W = .ok (.string (strB key)) W ∧ W.cell? ⟨g22, n1, none⟩ = some (.int .u8 77) := fun W hb =>
    ⟨conv_rd HTL.out ((hBX.keep hb).rd (hBX.keep hb).lt), conv_rd HK.out ((((HRK.out.below hb2X).more hb2X.size).below hb).more hb.size), conv_rd HK.out ((((HR.out.below hbwX).more hbwX.size).below hb).more hb.size), hcell W hb⟩
  have hrf2 := fun (v : World) (hv : Below X.heap.size X v) => HRF.out v A7 L c7 HL.out (hbwX.trans (hv.mono hbwX.size)) ((((HR7.out.below hb1X).more hb1X.size).below hv).more hv.size)
  have hsl := slice33_all tb
  have HCV := Lib.hid hcv
  have HRF2 := Lib.hid hrf2
  have HTX := Lib.hid htX
  have HBX := Lib.hid hbwX
  have q0 := hcv X (Below.refl _ _)
  have q0d := hcv X.drew (Below.refl _ _).drew
  clear hX htb hBX hb2X hbwX hb1X htX hcell hcv hrf2 hb10 HRF HTG2 HRM HRK HB22 HBW
  go_region_held_law (fun W => (convert 0x16 9 (.slice (some ⟨tb, 0, none⟩) 32 32)).run Tryd.prog W = .ok (.string (strB D)) W ∧ (convert 0x16 9 (.slice (some ⟨g22, 0, none⟩) n1 c22)).run Tryd.prog W = .ok (.string (strB key)) W ∧ (convert 0x16 9 (.slice A1 n1 c1)).run Tryd.prog W = .ok (.string (strB key)) W ∧ W.cell? ⟨g22, n1, none⟩ = some (.int .u8 77))
    (first | exact q12 | exact q11 | exact q0d | exact q0)
    (first
    | (go_at_call 16; (with_reducible refine (HRF2.out _ (Below.refl _ _).drew).mono ?_); rintro e w11 ⟨A11, c11, rfl, t11, hb11'⟩; have hb11 : Below X.heap.size X w11 := (Below.refl _ _).drew.trans hb11'; have q11 := HCV.out w11 hb11)
    | (go_at_call 14; (with_reducible refine (works5_from HW5.out hb11 HTX.out).mono ?_); rintro e w12 ⟨rfl, hb12⟩; have q12 := HCV.out w12 hb12))
  all_goals
   go_wp2
   go_ret
   exact ⟨rfl, HBX.out.trans (hb12.mono HBX.out.size)⟩
theorem Sm.tags5_law (hw5 : Works5) (n1 c1 n c : Nat) (A1 A : Option Addr) (key : List (BitVec 8)) (ps : List Pt) (w : World) (ht : Tabs w) (h : PsC w A n ps) (hk : key.length = n1) (hr : Rd w w.heap.size A1 key) (hnm : n ≤ 9223372036854775807) :
    Calls Tryd.prog 3 #[.slice A1 n1 c1, .slice A n c] w fun e w' => e = .returned (.bool true) ∧ Below w.heap.size w w' := by
  by_cases hf : Few 10 ps ∧ n1 ≤ 200
  · exact tags5_yes hw5 n1 c1 n c A1 A key ps w ht h hf.1 hf.2 hk hr
  · exact tags5_no hw5 n1 c1 n c A1 A ps w ht h hnm hf
end Go.Proofs
