/-
  The walk of the law BlakeCopies where there is a hash.
-/
import Derived.Test.YtdpcgfaknbfmmaaDoorLawT
namespace Go.Proofs
open Go.RowKit Sm
/-- two parts joined by the law itself -/
theorem Sm.two_row {w : World} {base n m : Nat} {v : Value} {a b : List (BitVec 8)} (h : w.ownsRow base 5 1 v (0 + n + m) ([] ++ a.map byteCell ++ b.map byteCell)) : ∃ A c, v = .slice A (n + m) c ∧ Rd w w.heap.size A (a ++ b) := by
  have e : [] ++ a.map byteCell ++ b.map byteCell = (a ++ b).map byteCell := by simp
  rw [e, Nat.zero_add] at h
  obtain ⟨A, c, rfl⟩ := own_slice h
  exact ⟨A, c, rfl, Rd.of_own h (Nat.le_refl _)⟩
set_option maxRecDepth 100000 in
set_option maxHeartbeats 4000000 in
theorem Sm.copies_yes (size n1 c1 n2 c2 n3 c3 n4 c4 : Nat) (A1 A2 A3 A4 : Option Addr) (key a b d : List (BitVec 8)) (w : World) (ht : Tabs w) (hk : key.length = n1) (ha : a.length = n2) (hb : b.length = n3) (hd : d.length = n4)
    (hr1 : Rd w w.heap.size A1 key) (hr2 : Rd w w.heap.size A2 a) (hr3 : Rd w w.heap.size A3 b) (hr4 : Rd w w.heap.size A4 d) (hc2 : n2 ≤ c2 ∧ c2 ≤ 9223372036854775807) (hc3 : n3 ≤ c3 ∧ c3 ≤ 9223372036854775807) (hc4 : n4 ≤ c4 ∧ c4 ≤ 9223372036854775807)
    (hs0 : 1 ≤ size) (hs1 : size ≤ 32) (hn1 : n1 ≤ 32) (hn2 : n2 ≤ 200) (hn3 : n3 ≤ 200) (hn4 : n4 ≤ 200) :
    Calls Tryd.prog 7 #[.int .i64 (size : Int), .slice A1 n1 c1, .slice A2 n2 c2, .slice A3 n3 c3, .slice A4 n4 c4] w fun e w' => e = .returned (.bool true) ∧ Below w.heap.size w w' := by
  obtain ⟨i0, hi, hz0, hz1, hz2⟩ := info_parts info5
  have hrt := right_yes size n1 c1 A1 w hs0 hs1 hn1
  have hnew := New_yes size n1 c1 A1 key w ht hs0 hs1 hn1 hk (rds_of_rd hr1)
  have hsc := startS_cur size key (by omega)
  have hsp : (startS size key).p = 0 := rfl
  have hD1 : (sumS (takeS (takeS (startS size key) a) b)).take size = (hashW size key (a ++ b)).take size := by rw [takeS_takeS]; rfl
  have hD2 : (sumS (takeS (takeS (startS size key) a) d)).take size = (hashW size key (a ++ d)).take size := by rw [takeS_takeS]; rfl
  have hl1 : ((hashW size key (a ++ b)).take size).length = size := by rw [List.length_take, hashW_length]; omega
  have hl2 : ((hashW size key (a ++ d)).take size).length = size := by rw [List.length_take, hashW_length]; omega
  obtain ⟨s0, hs⟩ : ∃ s, startS size key = s := ⟨_, rfl⟩
  rw [hs] at hnew hsc hsp hD1 hD2
  have hq2 := fun g hg => pt_of_rd ha hc2.1 hc2.2 hr2 g hg
  have hq3 := fun g hg => pt_of_rd hb hc3.1 hc3.2 hr3 g hg
  have hq4 := fun g hg => pt_of_rd hd hc4.1 hc4.2 hr4 g hg
  have cu1 := takeS_cur_le s0 a
  have cu2 := takeS_cur_le (takeS s0 a) b
  have cu3 := takeS_cur_le (takeS s0 a) d
  have ct1 := takeS_count s0 a
  have ct2 := takeS_count (takeS s0 a) b
  have ct3 := takeS_count (takeS s0 a) d
  have hrk : ∀ (v : World) (m : Nat) (A c x), x.length = m → m ≤ 400 → Below w.heap.size w v → Rd v v.heap.size A x → Calls Tryd.prog 20 #[.int .i64 (size : Int), .slice A1 n1 c1, .slice A m c] v fun e w' => ∃ A' c', e = .returned (.slice A' size c') ∧ Rd w' w'.heap.size A' ((hashW size key x).take size) ∧ Below v.heap.size v w' := fun v m A c x hx hm hv hr =>
    refKeyed_any size n1 c1 m c A1 A key x v hs0 hs1 hn1 hk hx (by omega) ((hr1.below hv).more hv.size) hr
  have hab : (a ++ b).length = n2 + n3 := by rw [List.length_append, ha, hb]
  have had : (a ++ d).length = n2 + n4 := by rw [List.length_append, ha, hd]
  obtain ⟨D1, hE1⟩ : ∃ D, (hashW size key (a ++ b)).take size = D := ⟨_, rfl⟩
  obtain ⟨D2, hE2⟩ : ∃ D, (hashW size key (a ++ d)).take size = D := ⟨_, rfl⟩
  have hrk1 : ∀ (v : World) (A c), Below w.heap.size w v → Rd v v.heap.size A (a ++ b) → Calls Tryd.prog 20 #[.int .i64 (size : Int), .slice A1 n1 c1, .slice A (n2 + n3) c] v fun e w' => ∃ A' c', e = .returned (.slice A' size c') ∧ Rd w' w'.heap.size A' D1 ∧ Below v.heap.size v w' := fun v A c hv hr => hE1 ▸ hrk v (n2 + n3) A c (a ++ b) hab (by omega) hv hr
  have hrk2 : ∀ (v : World) (A c), Below w.heap.size w v → Rd v v.heap.size A (a ++ d) → Calls Tryd.prog 20 #[.int .i64 (size : Int), .slice A1 n1 c1, .slice A (n2 + n4) c] v fun e w' => ∃ A' c', e = .returned (.slice A' size c') ∧ Rd w' w'.heap.size A' D2 ∧ Below v.heap.size v w' := fun v A c hv hr => hE2 ▸ hrk v (n2 + n4) A c (a ++ d) had (by omega) hv hr
  rw [hE1] at hD1 hl1
  rw [hE2] at hD2 hl2
  have hW1 : ∀ (v : World) (g : Nat), w.heap.size ≤ g → HsAt v g s0 (size : Int) s0.cur.length → Below w.heap.size w v → _ := fun v g hg h hbv => Write_by g s0 (size : Int) s0.cur.length A2 n2 c2 a ht hg (by omega) hsc (by omega) (hq2 g hg) h hbv
  have hW2 : ∀ (v : World) (g : Nat), w.heap.size ≤ g → HsAt v g (takeS s0 a) (size : Int) s0.cur.length → Below w.heap.size w v → _ := fun v g hg h hbv => Write_by g (takeS s0 a) (size : Int) s0.cur.length A3 n3 c3 b ht hg (by omega) cu1 (by omega) (hq3 g hg) h hbv
  have hW3 : ∀ (v : World) (g : Nat), w.heap.size ≤ g → HsAt v g (takeS s0 a) (size : Int) s0.cur.length → Below w.heap.size w v → _ := fun v g hg h hbv => Write_by g (takeS s0 a) (size : Int) s0.cur.length A4 n4 c4 d ht hg (by omega) cu1 (by omega) (hq4 g hg) h hbv
  have hC : ∀ (v : World) (g : Nat), HsAt v g (takeS s0 a) (size : Int) s0.cur.length → _ := fun v g h => Copy_any g (takeS s0 a) (size : Int) s0.cur.length v h (by omega)
  have hH1 : ∀ (w2 v : World) (g : Nat), Below w.heap.size w w2 → HsAt v g (takeS (takeS s0 a) b) (size : Int) s0.cur.length → Below w2.heap.size w2 v → _ := fun w2 v g hb2 h hbv => HSum_from g (takeS (takeS s0 a) b) size s0.cur.length D1 (ht.keep hb2) hs0 hs1 cu2 (by omega) hD1 h hbv
  have hH2 : ∀ (w2 v : World) (g : Nat), Below w.heap.size w w2 → HsAt v g (takeS (takeS s0 a) d) (size : Int) s0.cur.length → Below w2.heap.size w2 v → _ := fun w2 v g hb2 h hbv => HSum_from g (takeS (takeS s0 a) d) size s0.cur.length D2 (ht.keep hb2) hs0 hs1 cu3 (by omega) hD2 h hbv
  obtain ⟨al, hal⟩ : ∃ al, s0.cur.length = al := ⟨_, rfl⟩
  simp only [hal] at hW1 hW2 hW3 hC hH1 hH2 hnew
  obtain ⟨sA, hsA⟩ : ∃ s, takeS s0 a = s := ⟨_, rfl⟩
  simp only [hsA] at hW1 hW2 hW3 hC hH1 hH2
  obtain ⟨sB, hsB⟩ : ∃ s, takeS sA b = s := ⟨_, rfl⟩
  obtain ⟨sD, hsD⟩ : ∃ s, takeS sA d = s := ⟨_, rfl⟩
  simp only [hsB] at hW2 hH1
  simp only [hsD] at hW3 hH2
  obtain ⟨sz, hsz⟩ : ∃ e : Int, (size : Int) = e := ⟨_, rfl⟩
  simp only [hsz] at hrt hnew hrk1 hrk2 hW1 hW2 hW3 hC hH1 hH2
  rw [hsz]
  have x2 : ¬ ((200 : Int) < (n2 : Int)) := by omega
  have x3 : ¬ ((200 : Int) < (n3 : Int)) := by omega
  have x4 : ¬ ((200 : Int) < (n4 : Int)) := by omega
  have HT := Lib.hid ht
  have HL := Lib.hid (And.intro ha (And.intro hb hd))
  have HR := Lib.hid (And.intro hr2 (And.intro hr3 hr4))
  have HNEW := Lib.hid hnew
  have HK1 := Lib.hid hrk1
  have HK2 := Lib.hid hrk2
  have HW1 := Lib.hid hW1
  have HW2 := Lib.hid hW2
  have HW3 := Lib.hid hW3
  have HC := Lib.hid hC
  have HH1 := Lib.hid hH1
  have HH2 := Lib.hid hH2
  have HDL := Lib.hid (And.intro hl1 hl2)
  have HN := Lib.hid (And.intro hn2 (And.intro hn3 hn4))
  clear ht hk ha hb hd hr1 hr2 hr3 hr4 hc2 hc3 hc4 hs0 hs1 hn1 hn2 hn3 hn4 hnew hsc hsp hD1 hD2 hl1 hl2 hs hq2 hq3 hq4 cu1 cu2 cu3 ct1 ct2 ct3 hrk hab had hE1 hE2 hrk1 hrk2 hW1 hW2 hW3 hC hH1 hH2 hal hsA hsB hsD hsz
  go_enter Tryd.func7, Tryd.ntmps7
  go_upto_region 5 with (first
    | (go_at_call 22; (with_reducible refine hrt.mono ?_); clear hrt; rintro e w' ⟨rfl, rfl⟩)
    | (go_at_call 24; (with_reducible refine HNEW.out.mono ?_); rintro e w1 ⟨g, rfl, hg, hh1, hb1⟩)
    | (go_at_call 25; (with_reducible refine (HW1.out w1 g hg hh1 hb1).mono ?_); rintro e w2 ⟨rfl, hh2, hb2, _⟩))
  have hgl := hh2.lt
  have HGL := Lib.hid (And.intro hg hgl)
  have HB2 := Lib.hid hb2
  have HH2' := Lib.hid hh2
  clear hh1 hb1 hh2 hb2 hg hgl HNEW HW1
  go_upto_region 6 with (go_at_call 28; (with_reducible refine (HC.out w2 g HH2'.out).mono ?_); rintro e w3 ⟨g2, rfl, hg2, ho3, hb3⟩)
  have hb03 : Below w.heap.size w w3 := HB2.out.trans (hb3.mono HB2.out.size)
  have hh3 := HH2'.out.keep hb3
  have hne : g ≠ g2 := by have := HGL.out; omega
  have hg2w : w.heap.size ≤ g2 := by have := HB2.out.size; omega
  have HS3 := Lib.hid (And.intro hh3 (And.intro ho3 (And.intro hb03 (And.intro hne hg2w))))
  clear hb3 hh3 ho3 hb03 hne hg2 hg2w HB2 HH2' HC
  go_upto_region 7 with (first
    | (go_at_call 25; (with_reducible refine (HW2.out w3 g HGL.out.1 HS3.out.1 HS3.out.2.2.1).mono ?_); rintro e w4 ⟨rfl, hh4, hb4, hk4⟩)
    | (go_at_call 25; (with_reducible refine (HW3.out w4 g2 HS3.out.2.2.2.2 (hk4 _ _ _ _ (Ne.symm HS3.out.2.2.2.1) HS3.out.2.1) hb4).mono ?_); rintro e w5 ⟨rfl, ho5, hb5, hk5⟩))
  have hh5 := hk5 _ _ _ _ HS3.out.2.2.2.1 hh4
  have HS5 := Lib.hid (And.intro hh5 ho5)
  have HB5 := Lib.hid hb5
  clear hk4 hk5 hh4 hb4 hh5 ho5 hb5 HS3 HW2 HW3
  go_upto_region 8 with (first
    | (at_builtin; refine wpList_append_rd _ rfl (.tmp 58) (.tmp 59) 0x1e rfl w5.heap.size 5 i0 _ Tryd.underlying30 hi hz0 hz1 hz2 rfl _ 0 [] rfl (World.ownsRow_made w5 #[] 0 (Nat.le_refl _) (by decide) rfl) w.heap.size A2 n2 c2 a rfl HL.out.1 ((HR.out.1.below HB5.out).alloc HB5.out.size _) (by have := HN.out; omega) (by simp) ?_; intro v60 w60 hown60 hg60 _; have hba : Below w5.heap.size w5 (w5.alloc (.cells #[] 5)) := (Below.refl _ _).alloc (Nat.le_refl _) _; have hb60 : Below w5.heap.size w5 w60 := hba.grown hg60 hba.size (fun g e => by cases e; exact Nat.le_refl _))
    | (at_builtin; refine wpList_append_rd _ rfl (.tmp 60) (.tmp 61) 0x1e rfl w5.heap.size 5 i0 _ Tryd.underlying30 hi hz0 hz1 hz2 rfl v60 (0 + n2) _ rfl hown60 w.heap.size A3 n3 c3 b rfl HL.out.2.1 ((HR.out.2.1.below HB5.out).belowTo hb60 HB5.out.size) (by have := HN.out; omega) hb60.size ?_; intro v62 w62 hown62 hg62 _; obtain ⟨A62, c62, rfl, hr62⟩ := two_row hown62; have hb62 : Below w5.heap.size w5 w62 := hb60.grown hg62 hb60.size (fun g e => own_ge hown60 g e))
    | (go_at_call 20; (with_reducible refine (HK1.out w62 A62 c62 (HB5.out.trans (hb62.mono HB5.out.size)) hr62).mono ?_); rintro e w6 ⟨Ax, cx, rfl, hrx, hb6⟩))
  have hb56 : Below w5.heap.size w5 w6 := hb62.trans (hb6.mono hb62.size)
  have hh6 := HS5.out.1.keep hb56
  have ho6 := HS5.out.2.keep hb56
  have HB6 := Lib.hid (HB5.out.trans (hb56.mono HB5.out.size))
  have HS6 := Lib.hid (And.intro hh6 ho6)
  have HRX := Lib.hid hrx
  clear hown60 hown62 hg60 hg62 hba hb60 hb62 hr62 hb6 hb56 hh6 ho6 hrx HS5 HB5 HK1
  go_upto_region 9 with (first
    | (at_builtin; refine wpList_append_rd _ rfl (.tmp 66) (.tmp 67) 0x1e rfl w6.heap.size 5 i0 _ Tryd.underlying30 hi hz0 hz1 hz2 rfl _ 0 [] rfl (World.ownsRow_made w6 #[] 0 (Nat.le_refl _) (by decide) rfl) w.heap.size A2 n2 c2 a rfl HL.out.1 ((HR.out.1.below HB6.out).alloc HB6.out.size _) (by have := HN.out; omega) (by simp) ?_; intro v68 w68 hown68 hg68 _; have hba : Below w6.heap.size w6 (w6.alloc (.cells #[] 5)) := (Below.refl _ _).alloc (Nat.le_refl _) _; have hb68 : Below w6.heap.size w6 w68 := hba.grown hg68 hba.size (fun g e => by cases e; exact Nat.le_refl _))
    | (at_builtin; refine wpList_append_rd _ rfl (.tmp 68) (.tmp 69) 0x1e rfl w6.heap.size 5 i0 _ Tryd.underlying30 hi hz0 hz1 hz2 rfl v68 (0 + n2) _ rfl hown68 w.heap.size A4 n4 c4 d rfl HL.out.2.2 ((HR.out.2.2.below HB6.out).belowTo hb68 HB6.out.size) (by have := HN.out; omega) hb68.size ?_; intro v70 w70 hown70 hg70 _; obtain ⟨A70, c70, rfl, hr70⟩ := two_row hown70; have hb70 : Below w6.heap.size w6 w70 := hb68.grown hg70 hb68.size (fun g e => own_ge hown68 g e))
    | (go_at_call 20; (with_reducible refine (HK2.out w70 A70 c70 (HB6.out.trans (hb70.mono HB6.out.size)) hr70).mono ?_); rintro e w7 ⟨Ay, cy, rfl, hry, hb7⟩))
  have hb67 : Below w6.heap.size w6 w7 := hb70.trans (hb7.mono hb70.size)
  have hh7 := HS6.out.1.keep hb67
  have ho7 := HS6.out.2.keep hb67
  have hb07 : Below w.heap.size w w7 := HB6.out.trans (hb67.mono HB6.out.size)
  have hrx7 := (HRX.out.below hb67).more hb67.size
  have hcv : ∀ W, Below w7.heap.size w7 W → (convert 0x1e 9 (.slice Ax size cx)).run Tryd.prog W = .ok (.string (strB D1)) W ∧ (convert 0x1e 9 (.slice Ay size cy)).run Tryd.prog W = .ok (.string (strB D2)) W := fun W hbW =>
    ⟨conv_rd HDL.out.1 ((hrx7.below hbW).more hbW.size), conv_rd HDL.out.2 ((hry.below hbW).more hbW.size)⟩
  have ht7 := HT.out.keep hb07
  have HCV := Lib.hid hcv
  have HT7 := Lib.hid ht7
  have HB7 := Lib.hid hb07
  have HS7 := Lib.hid (And.intro hh7 ho7)
  have k0 := hcv w7 (Below.refl _ _)
  have k0d := hcv w7.drew (Below.refl _ _).drew
  clear hown68 hown70 hg68 hg70 hba hb68 hb70 hr70 hb7 hb67 hh7 ho7 hb07 hrx7 hcv ht7 hry HS6 HB6 HK2 HRX
  go_region_held_law (fun W => (convert 0x1e 9 (.slice Ax size cx)).run Tryd.prog W = .ok (.string (strB D1)) W ∧ (convert 0x1e 9 (.slice Ay size cy)).run Tryd.prog W = .ok (.string (strB D2)) W)
    (first | exact k10 | exact k9 | exact k8 | exact k0d | exact k0)
    (first
    | (go_at_call 23; (with_reducible refine (num_any _ _).mono ?_); rintro e w' ⟨rfl, rfl⟩)
    | (go_at_call 26; (with_reducible refine (HH1.out w7 _ g HB7.out HS7.out.1.drew (Below.refl _ _).drew).mono ?_); rintro e w8 ⟨A8, c8, rfl, t8, hb8⟩; have k8 := HCV.out w8 hb8)
    | (go_at_call 26; (with_reducible refine (HH2.out w7 w8 g2 HB7.out (HS7.out.2.keep hb8) hb8).mono ?_); rintro e w9 ⟨A9, c9, rfl, t9, hb9⟩; have k9 := HCV.out w9 hb9)
    | (go_at_call 17; (with_reducible refine (works_from hb9 HT7.out).mono ?_); rintro e w10 ⟨rfl, hb10⟩; have k10 := HCV.out w10 hb10))
  all_goals
   go_wp2
   go_ret
   exact ⟨rfl, HB7.out.trans (hb10.mono HB7.out.size)⟩
theorem Sm.copies_law (size : Int) (n1 c1 n2 c2 n3 c3 n4 c4 : Nat) (A1 A2 A3 A4 : Option Addr) (key a b d : List (BitVec 8)) (w : World) (ht : Tabs w) (hk : key.length = n1) (ha : a.length = n2) (hb : b.length = n3) (hd : d.length = n4)
    (hr1 : Rd w w.heap.size A1 key) (hr2 : Rd w w.heap.size A2 a) (hr3 : Rd w w.heap.size A3 b) (hr4 : Rd w w.heap.size A4 d) (hc2 : n2 ≤ c2 ∧ c2 ≤ 9223372036854775807) (hc3 : n3 ≤ c3 ∧ c3 ≤ 9223372036854775807) (hc4 : n4 ≤ c4 ∧ c4 ≤ 9223372036854775807) :
    Calls Tryd.prog 7 #[.int .i64 size, .slice A1 n1 c1, .slice A2 n2 c2, .slice A3 n3 c3, .slice A4 n4 c4] w fun e w' => e = .returned (.bool true) ∧ Below w.heap.size w w' := by
  by_cases h : (size < 1 ∨ 32 < size ∨ 32 < n1) ∨ 200 < n2 ∨ 200 < n3 ∨ 200 < n4
  · exact copies_no size n1 c1 n2 c2 n3 c3 n4 c4 A1 A2 A3 A4 w ht h
  · obtain ⟨sz, rfl⟩ : ∃ sz : Nat, size = (sz : Int) := ⟨size.toNat, by omega⟩
    exact copies_yes sz n1 c1 n2 c2 n3 c3 n4 c4 A1 A2 A3 A4 key a b d w ht hk ha hb hd hr1 hr2 hr3 hr4 hc2 hc3 hc4 (by omega) (by omega) (by omega) (by omega) (by omega) (by omega)
end Go.Proofs
