/-
  The walk of the law HmacCopies, where works is under contract (the hypothesis hw5).
  A tag under way that is none: Write, Tag, Copy of it; and the walk of the law HmacWrites, where works is under contract (the hypothesis hw5).
-/
import Derived.Deep.RegionHeldLaw
import Derived.Test.YtmhmnmdobnkbgaaDoorM17
import Derived.Test.YtmhmnmdobnkbgaaDoorM11
import Derived.Deep.CutRange
namespace Go.Proofs
open Go.RowKit Sm
/-- works of layer 5 is under contract -/
def Sm.Works5 : Prop := ∀ v : World, Tabs v → Calls Tryd.prog 14 #[] v fun e w' => e = .returned (.bool true) ∧ Below v.heap.size v w'
theorem Sm.works5_from (hw5 : Works5) {b v : World} (hb : Below b.heap.size b v) (ht : Tabs b) : Calls Tryd.prog 14 #[] v fun e w' => e = .returned (.bool true) ∧ Below b.heap.size b w' :=
  (hw5 v (ht.keep hb)).mono fun _ _ ⟨h1, h2⟩ => ⟨h1, hb.trans (h2.mono hb.size)⟩
set_option maxRecDepth 100000 in
set_option maxHeartbeats 2000000 in
theorem Sm.copies5_no (hw5 : Works5) (n1 c1 n2 c2 n3 c3 n4 c4 : Nat) (A1 A2 A3 A4 : Option Addr) (w : World) (ht : Tabs w) (h : 200 < n1 ∨ 200 < n2 ∨ 200 < n3 ∨ 200 < n4) :
    Calls Tryd.prog 8 #[.slice A1 n1 c1, .slice A2 n2 c2, .slice A3 n3 c3, .slice A4 n4 c4] w fun e w' => e = .returned (.bool true) ∧ Below w.heap.size w w' := by
  have hw := hw5 w ht
  by_cases h1 : (200 : Int) < (n1 : Int)
  · clear h
    go_enter Tryd.func8, Tryd.ntmps8
    go_wp2_with (go_at_call 14; (with_reducible refine hw.mono ?_); clear hw; rintro e w1 ⟨rfl, hb⟩)
    go_ret
    exact ⟨rfl, hb⟩
  · by_cases h2 : (200 : Int) < (n2 : Int)
    · clear h
      go_enter Tryd.func8, Tryd.ntmps8
      go_wp2_with (go_at_call 14; (with_reducible refine hw.mono ?_); clear hw; rintro e w1 ⟨rfl, hb⟩)
      go_ret
      exact ⟨rfl, hb⟩
    · by_cases h3 : (200 : Int) < (n3 : Int)
      · clear h
        go_enter Tryd.func8, Tryd.ntmps8
        go_wp2_with (go_at_call 14; (with_reducible refine hw.mono ?_); clear hw; rintro e w1 ⟨rfl, hb⟩)
        go_ret
        exact ⟨rfl, hb⟩
      · have h4 : (200 : Int) < (n4 : Int) := by omega
        clear h
        go_enter Tryd.func8, Tryd.ntmps8
        go_wp2_with (go_at_call 14; (with_reducible refine hw.mono ?_); clear hw; rintro e w1 ⟨rfl, hb⟩)
        go_ret
        exact ⟨rfl, hb⟩
set_option maxRecDepth 100000 in
set_option maxHeartbeats 4000000 in
theorem Sm.copies5_yes (hw5 : Works5) (n1 c1 n2 c2 n3 c3 n4 c4 : Nat) (A1 A2 A3 A4 : Option Addr) (key a b d : List (BitVec 8)) (w : World) (ht : Tabs w) (hk : key.length = n1) (ha : a.length = n2) (hb : b.length = n3) (hd : d.length = n4)
    (hr1 : Rd w w.heap.size A1 key) (hr2 : Rd w w.heap.size A2 a) (hr3 : Rd w w.heap.size A3 b) (hr4 : Rd w w.heap.size A4 d) (hc1 : n1 ≤ c1 ∧ c1 ≤ 9223372036854775807) (hc2 : n2 ≤ c2 ∧ c2 ≤ 9223372036854775807) (hc3 : n3 ≤ c3 ∧ c3 ≤ 9223372036854775807) (hc4 : n4 ≤ c4 ∧ c4 ≤ 9223372036854775807)
    (hn1 : n1 ≤ 200) (hn2 : n2 ≤ 200) (hn3 : n3 ≤ 200) (hn4 : n4 ≤ 200) :
    Calls Tryd.prog 8 #[.slice A1 n1 c1, .slice A2 n2 c2, .slice A3 n3 c3, .slice A4 n4 c4] w fun e w' => e = .returned (.bool true) ∧ Below w.heap.size w w' := by
  obtain ⟨i0, hi, hz0, hz1, hz2⟩ := info_parts info5
  have h3 := ht.size
  have hnew := newK_any n1 c1 A1 key w ht hk (by omega) hc1.1 hc1.2 hr1
  have hW : ∀ (v : World) (gm g : Nat) (x l : List (BitVec 8)) (A : Option Addr) (n c : Nat), Below w.heap.size w v → w.heap.size ≤ g → MacK v gm g key x → x.length ≤ 400 → l.length = n → n ≤ 200 → n ≤ c → c ≤ 9223372036854775807 → Rd w w.heap.size A l → Calls Tryd.prog 23 #[.pointer (some ⟨gm, 0, none⟩), .slice A n c] v fun e w' => e = .returned (.int .i64 0) ∧ MacK w' gm g key (x ++ l) ∧ But (fun b => b = g) v w' := fun v gm g x l A n c hb hg hm hx hl hn hnc hcm hr =>
    writeK_any gm g key x A n c l v hm ((pt_of_rd hl hnc hcm hr g hg).keep hb) (by omega) (ht.keep hb) (by omega)
  have hC : ∀ (v : World) (gm g : Nat) (x : List (BitVec 8)), MacK v gm g key x → _ := fun v gm g x hm => copyK_any gm g key x v hm
  have hT : ∀ (v : World) (gm g : Nat) (x : List (BitVec 8)), Below w.heap.size w v → w.heap.size ≤ g → MacK v gm g key x → x.length ≤ 400 → _ := fun v gm g x hb hg hm hx => tagK_any gm g key x v hm (by omega) (ht.keep hb) (by omega)
  have hrk : ∀ (v : World) (m : Nat) (A : Option Addr) (c : Nat) (x : List (BitVec 8)), x.length = m → m ≤ 400 → Below w.heap.size w v → Rd v v.heap.size A x → Calls Tryd.prog 16 #[.slice A1 n1 c1, .slice A m c] v fun e w' => ∃ A' c', e = .returned (.slice A' 32 c') ∧ Rd w' w'.heap.size A' (tagS key x) ∧ Below v.heap.size v w' := fun v m A c x hx hm hv hr =>
    (refTag_any n1 c1 m c A1 A key x v hk (by omega) hx (by omega) ((hr1.below hv).more hv.size) hr).mono fun _ _ ⟨A', c', e, p, q, _⟩ => ⟨A', c', e, p, q⟩
  have hab : (a ++ b).length = n2 + n3 := by rw [List.length_append, ha, hb]
  have had : (a ++ d).length = n2 + n4 := by rw [List.length_append, ha, hd]
  have hq2 := fun (v : World) (gm g : Nat) (h1 : Below w.heap.size w v) (h2 : w.heap.size ≤ g) (h3 : MacK v gm g key []) => hW v gm g [] a A2 n2 c2 h1 h2 h3 (by decide) ha hn2 hc2.1 hc2.2 hr2
  have hq3 := fun (v : World) (gm g : Nat) (h1 : Below w.heap.size w v) (h2 : w.heap.size ≤ g) (h3 : MacK v gm g key a) => hW v gm g a b A3 n3 c3 h1 h2 h3 (by omega) hb hn3 hc3.1 hc3.2 hr3
  have hq4 := fun (v : World) (gm g : Nat) (h1 : Below w.heap.size w v) (h2 : w.heap.size ≤ g) (h3 : MacK v gm g key a) => hW v gm g a d A4 n4 c4 h1 h2 h3 (by omega) hd hn4 hc4.1 hc4.2 hr4
  have hk1 := fun (v : World) (A : Option Addr) (c : Nat) (h1 : Below w.heap.size w v) (h2 : Rd v v.heap.size A (a ++ b)) => hrk v (n2 + n3) A c (a ++ b) hab (by omega) h1 h2
  have hk2 := fun (v : World) (A : Option Addr) (c : Nat) (h1 : Below w.heap.size w v) (h2 : Rd v v.heap.size A (a ++ d)) => hrk v (n2 + n4) A c (a ++ d) had (by omega) h1 h2
  have ht1 := fun (v : World) (gm g : Nat) (h1 : Below w.heap.size w v) (h2 : w.heap.size ≤ g) (h3 : MacK v gm g key (a ++ b)) => hT v gm g (a ++ b) h1 h2 h3 (by omega)
  have ht2 := fun (v : World) (gm g : Nat) (h1 : Below w.heap.size w v) (h2 : w.heap.size ≤ g) (h3 : MacK v gm g key (a ++ d)) => hT v gm g (a ++ d) h1 h2 h3 (by omega)
  have hl1 := tagS_length key (a ++ b)
  have hl2 := tagS_length key (a ++ d)
  obtain ⟨D1, hD1⟩ : ∃ D, tagS key (a ++ b) = D := ⟨_, rfl⟩
  obtain ⟨D2, hD2⟩ : ∃ D, tagS key (a ++ d) = D := ⟨_, rfl⟩
  simp only [hD1] at hk1 ht1 hl1
  simp only [hD2] at hk2 ht2 hl2
  have x1 : ¬ ((200 : Int) < (n1 : Int)) := by omega
  have x2 : ¬ ((200 : Int) < (n2 : Int)) := by omega
  have x3 : ¬ ((200 : Int) < (n3 : Int)) := by omega
  have x4 : ¬ ((200 : Int) < (n4 : Int)) := by omega
  simp only [List.nil_append] at hq2
  have HT := Lib.hid ht
  have HW5 := Lib.hid hw5
  have HL := Lib.hid (And.intro ha (And.intro hb hd))
  have HR := Lib.hid (And.intro hr2 (And.intro hr3 hr4))
  have HNEW := Lib.hid hnew
  have HK1 := Lib.hid hk1
  have HK2 := Lib.hid hk2
  have HW1 := Lib.hid hq2
  have HW2 := Lib.hid hq3
  have HW3 := Lib.hid hq4
  have HC := Lib.hid hC
  have HT1 := Lib.hid ht1
  have HT2 := Lib.hid ht2
  have HDL := Lib.hid (And.intro hl1 hl2)
  have HN := Lib.hid (And.intro hn2 (And.intro hn3 hn4))
  clear hw5 ht hk ha hb hd hr1 hr2 hr3 hr4 hc1 hc2 hc3 hc4 hn1 hn2 hn3 hn4 hnew hW hC hT hrk hab had hq2 hq3 hq4 hk1 hk2 ht1 ht2 hl1 hl2 hD1 hD2 h3
  go_enter Tryd.func8, Tryd.ntmps8
  go_upto_region 5 with (first
    | (go_at_call 22; (with_reducible refine HNEW.out.mono ?_); rintro e w1 ⟨gm, g, rfl, hgm, hg, hh1, hb1⟩)
    | (go_at_call 23; (with_reducible refine (HW1.out w1 gm g hb1 hg hh1).mono ?_); rintro e w2 ⟨rfl, hh2, hbt2⟩))
  have hb2 : Below w.heap.size w w2 := But.below hb1 hbt2 (fun b e => by omega)
  have hlt := hh2.lt
  have HGL := Lib.hid (And.intro hgm (And.intro hg hlt))
  have HB2 := Lib.hid hb2
  have HH2' := Lib.hid hh2
  clear hh1 hb1 hbt2 hh2 hb2 hlt hgm hg HNEW HW1
  go_upto_region 6 with (go_at_call 25; (with_reducible refine (HC.out w2 gm g _ HH2'.out).mono ?_); rintro e w3 ⟨gm2, g2, rfl, hgm2, hg2, ho3, hb3⟩)
  have hb03 : Below w.heap.size w w3 := HB2.out.trans (hb3.mono HB2.out.size)
  have hh3 := HH2'.out.keep hb3
  have hne : gm ≠ g2 ∧ g ≠ g2 ∧ gm2 ≠ g ∧ g2 ≠ g := by have := HGL.out; omega
  have hg2w : w.heap.size ≤ g2 := by have := HB2.out.size; omega
  have HS3 := Lib.hid (And.intro hh3 (And.intro ho3 (And.intro hb03 (And.intro hne hg2w))))
  clear hb3 hh3 ho3 hb03 hne hgm2 hg2 hg2w HB2 HH2' HC
  go_upto_region 7 with (first
    | (go_at_call 23; (with_reducible refine (HW2.out w3 gm g HS3.out.2.2.1 HGL.out.2.1 HS3.out.1).mono ?_); rintro e w4 ⟨rfl, hh4, hbt4⟩; have hb4 : Below w.heap.size w w4 := But.below HS3.out.2.2.1 hbt4 (fun b e => by have := HGL.out; omega); have ho4 := HS3.out.2.1.but hbt4 HS3.out.2.2.2.1.2.2.1 HS3.out.2.2.2.1.2.2.2)
    | (go_at_call 23; (with_reducible refine (HW3.out w4 gm2 g2 hb4 HS3.out.2.2.2.2 ho4).mono ?_); rintro e w5 ⟨rfl, ho5, hbt5⟩))
  have hb5 : Below w.heap.size w w5 := But.below hb4 hbt5 (fun b e => by have := HS3.out.2.2.2.2; omega)
  have hh5 := hh4.but hbt5 HS3.out.2.2.2.1.1 HS3.out.2.2.2.1.2.1
  have HG2 := Lib.hid HS3.out.2.2.2.2
  have HS5 := Lib.hid (And.intro hh5 ho5)
  have HB5 := Lib.hid hb5
  clear hh4 hb4 hbt4 hbt5 ho4 hh5 ho5 hb5 HS3 HW2 HW3
  go_upto_region 8 with (first
    | (at_builtin; refine wpList_append_rd _ rfl (.tmp 49) (.tmp 50) 0x16 rfl w5.heap.size 5 i0 _ Tryd.underlying22 hi hz0 hz1 hz2 rfl _ 0 [] rfl (World.ownsRow_made w5 #[] 0 (Nat.le_refl _) (by decide) rfl) w.heap.size A2 n2 c2 a rfl HL.out.1 ((HR.out.1.below HB5.out).alloc HB5.out.size _) (by have := HN.out; omega) (by simp) ?_; intro v60 w60 hown60 hg60 _; have hba : Below w5.heap.size w5 (w5.alloc (.cells #[] 5)) := (Below.refl _ _).alloc (Nat.le_refl _) _; have hb60 : Below w5.heap.size w5 w60 := hba.grown hg60 hba.size (fun g e => by cases e; exact Nat.le_refl _))
    | (at_builtin; refine wpList_append_rd _ rfl (.tmp 51) (.tmp 52) 0x16 rfl w5.heap.size 5 i0 _ Tryd.underlying22 hi hz0 hz1 hz2 rfl v60 (0 + n2) _ rfl hown60 w.heap.size A3 n3 c3 b rfl HL.out.2.1 ((HR.out.2.1.below HB5.out).belowTo hb60 HB5.out.size) (by have := HN.out; omega) hb60.size ?_; intro v62 w62 hown62 hg62 _; obtain ⟨A62, c62, rfl, hr62⟩ := two_row hown62; have hb62 : Below w5.heap.size w5 w62 := hb60.grown hg62 hb60.size (fun g e => own_ge hown60 g e))
    | (go_at_call 16; (with_reducible refine (HK1.out w62 A62 c62 (HB5.out.trans (hb62.mono HB5.out.size)) hr62).mono ?_); rintro e w6 ⟨Ax, cx, rfl, hrx, hb6⟩))
  have hb56 : Below w5.heap.size w5 w6 := hb62.trans (hb6.mono hb62.size)
  have hh6 := HS5.out.1.keep hb56
  have ho6 := HS5.out.2.keep hb56
  have HB6 := Lib.hid (HB5.out.trans (hb56.mono HB5.out.size))
  have HS6 := Lib.hid (And.intro hh6 ho6)
  have HRX := Lib.hid hrx
  clear hown60 hown62 hg60 hg62 hba hb60 hb62 hr62 hb6 hb56 hh6 ho6 hrx HS5 HB5 HK1
  go_upto_region 9 with (first
    | (at_builtin; refine wpList_append_rd _ rfl (.tmp 56) (.tmp 57) 0x16 rfl w6.heap.size 5 i0 _ Tryd.underlying22 hi hz0 hz1 hz2 rfl _ 0 [] rfl (World.ownsRow_made w6 #[] 0 (Nat.le_refl _) (by decide) rfl) w.heap.size A2 n2 c2 a rfl HL.out.1 ((HR.out.1.below HB6.out).alloc HB6.out.size _) (by have := HN.out; omega) (by simp) ?_; intro v68 w68 hown68 hg68 _; have hba : Below w6.heap.size w6 (w6.alloc (.cells #[] 5)) := (Below.refl _ _).alloc (Nat.le_refl _) _; have hb68 : Below w6.heap.size w6 w68 := hba.grown hg68 hba.size (fun g e => by cases e; exact Nat.le_refl _))
    | (at_builtin; refine wpList_append_rd _ rfl (.tmp 58) (.tmp 59) 0x16 rfl w6.heap.size 5 i0 _ Tryd.underlying22 hi hz0 hz1 hz2 rfl v68 (0 + n2) _ rfl hown68 w.heap.size A4 n4 c4 d rfl HL.out.2.2 ((HR.out.2.2.below HB6.out).belowTo hb68 HB6.out.size) (by have := HN.out; omega) hb68.size ?_; intro v70 w70 hown70 hg70 _; obtain ⟨A70, c70, rfl, hr70⟩ := two_row hown70; have hb70 : Below w6.heap.size w6 w70 := hb68.grown hg70 hb68.size (fun g e => own_ge hown68 g e))
    | (go_at_call 16; (with_reducible refine (HK2.out w70 A70 c70 (HB6.out.trans (hb70.mono HB6.out.size)) hr70).mono ?_); rintro e w7 ⟨Ay, cy, rfl, hry, hb7⟩))
  have hb67 : Below w6.heap.size w6 w7 := hb70.trans (hb7.mono hb70.size)
  have hh7 := HS6.out.1.keep hb67
  have ho7 := HS6.out.2.keep hb67
  have hb07 : Below w.heap.size w w7 := HB6.out.trans (hb67.mono HB6.out.size)
  have hrx7 := (HRX.out.below hb67).more hb67.size
  have hcv : ∀ W, Below w7.heap.size w7 W → (convert 0x16 9 (.slice Ax 32 cx)).run Tryd.prog W = .ok (.string (strB D1)) W ∧ (convert 0x16 9 (.slice Ay 32 cy)).run Tryd.prog W = .ok (.string (strB D2)) W := fun W hbW =>
    ⟨conv_rd HDL.out.1 ((hrx7.below hbW).more hbW.size), conv_rd HDL.out.2 ((hry.below hbW).more hbW.size)⟩
  have ht7 := HT.out.keep hb07
  have HCV := Lib.hid hcv
  have HT7 := Lib.hid ht7
  have HB7 := Lib.hid hb07
  have HS7 := Lib.hid (And.intro hh7 ho7)
  have k0 := hcv w7 (Below.refl _ _)
  have k0d := hcv w7.drew (Below.refl _ _).drew
  clear hown68 hown70 hg68 hg70 hba hb68 hb70 hr70 hb7 hb67 hh7 ho7 hb07 hrx7 hcv ht7 hry HS6 HB6 HK2 HRX
  go_region_held_law (fun W => (convert 0x16 9 (.slice Ax 32 cx)).run Tryd.prog W = .ok (.string (strB D1)) W ∧ (convert 0x16 9 (.slice Ay 32 cy)).run Tryd.prog W = .ok (.string (strB D2)) W)
    (first | exact k10 | exact k9 | exact k8 | exact k0d | exact k0)
    (first
    | (go_at_call 18; (with_reducible refine (num5_any _ _).mono ?_); rintro e w' ⟨rfl, rfl⟩)
    | (go_at_call 24; (with_reducible refine (HT1.out _ gm g (HB7.out.trans ((Below.refl _ _).drew.mono HB7.out.size)) HGL.out.2.1 HS7.out.1.drew).mono ?_); rintro e w8 ⟨R8, rfl, _, hR8, hb8'⟩; have t8 := tag_conv hR8 HDL.out.1 (Below.refl _ _); have hb8 : Below w7.heap.size w7 w8 := (Below.refl _ _).drew.trans hb8'; have k8 := HCV.out w8 hb8)
    | (go_at_call 24; (with_reducible refine (HT2.out w8 gm2 g2 (HB7.out.trans (hb8.mono HB7.out.size)) HG2.out (HS7.out.2.keep hb8)).mono ?_); rintro e w9 ⟨R9, rfl, _, hR9, hb9'⟩; have t9 := tag_conv hR9 HDL.out.2 (Below.refl _ _); have hb9 : Below w7.heap.size w7 w9 := hb8.trans (hb9'.mono hb8.size); have k9 := HCV.out w9 hb9)
    | (go_at_call 14; (with_reducible refine (works5_from HW5.out hb9 HT7.out).mono ?_); rintro e w10 ⟨rfl, hb10⟩; have k10 := HCV.out w10 hb10))
  all_goals
   go_wp2
   go_ret
   exact ⟨rfl, HB7.out.trans (hb10.mono HB7.out.size)⟩
end Go.Proofs
namespace Go.Proofs
open Go.RowKit Sm
/-- a tag under way that is none -/
def Sm.NoneM (w : World) (v : Value) : Prop := v = .pointer none ∨ ∃ g, v = .pointer (some ⟨g, 0, none⟩) ∧ w.cell? ⟨g, 0, none⟩ = some (.pointer none)
theorem Sm.NoneM.keep {w w' : World} {v : Value} (h : NoneM w v) (hb : Below w.heap.size w w') : NoneM w' v := by
  rcases h with rfl | ⟨g, rfl, hc⟩
  · exact .inl rfl
  · exact .inr ⟨g, rfl, (hb.cell (p := ⟨g, 0, none⟩) (World.block_lt_of_cell? _ _ hc)).trans hc⟩
theorem Sm.noneM_new (w : World) : NoneM (w.alloc (.cells (Value.pointer none :: z64.map byteCell).toArray 0x34)) (.pointer (some ⟨w.heap.size, 0, none⟩)) := .inr ⟨w.heap.size, rfl, by rw [World.cell?_alloc_mark]; rfl⟩
set_option maxHeartbeats 1000000 in
theorem Sm.there_none5 (w : World) (v : Value) (h : NoneM w v) : Calls Tryd.prog 45 #[v] w fun e w' => e = .returned (.bool false) ∧ w = w' := by
  rcases h with rfl | ⟨g, rfl, hc⟩
  · go_enter Tryd.func45, Tryd.ntmps45
    go_wp2
    go_ret
    exact ⟨rfl, rfl⟩
  · go_enter Tryd.func45, Tryd.ntmps45
    go_wp2
    go_ret
    exact ⟨rfl, rfl⟩
set_option maxHeartbeats 1000000 in
theorem Sm.write_none5 (w : World) (v : Value) (A : Option Addr) (n c : Nat) (h : NoneM w v) : Calls Tryd.prog 23 #[v, .slice A n c] w fun e w' => e = .returned (.int .i64 1) ∧ w = w' := by
  have ht := there_none5 w v h
  clear h
  go_enter Tryd.func23, Tryd.ntmps23
  go_wp2_with (go_at_call 45; (with_reducible refine ht.mono ?_); clear ht; rintro e w' ⟨rfl, rfl⟩)
  go_ret
  exact ⟨rfl, rfl⟩
set_option maxHeartbeats 1000000 in
theorem Sm.tag_none5 (w : World) (v : Value) (h : NoneM w v) : Calls Tryd.prog 24 #[v] w fun e w' => e = .returned (.slice none 0 0) ∧ w = w' := by
  have ht := there_none5 w v h
  clear h
  go_enter Tryd.func24, Tryd.ntmps24
  go_wp2_with (go_at_call 45; (with_reducible refine ht.mono ?_); clear ht; rintro e w' ⟨rfl, rfl⟩)
  go_ret
  exact ⟨rfl, rfl⟩
set_option maxHeartbeats 1000000 in
theorem Sm.copy_none5 (w : World) (v : Value) (h : NoneM w v) : Calls Tryd.prog 25 #[v] w fun e w' => e = .returned (.pointer none) ∧ w = w' := by
  have ht := there_none5 w v h
  clear h
  go_enter Tryd.func25, Tryd.ntmps25
  go_wp2_with (go_at_call 45; (with_reducible refine ht.mono ?_); clear ht; rintro e w' ⟨rfl, rfl⟩)
  go_ret
  exact ⟨rfl, rfl⟩
set_option maxRecDepth 100000 in
set_option maxHeartbeats 2000000 in
theorem Sm.writes5_no (hw5 : Works5) (n1 c1 n c : Nat) (A1 A : Option Addr) (ps : List Pt) (w : World) (ht : Tabs w) (h : PsC w A n ps) (hnm : n ≤ 9223372036854775807) (hf : ¬ (Few 10 ps ∧ n1 ≤ 200)) :
    Calls Tryd.prog 7 #[.slice A1 n1 c1, .slice A n c] w fun e w' => e = .returned (.bool true) ∧ Below w.heap.size w w' := by
  have hj := joined5_no A1 n1 c1 A n c ps w h hnm hf
  have hw := fun v (hb : Below w.heap.size w v) => works5_from hw5 hb ht
  clear h hf ht
  go_enter Tryd.func7, Tryd.ntmps7
  go_wp2_with (first
    | (go_at_call 13; (with_reducible refine hj.mono ?_); clear hj; rintro e w1 ⟨rfl, hb1⟩)
    | (go_at_call 14; (with_reducible refine (hw _ hb1).mono ?_); clear hw; rintro e w2 ⟨rfl, hb2⟩))
  go_ret
  exact ⟨rfl, hb2⟩
theorem Sm.bvs_set (l : List (BitVec 8)) (j : Nat) (y : BitVec 8) : (bvs l).setIfInBounds j (.int .u8 (ib y)) = bvs (l.set j y) := by
  unfold bvs
  rw [List.setIfInBounds_toArray, List.map_set]
  rfl
set_option maxRecDepth 100000 in
set_option maxHeartbeats 8000000 in
theorem Sm.writes5_yes (hw5 : Works5) (n1 c1 n c : Nat) (A1 A : Option Addr) (key : List (BitVec 8)) (ps : List Pt) (w : World) (ht : Tabs w) (h : PsC w A n ps) (hf : Few 10 ps) (hn1 : n1 ≤ 200) (hk : key.length = n1) (hr : Rd w w.heap.size A1 key) (hc1 : n1 ≤ c1) (hc2 : c1 ≤ 9223372036854775807) :
    Calls Tryd.prog 7 #[.slice A1 n1 c1, .slice A n c] w fun e w' => e = .returned (.bool true) ∧ Below w.heap.size w w' := by
  have h3 := ht.size
  have hj := joined5_yes A1 n1 c1 A n c ps w h hf hn1
  have hlen : (joinP ps).length ≤ 4000 := by
    have := joinP_take_le ps ps.length (fun p hp => by rw [List.take_length] at hp; rw [(h.each p hp).len]; exact hf.2 p hp) (by have := hf.1; omega)
    rwa [List.take_length] at this
  have hz75 := (zero_of_info z75).1
  have htm := mod_two n
  have hnew := fun v (hb : Below w.heap.size w v) => newK_any n1 c1 A1 key v (ht.keep hb) hk (by omega) hc1 hc2 ((hr.below hb).more hb.size)
  have hrf : ∀ (v : World) (A3 : Option Addr) (L c3 : Nat) (b : List (BitVec 8)), b.length = L → L ≤ 4200 → Below w.heap.size w v → Rd v v.heap.size A3 b → Calls Tryd.prog 16 #[.slice A1 n1 c1, .slice A3 L c3] v fun e w' => ∃ A' c', e = .returned (.slice A' 32 c') ∧ (convert 0x16 9 (.slice A' 32 c')).run Tryd.prog w' = .ok (.string (strB (tagS key b))) w' ∧ Below v.heap.size v w' := fun v A3 L c3 b hL hL2 hb0 hr3 =>
    (refTag_any n1 c1 L c3 A1 A3 key b v hk (by omega) hL (by omega) ((hr.below hb0).more hb0.size) hr3).mono fun _ _ ⟨A', c', e, p, q, _⟩ => ⟨A', c', e, conv_rd (tagS_length _ _) p, q⟩
  have hW : ∀ (v : World) (gm g : Nat) (b l : List (BitVec 8)) (A2 : Option Addr) (m c2 : Nat), Below w.heap.size w v → w.heap.size ≤ g → PtOK v g A2 m c2 l → b.length ≤ 4000 → m ≤ 200 → MacK v gm g key b →
      Calls Tryd.prog 23 #[.pointer (some ⟨gm, 0, none⟩), .slice A2 m c2] v fun e w' => e = .returned (.int .i64 0) ∧ MacK w' gm g key (b ++ l) ∧ But (fun b => b = g) v w' := fun v gm g b l A2 m c2 hb hg hpt hbl hm hh =>
    writeK_any gm g key b A2 m c2 l v hh hpt (by omega) (ht.keep hb) (by have := hpt.len; omega)
  have hT : ∀ (v : World) (gm g : Nat) (b : List (BitVec 8)), Below w.heap.size w v → w.heap.size ≤ g → b.length ≤ 4200 → MacK v gm g key b →
      Calls Tryd.prog 24 #[.pointer (some ⟨gm, 0, none⟩)] v fun e w' => ∃ R, e = .returned (.slice (some ⟨R, 0, none⟩) 32 32) ∧ v.heap.size ≤ R ∧ Blk w' R 0x1b (bvs (tagS key b)) ∧ Below v.heap.size v w' := fun v gm g b hb hg hbl hh =>
    tagK_any gm g key b v hh (by omega) (ht.keep hb) (by omega)
  have hDl : ∀ b, (tagS key b).length = 32 := fun b => tagS_length key b
  obtain ⟨Dg, hDg⟩ : ∃ f : List (BitVec 8) → List (BitVec 8), ∀ b, tagS key b = f b := ⟨_, fun _ => rfl⟩
  simp only [hDg] at hrf hT hDl
  have hpl := h.len
  have hn10 := hf.1
  have HJ := Lib.hid hj
  have HW5 := Lib.hid hw5
  have HT := Lib.hid ht
  have HP := Lib.hid h
  have HF := Lib.hid hf
  have HLEN := Lib.hid hlen
  have HNEW := Lib.hid hnew
  have HRF := Lib.hid hrf
  have HWR := Lib.hid hW
  have HTG := Lib.hid hT
  have HDL := Lib.hid hDl
  have HTM := Lib.hid htm
  have HZ := Lib.hid hz75
  have HPL := Lib.hid hpl
  clear hw5 h hf ht hj hk hr hlen hnew hrf hW hT hDl hDg htm hz75 hn1 hpl hc1 hc2 h3
  go_enter Tryd.func7, Tryd.ntmps7
  go_upto_region 5 with (first
    | (go_at_call 13; (with_reducible refine HJ.out.mono ?_); rintro e w1 ⟨v1, rfl, hown1, hb1⟩)
    | (go_at_call 22; (with_reducible refine (HNEW.out w1 hb1).mono ?_); rintro e w2 ⟨gm, g, rfl, hgm, hg, hh2, hb2⟩))
  obtain ⟨A7, c7, rfl⟩ := own_slice hown1
  have hc7 : (joinP ps).length ≤ c7 := own_cap hown1
  have hr7 : Rd w1 w1.heap.size A7 (joinP ps) := Rd.of_own hown1 (Nat.le_refl _)
  have HH := Lib.hid hh2
  have HB1 := Lib.hid hb1
  have HB := Lib.hid hb2
  have HR7 := Lib.hid hr7
  have hgw : w.heap.size ≤ g := Nat.le_trans hb1.size hg
  clear hh2 hb1 hb2 hr7 hown1 HJ HNEW
  go_wp2_with fail
  go_loopw [8, 9] (fun s8 s9 wr => ∃ (k : Nat) (N : Nat), k ≤ n ∧ s9 = .int .i64 (k : Int) ∧ s8 = .int .i64 (N : Int) ∧ Hid ((joinP (ps.take k)).length = N) ∧ Hid (MacK wr gm g key (joinP (ps.take k))) ∧ Hid (Below w1.heap.size w1 wr)) (fun _ s9 _ => n - (intOf s9).toNat)
  case atStart => exact ⟨0, 0, Nat.zero_le _, rfl, rfl, Lib.hid rfl, HH, HB⟩
  case round =>
    obtain ⟨wo, rfl⟩ : ∃ wo : World, wo = wr := ⟨_, rfl⟩
    obtain ⟨k, N, hk, rfl, rfl, HNL, HHr, HBr⟩ := hrel
    clear HH HB
    by_cases hlt : k < n
    · have hkl : k < ps.length := by rw [HPL.out]; exact hlt
      have hbw : Below w.heap.size w wo := HB1.out.trans (HBr.out.mono HB1.out.size)
      obtain ⟨b, off, rfl, hblt, hc0⟩ := HP.out.at_ hkl
      have hpc := HP.out.each ps[k] (List.getElem_mem hkl)
      have hpn := HF.out.2 ps[k] (List.getElem_mem hkl)
      have hsn := joinP_snoc ps k hkl
      have hle1 := joinP_len ps k
      have hle2 := joinP_len ps (k + 1)
      have hcu := joinP_cut ps (k + 1)
      obtain ⟨p, hp⟩ : ∃ p, ps[k] = p := ⟨_, rfl⟩
      rw [hp] at hc0 hpc hpn hsn
      obtain ⟨ba, hba⟩ : ∃ ba, joinP (ps.take k) = ba := ⟨_, rfl⟩
      obtain ⟨bb, hbb⟩ : ∃ bb, joinP (ps.take (k + 1)) = bb := ⟨_, rfl⟩
      have hnl := HNL.out
      have hh := HHr.out
      rw [hba] at hsn hle1 hnl hh
      rw [hbb] at hsn hle2 hcu
      have hbbl : bb.length = N + p.n := by rw [hsn, List.length_append, hnl, hpc.len]
      have hN4 : N ≤ 4000 := by have := HLEN.out; omega
      have hL7 : N + p.n ≤ (joinP ps).length := by omega
      have hc := (hbw.cell (p := ⟨b, off + k, none⟩) hblt).trans hc0
      have hw := HWR.out wo gm g ba p.l p.A p.n p.c hbw hgw ((hpc.ok g hgw).keep hbw) (by omega) hpn hh
      rw [← hsn] at hw
      have hb1o := HBr.out.size
      have HC0 := Lib.hid (And.intro hblt hc0)
      have HWo := Lib.hid hw
      have HBA := Lib.hid hbb
      have HBL := Lib.hid hbbl
      have HCU := Lib.hid hcu
      clear hblt hc0 hpc hsn hle1 hle2 hcu hp hba hbb hnl hh hbbl hbw HHr HNL hw
      go_upto_region 10 with (go_at_call 23; (with_reducible refine HWo.out.mono ?_); rintro e w15 ⟨rfl, hh15, hbt15⟩)
      have hb15 : Below w1.heap.size w1 w15 := But.below HBr.out hbt15 (fun b e => by omega)
      have hbw15 : Below w.heap.size w w15 := HB1.out.trans (hb15.mono HB1.out.size)
      have hlt15 := hh15.lt
      have htg := HTG.out w15 gm g bb hbw15 hgw (by have := HBL.out; omega) hh15
      have hc2 := (hbw15.cell (p := ⟨b, off + k, none⟩) HC0.out.1).trans HC0.out.2
      have HH15 := Lib.hid hh15
      have HB15 := Lib.hid hb15
      have HBW15 := Lib.hid hbw15
      have HTG15 := Lib.hid htg
      clear hc hbt15 hh15 hb15 hbw15 htg HWo HBr
      go_upto_region 12 with (go_at_call 24; (with_reducible refine HTG15.out.mono ?_); rintro e w17 ⟨R, rfl, hR, hR17, hb17⟩)
      have hDl := HDL.out bb
      have hr7 : Rd w17 w17.heap.size (cutA A7 0 c7) bb := by
        have h1 := (HR7.out.below (HB15.out.trans (hb17.mono HB15.out.size))).more (Nat.le_trans HB15.out.size hb17.size)
        have h2 := rd_cut0 (c := c7) h1 bb.length
        rwa [HCU.out] at h2
      have hsl := fun W => cut_h A7 (joinP ps).length c7 (N + p.n) (by omega) W
      simp only [Int.natCast_add] at hsl
      have hbw17 : Below w.heap.size w w17 := HBW15.out.trans (hb17.mono HBW15.out.size)
      have hh17 := HH15.out.keep hb17
      have hrf := fun v (hv : Below w17.heap.size w17 v) => HRF.out v (cutA A7 0 c7) (N + p.n) c7 bb HBL.out (by omega) (hbw17.trans (hv.mono hbw17.size)) ((hr7.below hv).more hv.size)
      have hcv : ∀ W, Below w17.heap.size w17 W → (convert 0x16 9 (.slice (some ⟨R, 0, none⟩) 32 32)).run Tryd.prog W = .ok (.string (strB (Dg bb))) W := fun W hbW => tag_conv hR17 hDl hbW
      obtain ⟨D, hD⟩ : ∃ D, Dg bb = D := ⟨_, rfl⟩
      rw [hD] at hR17 hDl
      simp only [hD] at hrf hcv
      have HRB := Lib.hid hR17
      have HDL17 := Lib.hid hDl
      have HRF17 := Lib.hid hrf
      have HCV := Lib.hid hcv
      have HB17 := Lib.hid (HB15.out.trans (hb17.mono HB15.out.size))
      have HH17 := Lib.hid hh17
      clear hR17 hDl hrf hh17 hbw17 hr7 hD hb17 hc2 HTG15 HB15 HH15 HBW15
      go_cut [59] from 25 to 73 (fun s59 wx => s59 = .bool false ∧ Hid (Below w17.heap.size w17 wx))
      case first =>
        have k0 := hcv w17 (Below.refl _ _)
        have k0d := hcv w17.drew (Below.refl _ _).drew
        clear hcv
        go_region_held_law (fun W => (convert 0x16 9 (.slice (some ⟨R, 0, none⟩) 32 32)).run Tryd.prog W = .ok (.string (strB D)) W)
          (first | exact k19 | exact k0d | exact k0)
          (first
          | (go_at_call 18; (with_reducible refine (num5_any _ _).mono ?_); rintro e w' ⟨rfl, rfl⟩)
          | (go_at_call 16; (with_reducible refine (HRF17.out _ (Below.refl _ _).drew).mono ?_); rintro e w19 ⟨A19, c19, rfl, t19, hb19'⟩; have hb19 : Below w17.heap.size w17 w19 := (Below.refl _ _).drew.trans hb19'; have k19 := HCV.out w19 hb19))
        all_goals
         go_wp2_with fail
         go_meet
         exact ⟨rfl, Lib.hid hb19⟩
      case rest =>
        obtain ⟨rfl, HC⟩ := hcut
        have HOC := Lib.hid (HRB.out.keep HC.out)
        have HBC := Lib.hid (HB17.out.trans (HC.out.mono HB17.out.size))
        have HHC := Lib.hid (HH17.out.keep HC.out)
        have hgR : gm ≠ R ∧ g ≠ R ∧ w1.heap.size ≤ R := by omega
        clear hcv hsl HRB HB17 HH17 HCV HRF17 HC
        go_wp2_with fail
        go_loopw [12] (fun vi wr => ∃ (j : Nat) (ys : List (BitVec 8)), j ≤ 32 ∧ vi = .int .i64 (j : Int) ∧ Hid (ys.length = 32 ∧ Blk wr R 0x1b (bvs ys)) ∧ Hid (But (fun b => b = R) wc wr)) (fun vi _ => 32 - (intOf vi).toNat)
        case atStart => exact ⟨0, D, Nat.zero_le _, rfl, Lib.hid ⟨HDL17.out, HOC.out⟩, Lib.hid (But.refl _ _)⟩
        case round =>
          obtain ⟨j, ys, hj, rfl, HY, HW⟩ := hrel
          by_cases hlj : j < 32
          · have ho1 := HY.out.2
            have hky : j < ys.length := by have := HY.out.1; omega
            have hc : wr.cell? ⟨R, j, none⟩ = some (.int .u8 (ib ys[j])) := by
              rw [ho1.cell]
              unfold bvs
              rw [List.getElem?_toArray, List.getElem?_map, List.getElem?_eq_getElem hky]
              rfl
            have hf : wr.frozen? ⟨R, j, none⟩ = false := ho1.frozen j
            obtain ⟨y, hy⟩ : ∃ y, y = ys[j] := ⟨_, rfl⟩
            rw [← hy] at hc
            have HST : Hid (Blk (wr.setCell ⟨R, j, none⟩ (.int .u8 (ib (y + 1#8)))) R 0x1b (bvs (ys.set j (y + 1#8)))) := Lib.hid (by
              rw [← bvs_set]
              exact heap_setCell_same wr R j (bvs ys) 0x1b (.int .u8 (ib (y + 1#8))) ho1)
            have hinc := inc_byte y
            have hy0 := ib_lo y
            have hy1 := ib_hi y
            clear hy hky ho1
            go_wp2
            go_roundw
            case rel => exact ⟨j + 1, ys.set j (y + 1#8), by omega, by go_num, Lib.hid ⟨by rw [List.length_set]; exact HY.out.1, HST.out⟩, Lib.hid (HW.out.set ⟨R, j, none⟩ _ (.inl rfl))⟩
            case measure => simp [intOf]; omega
          · obtain rfl : j = 32 := by omega
            have HHZ := Lib.hid (HHC.out.but HW.out hgR.1 hgR.2.1)
            have HBZ := Lib.hid (But.below HBC.out HW.out (fun b e => by omega))
            clear HY HW HHC HBC HOC
            go_wp2
            refine ⟨⟨k + 1, N + p.n, by omega, by go_num, by go_num, Lib.hid ?_, Lib.hid ?_, HBZ⟩, by simp [intOf]; omega⟩
            · rw [HBA.out]; exact HBL.out
            · rw [HBA.out]; exact HHZ.out
    · obtain rfl : k = n := by omega
      have hall : ps.take k = ps := List.take_of_length_le (by rw [HPL.out]; exact Nat.le_refl _)
      have hhr := HHr.out
      rw [hall] at hhr
      have hbw : Below w.heap.size w wo := HB1.out.trans (HBr.out.mono HB1.out.size)
      have hr7 : Rd wo wo.heap.size A7 (joinP ps) := (HR7.out.below HBr.out).more HBr.out.size
      have HHo := Lib.hid hhr
      have HBo := Lib.hid hbw
      have HRo := Lib.hid hr7
      clear hall hhr hbw hr7 HNL HHr HBr HR7
      go_upto_if 77 with fail
      go_cut [13] from 77 to 79 (fun s13 wx => Hid (NoneM wx s13 ∧ Below wo.heap.size wo wx))
      case first =>
        rcases HTM.out with htm | htm
        · go_wp2_with fail
          go_meet
          exact Lib.hid ⟨.inl rfl, Below.refl _ _⟩
        · have hz := HZ.out
          go_wp2_with fail
          go_meet
          exact Lib.hid ⟨noneM_new wo, (Below.refl _ _).alloc (Nat.le_refl _) _⟩
      case rest =>
        have hbo := hcut.out.2
        have HN := Lib.hid hcut.out.1
        have hbw : Below w.heap.size w wc := HBo.out.trans (hbo.mono HBo.out.size)
        have hhr := HHo.out.keep hbo
        have hr7 := (HRo.out.below hbo).more hbo.size
        have ht7 := HT.out.keep hbw
        have htg := fun v (hv : Below wc.heap.size wc v) => HTG.out v gm g (joinP ps) (hbw.trans (hv.mono hbw.size)) hgw (by have := HLEN.out; omega) (hhr.keep hv)
        have hrf := fun v (hv : Below wc.heap.size wc v) => HRF.out v A7 (joinP ps).length c7 (joinP ps) rfl (by have := HLEN.out; omega) (hbw.trans (hv.mono hbw.size)) ((hr7.below hv).more hv.size)
        have hDl := HDL.out (joinP ps)
        obtain ⟨D, hD⟩ : ∃ D, Dg (joinP ps) = D := ⟨_, rfl⟩
        rw [hD] at hDl
        simp only [hD] at htg hrf
        have HTG7 := Lib.hid htg
        have HRF7 := Lib.hid hrf
        have HDL7 := Lib.hid hDl
        have HT7 := Lib.hid ht7
        have HB7 := Lib.hid hbw
        clear hcut hbo hbw hhr hr7 ht7 htg hrf hDl hD HHo HBo HRo HTG HRF HWR HDL
        go_upto_region 21 with fail
        go_region_held_law (fun W => True)
          (exact trivial)
          (first
          | (go_at_call 18; (with_reducible refine (num5_any _ _).mono ?_); rintro e w' ⟨rfl, rfl⟩)
          | (go_at_call 24; (with_reducible refine (HTG7.out _ (Below.refl _ _).drew).mono ?_); rintro e w8 ⟨R8, rfl, _, hR8, hb8'⟩; have t8 := tag_conv hR8 HDL7.out (Below.refl _ _); have hb8 : Below wc.heap.size wc w8 := (Below.refl _ _).drew.trans hb8')
          | (go_at_call 16; (with_reducible refine (HRF7.out w8 hb8).mono ?_); rintro e w9 ⟨A9, c9, rfl, t9, hb9'⟩; have k9 := tag_conv hR8 HDL7.out hb9'; have hb9 : Below wc.heap.size wc w9 := hb8.trans (hb9'.mono hb8.size); have HN9 := Lib.hid (HN.out.keep hb9))
          | (go_at_call 23; (with_reducible refine (write_none5 w9 _ _ _ _ HN9.out).mono ?_); rintro e w' ⟨rfl, rfl⟩)
          | (go_at_call 24; (with_reducible refine (tag_none5 w9 _ HN9.out).mono ?_); rintro e w' ⟨rfl, rfl⟩)
          | (go_at_call 25; (with_reducible refine (copy_none5 w9 _ HN9.out).mono ?_); rintro e w' ⟨rfl, rfl⟩)
          | (go_at_call 14; (with_reducible refine (works5_from HW5.out hb9 HT7.out).mono ?_); rintro e w10 ⟨rfl, hb10⟩))
        all_goals
         go_wp2
         go_ret
         exact ⟨rfl, HB7.out.trans (hb10.mono HB7.out.size)⟩
end Go.Proofs
