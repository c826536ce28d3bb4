/-
  The walk of the law of spelling.
-/
import Derived.Test.YtbnemingkdofmaaDoorQ43
namespace Go.Proofs
open Go.RowKit Go.Shelf Sm
set_option maxRecDepth 100000 in
set_option maxHeartbeats 1000000 in
theorem Sm.spells_long (n c : Nat) (A : Option Addr) (s : ByteArray) (w : World) (ht : Tabs w) (h : 200 < n ∨ 300 < s.size) : Calls Tryd.prog 3 #[.slice A n c, .string s] w fun e w' => e = .returned (.bool true) ∧ Below w.heap.size w w' := by
  have HW := Lib.hid (works_any w ht)
  by_cases h1 : 200 < n
  · have h2 : (200 : Int) < (n : Int) := by omega
    clear h ht
    go_enter Tryd.func3, Tryd.ntmps3
    go_wp2_with (go_at_call 6; (with_reducible refine HW.out.mono ?_); rintro e w8 ⟨rfl, hb8⟩)
    go_ret
    exact ⟨rfl, hb8⟩
  · have h2 : ¬ (200 : Int) < (n : Int) := by omega
    have h3 : (300 : Int) < (s.size : Int) := by omega
    clear h ht
    go_enter Tryd.func3, Tryd.ntmps3
    go_wp2_with (go_at_call 6; (with_reducible refine HW.out.mono ?_); rintro e w8 ⟨rfl, hb8⟩)
    go_ret
    exact ⟨rfl, hb8⟩
set_option maxRecDepth 100000 in
set_option maxHeartbeats 4000000 in
theorem Sm.spells_few (n c : Nat) (A : Option Addr) (l : List (BitVec 8)) (s : ByteArray) (w : World) (ht : Tabs w) (hl : l.length = n) (hr : Rd w w.heap.size A l) (h1 : n ≤ 200) (h2 : s.size ≤ 300) : Calls Tryd.prog 3 #[.slice A n c, .string s] w fun e w' => e = .returned (.bool true) ∧ Below w.heap.size w w' := by
  obtain ⟨i0, hi, hz0, hz1, hz2⟩ := info_parts info5
  have hn1 : ¬ (200 : Int) < (n : Int) := by omega
  have hs1 : ¬ (300 : Int) < (s.size : Int) := by omega
  have HT := Lib.hid ht
  have HK := Lib.hid hl
  have HR := Lib.hid hr
  clear ht hl hr
  go_enter Tryd.func3, Tryd.ntmps3
  go_upto_region 4 with (first
    | (at_builtin; refine wpList_append_rd _ rfl (.tmp 20) (.tmp 21) 0x16 rfl w.heap.size 5 i0 _ Tryd.underlying22 hi hz0 hz1 hz2 rfl _ 0 [] rfl (World.ownsRow_made w #[] 0 (Nat.le_refl _) (by decide) rfl) w.heap.size A n c l rfl HK.out ((HR.out).alloc (Nat.le_refl _) _) (by omega) (by simp) ?_; intro v27 w27 hown27 hg27 _)
    | (at_builtin; refine wpList_append_rd _ rfl (.tmp 22) (.tmp 23) 0x16 rfl w.heap.size 5 i0 _ Tryd.underlying22 hi hz0 hz1 hz2 rfl v27 (0 + n) _ rfl (own_below hown27 ((Below.refl _ _).alloc (Nat.le_refl _) _)) (w27.heap.size + 1) (some ⟨w27.heap.size, 0, none⟩) 1 1 [77#8] rfl rfl (rd77 w27) (by omega) (by have := hg27.size; simp at this ⊢; omega) ?_; intro v29 w29 hown29 hg29 _; obtain ⟨gm, cm, rfl, hgm, hcm, hown⟩ := copy_row hown29 HK.out; have hslm := cut_h0 gm (n + 1) cm n (by omega)))
  obtain ⟨hrm, hcell⟩ := row_reads hown HK.out
  have hba : Below w.heap.size w (w.alloc (.cells #[] 5)) := (Below.refl _ _).alloc (Nat.le_refl _) _
  have hb27 : Below w.heap.size w w27 := hba.grown hg27 hba.size (fun g e => by cases e; exact Nat.le_refl _)
  have hb27a : Below w.heap.size w (w27.alloc (.cells #[.int .u8 77] 5)) := hb27.alloc hb27.size _
  have hb29 : Below w.heap.size w w29 := hb27a.grown hg29 hb27a.size (fun g e => own_ge hown27 g e)
  have hgl : gm < w29.heap.size := (hown.lt _ rfl).2
  have hrl : Rd w29 w29.heap.size A l := (HR.out.below hb29).more hb29.size
  have HM := Lib.hid hrm
  have HC := Lib.hid hcell
  have HRL := Lib.hid hrl
  have HB := Lib.hid hb29
  have HSP := Lib.hid (Spell_any n cm (some ⟨gm, 0, none⟩) l w29 HK.out (by omega) hrm)
  have hslx := cut_h0 gm n cm (n + 1) hcm
  rw [show ((n + 1 : Nat) : Int) = (n : Int) + 1 from rfl] at hslx
  have HSX := Lib.hid hslx
  clear hba hb27 hb27a hb29 hrm hcell hrl hown hown27 hown29 hg27 hg29 hslx hslm HR
  go_upto_region 5 with (go_at_call 7; (with_reducible refine HSP.out.mono ?_); rintro e w30 ⟨rfl, hb30⟩)
  have hru : ∀ X, Calls Tryd.prog 9 #[.string s] X (RefUn (sB s) X) := fun X => refUnspell_any s X (by omega)
  cases hu : unspellS (sB s) with
  | none =>
    have hr2 : ∀ X, Calls Tryd.prog 9 #[.string s] X fun e w' => Below X.heap.size X w' ∧ e = .returned (.tuple #[.slice none 0 0, .int .i64 160]) := fun X => (hru X).mono fun e w' h => by
      unfold RefUn at h
      rw [hu] at h
      exact h
    have HRU := Lib.hid hr2
    have HUN := Lib.hid (Unspell_no s w30 (by omega) hu)
    clear hr2 hru hu
    go_upto_region 7 with (first
      | (go_at_call 8; (with_reducible refine HUN.out.mono ?_); rintro e w31 ⟨rfl, hb31⟩)
      | (go_at_call 9; (with_reducible refine (HRU.out w31).mono ?_); rintro e w32 ⟨hb32, rfl⟩))
    have hbf : Below w29.heap.size w29 w32 := (hb30.trans (hb31.mono hb30.size)).trans (hb32.mono (Nat.le_trans hb30.size hb31.size))
    have hm := (HM.out.below hbf).more hbf.size
    have hlw := (HRL.out.below hbf).more hbf.size
    have k1 := conv_rd (c := cm) HK.out hm
    have k2 := conv_rd (c := c) HK.out hlw
    have hcf := (hbf.cell (p := ⟨gm, n, none⟩) hgl).trans HC.out
    have HRS := Lib.hid (refSpell_any n c w32.heap.size A l w32 HK.out (by omega) hlw)
    have HWK := Lib.hid (works_any w32 (HT.out.keep (HB.out.trans (hbf.mono HB.out.size))))
    have HBF := Lib.hid (HB.out.trans (hbf.mono HB.out.size))
    have hsx := HSX.out
    have k3 : (convert 0x16 9 (.slice none 0 0)).run Tryd.prog w32 = .ok (.string (strB [])) w32 := conv_rd rfl Rd.nil
    clear hbf hm hlw hb30 hb31 hb32 HM HC HRL HB HSP HSX HUN HRU
    go_wp2_with (first
      | (go_at_call 10; (with_reducible refine HRS.out.mono ?_); rintro e w33 ⟨rfl, rfl⟩)
      | (go_at_call 11; (with_reducible refine (num_any _ _).mono ?_); rintro e w34 ⟨rfl, rfl⟩)
      | (go_at_call 6; (with_reducible refine HWK.out.mono ?_); rintro e w35 ⟨rfl, hb35⟩))
    go_ret
    exact ⟨rfl, HBF.out.trans (hb35.mono HBF.out.size)⟩
  | some b =>
    have hr2 : ∀ X, Calls Tryd.prog 9 #[.string s] X fun e w' => ∃ A c, Below X.heap.size X w' ∧ e = .returned (.tuple #[.slice A b.length c, .int .i64 0]) ∧ Rd w' w'.heap.size A b := fun X => (hru X).mono fun e w' h => by
      unfold RefUn at h
      rw [hu] at h
      obtain ⟨h1, v, rfl, h2⟩ := h
      obtain ⟨A, c, rfl⟩ := own_slice h2
      exact ⟨A, c, h1, rfl, Rd.of_own h2 (Nat.le_refl _)⟩
    have HRU := Lib.hid hr2
    have HUN := Lib.hid (Unspell_ok s b w30 (by omega) hu)
    clear hr2 hru hu
    go_upto_region 7 with (first
      | (go_at_call 8; (with_reducible refine HUN.out.mono ?_); rintro e w31 ⟨A2, c2, rfl, hown2, hb31⟩)
      | (go_at_call 9; (with_reducible refine (HRU.out w31).mono ?_); rintro e w32 ⟨A3, c3, hb32, rfl, hr3⟩))
    have hbf : Below w29.heap.size w29 w32 := (hb30.trans (hb31.mono hb30.size)).trans (hb32.mono (Nat.le_trans hb30.size hb31.size))
    have hm := (HM.out.below hbf).more hbf.size
    have hlw := (HRL.out.below hbf).more hbf.size
    have k1 := conv_rd (c := cm) HK.out hm
    have k2 := conv_rd (c := c) HK.out hlw
    have hcf := (hbf.cell (p := ⟨gm, n, none⟩) hgl).trans HC.out
    have HRS := Lib.hid (refSpell_any n c w32.heap.size A l w32 HK.out (by omega) hlw)
    have HWK := Lib.hid (works_any w32 (HT.out.keep (HB.out.trans (hbf.mono HB.out.size))))
    have HBF := Lib.hid (HB.out.trans (hbf.mono HB.out.size))
    have hsx := HSX.out
    have hr2 := ((Rd.of_own hown2 (Nat.le_refl _)).below hb32).more hb32.size
    have k3 := conv_rd (c := c2) rfl hr2
    have k4 := conv_rd (c := c3) rfl hr3
    clear hbf hm hlw hb30 hb31 hb32 HM HC HRL HB HSP HSX HUN HRU hr2 hr3 hown2
    go_wp2_with (first
      | (go_at_call 10; (with_reducible refine HRS.out.mono ?_); rintro e w33 ⟨rfl, rfl⟩)
      | (go_at_call 11; (with_reducible refine (num_any _ _).mono ?_); rintro e w34 ⟨rfl, rfl⟩)
      | (go_at_call 6; (with_reducible refine HWK.out.mono ?_); rintro e w35 ⟨rfl, hb35⟩))
    go_ret
    exact ⟨rfl, HBF.out.trans (hb35.mono HBF.out.size)⟩
theorem Sm.spells6_law (n c : Nat) (A : Option Addr) (l : List (BitVec 8)) (s : ByteArray) (w : World) (ht : Tabs w) (hl : l.length = n) (hr : Rd w w.heap.size A l) : Calls Tryd.prog 3 #[.slice A n c, .string s] w fun e w' => e = .returned (.bool true) ∧ Below w.heap.size w w' := by
  by_cases h : 200 < n ∨ 300 < s.size
  · exact spells_long n c A s w ht h
  · exact spells_few n c A l s w ht hl hr (by omega) (by omega)
end Go.Proofs
