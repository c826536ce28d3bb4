/-
  The walks of the laws SumMore and SumBytes: at every word and readable bytes they return true and nothing that lay has turned, where the table lies in memory.
-/
import Derived.Test.YtekbojfialjblaaDoorLawA
namespace Go.Proofs
open Go.RowKit Go.Shelf Sm
theorem Sm.More_from {w0 w : World} (hb : Below w0.heap.size w0 w) (s : BitVec 32) (p : Pt) (hok : p.ok w0 w0.heap.size) (ht : Tab w0) :
    Calls Tryd.prog 16 #[.int .u32 (iv s), .slice p.A p.n p.c] w fun e w' => e = .returned (.int .u32 (iv (~~~(crc (~~~s) p.l)))) ∧ Below w0.heap.size w0 w' :=
  (More_any s p w ((hok.keep fun _ ha => hb.cell ha).more hb.size) (ht.below hb)).mono fun _ _ ⟨he, h⟩ => ⟨he, hb.trans (h.mono hb.size)⟩
set_option maxRecDepth 100000 in
set_option maxHeartbeats 2000000 in
theorem Sm.more_walk (s : BitVec 32) (l : List (BitVec 8)) (n c : Nat) (A : Option Addr) (w : World) (hn : l.length = n) (hm : n ≤ 9223372036854775807) (hr : Rd w w.heap.size A l) (ht : Tab w) :
    Calls Tryd.prog 5 #[.int .u32 (iv s), .slice A n c] w fun e w' => e = .returned (.bool true) ∧ Below w.heap.size w w' := by
  have hok : Hid (Pt.ok ⟨A, n, c, l⟩ w w.heap.size) := Lib.hid ⟨hn, hm, hr⟩
  have HN := Lib.hid hn
  have hb := Below.refl w.heap.size w
  clear hn
  by_cases h : 1000 < n
  · go_enter Tryd.func5, Tryd.ntmps5
    go_wp2_with (go_at_call 13; (with_reducible refine (works_from hb ht).mono ?_); clear hb; rintro e w1 ⟨rfl, hb⟩)
    go_ret
    exact ⟨rfl, hb⟩
  · have HM : Hid (n ≤ 9223372036854775807) := Lib.hid hm
    clear hm
    go_enter Tryd.func5, Tryd.ntmps5
    go_wp2_with (first
      | (go_at_call 16; refine (More_from hb s ⟨A, n, c, l⟩ hok.out ht).mono ?_; clear hb; rintro e w1 ⟨rfl, hb⟩)
      | (go_at_call 17; refine (refMore_any s l n c w.heap.size A _ HN HM.out (hr.below hb)).mono ?_; rintro e w2 ⟨rfl, rfl⟩)
      | (go_at_call 13; (with_reducible refine (works_from hb ht).mono ?_); clear hb; rintro e w1 ⟨rfl, hb⟩))
    go_ret
    exact ⟨rfl, hb⟩
theorem Sm.Rd.len0 {w : World} {B : Nat} {A : Option Addr} {l : List (BitVec 8)} {n : Nat} (h : Rd w B A l) (hn : l.length = n) (h0 : 0 < n) : ∃ b off, A = some ⟨b, off, none⟩ := by
  obtain ⟨b, off, e, _⟩ := h (by omega)
  exact ⟨b, off, e⟩
/-- a part that is read out of a row of the call's own -/
theorem Sm.Pt.ok_own {w : World} {base n c : Nat} {A : Option Addr} {l : List (BitVec 8)} (h : w.ownsRow base 5 1 (.slice A n c) n (l.map byteCell)) (hm : n ≤ 9223372036854775807) : Pt.ok ⟨A, n, c, l⟩ w w.heap.size :=
  ⟨by have := h.1; simpa using this, hm, Rd.of_own h (Nat.le_refl _)⟩
set_option maxRecDepth 100000 in
set_option maxHeartbeats 4000000 in
theorem Sm.bytes_walk (l : List (BitVec 8)) (n c : Nat) (A : Option Addr) (w : World) (hn : l.length = n) (hm : n ≤ 9223372036854775807) (hr : Rd w w.heap.size A l) (ht : Tab w) :
    Calls Tryd.prog 3 #[.slice A n c] w fun e w' => e = .returned (.bool true) ∧ Below w.heap.size w w' := by
  obtain ⟨i0, hi, hz0, hz1, hz2⟩ := info_parts info5
  have HN := Lib.hid hn
  have hb := Below.refl w.heap.size w
  clear hn
  by_cases h : 1000 < n
  · go_enter Tryd.func3, Tryd.ntmps3
    go_wp2_with (go_at_call 13; (with_reducible refine (works_from hb ht).mono ?_); clear hb; rintro e w1 ⟨rfl, hb⟩)
    go_ret
    exact ⟨rfl, hb⟩
  · have HM : Hid (n ≤ 9223372036854775807) := Lib.hid hm
    clear hm
    go_enter Tryd.func3, Tryd.ntmps3
    go_wp2_with (first
      | (at_builtin; refine wpList_append_rd _ rfl (.tmp 9) (.tmp 10) 22 rfl w.heap.size 5 i0 _ Tryd.underlying22 hi hz0 hz1 hz2 rfl _ 0 [] rfl (World.ownsRow_made w #[] 0 (Nat.le_refl _) (by decide) rfl) w.heap.size A n c l rfl HN.out (hr.alloc (Nat.le_refl _) _) ?_ (by simp) ?_; omega; intro v1 w1 hown1 hg1 hat1; have hb1 : Below w.heap.size w w1 := (hb.alloc (Nat.le_refl _) _).grown hg1 (by simp) (fun g e => by cases e; exact Nat.le_refl _); simp only [Nat.zero_add, List.nil_append] at hown1)
      | (at_builtin; refine wpList_append_own_at _ rfl (.tmp 11) (.tmp 12) 22 rfl w.heap.size 5 i0 _ 1 1 Tryd.underlying22 hi hz0 hz1 hz2 rfl (by decide) _ _ _ rfl (hown1.alloc _) ⟨w1.heap.size, 0, none⟩ 1 1 [.int .u8 77] rfl rfl (cell_one_new _ _ _) (by simp [Value.oneCell']) ?_ ?_ ?_ ?_; (unfold maxLen; omega); omega; (have := hb1.size; simp; omega); intro v2 w2 hown2 hg2 _ hat2; have hb2 : Below w.heap.size w w2 := (hb1.alloc hb1.size _).grown hg2 (by have := hb1.size; simp; omega) (fun g e => (hown1.lt g e).1); obtain ⟨g, cap, rfl, hgb, hgl, hcap⟩ := own_form hown2 (by omega)))
    clear hg1 hat1 hg2 hat2 hown1
    have h77 : w2.cell? ⟨g, n, none⟩ = some (.int .u8 77) := by
      rw [hown2.cellAt n (by omega), List.getElem?_append_right (by simp [HN.out])]
      simp [HN.out]
    have hr77 : Rd w2 w2.heap.size (some ⟨g, 0, none⟩) (l ++ [77#8]) := Rd.of_own (n := n + 1) (c := cap) (by rw [List.map_append]; exact hown2) (Nat.le_refl _)
    have hrl : Rd w2 w2.heap.size (some ⟨g, 0, none⟩) l := by
      have := hr77.take n
      rwa [List.take_append_of_le_length (by rw [HN.out]; exact Nat.le_refl _), List.take_of_length_le (by rw [HN.out]; exact Nat.le_refl _)] at this
    have hbx : Below w2.heap.size w2 (w2.alloc (.cells #[.slice (some ⟨g, 0, none⟩) n cap] 22)) := (Below.refl _ _).alloc (Nat.le_refl _) _
    have hbx2 : Below w.heap.size w (w2.alloc (.cells #[.slice (some ⟨g, 0, none⟩) n cap] 22)) := hb2.alloc hb2.size _
    refine (Sum_any [⟨some ⟨g, 0, none⟩, n, cap, l⟩] 1 1 (some ⟨w2.heap.size, 0, none⟩) _ (Lib.hid rfl) (by omega) (RdP.one w2 ⟨some ⟨g, 0, none⟩, n, cap, l⟩ w2.heap.size _ rfl (by simp)) ?_ (ht.below hbx2)).mono ?_
    · intro q hq
      obtain rfl : q = _ := by simpa using hq
      exact ⟨HN.out, by show n ≤ 9223372036854775807; omega, (hrl.below hbx).more (by simp)⟩
    rintro e w3 ⟨rfl, hb3⟩
    have hb23 : Below w2.heap.size w2 w3 := hbx.trans (hb3.mono (by simp))
    have hb3w : Below w.heap.size w w3 := hb2.trans (hb23.mono hb2.size)
    have h1 := run_str (P := Tryd.prog) w3 22 5 Tryd.underlying22 Tryd.underlying5 l n cap w2.heap.size _ HN.out (hrl.below hb23) 9 Tryd.underlying9
    have h2 := run_str (P := Tryd.prog) w3 22 5 Tryd.underlying22 Tryd.underlying5 l n c w.heap.size A HN.out (hr.below hb3w) 9 Tryd.underlying9
    have h3 : w3.cell? ⟨g, n, none⟩ = some (.int .u8 77) := (hb23.cell (p := ⟨g, n, none⟩) hgl).trans h77
    have hs : (iv (sumP [⟨some ⟨g, 0, none⟩, n, cap, l⟩]) == iv (sumB l)) = true := eq_self (by rw [sumP_one])
    clear hb hbx hbx2 hb3 h77 hr77 hrl hown2 hb1 hb2 hgb
    go_wp2_with (first
      | (go_at_call 15; (with_reducible refine (refSum_any l n c w.heap.size A _ HN HM.out (hr.below hb3w)).mono ?_); rintro e w2 ⟨rfl, rfl⟩)
      | (go_at_call 13; (with_reducible refine (works_from hb3w ht).mono ?_); clear hb3w; rintro e w1 ⟨rfl, hb⟩))
    go_ret
    exact ⟨rfl, hb⟩
