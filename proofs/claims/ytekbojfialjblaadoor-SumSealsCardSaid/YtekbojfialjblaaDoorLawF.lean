/-
  The walk of the law SumSeals: at every readable bytes it returns true and nothing that lay has turned, where the table lies in memory.
-/
import Derived.Deep.DrawnRows
import Derived.Deep.RegionHeldLaw
import Derived.Test.YtekbojfialjblaaDoorLawG
namespace Go.Proofs
open Go.RowKit Go.Shelf Sm
attribute [local go_sem ↓] Go.wp_at_zero Go.wp_at_succ
theorem Sm.openL_seal (l : List (BitVec 8)) : openL (l ++ leN (sumB l) 4) = l := by
  have e4 : (l ++ leN (sumB l) 4).length - 4 = l.length := by rw [List.length_append, leN_length]; omega
  have et : (l ++ leN (sumB l) 4).take l.length = l := by rw [List.take_append_of_le_length (Nat.le_refl _), List.take_of_length_le (Nat.le_refl _)]
  have ho : openOk (l ++ leN (sumB l) 4) := by
    unfold openOk
    rw [e4, et, List.drop_append_of_le_length (Nat.le_refl _), List.drop_of_length_le (Nat.le_refl _), List.nil_append]
    exact ⟨by rw [List.length_append, leN_length]; omega, rfl⟩
  unfold openL
  rw [if_pos ho, e4, et]
theorem Sm.openE_seal (l : List (BitVec 8)) : openE (l ++ leN (sumB l) 4) = 0 := by
  have e4 : (l ++ leN (sumB l) 4).length - 4 = l.length := by rw [List.length_append, leN_length]; omega
  have et : (l ++ leN (sumB l) 4).take l.length = l := by rw [List.take_append_of_le_length (Nat.le_refl _), List.take_of_length_le (Nat.le_refl _)]
  unfold openE
  rw [if_pos]
  unfold openOk
  rw [e4, et, List.drop_append_of_le_length (Nat.le_refl _), List.drop_of_length_le (Nat.le_refl _), List.nil_append]
  exact ⟨by rw [List.length_append, leN_length]; omega, rfl⟩
set_option maxRecDepth 100000 in
set_option maxHeartbeats 8000000 in
theorem Sm.seals_walk (l : List (BitVec 8)) (n c : Nat) (A : Option Addr) (w : World) (hn : l.length = n) (hm : n ≤ 9223372036854775807) (hr : Rd w w.heap.size A l) (ht : Tab w) :
    Calls Tryd.prog 8 #[.slice A n c] w fun e w' => e = .returned (.bool true) ∧ Below w.heap.size w w' := by
  obtain ⟨i0, hi, hz0, hz1, hz2⟩ := info_parts info5
  have HN := Lib.hid hn
  have hb := Below.refl w.heap.size w
  clear hn
  by_cases h : 1000 < n
  · go_enter Tryd.func8, Tryd.ntmps8
    go_wp2_with (go_at_call 13; (with_reducible refine (works_from hb ht).mono ?_); clear hb; rintro e w1 ⟨rfl, hb⟩)
    go_ret
    exact ⟨rfl, hb⟩
  · have HM : Hid (n ≤ 1000000) := Lib.hid (by omega)
    clear hm
    go_enter Tryd.func8, Tryd.ntmps8
    go_wp2_with (first
      | (at_builtin; refine wpList_append_rd _ rfl (.tmp 11) (.tmp 12) 22 rfl w.heap.size 5 i0 _ Tryd.underlying22 hi hz0 hz1 hz2 rfl _ 0 [] rfl (World.ownsRow_made w #[] 0 (Nat.le_refl _) (by decide) rfl) w.heap.size A n c l rfl HN.out (hr.alloc (Nat.le_refl _) _) ?_ (by simp) ?_; omega; intro v1 w1 hown1 hg1 hat1; have hb1 : Below w.heap.size w w1 := (hb.alloc (Nat.le_refl _) _).grown hg1 (by simp) (fun g e => by cases e; exact Nat.le_refl _); simp only [Nat.zero_add, List.nil_append] at hown1)
      | (at_builtin; refine wpList_append_own_at _ rfl (.tmp 13) (.tmp 14) 22 rfl w.heap.size 5 i0 _ 1 1 Tryd.underlying22 hi hz0 hz1 hz2 rfl (by decide) _ _ _ rfl (hown1.alloc _) ⟨w1.heap.size, 0, none⟩ 1 1 [.int .u8 77] rfl rfl (cell_one_new _ _ _) (by simp [Value.oneCell']) ?_ ?_ ?_ ?_; (unfold maxLen; omega); omega; (have := hb1.size; simp; omega); intro v2 w2 hown2 hg2 _ hat2; have hb2 : Below w.heap.size w w2 := (hb1.alloc hb1.size _).grown hg2 (by have := hb1.size; simp; omega) (fun g e => (hown1.lt g e).1); obtain ⟨g, cap, rfl, hgb, hgl, hcap⟩ := own_form hown2 (by omega)))
    clear hg1 hat1 hg2 hat2 hown1
    have h77 : w2.cell? ⟨g, n, none⟩ = some (.int .u8 77) := by
      rw [hown2.cellAt n (by omega), List.getElem?_append_right (by simp [HN.out])]
      simp [HN.out]
    have hr77 : Rd w2 w2.heap.size (some ⟨g, 0, none⟩) (l ++ [77#8]) := Rd.of_own (n := n + 1) (c := cap) (by rw [List.map_append]; exact hown2) (Nat.le_refl _)
    have hrl : Rd w2 w2.heap.size (some ⟨g, 0, none⟩) l := by
      have := hr77.take n
      rwa [List.take_append_of_le_length (by rw [HN.out]; exact Nat.le_refl _), List.take_of_length_le (by rw [HN.out]; exact Nat.le_refl _)] at this
    have hrb : Rd w2 w2.heap.size A l := (hr.below hb2).more hb2.size
    have ht2 := ht.below hb2
    refine (Seal_any ⟨some ⟨g, 0, none⟩, n, cap, l⟩ w2 HM.out ⟨HN.out, by show n ≤ 9223372036854775807; have := HM.out; omega, hrl⟩ ht2).mono ?_
    rintro e w3 ⟨v3, rfl, hown3, hb3⟩
    obtain ⟨g3, c3, rfl, hgb3, hgl3, hcap3⟩ := own_form hown3 (by show 0 < n + 4; omega)
    clear hr77 hown2 hb hb1
    go_wp2_with fail
    have hlen : Hid ((l ++ leN (sumB l) 4).length = n + 4) := Lib.hid (by rw [List.length_append, leN_length, HN.out])
    refine (Open_gen (l ++ leN (sumB l) 4) (n + 4) c3 (some ⟨g3, 0, none⟩) w3 hlen.out (by have := HM.out; omega) hcap3 (Rd.of_own hown3 (Nat.le_refl _)) (ht2.below hb3)).mono ?_
    rintro e w4 ⟨v4, rfl, hown4, hb4⟩
    rw [openL_seal, HN.out] at hown4
    rw [openE_seal]
    obtain ⟨A4, c4, rfl⟩ := own_slice hown4
    have hb24 : Below w2.heap.size w2 w4 := hb3.trans (hb4.mono hb3.size)
    have hb4w : Hid (Below w.heap.size w w4) := Lib.hid (hb2.trans (hb24.mono hb2.size))
    -- what is read, in the world at hand
    have hS : Hid (∀ wx : World, Below w4.heap.size w4 wx →
        (convert 22 9 (.slice (some ⟨g3, 0, none⟩) (n + 4) c3)).run Tryd.prog wx = .ok (.string (strB (l ++ leN (sumB l) 4))) wx ∧
        (convert 22 9 (.slice A4 n c4)).run Tryd.prog wx = .ok (.string (strB l)) wx ∧
        (convert 22 9 (.slice A n c)).run Tryd.prog wx = .ok (.string (strB l)) wx ∧
        (convert 22 9 (.slice (some ⟨g, 0, none⟩) n cap)).run Tryd.prog wx = .ok (.string (strB l)) wx ∧
        wx.cell? ⟨g, n, none⟩ = some (.int .u8 77)) := Lib.hid fun wx hx =>
      have h2x : Below w2.heap.size w2 wx := hb24.trans (hx.mono hb24.size)
      ⟨run_str wx 22 5 Tryd.underlying22 Tryd.underlying5 _ (n + 4) c3 w4.heap.size _ hlen.out (((Rd.of_own hown3 (Nat.le_refl _) : Rd w3 w3.heap.size _ _).below hb4).more hb4.size |>.below hx) 9 Tryd.underlying9,
       run_str wx 22 5 Tryd.underlying22 Tryd.underlying5 l n c4 w4.heap.size _ HN.out ((Rd.of_own hown4 (Nat.le_refl _) : Rd w4 w4.heap.size _ _).below hx) 9 Tryd.underlying9,
       run_str wx 22 5 Tryd.underlying22 Tryd.underlying5 l n c w2.heap.size _ HN.out (hrb.below h2x) 9 Tryd.underlying9,
       run_str wx 22 5 Tryd.underlying22 Tryd.underlying5 l n cap w2.heap.size _ HN.out (hrl.below h2x) 9 Tryd.underlying9,
       (h2x.cell (p := ⟨g, n, none⟩) hgl).trans h77⟩
    have hra : Rd w4 w4.heap.size A l := (hrb.below hb24).more hb24.size
    have hk1 : (0 : Int) ≤ (n : Int) + 1 := by omega
    have hk2 : (n : Int) + 1 ≤ (cap : Int) := by omega
    have ht4 := ht2.below hb24
    have hwn : IntKind.i64.wrap ((n : Int) + 1) = (n : Int) + 1 := by
      simp [IntKind.wrap, IntKind.signed, IntKind.bits]
      omega
    clear hb3 hb4 hown3 hown4 hb24 hrl h77 hrb hgb3 hgl3 hb2
    have hbd : Below w4.heap.size w4 w4.drew := (Below.refl _ _).drew
    have hrd : Rd w4.drew w4.drew.heap.size A l := hra
    obtain ⟨s1, s2, s3, s4, s5⟩ := hS.out _ hbd
    go_wp2_with fail
    go_region_held_law (fun wx => Below w4.heap.size w4 wx ∧ (convert 22 9 (.slice (some ⟨g3, 0, none⟩) (n + 4) c3)).run Tryd.prog wx = .ok (.string (strB (l ++ leN (sumB l) 4))) wx ∧
        (convert 22 9 (.slice A4 n c4)).run Tryd.prog wx = .ok (.string (strB l)) wx ∧
        (convert 22 9 (.slice A n c)).run Tryd.prog wx = .ok (.string (strB l)) wx ∧
        (convert 22 9 (.slice (some ⟨g, 0, none⟩) n cap)).run Tryd.prog wx = .ok (.string (strB l)) wx ∧
        wx.cell? ⟨g, n, none⟩ = some (.int .u8 77)) (first | exact ⟨hb9, hS.out _ hb9⟩ | exact ⟨hb7w, hS.out _ hb7w⟩ | exact ⟨hbd, hS.out _ hbd⟩) (first
      | (go_at_call 28; (with_reducible refine (refSeal_any l n c A _ HN.out HM.out hrd).mono ?_); rintro e w7 ⟨v7, rfl, hown7, hb7⟩; obtain ⟨A7, c7, rfl⟩ := own_slice hown7; have hb7w : Below w4.heap.size w4 w7 := hbd.trans hb7; obtain ⟨t1, t2, t3, t4, t5⟩ := hS.out _ hb7w; have hst7 := run_str (P := Tryd.prog) w7 22 5 Tryd.underlying22 Tryd.underlying5 (l ++ leN (sumB l) 4) (n + 4) c7 w7.heap.size A7 hlen.out (Rd.of_own hown7 (Nat.le_refl _)) 9 Tryd.underlying9)
      | (go_at_call 23; (with_reducible refine (num_any _ _).mono ?_); rintro e w8 ⟨rfl, rfl⟩)
      | (go_at_call 13; (with_reducible refine (works_from hb7w ht4).mono ?_); rintro e w9 ⟨rfl, hb9⟩))
    go_wp2
    go_ret
    exact ⟨rfl, hb4w.out.trans (hb9.mono hb4w.out.size)⟩
