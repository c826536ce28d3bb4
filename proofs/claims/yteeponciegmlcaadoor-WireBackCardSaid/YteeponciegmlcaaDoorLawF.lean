/-
  The walk of the law WireFrames: at every readable bytes it returns true and nothing that lay has turned, where the table lies in memory.
-/
import Derived.Deep.RegionHeldLaw
import Derived.Deep.DrawnRows
import Derived.Test.YteeponciegmlcaaDoorWorks
namespace Go.Proofs
open Go.RowKit Go.Shelf Sm
attribute [local go_sem ↓] Go.wp_at_zero Go.wp_at_succ
theorem Sm.own_rd {w : World} {base n cap g : Nat} {l ys : List (BitVec 8)} (h : w.ownsRow base 5 1 (.slice (some ⟨g, 0, none⟩) n cap) n (ys.map byteCell)) (hl : ∃ r, ys = l ++ r) : Rd w w.heap.size (some ⟨g, 0, none⟩) l := by
  obtain ⟨r, rfl⟩ := hl
  have := (Rd.of_own h (Nat.le_refl _)).take l.length
  rwa [List.take_append_of_le_length (Nat.le_refl _), List.take_of_length_le (Nat.le_refl _)] at this
set_option maxRecDepth 100000 in
set_option maxHeartbeats 8000000 in
theorem Sm.frames_walk (l1 l2 : List (BitVec 8)) (n1 c1 n2 c2 : Nat) (A1 A2 : Option Addr) (w : World) (hn1 : l1.length = n1) (hn2 : l2.length = n2) (hm1 : n1 ≤ 9223372036854775807) (hm2 : n2 ≤ 9223372036854775807) (hc2 : n2 ≤ c2) (hr1 : Rd w w.heap.size A1 l1) (hr2 : Rd w w.heap.size A2 l2) (ht : Tab w) :
    Calls Tryd.prog 6 #[.slice A1 n1 c1, .slice A2 n2 c2] w fun e w' => e = .returned (.bool true) ∧ Below w.heap.size w w' := by
  obtain ⟨i0, hi, hz0, hz1, hz2⟩ := info_parts info5
  have hb := Below.refl w.heap.size w
  by_cases h1 : 500 < n1
  · go_enter Tryd.func6, Tryd.ntmps6
    go_wp2_with (go_at_call 12; (with_reducible refine (works_from hb ht).mono ?_); clear hb; rintro e w1 ⟨rfl, hb⟩)
    go_ret
    exact ⟨rfl, hb⟩
  · by_cases h2 : 1500 < n2
    · go_enter Tryd.func6, Tryd.ntmps6
      go_wp2_with (go_at_call 12; (with_reducible refine (works_from hb ht).mono ?_); clear hb; rintro e w1 ⟨rfl, hb⟩)
      go_ret
      exact ⟨rfl, hb⟩
    · have hfr := Frame_ok l1 n1 c1 A1 w hn1 (by omega) hr1 ht
      go_enter Tryd.func6, Tryd.ntmps6
      go_wp2_with (first
        | (go_at_call 29; (with_reducible refine hfr.mono ?_); rintro e w1 ⟨v1, rfl, hown1, hb1⟩; obtain ⟨Af, cf, rfl⟩ := own_slice hown1; have hr21 : Rd w1 w1.heap.size A2 l2 := (hr2.below hb1).more hb1.size)
        | (at_builtin; refine wpList_append_rd _ rfl (.tmp 30) (.tmp 31) 27 rfl w1.heap.size 5 i0 _ Tryd.underlying27 hi hz0 hz1 hz2 rfl _ 0 [] rfl (World.ownsRow_made w1 #[] 0 (Nat.le_refl _) (by decide) rfl) w1.heap.size A2 n2 c2 l2 rfl hn2 (hr21.alloc (Nat.le_refl _) _) ?_ (by simp) ?_; omega; intro v2 w2 hown2 hg2 hat2; have hb2 : Below w1.heap.size w1 w2 := ((Below.refl _ _).alloc (Nat.le_refl _) _).grown hg2 (by simp) (fun g e => by cases e; exact Nat.le_refl _); simp only [Nat.zero_add, List.nil_append] at hown2)
        | (at_builtin; refine wpList_append_own_at _ rfl (.tmp 32) (.tmp 33) 27 rfl w1.heap.size 5 i0 _ 1 1 Tryd.underlying27 hi hz0 hz1 hz2 rfl (by decide) _ _ _ rfl (hown2.alloc _) ⟨w2.heap.size, 0, none⟩ 1 1 [.int .u8 77] rfl rfl (cell_one_new _ _ _) (by simp [Value.oneCell']) ?_ ?_ ?_ ?_; (unfold maxLen; omega); omega; (have := hb2.size; simp; omega); intro v3 w3 hown3 hg3 _ hat3; have hb3 : Below w1.heap.size w1 w3 := (hb2.alloc hb2.size _).grown hg3 (by have := hb2.size; simp; omega) (fun g e => (hown2.lt g e).1); obtain ⟨g, cap, rfl, hgb, hgl, hcap⟩ := own_form hown3 (by omega)))
      have hown3' : w3.ownsRow w1.heap.size 5 1 (.slice (some ⟨g, 0, none⟩) (n2 + 1) cap) (n2 + 1) ((l2 ++ [77#8]).map byteCell) := by rw [List.map_append]; exact hown3
      have hb3w : Below w.heap.size w w3 := hb1.trans (hb3.mono hb1.size)
      have hrm : Rd w3 w3.heap.size (some ⟨g, 0, none⟩) l2 := own_rd hown3' ⟨[77#8], rfl⟩
      have hs31 := hb3.size
      have h13 : w1.heap.size ≤ w3.heap.size := hs31
      have hownf3 := own_below hown1 (hb3 : Below w1.heap.size w1 w3)
      have HF := Lib.hid (show ∀ q, (Value.slice Af (frameB l1).length cf).ownBlock = some q → q < w1.heap.size from fun q hq => (hown1.lt q hq).2)
      clear hg3 hat3 hg2 hat2 hown2 hown3 hb2 hown1 hr21
      refine (Split_any l2 n2 cap (some ⟨g, 0, none⟩) w3 hn2 (by omega) (fun e => by simp at e) hrm (ht.belowTo hb3w ht.1) (by omega)).mono ?_
      rintro e w4 ⟨⟨v4, rfl, hown4⟩, hb4⟩
      obtain ⟨Ax, cx, rfl⟩ := own_slice hown4
      have hb4w : Below w.heap.size w w4 := hb3w.trans (hb4.mono hb3w.size)
      have hm4 := own_below hown3' hb4
      have hf4 := own_below hownf3 hb4
      have hs34 := hb4.size
      clear hown3' hownf3
      have hst1 := run_str (P := Tryd.prog) w4 27 5 Tryd.underlying27 Tryd.underlying5 l2 n2 cap w4.heap.size (some ⟨g, 0, none⟩) hn2 (own_rd hm4 ⟨[77#8], rfl⟩) 9 Tryd.underlying9
      have hst2 := run_str (P := Tryd.prog) w4 27 5 Tryd.underlying27 Tryd.underlying5 l2 n2 c2 w.heap.size A2 hn2 (hr2.below hb4w) 9 Tryd.underlying9
      have h77 : w4.cell? ⟨g, n2, none⟩ = some (.int .u8 77) := by
        rw [hm4.cellAt n2 (by omega), List.getElem?_map, List.getElem?_append_right (by omega)]
        simp [hn2]
        rfl
      have k1 : (0 : Int) ≤ (n2 : Int) + 1 := by omega
      have k2 : (n2 : Int) + 1 ≤ (cap : Int) := by omega
      have kw : IntKind.i64.wrap ((n2 : Int) + 1) = (n2 : Int) + 1 := by
        simp [IntKind.wrap, IntKind.signed, IntKind.bits]
        omega
      go_wp2_with fail
      clear hst1 hst2 h77 k1 k2 kw
      go_loopw [12] (fun vi wr => ∃ (k : Nat) (ys : List (BitVec 8)), k ≤ n2 ∧ vi = .int .i64 (k : Int) ∧ Hid (ys.length = n2 + 1 ∧ wr.ownsRow w1.heap.size 5 1 (.slice (some ⟨g, 0, none⟩) (n2 + 1) cap) (n2 + 1) (ys.map byteCell)) ∧ Hid (wr.ownsRow w.heap.size 5 1 (.slice Af (frameB l1).length cf) (frameB l1).length ((frameB l1).map byteCell) ∧ (∀ q, (Value.slice Af (frameB l1).length cf).ownBlock = some q → q < w1.heap.size)) ∧ Hid (wr.ownsRow w3.heap.size 5 1 (.slice Ax (splitS l2).1.length cx) (splitS l2).1.length ((splitS l2).1.map byteCell)) ∧ Hid (Below w.heap.size w wr))
        (fun vi _ => n2 - (intOf vi).toNat)
      case atStart => exact ⟨0, l2 ++ [77#8], Nat.zero_le _, rfl, Lib.hid ⟨by simp [hn2], hm4⟩, Lib.hid ⟨hf4, HF.out⟩, Lib.hid hown4, Lib.hid hb4w⟩
      case round =>
        obtain ⟨k, ys, hk, rfl, HY, HFr, HX, HB⟩ := hrel
        clear hm4 hf4 hown4 hb4w
        by_cases hlt : k < n2
        · have hky : k < ys.length := by have := HY.out.1; omega
          have ho1 := HY.out.2
          have hc : wr.cell? ⟨g, k, none⟩ = some (.int .u8 (ib ys[k])) := by
            rw [ho1.cellAt k (by omega), List.getElem?_map, List.getElem?_eq_getElem hky]
            rfl
          have hf : wr.frozen? ⟨g, k, none⟩ = false := ho1.frozenAt k
          obtain ⟨y, hy⟩ : ∃ y, y = ys[k] := ⟨_, rfl⟩
          rw [← hy] at hc
          have HST := Lib.hid (own_set ho1 k (y + 1#8))
          have hinc := byte_inc y
          have hy0 := ib_lo y
          have hy1 := ib_hi y
          clear hy hky ho1
          go_wp2
          go_roundw
          case rel =>
            refine ⟨k + 1, ys.set k (y + 1#8), by omega, by go_num, Lib.hid ⟨by rw [List.length_set]; exact HY.out.1, HST.out.1⟩, Lib.hid ⟨HFr.out.1.kept HST.out.2 ?_, HFr.out.2⟩, Lib.hid (HX.out.kept HST.out.2 (own_apart HX.out hgl)), Lib.hid (HB.out.setCell (p := ⟨g, k, none⟩) (by have := hb1.size; show w.heap.size ≤ g; omega) _)⟩
            rcases hq : (Value.slice Af (frameB l1).length cf).ownBlock with _ | q
            · exact .inl rfl
            · refine .inr fun e => ?_
              injection e with e
              have := HFr.out.2 q hq
              omega
          case measure => simp [intOf]; omega
        · obtain rfl : k = n2 := by omega
          have hrs := refSplit_any l2 k c2 A2 wr hn2 hc2 ((hr2.below HB.out).more HB.out.size) (by omega)
          go_wp2_with (go_at_call 31; (with_reducible refine hrs.mono ?_); rintro e w5 ⟨⟨v5, rfl, hown5⟩, hb5⟩; obtain ⟨Aw, cw, rfl⟩ := own_slice hown5)
          have hb5w : Hid (Below w.heap.size w w5) := Lib.hid (HB.out.trans (hb5.mono HB.out.size))
          have HW : Hid (wr.heap.size ≤ w5.heap.size) := Lib.hid hb5.size
          have of5 := own_below HFr.out.1 hb5
          have ox5 := own_below HX.out hb5
          have hS : Hid (∀ wx : World, Below w5.heap.size w5 wx → (convert 27 9 (.slice Af (frameB l1).length cf)).run Tryd.prog wx = .ok (.string (strB (frameB l1))) wx ∧
              (convert 27 9 (.slice Ax (splitS l2).1.length cx)).run Tryd.prog wx = .ok (.string (strB (splitS l2).1)) wx ∧
              (convert 27 9 (.slice Aw (splitS l2).1.length cw)).run Tryd.prog wx = .ok (.string (strB (splitS l2).1)) wx) := Lib.hid fun wx hx =>
            ⟨run_str wx 27 5 Tryd.underlying27 Tryd.underlying5 _ _ cf w5.heap.size _ rfl ((Rd.of_own of5 (Nat.le_refl _) : Rd w5 w5.heap.size _ _).below hx) 9 Tryd.underlying9,
             run_str wx 27 5 Tryd.underlying27 Tryd.underlying5 _ _ cx w5.heap.size _ rfl ((Rd.of_own ox5 (Nat.le_refl _) : Rd w5 w5.heap.size _ _).below hx) 9 Tryd.underlying9,
             run_str wx 27 5 Tryd.underlying27 Tryd.underlying5 _ _ cw w5.heap.size _ rfl ((Rd.of_own hown5 (Nat.le_refl _) : Rd w5 w5.heap.size _ _).below hx) 9 Tryd.underlying9⟩
          have ht5 := ht.belowTo hb5w.out ht.1
          have hra : Rd w5 w5.heap.size A1 l1 := (hr1.below hb5w.out).more hb5w.out.size
          have hbd : Below w5.heap.size w5 w5.drew := (Below.refl _ _).drew
          have hrd : Rd w5.drew w5.drew.heap.size A1 l1 := hra
          obtain ⟨s1, s2, s3⟩ := hS.out _ hbd
          have hm5 : n1 ≤ 100000 := by omega
          clear HY HFr HX hb5 hown5 of5 ox5 hrs hgb hgl hcap hb1 hb3 hb4 hb3w hrm hs31 h13 hs34 HF hfr
          go_wp2_with fail
          go_region_held_law (fun wx => Below w5.heap.size w5 wx ∧ (convert 27 9 (.slice Af (frameB l1).length cf)).run Tryd.prog wx = .ok (.string (strB (frameB l1))) wx ∧
        (convert 27 9 (.slice Ax (splitS l2).1.length cx)).run Tryd.prog wx = .ok (.string (strB (splitS l2).1)) wx ∧
        (convert 27 9 (.slice Aw (splitS l2).1.length cw)).run Tryd.prog wx = .ok (.string (strB (splitS l2).1)) wx) (first | exact ⟨hb9, hS.out _ hb9⟩ | exact ⟨hb7w, hS.out _ hb7w⟩ | exact ⟨hbd, hS.out _ hbd⟩) (first
            | (go_at_call 32; (with_reducible refine (refFrame_any l1 n1 c1 A1 _ hn1 hm5 hrd).mono ?_); rintro e w7 ⟨v7, rfl, hown7, hb7⟩; obtain ⟨A7, c7, rfl⟩ := own_slice hown7; have hb7w : Below w5.heap.size w5 w7 := hbd.trans hb7; obtain ⟨t1, t2, t3⟩ := hS.out _ hb7w; have hst7 := run_str (P := Tryd.prog) w7 27 5 Tryd.underlying27 Tryd.underlying5 (frameB l1) (frameB l1).length c7 w7.heap.size A7 rfl (Rd.of_own hown7 (Nat.le_refl _)) 9 Tryd.underlying9)
            | (go_at_call 15; (with_reducible refine (num_any _ _).mono ?_); rintro e w8 ⟨rfl, rfl⟩)
            | (go_at_call 12; (with_reducible refine (works_from hb7w ht5).mono ?_); rintro e w9 ⟨rfl, hb9⟩))
          go_wp2
          go_ret
          exact ⟨rfl, hb5w.out.trans (hb9.mono hb5w.out.size)⟩
