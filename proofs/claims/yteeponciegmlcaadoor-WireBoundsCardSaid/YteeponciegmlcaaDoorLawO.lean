/-
  The walk of the law WireBounds: it returns true and nothing that lay has turned, where the table lies in memory.
-/
import Derived.Deep.RegionHeldLaw
import Derived.Deep.DrawnRows
import Derived.Test.YteeponciegmlcaaDoorLawF
import Derived.Test.YteeponciegmlcaaDoorFrE
namespace Go.Proofs
open Go.RowKit Go.Shelf Sm
attribute [local go_sem ↓] Go.wp_at_zero Go.wp_at_succ
theorem Sm.numB_mega : (numB 1048576).length = 3 := by
  rw [numB_big (by omega), numB_big (by omega), numB_small (by omega)]
  rfl
theorem Sm.textB_mega {s : ByteArray} (h : s.size = 1048576) : ([] ++ textB s).length = 1048579 := by
  rw [List.nil_append]
  unfold textB
  rw [List.length_append, h, numB_mega, strL_length, h]
theorem Sm.Rd.made {w : World} {Z : Array Value} {l : List (BitVec 8)} (h : Z.toList = l.map byteCell) : Rd (w.alloc (.cells Z 5)) (w.alloc (.cells Z 5)).heap.size (some ⟨w.heap.size, 0, none⟩) l := Rd.lit w Z 5 (0, 0) l w.heap.size _ rfl (by simp) h
set_option maxRecDepth 100000 in
set_option maxHeartbeats 4000000 in
theorem Sm.bounds_walk (w : World) (ht : Tab w) : Calls Tryd.prog 9 #[] w fun e w' => e = .returned (.bool true) ∧ Below w.heap.size w w' := by
  obtain ⟨Z1, l1, hl1, hz1, hm1⟩ := make_bytes 1048577 (by omega)
  obtain ⟨Z2, l2, hl2, hz2, hm2⟩ := make_bytes 4096 (by omega)
  obtain ⟨Z3, l3, hl3, hz3, hm3⟩ := make_bytes 4097 (by omega)
  have k1 : ∀ w : World, (Instr.makeSlice 27 (.int .i64 1048577) (.int .i64 1048577)).run Tryd.prog w = .ok (.slice (some ⟨w.heap.size, 0, none⟩) 1048577 1048577) (w.alloc (.cells Z1 5)) := hm1
  have k2 : ∀ w : World, (Instr.makeSlice 27 (.int .i64 4096) (.int .i64 4096)).run Tryd.prog w = .ok (.slice (some ⟨w.heap.size, 0, none⟩) 4096 4096) (w.alloc (.cells Z2 5)) := hm2
  have k3 : ∀ w : World, (Instr.makeSlice 27 (.int .i64 4097) (.int .i64 4097)).run Tryd.prog w = .ok (.slice (some ⟨w.heap.size, 0, none⟩) 4097 4097) (w.alloc (.cells Z3 5)) := hm3
  have HZ1 := Lib.hid hz1
  have HZ2 := Lib.hid hz2
  have HL1 := Lib.hid hl1
  have HL2 := Lib.hid hl2
  obtain ⟨s, hs⟩ : ∃ s, strB l1 = s := ⟨_, rfl⟩
  have hss : s.size = 1048577 := by rw [← hs, ← strL_length, strL_strB, hl1]
  have kc : (convert 27 9 (.slice (some ⟨w.heap.size, 0, none⟩) 1048577 1048577)).run Tryd.prog (w.alloc (.cells Z1 5)) = .ok (.string s) (w.alloc (.cells Z1 5)) := by
    rw [← hs]
    exact run_str _ 27 5 Tryd.underlying27 Tryd.underlying5 l1 1048577 1048577 _ _ hl1 (Rd.made hz1) 9 Tryd.underlying9
  clear hm1 hm2 hm3 hz1 hz2 hz3 hl1 hl2 hl3 hs
  have hex : (s.extract 0 1048576).size = 1048576 := by simp [hss]
  obtain ⟨q, hq⟩ : ∃ q, s.extract 0 1048576 = q := ⟨_, rfl⟩
  have hT1 : Calls Tryd.prog 19 #[.pointer (some ⟨w.heap.size + 1, 0, none⟩), .string (s.extract 0 1048576)] ((w.alloc (.cells Z1 5)).alloc (.cells #[.slice none 0 0, .bool true] 38)) fun e w2 => e = .returned (.int .i64 0) ∧ ∃ v, Wr w2 (w.heap.size + 1) v ([] ++ textB q) ∧ Below w.heap.size w w2 := by
    rw [hq] at hex ⊢
    have hb1 : Below w.heap.size w ((w.alloc (.cells Z1 5)).alloc (.cells #[.slice none 0 0, .bool true] 38)) := ((Below.refl _ _).alloc (Nat.le_refl _) _).alloc (by simp) _
    have hW := Wr.new (w.alloc (.cells Z1 5))
    rw [World.size_alloc] at hW
    refine (WText_ok _ hW (by simp) q (by omega)).mono ?_
    rintro e w2 ⟨rfl, v', h1, h2⟩
    exact ⟨rfl, v', h1, hb1.trans (h2.but.to_below (n := w.heap.size) hb1.size (fun b e => by
      rcases e with rfl | e
      · omega
      · simp [Value.ownBlock] at e))⟩
  have HTL : Hid (([] ++ textB q).length = 1048579) := Lib.hid (textB_mega (by rw [← hq]; exact hex))
  obtain ⟨Q, hQ⟩ : ∃ Q, [] ++ textB q = Q := ⟨_, rfl⟩
  rw [hQ] at hT1 HTL
  obtain ⟨G, hG⟩ : ∃ G, frameB l2 = G := ⟨_, rfl⟩
  have hsp := splitS_frame l2 [] (Nat.le_of_eq HL2.out)
  rw [List.append_nil, hG] at hsp
  have HSP := Lib.hid hsp
  have HGL : Hid (0 < G.length ∧ G.length ≤ 1000000) := Lib.hid (by
    rw [← hG]
    refine ⟨?_, ?_⟩
    · unfold frameB
      have := numB_pos (l2.length + 4)
      rw [List.length_append]
      omega
    · have := frameB_len l2 (Nat.le_of_eq HL2.out)
      have := HL2.out
      omega)
  have HG := Lib.hid hG
  have HSS := Lib.hid hss
  have HBS : 1048576 < s.size := by omega
  clear hQ hq hex hsp hG hss
  go_enter Tryd.func9, Tryd.ntmps9
  go_wp2_with (first
    | (go_at_call 13; (with_reducible refine (New_any _).mono ?_); rintro e w1 ⟨rfl, rfl⟩)
    | (go_at_call 19; (with_reducible refine hT1.mono ?_); clear hT1; rintro e w2 ⟨rfl, v, hW2, hb2⟩)
    | (go_at_call 19; (with_reducible refine (WText_long w2 hW2 s HBS).mono ?_); rintro e w' ⟨rfl, rfl⟩; have hb3 : Below w2.heap.size w2 (w2.alloc (.cells Z2 5)) := (Below.refl _ _).alloc (Nat.le_refl _) _; have hfr := Frame_ok l2 4096 4096 _ (w2.alloc (.cells Z2 5)) HL2.out (Nat.le_refl _) (Rd.made HZ2.out) (ht.belowTo (hb2.trans (hb3.mono hb2.size)) ht.1); rw [HG.out] at hfr)
    | (go_at_call 29; (with_reducible refine hfr.mono ?_); clear hfr; rintro e w4 ⟨v4, rfl, hown4, hb4⟩; obtain ⟨A4, c4, rfl⟩ := own_slice hown4; have hb24 : Below w2.heap.size w2 w4 := hb3.trans (hb4.mono hb3.size); have hb5 : Below w4.heap.size w4 (w4.alloc (.cells Z3 5)) := (Below.refl _ _).alloc (Nat.le_refl _) _)
    | (go_at_call 29; (with_reducible refine (Frame_long 4097 4097 _ _ (by omega)).mono ?_); rintro e w' ⟨rfl, rfl⟩))
  have hb25 : Below w2.heap.size w2 (w4.alloc (.cells Z3 5)) := hb24.trans (hb5.mono hb24.size)
  have h4 := own_below hown4 hb5
  obtain ⟨g, cap, e4, hgb, hgl, hcap⟩ := own_form h4 HGL.out.1
  injection e4 with e41 e42 e43
  subst e41
  have hsplit : Calls Tryd.prog 30 #[.slice (some ⟨g, 0, none⟩) G.length c4] (w4.alloc (.cells Z3 5)) fun e w6 => ∃ A6 c6, e = .returned (.tuple #[.slice A6 4096 c6, .int .i64 (G.length : Int), .int .i64 0]) ∧ Wr w6 (w.heap.size + 1) v Q ∧ Below w.heap.size w w6 := by
    refine (Split_any G G.length c4 (some ⟨g, 0, none⟩) _ rfl (by omega) (fun e => by simp at e) (Rd.of_own h4 (Nat.le_refl _)) (ht.belowTo (hb2.trans (hb25.mono hb2.size)) ht.1) HGL.out.2).mono ?_
    rintro e w6 ⟨⟨v6, rfl, ho⟩, hb6⟩
    rw [HSP.out] at ho ⊢
    have hl : (l2, G.length, (0 : Int)).1.length = 4096 := HL2.out
    rw [hl] at ho
    obtain ⟨A6, c6, rfl⟩ := own_slice ho
    have hb26 : Below w2.heap.size w2 w6 := hb25.trans (hb6.mono hb25.size)
    exact ⟨A6, c6, rfl, hW2.below hb26, hb2.trans (hb26.mono hb2.size)⟩
  clear hown4 h4 hb4 hb5 hb25 hb24 hb3 hgb hgl hcap e42 e43 HZ1 HZ2 HL1 k1 k2 k3 HG HSP hW2 hb2
  go_wp2_with (go_at_call 30; (with_reducible refine hsplit.mono ?_); clear hsplit; rintro e w6 ⟨A6, c6, rfl, hW6, hb6⟩)
  have hall : Calls Tryd.prog 17 #[.pointer (some ⟨w.heap.size + 1, 0, none⟩)] w6 fun e w7 => (∃ A7 c7, e = .returned (.slice A7 1048579 c7)) ∧ Below w.heap.size w w7 := by
    refine (All_big _ hW6 (by rw [HTL.out]; omega) (by rw [HTL.out]; omega)).mono ?_
    rintro e w7 ⟨A7, c7, rfl, hb⟩
    rw [HTL.out]
    exact ⟨⟨A7, c7, rfl⟩, hb6.trans (hb.mono hb6.size)⟩
  clear hW6 HTL HGL HL2
  go_wp2_with (first
    | (go_at_call 15; (with_reducible refine (num_any _ _).mono ?_); rintro e w' ⟨rfl, rfl⟩)
    | (go_at_call 17; (with_reducible refine hall.mono ?_); clear hall; rintro e w7 ⟨⟨A7, c7, rfl⟩, hb7⟩)
    | (go_at_call 12; (with_reducible refine (works_from hb7 ht).mono ?_); rintro e w8 ⟨rfl, hb8⟩))
  go_ret
  exact ⟨rfl, hb8⟩
end Go.Proofs
