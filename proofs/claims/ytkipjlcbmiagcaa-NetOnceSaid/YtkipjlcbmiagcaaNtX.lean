/-
  Take and Drop. Conditions: as each theorem names them.
-/
import Derived.Test.YtkipjlcbmiagcaaNtW
namespace Go.Proofs
open Go Go.RowKit Sm Go.Lib Go.Maps Go.WideMaps
attribute [local go_sem] Oper.semAt_some
theorem Sm.cellsM_one (L : List MsgM) : ∀ u ∈ cellsM L, u.oneCell' = true := fun u hu => by
  obtain ⟨m, _, h⟩ := List.mem_flatMap.1 hu
  simp only [MsgM.cells, List.mem_cons, List.mem_nil_iff, or_false] at h
  rcases h with rfl | rfl | rfl | rfl <;> rfl
theorem Sm.NAt.less {w W : World} {p Mb base : Nat} {s : NSt} {D : List (Int × Int)} {A : Option Addr} {cap : Nat} {L : List MsgM} (R : Nat) (h : NAt w p Mb base s D A cap L) (hR : R < L.length) (hP : But (PMay p (.slice A L.length cap)) w W)
    (hblk : W.heap[p]? = some (.cells #[.int .i64 s.ends, .int .i64 s.most, .int .i64 s.came, .map (some Mb), .slice A (L.length - 1) cap] 35 (0, 0)))
    (hrow : W.ownsRow base 83 4 (.slice A (L.length - 1) cap) (L.length - 1) (cellsM (L.eraseIdx R))) : NAt W p Mb base s D A cap (L.eraseIdx R) := by
  have hl := h.low
  have hlim := h.lim
  have hlen : (L.eraseIdx R).length = L.length - 1 := List.length_eraseIdx_of_lt hR
  have hsub : ∀ m ∈ L.eraseIdx R, m ∈ L := fun m hm => List.mem_of_mem_eraseIdx hm
  have h0 : ∀ q, (Value.slice A L.length cap).ownBlock = some q → base ≤ q := fun q e => (h.row.lt q e).1
  have hob : ∀ n, (Value.slice A n cap).ownBlock = (Value.slice A L.length cap).ownBlock := fun n => by cases A <;> rfl
  refine ⟨by rw [hlen]; exact hblk, h.map.imp fun _ hD => ⟨map_keep hD.1 (hP.block _ hD.1.lt (fun e => ?_)), hD.2⟩, by rw [hlen]; exact hrow, fun x hx => ?_, fun x hx b hb => ?_, ⟨hl.1, hl.2.1, hl.2.2.1, Nat.le_trans hl.2.2.2 hP.size⟩,
    ⟨hlim.1, hlim.2.1, hlim.2.2.1, hlim.2.2.2.1, by rw [hlen]; omega, hlim.2.2.2.2.2.1, hlim.2.2.2.2.2.2⟩, h.lnk, fun x hx => h.msg x (hsub x hx)⟩
  · rcases e with e | e
    · exact hl.2.2.1 e.symm
    · have := h0 _ e; omega
  · refine hP.row (h.byt x (hsub x hx)) (fun g e1 e2 => ?_)
    rcases e2 with e2 | e2
    · have := ((h.byt x (hsub x hx)).lt g e1).1; omega
    · exact h.sep x (hsub x hx) g e1 e2
  · rw [hob]
    exact h.sep x (hsub x hx) b hb
set_option maxRecDepth 100000 in
set_option maxHeartbeats 1000000 in
theorem Sm.take_bad (v : Value) (x y pick r E : Int) (P : PD) (w : World) (hE : E ≠ 0) (hf : ∀ W, Below w.heap.size w W → Calls Try.prog 39 #[v, .int .i64 x, .int .i64 y, .int .i64 pick] W fun e w' => ∃ A c, e = .returned (.tuple #[.int .i64 r, parVal P A c, .int .i64 E]) ∧ ParV w' W.heap.size P A c ∧ Below W.heap.size W w') :
    Calls Try.prog 14 #[v, .int .i64 x, .int .i64 y, .int .i64 pick] w fun e w' => ∃ A c, e = .returned (.tuple #[parVal P A c, .int .i64 E]) ∧ ParV w' w.heap.size P A c ∧ Below w.heap.size w w' := by
  obtain ⟨W0, hW0⟩ : ∃ V, w.alloc (.cells #[.int .i64 0, .int .i64 0, .int .i64 0, .slice none 0 0] 41) = V := ⟨_, rfl⟩
  have hb0 : Below w.heap.size w W0 := by rw [← hW0]; exact (Below.refl _ w).alloc (Nat.le_refl _) _
  have hx0 := par_new w
  rw [hW0] at hx0
  have h39 := hf W0 hb0
  have HX := Lib.hid hx0
  have HB := Lib.hid hb0
  have hE2 : (E == 0) = false := by simpa using hE
  obtain ⟨a, b, c, l⟩ := P
  unfold parVal at h39 ⊢
  simp only at h39 ⊢
  obtain ⟨n, hn⟩ : ∃ n, l.length = n := ⟨_, rfl⟩
  rw [hn] at h39 ⊢
  have hl0 := (Array.getElem?_eq_some_iff.1 hx0).1
  clear hb0 hx0 hf hn hE
  go_enter Try.func14, Try.ntmps14
  go_upto_region 1 with fail
  clear hW0
  go_upto_region 2 with (go_at_call 39; (with_reducible refine h39.mono ?_); clear h39; rintro e w1 ⟨A, cp, rfl, ho, hb1⟩)
  have hx1 := (hb1.block _ (Array.getElem?_eq_some_iff.1 HX.out).1).trans HX.out
  have hbw := HB.out.trans (hb1.mono HB.out.size)
  have hl1 : w.heap.size < w1.heap.size := Nat.lt_of_lt_of_le hl0 hb1.size
  have hx2 := old_alloc (.cells #[.int .i64 a, .int .i64 b, .int .i64 c, .slice A n cp] 41) hx1
  have hx3 := World.alloc_heap_new w1 (.cells #[.int .i64 a, .int .i64 b, .int .i64 c, .slice A n cp] 41)
  have hb2 := hbw.alloc hbw.size (.cells #[.int .i64 a, .int .i64 b, .int .i64 c, .slice A n cp] 41)
  have ho2 := ho.but (But.of_all ((Below.refl _ w1).alloc (Nat.le_refl _) (.cells #[.int .i64 a, .int .i64 b, .int .i64 c, .slice A n cp] 41)) (fun _ => False)) (fun _ e => e.elim) (Nat.le_refl _)
  obtain ⟨w2, hw2⟩ : ∃ V, w1.alloc (.cells #[.int .i64 a, .int .i64 b, .int .i64 c, .slice A n cp] 41) = V := ⟨_, rfl⟩
  rw [hw2] at hx2 hx3 hb2 ho2 ⊢
  have HX1 := Lib.hid hx2
  have HB1 := Lib.hid hb2
  have HO := Lib.hid ho2
  obtain ⟨⟨k0, k1, k2, k3⟩, ⟨f0, f1, f2, f3⟩⟩ := four_cells hx2
  obtain ⟨⟨j0, j1, j2, j3⟩, _⟩ := four_cells hx3
  clear hb1 ho hx1 hx2 hx3 hb2 ho2 hw2 hbw
  go_wp2
  have h4 := put4 HX1.out (.int .i64 a) (.int .i64 b) (.int .i64 c) (.slice A n cp)
  have h5 := put4_but w2 w.heap.size (.int .i64 a) (.int .i64 b) (.int .i64 c) (.slice A n cp)
  unfold put4W at h4 h5
  obtain ⟨⟨z0, z1, z2, z3⟩, _⟩ := four_cells h4
  have hb6 := HB1.out.trans (h5.to_below HB1.out.size (fun b e => by omega))
  have ho6 := HO.out.but h5 (fun b e => by omega) (Nat.le_of_lt hl0)
  exact bodyPost_ret (v := .tuple #[.agg #[.int .i64 a, .int .i64 b, .int .i64 c, .slice A n cp], .int .i64 E]) (by simp [results, Try.results14, go_sem, z0, z1, z2, z3]) rfl ⟨A, cp, rfl, ho6, hb6⟩
/-- a net's messages but for one, put back into it -/
theorem Sm.NAt.cut {w W V : World} {p Mb base : Nat} {s : NSt} {D : List (Int × Int)} {g cap i m : Nat} {L : List MsgM} (h : NAt w p Mb base s D (some ⟨g, 0, none⟩) cap L) (hn : L.length = i + 1 + m) (hwW : But (fun b => b = g) w W)
    (hrow : W.ownsRow base 83 4 (.slice (some ⟨g, 0, none⟩) (i + m) cap) (i + m) ((cellsM L).take (i * 4) ++ (cellsM L).drop ((i + 1) * 4))) (hV : V = W.setCell ⟨p, 4, none⟩ (.slice (some ⟨g, 0, none⟩) (i + m) cap)) :
    NAt V p Mb base s D (some ⟨g, 0, none⟩) cap (L.eraseIdx i) ∧ But (PMay p (.slice (some ⟨g, 0, none⟩) L.length cap)) w V := by
  have hpg : p ≠ g := fun e => by have h1 := (h.row.lt g rfl).1; have := h.low; omega
  have hb : But (PMay p (.slice (some ⟨g, 0, none⟩) L.length cap)) w V := by
    rw [hV]
    exact (hwW.mono (fun b _ e => .inr (by rw [e]; rfl))).set ⟨p, 4, none⟩ _ (.inl (.inl rfl))
  have hblk := hwW.box h.blk hpg
  have e1 : L.length - 1 = i + m := by omega
  refine ⟨NAt.less i h (by omega) hb ?_ ?_, hb⟩
  · rw [hV, e1]
    exact heap_setCells hblk
  · rw [hV, e1, ← cells_erase]
    refine ((But.refl (fun b => b = p) W).set ⟨p, 4, none⟩ _ (.inl rfl)).row hrow (fun g2 e e2 => ?_)
    have e3 : g = g2 := Option.some.inj e
    exact hpg (e2 ▸ e3.symm)
set_option maxRecDepth 100000 in
set_option maxHeartbeats 1000000 in
theorem Sm.take_yes {p Mb base g cap : Nat} {s : NSt} {D : List (Int × Int)} {L : List MsgM} (x y pick : Int) (i m : Nat) (P : PD) (w : World) (h : NAt w p Mb base s D (some ⟨g, 0, none⟩) cap L) (hn : L.length = i + 1 + m)
    (hf : ∀ W, Below w.heap.size w W → Calls Try.prog 39 #[.pointer (some ⟨p, 0, none⟩), .int .i64 x, .int .i64 y, .int .i64 pick] W fun e w' => ∃ A c, e = .returned (.tuple #[.int .i64 (i : Int), parVal P A c, .int .i64 0]) ∧ ParV w' W.heap.size P A c ∧ Below W.heap.size W w') :
    Calls Try.prog 14 #[.pointer (some ⟨p, 0, none⟩), .int .i64 x, .int .i64 y, .int .i64 pick] w fun e w' => ∃ A c, e = .returned (.tuple #[parVal P A c, .int .i64 0]) ∧ ParV w' w.heap.size P A c ∧ NAt w' p Mb base s D (some ⟨g, 0, none⟩) cap (L.eraseIdx i) ∧ But (PMay p (.slice (some ⟨g, 0, none⟩) L.length cap)) w w' := by
  obtain ⟨W0, hW0⟩ : ∃ V, w.alloc (.cells #[.int .i64 0, .int .i64 0, .int .i64 0, .slice none 0 0] 41) = V := ⟨_, rfl⟩
  have hb0 : Below w.heap.size w W0 := by rw [← hW0]; exact (Below.refl _ w).alloc (Nat.le_refl _) _
  have hx0 := par_new w
  rw [hW0] at hx0
  have h39 := hf W0 hb0
  have HX := Lib.hid hx0
  have HB := Lib.hid hb0
  have HN := Lib.hid h
  have hgw := (h.row.lt g rfl).2
  have hpw := h.lt.1
  have hpg : p ≠ g := fun e => by have h1 := (h.row.lt g rfl).1; have := h.low; omega
  have hlim := h.lim
  have hn4 : i + 1 + m ≤ 4096 := by omega
  obtain ⟨a, b, c, l⟩ := P
  unfold parVal at h39 ⊢
  simp only at h39 ⊢
  obtain ⟨n, hnl⟩ : ∃ n, l.length = n := ⟨_, rfl⟩
  rw [hnl] at h39 ⊢
  have hl0 := (Array.getElem?_eq_some_iff.1 hx0).1
  have HL := Lib.hid hn
  clear hb0 hx0 hf hnl hlim h hn
  go_enter Try.func14, Try.ntmps14
  go_upto_region 1 with fail
  clear hW0
  go_upto_region 2 with (go_at_call 39; (with_reducible refine h39.mono ?_); clear h39; rintro e w1 ⟨A, cp, rfl, ho, hb1⟩)
  have hx1 := (hb1.block _ (Array.getElem?_eq_some_iff.1 HX.out).1).trans HX.out
  have hbw := HB.out.trans (hb1.mono HB.out.size)
  have hl1 : w.heap.size < w1.heap.size := Nat.lt_of_lt_of_le hl0 hb1.size
  have hx2 := old_alloc (.cells #[.int .i64 a, .int .i64 b, .int .i64 c, .slice A n cp] 41) hx1
  have hx3 := World.alloc_heap_new w1 (.cells #[.int .i64 a, .int .i64 b, .int .i64 c, .slice A n cp] 41)
  have hb2 := hbw.alloc hbw.size (.cells #[.int .i64 a, .int .i64 b, .int .i64 c, .slice A n cp] 41)
  have ho2 := ho.but (But.of_all ((Below.refl _ w1).alloc (Nat.le_refl _) (.cells #[.int .i64 a, .int .i64 b, .int .i64 c, .slice A n cp] 41)) (fun _ => False)) (fun _ e => e.elim) (Nat.le_refl _)
  obtain ⟨w2, hw2⟩ : ∃ V, w1.alloc (.cells #[.int .i64 a, .int .i64 b, .int .i64 c, .slice A n cp] 41) = V := ⟨_, rfl⟩
  rw [hw2] at hx2 hx3 hb2 ho2 ⊢
  have hN2 := HN.out.keep hb2
  have hrow := hN2.row
  have hc4 := cell_of_heap hN2.blk 4
  simp only [List.getElem?_toArray, List.getElem?_cons_zero, List.getElem?_cons_succ] at hc4
  rw [HL.out] at hrow hc4
  have h40 := without_any g i m cap base (cellsM L) w2 hrow hn4 (cellsM_one L)
  have hxp : w.heap.size < w2.heap.size := (Array.getElem?_eq_some_iff.1 hx2).1
  have HN2 := Lib.hid hN2
  have HX1 := Lib.hid hx2
  have HX3 := Lib.hid hx3
  have HB1 := Lib.hid hb2
  have HO := Lib.hid ho2
  have hs1 : W0.heap.size ≤ w1.heap.size := hb1.size
  clear hb1 ho hx1 hx2 hx3 hb2 ho2 hw2 hbw hN2 hrow
  go_upto_region 4 with (go_at_call 40; (with_reducible refine h40.mono ?_); clear h40; rintro e w3 ⟨rfl, hr3, hb3⟩; have HR3 := Lib.hid hr3; have HB3 := Lib.hid hb3; obtain ⟨⟨d0, d1, d2, d3⟩, _⟩ := four_cells (hb3.box HX3.out (by omega)); have d4 := cell_of_heap (hb3.box HN2.out.blk hpg) 4; have g4 := frozen_of_heap (hb3.box HN2.out.blk hpg) 4; simp only [List.getElem?_toArray, List.getElem?_cons_zero, List.getElem?_cons_succ] at d4; clear hr3 hb3 hc4)
  obtain ⟨w4, hw4⟩ : ∃ V, w3.setCell ⟨p, 4, none⟩ (.slice (some ⟨g, 0, none⟩) (i + m) cap) = V := ⟨_, rfl⟩
  rw [hw4]
  obtain ⟨hN4, hP4⟩ := NAt.cut HN2.out HL.out HB3.out HR3.out hw4.symm
  have hnot : ∀ q, w.heap.size ≤ q → ¬ PMay p (.slice (some ⟨g, 0, none⟩) L.length cap) q := fun q e e2 => by
    rcases e2 with e2 | e2
    · omega
    · have e3 : g = q := Option.some.inj e2
      omega
  have hx4 := hP4.box HX1.out (hnot _ (Nat.le_refl _))
  obtain ⟨⟨k0, k1, k2, k3⟩, ⟨f0, f1, f2, f3⟩⟩ := four_cells hx4
  obtain ⟨⟨j0, j1, j2, j3⟩, _⟩ := four_cells (hP4.box HX3.out (hnot _ (by omega)))
  have HX4 := Lib.hid hx4
  have HN4 := Lib.hid hN4
  have HP4 := Lib.hid hP4
  have hlow := hN4.lt
  clear d0 d1 d2 d3 d4 g4 hN4 hP4 hx4 hw4
  go_wp2
  have h4 := put4 HX4.out (.int .i64 a) (.int .i64 b) (.int .i64 c) (.slice A n cp)
  have h5 := put4_but w4 w.heap.size (.int .i64 a) (.int .i64 b) (.int .i64 c) (.slice A n cp)
  unfold put4W at h4 h5
  obtain ⟨⟨z0, z1, z2, z3⟩, _⟩ := four_cells h4
  have hPw : But (PMay p (.slice (some ⟨g, 0, none⟩) L.length cap)) w w4 := (But.of_all HB1.out _).trans HP4.out (fun b _ e => e)
  have ho6 := (HO.out.but HP4.out (fun q e => by
      rcases e with e | e
      · omega
      · have e3 : g = q := Option.some.inj e
        omega) (Nat.le_refl _)).but h5 (fun b e => by omega) (Nat.le_of_lt hl0)
  have hN6 := HN4.out.but h5 (fun e => by omega) (fun e => by have := HN.out.lt.2.1; omega) (fun q e e2 => by have := HN.out.lt.2.2.1 q e; omega) (fun m' hm' q e e2 => by have := HN.out.lt.2.2.2 m' (List.mem_of_mem_eraseIdx hm') q e; omega)
  exact bodyPost_ret (v := .tuple #[.agg #[.int .i64 a, .int .i64 b, .int .i64 c, .slice A n cp], .int .i64 0]) (by simp [results, Try.results14, go_sem, z0, z1, z2, z3]) rfl ⟨A, cp, rfl, ho6, hN6, hPw.trans h5 (fun b hb e => by omega)⟩
end Go.Proofs
