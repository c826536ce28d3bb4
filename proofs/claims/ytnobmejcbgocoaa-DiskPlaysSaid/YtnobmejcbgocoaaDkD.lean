/-
  set: a file is put. Conditions: as the theorem names them.
-/
import Derived.Test.YtnobmejcbgocoaaDkC
namespace Go.Proofs
open Go Go.RowKit Sm Go.Lib Go.Maps Go.WideMaps
attribute [local go_sem] Oper.semAt_some
theorem Sm.Clone_any (s : ByteArray) (w : World) (hm : s.size ≤ 1000000) : Calls Try.prog 63 #[.string s] w fun e w' => e = .returned (.string s) ∧ Below w.heap.size w w' := by
  have h := Try.stringslite_Clone s w (by omega)
  go_enter Try.func63, Try.ntmps63
  go_wp2_with (go_at_call 74; (with_reducible refine h.mono ?_); rintro e w' ⟨rfl, hb⟩)
  go_ret
  exact ⟨rfl, hb⟩
/-- a disk with another file -/
theorem Sm.DAt.add {w W : World} {p Mb base : Nat} {s : DSt} {G : List FileM} {f : FileM} (h : DAt w p Mb base s (delG f.name G)) (hb : But (DMay p Mb) w W)
    (hblk : W.heap[p]? = some (.cells #[.bool s.stops, .int .i64 s.after, .bool s.dead, .int .i64 s.room, .int .i64 (usedG (putG f G) : Int), .map (some Mb)] 35 (0, 0))) (hmap : ∃ D, W.ownsMap Try.prog 9 heldElem Mb (putG f G).length D ∧ MapIs D (putG f G))
    (hu : (usedG (putG f G) : Int) ≤ s.room) (hrow : w.ownsRow base 5 1 f.sl f.bytes.length (f.bytes.map byteCell)) (hsep : ∀ g ∈ G, g.name ≠ f.name → ∀ b, f.sl.ownBlock = some b → g.sl.ownBlock ≠ some b)
    (hok : nameOK f.name = true ∧ f.sure ≤ f.bytes.length) : DAt W p Mb base s (putG f G) := by
  have hl := h.low
  have hall : ∀ g ∈ putG f G, g = f ∨ g ∈ delG f.name G := fun g hg => (mem_put.1 hg).imp id mem_del.2
  have hrw : ∀ g ∈ putG f G, w.ownsRow base 5 1 g.sl g.bytes.length (g.bytes.map byteCell) := fun g hg => by
    rcases hall g hg with rfl | h2
    · exact hrow
    · exact h.row g h2
  refine ⟨hblk, hmap, sort_ins h.sort (fun g hg => (mem_del.1 hg).2), fun g hg => hb.row (hrw g hg) (fun b e1 e2 => ?_), fun g hg k hk hne b e1 e2 => ?_, ⟨hl.1, hl.2.1, hl.2.2.1, Nat.le_trans hl.2.2.2 hb.size⟩, ⟨h.room_.1, h.room_.2.1, hu⟩, h.aft, fun g hg => ?_⟩
  · have := ((hrw g hg).lt b e1).1
    rcases e2 with e2 | e2 <;> omega
  · rcases hall g hg with rfl | hg2
    · rcases hall k hk with rfl | hk2
      · exact hne rfl
      · exact hsep k (mem_del.1 hk2).1 (fun e => hne e.symm) b e1 e2
    · rcases hall k hk with rfl | hk2
      · exact hsep g (mem_del.1 hg2).1 hne b e2 e1
      · exact h.sep g hg2 k hk2 hne b e1 e2
  · rcases hall g hg with rfl | hg2
    · exact hok
    · exact h.ok g hg2
theorem Sm.DAt.but {w W : World} {p Mb base : Nat} {s : DSt} {G : List FileM} {S : Nat → Prop} (h : DAt w p Mb base s G) (hb : But S w W) (hS : ∀ b, S b → b ≠ p ∧ b ≠ Mb ∧ ∀ f ∈ G, f.sl.ownBlock ≠ some b) : DAt W p Mb base s G :=
  ⟨hb.box h.blk (fun e => (hS _ e).1 rfl), h.map.imp fun _ hD => ⟨map_keep hD.1 (hb.block _ hD.1.lt (fun e => (hS _ e).2.1 rfl)), hD.2⟩, h.sort, fun f hf => hb.row (h.row f hf) (fun g e1 e2 => (hS g e2).2.2 f hf e1), h.sep, ⟨h.low.1, h.low.2.1, h.low.2.2.1, Nat.le_trans h.low.2.2.2 hb.size⟩, h.room_, h.aft, h.ok⟩
set_option maxRecDepth 100000 in
set_option maxHeartbeats 2000000 in
theorem Sm.set_any {p Mb base : Nat} {s : DSt} {G : List FileM} (x : ByteArray) (f : FileM) (w : World) (h : DAt w p Mb base s G) (hxz : x.size ≤ 1000000) (hf : f.name = strL x) (hrow : w.ownsRow base 5 1 f.sl f.bytes.length (f.bytes.map byteCell))
    (hsep : ∀ g ∈ G, g.name ≠ f.name → ∀ b, f.sl.ownBlock = some b → g.sl.ownBlock ≠ some b) (hu : (usedG (delG f.name G) + f.bytes.length : Int) ≤ s.room) (hok : nameOK f.name = true ∧ f.sure ≤ f.bytes.length) (hGl : G.length ≤ 1000000) :
    Calls Try.prog 41 #[.pointer (some ⟨p, 0, none⟩), .string x, f.val] w fun e w' => e = .returned (.tuple #[]) ∧ DAt w' p Mb base s (putG f G) ∧ But (DMay p Mb) w w' := by
  obtain ⟨w1, hw1⟩ : ∃ w1, w.alloc (.cells #[f.sl, .int .i64 (f.sure : Int)] 79) = w1 := ⟨_, rfl⟩
  have hb1 : Below w.heap.size w w1 := by rw [← hw1]; exact (Below.refl _ w).alloc (Nat.le_refl _) _
  have hbx1 : w1.heap[w.heap.size]? = some (.cells #[f.sl, .int .i64 (f.sure : Int)] 79 (0, 0)) := by rw [← hw1]; exact World.alloc_heap_new w _
  have hun := unset_any x w1 (h.keep hb1) hxz
  have HB1 := Lib.hid hb1
  have HX1 := Lib.hid hbx1
  have HROW := Lib.hid hrow
  have hlow := h.low
  have HW1 := Lib.hid hw1
  obtain ⟨A, n, c, hsl⟩ : ∃ (A : Option Addr) (n c : Nat), f.sl = .slice A n c := ⟨_, _, _, rfl⟩
  have hnl : n = f.bytes.length := by
    unfold FileM.sl at hsl
    injection hsl with e1 e2 e3
    exact e2.symm
  have HSL := Lib.hid hsl
  have HNL := Lib.hid hnl
  unfold FileM.val
  rw [hsl]
  rw [hsl] at hw1
  have hsz1 : w1.heap.size = w.heap.size + 1 := by rw [← hw1]; simp
  have hnb : (n : Int) ≤ 16777216 := by have := h.room_; omega
  have hUd : usedG (delG (strL x) G) + n ≤ 16777216 := by have := h.room_; rw [← hf]; omega
  have hpl := (Array.getElem?_eq_some_iff.1 h.blk).1
  have HSZ1 := Lib.hid hsz1
  clear h hb1 hbx1 hrow hsl hnl hsz1
  go_enter Try.func41, Try.ntmps41
  go_upto_region 2 with (go_at_call 51; (with_reducible refine hun.mono ?_); clear hun; rintro e w2 ⟨rfl, hD2, hbt2⟩)
  have hpw : p < w.heap.size := by omega
  have hx2 : w2.heap[w.heap.size]? = some (.cells #[.slice A n c, .int .i64 (f.sure : Int)] 79 (0, 0)) := by
    have h1 := hbt2.box HX1.out (fun e => by rcases e with e | e <;> omega)
    rw [HSL.out] at h1
    exact h1
  have hblk := hD2.blk
  have c4 := cell_of_heap hblk 4
  have c5 := cell_of_heap hblk 5
  have f4 := frozen_of_heap hblk 4
  have x0 := cell_of_heap hx2 0
  have x1 := cell_of_heap hx2 1
  simp only [List.getElem?_toArray, List.getElem?_cons_succ, List.getElem?_cons_zero] at c4 c5 x0 x1
  obtain ⟨U, hU⟩ : ∃ U, usedG (delG (strL x) G) = U := ⟨_, rfl⟩
  rw [hU] at c4 hUd
  have hUb : (U : Int) ≤ 16777216 := by omega
  have HD2 := Lib.hid hD2
  have HBT2 := Lib.hid hbt2
  have HX2 := Lib.hid hx2
  have HUU := Lib.hid hU
  have HBLK := Lib.hid hblk
  clear hD2 hbt2 hx2 hU hw1 hblk
  go_region
  all_goals
    have hpm : Mb ≠ p := fun e => hlow.2.2.1 e.symm
    obtain ⟨W3, hW3⟩ : ∃ W3, (w2.setCell ⟨p, 4, none⟩ (.int .i64 ((U : Int) + (n : Int)))).drew = W3 := ⟨_, rfl⟩
    have hb23 : But (fun b => b = p) w2 W3 := by
      rw [← hW3]
      have h1 : But (fun b => b = p) w2 (w2.setCell ⟨p, 4, none⟩ (.int .i64 ((U : Int) + (n : Int)))) := (But.refl _ w2).set ⟨p, 4, none⟩ _ (.inl rfl)
      exact h1.trans (But.of_all (Below.refl _ (w2.setCell ⟨p, 4, none⟩ (.int .i64 ((U : Int) + (n : Int))))).drew _) (fun b _ e => e)
    have hblk3 : W3.heap[p]? = some (.cells #[.bool s.stops, .int .i64 s.after, .bool s.dead, .int .i64 s.room, .int .i64 ((U : Int) + (n : Int)), .map (some Mb)] 35 (0, 0)) := by
      rw [← hW3]
      exact disk_cells HBLK.out _
    have hx3 := hb23.box HX2.out (fun e => by omega)
    obtain ⟨D, hD, hM⟩ := HD2.out.map
    have hD3 : W3.ownsMap Try.prog 9 heldElem Mb (delG (strL x) G).length D := map_keep hD (hb23.block _ hD.lt hpm)
    have hkey := key_str x hxz
    have hlenG : (delG (strL x) G).length ≤ 1000000 := Nat.le_trans (List.length_filter_le _ _) hGl
    have hval : heldElem (.agg #[.slice A n c, .int .i64 (f.sure : Int)]) = some (.held f.val, []) := by
      unfold heldElem FileM.val
      rw [HSL.out]
    have hpl3 := (Array.getElem?_eq_some_iff.1 hblk3).1
    have hxl3 := (Array.getElem?_eq_some_iff.1 hx3).1
    have hS : ∀ W : World, W.heap[p]? = W3.heap[p]? → W.heap[w.heap.size]? = W3.heap[w.heap.size]? → W.cell? ⟨p, 5, none⟩ = some (.map (some Mb)) ∧ W.cell? ⟨w.heap.size, 0, none⟩ = some (.slice A n c) ∧ W.cell? ⟨w.heap.size, 1, none⟩ = some (.int .i64 (f.sure : Int)) := fun W e1 e2 => by
      have a := cell_of_heap (e1.trans hblk3) 5
      have b0 := cell_of_heap (e2.trans hx3) 0
      have b1 := cell_of_heap (e2.trans hx3) 1
      exact ⟨a, b0, b1⟩
    have hST : ∀ W, Below W3.heap.size W3 W → ∃ w5, (Instr.mapUpdate 33 (.map (some Mb)) (.string x) (.agg #[.slice A n c, .int .i64 (f.sure : Int)])).run Try.prog W = .ok () w5 ∧ w5.ownsMap Try.prog 9 heldElem Mb ((delG (strL x) G).length + 1) (D.put (keyN (strL x)) (.held f.val)) ∧ But (fun b => b = Mb) W w5 := fun W hb => by
      obtain ⟨w5, h1, h2, h3⟩ := (map_keep hD3 (hb.block _ hD3.lt)).store law9 Try.underlying33 (by unfold maxLen; omega) hkey hval
      exact ⟨w5, h1, h2, turned_but h3⟩
    have hcl : ∀ W, Calls Try.prog 63 #[.string x] W fun e w' => e = .returned (.string x) ∧ Below W.heap.size W w' := fun W => Clone_any x W hxz
    have HS := Lib.hid hS
    have HST := Lib.hid hST
    have HCL := Lib.hid hcl
    have HB23 := Lib.hid hb23
    have HBLK3 := Lib.hid hblk3
    have HM := Lib.hid hM
    have q0 := hS W3 rfl rfl
    rw [hW3]
    clear hS hST hcl hb23 hblk3 hx3 hD hD3 hM hW3 hval c4 c5 f4 x0 x1
    go_upto_region 3 with fail
    go_region_held_law (fun W => W.cell? ⟨p, 5, none⟩ = some (.map (some Mb)) ∧ W.cell? ⟨w.heap.size, 0, none⟩ = some (.slice A n c) ∧ W.cell? ⟨w.heap.size, 1, none⟩ = some (.int .i64 (f.sure : Int)))
      (first | exact q2 | exact q1 | exact q0)
      (first | (go_at_call 63; (with_reducible refine (HCL.out _).mono ?_); rintro e w4 ⟨rfl, hb4⟩; have HB4 : Hid (Below W3.heap.size W3 w4) := Lib.hid ((Below.refl _ _).drew.trans hb4); have q1 := HS.out w4 (HB4.out.block _ hpl3) (HB4.out.block _ hxl3); obtain ⟨w5, hr5, ho5, hb5⟩ := HST.out w4 HB4.out; have q2 := HS.out w5 ((hb5.block _ (by have := HB4.out.size; omega) (fun e => hpm e.symm)).trans (HB4.out.block _ hpl3)) ((hb5.block _ (by have := HB4.out.size; omega) (fun e => by omega)).trans (HB4.out.block _ hxl3)); clear hb4))
    all_goals
      go_wp2
      have hs4 := HB4.out.size
      have hs1 := HSZ1.out
      have hs23 := HB23.out.size
      have hsb2 := HBT2.out.size
      have hB12 : But (DMay p Mb) w w2 := ((But.refl _ w).trans (But.of_below HB1.out) (fun b h1 h2 => by omega)).trans HBT2.out (fun b _ e => e)
      have hB25 : But (DMay p Mb) w2 w5 := ((HB23.out.mono (fun b _ e => (Or.inl e : DMay p Mb b))).trans (But.of_below HB4.out) (fun b h1 h2 => by omega)).trans hb5 (fun b _ e => Or.inr e)
      have hdd : delG (strL x) (delG (strL x) G) = delG (strL x) G := del_none (fun g hg => (mem_del.1 hg).2)
      have hM5 : MapIs (D.put (keyN (strL x)) (.held f.val)) (putG f G) := by
        have h1 := HM.out.put HD2.out.sort f
        rw [hf] at h1
        have e : putG f (delG (strL x) G) = putG f G := by unfold putG; rw [hf, hdd]
        rw [e] at h1
        exact h1
      have hlen5 : (putG f G).length = (delG (strL x) G).length + 1 := by unfold putG; rw [len_ins, hf]
      have hus : usedG (putG f G) = U + n := by unfold putG; rw [used_ins, hf, HUU.out, HNL.out]
      have hblk5 : w5.heap[p]? = some (.cells #[.bool s.stops, .int .i64 s.after, .bool s.dead, .int .i64 s.room, .int .i64 (usedG (putG f G) : Int), .map (some Mb)] 35 (0, 0)) := by
        rw [hus, Int.natCast_add]
        exact (hb5.block _ (by omega) (fun e => hpm e.symm)).trans ((HB4.out.block _ hpl3).trans HBLK3.out)
      have hmap5 : ∃ D, w5.ownsMap Try.prog 9 heldElem Mb (putG f G).length D ∧ MapIs D (putG f G) := ⟨_, by rw [hlen5]; exact ho5, hM5⟩
      have hrow2 : w2.ownsRow base 5 1 f.sl f.bytes.length (f.bytes.map byteCell) := hB12.row HROW.out (fun g e1 e2 => by
        have := (HROW.out.lt g e1).1
        rcases e2 with e2 | e2 <;> omega)
      have hD2 : DAt w2 p Mb base s (delG f.name G) := by rw [hf]; exact HD2.out
      go_end0
      refine ⟨rfl, hD2.add hB25 hblk5 hmap5 ?_ hrow2 hsep hok, hB12.trans hB25 (fun b _ e => e)⟩
      rw [hus]
      rw [hf, HUU.out, ← HNL.out] at hu
      omega
end Go.Proofs
