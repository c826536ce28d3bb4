/-
  do: a step that is not refused, unless the disk is dead, or stops with it. Conditions: as each theorem names them.
-/
import Derived.Test.YtnobmejcbgocoaaDkE
namespace Go.Proofs
open Go Go.RowKit Sm Go.Lib Go.Maps Go.WideMaps
attribute [local go_sem] Oper.semAt_some
/-- the disk behind one step more -/
def Sm.nextD (s : DSt) : DSt := ⟨(nextS s.stops s.after s.dead).1, (nextS s.stops s.after s.dead).2.1, (nextS s.stops s.after s.dead).2.2, s.room⟩
def Sm.set3 (W : World) (p : Nat) (a b c : Value) : World := ((W.setCell ⟨p, 0, none⟩ a).setCell ⟨p, 1, none⟩ b).setCell ⟨p, 2, none⟩ c
theorem Sm.set3_but (W : World) (p Mb : Nat) (a b c : Value) : But (DMay p Mb) W (set3 W p a b c) :=
  (((But.refl (DMay p Mb) W).set ⟨p, 0, none⟩ _ (.inl (.inl rfl))).set ⟨p, 1, none⟩ _ (.inl (.inl rfl))).set ⟨p, 2, none⟩ _ (.inl (.inl rfl))
theorem Sm.DAt.end3 {W : World} {p Mb base : Nat} {s : DSt} {G : List FileM} (h : DAt W p Mb base s G) (b : Bool) (n : Int) (d : Bool) (hn : 0 ≤ n ∧ n ≤ 9223372036854775807) : DAt (set3 W p (.bool b) (.int .i64 n) (.bool d)) p Mb base ⟨b, n, d, s.room⟩ G := by
  have hl := h.low
  have hb := set3_but W p Mb (.bool b) (.int .i64 n) (.bool d)
  have h1 := heap_setCells (i := 2) (u := .bool d) (heap_setCells (i := 1) (u := .int .i64 n) (heap_setCells (i := 0) (u := .bool b) h.blk))
  refine ⟨h1, h.map.imp fun D hD => ⟨?_, hD.2⟩, h.sort, fun f hf => hb.row (h.row f hf) (fun g e1 e2 => ?_), h.sep, ⟨hl.1, hl.2.1, hl.2.2.1, Nat.le_trans hl.2.2.2 hb.size⟩, h.room_, hn, h.ok⟩
  · refine map_keep hD.1 ?_
    have hne : Mb ≠ p := fun e => hl.2.2.1 e.symm
    exact (Below.heap_setCell _ ⟨p, 2, none⟩ _ _ (fun e => hne e)).trans ((Below.heap_setCell _ ⟨p, 1, none⟩ _ _ (fun e => hne e)).trans (Below.heap_setCell _ ⟨p, 0, none⟩ _ _ (fun e => hne e)))
  · have := ((h.row f hf).lt g e1).1
    rcases e2 with e2 | e2 <;> omega
theorem Sm.nextS_lo {s : Bool} {a : Int} {d : Bool} (h : 0 ≤ a ∧ a ≤ 9223372036854775807) : 0 ≤ (nextS s a d).2.1 ∧ (nextS s a d).2.1 ≤ 9223372036854775807 := by
  unfold nextS
  repeat' split
  all_goals (simp only; omega)
theorem Sm.do_why (v fn : Value) (why : Int) (hw : why ≠ 0) (w : World) : Calls Try.prog 46 #[v, .int .i64 why, fn] w fun e w' => e = .returned (.int .i64 why) ∧ w = w' := by
  have h1 : (why == 0) = false := by simpa using hw
  have h2 : (why != 0) = true := by simpa using hw
  go_enter Try.func46, Try.ntmps46
  go_wp2
  go_ret
  exact ⟨rfl, rfl⟩
set_option maxRecDepth 100000 in
set_option maxHeartbeats 1000000 in
theorem Sm.do_47 {p Mb base : Nat} {s : DSt} {G : List FileM} (caps : Array Value) (w : World) (h : DAt w p Mb base s G) (Q : World → Prop)
    (hst : (nextD s).dead = false → ∀ W, DAt W p Mb base (nextD s) G → But (DMay p Mb) w W → Calls Try.prog 47 caps W fun e w' => e = .returned (.tuple #[]) ∧ Q w') :
    Calls Try.prog 46 #[.pointer (some ⟨p, 0, none⟩), .int .i64 0, .func (.func 47) #[] caps] w fun e w' => ((nextD s).dead = true ∧ e = .returned (.int .i64 172) ∧ DAt w' p Mb base (nextD s) G ∧ But (DMay p Mb) w w') ∨ ((nextD s).dead = false ∧ e = .returned (.int .i64 0) ∧ Q w') := by
  have hblk := h.blk
  have hnx := next_any s.stops s.after s.dead w h.aft.1 h.aft.2
  have hlo := nextS_lo (s := s.stops) (d := s.dead) h.aft
  have hend := fun W hb => DAt.end3 (h.keep (W' := W) hb) (nextS s.stops s.after s.dead).1 (nextS s.stops s.after s.dead).2.1 (nextS s.stops s.after s.dead).2.2 hlo
  have hnd : (⟨(nextS s.stops s.after s.dead).1, (nextS s.stops s.after s.dead).2.1, (nextS s.stops s.after s.dead).2.2, s.room⟩ : DSt) = nextD s := rfl
  simp only [hnd] at hend
  have hdd : (nextD s).dead = (nextS s.stops s.after s.dead).2.2 := rfl
  have hpl := (Array.getElem?_eq_some_iff.1 hblk).1
  have c0 := cell_of_heap hblk 0
  have c1 := cell_of_heap hblk 1
  have c2 := cell_of_heap hblk 2
  simp only [List.getElem?_toArray, List.getElem?_cons_succ, List.getElem?_cons_zero] at c0 c1 c2
  have HBLK := Lib.hid hblk
  have HEND := Lib.hid hend
  have HST := Lib.hid hst
  have HDD := Lib.hid hdd
  obtain ⟨x0, hx0⟩ : ∃ x, s.stops = x := ⟨_, rfl⟩
  obtain ⟨x1, hx1⟩ : ∃ x, s.after = x := ⟨_, rfl⟩
  obtain ⟨x2, hx2⟩ : ∃ x, s.dead = x := ⟨_, rfl⟩
  obtain ⟨y, hy⟩ : ∃ y, nextS s.stops s.after s.dead = y := ⟨_, rfl⟩
  obtain ⟨y0, y1, y2⟩ := y
  rw [hy] at hnx HEND HDD
  rw [hx0] at hnx c0
  rw [hx1] at hnx c1
  rw [hx2] at hnx c2
  simp only at hnx HEND HDD
  clear hblk hend hst hdd hnd hlo hx0 hx1 hx2 hy h
  go_enter Try.func46, Try.ntmps46
  go_upto_region 4 with (go_at_call 65; (with_reducible refine hnx.mono ?_); clear hnx; rintro e w2 ⟨rfl, hb2⟩; have hb2k := hb2.block _ hpl; have b2 := hb2k.trans HBLK.out; have d0 := cell_of_heap b2 0; have d1 := cell_of_heap b2 1; have d2 := cell_of_heap b2 2; have f0 := frozen_of_heap b2 0; have f1 := frozen_of_heap b2 1; have f2 := frozen_of_heap b2 2; simp only [List.getElem?_toArray, List.getElem?_cons_succ, List.getElem?_cons_zero] at d0 d1 d2; clear hb2k)
  obtain ⟨W1, hW1⟩ : ∃ W1, set3 w2 p (.bool y0) (.int .i64 y1) (.bool y2) = W1 := ⟨_, rfl⟩
  have hD1 := HEND.out w2 hb2
  rw [hW1] at hD1
  have hbt : But (DMay p Mb) w W1 := by
    rw [← hW1]
    exact ((But.refl _ w).trans (But.of_below hb2) (fun b h1 h2 => by omega)).trans (set3_but w2 p Mb _ _ _) (fun b _ e => e)
  have hd1 := hD1.blk
  have e2 := cell_of_heap hd1 2
  simp only [List.getElem?_toArray, List.getElem?_cons_succ, List.getElem?_cons_zero] at e2
  rw [HDD.out] at e2
  unfold set3 at hW1
  rw [hW1]
  have HD1 := Lib.hid hD1
  have HBT := Lib.hid hbt
  clear hD1 hbt hd1 hb2 b2 d0 d1 d2 f0 f1 f2 hW1 HEND HBLK c0 c1 c2
  cases y2 with
  | true =>
    go_wp2
    go_ret
    exact .inl ⟨HDD.out, rfl, HD1.out, HBT.out⟩
  | false =>
    have hs := HST.out HDD.out W1 HD1.out HBT.out
    clear HST
    go_wp2_with (go_at_call 47; (with_reducible refine hs.mono ?_); rintro e w3 ⟨rfl, hq⟩)
    go_ret
    exact .inr ⟨HDD.out, rfl, hq⟩
set_option maxRecDepth 100000 in
set_option maxHeartbeats 1000000 in
theorem Sm.do_48 {p Mb base : Nat} {s : DSt} {G : List FileM} (caps : Array Value) (w : World) (h : DAt w p Mb base s G) (Q : World → Prop)
    (hst : (nextD s).dead = false → ∀ W, DAt W p Mb base (nextD s) G → But (DMay p Mb) w W → Calls Try.prog 48 caps W fun e w' => e = .returned (.tuple #[]) ∧ Q w') :
    Calls Try.prog 46 #[.pointer (some ⟨p, 0, none⟩), .int .i64 0, .func (.func 48) #[] caps] w fun e w' => ((nextD s).dead = true ∧ e = .returned (.int .i64 172) ∧ DAt w' p Mb base (nextD s) G ∧ But (DMay p Mb) w w') ∨ ((nextD s).dead = false ∧ e = .returned (.int .i64 0) ∧ Q w') := by
  have hblk := h.blk
  have hnx := next_any s.stops s.after s.dead w h.aft.1 h.aft.2
  have hlo := nextS_lo (s := s.stops) (d := s.dead) h.aft
  have hend := fun W hb => DAt.end3 (h.keep (W' := W) hb) (nextS s.stops s.after s.dead).1 (nextS s.stops s.after s.dead).2.1 (nextS s.stops s.after s.dead).2.2 hlo
  have hnd : (⟨(nextS s.stops s.after s.dead).1, (nextS s.stops s.after s.dead).2.1, (nextS s.stops s.after s.dead).2.2, s.room⟩ : DSt) = nextD s := rfl
  simp only [hnd] at hend
  have hdd : (nextD s).dead = (nextS s.stops s.after s.dead).2.2 := rfl
  have hpl := (Array.getElem?_eq_some_iff.1 hblk).1
  have c0 := cell_of_heap hblk 0
  have c1 := cell_of_heap hblk 1
  have c2 := cell_of_heap hblk 2
  simp only [List.getElem?_toArray, List.getElem?_cons_succ, List.getElem?_cons_zero] at c0 c1 c2
  have HBLK := Lib.hid hblk
  have HEND := Lib.hid hend
  have HST := Lib.hid hst
  have HDD := Lib.hid hdd
  obtain ⟨x0, hx0⟩ : ∃ x, s.stops = x := ⟨_, rfl⟩
  obtain ⟨x1, hx1⟩ : ∃ x, s.after = x := ⟨_, rfl⟩
  obtain ⟨x2, hx2⟩ : ∃ x, s.dead = x := ⟨_, rfl⟩
  obtain ⟨y, hy⟩ : ∃ y, nextS s.stops s.after s.dead = y := ⟨_, rfl⟩
  obtain ⟨y0, y1, y2⟩ := y
  rw [hy] at hnx HEND HDD
  rw [hx0] at hnx c0
  rw [hx1] at hnx c1
  rw [hx2] at hnx c2
  simp only at hnx HEND HDD
  clear hblk hend hst hdd hnd hlo hx0 hx1 hx2 hy h
  go_enter Try.func46, Try.ntmps46
  go_upto_region 4 with (go_at_call 65; (with_reducible refine hnx.mono ?_); clear hnx; rintro e w2 ⟨rfl, hb2⟩; have hb2k := hb2.block _ hpl; have b2 := hb2k.trans HBLK.out; have d0 := cell_of_heap b2 0; have d1 := cell_of_heap b2 1; have d2 := cell_of_heap b2 2; have f0 := frozen_of_heap b2 0; have f1 := frozen_of_heap b2 1; have f2 := frozen_of_heap b2 2; simp only [List.getElem?_toArray, List.getElem?_cons_succ, List.getElem?_cons_zero] at d0 d1 d2; clear hb2k)
  obtain ⟨W1, hW1⟩ : ∃ W1, set3 w2 p (.bool y0) (.int .i64 y1) (.bool y2) = W1 := ⟨_, rfl⟩
  have hD1 := HEND.out w2 hb2
  rw [hW1] at hD1
  have hbt : But (DMay p Mb) w W1 := by
    rw [← hW1]
    exact ((But.refl _ w).trans (But.of_below hb2) (fun b h1 h2 => by omega)).trans (set3_but w2 p Mb _ _ _) (fun b _ e => e)
  have hd1 := hD1.blk
  have e2 := cell_of_heap hd1 2
  simp only [List.getElem?_toArray, List.getElem?_cons_succ, List.getElem?_cons_zero] at e2
  rw [HDD.out] at e2
  unfold set3 at hW1
  rw [hW1]
  have HD1 := Lib.hid hD1
  have HBT := Lib.hid hbt
  clear hD1 hbt hd1 hb2 b2 d0 d1 d2 f0 f1 f2 hW1 HEND HBLK c0 c1 c2
  cases y2 with
  | true =>
    go_wp2
    go_ret
    exact .inl ⟨HDD.out, rfl, HD1.out, HBT.out⟩
  | false =>
    have hs := HST.out HDD.out W1 HD1.out HBT.out
    clear HST
    go_wp2_with (go_at_call 48; (with_reducible refine hs.mono ?_); rintro e w3 ⟨rfl, hq⟩)
    go_ret
    exact .inr ⟨HDD.out, rfl, hq⟩
set_option maxRecDepth 100000 in
set_option maxHeartbeats 1000000 in
theorem Sm.do_49 {p Mb base : Nat} {s : DSt} {G : List FileM} (caps : Array Value) (w : World) (h : DAt w p Mb base s G) (Q : World → Prop)
    (hst : (nextD s).dead = false → ∀ W, DAt W p Mb base (nextD s) G → But (DMay p Mb) w W → Calls Try.prog 49 caps W fun e w' => e = .returned (.tuple #[]) ∧ Q w') :
    Calls Try.prog 46 #[.pointer (some ⟨p, 0, none⟩), .int .i64 0, .func (.func 49) #[] caps] w fun e w' => ((nextD s).dead = true ∧ e = .returned (.int .i64 172) ∧ DAt w' p Mb base (nextD s) G ∧ But (DMay p Mb) w w') ∨ ((nextD s).dead = false ∧ e = .returned (.int .i64 0) ∧ Q w') := by
  have hblk := h.blk
  have hnx := next_any s.stops s.after s.dead w h.aft.1 h.aft.2
  have hlo := nextS_lo (s := s.stops) (d := s.dead) h.aft
  have hend := fun W hb => DAt.end3 (h.keep (W' := W) hb) (nextS s.stops s.after s.dead).1 (nextS s.stops s.after s.dead).2.1 (nextS s.stops s.after s.dead).2.2 hlo
  have hnd : (⟨(nextS s.stops s.after s.dead).1, (nextS s.stops s.after s.dead).2.1, (nextS s.stops s.after s.dead).2.2, s.room⟩ : DSt) = nextD s := rfl
  simp only [hnd] at hend
  have hdd : (nextD s).dead = (nextS s.stops s.after s.dead).2.2 := rfl
  have hpl := (Array.getElem?_eq_some_iff.1 hblk).1
  have c0 := cell_of_heap hblk 0
  have c1 := cell_of_heap hblk 1
  have c2 := cell_of_heap hblk 2
  simp only [List.getElem?_toArray, List.getElem?_cons_succ, List.getElem?_cons_zero] at c0 c1 c2
  have HBLK := Lib.hid hblk
  have HEND := Lib.hid hend
  have HST := Lib.hid hst
  have HDD := Lib.hid hdd
  obtain ⟨x0, hx0⟩ : ∃ x, s.stops = x := ⟨_, rfl⟩
  obtain ⟨x1, hx1⟩ : ∃ x, s.after = x := ⟨_, rfl⟩
  obtain ⟨x2, hx2⟩ : ∃ x, s.dead = x := ⟨_, rfl⟩
  obtain ⟨y, hy⟩ : ∃ y, nextS s.stops s.after s.dead = y := ⟨_, rfl⟩
  obtain ⟨y0, y1, y2⟩ := y
  rw [hy] at hnx HEND HDD
  rw [hx0] at hnx c0
  rw [hx1] at hnx c1
  rw [hx2] at hnx c2
  simp only at hnx HEND HDD
  clear hblk hend hst hdd hnd hlo hx0 hx1 hx2 hy h
  go_enter Try.func46, Try.ntmps46
  go_upto_region 4 with (go_at_call 65; (with_reducible refine hnx.mono ?_); clear hnx; rintro e w2 ⟨rfl, hb2⟩; have hb2k := hb2.block _ hpl; have b2 := hb2k.trans HBLK.out; have d0 := cell_of_heap b2 0; have d1 := cell_of_heap b2 1; have d2 := cell_of_heap b2 2; have f0 := frozen_of_heap b2 0; have f1 := frozen_of_heap b2 1; have f2 := frozen_of_heap b2 2; simp only [List.getElem?_toArray, List.getElem?_cons_succ, List.getElem?_cons_zero] at d0 d1 d2; clear hb2k)
  obtain ⟨W1, hW1⟩ : ∃ W1, set3 w2 p (.bool y0) (.int .i64 y1) (.bool y2) = W1 := ⟨_, rfl⟩
  have hD1 := HEND.out w2 hb2
  rw [hW1] at hD1
  have hbt : But (DMay p Mb) w W1 := by
    rw [← hW1]
    exact ((But.refl _ w).trans (But.of_below hb2) (fun b h1 h2 => by omega)).trans (set3_but w2 p Mb _ _ _) (fun b _ e => e)
  have hd1 := hD1.blk
  have e2 := cell_of_heap hd1 2
  simp only [List.getElem?_toArray, List.getElem?_cons_succ, List.getElem?_cons_zero] at e2
  rw [HDD.out] at e2
  unfold set3 at hW1
  rw [hW1]
  have HD1 := Lib.hid hD1
  have HBT := Lib.hid hbt
  clear hD1 hbt hd1 hb2 b2 d0 d1 d2 f0 f1 f2 hW1 HEND HBLK c0 c1 c2
  cases y2 with
  | true =>
    go_wp2
    go_ret
    exact .inl ⟨HDD.out, rfl, HD1.out, HBT.out⟩
  | false =>
    have hs := HST.out HDD.out W1 HD1.out HBT.out
    clear HST
    go_wp2_with (go_at_call 49; (with_reducible refine hs.mono ?_); rintro e w3 ⟨rfl, hq⟩)
    go_ret
    exact .inr ⟨HDD.out, rfl, hq⟩
set_option maxRecDepth 100000 in
set_option maxHeartbeats 1000000 in
theorem Sm.do_50 {p Mb base : Nat} {s : DSt} {G : List FileM} (caps : Array Value) (w : World) (h : DAt w p Mb base s G) (Q : World → Prop)
    (hst : (nextD s).dead = false → ∀ W, DAt W p Mb base (nextD s) G → But (DMay p Mb) w W → Calls Try.prog 50 caps W fun e w' => e = .returned (.tuple #[]) ∧ Q w') :
    Calls Try.prog 46 #[.pointer (some ⟨p, 0, none⟩), .int .i64 0, .func (.func 50) #[] caps] w fun e w' => ((nextD s).dead = true ∧ e = .returned (.int .i64 172) ∧ DAt w' p Mb base (nextD s) G ∧ But (DMay p Mb) w w') ∨ ((nextD s).dead = false ∧ e = .returned (.int .i64 0) ∧ Q w') := by
  have hblk := h.blk
  have hnx := next_any s.stops s.after s.dead w h.aft.1 h.aft.2
  have hlo := nextS_lo (s := s.stops) (d := s.dead) h.aft
  have hend := fun W hb => DAt.end3 (h.keep (W' := W) hb) (nextS s.stops s.after s.dead).1 (nextS s.stops s.after s.dead).2.1 (nextS s.stops s.after s.dead).2.2 hlo
  have hnd : (⟨(nextS s.stops s.after s.dead).1, (nextS s.stops s.after s.dead).2.1, (nextS s.stops s.after s.dead).2.2, s.room⟩ : DSt) = nextD s := rfl
  simp only [hnd] at hend
  have hdd : (nextD s).dead = (nextS s.stops s.after s.dead).2.2 := rfl
  have hpl := (Array.getElem?_eq_some_iff.1 hblk).1
  have c0 := cell_of_heap hblk 0
  have c1 := cell_of_heap hblk 1
  have c2 := cell_of_heap hblk 2
  simp only [List.getElem?_toArray, List.getElem?_cons_succ, List.getElem?_cons_zero] at c0 c1 c2
  have HBLK := Lib.hid hblk
  have HEND := Lib.hid hend
  have HST := Lib.hid hst
  have HDD := Lib.hid hdd
  obtain ⟨x0, hx0⟩ : ∃ x, s.stops = x := ⟨_, rfl⟩
  obtain ⟨x1, hx1⟩ : ∃ x, s.after = x := ⟨_, rfl⟩
  obtain ⟨x2, hx2⟩ : ∃ x, s.dead = x := ⟨_, rfl⟩
  obtain ⟨y, hy⟩ : ∃ y, nextS s.stops s.after s.dead = y := ⟨_, rfl⟩
  obtain ⟨y0, y1, y2⟩ := y
  rw [hy] at hnx HEND HDD
  rw [hx0] at hnx c0
  rw [hx1] at hnx c1
  rw [hx2] at hnx c2
  simp only at hnx HEND HDD
  clear hblk hend hst hdd hnd hlo hx0 hx1 hx2 hy h
  go_enter Try.func46, Try.ntmps46
  go_upto_region 4 with (go_at_call 65; (with_reducible refine hnx.mono ?_); clear hnx; rintro e w2 ⟨rfl, hb2⟩; have hb2k := hb2.block _ hpl; have b2 := hb2k.trans HBLK.out; have d0 := cell_of_heap b2 0; have d1 := cell_of_heap b2 1; have d2 := cell_of_heap b2 2; have f0 := frozen_of_heap b2 0; have f1 := frozen_of_heap b2 1; have f2 := frozen_of_heap b2 2; simp only [List.getElem?_toArray, List.getElem?_cons_succ, List.getElem?_cons_zero] at d0 d1 d2; clear hb2k)
  obtain ⟨W1, hW1⟩ : ∃ W1, set3 w2 p (.bool y0) (.int .i64 y1) (.bool y2) = W1 := ⟨_, rfl⟩
  have hD1 := HEND.out w2 hb2
  rw [hW1] at hD1
  have hbt : But (DMay p Mb) w W1 := by
    rw [← hW1]
    exact ((But.refl _ w).trans (But.of_below hb2) (fun b h1 h2 => by omega)).trans (set3_but w2 p Mb _ _ _) (fun b _ e => e)
  have hd1 := hD1.blk
  have e2 := cell_of_heap hd1 2
  simp only [List.getElem?_toArray, List.getElem?_cons_succ, List.getElem?_cons_zero] at e2
  rw [HDD.out] at e2
  unfold set3 at hW1
  rw [hW1]
  have HD1 := Lib.hid hD1
  have HBT := Lib.hid hbt
  clear hD1 hbt hd1 hb2 b2 d0 d1 d2 f0 f1 f2 hW1 HEND HBLK c0 c1 c2
  cases y2 with
  | true =>
    go_wp2
    go_ret
    exact .inl ⟨HDD.out, rfl, HD1.out, HBT.out⟩
  | false =>
    have hs := HST.out HDD.out W1 HD1.out HBT.out
    clear HST
    go_wp2_with (go_at_call 50; (with_reducible refine hs.mono ?_); rintro e w3 ⟨rfl, hq⟩)
    go_ret
    exact .inr ⟨HDD.out, rfl, hq⟩
set_option maxRecDepth 100000 in
set_option maxHeartbeats 1000000 in
theorem Sm.do_52 {p Mb base : Nat} {s : DSt} {G : List FileM} (caps : Array Value) (w : World) (h : DAt w p Mb base s G) (Q : World → Prop)
    (hst : (nextD s).dead = false → ∀ W, DAt W p Mb base (nextD s) G → But (DMay p Mb) w W → Calls Try.prog 52 caps W fun e w' => e = .returned (.tuple #[]) ∧ Q w') :
    Calls Try.prog 46 #[.pointer (some ⟨p, 0, none⟩), .int .i64 0, .func (.func 52) #[] caps] w fun e w' => ((nextD s).dead = true ∧ e = .returned (.int .i64 172) ∧ DAt w' p Mb base (nextD s) G ∧ But (DMay p Mb) w w') ∨ ((nextD s).dead = false ∧ e = .returned (.int .i64 0) ∧ Q w') := by
  have hblk := h.blk
  have hnx := next_any s.stops s.after s.dead w h.aft.1 h.aft.2
  have hlo := nextS_lo (s := s.stops) (d := s.dead) h.aft
  have hend := fun W hb => DAt.end3 (h.keep (W' := W) hb) (nextS s.stops s.after s.dead).1 (nextS s.stops s.after s.dead).2.1 (nextS s.stops s.after s.dead).2.2 hlo
  have hnd : (⟨(nextS s.stops s.after s.dead).1, (nextS s.stops s.after s.dead).2.1, (nextS s.stops s.after s.dead).2.2, s.room⟩ : DSt) = nextD s := rfl
  simp only [hnd] at hend
  have hdd : (nextD s).dead = (nextS s.stops s.after s.dead).2.2 := rfl
  have hpl := (Array.getElem?_eq_some_iff.1 hblk).1
  have c0 := cell_of_heap hblk 0
  have c1 := cell_of_heap hblk 1
  have c2 := cell_of_heap hblk 2
  simp only [List.getElem?_toArray, List.getElem?_cons_succ, List.getElem?_cons_zero] at c0 c1 c2
  have HBLK := Lib.hid hblk
  have HEND := Lib.hid hend
  have HST := Lib.hid hst
  have HDD := Lib.hid hdd
  obtain ⟨x0, hx0⟩ : ∃ x, s.stops = x := ⟨_, rfl⟩
  obtain ⟨x1, hx1⟩ : ∃ x, s.after = x := ⟨_, rfl⟩
  obtain ⟨x2, hx2⟩ : ∃ x, s.dead = x := ⟨_, rfl⟩
  obtain ⟨y, hy⟩ : ∃ y, nextS s.stops s.after s.dead = y := ⟨_, rfl⟩
  obtain ⟨y0, y1, y2⟩ := y
  rw [hy] at hnx HEND HDD
  rw [hx0] at hnx c0
  rw [hx1] at hnx c1
  rw [hx2] at hnx c2
  simp only at hnx HEND HDD
  clear hblk hend hst hdd hnd hlo hx0 hx1 hx2 hy h
  go_enter Try.func46, Try.ntmps46
  go_upto_region 4 with (go_at_call 65; (with_reducible refine hnx.mono ?_); clear hnx; rintro e w2 ⟨rfl, hb2⟩; have hb2k := hb2.block _ hpl; have b2 := hb2k.trans HBLK.out; have d0 := cell_of_heap b2 0; have d1 := cell_of_heap b2 1; have d2 := cell_of_heap b2 2; have f0 := frozen_of_heap b2 0; have f1 := frozen_of_heap b2 1; have f2 := frozen_of_heap b2 2; simp only [List.getElem?_toArray, List.getElem?_cons_succ, List.getElem?_cons_zero] at d0 d1 d2; clear hb2k)
  obtain ⟨W1, hW1⟩ : ∃ W1, set3 w2 p (.bool y0) (.int .i64 y1) (.bool y2) = W1 := ⟨_, rfl⟩
  have hD1 := HEND.out w2 hb2
  rw [hW1] at hD1
  have hbt : But (DMay p Mb) w W1 := by
    rw [← hW1]
    exact ((But.refl _ w).trans (But.of_below hb2) (fun b h1 h2 => by omega)).trans (set3_but w2 p Mb _ _ _) (fun b _ e => e)
  have hd1 := hD1.blk
  have e2 := cell_of_heap hd1 2
  simp only [List.getElem?_toArray, List.getElem?_cons_succ, List.getElem?_cons_zero] at e2
  rw [HDD.out] at e2
  unfold set3 at hW1
  rw [hW1]
  have HD1 := Lib.hid hD1
  have HBT := Lib.hid hbt
  clear hD1 hbt hd1 hb2 b2 d0 d1 d2 f0 f1 f2 hW1 HEND HBLK c0 c1 c2
  cases y2 with
  | true =>
    go_wp2
    go_ret
    exact .inl ⟨HDD.out, rfl, HD1.out, HBT.out⟩
  | false =>
    have hs := HST.out HDD.out W1 HD1.out HBT.out
    clear HST
    go_wp2_with (go_at_call 52; (with_reducible refine hs.mono ?_); rintro e w3 ⟨rfl, hq⟩)
    go_ret
    exact .inr ⟨HDD.out, rfl, hq⟩
end Go.Proofs
