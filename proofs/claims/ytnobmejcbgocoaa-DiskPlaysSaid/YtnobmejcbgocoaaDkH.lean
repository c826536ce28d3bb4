/-
  The steps: append, sync, cut, remove, rename. Conditions: as each theorem names them.
-/
import Derived.Test.YtnobmejcbgocoaaDkG
namespace Go.Proofs
open Go Go.RowKit Sm Go.Lib Go.Maps Go.WideMaps
attribute [local go_sem] Oper.semAt_some
/-- what a step holds: where the disk is, the name, a file -/
structure Sm.Caps (W : World) (p bd bn bf base : Nat) (x : ByteArray) (f : FileM) : Prop where
  d : W.heap[bd]? = some (.cells #[.pointer (some ⟨p, 0, none⟩)] 25 (0, 0))
  n : W.heap[bn]? = some (.cells #[.string x] 9 (0, 0))
  f : W.heap[bf]? = some (.cells #[f.sl, .int .i64 (f.sure : Int)] 79 (0, 0))
  lo : base ≤ bd ∧ base ≤ bn ∧ base ≤ bf
theorem Sm.Caps.keep {W W' : World} {p bd bn bf base : Nat} {x : ByteArray} {f : FileM} (h : Caps W p bd bn bf base x f) {S : Nat → Prop} (hb : But S W W') (hS : ∀ b, S b → b < base) : Caps W' p bd bn bf base x f :=
  ⟨hb.box h.d (fun e => by have := hS _ e; have := h.lo; omega), hb.box h.n (fun e => by have := hS _ e; have := h.lo; omega), hb.box h.f (fun e => by have := hS _ e; have := h.lo; omega), h.lo⟩
theorem Sm.Caps.cells {W : World} {p bd bn bf base : Nat} {x : ByteArray} {f : FileM} (h : Caps W p bd bn bf base x f) : W.cell? ⟨bd, 0, none⟩ = some (.pointer (some ⟨p, 0, none⟩)) ∧ W.cell? ⟨bn, 0, none⟩ = some (.string x) ∧ W.cell? ⟨bf, 0, none⟩ = some (.slice f.A f.bytes.length f.c) ∧ W.cell? ⟨bf, 1, none⟩ = some (.int .i64 (f.sure : Int)) :=
  ⟨cell_of_heap h.d 0, cell_of_heap h.n 0, cell_of_heap h.f 0, cell_of_heap h.f 1⟩
def Sm.syncF (f : FileM) : FileM := { f with sure := f.bytes.length }
set_option maxRecDepth 100000 in
set_option maxHeartbeats 1000000 in
theorem Sm.step_48 {p Mb base bd bn bf : Nat} {s : DSt} {G : List FileM} (x : ByteArray) (f : FileM) (w : World) (h : DAt w p Mb base s G) (hc : Caps w p bd bn bf base x f) (hxz : x.size ≤ 1000000) (hf : f ∈ G) (hn : f.name = strL x) (hGl : G.length ≤ 1000000) :
    Calls Try.prog 48 #[.pointer (some ⟨bd, 0, none⟩), .pointer (some ⟨bn, 0, none⟩), .pointer (some ⟨bf, 0, none⟩)] w fun e w' => e = .returned (.tuple #[]) ∧ DAt w' p Mb base s (putG (syncF f) G) ∧ But (DMay p Mb) w w' := by
  have hlow := h.low
  have hS : ∀ W, But (DMay p Mb) w W → W.cell? ⟨bd, 0, none⟩ = some (.pointer (some ⟨p, 0, none⟩)) ∧ W.cell? ⟨bn, 0, none⟩ = some (.string x) ∧ W.cell? ⟨bf, 0, none⟩ = some (.slice f.A f.bytes.length f.c) ∧ W.cell? ⟨bf, 1, none⟩ = some (.int .i64 (f.sure : Int)) := fun W hb => (hc.keep hb (fun b e => by rcases e with e | e <;> omega)).cells
  have hset : ∀ W, Below w.heap.size w W → Calls Try.prog 41 #[.pointer (some ⟨p, 0, none⟩), .string x, .agg #[.slice f.A f.bytes.length f.c, .int .i64 (f.bytes.length : Int)]] W fun e w' => e = .returned (.tuple #[]) ∧ DAt w' p Mb base s (putG (syncF f) G) ∧ But (DMay p Mb) W w' := fun W hb => by
    have hk := h.keep hb
    have hu := used_del h.sort hf hn
    have hr := h.room_
    refine set_any x (syncF f) W hk hxz hn (hk.row f hf) (fun g hg hne b e1 => h.sep f hf g hg (fun e => hne e.symm) b e1) ?_ ⟨(h.ok f hf).1, Nat.le_refl _⟩ hGl
    show ((usedG (delG f.name G) : Int) + (f.bytes.length : Int)) ≤ s.room
    rw [hn]
    omega
  have hsy := fun W => synced_any (n := f.bytes.length) (c := f.c) f.A (f.sure : Int) W
  have q0 := hS w (But.refl _ w)
  have HS := Lib.hid hS
  have HSET := Lib.hid hset
  have HSY := Lib.hid hsy
  obtain ⟨A, hA⟩ : ∃ A, f.A = A := ⟨_, rfl⟩
  obtain ⟨n, hN⟩ : ∃ n, f.bytes.length = n := ⟨_, rfl⟩
  obtain ⟨c, hC⟩ : ∃ c, f.c = c := ⟨_, rfl⟩
  obtain ⟨sv, hsv⟩ : ∃ sv, f.sure = sv := ⟨_, rfl⟩
  rw [hA, hN, hC] at HSET
  rw [hA, hN, hC, hsv] at q0 HS HSY
  clear hS hset hsy h hc hn hA hN hC hsv
  go_enter Try.func48, Try.ntmps48
  go_upto_region 0 with fail
  go_region_held_law (fun W => W.cell? ⟨bd, 0, none⟩ = some (.pointer (some ⟨p, 0, none⟩)) ∧ W.cell? ⟨bn, 0, none⟩ = some (.string x) ∧ W.cell? ⟨bf, 0, none⟩ = some (.slice A n c) ∧ W.cell? ⟨bf, 1, none⟩ = some (.int .i64 (sv : Int)))
    (first | exact q2 | exact q1 | exact q0)
    (first | (go_at_call 44; (with_reducible refine (HSY.out _).mono ?_); rintro e w4 ⟨rfl, hb4⟩; have HB4 : Hid (Below w.heap.size w w4) := Lib.hid ((Below.refl _ _).drew.trans hb4); have q1 := HS.out w4 (But.of_all HB4.out _); clear hb4)
           | (go_at_call 41; (with_reducible refine (HSET.out _ HB4.out).mono ?_); rintro e w5 ⟨rfl, hD5, hb5⟩; have HB5 : Hid (But (DMay p Mb) w w5) := Lib.hid ((But.of_all HB4.out _).trans hb5 (fun b _ e => e)); have q2 := HS.out w5 HB5.out; have HD5 := Lib.hid hD5; clear hb5 hD5))
  all_goals
    go_end0
    exact ⟨rfl, HD5.out, HB5.out⟩
/-- a step done, or the disk dead -/
def Sm.Done (w w' : World) (p Mb base : Nat) (s : DSt) (G G2 : List FileM) (er : Int) : Prop :=
  ((nextD s).dead = true ∧ er = 172 ∧ DAt w' p Mb base (nextD s) G ∧ But (DMay p Mb) w w') ∨ ((nextD s).dead = false ∧ er = 0 ∧ DAt w' p Mb base (nextD s) G2 ∧ But (DMay p Mb) w w')
theorem Sm.boxes (w : World) (p : Nat) (x : ByteArray) : ∃ w2, (w.alloc (.cells #[.pointer (some ⟨p, 0, none⟩)] 25)).alloc (.cells #[.string x] 9) = w2 ∧ Below w.heap.size w w2 ∧ w2.heap.size = w.heap.size + 2 ∧
    w2.heap[w.heap.size]? = some (.cells #[.pointer (some ⟨p, 0, none⟩)] 25 (0, 0)) ∧ w2.heap[w.heap.size + 1]? = some (.cells #[.string x] 9 (0, 0)) := by
  refine ⟨_, rfl, ((Below.refl _ w).alloc (Nat.le_refl _) _).alloc (by simp) _, by simp, ?_, ?_⟩
  · exact (Below.heap_alloc _ _ _ (by simp)).trans (World.alloc_heap_new w _)
  · have := World.alloc_heap_new (w.alloc (.cells #[.pointer (some ⟨p, 0, none⟩)] 25)) (.cells #[.string x] 9)
    rwa [World.size_alloc] at this
theorem Sm.boxed {w w2 w3 w4 : World} {p : Nat} {x : ByteArray} {v u : Value} (hb2 : Below w.heap.size w w2) (hs2 : w2.heap.size = w.heap.size + 2) (hd : w2.heap[w.heap.size]? = some (.cells #[.pointer (some ⟨p, 0, none⟩)] 25 (0, 0))) (hn : w2.heap[w.heap.size + 1]? = some (.cells #[.string x] 9 (0, 0)))
    (hb3 : Below w2.heap.size w2 w3) (hw4 : w3.alloc (.cells #[v, u] 79) = w4) : Below w.heap.size w w4 ∧ w4.heap[w.heap.size]? = some (.cells #[.pointer (some ⟨p, 0, none⟩)] 25 (0, 0)) ∧ w4.heap[w.heap.size + 1]? = some (.cells #[.string x] 9 (0, 0)) ∧ w4.heap[w3.heap.size]? = some (.cells #[v, u] 79 (0, 0)) := by
  have h1 : Below w.heap.size w w3 := hb2.trans (hb3.mono hb2.size)
  have h2 : Below w3.heap.size w3 w4 := by rw [← hw4]; exact (Below.refl _ w3).alloc (Nat.le_refl _) _
  have h3 := hb3.size
  refine ⟨h1.trans (h2.mono h1.size), ?_, ?_, ?_⟩
  · rw [h2.block _ (by omega), hb3.block _ (by omega), hd]
  · rw [h2.block _ (by omega), hb3.block _ (by omega), hn]
  · rw [← hw4]
    exact World.alloc_heap_new w3 _
set_option maxRecDepth 100000 in
set_option maxHeartbeats 1000000 in
theorem Sm.sync_any {p Mb base : Nat} {s : DSt} {G : List FileM} (x : ByteArray) (w : World) (h : DAt w p Mb base s G) (hxz : x.size ≤ 1000000) (hGl : G.length ≤ 1000000) :
    Calls Try.prog 17 #[.pointer (some ⟨p, 0, none⟩), .string x] w fun e w' => ∃ v why er, e = .returned (.int .i64 er) ∧ findV G x v why ∧ ((why ≠ 0 ∧ er = why ∧ DAt w' p Mb base s G ∧ Below w.heap.size w w') ∨ ∃ f ∈ G, f.name = strL x ∧ v = f.val ∧ why = 0 ∧ Done w w' p Mb base s G (putG (syncF f) G) er) := by
  have hlow := h.low
  obtain ⟨w2, hw2, hb2, hs2, hd2, hn2⟩ := boxes w p x
  have hf := find_one x w2 (h.keep hb2) hxz
  have c1 := cell_of_heap hd2 0
  have c2 := cell_of_heap hn2 0
  simp only [List.getElem?_toArray, List.getElem?_cons_zero] at c1 c2
  have HB2 := Lib.hid hb2
  have HD2 := Lib.hid hd2
  have HN2 := Lib.hid hn2
  have HS2 := Lib.hid hs2
  have H := Lib.hid h
  have HW2 := Lib.hid hw2
  clear hb2 hd2 hn2 hs2 h
  go_enter Try.func17, Try.ntmps17
  go_upto_region 2 with (go_at_call 36; (with_reducible refine hf.mono ?_); clear hf; rintro e w3 ⟨v, er, rfl, hfv, hb3⟩; obtain ⟨A, n, c, sv, rfl⟩ := findV_parts hfv)
  obtain ⟨w4, hw4⟩ : ∃ w4, w3.alloc (.cells #[.slice A n c, .int .i64 sv] 79) = w4 := ⟨_, rfl⟩
  obtain ⟨hb4, hd4, hn4, hx4⟩ := boxed HB2.out HS2.out HD2.out HN2.out hb3 hw4
  rw [hw4]
  have c4 := cell_of_heap hd4 0
  simp only [List.getElem?_toArray, List.getElem?_cons_zero] at c4
  have hs3 : w.heap.size ≤ w3.heap.size := Nat.le_trans HB2.out.size hb3.size
  have hbl : base ≤ w3.heap.size := Nat.le_trans hlow.2.2.2 hs3
  have HB4 := Lib.hid hb4
  have HD4 := Lib.hid hd4
  have HN4 := Lib.hid hn4
  have HX4 := Lib.hid hx4
  have HV := Lib.hid hfv
  clear hb4 hd4 hn4 hx4 hfv hb3 hw4 hw2 c1 c2 HW2
  by_cases he : er = 0
  · subst he
    obtain ⟨f, hfm, hfn, hfv⟩ : ∃ f ∈ G, f.name = strL x ∧ (Value.agg #[.slice A n c, .int .i64 sv]) = f.val := by
      rcases HV.out with ⟨_, _, h0⟩ | ⟨_, _, _, h0⟩ | ⟨_, f, h1, h2, h3, _⟩
      · exact absurd h0 (by decide)
      · exact absurd h0 (by decide)
      · exact ⟨f, h1, h2, h3⟩
    have hcap : Caps w4 p w.heap.size (w.heap.size + 1) w3.heap.size base x f := by
      refine ⟨HD4.out, HN4.out, ?_, by omega⟩
      rw [HX4.out]
      unfold FileM.val at hfv
      injection hfv with e
      rw [e]
    have hdo := do_48 #[.pointer (some ⟨w.heap.size, 0, none⟩), .pointer (some ⟨w.heap.size + 1, 0, none⟩), .pointer (some ⟨w3.heap.size, 0, none⟩)] w4 (H.out.keep HB4.out) (fun w' => DAt w' p Mb base (nextD s) (putG (syncF f) G) ∧ But (DMay p Mb) w4 w')
      (fun _ W hD hb => (step_48 x f W hD (hcap.keep hb (fun b e => by rcases e with e | e <;> omega)) hxz hfm hfn hGl).mono (by rintro e w' ⟨rfl, h1, h2⟩; exact ⟨rfl, h1, hb.trans h2 (fun b _ e => e)⟩))
    clear hcap
    go_wp2_with (go_at_call 46; (with_reducible refine hdo.mono ?_); clear hdo; rintro e w5 (⟨hd, rfl, hD5, hb5⟩ | ⟨hd, rfl, hD5, hb5⟩))
    · go_ret
      exact ⟨_, 0, 172, rfl, HV.out, .inr ⟨f, hfm, hfn, hfv, rfl, .inl ⟨hd, rfl, hD5, (But.of_all HB4.out _).trans hb5 (fun b _ e => e)⟩⟩⟩
    · go_ret
      exact ⟨_, 0, 0, rfl, HV.out, .inr ⟨f, hfm, hfn, hfv, rfl, .inr ⟨hd, rfl, hD5, (But.of_all HB4.out _).trans hb5 (fun b _ e => e)⟩⟩⟩
  · have hdo := do_why (.pointer (some ⟨p, 0, none⟩)) (.func (.func 48) #[] #[.pointer (some ⟨w.heap.size, 0, none⟩), .pointer (some ⟨w.heap.size + 1, 0, none⟩), .pointer (some ⟨w3.heap.size, 0, none⟩)]) er he w4
    go_wp2_with (go_at_call 46; (with_reducible refine hdo.mono ?_); clear hdo; rintro e w5 ⟨rfl, rfl⟩)
    go_ret
    exact ⟨_, er, er, rfl, HV.out, .inl ⟨he, rfl, H.out.keep HB4.out, HB4.out⟩⟩
theorem Sm.step_50 {p Mb base bd bn : Nat} {s : DSt} {G : List FileM} (x : ByteArray) (w : World) (h : DAt w p Mb base s G) (c1 : w.cell? ⟨bd, 0, none⟩ = some (.pointer (some ⟨p, 0, none⟩))) (c2 : w.cell? ⟨bn, 0, none⟩ = some (.string x)) (hxz : x.size ≤ 1000000) :
    Calls Try.prog 50 #[.pointer (some ⟨bd, 0, none⟩), .pointer (some ⟨bn, 0, none⟩)] w fun e w' => e = .returned (.tuple #[]) ∧ DAt w' p Mb base s (delG (strL x) G) ∧ But (DMay p Mb) w w' := by
  have hun := unset_any x w h hxz
  clear h
  go_enter Try.func50, Try.ntmps50
  go_wp2_with (go_at_call 51; (with_reducible refine hun.mono ?_); clear hun; rintro e w2 ⟨rfl, hD2, hbt2⟩)
  go_end0
  exact ⟨rfl, hD2, hbt2⟩
set_option maxRecDepth 100000 in
set_option maxHeartbeats 1000000 in
theorem Sm.remove_any {p Mb base : Nat} {s : DSt} {G : List FileM} (x : ByteArray) (w : World) (h : DAt w p Mb base s G) (hxz : x.size ≤ 1000000) :
    Calls Try.prog 19 #[.pointer (some ⟨p, 0, none⟩), .string x] w fun e w' => ∃ v why er, e = .returned (.int .i64 er) ∧ findV G x v why ∧ ((why ≠ 0 ∧ er = why ∧ DAt w' p Mb base s G ∧ Below w.heap.size w w') ∨ ∃ f ∈ G, f.name = strL x ∧ v = f.val ∧ why = 0 ∧ Done w w' p Mb base s G (delG (strL x) G) er) := by
  have hlow := h.low
  obtain ⟨w2, hw2, hb2, hs2, hd2, hn2⟩ := boxes w p x
  have hf := find_one x w2 (h.keep hb2) hxz
  have c1 := cell_of_heap hd2 0
  have c2 := cell_of_heap hn2 0
  simp only [List.getElem?_toArray, List.getElem?_cons_zero] at c1 c2
  have HB2 := Lib.hid hb2
  have HD2 := Lib.hid hd2
  have HN2 := Lib.hid hn2
  have HS2 := Lib.hid hs2
  have H := Lib.hid h
  have HW2 := Lib.hid hw2
  clear hb2 hd2 hn2 hs2 h
  go_enter Try.func19, Try.ntmps19
  go_upto_region 2 with (go_at_call 36; (with_reducible refine hf.mono ?_); clear hf; rintro e w3 ⟨v, er, rfl, hfv, hb3⟩; obtain ⟨A, n, c, sv, rfl⟩ := findV_parts hfv)
  obtain ⟨w4, hw4⟩ : ∃ w4, w3.alloc (.cells #[.slice A n c, .int .i64 sv] 79) = w4 := ⟨_, rfl⟩
  obtain ⟨hb4, hd4, hn4, hx4⟩ := boxed HB2.out HS2.out HD2.out HN2.out hb3 hw4
  rw [hw4]
  have c4 := cell_of_heap hd4 0
  simp only [List.getElem?_toArray, List.getElem?_cons_zero] at c4
  have hs3 : w.heap.size ≤ w3.heap.size := Nat.le_trans HB2.out.size hb3.size
  have hbl : base ≤ w3.heap.size := Nat.le_trans hlow.2.2.2 hs3
  have HB4 := Lib.hid hb4
  have HD4 := Lib.hid hd4
  have HN4 := Lib.hid hn4
  have HX4 := Lib.hid hx4
  have HV := Lib.hid hfv
  clear hb4 hd4 hn4 hx4 hfv hb3 hw4 hw2 c1 c2 HW2
  by_cases he : er = 0
  · subst he
    obtain ⟨f, hfm, hfn, hfv⟩ : ∃ f ∈ G, f.name = strL x ∧ (Value.agg #[.slice A n c, .int .i64 sv]) = f.val := by
      rcases HV.out with ⟨_, _, h0⟩ | ⟨_, _, _, h0⟩ | ⟨_, f, h1, h2, h3, _⟩
      · exact absurd h0 (by decide)
      · exact absurd h0 (by decide)
      · exact ⟨f, h1, h2, h3⟩
    have hcap : Caps w4 p w.heap.size (w.heap.size + 1) w3.heap.size base x f := by
      refine ⟨HD4.out, HN4.out, ?_, by omega⟩
      rw [HX4.out]
      unfold FileM.val at hfv
      injection hfv with e
      rw [e]
    have hdo := do_50 #[.pointer (some ⟨w.heap.size, 0, none⟩), .pointer (some ⟨w.heap.size + 1, 0, none⟩)] w4 (H.out.keep HB4.out) (fun w' => DAt w' p Mb base (nextD s) (delG (strL x) G) ∧ But (DMay p Mb) w4 w')
      (fun _ W hD hb => (step_50 x W hD ((hcap.keep hb (fun b e => by rcases e with e | e <;> omega)).cells.1) ((hcap.keep hb (fun b e => by rcases e with e | e <;> omega)).cells.2.1) hxz).mono (by rintro e w' ⟨rfl, h1, h2⟩; exact ⟨rfl, h1, hb.trans h2 (fun b _ e => e)⟩))
    clear hcap
    go_wp2_with (go_at_call 46; (with_reducible refine hdo.mono ?_); clear hdo; rintro e w5 (⟨hd, rfl, hD5, hb5⟩ | ⟨hd, rfl, hD5, hb5⟩))
    · go_ret
      exact ⟨_, 0, 172, rfl, HV.out, .inr ⟨f, hfm, hfn, hfv, rfl, .inl ⟨hd, rfl, hD5, (But.of_all HB4.out _).trans hb5 (fun b _ e => e)⟩⟩⟩
    · go_ret
      exact ⟨_, 0, 0, rfl, HV.out, .inr ⟨f, hfm, hfn, hfv, rfl, .inr ⟨hd, rfl, hD5, (But.of_all HB4.out _).trans hb5 (fun b _ e => e)⟩⟩⟩
  · have hdo := do_why (.pointer (some ⟨p, 0, none⟩)) (.func (.func 50) #[] #[.pointer (some ⟨w.heap.size, 0, none⟩), .pointer (some ⟨w.heap.size + 1, 0, none⟩)]) er he w4
    go_wp2_with (go_at_call 46; (with_reducible refine hdo.mono ?_); clear hdo; rintro e w5 ⟨rfl, rfl⟩)
    go_ret
    exact ⟨_, er, er, rfl, HV.out, .inl ⟨he, rfl, H.out.keep HB4.out, HB4.out⟩⟩
end Go.Proofs
