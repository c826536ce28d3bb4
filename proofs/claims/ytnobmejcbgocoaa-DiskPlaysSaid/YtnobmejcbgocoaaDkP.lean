/-
  A file is called otherwise. Conditions: as each theorem names them.
-/
import Derived.Test.YtnobmejcbgocoaaDkO
namespace Go.Proofs
open Go Go.RowKit Sm Go.Lib Go.Maps Go.WideMaps
attribute [local go_sem] Oper.semAt_some
theorem Sm.row_two (x y : ByteArray) (w : World) : RowT (w.alloc (.cells #[.string x, .string y] 9)) (some ⟨w.heap.size, 0, none⟩) [x, y] :=
  .inr ⟨_, rfl, by simp, fun j hj => by
    have hj2 : j = 0 ∨ j = 1 := by simp at hj; omega
    have hh := World.alloc_heap_new w (.cells #[.string x, .string y] 9)
    rcases hj2 with rfl | rfl
    · exact cell_of_heap hh 0
    · exact cell_of_heap hh 1⟩
/-- what find tells of the first of two names -/
def Sm.findV2 (G : List FileM) (x y : ByteArray) (v : Value) (e : Int) : Prop :=
  ((nameOK (strL x) && nameOK (strL y)) = false ∧ v = zeroF ∧ e = 170) ∨ ((nameOK (strL x) && nameOK (strL y)) = true ∧ (∀ f ∈ G, f.name ≠ strL x) ∧ v = zeroF ∧ e = 5) ∨ ((nameOK (strL x) && nameOK (strL y)) = true ∧ ∃ f ∈ G, f.name = strL x ∧ v = f.val ∧ e = 0)
theorem Sm.findV2_parts {G : List FileM} {x y : ByteArray} {v : Value} {e : Int} (h : findV2 G x y v e) : ∃ A n c sv, v = .agg #[.slice A n c, .int .i64 sv] := by
  rcases h with ⟨_, rfl, _⟩ | ⟨_, _, rfl, _⟩ | ⟨_, f, _, _, rfl, _⟩
  · exact ⟨_, _, _, _, rfl⟩
  · exact ⟨_, _, _, _, rfl⟩
  · exact ⟨_, _, _, _, rfl⟩
theorem Sm.find_two {p Mb base : Nat} {s : DSt} {G : List FileM} (x y : ByteArray) (w : World) (h : DAt w p Mb base s G) (hxz : x.size ≤ 1000000) (hyz : y.size ≤ 1000000) :
    Calls Try.prog 36 #[.pointer (some ⟨p, 0, none⟩), .slice (some ⟨w.heap.size, 0, none⟩) 2 2] (w.alloc (.cells #[.string x, .string y] 9)) fun e w' => ∃ v n, e = .returned (.tuple #[v, .int .i64 n]) ∧ findV2 G x y v n ∧ Below w.heap.size w w' := by
  have hb0 : Below w.heap.size w (w.alloc (.cells #[.string x, .string y] 9)) := (Below.refl _ w).alloc (Nat.le_refl _) _
  have hD := h.keep hb0
  have hr := row_two x y w
  have hs : ∀ z ∈ [x, y], z.size ≤ 1000000 := fun z hz => by
    simp at hz
    rcases hz with rfl | rfl
    · exact hxz
    · exact hyz
  have hck : chkN [x, y] = if (nameOK (strL x) && nameOK (strL y)) = true then 0 else 170 := by unfold chkN; simp
  cases hk : nameOK (strL x) && nameOK (strL y) with
  | false =>
    rw [hk] at hck
    refine (find_bad _ 2 2 [x, y] _ hD hr rfl (Nat.le_refl _) (by omega) hs hck).mono ?_
    rintro e w' ⟨rfl, hb⟩
    exact ⟨_, _, rfl, .inl ⟨hk, rfl, rfl⟩, hb0.trans (hb.mono hb0.size)⟩
  | true =>
    rw [hk] at hck
    by_cases hf : ∃ f ∈ G, f.name = strL x
    · obtain ⟨f, hf, e⟩ := hf
      refine (find_some _ 2 2 x [y] _ hD hr rfl (Nat.le_refl _) (by omega) hs hck hf e.symm).mono ?_
      rintro _ w' ⟨rfl, hb⟩
      exact ⟨_, _, rfl, .inr (.inr ⟨hk, f, hf, e, rfl, rfl⟩), hb0.trans (hb.mono hb0.size)⟩
    · have hno : ∀ f ∈ G, f.name ≠ strL x := fun f h1 h2 => hf ⟨f, h1, h2⟩
      refine (find_none _ 2 2 x [y] _ hD hr rfl (Nat.le_refl _) (by omega) hs hck hno).mono ?_
      rintro _ w' ⟨rfl, hb⟩
      exact ⟨_, _, rfl, .inr (.inl ⟨hk, hno, rfl, rfl⟩), hb0.trans (hb.mono hb0.size)⟩
theorem Sm.used_del_le {nm : List (BitVec 8)} {G : List FileM} (h : SortG G) : usedG (delG nm G) ≤ usedG G := by
  by_cases e : ∃ f ∈ G, f.name = nm
  · obtain ⟨f, hf, e⟩ := e
    have := used_del h hf e
    omega
  · rw [del_none (fun f h1 h2 => e ⟨f, h1, h2⟩)]
    exact Nat.le_refl _
set_option maxRecDepth 100000 in
set_option maxHeartbeats 1000000 in
theorem Sm.step_52 {p Mb base bd bn bt bf : Nat} {s : DSt} {G : List FileM} (x y : ByteArray) (f : FileM) (w : World) (h : DAt w p Mb base s G) (hc : Caps w p bd bn bf base x f) (ht : w.heap[bt]? = some (.cells #[.string y] 9 (0, 0))) (hbt : base ≤ bt) (hxz : x.size ≤ 1000000) (hyz : y.size ≤ 1000000) (hf : f ∈ G) (hn : f.name = strL x) (hok : nameOK (strL y) = true) (hGl : G.length ≤ 1000000) :
    Calls Try.prog 52 #[.pointer (some ⟨bd, 0, none⟩), .pointer (some ⟨bn, 0, none⟩), .pointer (some ⟨bt, 0, none⟩), .pointer (some ⟨bf, 0, none⟩)] w fun e w' => e = .returned (.tuple #[]) ∧ DAt w' p Mb base s (putG { f with name := strL y } (delG (strL x) G)) ∧ But (DMay p Mb) w w' := by
  have hlow := h.low
  have hS : ∀ W, But (DMay p Mb) w W → W.cell? ⟨bd, 0, none⟩ = some (.pointer (some ⟨p, 0, none⟩)) ∧ W.cell? ⟨bn, 0, none⟩ = some (.string x) ∧ W.cell? ⟨bt, 0, none⟩ = some (.string y) ∧ W.cell? ⟨bf, 0, none⟩ = some (.slice f.A f.bytes.length f.c) ∧ W.cell? ⟨bf, 1, none⟩ = some (.int .i64 (f.sure : Int)) := fun W hb => by
    obtain ⟨h1, h2, h3, h4⟩ := (hc.keep hb (fun b e => by rcases e with e | e <;> omega)).cells
    exact ⟨h1, h2, cell_of_heap (hb.box ht (fun e => by rcases e with e | e <;> omega)) 0, h3, h4⟩
  have hun := unset_any x w h hxz
  have hset : ∀ W, DAt W p Mb base s (delG (strL x) G) → But (DMay p Mb) w W → Calls Try.prog 41 #[.pointer (some ⟨p, 0, none⟩), .string y, .agg #[.slice f.A f.bytes.length f.c, .int .i64 (f.sure : Int)]] W fun e w' => e = .returned (.tuple #[]) ∧ DAt w' p Mb base s (putG { f with name := strL y } (delG (strL x) G)) ∧ But (DMay p Mb) W w' := fun W hD hb => by
    have hu := used_del h.sort hf hn
    have hu2 := used_del_le (nm := strL y) hD.sort
    have hr := h.room_
    refine set_any y { f with name := strL y } W hD hyz rfl (hb.row (h.row f hf) (fun g e1 e2 => ?_)) (fun g hg hne b e1 => h.sep f hf g (mem_del.1 hg).1 (fun e => (mem_del.1 hg).2 (by rw [← e, hn])) b e1) ?_ ⟨hok, (h.ok f hf).2⟩ (Nat.le_trans (List.length_filter_le _ _) hGl)
    · have := ((h.row f hf).lt g e1).1
      rcases e2 with e2 | e2 <;> omega
    · show ((usedG (delG (strL y) (delG (strL x) G)) : Int) + (f.bytes.length : Int)) ≤ s.room
      omega
  obtain ⟨q1, q2, q3, q4, q5⟩ := hS w (But.refl _ w)
  have HS := Lib.hid hS
  have HSET := Lib.hid hset
  clear hS hset h hc ht hn
  go_enter Try.func52, Try.ntmps52
  go_upto_region 1 with (go_at_call 51; (with_reducible refine hun.mono ?_); clear hun; rintro e w2 ⟨rfl, hD2, hbt2⟩)
  obtain ⟨r1, r2, r3, r4, r5⟩ := HS.out w2 hbt2
  have hst := HSET.out w2 hD2 hbt2
  have HB2 := Lib.hid hbt2
  clear hbt2 hD2 q1 q2 q3 q4 q5
  go_wp2_with (go_at_call 41; (with_reducible refine hst.mono ?_); clear hst; rintro e w3 ⟨rfl, hD3, hbt3⟩)
  go_end0
  exact ⟨rfl, hD3, HB2.out.trans hbt3 (fun b _ e => e)⟩
set_option maxRecDepth 100000 in
set_option maxHeartbeats 2000000 in
theorem Sm.rename_any {p Mb base : Nat} {s : DSt} {G : List FileM} (x y : ByteArray) (w : World) (h : DAt w p Mb base s G) (hxz : x.size ≤ 1000000) (hyz : y.size ≤ 1000000) (hGl : G.length ≤ 1000000) :
    Calls Try.prog 20 #[.pointer (some ⟨p, 0, none⟩), .string x, .string y] w fun e w' => ∃ v why er, e = .returned (.int .i64 er) ∧ findV2 G x y v why ∧ ((why ≠ 0 ∧ er = why ∧ DAt w' p Mb base s G ∧ Below w.heap.size w w') ∨ ∃ f ∈ G, f.name = strL x ∧ v = f.val ∧ why = 0 ∧ Done w w' p Mb base s G (putG { f with name := strL y } (delG (strL x) G)) er) := by
  have hlow := h.low
  obtain ⟨w2, hw2, hb2, hs2, hd2, hn2, hi2⟩ := boxes3 w p x (.string y) 9
  have hf := find_two x y w2 (h.keep hb2) hxz hyz
  have c1 := cell_of_heap hd2 0
  have c2 := cell_of_heap hn2 0
  have c3 := cell_of_heap hi2 0
  simp only [List.getElem?_toArray, List.getElem?_cons_zero] at c1 c2 c3
  have HB2 := Lib.hid hb2
  have HD2 := Lib.hid hd2
  have HN2 := Lib.hid hn2
  have HI2 := Lib.hid hi2
  have HS2 := Lib.hid hs2
  have H := Lib.hid h
  clear hb2 hd2 hn2 hi2 hs2 h
  go_enter Try.func20, Try.ntmps20
  go_upto_region 2 with (go_at_call 36; (with_reducible refine hf.mono ?_); clear hf; rintro e w3 ⟨v, er, rfl, hfv, hb3⟩; obtain ⟨A, n, c, sv, rfl⟩ := findV2_parts hfv)
  obtain ⟨w4, hw4⟩ : ∃ w4, w3.alloc (.cells #[.slice A n c, .int .i64 sv] 79) = w4 := ⟨_, rfl⟩
  have hb34 : Below w3.heap.size w3 w4 := by rw [← hw4]; exact (Below.refl _ w3).alloc (Nat.le_refl _) _
  have hx4 : w4.heap[w3.heap.size]? = some (.cells #[.slice A n c, .int .i64 sv] 79 (0, 0)) := by rw [← hw4]; exact World.alloc_heap_new w3 _
  have hsz2 := HS2.out
  have hsz3 := hb3.size
  have hb13 : Below w.heap.size w w3 := HB2.out.trans (hb3.mono HB2.out.size)
  have hb4 : Below w.heap.size w w4 := hb13.trans (hb34.mono hb13.size)
  have hd4 := (hb34.block w.heap.size (by omega)).trans ((hb3.block w.heap.size (by omega)).trans HD2.out)
  have hn4 := (hb34.block (w.heap.size + 1) (by omega)).trans ((hb3.block (w.heap.size + 1) (by omega)).trans HN2.out)
  have hi4 := (hb34.block (w.heap.size + 1 + 1) (by omega)).trans ((hb3.block (w.heap.size + 1 + 1) (by omega)).trans HI2.out)
  rw [hw4]
  have c4 := cell_of_heap hd4 0
  simp only [List.getElem?_toArray, List.getElem?_cons_zero] at c4
  have hs3 : w.heap.size ≤ w3.heap.size := by omega
  have hbl : base ≤ w3.heap.size := Nat.le_trans hlow.2.2.2 hs3
  have HB4 := Lib.hid hb4
  have HD4 := Lib.hid hd4
  have HN4 := Lib.hid hn4
  have HX4 := Lib.hid hx4
  have HI4 := Lib.hid hi4
  have HV := Lib.hid hfv
  clear hb4 hd4 hn4 hi4 hx4 hfv hb3 hw4 hw2 c1 c2 c3 hb34 hb13 hsz2 hsz3
  by_cases he : er = 0
  · subst he
    obtain ⟨f, hfm, hfn, hfv, hoky⟩ : ∃ f ∈ G, f.name = strL x ∧ (Value.agg #[.slice A n c, .int .i64 sv]) = f.val ∧ nameOK (strL y) = true := by
      rcases HV.out with ⟨_, _, h0⟩ | ⟨_, _, _, h0⟩ | ⟨hk, f, h1, h2, h3, _⟩
      · exact absurd h0 (by decide)
      · exact absurd h0 (by decide)
      · rw [Bool.and_eq_true] at hk
        exact ⟨f, h1, h2, h3, hk.2⟩
    have hcap : Caps w4 p w.heap.size (w.heap.size + 1) w3.heap.size base x f := by
      refine ⟨HD4.out, HN4.out, ?_, by omega⟩
      rw [HX4.out]
      have h0 := hfv
      unfold FileM.val at h0
      injection h0 with e
      rw [e]
    have HFV := Lib.hid hfv
    clear hfv
    have hdo := do_52 #[.pointer (some ⟨w.heap.size, 0, none⟩), .pointer (some ⟨w.heap.size + 1, 0, none⟩), .pointer (some ⟨w.heap.size + 1 + 1, 0, none⟩), .pointer (some ⟨w3.heap.size, 0, none⟩)] w4 (H.out.keep HB4.out) (fun w' => DAt w' p Mb base (nextD s) (putG { f with name := strL y } (delG (strL x) G)) ∧ But (DMay p Mb) w4 w')
      (fun _ W hD hb => (step_52 x y f W hD (hcap.keep hb (fun b e => by rcases e with e | e <;> omega)) (hb.box HI4.out (fun e => by rcases e with e | e <;> omega)) (by omega) hxz hyz hfm hfn hoky hGl).mono (by rintro e w' ⟨rfl, h1, h2⟩; exact ⟨rfl, h1, hb.trans h2 (fun b _ e => e)⟩))
    clear hcap
    go_wp2_with (go_at_call 46; (with_reducible refine hdo.mono ?_); clear hdo; rintro e w5 (⟨hd, rfl, hD5, hb5⟩ | ⟨hd, rfl, hD5, hb5⟩))
    · go_ret
      exact ⟨_, 0, 172, rfl, HV.out, .inr ⟨f, hfm, hfn, HFV.out, rfl, .inl ⟨hd, rfl, hD5, (But.of_all HB4.out _).trans hb5 (fun b _ e => e)⟩⟩⟩
    · go_ret
      exact ⟨_, 0, 0, rfl, HV.out, .inr ⟨f, hfm, hfn, HFV.out, rfl, .inr ⟨hd, rfl, hD5, (But.of_all HB4.out _).trans hb5 (fun b _ e => e)⟩⟩⟩
  · have hdo := do_why (.pointer (some ⟨p, 0, none⟩)) (.func (.func 52) #[] #[.pointer (some ⟨w.heap.size, 0, none⟩), .pointer (some ⟨w.heap.size + 1, 0, none⟩), .pointer (some ⟨w.heap.size + 1 + 1, 0, none⟩), .pointer (some ⟨w3.heap.size, 0, none⟩)]) er he w4
    go_wp2_with (go_at_call 46; (with_reducible refine hdo.mono ?_); clear hdo; rintro e w5 ⟨rfl, rfl⟩)
    go_ret
    exact ⟨_, er, er, rfl, HV.out, .inl ⟨he, rfl, H.out.keep HB4.out, HB4.out⟩⟩
end Go.Proofs
