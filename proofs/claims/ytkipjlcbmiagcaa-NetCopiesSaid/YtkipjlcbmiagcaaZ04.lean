/-
  NetPlays: the walk. Conditions: as each theorem names them.
  A call by both nets, told finely: the messages' bytes stay. Conditions: as each theorem names them.
  NetLeaves: the walk. Conditions: as each theorem names them.
  Which links come out of a map; two maps of links held against each other. Conditions: as each theorem names them.
  Which messages are the same, which nets are. Conditions: as each theorem names them.
-/
import Derived.Test.YtkipjlcbmiagcaaZ03
import Derived.Test.YtkipjlcbmiagcaaZ02
import Derived.LoopN
import Derived.Lib.MinMax
import Derived.LoopIn
import Derived.Maps.RangeWalk
import Derived.Maps.OwnSet
import Derived.Lib.SlMapEqual
import Derived.Deep.CutRange
import Derived.Deep.DeepCutAuto
import Derived.Test.YtkipjlcbmiagcaaZ01
namespace Go.Proofs
open Go Go.RowKit Sm Go.Lib Go.Maps Go.WideMaps
attribute [local go_sem] Oper.semAt_some
set_option maxRecDepth 100000 in
/-- both nets behind calls, where there is a net and where none was made -/
theorem Sm.played_all (ends most : Int) (A : Option Addr) (n c : Nat) (xs : List ActV) (w : World) (hR : RdActs w A xs) (hn : xs.length = n) (hc : n ≤ c) (hc2 : c ≤ 9223372036854775807) (hcame : ∀ x ∈ xs, x.came w) (hsm : ∀ x ∈ xs, x.n ≤ 200) (hfew : n ≤ 50) :
    Calls Try.prog 11 #[.int .i64 ends, .int .i64 most, .slice A n c] w fun e w' => ∃ r a1 a2 a3 A1 n1 c1 A2 n2 c2 t, e = .returned (.tuple #[.pointer r, .agg #[.int .i64 a1, .int .i64 a2, .int .i64 a3, .slice A1 n1 c1, .slice A2 n2 c2], .bool true]) ∧ (∀ W, Below w'.heap.size w' W → Calls Try.prog 42 #[.pointer r] W fun e v => e = .returned (.bool t) ∧ W = v) ∧ (∀ W, (binOp BinOp.eql 25 (.pointer r) (.pointer none)).run Try.prog W = .ok (.bool (!t)) W) ∧ Below w.heap.size w w' := by
  cases hb : newB ends most with
  | true =>
    refine (played_any ends most A n c xs w hb hR hn hc hc2 hcame hsm hfew).mono ?_
    rintro e w' ⟨p, B, A1, n1, c1, A2, n2, c2, R, rfl, _, h2, _, h4⟩
    exact ⟨_, _, _, _, A1, n1, c1, A2, n2, c2, true, rfl, fun W hW => there_N W (h2.keep hW), fun W => by first | rfl | kernel_rfl, h4⟩
  | false =>
    refine (played_bad ends most A n c w hb hfew).mono ?_
    rintro e w' ⟨rfl, h4⟩
    exact ⟨none, 0, 0, 0, none, 0, 0, none, 0, 0, false, rfl, fun W hW => there_no W (.inl rfl), fun W => by first | rfl | kernel_rfl, h4⟩
set_option maxRecDepth 100000 in
set_option maxHeartbeats 8000000 in
theorem Sm.plays_law (ends most : Int) (A : Option Addr) (n c : Nat) (xs : List ActV) (w : World) (hn : xs.length = n) (hc : n ≤ c) (hc2 : c ≤ 9223372036854775807) (hR : RdActs w A xs) (hcame : ∀ x ∈ xs, x.came w) :
    Calls Try.prog 3 #[.int .i64 ends, .int .i64 most, .slice A n c] w fun e w' => e = .returned (.bool true) ∧ Below w.heap.size w w' := by
  have hwk := fun W => works_any W
  obtain ⟨w0, hw0⟩ : ∃ V, w.alloc (.cells #[.bool false] 4) = V := ⟨_, rfl⟩
  have hb0 : Below w.heap.size w w0 := by rw [← hw0]; exact (Below.refl _ w).alloc (Nat.le_refl _) _
  have hx0 : w0.heap[w.heap.size]? = some (.cells #[.bool false] 4 (0, 0)) := by rw [← hw0]; exact World.alloc_heap_new w _
  have hR0 := hR.keep hb0
  have hcame0 := fun x hx => (hcame x hx).keep hb0
  have hfew := few_any A n c xs 50 w0 hR0 hn hc hc2 hcame0
  cases hf : fewM xs 50 with
  | false =>
    rw [hf] at hfew
    have HX0 := Lib.hid hx0
    have HB0 := Lib.hid hb0
    clear hf hR hcame hR0 hcame0 hx0 hb0
    go_enter Try.func3, Try.ntmps3
    go_upto_region 1 with fail
    clear hw0
    go_wp2_with (first
      | (go_at_call 9; (with_reducible refine hfew.mono ?_); rintro e w' ⟨rfl, rfl⟩)
      | (go_at_call 10; (with_reducible refine (hwk _).mono ?_); rintro e w1 ⟨rfl, hb⟩; have hx1 := (hb.block _ (Array.getElem?_eq_some_iff.1 HX0.out).1).trans HX0.out; have c1 := cell_of_heap hx1 0; have f1 := frozen_of_heap hx1 0; simp only [List.getElem?_toArray, List.getElem?_cons_zero] at c1; have HX1 := Lib.hid hx1; have HB1 := Lib.hid (HB0.out.trans (hb.mono HB0.out.size)); clear hx1 hb))
    have hz := heap_setCells (i := 0) (u := .bool true) HX1.out
    have hbq : But (fun q => q = w.heap.size) w1 (w1.setCell ⟨w.heap.size, 0, none⟩ (.bool true)) := (But.refl _ _).set ⟨w.heap.size, 0, none⟩ _ (.inl rfl)
    have z0 := cell_of_heap hz 0
    simp only [List.getElem?_toArray, List.getElem?_cons_zero, List.setIfInBounds_toArray, List.set_cons_zero] at z0
    exact bodyPost_ret (v := .bool true) (by simp [results, Try.results3, go_sem, z0]) rfl ⟨rfl, HB1.out.trans (hbq.to_below HB1.out.size (fun b e => by omega))⟩
  | true =>
    rw [hf] at hfew
    obtain ⟨hsm, hl50⟩ := few_small hf
    rw [hn] at hl50
    have hpl := played_all ends most A n c xs w0 hR0 hn hc hc2 hcame0 hsm (by omega)
    have hne : ∀ W, (binOp BinOp.eql 46 (.func (.func 43) #[] #[]) Value.nilFunc).run Try.prog W = .ok (.bool false) W := fun W => by first | rfl | kernel_rfl
    have H17 := Lib.hid (fun W => num_any 1 W (by decide) (by decide))
    have HX0 := Lib.hid hx0
    have HB0 := Lib.hid hb0
    have hnI : (n : Int) ≤ 50 := by omega
    clear hf hR hcame hR0 hcame0 hsm hn hl50 hx0 hb0
    refine (callsIn_wide (n := 3)).1 (callsIn_of_wp_marks Try.func3 rfl trivial ?_ rfl)
    refine wpIn_wide.2 ?_
    simp only [Try.ntmps3, List.size_toArray, List.length_cons, List.length_nil, Nat.reduceAdd, Nat.reduceSub, Array.replicate_succ, Array.replicate_zero, List.push_toArray, List.append_toArray, List.nil_append, List.cons_append]
    go_upto_region 1 with fail
    clear hw0
    go_upto_region 3 with (go_at_call 9; (with_reducible refine hfew.mono ?_); clear hfew; rintro e w' ⟨rfl, rfl⟩)
    go_upto_region 4 with (go_at_call 11; (with_reducible refine hpl.mono ?_); clear hpl; rintro e w1 ⟨r, a1, a2, a3, A1, n1, c1, A2, n2, c2, t, rfl, hth, heq, hb1⟩)
    have hbc : Below w1.heap.size w1 (w1.alloc (.cells #[.int .i64 a1, .int .i64 a2, .int .i64 a3, .slice A1 n1 c1, .slice A2 n2 c2] 29)) := (Below.refl _ _).alloc (Nat.le_refl _) _
    obtain ⟨w2, hw2⟩ : ∃ V, w1.alloc (.cells #[.int .i64 a1, .int .i64 a2, .int .i64 a3, .slice A1 n1 c1, .slice A2 n2 c2] 29) = V := ⟨_, rfl⟩
    rw [hw2] at hbc ⊢
    have hw02 := hb1.trans (hbc.mono hb1.size)
    have HTH : Hid (∀ W, Below w2.heap.size w2 W → Calls Try.prog 42 #[.pointer r] W fun e v => e = .returned (.bool t) ∧ W = v) := Lib.hid fun W hb => hth W (hbc.trans (hb.mono hbc.size))
    have HX2 := Lib.hid ((hw02.block _ (Array.getElem?_eq_some_iff.1 HX0.out).1).trans HX0.out)
    have HX2s : Hid (w.heap.size < w2.heap.size) := Lib.hid (Array.getElem?_eq_some_iff.1 HX2.out).1
    have HW2 := Lib.hid (HB0.out.trans (hw02.mono HB0.out.size))
    clear hth hbc hb1 hw2 hw02 HX0 HB0
    by_cases hpar : (n : Int) % 2 = 1
    · go_upto_region 7 with fail
      have HB23 : Hid (Below w2.heap.size w2 (w2.alloc (.cells #[.int .i64 0, .int .i64 0, .int .i64 0, .map none, .slice none 0 0] 35))) := Lib.hid ((Below.refl _ _).alloc (Nat.le_refl _) _)
      have HNO : Hid (NoNet (w2.alloc (.cells #[.int .i64 0, .int .i64 0, .int .i64 0, .map none, .slice none 0 0] 35)) (.pointer (some ⟨w2.heap.size, 0, none⟩))) := Lib.hid (.inr ⟨_, rfl, World.alloc_heap_new _ _⟩)
      obtain ⟨w3, hw3⟩ : ∃ V, w2.alloc (.cells #[.int .i64 0, .int .i64 0, .int .i64 0, .map none, .slice none 0 0] 35) = V := ⟨_, rfl⟩
      rw [hw3] at HB23 HNO ⊢
      clear hw3
      obtain ⟨r2, hr2⟩ : ∃ r : Option Addr, some ⟨w2.heap.size, 0, none⟩ = r := ⟨_, rfl⟩
      rw [hr2] at HNO ⊢
      clear hr2
      have hx3 := (HB23.out.block _ HX2s.out).trans HX2.out
      have HX3 := Lib.hid hx3
      have HW3 := Lib.hid (HW2.out.trans (HB23.out.mono HW2.out.size))
      have H12 : Hid (∀ W, Below w3.heap.size w3 W → Calls Try.prog 12 #[.pointer r2, .int .i64 0, .int .i64 0, .slice none 0 0] W fun e w' => e = .returned (.tuple #[.int .i64 0, .int .i64 1]) ∧ Below W.heap.size W w') := Lib.hid fun W hb => put_no 0 0 none 0 0 W (HNO.out.keep hb) (by decide)
      have H13 : Hid (∀ W, Below w3.heap.size w3 W → Calls Try.prog 13 #[.pointer r2, .int .i64 0, .int .i64 0, .int .i64 0] W fun e w' => ∃ A c, e = .returned (.tuple #[.agg #[.int .i64 0, .int .i64 0, .int .i64 0, .slice A 0 c], .int .i64 1]) ∧ Below W.heap.size W w') := Lib.hid fun W hb => (peek_no0 0 0 0 W (HNO.out.keep hb)).mono fun e w' ⟨A, c, h1, _, h3⟩ => ⟨A, c, h1, h3⟩
      have H14 : Hid (∀ W, Below w3.heap.size w3 W → Calls Try.prog 14 #[.pointer r2, .int .i64 0, .int .i64 0, .int .i64 0] W fun e w' => ∃ A c, e = .returned (.tuple #[.agg #[.int .i64 0, .int .i64 0, .int .i64 0, .slice A 0 c], .int .i64 1]) ∧ Below W.heap.size W w') := Lib.hid fun W hb => (take_no0 0 0 0 W (HNO.out.keep hb)).mono fun e w' ⟨A, c, h1, _, h3⟩ => ⟨A, c, h1, h3⟩
      have H15 : Hid (∀ W, Below w3.heap.size w3 W → Calls Try.prog 15 #[.pointer r2, .int .i64 0, .int .i64 0, .int .i64 0] W fun e w' => e = .returned (.tuple #[.int .i64 0, .int .i64 1]) ∧ Below W.heap.size W w') := Lib.hid fun W hb => drop_no0 0 0 0 W (HNO.out.keep hb)
      have H16 : Hid (∀ W, Below w3.heap.size w3 W → Calls Try.prog 16 #[.pointer r2] W fun e w' => e = .returned (.func (.func 43) #[] #[]) ∧ W = w') := Lib.hid fun W hb => all_no W (HNO.out.keep hb)
      have H18 : Hid (∀ W, Below w3.heap.size w3 W → Calls Try.prog 18 #[.pointer r2, .int .i64 0, .int .i64 0, .bool true] W fun e w' => e = .returned (.int .i64 1) ∧ Below W.heap.size W w') := Lib.hid fun W hb => down_no 0 0 true W (HNO.out.keep hb)
      have H19 : Hid (∀ W, Below w3.heap.size w3 W → Calls Try.prog 19 #[.pointer r2, .int .i64 0, .int .i64 0] W fun e w' => e = .returned (.bool false) ∧ W = w') := Lib.hid fun W hb => isDown_no 0 0 W (HNO.out.keep hb)
      have H20 : Hid (∀ W, Below w3.heap.size w3 W → Calls Try.prog 20 #[.pointer r2, .int .i64 (-1), .int .i64 (-1)] W fun e w' => e = .returned (.int .i64 0) ∧ W = w') := Lib.hid fun W hb => len_no (-1) (-1) W (HNO.out.keep hb)
      have H21 : Hid (∀ W, Below w3.heap.size w3 W → Calls Try.prog 21 #[.pointer r2] W fun e w' => e = .returned (.int .i64 0) ∧ W = w') := Lib.hid fun W hb => came_no W (HNO.out.keep hb)
      have H22 : Hid (∀ W, Below w3.heap.size w3 W → Calls Try.prog 22 #[.pointer r2] W fun e w' => e = .returned (.pointer none) ∧ W = w') := Lib.hid fun W hb => copy_no W (HNO.out.keep hb)
      have H23c : Hid (∀ W, Below w3.heap.size w3 W → Calls Try.prog 23 #[.pointer r2, .pointer none] W fun e w' => e = .returned (.bool true) ∧ W = w') := Lib.hid fun W hb => same_none false false rfl W (there_no W (HNO.out.keep hb)) (there_no W (.inl rfl))
      have H23a : Hid (∀ W, Below w3.heap.size w3 W → Calls Try.prog 23 #[.pointer r, .pointer r2] W fun e w' => e = .returned (.bool (t == false)) ∧ W = w') := Lib.hid fun W hb => same_none t false (by cases t <;> rfl) W (HTH.out W (HB23.out.trans (hb.mono HB23.out.size))) (there_no W (HNO.out.keep hb))
      have H23b : Hid (∀ W, Below w3.heap.size w3 W → Calls Try.prog 23 #[.pointer r2, .pointer r] W fun e w' => e = .returned (.bool (false == t)) ∧ W = w') := Lib.hid fun W hb => same_none false t rfl W (there_no W (HNO.out.keep hb)) (HTH.out W (HB23.out.trans (hb.mono HB23.out.size)))
      have HB3 : Hid (Below w3.heap.size w3 w3) := Lib.hid (Below.refl _ _)
      clear HNO hx3
      go_upto_region 8 with (go_at_call 12; (with_reducible refine (H12.out _ HB3.out).mono ?_); rintro e w4 ⟨rfl, hb⟩; have HB4 := Lib.hid (HB3.out.trans (hb.mono HB3.out.size)); clear hb)
      go_upto_region 9 with (go_at_call 13; (with_reducible refine (H13.out _ HB4.out).mono ?_); rintro e w5 ⟨A5, c5, rfl, hb⟩; have HBx5 := Lib.hid (HB4.out.trans (hb.mono HB4.out.size)); clear hb)
      have hb5a := HBx5.out.alloc HBx5.out.size (.cells #[.int .i64 0, .int .i64 0, .int .i64 0, .slice A5 0 c5] 41)
      obtain ⟨w5a, hw5a⟩ : ∃ V, w5.alloc (.cells #[.int .i64 0, .int .i64 0, .int .i64 0, .slice A5 0 c5] 41) = V := ⟨_, rfl⟩
      rw [hw5a] at hb5a ⊢
      have HB5a := Lib.hid hb5a
      clear hb5a hw5a
      go_upto_region 10 with (go_at_call 14; (with_reducible refine (H14.out _ HB5a.out).mono ?_); rintro e w6 ⟨A6, c6, rfl, hb⟩; have HBx6 := Lib.hid (HB5a.out.trans (hb.mono HB5a.out.size)); clear hb)
      have hb6a := HBx6.out.alloc HBx6.out.size (.cells #[.int .i64 0, .int .i64 0, .int .i64 0, .slice A6 0 c6] 41)
      obtain ⟨w6a, hw6a⟩ : ∃ V, w6.alloc (.cells #[.int .i64 0, .int .i64 0, .int .i64 0, .slice A6 0 c6] 41) = V := ⟨_, rfl⟩
      rw [hw6a] at hb6a ⊢
      have HB6a := Lib.hid hb6a
      clear hb6a hw6a
      go_upto_region 11 with (go_at_call 15; (with_reducible refine (H15.out _ HB6a.out).mono ?_); rintro e w7 ⟨rfl, hb⟩; have HB7 := Lib.hid (HB6a.out.trans (hb.mono HB6a.out.size)); clear hb)
      go_wp2_with (go_at_call 16; (with_reducible refine (H16.out _ HB7.out).mono ?_); rintro e w' ⟨rfl, rfl⟩)
      rename_i K hK
      refine (wpIn_wide (n := 3)).1 ?_
      refine wpIn_range (gf := 43) (lb := #[]) rfl (enters_of Try.func43 (by kernel_rfl) rfl) (none_seq w7) (fun b e => e.elim) (fun _ _ _ _ h _ => h.elim) (fun _ _ _ _ h _ => h.elim) (fun _ _ _ h => h.elim) (fun k W => Below w7.heap.size w7 W) (fun _ _ _ => False) (fun k W W' h hb => h.trans (hb.mono (Nat.le_refl _))) (fun _ _ _ _ h _ => h) (Below.refl _ _) (fun _ _ _ => True) (fun _ _ _ _ h _ => h) (fun _ _ _ _ _ _ _ h _ => h.elim) (fun _ _ _ _ _ _ _ h _ => h.elim) ?done (fun _ _ _ h _ _ => h.elim)
      case done =>
        rintro k W hk hi hD
        have HW7 := Lib.hid (HB7.out.trans (hi.mono HB7.out.size))
        have HD := Lib.hid hD
        have HS7 : Hid (w3.heap.size ≤ w7.heap.size) := Lib.hid HB7.out.size
        have HX3s : Hid (w.heap.size < w3.heap.size) := Lib.hid (Array.getElem?_eq_some_iff.1 HX3.out).1
        clear hi hD
        refine hK _ _ ?_
        clear hK
        refine wp_alive ?_
        go_upto_region 17 with (first
          | (go_at_call 17; (with_reducible refine (H17.out _).mono ?_); rintro e w' ⟨rfl, rfl⟩)
          | (go_at_call 18; (with_reducible refine (H18.out _ HW7.out).mono ?_); rintro e w8 ⟨rfl, hb⟩; have HB8 := Lib.hid (HW7.out.trans (hb.mono HW7.out.size)); have HBd := Lib.hid hb; clear hb)
          | (go_at_call 19; (with_reducible refine (H19.out _ HB8.out).mono ?_); rintro e w' ⟨rfl, rfl⟩)
          | (go_at_call 20; (with_reducible refine (H20.out _ HB8.out).mono ?_); rintro e w' ⟨rfl, rfl⟩)
          | (go_at_call 21; (with_reducible refine (H21.out _ HB8.out).mono ?_); rintro e w' ⟨rfl, rfl⟩)
          | (go_at_call 22; (with_reducible refine (H22.out _ HB8.out).mono ?_); rintro e w' ⟨rfl, rfl⟩)
          | (go_at_call 23; (with_reducible refine (H23c.out _ HB8.out).mono ?_); rintro e w' ⟨rfl, rfl⟩))
        have hx8 := (HB8.out.block _ HX3s.out).trans HX3.out
        have hD8 := (HBd.out.block _ (Array.getElem?_eq_some_iff.1 HD.out).1).trans HD.out
        have HD8 := Lib.hid hD8
        clear hD8
        cases t with
        | true =>
          go_wp2_with (first
            | (go_at_call 23; (with_reducible refine (H23a.out _ HB8.out).mono ?_); rintro e w' ⟨rfl, rfl⟩)
            | (go_at_call 23; (with_reducible refine (H23b.out _ HB8.out).mono ?_); rintro e w' ⟨rfl, rfl⟩)
            | (go_at_call 10; (with_reducible refine (hwk _).mono ?_); rintro e w9 ⟨rfl, hb⟩; have hx9 := (hb.block _ (Array.getElem?_eq_some_iff.1 hx8).1).trans hx8; have hD9 := (hb.block _ (Array.getElem?_eq_some_iff.1 HD8.out).1).trans HD8.out; have c9 := cell_of_heap hx9 0; have f9 := frozen_of_heap hx9 0; simp only [List.getElem?_toArray, List.getElem?_cons_zero] at c9; have HX9 := Lib.hid hx9; have HD9 := Lib.hid hD9; have HB9 := Lib.hid (HB8.out.trans (hb.mono HB8.out.size)); clear hx9 hD9 hb))
          refine ⟨(fun _ h => by cases h), ?_⟩
          have hz := heap_setCells (i := 0) (u := .bool true) HX9.out
          have hbq : But (fun q => q = w.heap.size) w9 (w9.setCell ⟨w.heap.size, 0, none⟩ (.bool true)) := (But.refl _ _).set ⟨w.heap.size, 0, none⟩ _ (.inl rfl)
          obtain ⟨W9, hW9⟩ : ∃ W9, w9.setCell ⟨w.heap.size, 0, none⟩ (.bool true) = W9 := ⟨_, rfl⟩
          rw [hW9] at hz hbq ⊢
          have hne : w7.heap.size ≠ w.heap.size := by have := HS7.out; have := HX3s.out; omega
          have hDf := But.box hbq HD9.out hne
          have hz2 := But.box (put_but W9 w7.heap.size (.deferred none)) hz (fun e => hne e.symm)
          have z0 := cell_of_heap hz2 0
          simp only [List.getElem?_toArray, List.getElem?_cons_zero, List.setIfInBounds_toArray, List.set_cons_zero] at z0
          have hb1w := HW3.out.trans (HB9.out.mono HW3.out.size)
          have hb9 := hb1w.trans (hbq.to_below hb1w.size (fun b e => by omega))
          refine retM1 (D := w7.heap.size) (v := .bool true) rfl hDf ?_ ⟨rfl, But.below hb9 (put_but _ _ _) (fun b e => by have := HS7.out; have := HX3s.out; omega)⟩
          simp [results, Try.results3, go_sem, z0]
        | false =>
          go_wp2_with (first
            | (go_at_call 10; (with_reducible refine (hwk _).mono ?_); rintro e w9 ⟨rfl, hb⟩; have hx9 := (hb.block _ (Array.getElem?_eq_some_iff.1 hx8).1).trans hx8; have hD9 := (hb.block _ (Array.getElem?_eq_some_iff.1 HD8.out).1).trans HD8.out; have c9 := cell_of_heap hx9 0; have f9 := frozen_of_heap hx9 0; simp only [List.getElem?_toArray, List.getElem?_cons_zero] at c9; have HX9 := Lib.hid hx9; have HD9 := Lib.hid hD9; have HB9 := Lib.hid (HB8.out.trans (hb.mono HB8.out.size)); clear hx9 hD9 hb))
          refine ⟨(fun _ h => by cases h), ?_⟩
          have hz := heap_setCells (i := 0) (u := .bool true) HX9.out
          have hbq : But (fun q => q = w.heap.size) w9 (w9.setCell ⟨w.heap.size, 0, none⟩ (.bool true)) := (But.refl _ _).set ⟨w.heap.size, 0, none⟩ _ (.inl rfl)
          obtain ⟨W9, hW9⟩ : ∃ W9, w9.setCell ⟨w.heap.size, 0, none⟩ (.bool true) = W9 := ⟨_, rfl⟩
          rw [hW9] at hz hbq ⊢
          have hne : w7.heap.size ≠ w.heap.size := by have := HS7.out; have := HX3s.out; omega
          have hDf := But.box hbq HD9.out hne
          have hz2 := But.box (put_but W9 w7.heap.size (.deferred none)) hz (fun e => hne e.symm)
          have z0 := cell_of_heap hz2 0
          simp only [List.getElem?_toArray, List.getElem?_cons_zero, List.setIfInBounds_toArray, List.set_cons_zero] at z0
          have hb1w := HW3.out.trans (HB9.out.mono HW3.out.size)
          have hb9 := hb1w.trans (hbq.to_below hb1w.size (fun b e => by omega))
          refine retM1 (D := w7.heap.size) (v := .bool true) rfl hDf ?_ ⟨rfl, But.below hb9 (put_but _ _ _) (fun b e => by have := HS7.out; have := HX3s.out; omega)⟩
          simp [results, Try.results3, go_sem, z0]
    · go_upto_region 7 with fail
      have HB23 : Hid (Below w2.heap.size w2 w2) := Lib.hid (Below.refl _ _)
      obtain ⟨w3, hw3⟩ : ∃ V, V = w2 := ⟨_, rfl⟩
      rw [← hw3] at HB23 HTH HX2 HX2s HW2 ⊢
      have HNO : Hid (NoNet w3 (.pointer none)) := Lib.hid (.inl rfl)
      clear hw3
      have hx3 := (HB23.out.block _ HX2s.out).trans HX2.out
      have HX3 := Lib.hid hx3
      have HW3 := Lib.hid (HW2.out.trans (HB23.out.mono HW2.out.size))
      have H12 : Hid (∀ W, Below w3.heap.size w3 W → Calls Try.prog 12 #[.pointer none, .int .i64 0, .int .i64 0, .slice none 0 0] W fun e w' => e = .returned (.tuple #[.int .i64 0, .int .i64 1]) ∧ Below W.heap.size W w') := Lib.hid fun W hb => put_no 0 0 none 0 0 W (HNO.out.keep hb) (by decide)
      have H13 : Hid (∀ W, Below w3.heap.size w3 W → Calls Try.prog 13 #[.pointer none, .int .i64 0, .int .i64 0, .int .i64 0] W fun e w' => ∃ A c, e = .returned (.tuple #[.agg #[.int .i64 0, .int .i64 0, .int .i64 0, .slice A 0 c], .int .i64 1]) ∧ Below W.heap.size W w') := Lib.hid fun W hb => (peek_no0 0 0 0 W (HNO.out.keep hb)).mono fun e w' ⟨A, c, h1, _, h3⟩ => ⟨A, c, h1, h3⟩
      have H14 : Hid (∀ W, Below w3.heap.size w3 W → Calls Try.prog 14 #[.pointer none, .int .i64 0, .int .i64 0, .int .i64 0] W fun e w' => ∃ A c, e = .returned (.tuple #[.agg #[.int .i64 0, .int .i64 0, .int .i64 0, .slice A 0 c], .int .i64 1]) ∧ Below W.heap.size W w') := Lib.hid fun W hb => (take_no0 0 0 0 W (HNO.out.keep hb)).mono fun e w' ⟨A, c, h1, _, h3⟩ => ⟨A, c, h1, h3⟩
      have H15 : Hid (∀ W, Below w3.heap.size w3 W → Calls Try.prog 15 #[.pointer none, .int .i64 0, .int .i64 0, .int .i64 0] W fun e w' => e = .returned (.tuple #[.int .i64 0, .int .i64 1]) ∧ Below W.heap.size W w') := Lib.hid fun W hb => drop_no0 0 0 0 W (HNO.out.keep hb)
      have H16 : Hid (∀ W, Below w3.heap.size w3 W → Calls Try.prog 16 #[.pointer none] W fun e w' => e = .returned (.func (.func 43) #[] #[]) ∧ W = w') := Lib.hid fun W hb => all_no W (HNO.out.keep hb)
      have H18 : Hid (∀ W, Below w3.heap.size w3 W → Calls Try.prog 18 #[.pointer none, .int .i64 0, .int .i64 0, .bool true] W fun e w' => e = .returned (.int .i64 1) ∧ Below W.heap.size W w') := Lib.hid fun W hb => down_no 0 0 true W (HNO.out.keep hb)
      have H19 : Hid (∀ W, Below w3.heap.size w3 W → Calls Try.prog 19 #[.pointer none, .int .i64 0, .int .i64 0] W fun e w' => e = .returned (.bool false) ∧ W = w') := Lib.hid fun W hb => isDown_no 0 0 W (HNO.out.keep hb)
      have H20 : Hid (∀ W, Below w3.heap.size w3 W → Calls Try.prog 20 #[.pointer none, .int .i64 (-1), .int .i64 (-1)] W fun e w' => e = .returned (.int .i64 0) ∧ W = w') := Lib.hid fun W hb => len_no (-1) (-1) W (HNO.out.keep hb)
      have H21 : Hid (∀ W, Below w3.heap.size w3 W → Calls Try.prog 21 #[.pointer none] W fun e w' => e = .returned (.int .i64 0) ∧ W = w') := Lib.hid fun W hb => came_no W (HNO.out.keep hb)
      have H22 : Hid (∀ W, Below w3.heap.size w3 W → Calls Try.prog 22 #[.pointer none] W fun e w' => e = .returned (.pointer none) ∧ W = w') := Lib.hid fun W hb => copy_no W (HNO.out.keep hb)
      have H23c : Hid (∀ W, Below w3.heap.size w3 W → Calls Try.prog 23 #[.pointer none, .pointer none] W fun e w' => e = .returned (.bool true) ∧ W = w') := Lib.hid fun W hb => same_none false false rfl W (there_no W (HNO.out.keep hb)) (there_no W (.inl rfl))
      have H23a : Hid (∀ W, Below w3.heap.size w3 W → Calls Try.prog 23 #[.pointer r, .pointer none] W fun e w' => e = .returned (.bool (t == false)) ∧ W = w') := Lib.hid fun W hb => same_none t false (by cases t <;> rfl) W (HTH.out W (HB23.out.trans (hb.mono HB23.out.size))) (there_no W (HNO.out.keep hb))
      have H23b : Hid (∀ W, Below w3.heap.size w3 W → Calls Try.prog 23 #[.pointer none, .pointer r] W fun e w' => e = .returned (.bool (false == t)) ∧ W = w') := Lib.hid fun W hb => same_none false t rfl W (there_no W (HNO.out.keep hb)) (HTH.out W (HB23.out.trans (hb.mono HB23.out.size)))
      have HB3 : Hid (Below w3.heap.size w3 w3) := Lib.hid (Below.refl _ _)
      clear HNO hx3
      go_upto_region 8 with (go_at_call 12; (with_reducible refine (H12.out _ HB3.out).mono ?_); rintro e w4 ⟨rfl, hb⟩; have HB4 := Lib.hid (HB3.out.trans (hb.mono HB3.out.size)); clear hb)
      go_upto_region 9 with (go_at_call 13; (with_reducible refine (H13.out _ HB4.out).mono ?_); rintro e w5 ⟨A5, c5, rfl, hb⟩; have HBx5 := Lib.hid (HB4.out.trans (hb.mono HB4.out.size)); clear hb)
      have hb5a := HBx5.out.alloc HBx5.out.size (.cells #[.int .i64 0, .int .i64 0, .int .i64 0, .slice A5 0 c5] 41)
      obtain ⟨w5a, hw5a⟩ : ∃ V, w5.alloc (.cells #[.int .i64 0, .int .i64 0, .int .i64 0, .slice A5 0 c5] 41) = V := ⟨_, rfl⟩
      rw [hw5a] at hb5a ⊢
      have HB5a := Lib.hid hb5a
      clear hb5a hw5a
      go_upto_region 10 with (go_at_call 14; (with_reducible refine (H14.out _ HB5a.out).mono ?_); rintro e w6 ⟨A6, c6, rfl, hb⟩; have HBx6 := Lib.hid (HB5a.out.trans (hb.mono HB5a.out.size)); clear hb)
      have hb6a := HBx6.out.alloc HBx6.out.size (.cells #[.int .i64 0, .int .i64 0, .int .i64 0, .slice A6 0 c6] 41)
      obtain ⟨w6a, hw6a⟩ : ∃ V, w6.alloc (.cells #[.int .i64 0, .int .i64 0, .int .i64 0, .slice A6 0 c6] 41) = V := ⟨_, rfl⟩
      rw [hw6a] at hb6a ⊢
      have HB6a := Lib.hid hb6a
      clear hb6a hw6a
      go_upto_region 11 with (go_at_call 15; (with_reducible refine (H15.out _ HB6a.out).mono ?_); rintro e w7 ⟨rfl, hb⟩; have HB7 := Lib.hid (HB6a.out.trans (hb.mono HB6a.out.size)); clear hb)
      go_wp2_with (go_at_call 16; (with_reducible refine (H16.out _ HB7.out).mono ?_); rintro e w' ⟨rfl, rfl⟩)
      rename_i K hK
      refine (wpIn_wide (n := 3)).1 ?_
      refine wpIn_range (gf := 43) (lb := #[]) rfl (enters_of Try.func43 (by kernel_rfl) rfl) (none_seq w7) (fun b e => e.elim) (fun _ _ _ _ h _ => h.elim) (fun _ _ _ _ h _ => h.elim) (fun _ _ _ h => h.elim) (fun k W => Below w7.heap.size w7 W) (fun _ _ _ => False) (fun k W W' h hb => h.trans (hb.mono (Nat.le_refl _))) (fun _ _ _ _ h _ => h) (Below.refl _ _) (fun _ _ _ => True) (fun _ _ _ _ h _ => h) (fun _ _ _ _ _ _ _ h _ => h.elim) (fun _ _ _ _ _ _ _ h _ => h.elim) ?done (fun _ _ _ h _ _ => h.elim)
      case done =>
        rintro k W hk hi hD
        have HW7 := Lib.hid (HB7.out.trans (hi.mono HB7.out.size))
        have HD := Lib.hid hD
        have HS7 : Hid (w3.heap.size ≤ w7.heap.size) := Lib.hid HB7.out.size
        have HX3s : Hid (w.heap.size < w3.heap.size) := Lib.hid (Array.getElem?_eq_some_iff.1 HX3.out).1
        clear hi hD
        refine hK _ _ ?_
        clear hK
        refine wp_alive ?_
        go_upto_region 17 with (first
          | (go_at_call 17; (with_reducible refine (H17.out _).mono ?_); rintro e w' ⟨rfl, rfl⟩)
          | (go_at_call 18; (with_reducible refine (H18.out _ HW7.out).mono ?_); rintro e w8 ⟨rfl, hb⟩; have HB8 := Lib.hid (HW7.out.trans (hb.mono HW7.out.size)); have HBd := Lib.hid hb; clear hb)
          | (go_at_call 19; (with_reducible refine (H19.out _ HB8.out).mono ?_); rintro e w' ⟨rfl, rfl⟩)
          | (go_at_call 20; (with_reducible refine (H20.out _ HB8.out).mono ?_); rintro e w' ⟨rfl, rfl⟩)
          | (go_at_call 21; (with_reducible refine (H21.out _ HB8.out).mono ?_); rintro e w' ⟨rfl, rfl⟩)
          | (go_at_call 22; (with_reducible refine (H22.out _ HB8.out).mono ?_); rintro e w' ⟨rfl, rfl⟩)
          | (go_at_call 23; (with_reducible refine (H23c.out _ HB8.out).mono ?_); rintro e w' ⟨rfl, rfl⟩))
        have hx8 := (HB8.out.block _ HX3s.out).trans HX3.out
        have hD8 := (HBd.out.block _ (Array.getElem?_eq_some_iff.1 HD.out).1).trans HD.out
        have HD8 := Lib.hid hD8
        clear hD8
        cases t with
        | true =>
          go_wp2_with (first
            | (go_at_call 23; (with_reducible refine (H23a.out _ HB8.out).mono ?_); rintro e w' ⟨rfl, rfl⟩)
            | (go_at_call 23; (with_reducible refine (H23b.out _ HB8.out).mono ?_); rintro e w' ⟨rfl, rfl⟩)
            | (go_at_call 10; (with_reducible refine (hwk _).mono ?_); rintro e w9 ⟨rfl, hb⟩; have hx9 := (hb.block _ (Array.getElem?_eq_some_iff.1 hx8).1).trans hx8; have hD9 := (hb.block _ (Array.getElem?_eq_some_iff.1 HD8.out).1).trans HD8.out; have c9 := cell_of_heap hx9 0; have f9 := frozen_of_heap hx9 0; simp only [List.getElem?_toArray, List.getElem?_cons_zero] at c9; have HX9 := Lib.hid hx9; have HD9 := Lib.hid hD9; have HB9 := Lib.hid (HB8.out.trans (hb.mono HB8.out.size)); clear hx9 hD9 hb))
          refine ⟨(fun _ h => by cases h), ?_⟩
          have hz := heap_setCells (i := 0) (u := .bool true) HX9.out
          have hbq : But (fun q => q = w.heap.size) w9 (w9.setCell ⟨w.heap.size, 0, none⟩ (.bool true)) := (But.refl _ _).set ⟨w.heap.size, 0, none⟩ _ (.inl rfl)
          obtain ⟨W9, hW9⟩ : ∃ W9, w9.setCell ⟨w.heap.size, 0, none⟩ (.bool true) = W9 := ⟨_, rfl⟩
          rw [hW9] at hz hbq ⊢
          have hne : w7.heap.size ≠ w.heap.size := by have := HS7.out; have := HX3s.out; omega
          have hDf := But.box hbq HD9.out hne
          have hz2 := But.box (put_but W9 w7.heap.size (.deferred none)) hz (fun e => hne e.symm)
          have z0 := cell_of_heap hz2 0
          simp only [List.getElem?_toArray, List.getElem?_cons_zero, List.setIfInBounds_toArray, List.set_cons_zero] at z0
          have hb1w := HW3.out.trans (HB9.out.mono HW3.out.size)
          have hb9 := hb1w.trans (hbq.to_below hb1w.size (fun b e => by omega))
          refine retM1 (D := w7.heap.size) (v := .bool true) rfl hDf ?_ ⟨rfl, But.below hb9 (put_but _ _ _) (fun b e => by have := HS7.out; have := HX3s.out; omega)⟩
          simp [results, Try.results3, go_sem, z0]
        | false =>
          go_wp2_with (first
            | (go_at_call 10; (with_reducible refine (hwk _).mono ?_); rintro e w9 ⟨rfl, hb⟩; have hx9 := (hb.block _ (Array.getElem?_eq_some_iff.1 hx8).1).trans hx8; have hD9 := (hb.block _ (Array.getElem?_eq_some_iff.1 HD8.out).1).trans HD8.out; have c9 := cell_of_heap hx9 0; have f9 := frozen_of_heap hx9 0; simp only [List.getElem?_toArray, List.getElem?_cons_zero] at c9; have HX9 := Lib.hid hx9; have HD9 := Lib.hid hD9; have HB9 := Lib.hid (HB8.out.trans (hb.mono HB8.out.size)); clear hx9 hD9 hb))
          refine ⟨(fun _ h => by cases h), ?_⟩
          have hz := heap_setCells (i := 0) (u := .bool true) HX9.out
          have hbq : But (fun q => q = w.heap.size) w9 (w9.setCell ⟨w.heap.size, 0, none⟩ (.bool true)) := (But.refl _ _).set ⟨w.heap.size, 0, none⟩ _ (.inl rfl)
          obtain ⟨W9, hW9⟩ : ∃ W9, w9.setCell ⟨w.heap.size, 0, none⟩ (.bool true) = W9 := ⟨_, rfl⟩
          rw [hW9] at hz hbq ⊢
          have hne : w7.heap.size ≠ w.heap.size := by have := HS7.out; have := HX3s.out; omega
          have hDf := But.box hbq HD9.out hne
          have hz2 := But.box (put_but W9 w7.heap.size (.deferred none)) hz (fun e => hne e.symm)
          have z0 := cell_of_heap hz2 0
          simp only [List.getElem?_toArray, List.getElem?_cons_zero, List.setIfInBounds_toArray, List.set_cons_zero] at z0
          have hb1w := HW3.out.trans (HB9.out.mono HW3.out.size)
          have hb9 := hb1w.trans (hbq.to_below hb1w.size (fun b e => by omega))
          refine retM1 (D := w7.heap.size) (v := .bool true) rfl hDf ?_ ⟨rfl, But.below hb9 (put_but _ _ _) (fun b e => by have := HS7.out; have := HX3s.out; omega)⟩
          simp [results, Try.results3, go_sem, z0]
end Go.Proofs
namespace Go.Proofs
open Go Go.RowKit Sm Go.Lib Go.Maps Go.WideMaps
attribute [local go_sem] Oper.semAt_some
/-- a net in memory, by its data; what its calls may turn is of B: all but the messages' bytes -/
def Sm.Nt0 (B : Nat → Prop) (W : World) (p : Nat) (N : NM) : Prop :=
  ∃ Mb base A cap L, NAt W p Mb base N.s N.D A cap L ∧ L.map MsgM.d = N.P ∧ B p ∧ B Mb ∧ ∀ b, (Value.slice A L.length cap).ownBlock = some b → B b
theorem Sm.Nt0.keep {B : Nat → Prop} {W W' : World} {p : Nat} {N : NM} (h : Nt0 B W p N) (hb : Below W.heap.size W W') : Nt0 B W' p N := by
  obtain ⟨Mb, base, A, cap, L, h1, h2⟩ := h
  exact ⟨Mb, base, A, cap, L, h1.keep hb, h2⟩
theorem Sm.Nt0.up {B : Nat → Prop} {W : World} {p : Nat} {N : NM} (h : Nt0 B W p N) : Nt (fun _ => True) W p N := by
  obtain ⟨Mb, base, A, cap, L, h1, h2, _⟩ := h
  exact ⟨Mb, base, A, cap, L, h1, h2, trivial, trivial, fun _ _ => trivial, fun _ _ _ _ => trivial⟩
section
variable {B : Nat → Prop} {p : Nat} {N : NM}
theorem Sm.down_0 (x y : Int) (is : Bool) (w : World) (h : Nt0 B w p N) : Calls Try.prog 18 #[.pointer (some ⟨p, 0, none⟩), .int .i64 x, .int .i64 y, .bool is] w fun e w' => e = .returned (.int .i64 (downN N x y is).2) ∧ But B w w' := by
  obtain ⟨Mb, base, A, cap, L, h1, h2, h3, h4, h5⟩ := h
  unfold downN
  cases hl : lnkB N.s x y with
  | true =>
    rw [if_pos rfl]
    refine (down_yes x y is w h1 hl).mono ?_
    rintro e w' ⟨rfl, k1, k2⟩
    exact ⟨rfl, k2.mono (fun b _ e => by
      rcases e with e | e
      · exact e ▸ h3
      · exact e ▸ h4)⟩
  | false =>
    rw [if_neg (by decide)]
    refine (down_bad x y is w h1 hl).mono ?_
    rintro e w' ⟨rfl, k1⟩
    exact ⟨rfl, But.of_all k1 _⟩
theorem Sm.put_0 (x y : Int) (A : Option Addr) (n c : Nat) (l : List (BitVec 8)) (w : World) (h : Nt0 B w p N) (hc : N.s.came < 1000000000) (hln : l.length = n) (hn : n ≤ 1000000000) (hrd : Rd w w.heap.size A l) :
    Calls Try.prog 12 #[.pointer (some ⟨p, 0, none⟩), .int .i64 x, .int .i64 y, .slice A n c] w fun e w' => e = .returned (.tuple #[.int .i64 (putN N x y l).2.1, .int .i64 (putN N x y l).2.2]) ∧ But B w w' := by
  obtain ⟨Mb, base, A0, cap, L, h1, h2, h3, h4, h5⟩ := h
  have hl : L.length = N.P.length := by rw [← h2, List.length_map]
  subst hln
  unfold putN
  by_cases hE : putE N.s N.D N.P.length x y l.length = 0
  · rw [if_neg (by simp [hE])]
    have hE2 := hE
    unfold putE at hE2
    split at hE2
    · cases hE2
    · rename_i e1
      split at hE2
      · cases hE2
      · rename_i e2
        split at hE2
        · cases hE2
        · rename_i e3
          split at hE2
          · cases hE2
          · rename_i e4
            refine (put_ok x y A l.length c w.heap.size l w h1 (by cases hh : lnkB N.s x y <;> simp_all) (by omega) e3 (by rw [hl]; exact e4) hc rfl hrd (Nat.le_refl _)).mono ?_
            rintro e w' ⟨A', cap', m, rfl, k1, k2, k3, k4, k5, k6, k7, k8⟩
            refine ⟨rfl, k6.mono (fun b _ e => ?_)⟩
            rcases e with e | e
            · exact e ▸ h3
            · exact h5 b e
  · rw [if_pos hE]
    have hb := put_bad x y A l.length c w h1 hn (by rw [hl]; exact hE)
    rw [hl] at hb
    refine hb.mono ?_
    rintro e w' ⟨rfl, k1⟩
    exact ⟨rfl, But.of_all k1 _⟩
theorem Sm.parts0 {W : World} (h : Nt0 B W p N) (k : Nat) (hk : k < N.P.length) : ∃ Mb base g cap L m, NAt W p Mb base N.s N.D (some ⟨g, 0, none⟩) cap L ∧ L.map MsgM.d = N.P ∧ B p ∧ B g ∧ L.length = k + 1 + m := by
  obtain ⟨Mb, base, A, cap, L, h1, h2, h3, h4, h5⟩ := h
  have hl : L.length = N.P.length := by rw [← h2, List.length_map]
  obtain ⟨g, cap', hv, _, _⟩ := h1.row.form (by omega)
  injection hv with hv1 hv2 hv3
  subst hv1
  exact ⟨Mb, base, g, cap, L, L.length - (k + 1), h1, h2, h3, h5 g rfl, by omega⟩
theorem Sm.take_0 (x y pick : Int) (w : World) (h : Nt0 B w p N) : Calls Try.prog 14 #[.pointer (some ⟨p, 0, none⟩), .int .i64 x, .int .i64 y, .int .i64 pick] w fun e w' => ∃ A c, e = .returned (.tuple #[parVal (takeN N x y pick).2.1 A c, .int .i64 (takeN N x y pick).2.2]) ∧ ParV w' w.heap.size (takeN N x y pick).2.1 A c ∧ But B w w' := by
  by_cases hE : reachE N x y pick = 0
  · have hf : findE N x y = 0 := by
      unfold reachE at hE
      by_cases e : findE N x y = 0
      · exact e
      · rw [if_pos e] at hE
        exact hE
    have hlt := (find_ok pick hf).2.1
    have ht : takeN N x y pick = (N.less (findA N x y pick), findP N x y pick, 0) := by
      unfold takeN
      rw [if_neg (by simp [hE])]
    have hp : peekN N x y pick = (findP N x y pick, 0) := by
      unfold peekN
      rw [if_neg (by simp [hE])]
    obtain ⟨Mb, base, g, cap, L, m, h1, h2, h3, h5, h7⟩ := parts0 h (findA N x y pick) hlt
    rw [ht]
    refine (take_yes x y pick (findA N x y pick) m (findP N x y pick) w h1 h7 (fun W hb => ?_)).mono ?_
    · have := reach_N x y pick W (h1.keep hb) h2
      rw [hp, if_pos hE] at this
      exact this
    · rintro e w' ⟨A, c, rfl, k1, k2, k3⟩
      refine ⟨A, c, rfl, k1, k3.mono (fun b _ e => ?_)⟩
      rcases e with e | e
      · exact e ▸ h3
      · have e3 : g = b := Option.some.inj e
        exact e3 ▸ h5
  · have ht : takeN N x y pick = (N, zeroP, reachE N x y pick) := by
      unfold takeN
      rw [if_pos hE]
    have hp : peekN N x y pick = (zeroP, reachE N x y pick) := by
      unfold peekN
      rw [if_pos hE]
    rw [ht]
    obtain ⟨Mb, base, A, cap, L, h1, h2, _⟩ := h
    refine (take_bad (.pointer (some ⟨p, 0, none⟩)) x y pick 0 (reachE N x y pick) zeroP w hE (fun W hb => ?_)).mono ?_
    · have := reach_N x y pick W (h1.keep hb) h2
      rw [hp, if_neg hE] at this
      exact this
    · rintro e w' ⟨A, c, rfl, k1, k2⟩
      exact ⟨A, c, rfl, k1, But.of_all k2 _⟩
theorem Sm.drop_0 (x y pick : Int) (w : World) (h : Nt0 B w p N) : Calls Try.prog 15 #[.pointer (some ⟨p, 0, none⟩), .int .i64 x, .int .i64 y, .int .i64 pick] w fun e w' => e = .returned (.tuple #[.int .i64 (dropN N x y pick).2.1, .int .i64 (dropN N x y pick).2.2]) ∧ But B w w' := by
  have hNe : ∀ L : List MsgM, L.map MsgM.d = N.P → (⟨N.s, N.D, L.map MsgM.d⟩ : NM) = N := fun L hL => by rw [hL]
  by_cases hE : findE N x y = 0
  · have hlt := (find_ok pick hE).2.1
    have ht : dropN N x y pick = (N.less (findA N x y pick), (findP N x y pick).1, 0) := by
      unfold dropN
      rw [if_neg (by simp [hE])]
    obtain ⟨Mb, base, g, cap, L, m, h1, h2, h3, h5, h7⟩ := parts0 h (findA N x y pick) hlt
    obtain ⟨M, hM, hfp, _⟩ := find_msg h2 pick hE
    rw [ht, hfp]
    have hfy := find_yes x y pick w h1 (by rw [hNe L h2]; exact hE)
    rw [hNe L h2] at hfy
    refine (drop_yes x y pick (findA N x y pick) m M w h1 h7 hM hfy).mono ?_
    rintro e w' ⟨rfl, k2, k3⟩
    refine ⟨rfl, k3.mono (fun b _ e => ?_)⟩
    rcases e with e | e
    · exact e ▸ h3
    · have e3 : g = b := Option.some.inj e
      exact e3 ▸ h5
  · have ht : dropN N x y pick = (N, 0, findE N x y) := by
      unfold dropN
      rw [if_pos hE]
    rw [ht]
    obtain ⟨Mb, base, A, cap, L, h1, h2, _⟩ := h
    have hfe := find_err x y pick w h1 (by rw [hNe L h2]; exact hE)
    rw [hNe L h2] at hfe
    refine (drop_bad (.pointer (some ⟨p, 0, none⟩)) x y pick _ w hE hfe).mono ?_
    rintro e w' ⟨rfl, k2⟩
    exact ⟨rfl, But.of_all k2 _⟩
end
set_option maxRecDepth 100000 in
set_option maxHeartbeats 4000000 in
theorem Sm.actDrop0 {B S : Nat → Prop} {p : Nat} {N : NM} {AL AD : Option Addr} {nL cL nD cD : Nat} {R : List MsgM} (x y pick : Int) (Ax : Option Addr) (nx cx : Nat) (is : Bool) (w : World) (hn : Nt0 B w p N) (h : RfAt S w N AL nL cL AD nD cD R) (hSB : ∀ b, B b → S b) (hSw : ∀ b, S b → b < w.heap.size) :
    Calls Try.prog 27 #[.pointer (some ⟨p, 0, none⟩), refV N.s AL nL cL AD nD cD, .agg #[.int .i64 3, .int .i64 x, .int .i64 y, .int .i64 pick, .slice Ax nx cx, .bool is]] w fun e w' => ∃ A' nM c', e = .returned (.tuple #[refV N.s A' nM c' AD nD cD, .bool true]) ∧ But B w w' := by
  have hB : ∀ b, B b → b < w.heap.size := fun b e => hSw b (hSB b e)
  obtain ⟨S2, hS2⟩ : ∃ S2 : Nat → Prop, S2 = fun b => S b ∨ b = w.heap.size + 2 := ⟨_, rfl⟩
  have h2 : RfAt S2 w N AL nL cL AD nD cD R := h.less (fun b hb e => by
    rw [hS2] at e
    rcases e with e | e
    · exact e
    · omega)
  have hS2b : ∀ b, S2 b → b < w.heap.size + 3 := fun b e => by
    rw [hS2] at e
    rcases e with e | e
    · have := hSw b e; omega
    · omega
  have HS2 : Hid ((∀ b, B b → S2 b) ∧ S2 (w.heap.size + 2) ∧ ∀ b, S b → S2 b) := Lib.hid (by rw [hS2]; exact ⟨fun b e => .inl (hSB b e), .inr rfl, fun b e => .inl e⟩)
  have HSB := Lib.hid hSB
  obtain ⟨w1, hw1⟩ : ∃ V, ((w.alloc (.cells (refB N.s AL nL cL AD nD cD) 29)).alloc (.cells #[.int .i64 3, .int .i64 x, .int .i64 y, .int .i64 pick, .slice Ax nx cx, .bool is] 64)).alloc (.cells #[.int .i64 0, .int .i64 0, .int .i64 0, .slice none 0 0, .slice none 0 0] 29) = V := ⟨_, rfl⟩
  have hb1 : Below w.heap.size w w1 := by rw [← hw1]; exact (bel2 w _ _).alloc (bel2 w _ _).size _
  have hx4 : w1.heap[w.heap.size]? = some (.cells (refB N.s AL nL cL AD nD cD) 29 (0, 0)) := by rw [← hw1]; exact old_alloc _ (old_alloc _ (new_alloc _ rfl))
  have hx5 : w1.heap[w.heap.size + 1]? = some (.cells #[.int .i64 3, .int .i64 x, .int .i64 y, .int .i64 pick, .slice Ax nx cx, .bool is] 64 (0, 0)) := by rw [← hw1]; exact old_alloc _ (new_alloc _ (by simp))
  have hx6 : w1.heap[w.heap.size + 2]? = some (.cells #[.int .i64 0, .int .i64 0, .int .i64 0, .slice none 0 0, .slice none 0 0] 29 (0, 0)) := by rw [← hw1]; exact new_alloc _ (by simp)
  have hs1 : w1.heap.size = w.heap.size + 3 := by rw [← hw1]; simp
  have hr := refDrop_any x y pick w1 (h2.keep hb1) (fun b e => by have := hS2b b e; omega)
  have hd := fun W (hb : Below w.heap.size w W) => drop_0 x y pick W (hn.keep hb)
  have hnum := dropN_num N x y pick
  unfold refV at hr ⊢
  unfold refB at hx4 hw1
  obtain ⟨a1, ha1⟩ : ∃ a, N.s.ends = a := ⟨_, rfl⟩
  obtain ⟨a2, ha2⟩ : ∃ a, N.s.most = a := ⟨_, rfl⟩
  obtain ⟨a3, ha3⟩ : ∃ a, N.s.came = a := ⟨_, rfl⟩
  rw [ha1, ha2, ha3] at hr hx4 hw1 ⊢
  obtain ⟨⟨N2, M, E⟩, hD⟩ : ∃ d, dropN N x y pick = d := ⟨_, rfl⟩
  rw [hD] at hr hd hnum
  simp only at hr hd hnum
  have h17 := fun W => num_any E W hnum.1 hnum.2
  have H17 := Lib.hid h17
  have HD := Lib.hid hd
  have HB := Lib.hid hb1
  have HHB := Lib.hid hB
  have H5 := Lib.hid hx5
  have H6 := Lib.hid hx6
  have HS1 := Lib.hid hs1
  obtain ⟨⟨c0, c1, c2, c3, c4⟩, _⟩ := five_cells hx4
  obtain ⟨d0, d1, d2, d3, d4, d5⟩ := six_cells hx5
  clear h h2 hS2b hS2 hn hd hb1 hx4 hx5 hx6 hs1 hnum h17 hD hB hSB hSw ha1 ha2 ha3
  go_enter Try.func27, Try.ntmps27
  go_upto_region 1 with fail
  clear hw1
  go_upto_region 26 with (go_at_call 57; (with_reducible refine hr.mono ?_); clear hr; rintro e w2 ⟨A9, nM, c9, R9, rfl, hrf, hbb⟩)
  have hbc : Below w2.heap.size w2 (w2.alloc (.cells #[.int .i64 a1, .int .i64 a2, .int .i64 a3, .slice A9 nM c9, .slice AD nD cD] 29)) := (Below.refl _ _).alloc (Nat.le_refl _) _
  have hx26 := World.alloc_heap_new w2 (.cells #[.int .i64 a1, .int .i64 a2, .int .i64 a3, .slice A9 nM c9, .slice AD nD cD] 29)
  obtain ⟨w3, hw3⟩ : ∃ V, w2.alloc (.cells #[.int .i64 a1, .int .i64 a2, .int .i64 a3, .slice A9 nM c9, .slice AD nD cD] 29) = V := ⟨_, rfl⟩
  rw [hw3] at hbc hx26 ⊢
  have hbe : Below w1.heap.size w1 w3 := hbb.trans (hbc.mono hbb.size)
  have hbw := HB.out.trans (hbe.mono HB.out.size)
  have hd3 := HD.out w3 hbw
  have hrf3 := hrf.keep hbc
  have HBW := Lib.hid hbw
  have HBE := Lib.hid hbe
  have HS22 := Lib.hid (show w.heap.size + 3 ≤ w2.heap.size by have := hbb.size; have := HS1.out; omega)
  have HX26 := Lib.hid hx26
  have HRF3 := Lib.hid hrf3
  clear c0 c1 c2 c3 c4 d0 d1 d2 d3 d4 d5
  obtain ⟨d0, d1, d2, d3, d4, d5⟩ := six_cells ((hbe.block _ (by have := HS1.out; omega)).trans H5.out)
  clear hbb hbc hrf hrf3 hx26 hw3 hbe hbw
  obtain ⟨w3', hw3'⟩ : ∃ V : World, V = w3 := ⟨_, rfl⟩
  go_upto_region 27 with (go_at_call 15; (with_reducible refine hd3.mono ?_); clear hd3; rintro e w4 ⟨rfl, hbut⟩)
  have HBUT := Lib.hid hbut
  have hnB : ∀ q, w.heap.size ≤ q → ¬ B q := fun q e e2 => by have := HHB.out q e2; omega
  have hs3 : w2.heap.size < w3.heap.size := (Array.getElem?_eq_some_iff.1 HX26.out).1
  have HT : Hid (∀ W, But (fun q => q = w.heap.size + 2) w4 W → W.heap[w2.heap.size]? = some (.cells #[.int .i64 a1, .int .i64 a2, .int .i64 a3, .slice A9 nM c9, .slice AD nD cD] 29 (0, 0))) := Lib.hid fun W hb => hb.box (HBUT.out.box HX26.out (hnB _ (by have := HS22.out; omega))) (by have := HS22.out; omega)
  have HX6 : Hid (∀ W, Below w4.heap.size w4 W → W.heap[w.heap.size + 2]? = some (.cells #[.int .i64 0, .int .i64 0, .int .i64 0, .slice none 0 0, .slice none 0 0] 29 (0, 0))) := Lib.hid fun W hb => (hb.block _ (by have := HS22.out; have := HBUT.out.size; omega)).trans (HBUT.out.box ((HBE.out.block _ (by have := HS1.out; omega)).trans H6.out) (hnB _ (by omega)))
  clear hbut d0 d1 d2 d3 d4 d5 hw3' w3'
  have hS0 : (fun W => But (fun q => q = w.heap.size + 2) w4 W) w4.drew := (But.refl _ _).drew
  refine wp_region_held_drew (S := fun W => But (fun q => q = w.heap.size + 2) w4 W) rfl hS0 (fun hHeld => ?_)
  simp only [List.size_toArray, List.length_cons, List.length_nil, Nat.reduceAdd]
  have HB0 : Hid (Below w4.heap.size w4 w4.drew) := Lib.hid (Below.refl _ _).drew
  obtain ⟨V0, hV0⟩ : ∃ V, w4.drew = V := ⟨_, rfl⟩
  rw [hV0] at hHeld hS0 HB0 ⊢
  clear hV0
  refine wpAnyH_take (i := 0) (v := .agg #[.int .i64 a1, .int .i64 a2, .int .i64 a3, .slice A9 nM c9, .slice AD nD cD]) rfl (by kernel_rfl) (by kernel_rfl) (by kernel_rfl) (fun _ _ _ h => h) (Or.inl ⟨by rfl, ?_⟩) (by assumption) ?_
  · intro wx hs1; obtain ⟨k0, k1, k2, k3, k4⟩ := (five_cells (HT.out wx hs1)).1; go_simp
  (try simp only [Act.put, List.getElem_toArray, List.getElem_cons_zero, List.setIfInBounds_toArray, List.set_cons_zero, List.set_cons_succ])
  refine wpAnyH_take (i := 1) (v := .int .i64 M) rfl (by kernel_rfl) (by kernel_rfl) (by kernel_rfl) (fun _ _ _ h => h) (Or.inl ⟨by rfl, ?_⟩) (by assumption) ?_
  · intro wx hs1; go_simp
  (try simp only [Act.put, List.getElem_toArray, List.getElem_cons_succ, List.getElem_cons_zero, List.setIfInBounds_toArray, List.set_cons_zero, List.set_cons_succ])
  refine wpAnyH_take (i := 2) (v := .int .i64 M) rfl (by kernel_rfl) (by kernel_rfl) (by kernel_rfl) (fun _ _ _ h => h) (Or.inl ⟨by rfl, ?_⟩) (by assumption) ?_
  · intro wx hs1; go_simp
  (try simp only [Act.put, List.getElem_toArray, List.getElem_cons_succ, List.getElem_cons_zero, List.setIfInBounds_toArray, List.set_cons_zero, List.set_cons_succ])
  refine wpAnyH_take (i := 3) (v := .bool true) rfl (by kernel_rfl) (by kernel_rfl) (by kernel_rfl) (fun _ _ _ h => h) (Or.inl ⟨by rfl, ?_⟩) (by assumption) ?_
  · intro wx hs1; go_simp
  (try simp only [Act.put, List.getElem_toArray, List.getElem_cons_succ, List.getElem_cons_zero, List.setIfInBounds_toArray, List.set_cons_zero, List.set_cons_succ])
  refine wpAnyH_take (i := 4) (v := .bool true) rfl (by kernel_rfl) (by kernel_rfl) (by kernel_rfl) (fun _ _ _ h => h) (Or.inl ⟨by rfl, ?_⟩) (by assumption) ?_
  · intro wx hs1; go_simp
  (try simp only [Act.put, List.getElem_toArray, List.getElem_cons_succ, List.getElem_cons_zero, List.setIfInBounds_toArray, List.set_cons_zero, List.set_cons_succ])
  refine wpAnyH_take (i := 5) (v := .int .i64 E) rfl (by kernel_rfl) (by kernel_rfl) (by kernel_rfl) (fun _ _ _ h => h) (Or.inl ⟨by rfl, ?_⟩) (by assumption) ?_
  · intro wx hs1; go_simp
  (try simp only [Act.put, List.getElem_toArray, List.getElem_cons_succ, List.getElem_cons_zero, List.setIfInBounds_toArray, List.set_cons_zero, List.set_cons_succ])
  refine wpAnyH_take (i := 7) (v := .int .i64 E) rfl (by kernel_rfl) (by kernel_rfl) (by kernel_rfl) (fun _ _ _ h => h) (Or.inl ⟨by rfl, ?_⟩) (by assumption) ?_
  · intro wx hs1; go_simp
  (try simp only [Act.put, List.getElem_toArray, List.getElem_cons_succ, List.getElem_cons_zero, List.setIfInBounds_toArray, List.set_cons_zero, List.set_cons_succ])
  refine wpAnyH_ready (rs := [6]) (by kernel_rfl) (by simp) (AllReadyH.cons rfl (fun K hK => ?_) AllReadyH.nil)
  go_simp
  go_at_call 17
  (with_reducible refine (H17.out _).mono ?_)
  rintro e w5 ⟨rfl, rfl⟩
  try dsimp only
  have hS := hS0
  refine hK.out _ _ hS (fun _ => ?_)
  clear hK K
  (try simp only [Act.put, List.getElem_toArray, List.getElem_cons_succ, List.getElem_cons_zero, List.setIfInBounds_toArray, List.set_cons_zero, List.set_cons_succ])
  refine wpAnyH_take (i := 8) (v := .bool true) rfl (by kernel_rfl) (by kernel_rfl) (by kernel_rfl) (fun _ _ _ h => h) (Or.inl ⟨by rfl, ?_⟩) (by assumption) ?_
  · intro wx hs1; go_simp
  (try simp only [Act.put, List.getElem_toArray, List.getElem_cons_succ, List.getElem_cons_zero, List.setIfInBounds_toArray, List.set_cons_zero, List.set_cons_succ])
  refine wpAnyH_take (i := 9) (v := .bool true) rfl (by kernel_rfl) (by kernel_rfl) (by kernel_rfl) (fun _ _ _ h => h) (Or.inl ⟨by rfl, ?_⟩) (by assumption) ?_
  · intro wx hs1; go_simp
  (try simp only [Act.put, List.getElem_toArray, List.getElem_cons_succ, List.getElem_cons_zero, List.setIfInBounds_toArray, List.set_cons_zero, List.set_cons_succ])
  obtain ⟨⟨j0, j1, j2, j3, j4⟩, ⟨g0, g1, g2, g3, g4⟩⟩ := five_cells (HX6.out V0 HB0.out)
  refine wpAnyH_ready (rs := [10]) (by kernel_rfl) (by simp) (AllReadyH.cons rfl (fun K hK => ?_) AllReadyH.nil)
  go_simp
  try dsimp only
  have hW5x := put5 (HX6.out V0 HB0.out) (.int .i64 a1) (.int .i64 a2) (.int .i64 a3) (.slice A9 nM c9) (.slice AD nD cD)
  have hW5b := put5_but V0 (w.heap.size + 2) (.int .i64 a1) (.int .i64 a2) (.int .i64 a3) (.slice A9 nM c9) (.slice AD nD cD)
  unfold put5W at hW5x hW5b
  obtain ⟨W5, hqW5⟩ : ∃ V, put5W V0 (w.heap.size + 2) (.int .i64 a1) (.int .i64 a2) (.int .i64 a3) (.slice A9 nM c9) (.slice AD nD cD) = V := ⟨_, rfl⟩
  unfold put5W at hqW5
  rw [hqW5] at hW5x hW5b ⊢
  clear hqW5 j0 j1 j2 j3 j4 g0 g1 g2 g3 g4
  have hS := hS0.trans hW5b (fun _ _ e => e)
  refine hK.out _ _ hS (fun _ => ?_)
  clear hK K
  (try simp only [Act.put, List.getElem_toArray, List.getElem_cons_succ, List.getElem_cons_zero, List.setIfInBounds_toArray, List.set_cons_zero, List.set_cons_succ])
  refine wpAnyH_take (i := 11) (v := .bool true) rfl (by kernel_rfl) (by kernel_rfl) (by kernel_rfl) (fun _ _ _ h => h) (Or.inl ⟨by rfl, ?_⟩) (by assumption) ?_
  · intro wx hs1; go_simp
  (try simp only [Act.put, List.getElem_toArray, List.getElem_cons_succ, List.getElem_cons_zero, List.setIfInBounds_toArray, List.set_cons_zero, List.set_cons_succ])
  refine wpAnyH_done (by kernel_rfl) ?_ _
  obtain ⟨⟨z0, z1, z2, z3, z4⟩, _⟩ := five_cells hW5x
  have hb4 := (But.of_all HBW.out B).trans HBUT.out (fun _ _ e => e)
  have hb5 := hb4.trans (But.of_all HB0.out B) (fun _ _ e => e)
  have hb6 := hb5.trans hW5b (fun b e1 e2 => by omega)
  go_wp2
  exact bodyPost_ret (v := .tuple #[.agg #[.int .i64 a1, .int .i64 a2, .int .i64 a3, .slice A9 nM c9, .slice AD nD cD], .bool true]) (by simp [results, Try.results27, go_sem, z0, z1, z2, z3, z4]) rfl ⟨A9, nM, c9, rfl, hb6⟩
set_option maxRecDepth 100000 in
set_option maxHeartbeats 4000000 in
theorem Sm.actTake0 {B S : Nat → Prop} {p : Nat} {N : NM} {AL AD : Option Addr} {nL cL nD cD : Nat} {R : List MsgM} (x y pick : Int) (Ax : Option Addr) (nx cx : Nat) (is : Bool) (w : World) (hn : Nt0 B w p N) (h : RfAt S w N AL nL cL AD nD cD R) (hSB : ∀ b, B b → S b) (hSw : ∀ b, S b → b < w.heap.size) :
    Calls Try.prog 27 #[.pointer (some ⟨p, 0, none⟩), refV N.s AL nL cL AD nD cD, .agg #[.int .i64 2, .int .i64 x, .int .i64 y, .int .i64 pick, .slice Ax nx cx, .bool is]] w fun e w' => ∃ A' nM c', e = .returned (.tuple #[refV N.s A' nM c' AD nD cD, .bool true]) ∧ But B w w' := by
  have hB : ∀ b, B b → b < w.heap.size := fun b e => hSw b (hSB b e)
  obtain ⟨S2, hS2⟩ : ∃ S2 : Nat → Prop, S2 = fun b => S b ∨ b = w.heap.size + 2 := ⟨_, rfl⟩
  have h2 : RfAt S2 w N AL nL cL AD nD cD R := h.less (fun b hb e => by
    rw [hS2] at e
    rcases e with e | e
    · exact e
    · omega)
  have hS2b : ∀ b, S2 b → b < w.heap.size + 3 := fun b e => by
    rw [hS2] at e
    rcases e with e | e
    · have := hSw b e; omega
    · omega
  have HS2 : Hid ((∀ b, B b → S2 b) ∧ S2 (w.heap.size + 2) ∧ ∀ b, S b → S2 b) := Lib.hid (by rw [hS2]; exact ⟨fun b e => .inl (hSB b e), .inr rfl, fun b e => .inl e⟩)
  have HSB := Lib.hid hSB
  obtain ⟨w1, hw1⟩ : ∃ V, ((w.alloc (.cells (refB N.s AL nL cL AD nD cD) 29)).alloc (.cells #[.int .i64 2, .int .i64 x, .int .i64 y, .int .i64 pick, .slice Ax nx cx, .bool is] 64)).alloc (.cells #[.int .i64 0, .int .i64 0, .int .i64 0, .slice none 0 0, .slice none 0 0] 29) = V := ⟨_, rfl⟩
  have hb1 : Below w.heap.size w w1 := by rw [← hw1]; exact (bel2 w _ _).alloc (bel2 w _ _).size _
  have hx4 : w1.heap[w.heap.size]? = some (.cells (refB N.s AL nL cL AD nD cD) 29 (0, 0)) := by rw [← hw1]; exact old_alloc _ (old_alloc _ (new_alloc _ rfl))
  have hx5 : w1.heap[w.heap.size + 1]? = some (.cells #[.int .i64 2, .int .i64 x, .int .i64 y, .int .i64 pick, .slice Ax nx cx, .bool is] 64 (0, 0)) := by rw [← hw1]; exact old_alloc _ (new_alloc _ (by simp))
  have hx6 : w1.heap[w.heap.size + 2]? = some (.cells #[.int .i64 0, .int .i64 0, .int .i64 0, .slice none 0 0, .slice none 0 0] 29 (0, 0)) := by rw [← hw1]; exact new_alloc _ (by simp)
  have hs1 : w1.heap.size = w.heap.size + 3 := by rw [← hw1]; simp
  have hr := refTake_any x y pick w1 (h2.keep hb1) (fun b e => by have := hS2b b e; omega)
  have hd := fun W (hb : Below w.heap.size w W) => take_0 x y pick W (hn.keep hb)
  have hnum := takeN_num N x y pick
  unfold refV at hr ⊢
  unfold refB at hx4 hw1
  obtain ⟨a1, ha1⟩ : ∃ a, N.s.ends = a := ⟨_, rfl⟩
  obtain ⟨a2, ha2⟩ : ∃ a, N.s.most = a := ⟨_, rfl⟩
  obtain ⟨a3, ha3⟩ : ∃ a, N.s.came = a := ⟨_, rfl⟩
  rw [ha1, ha2, ha3] at hr hx4 hw1 ⊢
  obtain ⟨⟨N2, ⟨m1, m2, m3, ml⟩, E⟩, hD⟩ : ∃ d, takeN N x y pick = d := ⟨_, rfl⟩
  rw [hD] at hr hd hnum
  unfold parVal at hr hd
  simp only at hr hd hnum
  obtain ⟨m4, hm4⟩ : ∃ m4, ml.length = m4 := ⟨_, rfl⟩
  rw [hm4] at hr hd
  have h17 := fun W => num_any E W hnum.1 hnum.2
  have HM4 := Lib.hid hm4
  have H17 := Lib.hid h17
  have HD := Lib.hid hd
  have HB := Lib.hid hb1
  have HHB := Lib.hid hB
  have H5 := Lib.hid hx5
  have H6 := Lib.hid hx6
  have HS1 := Lib.hid hs1
  obtain ⟨⟨c0, c1, c2, c3, c4⟩, _⟩ := five_cells hx4
  obtain ⟨d0, d1, d2, d3, d4, d5⟩ := six_cells hx5
  clear h h2 hS2b hS2 hn hd hb1 hx4 hx5 hx6 hs1 hnum h17 hD hB hSB hSw ha1 ha2 ha3 hm4
  go_enter Try.func27, Try.ntmps27
  go_upto_region 1 with fail
  clear hw1
  go_upto_region 22 with (go_at_call 56; (with_reducible refine hr.mono ?_); clear hr; rintro e w2 ⟨A9, nM, c9, R9, A8, c8, rfl, hrf, hrd, hbb⟩)
  have hbc : Below w2.heap.size w2 ((w2.alloc (.cells #[.int .i64 a1, .int .i64 a2, .int .i64 a3, .slice A9 nM c9, .slice AD nD cD] 29)).alloc (.cells #[.int .i64 m1, .int .i64 m2, .int .i64 m3, .slice A8 m4 c8] 41)) := bel2 w2 _ _
  have hx21 : ((w2.alloc (.cells #[.int .i64 a1, .int .i64 a2, .int .i64 a3, .slice A9 nM c9, .slice AD nD cD] 29)).alloc (.cells #[.int .i64 m1, .int .i64 m2, .int .i64 m3, .slice A8 m4 c8] 41)).heap[w2.heap.size]? = some (.cells #[.int .i64 a1, .int .i64 a2, .int .i64 a3, .slice A9 nM c9, .slice AD nD cD] 29 (0, 0)) := old_alloc _ (new_alloc _ rfl)
  have hx22 : ((w2.alloc (.cells #[.int .i64 a1, .int .i64 a2, .int .i64 a3, .slice A9 nM c9, .slice AD nD cD] 29)).alloc (.cells #[.int .i64 m1, .int .i64 m2, .int .i64 m3, .slice A8 m4 c8] 41)).heap[w2.heap.size + 1]? = some (.cells #[.int .i64 m1, .int .i64 m2, .int .i64 m3, .slice A8 m4 c8] 41 (0, 0)) := new_alloc _ (by simp)
  obtain ⟨w3, hw3⟩ : ∃ V, (w2.alloc (.cells #[.int .i64 a1, .int .i64 a2, .int .i64 a3, .slice A9 nM c9, .slice AD nD cD] 29)).alloc (.cells #[.int .i64 m1, .int .i64 m2, .int .i64 m3, .slice A8 m4 c8] 41) = V := ⟨_, rfl⟩
  rw [hw3] at hbc hx21 hx22 ⊢
  have hbe : Below w1.heap.size w1 w3 := hbb.trans (hbc.mono hbb.size)
  have hbw := HB.out.trans (hbe.mono HB.out.size)
  have hd3 := HD.out w3 hbw
  have HBW := Lib.hid hbw
  have HBE := Lib.hid hbe
  have HS22 := Lib.hid (show w.heap.size + 3 ≤ w2.heap.size by have := hbb.size; have := HS1.out; omega)
  have HX21 := Lib.hid hx21
  have HX22 := Lib.hid hx22
  have HRF3 := Lib.hid (hrf.keep hbc)
  have HRD3 := Lib.hid (hrd.but (But.of_all hbc (fun _ => False)) (fun _ e => e.elim))
  clear c0 c1 c2 c3 c4 d0 d1 d2 d3 d4 d5
  obtain ⟨d0, d1, d2, d3, d4, d5⟩ := six_cells ((hbe.block _ (by have := HS1.out; omega)).trans H5.out)
  clear hbb hbc hrf hrd hx21 hx22 hw3 hbe hbw
  obtain ⟨w3', hw3'⟩ : ∃ V : World, V = w3 := ⟨_, rfl⟩
  go_upto_region 23 with (go_at_call 14; (with_reducible refine hd3.mono ?_); clear hd3; rintro e w4 ⟨A7, c7, rfl, hpv, hbut⟩)
  have hbc : Below w4.heap.size w4 (w4.alloc (.cells #[.int .i64 m1, .int .i64 m2, .int .i64 m3, .slice A7 m4 c7] 41)) := (Below.refl _ _).alloc (Nat.le_refl _) _
  have hx24 := World.alloc_heap_new w4 (.cells #[.int .i64 m1, .int .i64 m2, .int .i64 m3, .slice A7 m4 c7] 41)
  obtain ⟨w5, hw5⟩ : ∃ V, w4.alloc (.cells #[.int .i64 m1, .int .i64 m2, .int .i64 m3, .slice A7 m4 c7] 41) = V := ⟨_, rfl⟩
  rw [hw5] at hbc hx24 ⊢
  have hbut5 := hbut.trans (But.of_all hbc B) (fun _ _ e => e)
  have HBUT := Lib.hid hbut5
  have HRD7 : Hid (Rds w5 (fun _ => False) A7 (ml.map byteCell)) := Lib.hid (by
    have h9 := hpv
    unfold ParV at h9
    exact own_rds (own_below h9 hbc) (fun _ e => e.elim))
  have hnB : ∀ q, w.heap.size ≤ q → ¬ B q := fun q e e2 => by have := HHB.out q e2; omega
  have hs3 : w2.heap.size + 1 < w3.heap.size := (Array.getElem?_eq_some_iff.1 HX22.out).1
  have hs4 : w3.heap.size ≤ w4.heap.size := hbut.size
  have HT : Hid (∀ W, But (fun q => q = w.heap.size + 2) w5 W → W.heap[w2.heap.size]? = some (.cells #[.int .i64 a1, .int .i64 a2, .int .i64 a3, .slice A9 nM c9, .slice AD nD cD] 29 (0, 0))) := Lib.hid fun W hb => hb.box (HBUT.out.box HX21.out (hnB _ (by have := HS22.out; omega))) (by have := HS22.out; omega)
  have HP1 : Hid (∀ W, But (fun q => q = w.heap.size + 2) w5 W → W.heap[w2.heap.size + 1]? = some (.cells #[.int .i64 m1, .int .i64 m2, .int .i64 m3, .slice A8 m4 c8] 41 (0, 0))) := Lib.hid fun W hb => hb.box (HBUT.out.box HX22.out (hnB _ (by have := HS22.out; omega))) (by have := HS22.out; omega)
  have HP2 : Hid (∀ W, But (fun q => q = w.heap.size + 2) w5 W → W.heap[w4.heap.size]? = some (.cells #[.int .i64 m1, .int .i64 m2, .int .i64 m3, .slice A7 m4 c7] 41 (0, 0))) := Lib.hid fun W hb => hb.box hx24 (by have := HS22.out; omega)
  have HX6 : Hid (∀ W, Below w5.heap.size w5 W → W.heap[w.heap.size + 2]? = some (.cells #[.int .i64 0, .int .i64 0, .int .i64 0, .slice none 0 0, .slice none 0 0] 29 (0, 0))) := Lib.hid fun W hb => (hb.block _ (by have := HS22.out; have := HBUT.out.size; omega)).trans (HBUT.out.box ((HBE.out.block _ (by have := HS1.out; omega)).trans H6.out) (hnB _ (by omega)))
  have HRD8 : Hid (Rds w5 S2 A8 (ml.map byteCell)) := Lib.hid (HRD3.out.but HBUT.out HS2.out.1)
  have H28 : Hid (∀ W, Below w5.heap.size w5 W → Calls Try.prog 28 #[.agg #[.int .i64 m1, .int .i64 m2, .int .i64 m3, .slice A8 m4 c8], .agg #[.int .i64 m1, .int .i64 m2, .int .i64 m3, .slice A7 m4 c7]] W fun e w' => e = .returned (.bool true) ∧ Below W.heap.size W w') := Lib.hid fun W hb => by
    have h9 := sameP_any m1 m2 m3 m1 m2 m3 ml ml A8 A7 m4 c8 m4 c7 W HM4.out HM4.out (HRD8.out.but (But.of_all hb (fun _ => False)) (fun _ e => e.elim)).rd (HRD7.out.but (But.of_all hb (fun _ => False)) (fun _ e => e.elim)).rd
    rw [decide_eq_true (show m1 = m1 ∧ m2 = m2 ∧ m3 = m3 ∧ ml = ml from ⟨rfl, rfl, rfl, rfl⟩)] at h9
    exact h9
  clear hbut hbut5 hpv hbc hx24 hw5 hs3 d0 d1 d2 d3 d4 d5 hw3' w3'
  have hS0 : (fun W => But (fun q => q = w.heap.size + 2) w5 W) w5.drew := (But.refl _ _).drew
  refine wp_region_held_drew (S := fun W => But (fun q => q = w.heap.size + 2) w5 W) rfl hS0 (fun hHeld => ?_)
  simp only [List.size_toArray, List.length_cons, List.length_nil, Nat.reduceAdd]
  have HB0 : Hid (Below w5.heap.size w5 w5.drew) := Lib.hid (Below.refl _ _).drew
  obtain ⟨V0, hV0⟩ : ∃ V, w5.drew = V := ⟨_, rfl⟩
  rw [hV0] at hHeld hS0 HB0 ⊢
  clear hV0
  refine wpAnyH_take (i := 0) (v := .agg #[.int .i64 a1, .int .i64 a2, .int .i64 a3, .slice A9 nM c9, .slice AD nD cD]) rfl (by kernel_rfl) (by kernel_rfl) (by kernel_rfl) (fun _ _ _ h => h) (Or.inl ⟨by rfl, ?_⟩) (by assumption) ?_
  · intro wx hs1; obtain ⟨k0, k1, k2, k3, k4⟩ := (five_cells (HT.out wx hs1)).1; go_simp
  (try simp only [Act.put, List.getElem_toArray, List.getElem_cons_zero, List.setIfInBounds_toArray, List.set_cons_zero, List.set_cons_succ])
  refine wpAnyH_take (i := 1) (v := .agg #[.int .i64 m1, .int .i64 m2, .int .i64 m3, .slice A8 m4 c8]) rfl (by kernel_rfl) (by kernel_rfl) (by kernel_rfl) (fun _ _ _ h => h) (Or.inl ⟨by rfl, ?_⟩) (by assumption) ?_
  · intro wx hs1; obtain ⟨k0, k1, k2, k3⟩ := (four_cells (HP1.out wx hs1)).1; go_simp
  (try simp only [Act.put, List.getElem_toArray, List.getElem_cons_succ, List.getElem_cons_zero, List.setIfInBounds_toArray, List.set_cons_zero, List.set_cons_succ])
  refine wpAnyH_take (i := 2) (v := .agg #[.int .i64 m1, .int .i64 m2, .int .i64 m3, .slice A7 m4 c7]) rfl (by kernel_rfl) (by kernel_rfl) (by kernel_rfl) (fun _ _ _ h => h) (Or.inl ⟨by rfl, ?_⟩) (by assumption) ?_
  · intro wx hs1; obtain ⟨k0, k1, k2, k3⟩ := (four_cells (HP2.out wx hs1)).1; go_simp
  (try simp only [Act.put, List.getElem_toArray, List.getElem_cons_succ, List.getElem_cons_zero, List.setIfInBounds_toArray, List.set_cons_zero, List.set_cons_succ])
  refine wpAnyH_ready (rs := [3]) (by kernel_rfl) (by simp) (AllReadyH.cons rfl (fun K hK => ?_) AllReadyH.nil)
  go_simp
  go_at_call 28
  (with_reducible refine (H28.out _ HB0.out).mono ?_)
  rintro e w6 ⟨rfl, hb⟩
  try dsimp only
  have HB1 : Hid (Below w5.heap.size w5 w6) := Lib.hid (HB0.out.trans (hb.mono HB0.out.size)); clear hb; have hS := But.of_all HB1.out (fun q => q = w.heap.size + 2)
  refine hK.out _ _ hS (fun _ => ?_)
  clear hK K
  (try simp only [Act.put, List.getElem_toArray, List.getElem_cons_succ, List.getElem_cons_zero, List.setIfInBounds_toArray, List.set_cons_zero, List.set_cons_succ])
  refine wpAnyH_take (i := 4) (v := .bool true) rfl (by kernel_rfl) (by kernel_rfl) (by kernel_rfl) (fun _ _ _ h => h) (Or.inl ⟨by rfl, ?_⟩) (by assumption) ?_
  · intro wx hs1; go_simp
  (try simp only [Act.put, List.getElem_toArray, List.getElem_cons_succ, List.getElem_cons_zero, List.setIfInBounds_toArray, List.set_cons_zero, List.set_cons_succ])
  refine wpAnyH_take (i := 5) (v := .int .i64 E) rfl (by kernel_rfl) (by kernel_rfl) (by kernel_rfl) (fun _ _ _ h => h) (Or.inl ⟨by rfl, ?_⟩) (by assumption) ?_
  · intro wx hs1; go_simp
  (try simp only [Act.put, List.getElem_toArray, List.getElem_cons_succ, List.getElem_cons_zero, List.setIfInBounds_toArray, List.set_cons_zero, List.set_cons_succ])
  refine wpAnyH_take (i := 7) (v := .int .i64 E) rfl (by kernel_rfl) (by kernel_rfl) (by kernel_rfl) (fun _ _ _ h => h) (Or.inl ⟨by rfl, ?_⟩) (by assumption) ?_
  · intro wx hs1; go_simp
  (try simp only [Act.put, List.getElem_toArray, List.getElem_cons_succ, List.getElem_cons_zero, List.setIfInBounds_toArray, List.set_cons_zero, List.set_cons_succ])
  refine wpAnyH_ready (rs := [6]) (by kernel_rfl) (by simp) (AllReadyH.cons rfl (fun K hK => ?_) AllReadyH.nil)
  go_simp
  go_at_call 17
  (with_reducible refine (H17.out _).mono ?_)
  rintro e w7 ⟨rfl, rfl⟩
  try dsimp only
  have hS := But.of_all HB1.out (fun q => q = w.heap.size + 2)
  refine hK.out _ _ hS (fun _ => ?_)
  clear hK K
  (try simp only [Act.put, List.getElem_toArray, List.getElem_cons_succ, List.getElem_cons_zero, List.setIfInBounds_toArray, List.set_cons_zero, List.set_cons_succ])
  refine wpAnyH_take (i := 8) (v := .bool true) rfl (by kernel_rfl) (by kernel_rfl) (by kernel_rfl) (fun _ _ _ h => h) (Or.inl ⟨by rfl, ?_⟩) (by assumption) ?_
  · intro wx hs1; go_simp
  (try simp only [Act.put, List.getElem_toArray, List.getElem_cons_succ, List.getElem_cons_zero, List.setIfInBounds_toArray, List.set_cons_zero, List.set_cons_succ])
  refine wpAnyH_take (i := 9) (v := .bool true) rfl (by kernel_rfl) (by kernel_rfl) (by kernel_rfl) (fun _ _ _ h => h) (Or.inl ⟨by rfl, ?_⟩) (by assumption) ?_
  · intro wx hs1; go_simp
  (try simp only [Act.put, List.getElem_toArray, List.getElem_cons_succ, List.getElem_cons_zero, List.setIfInBounds_toArray, List.set_cons_zero, List.set_cons_succ])
  obtain ⟨⟨j0, j1, j2, j3, j4⟩, ⟨g0, g1, g2, g3, g4⟩⟩ := five_cells (HX6.out w6 HB1.out)
  refine wpAnyH_ready (rs := [10]) (by kernel_rfl) (by simp) (AllReadyH.cons rfl (fun K hK => ?_) AllReadyH.nil)
  go_simp
  try dsimp only
  have hW5x := put5 (HX6.out w6 HB1.out) (.int .i64 a1) (.int .i64 a2) (.int .i64 a3) (.slice A9 nM c9) (.slice AD nD cD)
  have hW5b := put5_but w6 (w.heap.size + 2) (.int .i64 a1) (.int .i64 a2) (.int .i64 a3) (.slice A9 nM c9) (.slice AD nD cD)
  unfold put5W at hW5x hW5b
  obtain ⟨W5, hqW5⟩ : ∃ V, put5W w6 (w.heap.size + 2) (.int .i64 a1) (.int .i64 a2) (.int .i64 a3) (.slice A9 nM c9) (.slice AD nD cD) = V := ⟨_, rfl⟩
  unfold put5W at hqW5
  rw [hqW5] at hW5x hW5b ⊢
  clear hqW5 j0 j1 j2 j3 j4 g0 g1 g2 g3 g4
  have hS := (But.of_all HB1.out (fun q => q = w.heap.size + 2)).trans hW5b (fun _ _ e => e)
  refine hK.out _ _ hS (fun _ => ?_)
  clear hK K
  (try simp only [Act.put, List.getElem_toArray, List.getElem_cons_succ, List.getElem_cons_zero, List.setIfInBounds_toArray, List.set_cons_zero, List.set_cons_succ])
  refine wpAnyH_take (i := 11) (v := .bool true) rfl (by kernel_rfl) (by kernel_rfl) (by kernel_rfl) (fun _ _ _ h => h) (Or.inl ⟨by rfl, ?_⟩) (by assumption) ?_
  · intro wx hs1; go_simp
  (try simp only [Act.put, List.getElem_toArray, List.getElem_cons_succ, List.getElem_cons_zero, List.setIfInBounds_toArray, List.set_cons_zero, List.set_cons_succ])
  refine wpAnyH_done (by kernel_rfl) ?_ _
  obtain ⟨⟨z0, z1, z2, z3, z4⟩, _⟩ := five_cells hW5x
  have hb4 := (But.of_all HBW.out B).trans HBUT.out (fun _ _ e => e)
  have hb5 := hb4.trans (But.of_all HB1.out B) (fun _ _ e => e)
  have hb6 := hb5.trans hW5b (fun b e1 e2 => by omega)
  go_wp2
  exact bodyPost_ret (v := .tuple #[.agg #[.int .i64 a1, .int .i64 a2, .int .i64 a3, .slice A9 nM c9, .slice AD nD cD], .bool true]) (by simp [results, Try.results27, go_sem, z0, z1, z2, z3, z4]) rfl ⟨A9, nM, c9, rfl, hb6⟩
set_option maxRecDepth 100000 in
set_option maxHeartbeats 4000000 in
theorem Sm.actDown0 {B S : Nat → Prop} {p : Nat} {N : NM} {AL AD : Option Addr} {nL cL nD cD : Nat} {R : List MsgM} (x y pick : Int) (Ax : Option Addr) (nx cx : Nat) (is : Bool) (w : World) (hn : Nt0 B w p N) (h : RfAt S w N AL nL cL AD nD cD R) (hSB : ∀ b, B b → S b) (hSw : ∀ b, S b → b < w.heap.size) (hD0 : nD < 4096) (k : Int) (k0 : k ≠ 0) (k1 : k ≠ 1) (k2 : k ≠ 2) (k3 : k ≠ 3) :
    Calls Try.prog 27 #[.pointer (some ⟨p, 0, none⟩), refV N.s AL nL cL AD nD cD, .agg #[.int .i64 k, .int .i64 x, .int .i64 y, .int .i64 pick, .slice Ax nx cx, .bool is]] w fun e w' => ∃ A' n' c', e = .returned (.tuple #[refV N.s AL nL cL A' n' c', .bool true]) ∧ But B w w' := by
  have hB : ∀ b, B b → b < w.heap.size := fun b e => hSw b (hSB b e)
  obtain ⟨S2, hS2⟩ : ∃ S2 : Nat → Prop, S2 = fun b => S b ∨ b = w.heap.size + 2 := ⟨_, rfl⟩
  have h2 : RfAt S2 w N AL nL cL AD nD cD R := h.less (fun b hb e => by
    rw [hS2] at e
    rcases e with e | e
    · exact e
    · omega)
  have hS2b : ∀ b, S2 b → b < w.heap.size + 3 := fun b e => by
    rw [hS2] at e
    rcases e with e | e
    · have := hSw b e; omega
    · omega
  have HS2 : Hid ((∀ b, B b → S2 b) ∧ S2 (w.heap.size + 2) ∧ ∀ b, S b → S2 b) := Lib.hid (by rw [hS2]; exact ⟨fun b e => .inl (hSB b e), .inr rfl, fun b e => .inl e⟩)
  have HSB := Lib.hid hSB
  obtain ⟨w1, hw1⟩ : ∃ V, ((w.alloc (.cells (refB N.s AL nL cL AD nD cD) 29)).alloc (.cells #[.int .i64 k, .int .i64 x, .int .i64 y, .int .i64 pick, .slice Ax nx cx, .bool is] 64)).alloc (.cells #[.int .i64 0, .int .i64 0, .int .i64 0, .slice none 0 0, .slice none 0 0] 29) = V := ⟨_, rfl⟩
  have hb1 : Below w.heap.size w w1 := by rw [← hw1]; exact (bel2 w _ _).alloc (bel2 w _ _).size _
  have hx4 : w1.heap[w.heap.size]? = some (.cells (refB N.s AL nL cL AD nD cD) 29 (0, 0)) := by rw [← hw1]; exact old_alloc _ (old_alloc _ (new_alloc _ rfl))
  have hx5 : w1.heap[w.heap.size + 1]? = some (.cells #[.int .i64 k, .int .i64 x, .int .i64 y, .int .i64 pick, .slice Ax nx cx, .bool is] 64 (0, 0)) := by rw [← hw1]; exact old_alloc _ (new_alloc _ (by simp))
  have hx6 : w1.heap[w.heap.size + 2]? = some (.cells #[.int .i64 0, .int .i64 0, .int .i64 0, .slice none 0 0, .slice none 0 0] 29 (0, 0)) := by rw [← hw1]; exact new_alloc _ (by simp)
  have hs1 : w1.heap.size = w.heap.size + 3 := by rw [← hw1]; simp
  have hr := refDown_any x y is w1 (h2.keep hb1) (fun b e => by have := hS2b b e; omega) hD0
  have hd := fun W (hb : Below w.heap.size w W) => down_0 x y is W (hn.keep hb)
  have hnum := downN_num N x y is
  unfold refV at hr ⊢
  unfold refB at hx4 hw1
  obtain ⟨a1, ha1⟩ : ∃ a, N.s.ends = a := ⟨_, rfl⟩
  obtain ⟨a2, ha2⟩ : ∃ a, N.s.most = a := ⟨_, rfl⟩
  obtain ⟨a3, ha3⟩ : ∃ a, N.s.came = a := ⟨_, rfl⟩
  rw [ha1, ha2, ha3] at hr hx4 hw1 ⊢
  obtain ⟨⟨N2, E⟩, hD⟩ : ∃ d, downN N x y is = d := ⟨_, rfl⟩
  rw [hD] at hr hd hnum
  simp only at hr hd hnum
  have h17 := fun W => num_any E W hnum.1 hnum.2
  have q0 : (k == 0) = false := by simpa using k0
  have q1 : (k == 1) = false := by simpa using k1
  have q2 : (k == 2) = false := by simpa using k2
  have q3 : (k == 3) = false := by simpa using k3
  have H17 := Lib.hid h17
  have HD := Lib.hid hd
  have HB := Lib.hid hb1
  have HHB := Lib.hid hB
  have H5 := Lib.hid hx5
  have H6 := Lib.hid hx6
  have HS1 := Lib.hid hs1
  obtain ⟨⟨c0, c1, c2, c3, c4⟩, _⟩ := five_cells hx4
  obtain ⟨d0, d1, d2, d3, d4, d5⟩ := six_cells hx5
  clear h h2 hS2b hS2 hn hd hb1 hx4 hx5 hx6 hs1 hnum h17 hD hB hSB hSw ha1 ha2 ha3 hD0 k0 k1 k2 k3
  go_enter Try.func27, Try.ntmps27
  go_upto_region 1 with fail
  clear hw1
  go_upto_region 29 with (go_at_call 58; (with_reducible refine hr.mono ?_); clear hr; rintro e w2 ⟨A9, nM, c9, rfl, hrf, hbb⟩)
  have hbc : Below w2.heap.size w2 (w2.alloc (.cells #[.int .i64 a1, .int .i64 a2, .int .i64 a3, .slice AL nL cL, .slice A9 nM c9] 29)) := (Below.refl _ _).alloc (Nat.le_refl _) _
  have hx26 := World.alloc_heap_new w2 (.cells #[.int .i64 a1, .int .i64 a2, .int .i64 a3, .slice AL nL cL, .slice A9 nM c9] 29)
  obtain ⟨w3, hw3⟩ : ∃ V, w2.alloc (.cells #[.int .i64 a1, .int .i64 a2, .int .i64 a3, .slice AL nL cL, .slice A9 nM c9] 29) = V := ⟨_, rfl⟩
  rw [hw3] at hbc hx26 ⊢
  have hbe : Below w1.heap.size w1 w3 := hbb.trans (hbc.mono hbb.size)
  have hbw := HB.out.trans (hbe.mono HB.out.size)
  have HBW := Lib.hid hbw
  have HBE := Lib.hid hbe
  have hs22 : w.heap.size + 3 ≤ w2.heap.size := by have := hbb.size; have := HS1.out; omega
  have HS22 := Lib.hid hs22
  have HRF3 := Lib.hid (hrf.keep hbc)
  have hnB : ∀ q, w.heap.size ≤ q → ¬ B q := fun q e e2 => by have := HHB.out q e2; omega
  have HNB := Lib.hid hnB
  have H18 : Hid (∀ W, Below w3.heap.size w3 W → Calls Try.prog 18 #[.pointer (some ⟨p, 0, none⟩), .int .i64 x, .int .i64 y, .bool is] W fun e w' => e = .returned (.int .i64 E) ∧ But B W w') := Lib.hid fun W hb => HD.out W (HBW.out.trans (hb.mono HBW.out.size))
  have HT : Hid (∀ W, But (fun q => B q ∨ q = w.heap.size + 2) w3 W → W.heap[w2.heap.size]? = some (.cells #[.int .i64 a1, .int .i64 a2, .int .i64 a3, .slice AL nL cL, .slice A9 nM c9] 29 (0, 0))) := Lib.hid fun W hb => hb.box hx26 (fun e => by
    rcases e with e | e
    · exact hnB _ (by omega) e
    · omega)
  have H5S : Hid (∀ W, But (fun q => B q ∨ q = w.heap.size + 2) w3 W → W.heap[w.heap.size + 1]? = some (.cells #[.int .i64 k, .int .i64 x, .int .i64 y, .int .i64 pick, .slice Ax nx cx, .bool is] 64 (0, 0))) := Lib.hid fun W hb => hb.box ((hbe.block _ (by have := HS1.out; omega)).trans H5.out) (fun e => by
    rcases e with e | e
    · exact hnB _ (by omega) e
    · omega)
  have HX6 : Hid (∀ W, But B w3 W → W.heap[w.heap.size + 2]? = some (.cells #[.int .i64 0, .int .i64 0, .int .i64 0, .slice none 0 0, .slice none 0 0] 29 (0, 0))) := Lib.hid fun W hb => hb.box ((hbe.block _ (by have := HS1.out; omega)).trans H6.out) (hnB _ (by omega))
  clear hbb hbc hrf hx26 hw3 hbe hbw c0 c1 c2 c3 c4 d0 d1 d2 d3 d4 d5 hs22 hnB
  have hS0 : (fun W => But (fun q => B q ∨ q = w.heap.size + 2) w3 W) w3.drew := (But.refl _ _).drew
  refine wp_region_held_drew (S := fun W => But (fun q => B q ∨ q = w.heap.size + 2) w3 W) rfl hS0 (fun hHeld => ?_)
  simp only [List.size_toArray, List.length_cons, List.length_nil, Nat.reduceAdd]
  have HB0 : Hid (Below w3.heap.size w3 w3.drew) := Lib.hid (Below.refl _ _).drew
  obtain ⟨V0, hV0⟩ : ∃ V, w3.drew = V := ⟨_, rfl⟩
  rw [hV0] at hHeld hS0 HB0 ⊢
  clear hV0
  have HB0b : But B w3 V0 := But.of_all HB0.out B
  refine wpAnyH_take (i := 0) (v := .agg #[.int .i64 a1, .int .i64 a2, .int .i64 a3, .slice AL nL cL, .slice A9 nM c9]) rfl (by kernel_rfl) (by kernel_rfl) (by kernel_rfl) (fun _ _ _ h => h) (Or.inl ⟨by rfl, ?_⟩) (by assumption) ?_
  · intro wx hs1; obtain ⟨k0, k1, k2, k3, k4⟩ := (five_cells (HT.out wx hs1)).1; go_simp
  (try simp only [Act.put, List.getElem_toArray, List.getElem_cons_zero, List.setIfInBounds_toArray, List.set_cons_zero, List.set_cons_succ])
  refine wpAnyH_take (i := 1) (v := .pointer (some ⟨p, 0, none⟩)) rfl (by kernel_rfl) (by kernel_rfl) (by kernel_rfl) (fun _ _ _ h => h) (Or.inl ⟨by rfl, ?_⟩) (by assumption) ?_
  · intro wx hs1; go_simp
  (try simp only [Act.put, List.getElem_toArray, List.getElem_cons_succ, List.getElem_cons_zero, List.setIfInBounds_toArray, List.set_cons_zero, List.set_cons_succ])
  refine wpAnyH_take (i := 2) (v := .pointer (some ⟨w.heap.size + 1, 1, none⟩)) rfl (by kernel_rfl) (by kernel_rfl) (by kernel_rfl) (fun _ _ _ h => h) (Or.inl ⟨by rfl, ?_⟩) (by assumption) ?_
  · intro wx hs1; go_simp
  (try simp only [Act.put, List.getElem_toArray, List.getElem_cons_succ, List.getElem_cons_zero, List.setIfInBounds_toArray, List.set_cons_zero, List.set_cons_succ])
  refine wpAnyH_take (i := 3) (v := .int .i64 x) rfl (by kernel_rfl) (by kernel_rfl) (by kernel_rfl) (fun _ _ _ h => h) (Or.inl ⟨by rfl, ?_⟩) (by assumption) ?_
  · intro wx hs1; obtain ⟨k0, k1, k2, k3, k4, k5⟩ := six_cells (H5S.out wx hs1); go_simp
  (try simp only [Act.put, List.getElem_toArray, List.getElem_cons_succ, List.getElem_cons_zero, List.setIfInBounds_toArray, List.set_cons_zero, List.set_cons_succ])
  refine wpAnyH_take (i := 4) (v := .pointer (some ⟨w.heap.size + 1, 2, none⟩)) rfl (by kernel_rfl) (by kernel_rfl) (by kernel_rfl) (fun _ _ _ h => h) (Or.inl ⟨by rfl, ?_⟩) (by assumption) ?_
  · intro wx hs1; go_simp
  (try simp only [Act.put, List.getElem_toArray, List.getElem_cons_succ, List.getElem_cons_zero, List.setIfInBounds_toArray, List.set_cons_zero, List.set_cons_succ])
  refine wpAnyH_take (i := 5) (v := .int .i64 y) rfl (by kernel_rfl) (by kernel_rfl) (by kernel_rfl) (fun _ _ _ h => h) (Or.inl ⟨by rfl, ?_⟩) (by assumption) ?_
  · intro wx hs1; obtain ⟨k0, k1, k2, k3, k4, k5⟩ := six_cells (H5S.out wx hs1); go_simp
  (try simp only [Act.put, List.getElem_toArray, List.getElem_cons_succ, List.getElem_cons_zero, List.setIfInBounds_toArray, List.set_cons_zero, List.set_cons_succ])
  refine wpAnyH_take (i := 6) (v := .pointer (some ⟨w.heap.size + 1, 5, none⟩)) rfl (by kernel_rfl) (by kernel_rfl) (by kernel_rfl) (fun _ _ _ h => h) (Or.inl ⟨by rfl, ?_⟩) (by assumption) ?_
  · intro wx hs1; go_simp
  (try simp only [Act.put, List.getElem_toArray, List.getElem_cons_succ, List.getElem_cons_zero, List.setIfInBounds_toArray, List.set_cons_zero, List.set_cons_succ])
  refine wpAnyH_take (i := 7) (v := .bool is) rfl (by kernel_rfl) (by kernel_rfl) (by kernel_rfl) (fun _ _ _ h => h) (Or.inl ⟨by rfl, ?_⟩) (by assumption) ?_
  · intro wx hs1; obtain ⟨k0, k1, k2, k3, k4, k5⟩ := six_cells (H5S.out wx hs1); go_simp
  (try simp only [Act.put, List.getElem_toArray, List.getElem_cons_succ, List.getElem_cons_zero, List.setIfInBounds_toArray, List.set_cons_zero, List.set_cons_succ])
  refine wpAnyH_take (i := 10) (v := .int .i64 E) rfl (by kernel_rfl) (by kernel_rfl) (by kernel_rfl) (fun _ _ _ h => h) (Or.inl ⟨by rfl, ?_⟩) (by assumption) ?_
  · intro wx hs1; go_simp
  (try simp only [Act.put, List.getElem_toArray, List.getElem_cons_succ, List.getElem_cons_zero, List.setIfInBounds_toArray, List.set_cons_zero, List.set_cons_succ])
  refine wpAnyH_ready (rs := [8]) (by kernel_rfl) (by simp) (AllReadyH.cons rfl (fun K hK => ?_) AllReadyH.nil)
  go_simp
  go_at_call 18
  (with_reducible refine (H18.out _ HB0.out).mono ?_)
  rintro e w5 ⟨rfl, hbut⟩
  try dsimp only
  have HBUT := Lib.hid hbut; clear hbut; have hS := hS0.trans HBUT.out (fun _ _ e => Or.inl e)
  refine hK.out _ _ hS (fun _ => ?_)
  clear hK K
  (try simp only [Act.put, List.getElem_toArray, List.getElem_cons_succ, List.getElem_cons_zero, List.setIfInBounds_toArray, List.set_cons_zero, List.set_cons_succ])
  refine wpAnyH_ready (rs := [9]) (by kernel_rfl) (by simp) (AllReadyH.cons rfl (fun K hK => ?_) AllReadyH.nil)
  go_simp
  go_at_call 17
  (with_reducible refine (H17.out _).mono ?_)
  rintro e w7 ⟨rfl, rfl⟩
  try dsimp only
  have hS := hS0.trans HBUT.out (fun _ _ e => Or.inl e)
  refine hK.out _ _ hS (fun _ => ?_)
  clear hK K
  (try simp only [Act.put, List.getElem_toArray, List.getElem_cons_succ, List.getElem_cons_zero, List.setIfInBounds_toArray, List.set_cons_zero, List.set_cons_succ])
  refine wpAnyH_take (i := 11) (v := .bool true) rfl (by kernel_rfl) (by kernel_rfl) (by kernel_rfl) (fun _ _ _ h => h) (Or.inl ⟨by rfl, ?_⟩) (by assumption) ?_
  · intro wx hs1; go_simp
  (try simp only [Act.put, List.getElem_toArray, List.getElem_cons_succ, List.getElem_cons_zero, List.setIfInBounds_toArray, List.set_cons_zero, List.set_cons_succ])
  obtain ⟨⟨j0, j1, j2, j3, j4⟩, ⟨g0, g1, g2, g3, g4⟩⟩ := five_cells (HX6.out w5 (HB0b.trans HBUT.out (fun _ _ e => e)))
  refine wpAnyH_ready (rs := [12]) (by kernel_rfl) (by simp) (AllReadyH.cons rfl (fun K hK => ?_) AllReadyH.nil)
  go_simp
  try dsimp only
  have hW5x := put5 (HX6.out w5 (HB0b.trans HBUT.out (fun _ _ e => e))) (.int .i64 a1) (.int .i64 a2) (.int .i64 a3) (.slice AL nL cL) (.slice A9 nM c9)
  have hW5b := put5_but w5 (w.heap.size + 2) (.int .i64 a1) (.int .i64 a2) (.int .i64 a3) (.slice AL nL cL) (.slice A9 nM c9)
  unfold put5W at hW5x hW5b
  obtain ⟨W5, hqW5⟩ : ∃ V, put5W w5 (w.heap.size + 2) (.int .i64 a1) (.int .i64 a2) (.int .i64 a3) (.slice AL nL cL) (.slice A9 nM c9) = V := ⟨_, rfl⟩
  unfold put5W at hqW5
  rw [hqW5] at hW5x hW5b ⊢
  clear hqW5 j0 j1 j2 j3 j4 g0 g1 g2 g3 g4
  have hS := (hS0.trans HBUT.out (fun _ _ e => Or.inl e)).trans hW5b (fun _ _ e => Or.inr e)
  refine hK.out _ _ hS (fun _ => ?_)
  clear hK K
  (try simp only [Act.put, List.getElem_toArray, List.getElem_cons_succ, List.getElem_cons_zero, List.setIfInBounds_toArray, List.set_cons_zero, List.set_cons_succ])
  refine wpAnyH_take (i := 13) (v := .bool true) rfl (by kernel_rfl) (by kernel_rfl) (by kernel_rfl) (fun _ _ _ h => h) (Or.inl ⟨by rfl, ?_⟩) (by assumption) ?_
  · intro wx hs1; go_simp
  (try simp only [Act.put, List.getElem_toArray, List.getElem_cons_succ, List.getElem_cons_zero, List.setIfInBounds_toArray, List.set_cons_zero, List.set_cons_succ])
  refine wpAnyH_done (by kernel_rfl) ?_ _
  obtain ⟨⟨z0, z1, z2, z3, z4⟩, _⟩ := five_cells hW5x
  have hb4 := (But.of_all HBW.out B).trans (HB0b.trans HBUT.out (fun _ _ e => e)) (fun _ _ e => e)
  have hb6 := hb4.trans hW5b (fun b e1 e2 => by omega)
  go_wp2
  exact bodyPost_ret (v := .tuple #[.agg #[.int .i64 a1, .int .i64 a2, .int .i64 a3, .slice AL nL cL, .slice A9 nM c9], .bool true]) (by simp [results, Try.results27, go_sem, z0, z1, z2, z3, z4]) rfl ⟨A9, nM, c9, rfl, hb6⟩
set_option maxRecDepth 100000 in
set_option maxHeartbeats 4000000 in
theorem Sm.actPut0 {B S : Nat → Prop} {p : Nat} {N : NM} {AL AD : Option Addr} {nL cL nD cD : Nat} {R : List MsgM} (x y pick : Int) (Ax : Option Addr) (nx cx : Nat) (is : Bool) (w : World) (hn : Nt0 B w p N) (h : RfAt S w N AL nL cL AD nD cD R) (hSB : ∀ b, B b → S b) (hSw : ∀ b, S b → b < w.heap.size) (l : List (BitVec 8)) (hl : l.length = nx) (hnx : nx ≤ 1000000) (hrx : Rds w S Ax (l.map byteCell)) (hC : N.s.came < 1000000000) :
    Calls Try.prog 27 #[.pointer (some ⟨p, 0, none⟩), refV N.s AL nL cL AD nD cD, .agg #[.int .i64 0, .int .i64 x, .int .i64 y, .int .i64 pick, .slice Ax nx cx, .bool is]] w fun e w' => ∃ A' nM c', e = .returned (.tuple #[refV (putN N x y l).1.s A' nM c' AD nD cD, .bool true]) ∧ But B w w' := by
  have hB : ∀ b, B b → b < w.heap.size := fun b e => hSw b (hSB b e)
  obtain ⟨S2, hS2⟩ : ∃ S2 : Nat → Prop, S2 = fun b => S b ∨ b = w.heap.size + 2 := ⟨_, rfl⟩
  have h2 : RfAt S2 w N AL nL cL AD nD cD R := h.less (fun b hb e => by
    rw [hS2] at e
    rcases e with e | e
    · exact e
    · omega)
  have hS2b : ∀ b, S2 b → b < w.heap.size + 3 := fun b e => by
    rw [hS2] at e
    rcases e with e | e
    · have := hSw b e; omega
    · omega
  have HS2 : Hid ((∀ b, B b → S2 b) ∧ S2 (w.heap.size + 2) ∧ ∀ b, S b → S2 b) := Lib.hid (by rw [hS2]; exact ⟨fun b e => .inl (hSB b e), .inr rfl, fun b e => .inl e⟩)
  have HSB := Lib.hid hSB
  obtain ⟨w1, hw1⟩ : ∃ V, ((w.alloc (.cells (refB N.s AL nL cL AD nD cD) 29)).alloc (.cells #[.int .i64 0, .int .i64 x, .int .i64 y, .int .i64 pick, .slice Ax nx cx, .bool is] 64)).alloc (.cells #[.int .i64 0, .int .i64 0, .int .i64 0, .slice none 0 0, .slice none 0 0] 29) = V := ⟨_, rfl⟩
  have hb1 : Below w.heap.size w w1 := by rw [← hw1]; exact (bel2 w _ _).alloc (bel2 w _ _).size _
  have hx4 : w1.heap[w.heap.size]? = some (.cells (refB N.s AL nL cL AD nD cD) 29 (0, 0)) := by rw [← hw1]; exact old_alloc _ (old_alloc _ (new_alloc _ rfl))
  have hx5 : w1.heap[w.heap.size + 1]? = some (.cells #[.int .i64 0, .int .i64 x, .int .i64 y, .int .i64 pick, .slice Ax nx cx, .bool is] 64 (0, 0)) := by rw [← hw1]; exact old_alloc _ (new_alloc _ (by simp))
  have hx6 : w1.heap[w.heap.size + 2]? = some (.cells #[.int .i64 0, .int .i64 0, .int .i64 0, .slice none 0 0, .slice none 0 0] 29 (0, 0)) := by rw [← hw1]; exact new_alloc _ (by simp)
  have hs1 : w1.heap.size = w.heap.size + 3 := by rw [← hw1]; simp
  have hlen := hn.up.lens
  have hPL : N.P.length = nL := by rw [← h.map, List.length_map, h.len]
  have hr := refPut_any x y Ax nx cx l w1 (h2.keep hb1) (fun b e => by have := hS2b b e; omega) hl (by omega) ((hrx.less (fun b hb e => by
    rw [hS2] at e
    rcases e with e | e
    · exact e
    · omega)).but (But.of_all hb1 (fun _ => False)) (fun _ e => e.elim)) hn.up.most ⟨hlen.2.2.1, by omega⟩ (by omega)
  have hd := fun (A : Option Addr) (c : Nat) W (hb : Below w.heap.size w W) (hr : Rd W W.heap.size A l) => put_0 x y A nx c l W (hn.keep hb) hC hl (by omega) hr
  have hnum := putN_num N x y l
  unfold refV at hr ⊢
  unfold refB at hx4 hw1
  obtain ⟨a1, ha1⟩ : ∃ a, N.s.ends = a := ⟨_, rfl⟩
  obtain ⟨a2, ha2⟩ : ∃ a, N.s.most = a := ⟨_, rfl⟩
  obtain ⟨a3, ha3⟩ : ∃ a, N.s.came = a := ⟨_, rfl⟩
  rw [ha1, ha2, ha3] at hx4 hw1 ⊢
  simp only [ha1, ha2, ha3] at hr
  obtain ⟨⟨N2, M, E⟩, hD⟩ : ∃ d, putN N x y l = d := ⟨_, rfl⟩
  rw [hD] at hr hd hnum ⊢
  simp only at hr hd hnum ⊢
  obtain ⟨b1, hb1'⟩ : ∃ a, N2.s.ends = a := ⟨_, rfl⟩
  obtain ⟨b2, hb2'⟩ : ∃ a, N2.s.most = a := ⟨_, rfl⟩
  obtain ⟨b3, hb3'⟩ : ∃ a, N2.s.came = a := ⟨_, rfl⟩
  rw [hb1', hb2', hb3'] at hr ⊢
  have h17 := fun W => num_any E W hnum.1 hnum.2
  have HL := Lib.hid hl
  have H17 := Lib.hid h17
  have HD := Lib.hid hd
  have HB := Lib.hid hb1
  have HHB := Lib.hid hB
  have HSW := Lib.hid hSw
  have HRX := Lib.hid hrx
  have H5 := Lib.hid hx5
  have H6 := Lib.hid hx6
  have HS1 := Lib.hid hs1
  obtain ⟨i5, q5, r5, s5, t5⟩ := info5
  obtain ⟨⟨c0, c1, c2, c3, c4⟩, _⟩ := five_cells hx4
  obtain ⟨d0, d1, d2, d3, d4, d5⟩ := six_cells hx5
  clear h h2 hS2b hS2 hn hd hb1 hx4 hx5 hx6 hs1 hnum h17 hD hB hSB hSw ha1 ha2 ha3 hb1' hb2' hb3' hlen hPL hC hl hrx
  go_enter Try.func27, Try.ntmps27
  go_upto_region 1 with fail
  clear hw1
  go_upto_region 4 with (go_at_call 54; (with_reducible refine hr.mono ?_); clear hr; rintro e w2 ⟨A9, nM, c9, R9, rfl, hrf, hbb⟩)
  have hbc : Below w2.heap.size w2 (w2.alloc (.cells #[.int .i64 b1, .int .i64 b2, .int .i64 b3, .slice A9 nM c9, .slice AD nD cD] 29)) := (Below.refl _ _).alloc (Nat.le_refl _) _
  have hx8 := World.alloc_heap_new w2 (.cells #[.int .i64 b1, .int .i64 b2, .int .i64 b3, .slice A9 nM c9, .slice AD nD cD] 29)
  obtain ⟨w3, hw3⟩ : ∃ V, w2.alloc (.cells #[.int .i64 b1, .int .i64 b2, .int .i64 b3, .slice A9 nM c9, .slice AD nD cD] 29) = V := ⟨_, rfl⟩
  rw [hw3] at hbc hx8 ⊢
  have hbe : Below w1.heap.size w1 w3 := hbb.trans (hbc.mono hbb.size)
  have hbw := HB.out.trans (hbe.mono HB.out.size)
  have HBW := Lib.hid hbw
  have HBE := Lib.hid hbe
  have hs3 : w2.heap.size < w3.heap.size := (Array.getElem?_eq_some_iff.1 hx8).1
  have HSZ : Hid (w.heap.size + 3 ≤ w2.heap.size ∧ w2.heap.size < w3.heap.size) := Lib.hid ⟨by have := hbb.size; have := HS1.out; omega, hs3⟩
  have HX8 := Lib.hid hx8
  have HRF3 : Hid (RfAt (fun b => S2 b ∨ w3.heap.size ≤ b) w3 N2 A9 nM c9 AD nD cD R9) := Lib.hid ((hrf.keep hbc).less (fun b hb e => e.resolve_right (by omega)))
  clear c0 c1 c2 c3 c4 d0 d1 d2 d3 d4 d5
  obtain ⟨d0, d1, d2, d3, d4, d5⟩ := six_cells ((hbe.block _ (by have := HS1.out; omega)).trans H5.out)
  have hba : Below w3.heap.size w3 (w3.alloc (.cells #[] 5)) := (Below.refl _ _).alloc (Nat.le_refl _) _
  have own0 := World.ownsRow_lit (base := w3.heap.size) (size := 1) (e := 5) w3 #[] 0 (Nat.le_refl _) (by decide) rfl
  have hrdA : Rd (w3.alloc (.cells #[] 5)) (w3.alloc (.cells #[] 5)).heap.size Ax l := (HRX.out.but (But.of_all (hbw.trans (hba.mono hbw.size)) (fun _ => False)) (fun _ e => e.elim)).rd
  have d4a := (hba.cell (p := ⟨w.heap.size + 1, 4, none⟩) (by have := HSZ.out; simp only; omega)).trans d4
  clear hbb hbc hrf hx8 hw3 hbe hbw hs3
  obtain ⟨w3', hw3'⟩ : ∃ V : World, V = w3 := ⟨_, rfl⟩
  go_upto_region 5 with (at_builtin; refine wpList_append_rd _ rfl (.tmp 49) (.tmp 51) 39 rfl w3.heap.size 5 i5 _ Try.underlying39 q5 r5 s5 t5 rfl _ _ _ rfl own0 _ Ax nx cx l rfl HL.out hrdA ?_ ?_ ?_; omega; (simp); intro v4 w4 hown4 hg4 hat4; obtain ⟨A7, c7, rfl⟩ := own_form hown4)
  simp only [Nat.zero_add, List.nil_append] at hown4 ⊢
  have hb34 : Below w3.heap.size w3 w4 := hba.trans ((But.grown hg4).to_below hba.size (fun b e => (own0.lt b e).1))
  have h12 := HD.out A7 c7 w4 (HBW.out.trans (hb34.mono HBW.out.size)) (Sm.Rd.of_own (by have := hown4; exact this) (Nat.le_refl _))
  have HOW := Lib.hid hown4
  have HLT := Lib.hid (fun g e => (hown4.lt g e))
  have HB34 := Lib.hid hb34
  clear d0 d1 d2 d3 d4 d5 d4a hba own0 hrdA hown4 hg4 hat4
  obtain ⟨d0, d1, d2, d3, d4, d5⟩ := six_cells ((hb34.block _ (by have := HSZ.out; omega)).trans ((HBE.out.block _ (by have := HS1.out; omega)).trans H5.out))
  clear hb34
  go_upto_region 6 with (go_at_call 12; (with_reducible refine h12.mono ?_); clear h12; rintro e w5 ⟨rfl, hbut⟩)
  have hnB : ∀ q, w.heap.size ≤ q → ¬ B q := fun q e e2 => by have := HHB.out q e2; omega
  have HBUT := Lib.hid hbut
  have hrow5 := hbut.row HOW.out (fun g e => hnB g (by have := (HLT.out g e).1; have := HSZ.out; omega))
  have HI0 : Hid (KeepI w5 w5 w3.heap.size A7 nx c7) := Lib.hid (keepI_of hrow5 HL.out)
  clear hbut hrow5 d0 d1 d2 d3 d4 d5 hw3' w3'
  go_wp2
  go_loopw [14] (fun v14 wr => ∃ k : Nat, k ≤ nx ∧ v14 = .int .i64 (k : Int) ∧ Hid (KeepI w5 wr w3.heap.size A7 nx c7)) (fun v14 _ => nx - (RowKit.intOf v14).toNat)
  case atStart => exact ⟨0, Nat.zero_le _, rfl, HI0⟩
  case round =>
    obtain ⟨wo, rfl⟩ : ∃ wo : World, wo = wr := ⟨_, rfl⟩
    obtain ⟨k, hk, rfl, HI⟩ := hrel
    clear HI0
    obtain ⟨zs, hz1', hz2', hrow, hbt⟩ := HI.out
    by_cases hlt : k < nx
    · obtain ⟨g, cap, hv, _⟩ := hrow.form (by omega)
      injection hv with hv1 hv2 hv3
      subst hv1
      have hkz : k < zs.length := by omega
      have ck := hrow.cellAt k (by omega)
      rw [List.getElem?_map, List.getElem?_eq_getElem hkz, Option.map_some] at ck
      have fk := hrow.frozenAt k
      obtain ⟨z, hz⟩ : ∃ z, zs[k] = z := ⟨_, rfl⟩
      have hzr := hz2' z (by rw [← hz]; exact List.getElem_mem hkz)
      rw [hz] at ck
      have hzu := byte_up z hzr.1 hzr.2
      obtain ⟨u, hu⟩ : ∃ u, IntKind.u8.wrap (z + 1) = u := ⟨_, rfl⟩
      rw [hu] at hzu
      have hst := hrow.stored k (.int .u8 u)
      have hnew : KeepI w5 (wo.setCell ⟨g, k, none⟩ (.int .u8 u)) w3.heap.size (some ⟨g, 0, none⟩) nx c7 := by
        refine ⟨zs.set k u, by simpa using hz1', fun y hy => ?_, ?_, hbt.trans (But.grown hst.2) (fun b _ e => e)⟩
        · rcases List.mem_or_eq_of_mem_set hy with h | h
          · exact hz2' y h
          · rw [h]; exact hzu
        · rw [List.map_set]
          exact hst.1
      have HNEW := Lib.hid hnew
      have hw8 : IntKind.u8.wrap (z + 1) = u := hu
      have hkI : (k : Int) ≤ 1000000000 := by omega
      have hkL : (k : Int) < (nx : Int) := by omega
      clear hnew hst hbt hrow hz hz1' hz2' hv2 hv3 hzu hzr hkz hnB
      go_wp2
      go_roundw
      case rel => exact ⟨k + 1, by omega, by go_num, HNEW⟩
      case measure => simp [RowKit.intOf]; omega
    · obtain rfl : k = nx := by omega
      have HKB : Hid (But (fun b => (Value.slice A7 k c7).ownBlock = some b) w5 wo) := Lib.hid hbt
      have hown3 : ∀ g, (Value.slice A7 k c7).ownBlock = some g → w3.heap.size ≤ g ∧ g < w4.heap.size := fun g e => HLT.out g e
      have HO3 := Lib.hid hown3
      have HS45 := Lib.hid HBUT.out.size
      have HS34 := Lib.hid HB34.out.size
      have HT : Hid (∀ W, But (fun q => q = w.heap.size + 2) wo W → W.heap[w2.heap.size]? = some (.cells #[.int .i64 b1, .int .i64 b2, .int .i64 b3, .slice A9 nM c9, .slice AD nD cD] 29 (0, 0))) := Lib.hid fun W hb => hb.box (HKB.out.box (HBUT.out.box ((HB34.out.block _ HSZ.out.2).trans HX8.out) (hnB _ (by have := HSZ.out; omega))) (fun e => by have := HO3.out _ e; have := HSZ.out; omega)) (by have := HSZ.out; omega)
      have HX6 : Hid (∀ W, Below wo.heap.size wo W → W.heap[w.heap.size + 2]? = some (.cells #[.int .i64 0, .int .i64 0, .int .i64 0, .slice none 0 0, .slice none 0 0] 29 (0, 0))) := Lib.hid fun W hb => (hb.block _ (by have := HSZ.out; have := HKB.out.size; have := HS45.out; have := HS34.out; omega)).trans (HKB.out.box (HBUT.out.box ((HB34.out.block _ (by have := HSZ.out; omega)).trans ((HBE.out.block _ (by have := HS1.out; omega)).trans H6.out)) (hnB _ (by omega))) (fun e => by have := HO3.out _ e; have := HSZ.out; omega))
      have HNB := Lib.hid hnB
      clear hbt hrow hz1' hz2' hown3 hnB
      go_upto_region 10 with fail
      have hS0 : (fun W => But (fun q => q = w.heap.size + 2) wo W) wo.drew := (But.refl _ _).drew
      refine wp_region_held_drew (S := fun W => But (fun q => q = w.heap.size + 2) wo W) rfl hS0 (fun hHeld => ?_)
      simp only [List.size_toArray, List.length_cons, List.length_nil, Nat.reduceAdd]
      have HB0 : Hid (Below wo.heap.size wo wo.drew) := Lib.hid (Below.refl _ _).drew
      obtain ⟨V0, hV0⟩ : ∃ V, wo.drew = V := ⟨_, rfl⟩
      rw [hV0] at hHeld hS0 HB0 ⊢
      clear hV0
      refine wpAnyH_take (i := 0) (v := .agg #[.int .i64 b1, .int .i64 b2, .int .i64 b3, .slice A9 nM c9, .slice AD nD cD]) rfl (by kernel_rfl) (by kernel_rfl) (by kernel_rfl) (fun _ _ _ h => h) (Or.inl ⟨by rfl, ?_⟩) (by assumption) ?_
      · intro wx hs1; obtain ⟨k0, k1, k2, k3, k4⟩ := (five_cells (HT.out wx hs1)).1; go_simp
      (try simp only [Act.put, List.getElem_toArray, List.getElem_cons_zero, List.setIfInBounds_toArray, List.set_cons_zero, List.set_cons_succ])
      refine wpAnyH_take (i := 1) (v := .int .i64 M) rfl (by kernel_rfl) (by kernel_rfl) (by kernel_rfl) (fun _ _ _ h => h) (Or.inl ⟨by rfl, ?_⟩) (by assumption) ?_
      · intro wx hs1; go_simp
      (try simp only [Act.put, List.getElem_toArray, List.getElem_cons_succ, List.getElem_cons_zero, List.setIfInBounds_toArray, List.set_cons_zero, List.set_cons_succ])
      refine wpAnyH_take (i := 2) (v := .int .i64 M) rfl (by kernel_rfl) (by kernel_rfl) (by kernel_rfl) (fun _ _ _ h => h) (Or.inl ⟨by rfl, ?_⟩) (by assumption) ?_
      · intro wx hs1; go_simp
      (try simp only [Act.put, List.getElem_toArray, List.getElem_cons_succ, List.getElem_cons_zero, List.setIfInBounds_toArray, List.set_cons_zero, List.set_cons_succ])
      refine wpAnyH_take (i := 3) (v := .bool true) rfl (by kernel_rfl) (by kernel_rfl) (by kernel_rfl) (fun _ _ _ h => h) (Or.inl ⟨by rfl, ?_⟩) (by assumption) ?_
      · intro wx hs1; go_simp
      (try simp only [Act.put, List.getElem_toArray, List.getElem_cons_succ, List.getElem_cons_zero, List.setIfInBounds_toArray, List.set_cons_zero, List.set_cons_succ])
      refine wpAnyH_take (i := 4) (v := .bool true) rfl (by kernel_rfl) (by kernel_rfl) (by kernel_rfl) (fun _ _ _ h => h) (Or.inl ⟨by rfl, ?_⟩) (by assumption) ?_
      · intro wx hs1; go_simp
      (try simp only [Act.put, List.getElem_toArray, List.getElem_cons_succ, List.getElem_cons_zero, List.setIfInBounds_toArray, List.set_cons_zero, List.set_cons_succ])
      refine wpAnyH_take (i := 5) (v := .int .i64 E) rfl (by kernel_rfl) (by kernel_rfl) (by kernel_rfl) (fun _ _ _ h => h) (Or.inl ⟨by rfl, ?_⟩) (by assumption) ?_
      · intro wx hs1; go_simp
      (try simp only [Act.put, List.getElem_toArray, List.getElem_cons_succ, List.getElem_cons_zero, List.setIfInBounds_toArray, List.set_cons_zero, List.set_cons_succ])
      refine wpAnyH_take (i := 7) (v := .int .i64 E) rfl (by kernel_rfl) (by kernel_rfl) (by kernel_rfl) (fun _ _ _ h => h) (Or.inl ⟨by rfl, ?_⟩) (by assumption) ?_
      · intro wx hs1; go_simp
      (try simp only [Act.put, List.getElem_toArray, List.getElem_cons_succ, List.getElem_cons_zero, List.setIfInBounds_toArray, List.set_cons_zero, List.set_cons_succ])
      refine wpAnyH_ready (rs := [6]) (by kernel_rfl) (by simp) (AllReadyH.cons rfl (fun K hK => ?_) AllReadyH.nil)
      go_simp
      go_at_call 17
      (with_reducible refine (H17.out _).mono ?_)
      rintro e w7 ⟨rfl, rfl⟩
      try dsimp only
      have hS := hS0
      refine hK.out _ _ hS (fun _ => ?_)
      clear hK K
      (try simp only [Act.put, List.getElem_toArray, List.getElem_cons_succ, List.getElem_cons_zero, List.setIfInBounds_toArray, List.set_cons_zero, List.set_cons_succ])
      refine wpAnyH_take (i := 8) (v := .bool true) rfl (by kernel_rfl) (by kernel_rfl) (by kernel_rfl) (fun _ _ _ h => h) (Or.inl ⟨by rfl, ?_⟩) (by assumption) ?_
      · intro wx hs1; go_simp
      (try simp only [Act.put, List.getElem_toArray, List.getElem_cons_succ, List.getElem_cons_zero, List.setIfInBounds_toArray, List.set_cons_zero, List.set_cons_succ])
      refine wpAnyH_take (i := 9) (v := .bool true) rfl (by kernel_rfl) (by kernel_rfl) (by kernel_rfl) (fun _ _ _ h => h) (Or.inl ⟨by rfl, ?_⟩) (by assumption) ?_
      · intro wx hs1; go_simp
      (try simp only [Act.put, List.getElem_toArray, List.getElem_cons_succ, List.getElem_cons_zero, List.setIfInBounds_toArray, List.set_cons_zero, List.set_cons_succ])
      obtain ⟨⟨j0, j1, j2, j3, j4⟩, ⟨g0, g1, g2, g3, g4⟩⟩ := five_cells (HX6.out V0 HB0.out)
      refine wpAnyH_ready (rs := [10]) (by kernel_rfl) (by simp) (AllReadyH.cons rfl (fun K hK => ?_) AllReadyH.nil)
      go_simp
      try dsimp only
      have hW5x := put5 (HX6.out V0 HB0.out) (.int .i64 b1) (.int .i64 b2) (.int .i64 b3) (.slice A9 nM c9) (.slice AD nD cD)
      have hW5b := put5_but V0 (w.heap.size + 2) (.int .i64 b1) (.int .i64 b2) (.int .i64 b3) (.slice A9 nM c9) (.slice AD nD cD)
      unfold put5W at hW5x hW5b
      obtain ⟨W5, hqW5⟩ : ∃ V, put5W V0 (w.heap.size + 2) (.int .i64 b1) (.int .i64 b2) (.int .i64 b3) (.slice A9 nM c9) (.slice AD nD cD) = V := ⟨_, rfl⟩
      unfold put5W at hqW5
      rw [hqW5] at hW5x hW5b ⊢
      clear hqW5 j0 j1 j2 j3 j4 g0 g1 g2 g3 g4
      have hS := hS0.trans hW5b (fun _ _ e => e)
      refine hK.out _ _ hS (fun _ => ?_)
      clear hK K
      (try simp only [Act.put, List.getElem_toArray, List.getElem_cons_succ, List.getElem_cons_zero, List.setIfInBounds_toArray, List.set_cons_zero, List.set_cons_succ])
      refine wpAnyH_take (i := 11) (v := .bool true) rfl (by kernel_rfl) (by kernel_rfl) (by kernel_rfl) (fun _ _ _ h => h) (Or.inl ⟨by rfl, ?_⟩) (by assumption) ?_
      · intro wx hs1; go_simp
      (try simp only [Act.put, List.getElem_toArray, List.getElem_cons_succ, List.getElem_cons_zero, List.setIfInBounds_toArray, List.set_cons_zero, List.set_cons_succ])
      refine wpAnyH_done (by kernel_rfl) ?_ _
      obtain ⟨⟨z0, z1, z2, z3, z4⟩, _⟩ := five_cells hW5x
      have hb4 := ((But.of_all HBW.out B).trans (But.of_all HB34.out B) (fun _ _ e => e)).trans HBUT.out (fun _ _ e => e)
      have hb5 := hb4.trans HKB.out (fun b e1 e2 => by have := HO3.out b e2; have := HSZ.out; omega)
      have hb6 := (hb5.trans (But.of_all HB0.out B) (fun _ _ e => e)).trans hW5b (fun b e1 e2 => by omega)
      have hszf : w5.heap.size ≤ W5.heap.size := Nat.le_trans HKB.out.size (Nat.le_trans HB0.out.size hW5b.size)
      go_wp2
      exact bodyPost_ret (v := .tuple #[.agg #[.int .i64 b1, .int .i64 b2, .int .i64 b3, .slice A9 nM c9, .slice AD nD cD], .bool true]) (by simp [results, Try.results27, go_sem, z0, z1, z2, z3, z4]) rfl ⟨A9, nM, c9, rfl, hb6⟩
theorem Sm.act0_any {B S : Nat → Prop} {p : Nat} {N : NM} {AL AD : Option Addr} {nL cL nD cD : Nat} {R : List MsgM} (what x y pick : Int) (Ax : Option Addr) (nx cx : Nat) (is : Bool) (w : World) (hn : Nt0 B w p N) (h : RfAt S w N AL nL cL AD nD cD R) (hSB : ∀ b, B b → S b) (hSw : ∀ b, S b → b < w.heap.size)
    (l : List (BitVec 8)) (hl : l.length = nx) (hnx : nx ≤ 1000000) (hrx : Rds w S Ax (l.map byteCell)) (hC : N.s.came < 1000000000) (hD : nD < 4096) :
    Calls Try.prog 27 #[.pointer (some ⟨p, 0, none⟩), refV N.s AL nL cL AD nD cD, .agg #[.int .i64 what, .int .i64 x, .int .i64 y, .int .i64 pick, .slice Ax nx cx, .bool is]] w fun e w' => ∃ s A1 n1 c1 A2 n2 c2, e = .returned (.tuple #[refV s A1 n1 c1 A2 n2 c2, .bool true]) ∧ But B w w' := by
  by_cases h0 : what = 0
  · subst h0
    refine (actPut0 x y pick Ax nx cx is w hn h hSB hSw l hl hnx hrx hC).mono ?_
    rintro e w' ⟨A', nM, c', rfl, h1⟩
    exact ⟨_, A', nM, c', AD, nD, cD, rfl, h1⟩
  · by_cases h1 : what = 1
    · subst h1
      refine (actPeek x y pick Ax nx cx is w hn.up h).mono ?_
      rintro e w' ⟨rfl, h1⟩
      exact ⟨_, AL, nL, cL, AD, nD, cD, rfl, But.of_all h1 _⟩
    · by_cases h2 : what = 2
      · subst h2
        refine (actTake0 x y pick Ax nx cx is w hn h hSB hSw).mono ?_
        rintro e w' ⟨A', nM, c', rfl, h1⟩
        exact ⟨_, A', nM, c', AD, nD, cD, rfl, h1⟩
      · by_cases h3 : what = 3
        · subst h3
          refine (actDrop0 x y pick Ax nx cx is w hn h hSB hSw).mono ?_
          rintro e w' ⟨A', nM, c', rfl, h1⟩
          exact ⟨_, A', nM, c', AD, nD, cD, rfl, h1⟩
        · refine (actDown0 x y pick Ax nx cx is w hn h hSB hSw hD what h0 h1 h2 h3).mono ?_
          rintro e w' ⟨A', nM, c', rfl, h1⟩
          exact ⟨_, AL, nL, cL, A', nM, c', rfl, h1⟩
end Go.Proofs
namespace Go.Proofs
open Go Go.RowKit Sm Go.Lib Go.Maps Go.WideMaps
attribute [local go_sem] Oper.semAt_some
theorem Sm.wpIn_rangeP {P : Program} {g : Operand} {ps : Array Tmp} {assign body : Code} {Q : Exit → Act → World → Prop} {a : Act} {w : World} {n : Nat} {gf : Nat} {lb : Array Value}
    (hg : a.eval g = .func (.func gf) #[] lb) (eg : ∀ args w, (callFunc gf args).run P w = .ok (.enter gf args) w)
    {X : Nat → Prop} {H : Nat → Nat → Array Value → World → Prop} {row : Array Value → Nat → Prop} {Go S Sp : Nat → Prop} (hseq : SeqX P gf lb X H row Go S Sp w)
    (hX : ∀ b, X b → b < w.heap.size) (hH : ∀ k args W W', H (w.heap.size + 2) k args W → But (fun b => b < w.heap.size + 2) W W' → H (w.heap.size + 2) k args W')
    (hrow : ∀ k args W b, H (w.heap.size + 2) k args W → row args b → w.heap.size + 2 ≤ b) (p1 q1 : Nat) (T : TypeId) (hps : ps = #[p1]) (hargs : ∀ k args W, H (w.heap.size + 2) k args W → ∃ C, args = #[.agg C])
    (I Ix : Nat → World → Prop) (id : Nat) (hI : LowJ w.heap.size I) (hIx : LowJ w.heap.size Ix) (h0 : I 0 w)
    (hassign : ∀ (l k : Nat) (C : Array Value) (W : World) (K : Act → World → Prop), w.heap.size + 2 ≤ W.heap.size → H (w.heap.size + 2) k #[.agg C] W → K { tmps := (a.tmps.setIfInBounds p1 (.agg C)).setIfInBounds q1 (.pointer (some ⟨W.heap.size, 0, none⟩)), defers := [] } (W.alloc (.cells C T)) →
      assign.wpIn (Fence.wide.inRound l) (n - 1 - 1) P (Exit.then K (fun _ _ _ => False)) { tmps := a.tmps.setIfInBounds p1 (.agg C), defers := [] } W)
    (hbody : ∀ (l k t : Nat) (C : Array Value) (W : World), w.heap.size + 2 ≤ t → W.heap[t]? = some (.cells C T (0, 0)) → w.heap.size + 2 ≤ W.heap.size → I k W → H (w.heap.size + 2) k #[.agg C] W → body.wpIn (Fence.wide.inRound l) (n - 1 - 1) P (postX Go X row #[.agg C] I (fun c k W => c = .exit id ∧ Ix k W) k W) { tmps := (a.tmps.setIfInBounds p1 (.agg C)).setIfInBounds q1 (.pointer (some ⟨t, 0, none⟩)), defers := [] } W)
    (R : Act → World → Prop) (hQn : ∀ a w, R a w → Q .normal a w) (hQx : ∀ a w, R a w → Q (.exit id) a w)
    (hrest : ∀ (W : World), ((∃ k, S k ∧ I k W) ∨ ∃ k, Sp k ∧ Ix k W) → W.heap[w.heap.size]? = some (.deferred (some [])) → R { a with defers := { target := .collected w.heap.size, args := #[] } :: a.defers } W) :
    (Code.rangeFunc g ps assign body).wpIn Fence.wide n P Q a w := by
  subst hps
  refine wpIn_range hg eg hseq hX hH hrow (fun k args W h => by obtain ⟨C, rfl⟩ := hargs k args W h; rfl) I (fun c k W => c = .exit id ∧ Ix k W) hI (fun c k W W' h hb => ⟨h.1, hIx k W W' h.2 hb⟩) h0
    (fun args a' W => ∃ (t : Nat) (C : Array Value), args = #[.agg C] ∧ w.heap.size + 2 ≤ t ∧ W.heap[t]? = some (.cells C T (0, 0)) ∧ a' = { tmps := (a.tmps.setIfInBounds p1 (.agg C)).setIfInBounds q1 (.pointer (some ⟨t, 0, none⟩)), defers := [] })
    (fun args a' W W' ⟨t, C, g1, g2, g3, g4⟩ hb => ⟨t, C, g1, g2, hb.box g3 (by omega), g4⟩) ?_ ?_
    (fun k W hS hi hD => hQn _ _ (hrest W (.inl ⟨k, hS, hi⟩) hD))
    (fun c k W hSp hx hD => by
      obtain ⟨rfl, hx⟩ := hx
      exact wpIn_exit (hQx _ _ (hrest W (.inr ⟨k, hSp, hx⟩) hD)))
  · intro l k args W K hsz _ hh hK
    obtain ⟨C, rfl⟩ := hargs k args W hh
    have := hassign l k C W K hsz hh (hK _ _ ((Below.refl _ _).alloc (Nat.le_refl _) _) ⟨W.heap.size, C, rfl, hsz, World.alloc_heap_new _ _, rfl⟩)
    simpa using this
  · rintro l k args a' W hs hi hh ⟨t, C, rfl, ht, hxt, rfl⟩
    exact hbody l k t C W ht hxt hs hi hh
theorem Sm.rdActs_one (w : World) (x : ActV) : RdActs (w.alloc (.cells #[.int .i64 x.what, .int .i64 x.src, .int .i64 x.dst, .int .i64 x.pick, .slice x.A x.n x.c, .bool x.is] 64)) (some ⟨w.heap.size, 0, none⟩) [x] := fun _ => ⟨w.heap.size, 0, rfl, by simp, fun j y hj i v hi => by
  have hj0 : j = 0 := by have := (List.getElem?_eq_some_iff.1 hj).1; simp at this; exact this
  subst hj0
  obtain rfl : x = y := by simpa using hj
  have h := cell_of_heap (World.alloc_heap_new w (.cells #[.int .i64 x.what, .int .i64 x.src, .int .i64 x.dst, .int .i64 x.pick, .slice x.A x.n x.c, .bool x.is] 64)) i
  have e : (⟨w.heap.size, 0 + 0 * 6 + i, none⟩ : Addr) = ⟨w.heap.size, i, none⟩ := by simp
  rw [e, h]
  have h2 : (x.cells.toArray)[i]? = some v := by rw [List.getElem?_toArray]; exact hi
  exact h2⟩
/-- what stands where the messages are gone over -/
structure Sm.LvAt (w W : World) (many : Int) (B8 q n : Nat) (NK : NM) (A1 : Option Addr) (n1 c1 : Nat) (A2 : Option Addr) (n2 c2 : Nat) (R L : List MsgM) (A' : Option Addr) (c' : Nat) : Prop where
  below : Below w.heap.size w W
  box : W.heap[B8]? = some (.cells #[.int .i64 NK.s.ends, .int .i64 NK.s.most, .int .i64 NK.s.came, .slice A1 n1 c1, .slice A2 n2 c2] 29 (0, 0))
  rf : RfAt (fun _ => False) W NK A1 n1 c1 A2 n2 c2 R
  cl : W.heap[q]? = some (.cells #[.slice A' n c'] 33 (0, 0))
  row : Rds W (fun _ => False) A' (cellsM L)
  byt : ∀ m ∈ L, Rds W (fun _ => False) m.A (m.bytes.map byteCell) ∧ m.bytes.length ≤ 8192
  many_ : W.heap[w.heap.size]? = some (.cells #[.int .i64 many] 3 (0, 0))
  res : W.heap[w.heap.size + 2]? = some (.cells #[.bool false] 4 (0, 0))
theorem Sm.LvAt.on {w W W' : World} {many : Int} {B8 q n : Nat} {NK : NM} {A1 : Option Addr} {n1 c1 : Nat} {A2 : Option Addr} {n2 c2 : Nat} {R L : List MsgM} {A' : Option Addr} {c' : Nat} (h : LvAt w W many B8 q n NK A1 n1 c1 A2 n2 c2 R L A' c') (hb : Below W.heap.size W W') : LvAt w W' many B8 q n NK A1 n1 c1 A2 n2 c2 R L A' c' :=
  ⟨h.below.trans (hb.mono h.below.size), (hb.block _ (Array.getElem?_eq_some_iff.1 h.box).1).trans h.box, h.rf.keep hb, (hb.block _ (Array.getElem?_eq_some_iff.1 h.cl).1).trans h.cl, h.row.but (But.of_all hb (fun _ => False)) (fun _ e => e), fun m hm => ⟨(h.byt m hm).1.but (But.of_all hb (fun _ => False)) (fun _ e => e), (h.byt m hm).2⟩, (hb.block _ (Array.getElem?_eq_some_iff.1 h.many_).1).trans h.many_, (hb.block _ (Array.getElem?_eq_some_iff.1 h.res).1).trans h.res⟩
set_option maxRecDepth 100000 in
set_option maxHeartbeats 16000000 in
theorem Sm.leaves_law (A : Option Addr) (n c : Nat) (xs : List ActV) (many : Int) (x : ActV) (w : World) (hn : xs.length = n) (hc : n ≤ c) (hc2 : c ≤ 9223372036854775807) (hR : RdActs w A xs) (hcame : ∀ x ∈ xs, x.came w) (hm1 : -9223372036854775808 ≤ many) (hm2 : many ≤ 9223372036854775807) (hx : x.came w) :
    Calls Try.prog 6 #[.slice A n c, .int .i64 many, .agg #[.int .i64 x.what, .int .i64 x.src, .int .i64 x.dst, .int .i64 x.pick, .slice x.A x.n x.c, .bool x.is]] w fun e w' => e = .returned (.bool true) ∧ Below w.heap.size w w' := by
  have hwk := fun W => works_any W
  obtain ⟨wA, hwA⟩ : ∃ V, ((w.alloc (.cells #[.int .i64 many] 3)).alloc (.cells #[.int .i64 x.what, .int .i64 x.src, .int .i64 x.dst, .int .i64 x.pick, .slice x.A x.n x.c, .bool x.is] 64)).alloc (.cells #[.bool false] 4) = V := ⟨_, rfl⟩
  have hbA : Below w.heap.size w wA := by rw [← hwA]; exact (bel2 w _ _).alloc (bel2 w _ _).size _
  have hxA0 : wA.heap[w.heap.size]? = some (.cells #[.int .i64 many] 3 (0, 0)) := by rw [← hwA]; exact old_alloc _ (old_alloc _ (new_alloc _ rfl))
  have hxA1 : wA.heap[w.heap.size + 1]? = some (.cells #[.int .i64 x.what, .int .i64 x.src, .int .i64 x.dst, .int .i64 x.pick, .slice x.A x.n x.c, .bool x.is] 64 (0, 0)) := by rw [← hwA]; exact old_alloc _ (new_alloc _ (by simp))
  have hxA2 : wA.heap[w.heap.size + 2]? = some (.cells #[.bool false] 4 (0, 0)) := by rw [← hwA]; exact new_alloc _ (by simp)
  have hsA : wA.heap.size = w.heap.size + 3 := by rw [← hwA]; simp
  have hRA := hR.keep hbA
  have hcA := fun x hx => (hcame x hx).keep hbA
  have hxc := hx.keep hbA
  have hfew := few_any A n c xs 30 wA hRA hn hc hc2 hcA
  cases hf : fewM xs 30 with
  | false =>
    rw [hf] at hfew
    have HX2 := Lib.hid hxA2
    have HBA := Lib.hid hbA
    obtain ⟨d0, d1, d2, d3, d4, d5⟩ := six_cells hxA1
    clear hf hR hcame hRA hcA hx hxc hxA0 hxA1 hxA2 hbA hsA
    go_enter Try.func6, Try.ntmps6
    go_upto_region 1 with fail
    clear hwA
    go_wp2_with (first
      | (go_at_call 9; (with_reducible refine hfew.mono ?_); rintro e w' ⟨rfl, rfl⟩)
      | (go_at_call 10; (with_reducible refine (hwk _).mono ?_); rintro e w1 ⟨rfl, hb⟩; have hx1 := (hb.block _ (Array.getElem?_eq_some_iff.1 HX2.out).1).trans HX2.out; have c1 := cell_of_heap hx1 0; have f1 := frozen_of_heap hx1 0; simp only [List.getElem?_toArray, List.getElem?_cons_zero] at c1; have HX1 := Lib.hid hx1; have HB1 := Lib.hid (HBA.out.trans (hb.mono HBA.out.size)); clear hx1 hb))
    have hz := heap_setCells (i := 0) (u := .bool true) HX1.out
    have hbq : But (fun q => q = w.heap.size + 2) w1 (w1.setCell ⟨w.heap.size + 2, 0, none⟩ (.bool true)) := (But.refl _ _).set ⟨w.heap.size + 2, 0, none⟩ _ (.inl rfl)
    have z0 := cell_of_heap hz 0
    simp only [List.getElem?_toArray, List.getElem?_cons_zero, List.setIfInBounds_toArray, List.set_cons_zero] at z0
    exact bodyPost_ret (v := .bool true) (by simp [results, Try.results6, go_sem, z0]) rfl ⟨rfl, HB1.out.trans (hbq.to_below HB1.out.size (fun b e => by omega))⟩
  | true =>
    rw [hf] at hfew
    obtain ⟨hsm, hl50⟩ := few_small hf
    rw [hn] at hl50
    obtain ⟨wB, hwB⟩ : ∃ V, wA.alloc (.cells #[.int .i64 x.what, .int .i64 x.src, .int .i64 x.dst, .int .i64 x.pick, .slice x.A x.n x.c, .bool x.is] 64) = V := ⟨_, rfl⟩
    have hbB : Below wA.heap.size wA wB := by rw [← hwB]; exact (Below.refl _ _).alloc (Nat.le_refl _) _
    have hfew2 := few_any (some ⟨wA.heap.size, 0, none⟩) 1 1 [x] 1 wB (by rw [← hwB]; exact rdActs_one wA x) rfl (by decide) (by decide) (fun y hy => by
      obtain rfl : y = x := by simpa using hy
      exact hxc.keep hbB)
    have hbB0 := hbA.trans (hbB.mono hbA.size)
    obtain ⟨d0, d1, d2, d3, d4, d5⟩ := six_cells hxA1
    cases hf2 : fewM [x] 1 with
    | false =>
      rw [hf2] at hfew2
      have HX2 := Lib.hid ((hbB.block _ (by omega)).trans hxA2)
      have HBA := Lib.hid hbB0
      have hwB' := hwB
      clear hf hf2 hR hcame hRA hcA hx hxc hxA0 hxA1 hxA2 hbA hsA hbB hbB0
      go_enter Try.func6, Try.ntmps6
      go_upto_region 1 with fail
      clear hwA
      go_wp2_with (first
        | (go_at_call 9; (with_reducible refine hfew.mono ?_); clear hfew; rintro e w' ⟨rfl, rfl⟩)
        | (go_at_call 9; (with_reducible refine hfew2.mono ?_); rintro e w' ⟨rfl, rfl⟩)
        | (go_at_call 10; (with_reducible refine (hwk _).mono ?_); rintro e w1 ⟨rfl, hb⟩; have hx1 := (hb.block _ (Array.getElem?_eq_some_iff.1 HX2.out).1).trans HX2.out; have c1 := cell_of_heap hx1 0; have f1 := frozen_of_heap hx1 0; simp only [List.getElem?_toArray, List.getElem?_cons_zero] at c1; have HX1 := Lib.hid hx1; have HB1 := Lib.hid (HBA.out.trans (hb.mono HBA.out.size)); clear hx1 hb))
      have hz := heap_setCells (i := 0) (u := .bool true) HX1.out
      have hbq : But (fun q => q = w.heap.size + 2) w1 (w1.setCell ⟨w.heap.size + 2, 0, none⟩ (.bool true)) := (But.refl _ _).set ⟨w.heap.size + 2, 0, none⟩ _ (.inl rfl)
      have z0 := cell_of_heap hz 0
      simp only [List.getElem?_toArray, List.getElem?_cons_zero, List.setIfInBounds_toArray, List.set_cons_zero] at z0
      exact bodyPost_ret (v := .bool true) (by simp [results, Try.results6, go_sem, z0]) rfl ⟨rfl, HB1.out.trans (hbq.to_below HB1.out.size (fun b e => by omega))⟩
    | true =>
      rw [hf2] at hfew2
      have hxn : x.n ≤ 200 := (few_small hf2).1 x (by simp)
      have hpl := played_any 4 20 A n c xs wB (by decide) (hRA.keep hbB) hn hc hc2 (fun x hx => (hcA x hx).keep hbB) hsm (by omega)
      have hlim := runV_lim 4 20 xs xs.length
      rw [List.take_length] at hlim
      obtain ⟨NK, hNK⟩ : ∃ N, runV ⟨⟨4, 20, 0⟩, [], []⟩ xs = N := ⟨_, rfl⟩
      rw [hNK] at hpl hlim
      unfold refV at hpl
      have HXC := Lib.hid (hxc.keep hbB)
      have HS0 := Lib.hid (show wA.heap.size = w.heap.size + 3 ∧ wA.heap.size < wB.heap.size from ⟨hsA, by rw [← hwB]; simp⟩)
      have HX0 := Lib.hid ((hbB.block _ (by omega)).trans hxA0)
      have HX1 := Lib.hid ((hbB.block _ (by omega)).trans hxA1)
      have HX2 := Lib.hid ((hbB.block _ (by omega)).trans hxA2)
      have HBB := Lib.hid hbB0
      have HLIM : Hid (NK.s.came ≤ 30 ∧ NK.D.length ≤ 30) := Lib.hid (by omega)
      have hne : ∀ W q, (binOp BinOp.eql 46 (.func (.func 45) #[] #[.pointer (some ⟨q, 0, none⟩)]) Value.nilFunc).run Try.prog W = .ok (.bool false) W := fun W q => by first | rfl | kernel_rfl
      have HNE := Lib.hid hne
      have HWK := Lib.hid hwk
      clear hNK hf hf2 hR hcame hRA hcA hx hxc hxA0 hxA1 hxA2 hbA hsA hbB hbB0 hsm hn hl50 hlim hne hwk
      refine (callsIn_wide (n := 3)).1 (callsIn_of_wp_marks Try.func6 rfl trivial ?_ rfl)
      refine wpIn_wide.2 ?_
      simp only [Try.ntmps6, List.size_toArray, List.length_cons, List.length_nil, Nat.reduceAdd, Nat.reduceSub, Array.replicate_succ, Array.replicate_zero, List.push_toArray, List.append_toArray, List.nil_append, List.cons_append]
      go_upto_region 1 with fail
      clear hwA
      go_upto_region 3 with (first
        | (go_at_call 9; (with_reducible refine hfew.mono ?_); clear hfew; rintro e w' ⟨rfl, rfl⟩)
        | (go_at_call 9; (with_reducible refine hfew2.mono ?_); clear hfew2; rintro e w' ⟨rfl, rfl⟩))
      clear hwB d0 d1 d2 d3 d4 d5
      go_upto_region 4 with (go_at_call 11; (with_reducible refine hpl.mono ?_); clear hpl; rintro e w1 ⟨p, B, A1, n1, c1, A2, n2, c2, R, rfl, hrf, hnt, hBb, hb1⟩)
      have hbc : Below w1.heap.size w1 (w1.alloc (.cells #[.int .i64 NK.s.ends, .int .i64 NK.s.most, .int .i64 NK.s.came, .slice A1 n1 c1, .slice A2 n2 c2] 29)) := (Below.refl _ _).alloc (Nat.le_refl _) _
      have hx8 := World.alloc_heap_new w1 (.cells #[.int .i64 NK.s.ends, .int .i64 NK.s.most, .int .i64 NK.s.came, .slice A1 n1 c1, .slice A2 n2 c2] 29)
      obtain ⟨w2, hw2⟩ : ∃ V, w1.alloc (.cells #[.int .i64 NK.s.ends, .int .i64 NK.s.most, .int .i64 NK.s.came, .slice A1 n1 c1, .slice A2 n2 c2] 29) = V := ⟨_, rfl⟩
      rw [hw2] at hbc hx8 ⊢
      obtain ⟨B8, hB8⟩ : ∃ t, w1.heap.size = t := ⟨_, rfl⟩
      rw [hB8] at hx8 hBb ⊢
      have hlt8 := (Array.getElem?_eq_some_iff.1 hx8).1
      obtain ⟨Mb, base, AL, cap, L, h1, h2, h3, h4, h5, h6⟩ := hnt
      have hLn : L.length = n1 := by rw [← hrf.len]; have e := hrf.map; rw [← h2] at e; have := congrArg List.length e; simpa using this.symm
      have hall := all_at w2 (h1.keep hbc)
      obtain ⟨B0, hB0⟩ : ∃ B0 : Nat → Prop, B0 = fun b => b = p ∨ b = Mb ∨ (Value.slice AL L.length cap).ownBlock = some b := ⟨_, rfl⟩
      have hB0B : ∀ b, B0 b → B b := fun b e => by
        rw [hB0] at e
        rcases e with e | e | e
        · exact e ▸ h3
        · exact e ▸ h4
        · exact h5 b e
      have hn0 : Nt0 B0 w2 p NK := ⟨Mb, base, AL, cap, L, h1.keep hbc, h2, by rw [hB0]; exact .inl rfl, by rw [hB0]; exact .inr (.inl rfl), fun b e => by rw [hB0]; exact .inr (.inr e)⟩
      have hsep : ∀ m ∈ L, ∀ b, m.sl.ownBlock = some b → ¬ B0 b := fun m hm b e e2 => by
        have hlo := ((h1.byt m hm).lt b e).1
        rw [hB0] at e2
        rcases e2 with e2 | e2 | e2
        · have := h1.low; omega
        · have := h1.low; omega
        · exact h1.sep m hm b e e2
      have hbyt2 := fun m hm => own_below (h1.byt m hm) hbc
      have hblen := fun m hm => (h1.msg m hm).2.2.2.2.2.2
      have HB0B := Lib.hid hB0B
      have HN0 := Lib.hid hn0
      have HSEP := Lib.hid hsep
      have HBYT := Lib.hid hbyt2
      have HBLEN := Lib.hid hblen
      have HRF := Lib.hid (hrf.keep hbc)
      have HBb := Lib.hid hBb
      have HX8 := Lib.hid hx8
      have HMAP := Lib.hid h2
      have HLN := Lib.hid hLn
      have HB2 := Lib.hid (hb1.trans (hbc.mono hb1.size))
      have HLT8 : Hid (wB.heap.size ≤ B8 ∧ B8 < w2.heap.size) := Lib.hid ⟨by rw [← hB8]; exact hb1.size, hlt8⟩
      clear hrf hBb hx8 h1 h2 h3 h4 h5 h6 hLn hB0B hn0 hsep hbyt2 hblen hb1 hbc hw2 hB8 hlt8 hB0
      go_upto_region 5 with (go_at_call 16; (with_reducible refine hall.mono ?_); clear hall; rintro e w3 ⟨q, A', c', rfl, hq1, hq2, hq3, hb3⟩)
      have HB3 := Lib.hid hb3
      have HQ := Lib.hid (And.intro hq1 (And.intro hq2 hq3))
      obtain ⟨⟨c80, c81, c82, c83, c84⟩, _⟩ := five_cells ((hb3.block _ HLT8.out.2).trans HX8.out)
      obtain ⟨d0, d1, d2, d3, d4, d5⟩ := six_cells (((HB2.out.trans (hb3.mono HB2.out.size)).block _ (by have := HS0.out; omega)).trans HX1.out)
      have hact := act0_any (S := B) x.what x.src x.dst x.pick x.A x.n x.c x.is w3 (HN0.out.keep hb3) (HRF.out.keep hb3) HB0B.out (fun b e => by have := (HBb.out b e).2; have := HLT8.out; have := hb3.size; omega) x.bytes HXC.out.len (by omega) (fun h0 => by
        obtain ⟨b2, off2, e1, e2, e3⟩ := (HXC.out.keep (HB2.out.trans (hb3.mono HB2.out.size))).rd (by simpa using h0)
        obtain ⟨b3, off3, f1, f2, f3⟩ := HXC.out.rd (by simpa using h0)
        have e12 : b2 = b3 := by rw [e1] at f1; injection f1 with f1; injection f1
        exact ⟨b2, off2, e1, e2, fun e => by have := (HBb.out b2 e).1; omega, fun j c hj => by
          rw [List.getElem?_map] at hj
          obtain ⟨y, hy, rfl⟩ := Option.map_eq_some_iff.1 hj
          exact e3 j y hy⟩) (by have := HLIM.out; omega) (by have := HLIM.out; have := HRF.out.dlen; omega)
      unfold refV at hact
      clear hq1 hq2 hq3
      go_upto_region 6 with (go_at_call 27; (with_reducible refine hact.mono ?_); clear hact; rintro e w4 ⟨s4, A3, n3, c3, A4, n4, c4, rfl, hbut4⟩)
      clear hb3 c80 c81 c82 c83 c84 d0 d1 d2 d3 d4 d5
      go_wp2
      obtain ⟨w5, hw5⟩ : ∃ V, (w4.alloc (.cells #[.int .i64 s4.ends, .int .i64 s4.most, .int .i64 s4.came, .slice A3 n3 c3, .slice A4 n4 c4] 29)).alloc (.cells #[.int .i64 0] 3) = V := ⟨_, rfl⟩
      have hb45 : Below w4.heap.size w4 w5 := by rw [← hw5]; exact bel2 w4 _ _
      have hT5 : w5.heap[w4.heap.size + 1]? = some (.cells #[.int .i64 0] 3 (0, 0)) := by rw [← hw5]; exact new_alloc _ (by simp)
      have hs5 : w5.heap.size = w4.heap.size + 2 := by rw [← hw5]; simp
      have hB0l : ∀ b, B0 b → wB.heap.size ≤ b ∧ b < B8 := fun b e => HBb.out b (HB0B.out b e)
      have hszB := HBB.out.size
      have hw2 : wB.heap.size ≤ w2.heap.size := HB2.out.size
      have hw3s : w2.heap.size ≤ w3.heap.size := HB3.out.size
      have hbw3 : Below w.heap.size w w3 := (HBB.out.trans (HB2.out.mono HBB.out.size)).trans (HB3.out.mono (by omega))
      have hbw4 : Below w.heap.size w w4 := hbw3.trans (hbut4.to_below hbw3.size (fun b e => by have := (hB0l b e).1; omega))
      have old : ∀ d Cx T, d < wB.heap.size → wB.heap[d]? = some (.cells Cx T (0, 0)) → w5.heap[d]? = some (.cells Cx T (0, 0)) := fun d Cx T hd h => (hb45.block _ (by have := hbut4.size; omega)).trans (hbut4.box (((HB2.out.trans (HB3.out.mono HB2.out.size)).block _ hd).trans h) (fun e => by have := (hB0l d e).1; omega))
      have hLv : LvAt w w5 many B8 q L.length NK A1 n1 c1 A2 n2 c2 R L A' c' :=
        ⟨hbw4.trans (hb45.mono hbw4.size), (hb45.block _ (by have := hbut4.size; have := HLT8.out; omega)).trans (hbut4.box ((HB3.out.block _ HLT8.out.2).trans HX8.out) (fun e => by have := (hB0l _ e).2; omega)),
         (((HRF.out.keep HB3.out).but hbut4 HB0B.out).keep hb45).less (fun _ _ e => e.elim),
         (hb45.block _ (by have := (Array.getElem?_eq_some_iff.1 HQ.out.2.1).1; have := hbut4.size; omega)).trans (hbut4.box HQ.out.2.1 (fun e => by have := (hB0l _ e).2; have := HQ.out.1; have := HLT8.out; omega)),
         own_rds (own_below (hbut4.row HQ.out.2.2 (fun g e e2 => by have := (hB0l _ e2).2; have := (HQ.out.2.2.lt g e).1; have := HLT8.out; omega)) hb45) (fun _ e => e.elim),
         fun m hm => ⟨own_rds (own_below (hbut4.row (own_below (HBYT.out m hm) HB3.out) (HSEP.out m hm)) hb45) (fun _ e => e.elim), HBLEN.out m hm⟩,
         old _ _ _ (by have := HS0.out; omega) HX0.out, old _ _ _ (by have := HS0.out; omega) HX2.out⟩
      have HLV := Lib.hid hLv
      have HT5 := Lib.hid hT5
      have HZ5 : Hid (w5.heap.size = w4.heap.size + 2 ∧ w.heap.size + 3 ≤ w4.heap.size) := Lib.hid ⟨hs5, by have := hbut4.size; have := HS0.out; omega⟩
      rw [hw5]
      clear hw5 hb45 hT5 hs5 hB0l hszB hw2 hw3s hbw3 hbw4 old hLv hbut4 HQ HB3 HB2 HRF HBYT HBLEN HSEP HN0 HB0B HBb HX8 HX0 HX1 HX2
      refine wp_loop_rounds 3 ?_
      rw [rounds_succ]
      have hz5 := HZ5.out.2
      have HSr0 : Hid (LvAt w w5 many B8 q L.length NK A1 n1 c1 A2 n2 c2 R L A' c') := HLV
      have kt0 := cell_of_heap (HT5).out 0
      simp only [List.getElem?_toArray, List.getElem?_cons_zero] at kt0
      have hlB0 : (w4.heap.size + 1) < w5.heap.size := (Array.getElem?_eq_some_iff.1 (HT5).out).1
      have hlq0 : q < w5.heap.size := (Array.getElem?_eq_some_iff.1 HSr0.out.cl).1
      obtain ⟨v0, hv0⟩ : ∃ v0, w5.alloc (.cells #[.int .i64 0] 3) = v0 := ⟨_, rfl⟩
      have hsv0 : v0.heap.size = w5.heap.size + 1 := by rw [← hv0]; simp
      have hbv0 : Below w5.heap.size w5 v0 := by rw [← hv0]; exact (Below.refl _ _).alloc (Nat.le_refl _) _
      have hn0 : v0.heap[w5.heap.size]? = some (.cells #[.int .i64 0] 3 (0, 0)) := by rw [← hv0]; exact World.alloc_heap_new _ _
      have hrow0 : Rds v0 (fun b => b = w5.heap.size) A' (cellsM L) := (HSr0.out.row.less (S' := fun b => b = w5.heap.size) (fun b hb e => by omega)).but (But.of_all hbv0 (fun _ => False)) (fun _ e => e.elim)
      have hbyt0 : ∀ m ∈ L, Rds v0 (fun b => b = w5.heap.size) m.A (m.bytes.map byteCell) ∧ m.bytes.length ≤ 8192 := fun m hm => ⟨((HSr0.out.byt m hm).1.less (S' := fun b => b = w5.heap.size) (fun b hb e => by omega)).but (But.of_all hbv0 (fun _ => False)) (fun _ e => e.elim), (HSr0.out.byt m hm).2⟩
      have HBV0 := Lib.hid hbv0
      have HV0 := Lib.hid hv0
      have HN0 := Lib.hid hn0
      have HROW0 := Lib.hid hrow0
      have HBYT0 := Lib.hid hbyt0
      have hne0 := HNE.out
      clear hv0 hbv0 hn0 hrow0 hbyt0
      go_wp2
      clear hne0
      rw [HV0.out]
      refine (wpIn_wide (n := 3)).1 ?_
      refine wpIn_rangeP (gf := 45) (lb := #[.pointer (some ⟨q, 0, none⟩)]) rfl (enters_of Try.func45 (by kernel_rfl) rfl)
        (all_seq v0 (fun b => b = w5.heap.size) ((HBV0.out.block _ hlq0).trans HSr0.out.cl) rfl (by have := HLN.out; have := HSr0.out.rf.few; omega) HROW0.out HBYT0.out)
        (fun b e => by omega) ?hH ?hrow 49 15 41 rfl ?hargs
        (fun q W => But (fun b => b = w5.heap.size) v0 W ∧ W.heap[w5.heap.size]? = some (.cells #[.int .i64 (q : Int)] 3 (0, 0)) ∧ q ≤ n1 ∧ (q = 0 ∨ (q : Int) < many))
        (fun q W => But (fun b => b = w5.heap.size) v0 W ∧ W.heap[w5.heap.size]? = some (.cells #[.int .i64 (q : Int)] 3 (0, 0)) ∧ q ≤ n1 ∧ 1 ≤ q ∧ many ≤ (q : Int) ∧ (q = 1 ∨ (q : Int) - 1 < many))
        2 ?hI ?hIx ⟨But.refl _ _, HN0.out, Nat.zero_le _, .inl rfl⟩ ?assign ?body _ (fun _ _ h => h) (fun _ _ h => h) ?rest
      case hH =>
        rintro k args W W' ⟨m, A9, c9, g1, g2, g3⟩ hb
        exact ⟨m, A9, c9, g1, g2, hb.row g3 (fun g e e2 => by have := (g3.lt g e).1; omega)⟩
      case hrow => exact fun k args W b hh e => rowP_lo hh e
      case hargs =>
        rintro k args W ⟨m, A9, c9, _, rfl, _⟩
        exact ⟨_, rfl⟩
      case hI =>
        rintro q W1 W' ⟨i1, i2, i3⟩ hb
        exact ⟨i1.trans (But.of_below hb) (fun b h1 h2 => by omega), (hb.block _ (by omega)).trans i2, i3⟩
      case hIx =>
        rintro q W1 W' ⟨i1, i2, i3⟩ hb
        exact ⟨i1.trans (But.of_below hb) (fun b h1 h2 => by omega), (hb.block _ (by omega)).trans i2, i3⟩
      case assign =>
        rintro l0 k C W K hsz ⟨m, A9, c9, _, hC, _⟩ hK
        obtain rfl : #[.int .i64 m.num, .int .i64 m.src, .int .i64 m.dst, .slice A9 m.bytes.length c9] = C := by
          injection hC with hC
          injection hC with hC _
          injection hC with hC
          exact hC.symm
        simp only [List.setIfInBounds_toArray, List.set_cons_zero, List.set_cons_succ] at hK ⊢
        gi_wp2
        exact hK
      case body =>
        rintro l0 k t C W ht hxt hsz ⟨i1, i2, i3, i4⟩ ⟨m, A9, c9, hm, hC, hrow⟩
        obtain rfl : #[.int .i64 m.num, .int .i64 m.src, .int .i64 m.dst, .slice A9 m.bytes.length c9] = C := by
          injection hC with hC
          injection hC with hC _
          injection hC with hC
          exact hC.symm
        simp only [List.setIfInBounds_toArray, List.set_cons_zero, List.set_cons_succ]
        have hkl : k < L.length := (List.getElem?_eq_some_iff.1 hm).1
        rw [HLN.out] at hkl
        have hbW : Below w5.heap.size w5 W := HBV0.out.trans (i1.to_below (n := w5.heap.size) (by omega) (fun b e => by omega))
        have hSW := HSr0.out.on hbW
        have hTW : W.heap[(w4.heap.size + 1)]? = some (.cells #[.int .i64 0] 3 (0, 0)) := (hbW.block _ hlB0).trans (HT5).out
        obtain ⟨r, hr, e1, e2, e3, e4⟩ : ∃ r, R[k]? = some r ∧ r.num = m.num ∧ r.src = m.src ∧ r.dst = m.dst ∧ r.bytes = m.bytes := by
          have e : (R.map MsgM.d)[k]? = (L.map MsgM.d)[k]? := by rw [hSW.rf.map, HMAP.out]
          rw [List.getElem?_map, List.getElem?_map, hm] at e
          obtain ⟨r, hr, e2⟩ := Option.map_eq_some_iff.1 e
          injection e2 with e3 e4
          injection e4 with e5 e6
          injection e6 with e7 e8
          exact ⟨r, hr, e3, e5, e7, e8⟩
        obtain ⟨b, off, hAL, hbl, _, hcl⟩ := hSW.rf.row (by rw [cellsM_len, hSW.rf.len]; omega)
        have hc := cellsM_at R k r hr
        have q0 := hcl (k * 4) _ hc.1
        have q1' := hcl (k * 4 + 1) _ hc.2.1
        have q2' := hcl (k * 4 + 2) _ hc.2.2.1
        have q3 := hcl (k * 4 + 3) _ hc.2.2.2
        unfold MsgM.sl at q3
        rw [← Nat.add_assoc] at q1' q2' q3
        have HRX : Hid (∀ Wx, Below W.heap.size W Wx → Wx.cell? ⟨b, off + k * 4, none⟩ = some (.int .i64 r.num) ∧ Wx.cell? ⟨b, off + k * 4 + 1, none⟩ = some (.int .i64 r.src) ∧ Wx.cell? ⟨b, off + k * 4 + 2, none⟩ = some (.int .i64 r.dst) ∧ Wx.cell? ⟨b, off + k * 4 + 3, none⟩ = some (.slice r.A r.bytes.length r.c)) := Lib.hid fun Wx hb =>
          ⟨(hb.cell (p := ⟨b, off + k * 4, none⟩) hbl).trans q0, (hb.cell (p := ⟨b, off + k * 4 + 1, none⟩) hbl).trans q1', (hb.cell (p := ⟨b, off + k * 4 + 2, none⟩) hbl).trans q2', (hb.cell (p := ⟨b, off + k * 4 + 3, none⟩) hbl).trans q3⟩
        have hlt8 := (Array.getElem?_eq_some_iff.1 hSW.box).1
        have hlt14 := (Array.getElem?_eq_some_iff.1 i2).1
        have hlt13 := (Array.getElem?_eq_some_iff.1 hTW).1
        have hltm := (Array.getElem?_eq_some_iff.1 hSW.many_).1
        have hltt := (Array.getElem?_eq_some_iff.1 hxt).1
        have HBX : Hid (∀ Wx, Below W.heap.size W Wx → Wx.cell? ⟨B8, 0, none⟩ = some (.int .i64 NK.s.ends) ∧ Wx.cell? ⟨B8, 1, none⟩ = some (.int .i64 NK.s.most) ∧ Wx.cell? ⟨B8, 2, none⟩ = some (.int .i64 NK.s.came) ∧ Wx.cell? ⟨B8, 3, none⟩ = some (.slice (some ⟨b, off, none⟩) n1 c1) ∧ Wx.cell? ⟨B8, 4, none⟩ = some (.slice A2 n2 c2)) := Lib.hid fun Wx hb => by
          have h9 := (hb.block _ hlt8).trans hSW.box
          rw [hAL] at h9
          exact (five_cells h9).1
        have HKX : Hid (∀ Wx, Below W.heap.size W Wx → Wx.cell? ⟨w5.heap.size, 0, none⟩ = some (.int .i64 (k : Int))) := Lib.hid fun Wx hb => by
          have := cell_of_heap ((hb.block _ hlt14).trans i2) 0
          simpa using this
        have HPX : Hid (∀ Wx, Below W.heap.size W Wx → Wx.cell? ⟨t, 0, none⟩ = some (.int .i64 m.num) ∧ Wx.cell? ⟨t, 1, none⟩ = some (.int .i64 m.src) ∧ Wx.cell? ⟨t, 2, none⟩ = some (.int .i64 m.dst) ∧ Wx.cell? ⟨t, 3, none⟩ = some (.slice A9 m.bytes.length c9)) := Lib.hid fun Wx hb => (four_cells ((hb.block _ hltt).trans hxt)).1
        have hrb := hSW.rf.byt r (List.mem_of_getElem? hr)
        have H28 : Hid (∀ Wx, Below W.heap.size W Wx → Calls Try.prog 28 #[.agg #[.int .i64 m.num, .int .i64 m.src, .int .i64 m.dst, .slice A9 m.bytes.length c9], .agg #[.int .i64 r.num, .int .i64 r.src, .int .i64 r.dst, .slice r.A r.bytes.length r.c]] Wx fun e w' => e = .returned (.bool true) ∧ Below Wx.heap.size Wx w') := Lib.hid fun Wx hb => by
          have h9 := sameP_any m.num m.src m.dst r.num r.src r.dst m.bytes r.bytes A9 r.A m.bytes.length c9 r.bytes.length r.c Wx rfl rfl (Sm.Rd.of_own (own_below hrow hb) (Nat.le_refl _)) (hrb.but (But.of_all hb (fun _ => False)) (fun _ e => e.elim)).rd
          rw [decide_eq_true (show m.num = r.num ∧ m.src = r.src ∧ m.dst = r.dst ∧ m.bytes = r.bytes from ⟨e1.symm, e2.symm, e3.symm, e4.symm⟩)] at h9
          exact h9
        have hgt : ∀ g, (Value.slice A9 m.bytes.length c9).ownBlock = some g → g ≠ t := fun g hg e => by
          subst e
          rcases hrow.2 with ⟨h8, _⟩ | ⟨g2, cap2, cur2, h8, _, h9, _⟩
          · rw [h8] at hg; cases hg
          · rw [h8] at hg
            have h10 : g2 = g := Option.some.inj hg
            rw [h10] at h9
            rw [hxt] at h9
            injection h9 with h9
            injection h9 with _ h9 _
            cases h9
        have hmem : (m.bytes.length : Int) ≤ 8192 := by have := (HSr0.out.byt m (List.mem_of_getElem? hm)).2; omega
        have HI1 := Lib.hid i1
        have HI2 := Lib.hid i2
        have HI4 := Lib.hid i4
        have HTW := Lib.hid hTW
        have HMANY := Lib.hid hSW.many_
        have HXT := Lib.hid hxt
        have HRW := Lib.hid hrow
        have HGT := Lib.hid hgt
        have HBW := Lib.hid hbW
        have hkI : (k : Int) < (n1 : Int) := by omega
        clear hrow hrb hxt i1 i2 i4 q0 q1' q2' q3 hcl hc hr e1 e2 e3 e4 hm hbW hC hSW hTW hgt
        try dsimp only
        gi_wp2
        have hS0 : (fun Wx => Below W.heap.size W Wx) W.drew := (Below.refl _ _).drew
        refine wpIn_region_heldI (S := fun Wx => Below W.heap.size W Wx) (by kernel_rfl) hS0 fun hHeld => ?_
        simp only [List.size_toArray, List.length_cons, List.length_nil, Nat.reduceAdd, Array.replicate_succ, Array.replicate_zero, List.push_toArray, List.nil_append, List.cons_append]
        refine wpAnyHI_take (i := 0) (v := .int .i64 (k : Int)) (fun _ => trivial) rfl (by kernel_rfl) (by kernel_rfl) (by kernel_rfl) (by kernel_rfl) (fun _ _ _ h => h) (Or.inl ⟨by rfl, ?_⟩) (by assumption) ?_
        · intro wx hs1; have kk := HKX.out wx hs1; go_simp
        try simp only [Act.put, List.setIfInBounds_toArray, List.set_cons_zero, List.set_cons_succ, List.getElem_toArray, List.getElem_cons_zero]
        refine wpAnyHI_take (i := 1) (v := .pointer (some ⟨B8, 3, none⟩)) (fun _ => trivial) rfl (by kernel_rfl) (by kernel_rfl) (by kernel_rfl) (by kernel_rfl) (fun _ _ _ h => h) (Or.inl ⟨by rfl, ?_⟩) (by assumption) ?_
        · intro wx hs1; go_simp
        try simp only [Act.put, List.setIfInBounds_toArray, List.set_cons_zero, List.set_cons_succ, List.getElem_toArray, List.getElem_cons_succ, List.getElem_cons_zero]
        refine wpAnyHI_take (i := 2) (v := .slice (some ⟨b, off, none⟩) n1 c1) (fun _ => trivial) rfl (by kernel_rfl) (by kernel_rfl) (by kernel_rfl) (by kernel_rfl) (fun _ _ _ h => h) (Or.inl ⟨by rfl, ?_⟩) (by assumption) ?_
        · intro wx hs1; obtain ⟨k0, k1, k2, k3, k4⟩ := HBX.out wx hs1; go_simp
        try simp only [Act.put, List.setIfInBounds_toArray, List.set_cons_zero, List.set_cons_succ, List.getElem_toArray, List.getElem_cons_succ, List.getElem_cons_zero]
        refine wpAnyHI_take (i := 3) (v := .int .i64 (n1 : Int)) (fun _ => trivial) rfl (by kernel_rfl) (by kernel_rfl) (by kernel_rfl) (by kernel_rfl) (fun _ _ _ h => h) (Or.inl ⟨by rfl, ?_⟩) (by assumption) ?_
        · intro wx hs1; go_simp
        try simp only [Act.put, List.setIfInBounds_toArray, List.set_cons_zero, List.set_cons_succ, List.getElem_toArray, List.getElem_cons_succ, List.getElem_cons_zero]
        refine wpAnyHI_take (i := 4) (v := .bool false) (fun _ => trivial) rfl (by kernel_rfl) (by kernel_rfl) (by kernel_rfl) (by kernel_rfl) (fun _ _ _ h => h) (Or.inl ⟨by rfl, ?_⟩) (by assumption) ?_
        · intro wx hs1; go_simp
        try simp only [Act.put, List.setIfInBounds_toArray, List.set_cons_zero, List.set_cons_succ, List.getElem_toArray, List.getElem_cons_succ, List.getElem_cons_zero]
        refine wpAnyHI_take (i := 5) (v := .bool false) (fun _ => trivial) rfl (by kernel_rfl) (by kernel_rfl) (by kernel_rfl) (by kernel_rfl) (fun _ _ _ h => h) (Or.inl ⟨by rfl, ?_⟩) (by assumption) ?_
        · intro wx hs1; go_simp
        try simp only [Act.put, List.setIfInBounds_toArray, List.set_cons_zero, List.set_cons_succ, List.getElem_toArray, List.getElem_cons_succ, List.getElem_cons_zero]
        refine wpAnyHI_take (i := 6) (v := .agg #[.int .i64 m.num, .int .i64 m.src, .int .i64 m.dst, .slice A9 m.bytes.length c9]) (fun _ => trivial) rfl (by kernel_rfl) (by kernel_rfl) (by kernel_rfl) (by kernel_rfl) (fun _ _ _ h => h) (Or.inl ⟨by rfl, ?_⟩) (by assumption) ?_
        · intro wx hs1; obtain ⟨k0, k1, k2, k3⟩ := HPX.out wx hs1; go_simp
        try simp only [Act.put, List.setIfInBounds_toArray, List.set_cons_zero, List.set_cons_succ, List.getElem_toArray, List.getElem_cons_succ, List.getElem_cons_zero]
        refine wpAnyHI_take (i := 7) (v := .pointer (some ⟨B8, 3, none⟩)) (fun _ => trivial) rfl (by kernel_rfl) (by kernel_rfl) (by kernel_rfl) (by kernel_rfl) (fun _ _ _ h => h) (Or.inl ⟨by rfl, ?_⟩) (by assumption) ?_
        · intro wx hs1; go_simp
        try simp only [Act.put, List.setIfInBounds_toArray, List.set_cons_zero, List.set_cons_succ, List.getElem_toArray, List.getElem_cons_succ, List.getElem_cons_zero]
        refine wpAnyHI_take (i := 8) (v := .slice (some ⟨b, off, none⟩) n1 c1) (fun _ => trivial) rfl (by kernel_rfl) (by kernel_rfl) (by kernel_rfl) (by kernel_rfl) (fun _ _ _ h => h) (Or.inl ⟨by rfl, ?_⟩) (by assumption) ?_
        · intro wx hs1; obtain ⟨k0, k1, k2, k3, k4⟩ := HBX.out wx hs1; go_simp
        try simp only [Act.put, List.setIfInBounds_toArray, List.set_cons_zero, List.set_cons_succ, List.getElem_toArray, List.getElem_cons_succ, List.getElem_cons_zero]
        refine wpAnyHI_take (i := 9) (v := .int .i64 (k : Int)) (fun _ => trivial) rfl (by kernel_rfl) (by kernel_rfl) (by kernel_rfl) (by kernel_rfl) (fun _ _ _ h => h) (Or.inl ⟨by rfl, ?_⟩) (by assumption) ?_
        · intro wx hs1; have kk := HKX.out wx hs1; go_simp
        try simp only [Act.put, List.setIfInBounds_toArray, List.set_cons_zero, List.set_cons_succ, List.getElem_toArray, List.getElem_cons_succ, List.getElem_cons_zero]
        refine wpAnyHI_take (i := 10) (v := .pointer (some ⟨b, off + k * 4, none⟩)) (fun _ => trivial) rfl (by kernel_rfl) (by kernel_rfl) (by kernel_rfl) (by kernel_rfl) (fun _ _ _ h => h) (Or.inl ⟨by rfl, ?_⟩) (by assumption) ?_
        · intro wx hs1; go_simp
        try simp only [Act.put, List.setIfInBounds_toArray, List.set_cons_zero, List.set_cons_succ, List.getElem_toArray, List.getElem_cons_succ, List.getElem_cons_zero]
        refine wpAnyHI_take (i := 11) (v := .agg #[.int .i64 r.num, .int .i64 r.src, .int .i64 r.dst, .slice r.A r.bytes.length r.c]) (fun _ => trivial) rfl (by kernel_rfl) (by kernel_rfl) (by kernel_rfl) (by kernel_rfl) (fun _ _ _ h => h) (Or.inl ⟨by rfl, ?_⟩) (by assumption) ?_
        · intro wx hs1; obtain ⟨k0, k1, k2, k3⟩ := HRX.out wx hs1; go_simp
        try simp only [Act.put, List.setIfInBounds_toArray, List.set_cons_zero, List.set_cons_succ, List.getElem_toArray, List.getElem_cons_succ, List.getElem_cons_zero]
        refine wpAnyHI_one (i := 12) (by kernel_rfl) rfl (by rfl) fun K hK => ?_
        refine ⟨fun _ _ => trivial, ?_⟩
        go_simp
        refine (CallsIn.inRound l0 (callsIn_wide.2 (H28.out _ hHeld))).mono ?_
        rintro e W4 ⟨rfl, hb4⟩
        have hb14 : Below W.heap.size W W4 := hS0.trans (hb4.mono hS0.size)
        refine hK.out _ _ hb14 (fun _ => ?_)
        clear hK K
        try simp only [List.setIfInBounds_toArray, List.set_cons_zero, List.set_cons_succ]
        refine wpAnyHI_take (i := 13) (v := .bool false) (fun _ => trivial) rfl (by kernel_rfl) (by kernel_rfl) (by kernel_rfl) (by kernel_rfl) (fun _ _ _ h => h) (Or.inl ⟨by rfl, ?_⟩) (by assumption) ?_
        · intro wx hs1; go_simp
        try simp only [Act.put, List.setIfInBounds_toArray, List.set_cons_zero, List.set_cons_succ, List.getElem_toArray, List.getElem_cons_succ, List.getElem_cons_zero]
        refine wpAnyHI_take (i := 14) (v := .bool false) (fun _ => trivial) rfl (by kernel_rfl) (by kernel_rfl) (by kernel_rfl) (by kernel_rfl) (fun _ _ _ h => h) (Or.inl ⟨by rfl, ?_⟩) (by assumption) ?_
        · intro wx hs1; go_simp
        try simp only [Act.put, List.setIfInBounds_toArray, List.set_cons_zero, List.set_cons_succ, List.getElem_toArray, List.getElem_cons_succ, List.getElem_cons_zero]
        refine wpAnyHI_done (by kernel_rfl) ?_ _
        have HB14 := Lib.hid hb14
        have hxt4 := (hb14.block _ hltt).trans HXT.out
        have hKI0 : Hid (KeepI W4 W4 (v0.heap.size + 2) A9 m.bytes.length c9) := Lib.hid (keepI_of (own_below HRW.out hb14) rfl)
        have HY : Hid (∀ Wx, But (fun b => (Value.slice A9 m.bytes.length c9).ownBlock = some b) W4 Wx → Wx.heap[t]? = some (.cells #[.int .i64 m.num, .int .i64 m.src, .int .i64 m.dst, .slice A9 m.bytes.length c9] 41 (0, 0))) := Lib.hid fun Wx hb => hb.box hxt4 (fun e => HGT.out _ e rfl)
        have HLO : Hid (∀ g, (Value.slice A9 m.bytes.length c9).ownBlock = some g → v0.heap.size + 2 ≤ g) := Lib.hid fun g e => (HRW.out.lt g e).1
        obtain ⟨mn, hmn⟩ : ∃ mn, m.bytes.length = mn := ⟨_, rfl⟩
        rw [hmn] at hKI0 HY HLO HGT hmem ⊢
        clear hb14 hS0 hb4 hHeld hxt4
        gi_wp2
        gi_loopw [16] (fun v16 wr => ∃ j : Nat, j ≤ mn ∧ v16 = .int .i64 (j : Int) ∧ Hid (KeepI W4 wr (v0.heap.size + 2) A9 mn c9)) (fun v16 _ => mn - (RowKit.intOf v16).toNat)
        case atStart => exact ⟨0, Nat.zero_le _, rfl, hKI0⟩
        case round =>
          obtain ⟨wz, rfl⟩ : ∃ wz : World, wz = wr := ⟨_, rfl⟩
          obtain ⟨j, hj, rfl, HI⟩ := hrel
          clear hKI0
          obtain ⟨zs, hz1', hz2', hrowz, hbt⟩ := HI.out
          obtain ⟨⟨y0, y1, y2, y3⟩, _⟩ := four_cells (HY.out wz hbt)
          by_cases hlt : j < mn
          · obtain ⟨g, cap2, hv, _⟩ := hrowz.form (by omega)
            injection hv with hv1 hv2 hv3
            subst hv1
            have hkz : j < zs.length := by omega
            have ck := hrowz.cellAt j (by omega)
            rw [List.getElem?_map, List.getElem?_eq_getElem hkz, Option.map_some] at ck
            have fk := hrowz.frozenAt j
            obtain ⟨z, hz⟩ : ∃ z, zs[j] = z := ⟨_, rfl⟩
            have hzr := hz2' z (by rw [← hz]; exact List.getElem_mem hkz)
            rw [hz] at ck
            have hzu := byte_up z hzr.1 hzr.2
            obtain ⟨u, hu⟩ : ∃ u, IntKind.u8.wrap (z + 1) = u := ⟨_, rfl⟩
            rw [hu] at hzu
            have hst := hrowz.stored j (.int .u8 u)
            have hnew : KeepI W4 (wz.setCell ⟨g, j, none⟩ (.int .u8 u)) (v0.heap.size + 2) (some ⟨g, 0, none⟩) mn c9 := by
              refine ⟨zs.set j u, by simpa using hz1', fun y hy => ?_, ?_, hbt.trans (But.grown hst.2) (fun b _ e => e)⟩
              · rcases List.mem_or_eq_of_mem_set hy with h | h
                · exact hz2' y h
                · rw [h]; exact hzu
              · rw [List.map_set]
                exact hst.1
            have HNEW := Lib.hid hnew
            have hw8 : IntKind.u8.wrap (z + 1) = u := hu
            have hkI2 : (j : Int) ≤ 1000000000 := by omega
            have hkL : (j : Int) < (mn : Int) := by omega
            clear hnew hst hbt hrowz hz hz1' hz2' hv2 hv3 hzu hzr hkz
            gi_wp2
            go_roundw
            case rel => exact ⟨j + 1, by omega, by go_num, HNEW⟩
            case measure => simp [RowKit.intOf]; omega
          · obtain rfl : j = mn := by omega
            have hbWz : But (fun b => b = w5.heap.size ∨ rowP #[.agg #[.int .i64 m.num, .int .i64 m.src, .int .i64 m.dst, .slice A9 m.bytes.length c9]] b) W wz := (But.of_all HB14.out _).trans hbt (fun b _ e => .inr ⟨_, _, _, _, _, _, rfl, by rw [hmn]; exact e⟩)
            have hbvz : But (fun b => b = w5.heap.size) v0 wz := (HI1.out.trans (But.of_all HB14.out _) (fun _ _ e => e)).trans hbt (fun b hb e => by have := HLO.out b e; omega)
            have hxz : ∀ d Cx T, d < v0.heap.size → W.heap[d]? = some (.cells Cx T (0, 0)) → wz.heap[d]? = some (.cells Cx T (0, 0)) := fun d Cx T hd h => hbt.box ((HB14.out.block _ (Array.getElem?_eq_some_iff.1 h).1).trans h) (fun e => by have := HLO.out d e; omega)
            have hx14 := hxz _ _ _ (by omega) HI2.out
            have hx13 := hxz _ _ _ (by omega) HTW.out
            have hxm := hxz _ _ _ (by have := (Array.getElem?_eq_some_iff.1 HSr0.out.many_).1; omega) HMANY.out
            have k1 := cell_of_heap hx14 0
            have k2 := frozen_of_heap hx14 0
            have k4 := cell_of_heap hx13 0
            have k5 := cell_of_heap hxm 0
            simp only [List.getElem?_toArray, List.getElem?_cons_zero] at k1 k4 k5
            have hbq : But (fun b => b = w5.heap.size) wz (wz.setCell ⟨w5.heap.size, 0, none⟩ (.int .i64 ((k : Int) + 1))) := (But.refl _ _).set ⟨w5.heap.size, 0, none⟩ _ (.inl rfl)
            have hbx := heap_setCells (i := 0) (u := .int .i64 ((k : Int) + 1)) hx14
            have HBQ : Hid (But (fun b => b = w5.heap.size ∨ rowP #[.agg #[.int .i64 m.num, .int .i64 m.src, .int .i64 m.dst, .slice A9 m.bytes.length c9]] b) W (wz.setCell ⟨w5.heap.size, 0, none⟩ (.int .i64 ((k : Int) + 1)))) := Lib.hid (hbWz.trans hbq (fun b _ e => .inl e))
            have HBI : Hid (But (fun b => b = w5.heap.size) v0 (wz.setCell ⟨w5.heap.size, 0, none⟩ (.int .i64 ((k : Int) + 1)))) := Lib.hid (hbvz.trans hbq (fun b _ e => e))
            have HBX2 : Hid ((wz.setCell ⟨w5.heap.size, 0, none⟩ (.int .i64 ((k : Int) + 1))).heap[w5.heap.size]? = some (.cells #[.int .i64 ((k + 1 : Nat) : Int)] 3 (0, 0))) := Lib.hid (by rw [show ((k + 1 : Nat) : Int) = (k : Int) + 1 by omega]; exact hbx)
            have hqi : (k : Int) ≤ 5000 := by have := HLIM.out; have := HSr0.out.rf.few; omega
            have hn5 : (n1 : Int) ≤ 5000 := by have := HSr0.out.rf.few; omega
            clear hbq hbx hbt hrowz hz1' hz2' hbWz hbvz hxz hx14 hx13 hxm hmn
            by_cases hmq : many ≤ (k : Int) + 1
            · gi_wp2
              exact ⟨HBQ.out, rfl, HBI.out, HBX2.out, by omega, by omega, by omega, by have := HI4.out; omega⟩
            · gi_wp2
              exact ⟨trivial, HBQ.out, HBI.out, HBX2.out, by omega, Or.inr (by omega)⟩
      case rest =>
        intro X0 hor hD
        obtain ⟨M, i1, i2, hM⟩ : ∃ M : Nat, But (fun b => b = w5.heap.size) v0 X0 ∧ X0.heap[w5.heap.size]? = some (.cells #[.int .i64 (M : Int)] 3 (0, 0)) ∧ (M : Int) = min (n1 : Int) (max 1 many) := by
          rcases hor with ⟨q, hS, i1, i2, i3, i4⟩ | ⟨q, hSp, i1, i2, i3, i5, i6, i7⟩
          · exact ⟨q, i1, i2, by have := i4; have := HLN.out; omega⟩
          · exact ⟨q, i1, i2, by omega⟩
        have hbW : Below w5.heap.size w5 X0 := HBV0.out.trans (i1.to_below (n := w5.heap.size) (by omega) (fun b e => by omega))
        have hSW := HSr0.out.on hbW
        have hTW : X0.heap[(w4.heap.size + 1)]? = some (.cells #[.int .i64 0] 3 (0, 0)) := (hbW.block _ hlB0).trans (HT5).out
        have k1 := cell_of_heap i2 0
        have k3 := cell_of_heap hSW.box 3
        have k4 := cell_of_heap hTW 0
        have k5 := cell_of_heap hSW.many_ 0
        simp only [List.getElem?_toArray, List.getElem?_cons_zero, List.getElem?_cons_succ] at k1 k3 k4 k5
        obtain ⟨Y0, hY0⟩ : ∃ Y0, X0.alloc (.cells #[.int .i64 1] 3) = Y0 := ⟨_, rfl⟩
        have hbY : Below X0.heap.size X0 Y0 := by rw [← hY0]; exact (Below.refl _ _).alloc (Nat.le_refl _) _
        have HSY0 : Hid (LvAt w Y0 many B8 q L.length NK A1 n1 c1 A2 n2 c2 R L A' c') := Lib.hid (hSW.on hbY)
        have HTY0 : Hid (Y0.heap[X0.heap.size]? = some (.cells #[.int .i64 1] 3 (0, 0))) := Lib.hid (by rw [← hY0]; exact World.alloc_heap_new _ _)
        have HM0 : Hid (Marks [v0.heap.size] (w4.heap.size + 1 + 1) Y0) := Lib.hid ((Marks.push (show Marks [] (w4.heap.size + 1 + 1) w5 from ⟨by simp, fun D hD => by simp at hD⟩) hbW (by omega) (by omega) hD).on hbY)
        have HY0 := Lib.hid hY0
        have hlx0 : w5.heap.size < X0.heap.size := (Array.getElem?_eq_some_iff.1 i2).1
        have hn50 : (n1 : Int) ≤ 5000 := by have := HSr0.out.rf.few; omega
        have HSV0 := Lib.hid hsv0
        have hszY0 : w5.heap.size ≤ Y0.heap.size := Nat.le_trans hbW.size hbY.size
        clear hor hD i1 i2 hbW hSW hTW hbY hY0 hsv0
        go_wp2
        all_goals
          rw [HY0.out, rounds_succ]
          clear k1 k3 k4 k5
          have HSr1 : Hid (LvAt w Y0 many B8 q L.length NK A1 n1 c1 A2 n2 c2 R L A' c') := HSY0
          have kt1 := cell_of_heap (HTY0).out 0
          simp only [List.getElem?_toArray, List.getElem?_cons_zero] at kt1
          have hlB1 : X0.heap.size < Y0.heap.size := (Array.getElem?_eq_some_iff.1 (HTY0).out).1
          have hlq1 : q < Y0.heap.size := (Array.getElem?_eq_some_iff.1 HSr1.out.cl).1
          obtain ⟨v1, hv1⟩ : ∃ v1, Y0.alloc (.cells #[.int .i64 0] 3) = v1 := ⟨_, rfl⟩
          have hsv1 : v1.heap.size = Y0.heap.size + 1 := by rw [← hv1]; simp
          have hbv1 : Below Y0.heap.size Y0 v1 := by rw [← hv1]; exact (Below.refl _ _).alloc (Nat.le_refl _) _
          have hn1 : v1.heap[Y0.heap.size]? = some (.cells #[.int .i64 0] 3 (0, 0)) := by rw [← hv1]; exact World.alloc_heap_new _ _
          have hrow1 : Rds v1 (fun b => b = Y0.heap.size) A' (cellsM L) := (HSr1.out.row.less (S' := fun b => b = Y0.heap.size) (fun b hb e => by omega)).but (But.of_all hbv1 (fun _ => False)) (fun _ e => e.elim)
          have hbyt1 : ∀ m ∈ L, Rds v1 (fun b => b = Y0.heap.size) m.A (m.bytes.map byteCell) ∧ m.bytes.length ≤ 8192 := fun m hm => ⟨((HSr1.out.byt m hm).1.less (S' := fun b => b = Y0.heap.size) (fun b hb e => by omega)).but (But.of_all hbv1 (fun _ => False)) (fun _ e => e.elim), (HSr1.out.byt m hm).2⟩
          have HBV1 := Lib.hid hbv1
          have HV1 := Lib.hid hv1
          have HN1 := Lib.hid hn1
          have HROW1 := Lib.hid hrow1
          have HBYT1 := Lib.hid hbyt1
          have hne1 := HNE.out
          clear hv1 hbv1 hn1 hrow1 hbyt1
          go_wp2
          clear hne1
          rw [HV1.out]
          refine (wpIn_wide (n := 3)).1 ?_
          refine wpIn_rangeP (gf := 45) (lb := #[.pointer (some ⟨q, 0, none⟩)]) rfl (enters_of Try.func45 (by kernel_rfl) rfl)
            (all_seq v1 (fun b => b = Y0.heap.size) ((HBV1.out.block _ hlq1).trans HSr1.out.cl) rfl (by have := HLN.out; have := HSr1.out.rf.few; omega) HROW1.out HBYT1.out)
            (fun b e => by omega) ?hH ?hrow 49 15 41 rfl ?hargs
            (fun q W => But (fun b => b = Y0.heap.size) v1 W ∧ W.heap[Y0.heap.size]? = some (.cells #[.int .i64 (q : Int)] 3 (0, 0)) ∧ q ≤ n1 ∧ True)
            (fun q W => But (fun b => b = Y0.heap.size) v1 W ∧ W.heap[Y0.heap.size]? = some (.cells #[.int .i64 (q : Int)] 3 (0, 0)) ∧ q ≤ n1 ∧ False)
            2 ?hI ?hIx ⟨But.refl _ _, HN1.out, Nat.zero_le _, trivial⟩ ?assign ?body _ (fun _ _ h => h) (fun _ _ h => h) ?rest
          case hH =>
            rintro k args W W' ⟨m, A9, c9, g1, g2, g3⟩ hb
            exact ⟨m, A9, c9, g1, g2, hb.row g3 (fun g e e2 => by have := (g3.lt g e).1; omega)⟩
          case hrow => exact fun k args W b hh e => rowP_lo hh e
          case hargs =>
            rintro k args W ⟨m, A9, c9, _, rfl, _⟩
            exact ⟨_, rfl⟩
          case hI =>
            rintro q W1 W' ⟨i1, i2, i3⟩ hb
            exact ⟨i1.trans (But.of_below hb) (fun b h1 h2 => by omega), (hb.block _ (by omega)).trans i2, i3⟩
          case hIx =>
            rintro q W1 W' ⟨i1, i2, i3⟩ hb
            exact ⟨i1.trans (But.of_below hb) (fun b h1 h2 => by omega), (hb.block _ (by omega)).trans i2, i3⟩
          case assign =>
            rintro l0 k C W K hsz ⟨m, A9, c9, _, hC, _⟩ hK
            obtain rfl : #[.int .i64 m.num, .int .i64 m.src, .int .i64 m.dst, .slice A9 m.bytes.length c9] = C := by
              injection hC with hC
              injection hC with hC _
              injection hC with hC
              exact hC.symm
            simp only [List.setIfInBounds_toArray, List.set_cons_zero, List.set_cons_succ] at hK ⊢
            gi_wp2
            exact hK
          case body =>
            rintro l0 k t C W ht hxt hsz ⟨i1, i2, i3, i4⟩ ⟨m, A9, c9, hm, hC, hrow⟩
            obtain rfl : #[.int .i64 m.num, .int .i64 m.src, .int .i64 m.dst, .slice A9 m.bytes.length c9] = C := by
              injection hC with hC
              injection hC with hC _
              injection hC with hC
              exact hC.symm
            simp only [List.setIfInBounds_toArray, List.set_cons_zero, List.set_cons_succ]
            have hkl : k < L.length := (List.getElem?_eq_some_iff.1 hm).1
            rw [HLN.out] at hkl
            have hbW : Below Y0.heap.size Y0 W := HBV1.out.trans (i1.to_below (n := Y0.heap.size) (by omega) (fun b e => by omega))
            have hSW := HSr1.out.on hbW
            have hTW : W.heap[X0.heap.size]? = some (.cells #[.int .i64 1] 3 (0, 0)) := (hbW.block _ hlB1).trans (HTY0).out
            obtain ⟨r, hr, e1, e2, e3, e4⟩ : ∃ r, R[k]? = some r ∧ r.num = m.num ∧ r.src = m.src ∧ r.dst = m.dst ∧ r.bytes = m.bytes := by
              have e : (R.map MsgM.d)[k]? = (L.map MsgM.d)[k]? := by rw [hSW.rf.map, HMAP.out]
              rw [List.getElem?_map, List.getElem?_map, hm] at e
              obtain ⟨r, hr, e2⟩ := Option.map_eq_some_iff.1 e
              injection e2 with e3 e4
              injection e4 with e5 e6
              injection e6 with e7 e8
              exact ⟨r, hr, e3, e5, e7, e8⟩
            obtain ⟨b, off, hAL, hbl, _, hcl⟩ := hSW.rf.row (by rw [cellsM_len, hSW.rf.len]; omega)
            have hc := cellsM_at R k r hr
            have q0 := hcl (k * 4) _ hc.1
            have q1' := hcl (k * 4 + 1) _ hc.2.1
            have q2' := hcl (k * 4 + 2) _ hc.2.2.1
            have q3 := hcl (k * 4 + 3) _ hc.2.2.2
            unfold MsgM.sl at q3
            rw [← Nat.add_assoc] at q1' q2' q3
            have HRX : Hid (∀ Wx, Below W.heap.size W Wx → Wx.cell? ⟨b, off + k * 4, none⟩ = some (.int .i64 r.num) ∧ Wx.cell? ⟨b, off + k * 4 + 1, none⟩ = some (.int .i64 r.src) ∧ Wx.cell? ⟨b, off + k * 4 + 2, none⟩ = some (.int .i64 r.dst) ∧ Wx.cell? ⟨b, off + k * 4 + 3, none⟩ = some (.slice r.A r.bytes.length r.c)) := Lib.hid fun Wx hb =>
              ⟨(hb.cell (p := ⟨b, off + k * 4, none⟩) hbl).trans q0, (hb.cell (p := ⟨b, off + k * 4 + 1, none⟩) hbl).trans q1', (hb.cell (p := ⟨b, off + k * 4 + 2, none⟩) hbl).trans q2', (hb.cell (p := ⟨b, off + k * 4 + 3, none⟩) hbl).trans q3⟩
            have hlt8 := (Array.getElem?_eq_some_iff.1 hSW.box).1
            have hlt14 := (Array.getElem?_eq_some_iff.1 i2).1
            have hlt13 := (Array.getElem?_eq_some_iff.1 hTW).1
            have hltm := (Array.getElem?_eq_some_iff.1 hSW.many_).1
            have hltt := (Array.getElem?_eq_some_iff.1 hxt).1
            have HBX : Hid (∀ Wx, Below W.heap.size W Wx → Wx.cell? ⟨B8, 0, none⟩ = some (.int .i64 NK.s.ends) ∧ Wx.cell? ⟨B8, 1, none⟩ = some (.int .i64 NK.s.most) ∧ Wx.cell? ⟨B8, 2, none⟩ = some (.int .i64 NK.s.came) ∧ Wx.cell? ⟨B8, 3, none⟩ = some (.slice (some ⟨b, off, none⟩) n1 c1) ∧ Wx.cell? ⟨B8, 4, none⟩ = some (.slice A2 n2 c2)) := Lib.hid fun Wx hb => by
              have h9 := (hb.block _ hlt8).trans hSW.box
              rw [hAL] at h9
              exact (five_cells h9).1
            have HKX : Hid (∀ Wx, Below W.heap.size W Wx → Wx.cell? ⟨Y0.heap.size, 0, none⟩ = some (.int .i64 (k : Int))) := Lib.hid fun Wx hb => by
              have := cell_of_heap ((hb.block _ hlt14).trans i2) 0
              simpa using this
            have HPX : Hid (∀ Wx, Below W.heap.size W Wx → Wx.cell? ⟨t, 0, none⟩ = some (.int .i64 m.num) ∧ Wx.cell? ⟨t, 1, none⟩ = some (.int .i64 m.src) ∧ Wx.cell? ⟨t, 2, none⟩ = some (.int .i64 m.dst) ∧ Wx.cell? ⟨t, 3, none⟩ = some (.slice A9 m.bytes.length c9)) := Lib.hid fun Wx hb => (four_cells ((hb.block _ hltt).trans hxt)).1
            have hrb := hSW.rf.byt r (List.mem_of_getElem? hr)
            have H28 : Hid (∀ Wx, Below W.heap.size W Wx → Calls Try.prog 28 #[.agg #[.int .i64 m.num, .int .i64 m.src, .int .i64 m.dst, .slice A9 m.bytes.length c9], .agg #[.int .i64 r.num, .int .i64 r.src, .int .i64 r.dst, .slice r.A r.bytes.length r.c]] Wx fun e w' => e = .returned (.bool true) ∧ Below Wx.heap.size Wx w') := Lib.hid fun Wx hb => by
              have h9 := sameP_any m.num m.src m.dst r.num r.src r.dst m.bytes r.bytes A9 r.A m.bytes.length c9 r.bytes.length r.c Wx rfl rfl (Sm.Rd.of_own (own_below hrow hb) (Nat.le_refl _)) (hrb.but (But.of_all hb (fun _ => False)) (fun _ e => e.elim)).rd
              rw [decide_eq_true (show m.num = r.num ∧ m.src = r.src ∧ m.dst = r.dst ∧ m.bytes = r.bytes from ⟨e1.symm, e2.symm, e3.symm, e4.symm⟩)] at h9
              exact h9
            have hgt : ∀ g, (Value.slice A9 m.bytes.length c9).ownBlock = some g → g ≠ t := fun g hg e => by
              subst e
              rcases hrow.2 with ⟨h8, _⟩ | ⟨g2, cap2, cur2, h8, _, h9, _⟩
              · rw [h8] at hg; cases hg
              · rw [h8] at hg
                have h10 : g2 = g := Option.some.inj hg
                rw [h10] at h9
                rw [hxt] at h9
                injection h9 with h9
                injection h9 with _ h9 _
                cases h9
            have hmem : (m.bytes.length : Int) ≤ 8192 := by have := (HSr1.out.byt m (List.mem_of_getElem? hm)).2; omega
            have HI1 := Lib.hid i1
            have HI2 := Lib.hid i2
            have HI4 := Lib.hid i4
            have HTW := Lib.hid hTW
            have HMANY := Lib.hid hSW.many_
            have HXT := Lib.hid hxt
            have HRW := Lib.hid hrow
            have HGT := Lib.hid hgt
            have HBW := Lib.hid hbW
            have hkI : (k : Int) < (n1 : Int) := by omega
            clear hrow hrb hxt i1 i2 i4 q0 q1' q2' q3 hcl hc hr e1 e2 e3 e4 hm hbW hC hSW hTW hgt
            try dsimp only
            gi_wp2
            have hS0 : (fun Wx => Below W.heap.size W Wx) W.drew := (Below.refl _ _).drew
            refine wpIn_region_heldI (S := fun Wx => Below W.heap.size W Wx) (by kernel_rfl) hS0 fun hHeld => ?_
            simp only [List.size_toArray, List.length_cons, List.length_nil, Nat.reduceAdd, Array.replicate_succ, Array.replicate_zero, List.push_toArray, List.nil_append, List.cons_append]
            refine wpAnyHI_take (i := 0) (v := .int .i64 (k : Int)) (fun _ => trivial) rfl (by kernel_rfl) (by kernel_rfl) (by kernel_rfl) (by kernel_rfl) (fun _ _ _ h => h) (Or.inl ⟨by rfl, ?_⟩) (by assumption) ?_
            · intro wx hs1; have kk := HKX.out wx hs1; go_simp
            try simp only [Act.put, List.setIfInBounds_toArray, List.set_cons_zero, List.set_cons_succ, List.getElem_toArray, List.getElem_cons_zero]
            refine wpAnyHI_take (i := 1) (v := .pointer (some ⟨B8, 3, none⟩)) (fun _ => trivial) rfl (by kernel_rfl) (by kernel_rfl) (by kernel_rfl) (by kernel_rfl) (fun _ _ _ h => h) (Or.inl ⟨by rfl, ?_⟩) (by assumption) ?_
            · intro wx hs1; go_simp
            try simp only [Act.put, List.setIfInBounds_toArray, List.set_cons_zero, List.set_cons_succ, List.getElem_toArray, List.getElem_cons_succ, List.getElem_cons_zero]
            refine wpAnyHI_take (i := 2) (v := .slice (some ⟨b, off, none⟩) n1 c1) (fun _ => trivial) rfl (by kernel_rfl) (by kernel_rfl) (by kernel_rfl) (by kernel_rfl) (fun _ _ _ h => h) (Or.inl ⟨by rfl, ?_⟩) (by assumption) ?_
            · intro wx hs1; obtain ⟨k0, k1, k2, k3, k4⟩ := HBX.out wx hs1; go_simp
            try simp only [Act.put, List.setIfInBounds_toArray, List.set_cons_zero, List.set_cons_succ, List.getElem_toArray, List.getElem_cons_succ, List.getElem_cons_zero]
            refine wpAnyHI_take (i := 3) (v := .int .i64 (n1 : Int)) (fun _ => trivial) rfl (by kernel_rfl) (by kernel_rfl) (by kernel_rfl) (by kernel_rfl) (fun _ _ _ h => h) (Or.inl ⟨by rfl, ?_⟩) (by assumption) ?_
            · intro wx hs1; go_simp
            try simp only [Act.put, List.setIfInBounds_toArray, List.set_cons_zero, List.set_cons_succ, List.getElem_toArray, List.getElem_cons_succ, List.getElem_cons_zero]
            refine wpAnyHI_take (i := 4) (v := .bool false) (fun _ => trivial) rfl (by kernel_rfl) (by kernel_rfl) (by kernel_rfl) (by kernel_rfl) (fun _ _ _ h => h) (Or.inl ⟨by rfl, ?_⟩) (by assumption) ?_
            · intro wx hs1; go_simp
            try simp only [Act.put, List.setIfInBounds_toArray, List.set_cons_zero, List.set_cons_succ, List.getElem_toArray, List.getElem_cons_succ, List.getElem_cons_zero]
            refine wpAnyHI_take (i := 5) (v := .bool false) (fun _ => trivial) rfl (by kernel_rfl) (by kernel_rfl) (by kernel_rfl) (by kernel_rfl) (fun _ _ _ h => h) (Or.inl ⟨by rfl, ?_⟩) (by assumption) ?_
            · intro wx hs1; go_simp
            try simp only [Act.put, List.setIfInBounds_toArray, List.set_cons_zero, List.set_cons_succ, List.getElem_toArray, List.getElem_cons_succ, List.getElem_cons_zero]
            refine wpAnyHI_take (i := 6) (v := .agg #[.int .i64 m.num, .int .i64 m.src, .int .i64 m.dst, .slice A9 m.bytes.length c9]) (fun _ => trivial) rfl (by kernel_rfl) (by kernel_rfl) (by kernel_rfl) (by kernel_rfl) (fun _ _ _ h => h) (Or.inl ⟨by rfl, ?_⟩) (by assumption) ?_
            · intro wx hs1; obtain ⟨k0, k1, k2, k3⟩ := HPX.out wx hs1; go_simp
            try simp only [Act.put, List.setIfInBounds_toArray, List.set_cons_zero, List.set_cons_succ, List.getElem_toArray, List.getElem_cons_succ, List.getElem_cons_zero]
            refine wpAnyHI_take (i := 7) (v := .pointer (some ⟨B8, 3, none⟩)) (fun _ => trivial) rfl (by kernel_rfl) (by kernel_rfl) (by kernel_rfl) (by kernel_rfl) (fun _ _ _ h => h) (Or.inl ⟨by rfl, ?_⟩) (by assumption) ?_
            · intro wx hs1; go_simp
            try simp only [Act.put, List.setIfInBounds_toArray, List.set_cons_zero, List.set_cons_succ, List.getElem_toArray, List.getElem_cons_succ, List.getElem_cons_zero]
            refine wpAnyHI_take (i := 8) (v := .slice (some ⟨b, off, none⟩) n1 c1) (fun _ => trivial) rfl (by kernel_rfl) (by kernel_rfl) (by kernel_rfl) (by kernel_rfl) (fun _ _ _ h => h) (Or.inl ⟨by rfl, ?_⟩) (by assumption) ?_
            · intro wx hs1; obtain ⟨k0, k1, k2, k3, k4⟩ := HBX.out wx hs1; go_simp
            try simp only [Act.put, List.setIfInBounds_toArray, List.set_cons_zero, List.set_cons_succ, List.getElem_toArray, List.getElem_cons_succ, List.getElem_cons_zero]
            refine wpAnyHI_take (i := 9) (v := .int .i64 (k : Int)) (fun _ => trivial) rfl (by kernel_rfl) (by kernel_rfl) (by kernel_rfl) (by kernel_rfl) (fun _ _ _ h => h) (Or.inl ⟨by rfl, ?_⟩) (by assumption) ?_
            · intro wx hs1; have kk := HKX.out wx hs1; go_simp
            try simp only [Act.put, List.setIfInBounds_toArray, List.set_cons_zero, List.set_cons_succ, List.getElem_toArray, List.getElem_cons_succ, List.getElem_cons_zero]
            refine wpAnyHI_take (i := 10) (v := .pointer (some ⟨b, off + k * 4, none⟩)) (fun _ => trivial) rfl (by kernel_rfl) (by kernel_rfl) (by kernel_rfl) (by kernel_rfl) (fun _ _ _ h => h) (Or.inl ⟨by rfl, ?_⟩) (by assumption) ?_
            · intro wx hs1; go_simp
            try simp only [Act.put, List.setIfInBounds_toArray, List.set_cons_zero, List.set_cons_succ, List.getElem_toArray, List.getElem_cons_succ, List.getElem_cons_zero]
            refine wpAnyHI_take (i := 11) (v := .agg #[.int .i64 r.num, .int .i64 r.src, .int .i64 r.dst, .slice r.A r.bytes.length r.c]) (fun _ => trivial) rfl (by kernel_rfl) (by kernel_rfl) (by kernel_rfl) (by kernel_rfl) (fun _ _ _ h => h) (Or.inl ⟨by rfl, ?_⟩) (by assumption) ?_
            · intro wx hs1; obtain ⟨k0, k1, k2, k3⟩ := HRX.out wx hs1; go_simp
            try simp only [Act.put, List.setIfInBounds_toArray, List.set_cons_zero, List.set_cons_succ, List.getElem_toArray, List.getElem_cons_succ, List.getElem_cons_zero]
            refine wpAnyHI_one (i := 12) (by kernel_rfl) rfl (by rfl) fun K hK => ?_
            refine ⟨fun _ _ => trivial, ?_⟩
            go_simp
            refine (CallsIn.inRound l0 (callsIn_wide.2 (H28.out _ hHeld))).mono ?_
            rintro e W4 ⟨rfl, hb4⟩
            have hb14 : Below W.heap.size W W4 := hS0.trans (hb4.mono hS0.size)
            refine hK.out _ _ hb14 (fun _ => ?_)
            clear hK K
            try simp only [List.setIfInBounds_toArray, List.set_cons_zero, List.set_cons_succ]
            refine wpAnyHI_take (i := 13) (v := .bool false) (fun _ => trivial) rfl (by kernel_rfl) (by kernel_rfl) (by kernel_rfl) (by kernel_rfl) (fun _ _ _ h => h) (Or.inl ⟨by rfl, ?_⟩) (by assumption) ?_
            · intro wx hs1; go_simp
            try simp only [Act.put, List.setIfInBounds_toArray, List.set_cons_zero, List.set_cons_succ, List.getElem_toArray, List.getElem_cons_succ, List.getElem_cons_zero]
            refine wpAnyHI_take (i := 14) (v := .bool false) (fun _ => trivial) rfl (by kernel_rfl) (by kernel_rfl) (by kernel_rfl) (by kernel_rfl) (fun _ _ _ h => h) (Or.inl ⟨by rfl, ?_⟩) (by assumption) ?_
            · intro wx hs1; go_simp
            try simp only [Act.put, List.setIfInBounds_toArray, List.set_cons_zero, List.set_cons_succ, List.getElem_toArray, List.getElem_cons_succ, List.getElem_cons_zero]
            refine wpAnyHI_done (by kernel_rfl) ?_ _
            have HB14 := Lib.hid hb14
            have hxt4 := (hb14.block _ hltt).trans HXT.out
            have hKI0 : Hid (KeepI W4 W4 (v1.heap.size + 2) A9 m.bytes.length c9) := Lib.hid (keepI_of (own_below HRW.out hb14) rfl)
            have HY : Hid (∀ Wx, But (fun b => (Value.slice A9 m.bytes.length c9).ownBlock = some b) W4 Wx → Wx.heap[t]? = some (.cells #[.int .i64 m.num, .int .i64 m.src, .int .i64 m.dst, .slice A9 m.bytes.length c9] 41 (0, 0))) := Lib.hid fun Wx hb => hb.box hxt4 (fun e => HGT.out _ e rfl)
            have HLO : Hid (∀ g, (Value.slice A9 m.bytes.length c9).ownBlock = some g → v1.heap.size + 2 ≤ g) := Lib.hid fun g e => (HRW.out.lt g e).1
            obtain ⟨mn, hmn⟩ : ∃ mn, m.bytes.length = mn := ⟨_, rfl⟩
            rw [hmn] at hKI0 HY HLO HGT hmem ⊢
            clear hb14 hS0 hb4 hHeld hxt4
            gi_wp2
            gi_loopw [16] (fun v16 wr => ∃ j : Nat, j ≤ mn ∧ v16 = .int .i64 (j : Int) ∧ Hid (KeepI W4 wr (v1.heap.size + 2) A9 mn c9)) (fun v16 _ => mn - (RowKit.intOf v16).toNat)
            case atStart => exact ⟨0, Nat.zero_le _, rfl, hKI0⟩
            case round =>
              obtain ⟨wz, rfl⟩ : ∃ wz : World, wz = wr := ⟨_, rfl⟩
              obtain ⟨j, hj, rfl, HI⟩ := hrel
              clear hKI0
              obtain ⟨zs, hz1', hz2', hrowz, hbt⟩ := HI.out
              obtain ⟨⟨y0, y1, y2, y3⟩, _⟩ := four_cells (HY.out wz hbt)
              by_cases hlt : j < mn
              · obtain ⟨g, cap2, hv, _⟩ := hrowz.form (by omega)
                injection hv with hv1 hv2 hv3
                subst hv1
                have hkz : j < zs.length := by omega
                have ck := hrowz.cellAt j (by omega)
                rw [List.getElem?_map, List.getElem?_eq_getElem hkz, Option.map_some] at ck
                have fk := hrowz.frozenAt j
                obtain ⟨z, hz⟩ : ∃ z, zs[j] = z := ⟨_, rfl⟩
                have hzr := hz2' z (by rw [← hz]; exact List.getElem_mem hkz)
                rw [hz] at ck
                have hzu := byte_up z hzr.1 hzr.2
                obtain ⟨u, hu⟩ : ∃ u, IntKind.u8.wrap (z + 1) = u := ⟨_, rfl⟩
                rw [hu] at hzu
                have hst := hrowz.stored j (.int .u8 u)
                have hnew : KeepI W4 (wz.setCell ⟨g, j, none⟩ (.int .u8 u)) (v1.heap.size + 2) (some ⟨g, 0, none⟩) mn c9 := by
                  refine ⟨zs.set j u, by simpa using hz1', fun y hy => ?_, ?_, hbt.trans (But.grown hst.2) (fun b _ e => e)⟩
                  · rcases List.mem_or_eq_of_mem_set hy with h | h
                    · exact hz2' y h
                    · rw [h]; exact hzu
                  · rw [List.map_set]
                    exact hst.1
                have HNEW := Lib.hid hnew
                have hw8 : IntKind.u8.wrap (z + 1) = u := hu
                have hkI2 : (j : Int) ≤ 1000000000 := by omega
                have hkL : (j : Int) < (mn : Int) := by omega
                clear hnew hst hbt hrowz hz hz1' hz2' hv2 hv3 hzu hzr hkz
                gi_wp2
                go_roundw
                case rel => exact ⟨j + 1, by omega, by go_num, HNEW⟩
                case measure => simp [RowKit.intOf]; omega
              · obtain rfl : j = mn := by omega
                have hbWz : But (fun b => b = Y0.heap.size ∨ rowP #[.agg #[.int .i64 m.num, .int .i64 m.src, .int .i64 m.dst, .slice A9 m.bytes.length c9]] b) W wz := (But.of_all HB14.out _).trans hbt (fun b _ e => .inr ⟨_, _, _, _, _, _, rfl, by rw [hmn]; exact e⟩)
                have hbvz : But (fun b => b = Y0.heap.size) v1 wz := (HI1.out.trans (But.of_all HB14.out _) (fun _ _ e => e)).trans hbt (fun b hb e => by have := HLO.out b e; omega)
                have hxz : ∀ d Cx T, d < v1.heap.size → W.heap[d]? = some (.cells Cx T (0, 0)) → wz.heap[d]? = some (.cells Cx T (0, 0)) := fun d Cx T hd h => hbt.box ((HB14.out.block _ (Array.getElem?_eq_some_iff.1 h).1).trans h) (fun e => by have := HLO.out d e; omega)
                have hx14 := hxz _ _ _ (by omega) HI2.out
                have hx13 := hxz _ _ _ (by omega) HTW.out
                have hxm := hxz _ _ _ (by have := (Array.getElem?_eq_some_iff.1 HSr1.out.many_).1; omega) HMANY.out
                have k1 := cell_of_heap hx14 0
                have k2 := frozen_of_heap hx14 0
                have k4 := cell_of_heap hx13 0
                have k5 := cell_of_heap hxm 0
                simp only [List.getElem?_toArray, List.getElem?_cons_zero] at k1 k4 k5
                have hbq : But (fun b => b = Y0.heap.size) wz (wz.setCell ⟨Y0.heap.size, 0, none⟩ (.int .i64 ((k : Int) + 1))) := (But.refl _ _).set ⟨Y0.heap.size, 0, none⟩ _ (.inl rfl)
                have hbx := heap_setCells (i := 0) (u := .int .i64 ((k : Int) + 1)) hx14
                have HBQ : Hid (But (fun b => b = Y0.heap.size ∨ rowP #[.agg #[.int .i64 m.num, .int .i64 m.src, .int .i64 m.dst, .slice A9 m.bytes.length c9]] b) W (wz.setCell ⟨Y0.heap.size, 0, none⟩ (.int .i64 ((k : Int) + 1)))) := Lib.hid (hbWz.trans hbq (fun b _ e => .inl e))
                have HBI : Hid (But (fun b => b = Y0.heap.size) v1 (wz.setCell ⟨Y0.heap.size, 0, none⟩ (.int .i64 ((k : Int) + 1)))) := Lib.hid (hbvz.trans hbq (fun b _ e => e))
                have HBX2 : Hid ((wz.setCell ⟨Y0.heap.size, 0, none⟩ (.int .i64 ((k : Int) + 1))).heap[Y0.heap.size]? = some (.cells #[.int .i64 ((k + 1 : Nat) : Int)] 3 (0, 0))) := Lib.hid (by rw [show ((k + 1 : Nat) : Int) = (k : Int) + 1 by omega]; exact hbx)
                have hqi : (k : Int) ≤ 5000 := by have := HLIM.out; have := HSr1.out.rf.few; omega
                have hn5 : (n1 : Int) ≤ 5000 := by have := HSr1.out.rf.few; omega
                clear hbq hbx hbt hrowz hz1' hz2' hbWz hbvz hxz hx14 hx13 hxm hmn
                gi_wp2
                exact ⟨trivial, HBQ.out, HBI.out, HBX2.out, by omega, trivial⟩
          case rest =>
            intro X1 hor hD
            obtain ⟨i1, i2⟩ : But (fun b => b = Y0.heap.size) v1 X1 ∧ X1.heap[Y0.heap.size]? = some (.cells #[.int .i64 (n1 : Int)] 3 (0, 0)) := by
              rcases hor with ⟨q, hS, i1, i2, i3, i4⟩ | ⟨q, hSp, i1, i2, i3, i4⟩
              · obtain rfl : q = n1 := by have := HLN.out; omega
                exact ⟨i1, i2⟩
              · exact i4.elim
            have hbW : Below Y0.heap.size Y0 X1 := HBV1.out.trans (i1.to_below (n := Y0.heap.size) (by omega) (fun b e => by omega))
            have hSW := HSr1.out.on hbW
            have hTW : X1.heap[X0.heap.size]? = some (.cells #[.int .i64 1] 3 (0, 0)) := (hbW.block _ hlB1).trans (HTY0).out
            have k1 := cell_of_heap i2 0
            have k3 := cell_of_heap hSW.box 3
            have k4 := cell_of_heap hTW 0
            have k5 := cell_of_heap hSW.many_ 0
            simp only [List.getElem?_toArray, List.getElem?_cons_zero, List.getElem?_cons_succ] at k1 k3 k4 k5
            obtain ⟨Y1, hY1⟩ : ∃ Y1, X1.alloc (.cells #[.int .i64 2] 3) = Y1 := ⟨_, rfl⟩
            have hbY : Below X1.heap.size X1 Y1 := by rw [← hY1]; exact (Below.refl _ _).alloc (Nat.le_refl _) _
            have HSY1 : Hid (LvAt w Y1 many B8 q L.length NK A1 n1 c1 A2 n2 c2 R L A' c') := Lib.hid (hSW.on hbY)
            have HTY1 : Hid (Y1.heap[X1.heap.size]? = some (.cells #[.int .i64 2] 3 (0, 0))) := Lib.hid (by rw [← hY1]; exact World.alloc_heap_new _ _)
            have HM1 : Hid (Marks [v1.heap.size, v0.heap.size] (w4.heap.size + 1 + 1) Y1) := Lib.hid ((Marks.push HM0.out hbW (by omega) (by omega) hD).on hbY)
            have HY1 := Lib.hid hY1
            have hlx1 : Y0.heap.size < X1.heap.size := (Array.getElem?_eq_some_iff.1 i2).1
            have hn51 : (n1 : Int) ≤ 5000 := by have := HSr1.out.rf.few; omega
            have HSV1 := Lib.hid hsv1
            have hszY1 : Y0.heap.size ≤ Y1.heap.size := Nat.le_trans hbW.size hbY.size
            clear hor hD i1 i2 hbW hSW hTW hbY hY1 hsv1
            go_wp2
            all_goals
              rw [HY1.out, rounds_succ]
              clear k1 k3 k4 k5
              have kt2 := cell_of_heap HTY1.out 0
              simp only [List.getElem?_toArray, List.getElem?_cons_zero] at kt2
              go_wp2_with (go_at_call 10; (with_reducible refine (HWK.out _).mono ?_); rintro e w9 ⟨rfl, hb⟩; have hS9 := HSY1.out.on hb; have hx9 := hS9.res; have c9 := cell_of_heap hx9 0; have f9 := frozen_of_heap hx9 0; simp only [List.getElem?_toArray, List.getElem?_cons_zero] at c9; have HX9 := Lib.hid hx9; have HM9 := Lib.hid (HM1.out.on hb); have HB9 := Lib.hid hS9.below; clear hx9 hS9 hb)
              have hz := heap_setCells (i := 0) (u := .bool true) HX9.out
              have hbq : But (fun q => q = w.heap.size + 2) w9 (w9.setCell ⟨w.heap.size + 2, 0, none⟩ (.bool true)) := (But.refl _ _).set ⟨w.heap.size + 2, 0, none⟩ _ (.inl rfl)
              obtain ⟨W9, hW9⟩ : ∃ W9, w9.setCell ⟨w.heap.size + 2, 0, none⟩ (.bool true) = W9 := ⟨_, rfl⟩
              rw [hW9] at hz hbq ⊢
              obtain ⟨hnd, hmd⟩ := HM9.out
              have hm1' := hmd v1.heap.size (by simp)
              have hm0' := hmd v0.heap.size (by simp)
              have hne2 : v1.heap.size ≠ v0.heap.size := by simpa using hnd
              have hm1x := But.box hbq hm1'.2 (by omega)
              have hm0x := But.box hbq hm0'.2 (by omega)
              have h4 : ((W9.putObj v1.heap.size (.deferred none)).putObj v0.heap.size (.deferred none)).cell? ⟨w.heap.size + 2, 0, none⟩ = some (.bool true) :=
                cell_of_heap ((World.putObj_heap_other (by omega)).trans ((World.putObj_heap_other (by omega)).trans hz)) 0
              have hb9 := HB9.out.trans (hbq.to_below HB9.out.size (fun b e => by omega))
              have hbz : Below w.heap.size w ((W9.putObj v1.heap.size (.deferred none)).putObj v0.heap.size (.deferred none)) := by
                have h6 := hb9.trans ((put_but _ v1.heap.size (.deferred none)).to_below hb9.size (fun b e => by omega))
                exact h6.trans ((put_but _ v0.heap.size (.deferred none)).to_below h6.size (fun b e => by omega))
              exact retM2 (v := .bool true) rfl hne2 hm1x hm0x (by simp [results, Try.results6, go_sem, h4]) ⟨rfl, hbz⟩
end Go.Proofs
namespace Go.Proofs
open Go Go.RowKit Sm Go.Lib Go.Maps Go.WideMaps
attribute [local go_sem] Oper.semAt_some
set_option maxRecDepth 100000 in
theorem Sm.int_of_lits {r : Nat} {u : Value} {ys : List Lit} (h : Try.prog.keyLits (r + 1) 3 [u] = some ys) : ∃ n, u = .int .i64 n ∧ I64 n := by
  unfold Program.keyLits at h
  rw [Try.underlying3] at h
  cases u with
  | int q n =>
    simp only at h
    split at h
    · rename_i hc
      obtain ⟨rfl, hw⟩ := hc
      simp only [Lit.wf, Bool.and_eq_true, decide_eq_true_eq] at hw
      exact ⟨n, rfl, hw.1, hw.2⟩
    · cases h
  | _ => simp at h
set_option maxRecDepth 100000 in
theorem Sm.lnk_of_key {x : Value} {l : Lit} (h : keyOf Try.prog 94 x = some l) : ∃ a b, x = lnkV a b ∧ I64 a ∧ I64 b := by
  have hc2 : Try.prog.cellsOf 94 = 2 := by kernel_rfl
  have hc3 : Try.prog.cellsOf 3 = 1 := by kernel_rfl
  unfold keyOf at h
  rw [Try.underlying94] at h
  simp only at h
  split at h
  · rename_i hc
    rw [Bool.and_eq_true] at hc
    have hf := hc.2
    obtain ⟨ls, hls, _⟩ := Option.map_eq_some_iff.1 h
    clear h hc
    cases x with
    | agg cs =>
      have hs : cs.size = 2 := by simpa [Value.formed, Try.underlying94, hc2] using hf
      obtain ⟨u, v, rfl⟩ : ∃ u v, cs = #[u, v] := by
        obtain ⟨cl⟩ := cs
        match cl, hs with
        | [u, v], _ => exact ⟨u, v, rfl⟩
      generalize hq : Try.prog.types.size = q at hls
      have hq1 : 0 < q := by
        rw [← hq]
        exact of_decide_eq_true (by kernel_rfl)
      have hq0 : ∃ r, q = r + 1 := ⟨q - 1, by omega⟩
      clear hq
      obtain ⟨r, rfl⟩ := hq0
      unfold Program.keyLits at hls
      rw [Try.underlying94] at hls
      have hr2 : List.range 2 = [0, 1] := by decide
      have hcl : (Value.agg #[u, v]).cells.toList = [u, v] := rfl
      simp only [hcl, List.length_cons, List.length_nil, hc2, hc3, if_true, hr2, List.mapM_cons, List.mapM_nil, Nat.zero_mul, Nat.one_mul, List.drop_zero, List.drop_succ_cons, List.take_succ_cons, List.take_zero] at hls
      cases e1 : Try.prog.keyLits (r + 1) 3 [u] with
      | none => rw [e1] at hls; simp at hls
      | some y1 =>
        cases e2 : Try.prog.keyLits (r + 1) 3 [v] with
        | none => rw [e1, e2] at hls; simp at hls
        | some y2 =>
          obtain ⟨a, rfl, ha⟩ := int_of_lits e1
          obtain ⟨b, rfl, hb⟩ := int_of_lits e2
          exact ⟨a, b, rfl, ha, hb⟩
    | _ => simp [Value.formed, Try.underlying94] at hf
  · cases h
theorem Sm.key_link {M : DataW Value} {D : List (Int × Int)} (h : LnkIs M D) {x : Value} {kl : Lit} (hk : keyOf Try.prog 94 x = some kl) (hh : Maps.has M kl = true) : ∃ z ∈ D, x = lnkV z.1 z.2 ∧ kl = lnkL z.1 z.2 := by
  obtain ⟨a, b, rfl, ha, hb⟩ := lnk_of_key hk
  have e : kl = lnkL a b := by
    have := lnk_key ha hb
    rw [hk] at this
    exact Option.some.inj this
  rw [e, h.has ha hb] at hh
  exact ⟨(a, b), of_decide_eq_true hh, rfl, e⟩
def Sm.inD (D2 : List (Int × Int)) (x : Int × Int) : Bool := decide (x ∈ D2)
/-- two lists of links are of the same ones -/
def Sm.sameD (D1 D2 : List (Int × Int)) : Bool := decide (D1.length = D2.length) && D1.all (inD D2)
def Sm.SeenD (D1 D2 : List (Int × Int)) (left : Lit → Bool) : Prop := ∀ z ∈ D1, left (lnkL z.1 z.2) = false → inD D2 z = true
theorem Sm.same_no {D1 D2 : List (Int × Int)} {z : Int × Int} (hz : z ∈ D1) (h : inD D2 z = false) : sameD D1 D2 = false := by
  unfold sameD
  have : D1.all (inD D2) = false := List.all_eq_false.2 ⟨z, hz, by rw [h]; decide⟩
  rw [this, Bool.and_false]
set_option maxRecDepth 100000 in
set_option maxHeartbeats 4000000 in
theorem Sm.mapEqual_any {Mb1 Mb2 : Nat} {M1 M2 : DataW Value} {D1 D2 : List (Int × Int)} (w : World) (h1 : w.ownsMap Try.prog 94 heldElem Mb1 D1.length M1) (m1 : LnkIs M1 D1) (h2 : w.ownsMap Try.prog 94 heldElem Mb2 D2.length M2) (m2 : LnkIs M2 D2) (hl1 : D1.length ≤ 1000000) (hl2 : D2.length ≤ 1000000) :
    Calls Try.prog 49 #[.map (some Mb1), .map (some Mb2)] w fun e w' => e = .returned (.bool (sameD D1 D2)) ∧ w.grownBy w' none := by
  have l1 := fun ty => h1.len Try.underlying32 ty
  have l2 := fun ty => h2.len Try.underlying32 ty
  rw [m1.len] at l1
  rw [m2.len] at l2
  obtain ⟨n1, hn1⟩ : ∃ n1, D1.length = n1 := ⟨_, rfl⟩
  obtain ⟨n2, hn2⟩ : ∃ n2, D2.length = n2 := ⟨_, rfl⟩
  rw [hn1] at h1 l1 hl1
  rw [hn2] at h2 l2 hl2
  have HN1 := Lib.hid hn1
  have HN2 := Lib.hid hn2
  have hl1I : (n1 : Int) ≤ 1000000 := by omega
  have hl2I : (n2 : Int) ≤ 1000000 := by omega
  have hb2 := h2.lt
  clear hn1 hn2
  obtain ⟨res, hres⟩ : ∃ res, sameD D1 D2 = res := ⟨_, rfl⟩
  rw [hres]
  have HRES := Lib.hid hres
  clear hres
  by_cases hsz : n1 = n2
  · have hszI : ((n1 : Int) != (n2 : Int)) = false := by rw [hsz]; simp
    have HSZ := Lib.hid hsz
    clear hsz
    go_enter Try.func49, Try.ntmps49
    go_wp2_with (at_range; refine wpList_range_own _ rfl _ 32 rfl 94 92 law94 Try.underlying32 heldElem Mb1 n1 _ rfl h1 ?_; intro w0 hrg0 hg0 hs0)
    go_frame
    go_loopw [16] (fun _ wr => ∃ (left : Lit → Bool) (cnt : Nat), wr.ranges Try.prog 94 heldElem Mb1 w.heap.size n1 M1 left cnt ∧ wr.ownsMap Try.prog 94 heldElem Mb2 n2 M2 ∧ w.grownBy wr none ∧ Hid (SeenD D1 D2 left))
      (fun _ wr => wr.rangeLeft Mb1 w.heap.size)
    case atStart => exact ⟨_, _, hrg0, h2.kept hg0 (by simp), hg0, Lib.hid (fun z hz e => by rw [(m1.here z hz).1] at e; cases e)⟩
    case round =>
      obtain ⟨left, cnt, hrg, h2r, hgw, G⟩ := hrel
      go_wp2_with (at_next; refine wpList_next_ranges _ rfl _ rfl 94 law94 heldElem id id (fun key _ _ => ⟨key, rfl⟩) (fun v _ _ => ⟨v, rfl⟩) Mb1 w.heap.size n1 _ _ _ rfl hrg ?_ ?_)
      · intro _ hl0
        go_wp2
        go_ret
        exact ⟨by
          rw [← HRES.out]
          unfold sameD
          rw [HN1.out, HN2.out, decide_eq_true HSZ.out, Bool.true_and, List.all_eq_true.2 (fun z hz => G.out z hz (hl0 _))]
          rfl, hgw⟩
      · intro x c kl yd yp w1 cnt1 hkey hlx hv hat hrg1 hlt hg1 hs1 hen
        have hgw1 : w.grownBy w1 none := hgw.andThen hg1 (fun j hj => by cases hj; exact Or.inl (Nat.le_refl _))
        have h2w1 := h2r.kept hg1 (fun e => by have := Option.some.inj e; omega)
        obtain ⟨⟨za, zb⟩, hz, rfl, rfl⟩ := key_link m1 hkey (has_true_of_atKey hat)
        have hcv : c = unitV := by
          have e1 := (m1.here _ hz).2 .nil
          rw [hat] at e1
          subst e1
          exact held_inj hv
        subst hcv
        simp only at hz hkey hlx hat hrg1 hen
        have hseen : inD D2 (za, zb) = true → SeenD D1 D2 (fun u => left u && !u.sameKey (lnkL za zb)) := fun hin z' hz' e => by
          have e : (left (lnkL z'.1 z'.2) && !(lnkL z'.1 z'.2).sameKey (lnkL za zb)) = false := e
          cases hl : left (lnkL z'.1 z'.2) with
          | false => exact G.out z' hz' hl
          | true =>
            rw [hl, Bool.true_and] at e
            have hs : (lnkL z'.1 z'.2).sameKey (lnkL za zb) = true := by simpa using e
            have e1 := WideAt.sameKey_eq hs
            by_cases e2 : z' = (za, zb)
            · rw [e2]; exact hin
            · exact absurd e1 (m1.ne hz' (m1.i64 _ hz).1 (m1.i64 _ hz).2 e2)
        have hab := m1.i64 _ hz
        have hlk := fun (W : World) (h : W.ownsMap Try.prog 94 heldElem Mb2 n2 M2) => look_lnk h m2 hab.1 hab.2
        unfold lnkV unitV at hen hlk ⊢
        have HSEEN := Lib.hid hseen
        have HRG := Lib.hid hrg1
        have HRGO := Lib.hid hrg
        have HLT := Lib.hid hlt
        have HGW1 := Lib.hid hgw1
        have H2W1 := Lib.hid h2w1
        have HZ := Lib.hid hz
        have HLK := Lib.hid hlk
        clear hseen hrg1 hrg hlt hgw1 h2w1 hz hlk hv hat hkey hlx h2r hgw hg1 hab
        clear hs1
        have hneq : ∀ W, (binOp BinOp.neq 92 (.agg #[]) (.agg #[])).run Try.prog W = .ok (.bool false) W := fun W => by first | rfl | kernel_rfl
        go_upto_region 6 with fail
        obtain ⟨W, hW⟩ : ∃ W, (w1.alloc (.cells #[.int .i64 za, .int .i64 zb] 94)).alloc (.cells #[] 92) = W := ⟨_, rfl⟩
        have hbW : Below w1.heap.size w1 W := by rw [← hW]; exact ((Below.refl _ w1).alloc (Nat.le_refl _) _).alloc (by simp) _
        have hxW : W.heap[w1.heap.size]? = some (.cells #[.int .i64 za, .int .i64 zb] 94 (0, 0)) := by rw [← hW]; exact old_alloc _ (new_alloc _ rfl)
        have h2W : W.ownsMap Try.prog 94 heldElem Mb2 n2 M2 := by rw [← hW]; exact (H2W1.out.alloc _).alloc _
        have hlkW := HLK.out W h2W
        have x0 := cell_of_heap hxW 0
        have x1 := cell_of_heap hxW 1
        simp only [List.getElem?_toArray, List.getElem?_cons_zero, List.getElem?_cons_succ] at x0 x1
        simp only at hlkW
        rw [hW]
        have HBW := Lib.hid hbW
        obtain ⟨dd, hdd⟩ : ∃ d, decide ((za, zb) ∈ D2) = d := ⟨_, rfl⟩
        rw [hdd] at hlkW
        have HDD : Hid (inD D2 (za, zb) = dd) := Lib.hid hdd
        clear hW hbW hxW h2W hdd HLK
        have HBA : Hid (Below w1.heap.size w1 (W.alloc (.cells #[] 92))) := Lib.hid (HBW.out.alloc HBW.out.size _)
        cases dd with
        | false =>
          go_wp2
          go_ret
          exact ⟨by rw [← HRES.out, same_no HZ.out HDD.out]; rfl, HGW1.out.andThen (grownBy_of_below HBA.out none) (fun j hj => by cases hj)⟩
        | true =>
          go_wp2
          have hg2 : w1.grownBy (W.alloc (.cells #[] 92)) none := grownBy_of_below HBA.out none
          have hrg2 := HRG.out.kept hg2 (by simp) (by simp)
          go_roundw
          case rel => exact ⟨_, cnt1, hrg2, H2W1.out.kept hg2 (by simp), HGW1.out.andThen hg2 (fun j hj => by cases hj), Lib.hid (HSEEN.out HDD.out)⟩
          case measure => rw [hrg2.left_eq, HRGO.out.left_eq]; exact HLT.out
  · have hszI : ((n1 : Int) == (n2 : Int)) = false := by rw [beq_eq_false_iff_ne]; omega
    go_enter Try.func49, Try.ntmps49
    go_wp2
    go_ret
    exact ⟨by
      rw [← HRES.out]
      unfold sameD
      rw [HN1.out, HN2.out, decide_eq_false hsz, Bool.false_and]
      rfl, World.grownBy.refl _ _⟩
end Go.Proofs
namespace Go.Proofs
open Go Go.RowKit Sm Go.Lib Go.Maps Go.WideMaps
attribute [local go_sem] Oper.semAt_some
set_option maxRecDepth 100000 in
theorem Sm.bytesEqual_any (l l' : List (BitVec 8)) (A A' : Option Addr) (n c n' c' : Nat) (w : World) (hn : l.length = n) (hn' : l'.length = n') (h : Rd w w.heap.size A l) (h' : Rd w w.heap.size A' l') :
    Calls Try.prog 70 #[.slice A n c, .slice A' n' c'] w fun e w' => e = .returned (.bool (decide (l = l'))) ∧ w = w' := by
  have e1 := conv_rd (c := c) hn h
  have e2 := conv_rd (c := c') hn' h'
  clear h h'
  by_cases h4 : l = l'
  · subst h4
    subst hn'
    subst hn
    obtain ⟨S, hS⟩ : ∃ S, strB l = S := ⟨_, rfl⟩
    obtain ⟨N, hN⟩ : ∃ N, l.length = N := ⟨_, rfl⟩
    rw [hS] at e1 e2
    rw [hN] at e1 e2 ⊢
    clear hS hN
    go_enter Try.func70, Try.ntmps70
    go_wp2
    go_ret
    exact ⟨by simp, rfl⟩
  · have hne : ¬ (strB l).toList = (strB l').toList := fun e => h4 (by
      have h9 := str_cmp (strB l) (strB l')
      rw [e, strL_strB, strL_strB] at h9
      simpa using h9.symm)
    obtain ⟨S, hS⟩ : ∃ S, strB l = S := ⟨_, rfl⟩
    obtain ⟨S', hS'⟩ : ∃ S, strB l' = S := ⟨_, rfl⟩
    rw [hS] at e1 hne
    rw [hS'] at e2 hne
    clear hS hS' hn hn'
    go_enter Try.func70, Try.ntmps70
    go_wp2
    go_ret
    exact ⟨by simp [h4, hne], rfl⟩
set_option maxRecDepth 100000 in
set_option maxHeartbeats 2000000 in
theorem Sm.msgSame_any (a x y a' x' y' : Int) (l l' : List (BitVec 8)) (A A' : Option Addr) (n c n' c' : Nat) (w : World) (hn : l.length = n) (hn' : l'.length = n') (h : Rd w w.heap.size A l) (h' : Rd w w.heap.size A' l') :
    Calls Try.prog 51 #[.agg #[.int .i64 a, .int .i64 x, .int .i64 y, .slice A n c], .agg #[.int .i64 a', .int .i64 x', .int .i64 y', .slice A' n' c']] w fun e w' => e = .returned (.bool (decide (a = a' ∧ x = x' ∧ y = y' ∧ l = l'))) ∧ Below w.heap.size w w' := by
  obtain ⟨w2, hw2⟩ : ∃ V, (w.alloc (.cells #[.int .i64 a, .int .i64 x, .int .i64 y, .slice A n c] 83)).alloc (.cells #[.int .i64 a', .int .i64 x', .int .i64 y', .slice A' n' c'] 83) = V := ⟨_, rfl⟩
  have hb2 : Below w.heap.size w w2 := by rw [← hw2]; exact bel2 w _ _
  have HX : Hid (w2.heap[w.heap.size]? = some (.cells #[.int .i64 a, .int .i64 x, .int .i64 y, .slice A n c] 83 (0, 0))) := Lib.hid (by rw [← hw2]; exact old_alloc _ (new_alloc _ rfl))
  have HY : Hid (w2.heap[w.heap.size + 1]? = some (.cells #[.int .i64 a', .int .i64 x', .int .i64 y', .slice A' n' c'] 83 (0, 0))) := Lib.hid (by rw [← hw2]; exact new_alloc _ (by simp))
  have HW2 := Lib.hid hb2
  have H70 : Hid (∀ W, Below w2.heap.size w2 W → Calls Try.prog 70 #[.slice A n c, .slice A' n' c'] W fun e w' => e = .returned (.bool (decide (l = l'))) ∧ W = w') := Lib.hid fun W hb => bytesEqual_any l l' A A' n c n' c' W hn hn' ((h.belowTo (hb2.trans (hb.mono hb2.size)) (Nat.le_refl _)).more (hb2.trans (hb.mono hb2.size)).size) ((h'.belowTo (hb2.trans (hb.mono hb2.size)) (Nat.le_refl _)).more (hb2.trans (hb.mono hb2.size)).size)
  have H69 := fun W => link_any a x y (.slice A n c) W
  have H69' := fun W => link_any a' x' y' (.slice A' n' c') W
  unfold lnkV at H69 H69'
  have HQ0 : ∀ W, (Op.equalIn 10000 94 (.agg #[.int .i64 x, .int .i64 y]) (.agg #[.int .i64 x', .int .i64 y'])).run Try.prog W = .ok (decide (x = x') && decide (y = y')) W := fun W => eql94 x y x' y' W
  obtain ⟨q, hq⟩ : ∃ q, (decide (x = x') && decide (y = y')) = q := ⟨_, rfl⟩
  obtain ⟨qb, hqb⟩ : ∃ q, decide (l = l') = q := ⟨_, rfl⟩
  have hres : decide (a = a' ∧ x = x' ∧ y = y' ∧ l = l') = (decide (a = a') && (q && qb)) := by
    rw [← hq, ← hqb, Bool.decide_and, Bool.decide_and, Bool.decide_and, Bool.and_assoc]
  rw [hres]
  rw [hqb] at H70
  rw [hq] at HQ0
  have HQ := Lib.hid HQ0
  clear h h' hb2 hn hn' HQ0 hq hqb hres
  by_cases h1 : a = a'
  · rw [decide_eq_true h1]
    have h1b : (a == a') = true := by simpa using h1
    clear h1
    cases q with
    | false =>
      go_enter Try.func51, Try.ntmps51
      go_wp2
      clear hw2
      have hS0 : (fun W => Below w2.heap.size w2 W) w2.drew := (Below.refl _ _).drew
      refine wp_region_held_drew (S := fun W => Below w2.heap.size w2 W) rfl hS0 (fun hHeld => ?_)
      simp only [List.size_toArray, List.length_cons, List.length_nil, Nat.reduceAdd]
      have HB0 : Hid (Below w2.heap.size w2 w2.drew) := Lib.hid (Below.refl _ _).drew
      obtain ⟨V0, hV0⟩ : ∃ V, w2.drew = V := ⟨_, rfl⟩
      rw [hV0] at hHeld hS0 HB0 ⊢
      clear hV0
      refine wpAnyH_take (i := 0) (v := .pointer (some ⟨w.heap.size, 0, none⟩)) rfl (by kernel_rfl) (by kernel_rfl) (by kernel_rfl) (fun _ _ _ h => h) (Or.inl ⟨by rfl, ?_⟩) (by assumption) ?_
      · intro wx hs1; go_simp
      (try simp only [Act.put, List.getElem_toArray, List.getElem_cons_zero, List.setIfInBounds_toArray, List.set_cons_zero, List.set_cons_succ])
      refine wpAnyH_take (i := 1) (v := .pointer (some ⟨w.heap.size, 0, none⟩)) rfl (by kernel_rfl) (by kernel_rfl) (by kernel_rfl) (fun _ _ _ h => h) (Or.inl ⟨by rfl, ?_⟩) (by assumption) ?_
      · intro wx hs1; go_simp
      (try simp only [Act.put, List.getElem_toArray, List.getElem_cons_succ, List.getElem_cons_zero, List.setIfInBounds_toArray, List.set_cons_zero, List.set_cons_succ])
      refine wpAnyH_take (i := 2) (v := .int .i64 a) rfl (by kernel_rfl) (by kernel_rfl) (by kernel_rfl) (fun _ _ _ h => h) (Or.inl ⟨by rfl, ?_⟩) (by assumption) ?_
      · intro wx hs1; obtain ⟨k0, k1, k2, k3⟩ := (four_cells ((hs1.block _ (Array.getElem?_eq_some_iff.1 HX.out).1).trans HX.out)).1; go_simp
      (try simp only [Act.put, List.getElem_toArray, List.getElem_cons_succ, List.getElem_cons_zero, List.setIfInBounds_toArray, List.set_cons_zero, List.set_cons_succ])
      refine wpAnyH_take (i := 3) (v := .pointer (some ⟨w.heap.size + 1, 0, none⟩)) rfl (by kernel_rfl) (by kernel_rfl) (by kernel_rfl) (fun _ _ _ h => h) (Or.inl ⟨by rfl, ?_⟩) (by assumption) ?_
      · intro wx hs1; go_simp
      (try simp only [Act.put, List.getElem_toArray, List.getElem_cons_succ, List.getElem_cons_zero, List.setIfInBounds_toArray, List.set_cons_zero, List.set_cons_succ])
      refine wpAnyH_take (i := 4) (v := .pointer (some ⟨w.heap.size + 1, 0, none⟩)) rfl (by kernel_rfl) (by kernel_rfl) (by kernel_rfl) (fun _ _ _ h => h) (Or.inl ⟨by rfl, ?_⟩) (by assumption) ?_
      · intro wx hs1; go_simp
      (try simp only [Act.put, List.getElem_toArray, List.getElem_cons_succ, List.getElem_cons_zero, List.setIfInBounds_toArray, List.set_cons_zero, List.set_cons_succ])
      refine wpAnyH_take (i := 5) (v := .int .i64 a') rfl (by kernel_rfl) (by kernel_rfl) (by kernel_rfl) (fun _ _ _ h => h) (Or.inl ⟨by rfl, ?_⟩) (by assumption) ?_
      · intro wx hs1; obtain ⟨k0, k1, k2, k3⟩ := (four_cells ((hs1.block _ (Array.getElem?_eq_some_iff.1 HY.out).1).trans HY.out)).1; go_simp
      (try simp only [Act.put, List.getElem_toArray, List.getElem_cons_succ, List.getElem_cons_zero, List.setIfInBounds_toArray, List.set_cons_zero, List.set_cons_succ])
      refine wpAnyH_take (i := 6) (v := .bool true) rfl (by kernel_rfl) (by kernel_rfl) (by kernel_rfl) (fun _ _ _ h => h) (Or.inl ⟨by rfl, ?_⟩) (by assumption) ?_
      · intro wx hs1; go_simp
      (try simp only [Act.put, List.getElem_toArray, List.getElem_cons_succ, List.getElem_cons_zero, List.setIfInBounds_toArray, List.set_cons_zero, List.set_cons_succ])
      refine wpAnyH_take (i := 7) (v := .bool true) rfl (by kernel_rfl) (by kernel_rfl) (by kernel_rfl) (fun _ _ _ h => h) (Or.inl ⟨by rfl, ?_⟩) (by assumption) ?_
      · intro wx hs1; go_simp
      (try simp only [Act.put, List.getElem_toArray, List.getElem_cons_succ, List.getElem_cons_zero, List.setIfInBounds_toArray, List.set_cons_zero, List.set_cons_succ])
      refine wpAnyH_take (i := 8) (v := .agg #[.int .i64 a, .int .i64 x, .int .i64 y, .slice A n c]) rfl (by kernel_rfl) (by kernel_rfl) (by kernel_rfl) (fun _ _ _ h => h) (Or.inl ⟨by rfl, ?_⟩) (by assumption) ?_
      · intro wx hs1; obtain ⟨k0, k1, k2, k3⟩ := (four_cells ((hs1.block _ (Array.getElem?_eq_some_iff.1 HX.out).1).trans HX.out)).1; go_simp
      (try simp only [Act.put, List.getElem_toArray, List.getElem_cons_succ, List.getElem_cons_zero, List.setIfInBounds_toArray, List.set_cons_zero, List.set_cons_succ])
      refine wpAnyH_take (i := 10) (v := .agg #[.int .i64 a', .int .i64 x', .int .i64 y', .slice A' n' c']) rfl (by kernel_rfl) (by kernel_rfl) (by kernel_rfl) (fun _ _ _ h => h) (Or.inl ⟨by rfl, ?_⟩) (by assumption) ?_
      · intro wx hs1; obtain ⟨k0, k1, k2, k3⟩ := (four_cells ((hs1.block _ (Array.getElem?_eq_some_iff.1 HY.out).1).trans HY.out)).1; go_simp
      (try simp only [Act.put, List.getElem_toArray, List.getElem_cons_succ, List.getElem_cons_zero, List.setIfInBounds_toArray, List.set_cons_zero, List.set_cons_succ])
      refine wpAnyH_ready (rs := [9]) (by kernel_rfl) (by simp) (AllReadyH.cons rfl (fun K hK => ?_) AllReadyH.nil)
      go_simp
      go_at_call 69
      (with_reducible refine (H69 _).mono ?_)
      rintro e w3 ⟨rfl, hb⟩
      try dsimp only
      have HB1 : Hid (Below w2.heap.size w2 w3) := Lib.hid (HB0.out.trans (hb.mono HB0.out.size)); clear hb; have hS := HB1.out
      refine hK.out _ _ hS (fun _ => ?_)
      clear hK K
      (try simp only [Act.put, List.getElem_toArray, List.getElem_cons_succ, List.getElem_cons_zero, List.setIfInBounds_toArray, List.set_cons_zero, List.set_cons_succ])
      refine wpAnyH_ready (rs := [11]) (by kernel_rfl) (by simp) (AllReadyH.cons rfl (fun K hK => ?_) AllReadyH.nil)
      go_simp
      go_at_call 69
      (with_reducible refine (H69' _).mono ?_)
      rintro e w4 ⟨rfl, hb⟩
      try dsimp only
      have HB2 : Hid (Below w2.heap.size w2 w4) := Lib.hid (HB1.out.trans (hb.mono HB1.out.size)); clear hb; have hS := HB2.out
      refine hK.out _ _ hS (fun _ => ?_)
      clear hK K
      (try simp only [Act.put, List.getElem_toArray, List.getElem_cons_succ, List.getElem_cons_zero, List.setIfInBounds_toArray, List.set_cons_zero, List.set_cons_succ])
      refine wpAnyH_take (i := 12) (v := .bool false) rfl (by kernel_rfl) (by kernel_rfl) (by kernel_rfl) (fun _ _ _ h => h) (Or.inl ⟨by rfl, ?_⟩) (by assumption) ?_
      · intro wx hs1; have hq := HQ.out wx; have hg := fun X Y => guard94 wx X Y #[.int .i64 x, .int .i64 y] #[.int .i64 x', .int .i64 y']; go_simp
      (try simp only [Act.put, List.getElem_toArray, List.getElem_cons_succ, List.getElem_cons_zero, List.setIfInBounds_toArray, List.set_cons_zero, List.set_cons_succ])
      refine wpAnyH_take (i := 13) (v := .bool false) rfl (by kernel_rfl) (by kernel_rfl) (by kernel_rfl) (fun _ _ _ h => h) (Or.inl ⟨by rfl, ?_⟩) (by assumption) ?_
      · intro wx hs1; go_simp
      (try simp only [Act.put, List.getElem_toArray, List.getElem_cons_succ, List.getElem_cons_zero, List.setIfInBounds_toArray, List.set_cons_zero, List.set_cons_succ])
      refine wpAnyH_take (i := 14) (v := .bool false) rfl (by kernel_rfl) (by kernel_rfl) (by kernel_rfl) (fun _ _ _ h => h) (Or.inl ⟨by rfl, ?_⟩) (by assumption) ?_
      · intro wx hs1; go_simp
      (try simp only [Act.put, List.getElem_toArray, List.getElem_cons_succ, List.getElem_cons_zero, List.setIfInBounds_toArray, List.set_cons_zero, List.set_cons_succ])
      refine wpAnyH_take (i := 15) (v := undef) rfl (by kernel_rfl) (by kernel_rfl) (by kernel_rfl) (fun _ _ _ h => h) (Or.inr ⟨by rfl, rfl⟩) (by assumption) ?_
      (try simp only [Act.put, List.getElem_toArray, List.getElem_cons_succ, List.getElem_cons_zero, List.setIfInBounds_toArray, List.set_cons_zero, List.set_cons_succ])
      refine wpAnyH_take (i := 16) (v := undef) rfl (by kernel_rfl) (by kernel_rfl) (by kernel_rfl) (fun _ _ _ h => h) (Or.inr ⟨by rfl, rfl⟩) (by assumption) ?_
      (try simp only [Act.put, List.getElem_toArray, List.getElem_cons_succ, List.getElem_cons_zero, List.setIfInBounds_toArray, List.set_cons_zero, List.set_cons_succ])
      refine wpAnyH_take (i := 17) (v := undef) rfl (by kernel_rfl) (by kernel_rfl) (by kernel_rfl) (fun _ _ _ h => h) (Or.inr ⟨by rfl, rfl⟩) (by assumption) ?_
      (try simp only [Act.put, List.getElem_toArray, List.getElem_cons_succ, List.getElem_cons_zero, List.setIfInBounds_toArray, List.set_cons_zero, List.set_cons_succ])
      refine wpAnyH_take (i := 18) (v := undef) rfl (by kernel_rfl) (by kernel_rfl) (by kernel_rfl) (fun _ _ _ h => h) (Or.inr ⟨by rfl, rfl⟩) (by assumption) ?_
      (try simp only [Act.put, List.getElem_toArray, List.getElem_cons_succ, List.getElem_cons_zero, List.setIfInBounds_toArray, List.set_cons_zero, List.set_cons_succ])
      refine wpAnyH_take (i := 19) (v := undef) rfl (by kernel_rfl) (by kernel_rfl) (by kernel_rfl) (fun _ _ _ h => h) (Or.inr ⟨by rfl, rfl⟩) (by assumption) ?_
      (try simp only [Act.put, List.getElem_toArray, List.getElem_cons_succ, List.getElem_cons_zero, List.setIfInBounds_toArray, List.set_cons_zero, List.set_cons_succ])
      refine wpAnyH_take (i := 20) (v := undef) rfl (by kernel_rfl) (by kernel_rfl) (by kernel_rfl) (fun _ _ _ h => h) (Or.inr ⟨by rfl, rfl⟩) (by assumption) ?_
      (try simp only [Act.put, List.getElem_toArray, List.getElem_cons_succ, List.getElem_cons_zero, List.setIfInBounds_toArray, List.set_cons_zero, List.set_cons_succ])
      refine wpAnyH_take (i := 21) (v := undef) rfl (by kernel_rfl) (by kernel_rfl) (by kernel_rfl) (fun _ _ _ h => h) (Or.inr ⟨by rfl, rfl⟩) (by assumption) ?_
      (try simp only [Act.put, List.getElem_toArray, List.getElem_cons_succ, List.getElem_cons_zero, List.setIfInBounds_toArray, List.set_cons_zero, List.set_cons_succ])
      refine wpAnyH_take (i := 22) (v := .bool false) rfl (by kernel_rfl) (by kernel_rfl) (by kernel_rfl) (fun _ _ _ h => h) (Or.inl ⟨by rfl, ?_⟩) (by assumption) ?_
      · intro wx hs1; go_simp
      (try simp only [Act.put, List.getElem_toArray, List.getElem_cons_succ, List.getElem_cons_zero, List.setIfInBounds_toArray, List.set_cons_zero, List.set_cons_succ])
      refine wpAnyH_take (i := 23) (v := .bool false) rfl (by kernel_rfl) (by kernel_rfl) (by kernel_rfl) (fun _ _ _ h => h) (Or.inl ⟨by rfl, ?_⟩) (by assumption) ?_
      · intro wx hs1; go_simp
      (try simp only [Act.put, List.getElem_toArray, List.getElem_cons_succ, List.getElem_cons_zero, List.setIfInBounds_toArray, List.set_cons_zero, List.set_cons_succ])
      refine wpAnyH_done (by kernel_rfl) ?_ _
      go_wp2
      go_ret
      exact ⟨by rfl, HW2.out.trans (HB2.out.mono HW2.out.size)⟩
    | true =>
      go_enter Try.func51, Try.ntmps51
      go_wp2
      clear hw2
      have hS0 : (fun W => Below w2.heap.size w2 W) w2.drew := (Below.refl _ _).drew
      refine wp_region_held_drew (S := fun W => Below w2.heap.size w2 W) rfl hS0 (fun hHeld => ?_)
      simp only [List.size_toArray, List.length_cons, List.length_nil, Nat.reduceAdd]
      have HB0 : Hid (Below w2.heap.size w2 w2.drew) := Lib.hid (Below.refl _ _).drew
      obtain ⟨V0, hV0⟩ : ∃ V, w2.drew = V := ⟨_, rfl⟩
      rw [hV0] at hHeld hS0 HB0 ⊢
      clear hV0
      refine wpAnyH_take (i := 0) (v := .pointer (some ⟨w.heap.size, 0, none⟩)) rfl (by kernel_rfl) (by kernel_rfl) (by kernel_rfl) (fun _ _ _ h => h) (Or.inl ⟨by rfl, ?_⟩) (by assumption) ?_
      · intro wx hs1; go_simp
      (try simp only [Act.put, List.getElem_toArray, List.getElem_cons_zero, List.setIfInBounds_toArray, List.set_cons_zero, List.set_cons_succ])
      refine wpAnyH_take (i := 1) (v := .pointer (some ⟨w.heap.size, 0, none⟩)) rfl (by kernel_rfl) (by kernel_rfl) (by kernel_rfl) (fun _ _ _ h => h) (Or.inl ⟨by rfl, ?_⟩) (by assumption) ?_
      · intro wx hs1; go_simp
      (try simp only [Act.put, List.getElem_toArray, List.getElem_cons_succ, List.getElem_cons_zero, List.setIfInBounds_toArray, List.set_cons_zero, List.set_cons_succ])
      refine wpAnyH_take (i := 2) (v := .int .i64 a) rfl (by kernel_rfl) (by kernel_rfl) (by kernel_rfl) (fun _ _ _ h => h) (Or.inl ⟨by rfl, ?_⟩) (by assumption) ?_
      · intro wx hs1; obtain ⟨k0, k1, k2, k3⟩ := (four_cells ((hs1.block _ (Array.getElem?_eq_some_iff.1 HX.out).1).trans HX.out)).1; go_simp
      (try simp only [Act.put, List.getElem_toArray, List.getElem_cons_succ, List.getElem_cons_zero, List.setIfInBounds_toArray, List.set_cons_zero, List.set_cons_succ])
      refine wpAnyH_take (i := 3) (v := .pointer (some ⟨w.heap.size + 1, 0, none⟩)) rfl (by kernel_rfl) (by kernel_rfl) (by kernel_rfl) (fun _ _ _ h => h) (Or.inl ⟨by rfl, ?_⟩) (by assumption) ?_
      · intro wx hs1; go_simp
      (try simp only [Act.put, List.getElem_toArray, List.getElem_cons_succ, List.getElem_cons_zero, List.setIfInBounds_toArray, List.set_cons_zero, List.set_cons_succ])
      refine wpAnyH_take (i := 4) (v := .pointer (some ⟨w.heap.size + 1, 0, none⟩)) rfl (by kernel_rfl) (by kernel_rfl) (by kernel_rfl) (fun _ _ _ h => h) (Or.inl ⟨by rfl, ?_⟩) (by assumption) ?_
      · intro wx hs1; go_simp
      (try simp only [Act.put, List.getElem_toArray, List.getElem_cons_succ, List.getElem_cons_zero, List.setIfInBounds_toArray, List.set_cons_zero, List.set_cons_succ])
      refine wpAnyH_take (i := 5) (v := .int .i64 a') rfl (by kernel_rfl) (by kernel_rfl) (by kernel_rfl) (fun _ _ _ h => h) (Or.inl ⟨by rfl, ?_⟩) (by assumption) ?_
      · intro wx hs1; obtain ⟨k0, k1, k2, k3⟩ := (four_cells ((hs1.block _ (Array.getElem?_eq_some_iff.1 HY.out).1).trans HY.out)).1; go_simp
      (try simp only [Act.put, List.getElem_toArray, List.getElem_cons_succ, List.getElem_cons_zero, List.setIfInBounds_toArray, List.set_cons_zero, List.set_cons_succ])
      refine wpAnyH_take (i := 6) (v := .bool true) rfl (by kernel_rfl) (by kernel_rfl) (by kernel_rfl) (fun _ _ _ h => h) (Or.inl ⟨by rfl, ?_⟩) (by assumption) ?_
      · intro wx hs1; go_simp
      (try simp only [Act.put, List.getElem_toArray, List.getElem_cons_succ, List.getElem_cons_zero, List.setIfInBounds_toArray, List.set_cons_zero, List.set_cons_succ])
      refine wpAnyH_take (i := 7) (v := .bool true) rfl (by kernel_rfl) (by kernel_rfl) (by kernel_rfl) (fun _ _ _ h => h) (Or.inl ⟨by rfl, ?_⟩) (by assumption) ?_
      · intro wx hs1; go_simp
      (try simp only [Act.put, List.getElem_toArray, List.getElem_cons_succ, List.getElem_cons_zero, List.setIfInBounds_toArray, List.set_cons_zero, List.set_cons_succ])
      refine wpAnyH_take (i := 8) (v := .agg #[.int .i64 a, .int .i64 x, .int .i64 y, .slice A n c]) rfl (by kernel_rfl) (by kernel_rfl) (by kernel_rfl) (fun _ _ _ h => h) (Or.inl ⟨by rfl, ?_⟩) (by assumption) ?_
      · intro wx hs1; obtain ⟨k0, k1, k2, k3⟩ := (four_cells ((hs1.block _ (Array.getElem?_eq_some_iff.1 HX.out).1).trans HX.out)).1; go_simp
      (try simp only [Act.put, List.getElem_toArray, List.getElem_cons_succ, List.getElem_cons_zero, List.setIfInBounds_toArray, List.set_cons_zero, List.set_cons_succ])
      refine wpAnyH_take (i := 10) (v := .agg #[.int .i64 a', .int .i64 x', .int .i64 y', .slice A' n' c']) rfl (by kernel_rfl) (by kernel_rfl) (by kernel_rfl) (fun _ _ _ h => h) (Or.inl ⟨by rfl, ?_⟩) (by assumption) ?_
      · intro wx hs1; obtain ⟨k0, k1, k2, k3⟩ := (four_cells ((hs1.block _ (Array.getElem?_eq_some_iff.1 HY.out).1).trans HY.out)).1; go_simp
      (try simp only [Act.put, List.getElem_toArray, List.getElem_cons_succ, List.getElem_cons_zero, List.setIfInBounds_toArray, List.set_cons_zero, List.set_cons_succ])
      refine wpAnyH_ready (rs := [9]) (by kernel_rfl) (by simp) (AllReadyH.cons rfl (fun K hK => ?_) AllReadyH.nil)
      go_simp
      go_at_call 69
      (with_reducible refine (H69 _).mono ?_)
      rintro e w3 ⟨rfl, hb⟩
      try dsimp only
      have HB1 : Hid (Below w2.heap.size w2 w3) := Lib.hid (HB0.out.trans (hb.mono HB0.out.size)); clear hb; have hS := HB1.out
      refine hK.out _ _ hS (fun _ => ?_)
      clear hK K
      (try simp only [Act.put, List.getElem_toArray, List.getElem_cons_succ, List.getElem_cons_zero, List.setIfInBounds_toArray, List.set_cons_zero, List.set_cons_succ])
      refine wpAnyH_ready (rs := [11]) (by kernel_rfl) (by simp) (AllReadyH.cons rfl (fun K hK => ?_) AllReadyH.nil)
      go_simp
      go_at_call 69
      (with_reducible refine (H69' _).mono ?_)
      rintro e w4 ⟨rfl, hb⟩
      try dsimp only
      have HB2 : Hid (Below w2.heap.size w2 w4) := Lib.hid (HB1.out.trans (hb.mono HB1.out.size)); clear hb; have hS := HB2.out
      refine hK.out _ _ hS (fun _ => ?_)
      clear hK K
      (try simp only [Act.put, List.getElem_toArray, List.getElem_cons_succ, List.getElem_cons_zero, List.setIfInBounds_toArray, List.set_cons_zero, List.set_cons_succ])
      refine wpAnyH_take (i := 12) (v := .bool true) rfl (by kernel_rfl) (by kernel_rfl) (by kernel_rfl) (fun _ _ _ h => h) (Or.inl ⟨by rfl, ?_⟩) (by assumption) ?_
      · intro wx hs1; have hq := HQ.out wx; have hg := fun X Y => guard94 wx X Y #[.int .i64 x, .int .i64 y] #[.int .i64 x', .int .i64 y']; go_simp
      (try simp only [Act.put, List.getElem_toArray, List.getElem_cons_succ, List.getElem_cons_zero, List.setIfInBounds_toArray, List.set_cons_zero, List.set_cons_succ])
      refine wpAnyH_take (i := 13) (v := .bool true) rfl (by kernel_rfl) (by kernel_rfl) (by kernel_rfl) (fun _ _ _ h => h) (Or.inl ⟨by rfl, ?_⟩) (by assumption) ?_
      · intro wx hs1; go_simp
      (try simp only [Act.put, List.getElem_toArray, List.getElem_cons_succ, List.getElem_cons_zero, List.setIfInBounds_toArray, List.set_cons_zero, List.set_cons_succ])
      refine wpAnyH_take (i := 14) (v := .bool true) rfl (by kernel_rfl) (by kernel_rfl) (by kernel_rfl) (fun _ _ _ h => h) (Or.inl ⟨by rfl, ?_⟩) (by assumption) ?_
      · intro wx hs1; go_simp
      (try simp only [Act.put, List.getElem_toArray, List.getElem_cons_succ, List.getElem_cons_zero, List.setIfInBounds_toArray, List.set_cons_zero, List.set_cons_succ])
      refine wpAnyH_take (i := 15) (v := .pointer (some ⟨w.heap.size, 0, none⟩)) rfl (by kernel_rfl) (by kernel_rfl) (by kernel_rfl) (fun _ _ _ h => h) (Or.inl ⟨by rfl, ?_⟩) (by assumption) ?_
      · intro wx hs1; go_simp
      (try simp only [Act.put, List.getElem_toArray, List.getElem_cons_succ, List.getElem_cons_zero, List.setIfInBounds_toArray, List.set_cons_zero, List.set_cons_succ])
      refine wpAnyH_take (i := 16) (v := .pointer (some ⟨w.heap.size, 3, none⟩)) rfl (by kernel_rfl) (by kernel_rfl) (by kernel_rfl) (fun _ _ _ h => h) (Or.inl ⟨by rfl, ?_⟩) (by assumption) ?_
      · intro wx hs1; go_simp
      (try simp only [Act.put, List.getElem_toArray, List.getElem_cons_succ, List.getElem_cons_zero, List.setIfInBounds_toArray, List.set_cons_zero, List.set_cons_succ])
      refine wpAnyH_take (i := 17) (v := .slice A n c) rfl (by kernel_rfl) (by kernel_rfl) (by kernel_rfl) (fun _ _ _ h => h) (Or.inl ⟨by rfl, ?_⟩) (by assumption) ?_
      · intro wx hs1; obtain ⟨k0, k1, k2, k3⟩ := (four_cells ((hs1.block _ (Array.getElem?_eq_some_iff.1 HX.out).1).trans HX.out)).1; go_simp
      (try simp only [Act.put, List.getElem_toArray, List.getElem_cons_succ, List.getElem_cons_zero, List.setIfInBounds_toArray, List.set_cons_zero, List.set_cons_succ])
      refine wpAnyH_take (i := 18) (v := .pointer (some ⟨w.heap.size + 1, 0, none⟩)) rfl (by kernel_rfl) (by kernel_rfl) (by kernel_rfl) (fun _ _ _ h => h) (Or.inl ⟨by rfl, ?_⟩) (by assumption) ?_
      · intro wx hs1; go_simp
      (try simp only [Act.put, List.getElem_toArray, List.getElem_cons_succ, List.getElem_cons_zero, List.setIfInBounds_toArray, List.set_cons_zero, List.set_cons_succ])
      refine wpAnyH_take (i := 19) (v := .pointer (some ⟨w.heap.size + 1, 3, none⟩)) rfl (by kernel_rfl) (by kernel_rfl) (by kernel_rfl) (fun _ _ _ h => h) (Or.inl ⟨by rfl, ?_⟩) (by assumption) ?_
      · intro wx hs1; go_simp
      (try simp only [Act.put, List.getElem_toArray, List.getElem_cons_succ, List.getElem_cons_zero, List.setIfInBounds_toArray, List.set_cons_zero, List.set_cons_succ])
      refine wpAnyH_take (i := 20) (v := .slice A' n' c') rfl (by kernel_rfl) (by kernel_rfl) (by kernel_rfl) (fun _ _ _ h => h) (Or.inl ⟨by rfl, ?_⟩) (by assumption) ?_
      · intro wx hs1; obtain ⟨k0, k1, k2, k3⟩ := (four_cells ((hs1.block _ (Array.getElem?_eq_some_iff.1 HY.out).1).trans HY.out)).1; go_simp
      (try simp only [Act.put, List.getElem_toArray, List.getElem_cons_succ, List.getElem_cons_zero, List.setIfInBounds_toArray, List.set_cons_zero, List.set_cons_succ])
      refine wpAnyH_ready (rs := [21]) (by kernel_rfl) (by simp) (AllReadyH.cons rfl (fun K hK => ?_) AllReadyH.nil)
      go_simp
      go_at_call 70
      (with_reducible refine (H70.out _ HB2.out).mono ?_)
      rintro e w5 ⟨rfl, rfl⟩
      try dsimp only
      have hS := HB2.out
      refine hK.out _ _ hS (fun _ => ?_)
      clear hK K
      (try simp only [Act.put, List.getElem_toArray, List.getElem_cons_succ, List.getElem_cons_zero, List.setIfInBounds_toArray, List.set_cons_zero, List.set_cons_succ])
      refine wpAnyH_take (i := 22) (v := .bool qb) rfl (by kernel_rfl) (by kernel_rfl) (by kernel_rfl) (fun _ _ _ h => h) (Or.inl ⟨by rfl, ?_⟩) (by assumption) ?_
      · intro wx hs1; go_simp
      (try simp only [Act.put, List.getElem_toArray, List.getElem_cons_succ, List.getElem_cons_zero, List.setIfInBounds_toArray, List.set_cons_zero, List.set_cons_succ])
      refine wpAnyH_take (i := 23) (v := .bool qb) rfl (by kernel_rfl) (by kernel_rfl) (by kernel_rfl) (fun _ _ _ h => h) (Or.inl ⟨by rfl, ?_⟩) (by assumption) ?_
      · intro wx hs1; go_simp
      (try simp only [Act.put, List.getElem_toArray, List.getElem_cons_succ, List.getElem_cons_zero, List.setIfInBounds_toArray, List.set_cons_zero, List.set_cons_succ])
      refine wpAnyH_done (by kernel_rfl) ?_ _
      go_wp2
      go_ret
      exact ⟨by simp, HW2.out.trans (HB2.out.mono HW2.out.size)⟩
  · rw [decide_eq_false h1]
    have h1b : (a == a') = false := by simpa using h1
    clear h1
    go_enter Try.func51, Try.ntmps51
    go_wp2
    clear hw2
    have hS0 : (fun W => Below w2.heap.size w2 W) w2.drew := (Below.refl _ _).drew
    refine wp_region_held_drew (S := fun W => Below w2.heap.size w2 W) rfl hS0 (fun hHeld => ?_)
    simp only [List.size_toArray, List.length_cons, List.length_nil, Nat.reduceAdd]
    have HB0 : Hid (Below w2.heap.size w2 w2.drew) := Lib.hid (Below.refl _ _).drew
    obtain ⟨V0, hV0⟩ : ∃ V, w2.drew = V := ⟨_, rfl⟩
    rw [hV0] at hHeld hS0 HB0 ⊢
    clear hV0
    refine wpAnyH_take (i := 0) (v := .pointer (some ⟨w.heap.size, 0, none⟩)) rfl (by kernel_rfl) (by kernel_rfl) (by kernel_rfl) (fun _ _ _ h => h) (Or.inl ⟨by rfl, ?_⟩) (by assumption) ?_
    · intro wx hs1; go_simp
    (try simp only [Act.put, List.getElem_toArray, List.getElem_cons_zero, List.setIfInBounds_toArray, List.set_cons_zero, List.set_cons_succ])
    refine wpAnyH_take (i := 1) (v := .pointer (some ⟨w.heap.size, 0, none⟩)) rfl (by kernel_rfl) (by kernel_rfl) (by kernel_rfl) (fun _ _ _ h => h) (Or.inl ⟨by rfl, ?_⟩) (by assumption) ?_
    · intro wx hs1; go_simp
    (try simp only [Act.put, List.getElem_toArray, List.getElem_cons_succ, List.getElem_cons_zero, List.setIfInBounds_toArray, List.set_cons_zero, List.set_cons_succ])
    refine wpAnyH_take (i := 2) (v := .int .i64 a) rfl (by kernel_rfl) (by kernel_rfl) (by kernel_rfl) (fun _ _ _ h => h) (Or.inl ⟨by rfl, ?_⟩) (by assumption) ?_
    · intro wx hs1; obtain ⟨k0, k1, k2, k3⟩ := (four_cells ((hs1.block _ (Array.getElem?_eq_some_iff.1 HX.out).1).trans HX.out)).1; go_simp
    (try simp only [Act.put, List.getElem_toArray, List.getElem_cons_succ, List.getElem_cons_zero, List.setIfInBounds_toArray, List.set_cons_zero, List.set_cons_succ])
    refine wpAnyH_take (i := 3) (v := .pointer (some ⟨w.heap.size + 1, 0, none⟩)) rfl (by kernel_rfl) (by kernel_rfl) (by kernel_rfl) (fun _ _ _ h => h) (Or.inl ⟨by rfl, ?_⟩) (by assumption) ?_
    · intro wx hs1; go_simp
    (try simp only [Act.put, List.getElem_toArray, List.getElem_cons_succ, List.getElem_cons_zero, List.setIfInBounds_toArray, List.set_cons_zero, List.set_cons_succ])
    refine wpAnyH_take (i := 4) (v := .pointer (some ⟨w.heap.size + 1, 0, none⟩)) rfl (by kernel_rfl) (by kernel_rfl) (by kernel_rfl) (fun _ _ _ h => h) (Or.inl ⟨by rfl, ?_⟩) (by assumption) ?_
    · intro wx hs1; go_simp
    (try simp only [Act.put, List.getElem_toArray, List.getElem_cons_succ, List.getElem_cons_zero, List.setIfInBounds_toArray, List.set_cons_zero, List.set_cons_succ])
    refine wpAnyH_take (i := 5) (v := .int .i64 a') rfl (by kernel_rfl) (by kernel_rfl) (by kernel_rfl) (fun _ _ _ h => h) (Or.inl ⟨by rfl, ?_⟩) (by assumption) ?_
    · intro wx hs1; obtain ⟨k0, k1, k2, k3⟩ := (four_cells ((hs1.block _ (Array.getElem?_eq_some_iff.1 HY.out).1).trans HY.out)).1; go_simp
    (try simp only [Act.put, List.getElem_toArray, List.getElem_cons_succ, List.getElem_cons_zero, List.setIfInBounds_toArray, List.set_cons_zero, List.set_cons_succ])
    refine wpAnyH_take (i := 6) (v := .bool false) rfl (by kernel_rfl) (by kernel_rfl) (by kernel_rfl) (fun _ _ _ h => h) (Or.inl ⟨by rfl, ?_⟩) (by assumption) ?_
    · intro wx hs1; go_simp
    (try simp only [Act.put, List.getElem_toArray, List.getElem_cons_succ, List.getElem_cons_zero, List.setIfInBounds_toArray, List.set_cons_zero, List.set_cons_succ])
    refine wpAnyH_take (i := 7) (v := .bool false) rfl (by kernel_rfl) (by kernel_rfl) (by kernel_rfl) (fun _ _ _ h => h) (Or.inl ⟨by rfl, ?_⟩) (by assumption) ?_
    · intro wx hs1; go_simp
    (try simp only [Act.put, List.getElem_toArray, List.getElem_cons_succ, List.getElem_cons_zero, List.setIfInBounds_toArray, List.set_cons_zero, List.set_cons_succ])
    refine wpAnyH_take (i := 8) (v := undef) rfl (by kernel_rfl) (by kernel_rfl) (by kernel_rfl) (fun _ _ _ h => h) (Or.inr ⟨by rfl, rfl⟩) (by assumption) ?_
    (try simp only [Act.put, List.getElem_toArray, List.getElem_cons_succ, List.getElem_cons_zero, List.setIfInBounds_toArray, List.set_cons_zero, List.set_cons_succ])
    refine wpAnyH_take (i := 9) (v := undef) rfl (by kernel_rfl) (by kernel_rfl) (by kernel_rfl) (fun _ _ _ h => h) (Or.inr ⟨by rfl, rfl⟩) (by assumption) ?_
    (try simp only [Act.put, List.getElem_toArray, List.getElem_cons_succ, List.getElem_cons_zero, List.setIfInBounds_toArray, List.set_cons_zero, List.set_cons_succ])
    refine wpAnyH_take (i := 10) (v := undef) rfl (by kernel_rfl) (by kernel_rfl) (by kernel_rfl) (fun _ _ _ h => h) (Or.inr ⟨by rfl, rfl⟩) (by assumption) ?_
    (try simp only [Act.put, List.getElem_toArray, List.getElem_cons_succ, List.getElem_cons_zero, List.setIfInBounds_toArray, List.set_cons_zero, List.set_cons_succ])
    refine wpAnyH_take (i := 11) (v := undef) rfl (by kernel_rfl) (by kernel_rfl) (by kernel_rfl) (fun _ _ _ h => h) (Or.inr ⟨by rfl, rfl⟩) (by assumption) ?_
    (try simp only [Act.put, List.getElem_toArray, List.getElem_cons_succ, List.getElem_cons_zero, List.setIfInBounds_toArray, List.set_cons_zero, List.set_cons_succ])
    refine wpAnyH_take (i := 12) (v := undef) rfl (by kernel_rfl) (by kernel_rfl) (by kernel_rfl) (fun _ _ _ h => h) (Or.inr ⟨by rfl, rfl⟩) (by assumption) ?_
    (try simp only [Act.put, List.getElem_toArray, List.getElem_cons_succ, List.getElem_cons_zero, List.setIfInBounds_toArray, List.set_cons_zero, List.set_cons_succ])
    refine wpAnyH_take (i := 13) (v := .bool false) rfl (by kernel_rfl) (by kernel_rfl) (by kernel_rfl) (fun _ _ _ h => h) (Or.inl ⟨by rfl, ?_⟩) (by assumption) ?_
    · intro wx hs1; go_simp
    (try simp only [Act.put, List.getElem_toArray, List.getElem_cons_succ, List.getElem_cons_zero, List.setIfInBounds_toArray, List.set_cons_zero, List.set_cons_succ])
    refine wpAnyH_take (i := 14) (v := .bool false) rfl (by kernel_rfl) (by kernel_rfl) (by kernel_rfl) (fun _ _ _ h => h) (Or.inl ⟨by rfl, ?_⟩) (by assumption) ?_
    · intro wx hs1; go_simp
    (try simp only [Act.put, List.getElem_toArray, List.getElem_cons_succ, List.getElem_cons_zero, List.setIfInBounds_toArray, List.set_cons_zero, List.set_cons_succ])
    refine wpAnyH_take (i := 15) (v := undef) rfl (by kernel_rfl) (by kernel_rfl) (by kernel_rfl) (fun _ _ _ h => h) (Or.inr ⟨by rfl, rfl⟩) (by assumption) ?_
    (try simp only [Act.put, List.getElem_toArray, List.getElem_cons_succ, List.getElem_cons_zero, List.setIfInBounds_toArray, List.set_cons_zero, List.set_cons_succ])
    refine wpAnyH_take (i := 16) (v := undef) rfl (by kernel_rfl) (by kernel_rfl) (by kernel_rfl) (fun _ _ _ h => h) (Or.inr ⟨by rfl, rfl⟩) (by assumption) ?_
    (try simp only [Act.put, List.getElem_toArray, List.getElem_cons_succ, List.getElem_cons_zero, List.setIfInBounds_toArray, List.set_cons_zero, List.set_cons_succ])
    refine wpAnyH_take (i := 17) (v := undef) rfl (by kernel_rfl) (by kernel_rfl) (by kernel_rfl) (fun _ _ _ h => h) (Or.inr ⟨by rfl, rfl⟩) (by assumption) ?_
    (try simp only [Act.put, List.getElem_toArray, List.getElem_cons_succ, List.getElem_cons_zero, List.setIfInBounds_toArray, List.set_cons_zero, List.set_cons_succ])
    refine wpAnyH_take (i := 18) (v := undef) rfl (by kernel_rfl) (by kernel_rfl) (by kernel_rfl) (fun _ _ _ h => h) (Or.inr ⟨by rfl, rfl⟩) (by assumption) ?_
    (try simp only [Act.put, List.getElem_toArray, List.getElem_cons_succ, List.getElem_cons_zero, List.setIfInBounds_toArray, List.set_cons_zero, List.set_cons_succ])
    refine wpAnyH_take (i := 19) (v := undef) rfl (by kernel_rfl) (by kernel_rfl) (by kernel_rfl) (fun _ _ _ h => h) (Or.inr ⟨by rfl, rfl⟩) (by assumption) ?_
    (try simp only [Act.put, List.getElem_toArray, List.getElem_cons_succ, List.getElem_cons_zero, List.setIfInBounds_toArray, List.set_cons_zero, List.set_cons_succ])
    refine wpAnyH_take (i := 20) (v := undef) rfl (by kernel_rfl) (by kernel_rfl) (by kernel_rfl) (fun _ _ _ h => h) (Or.inr ⟨by rfl, rfl⟩) (by assumption) ?_
    (try simp only [Act.put, List.getElem_toArray, List.getElem_cons_succ, List.getElem_cons_zero, List.setIfInBounds_toArray, List.set_cons_zero, List.set_cons_succ])
    refine wpAnyH_take (i := 21) (v := undef) rfl (by kernel_rfl) (by kernel_rfl) (by kernel_rfl) (fun _ _ _ h => h) (Or.inr ⟨by rfl, rfl⟩) (by assumption) ?_
    (try simp only [Act.put, List.getElem_toArray, List.getElem_cons_succ, List.getElem_cons_zero, List.setIfInBounds_toArray, List.set_cons_zero, List.set_cons_succ])
    refine wpAnyH_take (i := 22) (v := .bool false) rfl (by kernel_rfl) (by kernel_rfl) (by kernel_rfl) (fun _ _ _ h => h) (Or.inl ⟨by rfl, ?_⟩) (by assumption) ?_
    · intro wx hs1; go_simp
    (try simp only [Act.put, List.getElem_toArray, List.getElem_cons_succ, List.getElem_cons_zero, List.setIfInBounds_toArray, List.set_cons_zero, List.set_cons_succ])
    refine wpAnyH_take (i := 23) (v := .bool false) rfl (by kernel_rfl) (by kernel_rfl) (by kernel_rfl) (fun _ _ _ h => h) (Or.inl ⟨by rfl, ?_⟩) (by assumption) ?_
    · intro wx hs1; go_simp
    (try simp only [Act.put, List.getElem_toArray, List.getElem_cons_succ, List.getElem_cons_zero, List.setIfInBounds_toArray, List.set_cons_zero, List.set_cons_succ])
    refine wpAnyH_done (by kernel_rfl) ?_ _
    go_wp2
    go_ret
    exact ⟨by rfl, HW2.out.trans (HB0.out.mono HW2.out.size)⟩
end Go.Proofs
