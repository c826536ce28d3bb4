/-
  acceptor: Promise, Accept. Conditions: as each theorem names them.
-/
import Derived.Test.YtamlacofmihldaaDoorAcH
namespace Go.Proofs
open Go Go.RowKit Sm Go.Lib
attribute [local go_sem] Oper.semAt_some
/-- what is accepted, or zero -/
def Sm.acVal (b : Bool) (M : AcM) : Value := if b then .agg #[.int .i64 M.ar, .int .i64 M.ap, .int .i64 M.k, .int .i64 M.m, .int .i64 M.n, .string M.t] else .agg #[.int .i64 0, .int .i64 0, .int .i64 0, .int .i64 0, .int .i64 0, .string ⟨#[]⟩]
def Sm.prOk (M : AcM) (r q : Int) : Bool := mayB M.c M.s r q && decide (0 < r) && !decide (cmpB r q M.pr M.pp < 1)
def Sm.prE (M : AcM) (r q : Int) : Int := if (mayB M.c M.s r q && decide (0 < r)) = true then 0 else 2
def Sm.prM (M : AcM) (r q : Int) : AcM := if prOk M r q then promM M r q else M
theorem Sm.other6 {w : World} {b q : Nat} {x : Option Obj} (h : w.heap[q]? = x) (hn : q ≠ b) (a' b' c' d' e' f' : Value) :
    ((((((w.setCell ⟨b, 0, none⟩ a').setCell ⟨b, 1, none⟩ b').setCell ⟨b, 2, none⟩ c').setCell ⟨b, 3, none⟩ d').setCell ⟨b, 4, none⟩ e').setCell ⟨b, 5, none⟩ f').heap[q]? = x :=
  other (other (other (other (other (other h hn) hn) hn) hn) hn) hn
theorem Sm.buts6 {S : Nat → Prop} {w w1 : World} {b : Nat} (h : But S w w1) (hn : w.heap.size ≤ b) (a' b' c' d' e' f' : Value) :
    But S w ((((((w1.setCell ⟨b, 0, none⟩ a').setCell ⟨b, 1, none⟩ b').setCell ⟨b, 2, none⟩ c').setCell ⟨b, 3, none⟩ d').setCell ⟨b, 4, none⟩ e').setCell ⟨b, 5, none⟩ f') :=
  (((((h.set _ _ (.inr hn)).set _ _ (.inr hn)).set _ _ (.inr hn)).set _ _ (.inr hn)).set _ _ (.inr hn)).set _ _ (.inr hn)
/-- four blocks made one behind the other -/
theorem Sm.four_new (w : World) (a b c d : Obj) : ∃ w4, (((w.alloc a).alloc b).alloc c).alloc d = w4 ∧ w4.heap[w.heap.size]? = some a ∧ w4.heap[w.heap.size + 1]? = some b ∧ w4.heap[w.heap.size + 2]? = some c ∧ w4.heap[w.heap.size + 3]? = some d ∧ Below w.heap.size w w4 ∧ w.heap.size + 4 ≤ w4.heap.size := by
  refine ⟨_, rfl, ?_, ?_, ?_, ?_, ?_, ?_⟩
  · exact (Below.heap_alloc _ _ _ (by simp <;> omega)).trans ((Below.heap_alloc _ _ _ (by simp <;> omega)).trans ((Below.heap_alloc _ _ _ (by simp)).trans (World.alloc_heap_new w a)))
  · refine (Below.heap_alloc _ _ _ (by simp <;> omega)).trans ((Below.heap_alloc _ _ _ (by simp <;> omega)).trans ?_)
    have := World.alloc_heap_new (w.alloc a) b
    rwa [World.size_alloc] at this
  · refine (Below.heap_alloc _ _ _ (by simp <;> omega)).trans ?_
    have := World.alloc_heap_new ((w.alloc a).alloc b) c
    rwa [World.size_alloc, World.size_alloc] at this
  · have := World.alloc_heap_new (((w.alloc a).alloc b).alloc c) d
    rwa [World.size_alloc, World.size_alloc, World.size_alloc] at this
  · exact ((((Below.refl _ w).alloc (Nat.le_refl _) _).alloc (by simp) _).alloc (by simp; omega) _).alloc (by simp; omega) _
  · simp
set_option maxRecDepth 100000 in
set_option maxHeartbeats 1000000 in
theorem Sm.promise_no (r q : Int) (w : World) :
    Calls Tryd.prog 14 #[.pointer none, .agg #[.int .i64 r, .int .i64 q]] w fun e w' => e = .returned (.tuple #[.agg #[.int .i64 0, .int .i64 0, .int .i64 0, .int .i64 0, .int .i64 0, .string ⟨#[]⟩], .bool false, .int .i64 1]) ∧ Below w.heap.size w w' := by
  obtain ⟨w4, hw4, k2, k3, k4, k7, hb4, hz4⟩ := four_new w (.cells #[.pointer none] 29) (.cells #[.int .i64 r, .int .i64 q] 36) (.cells #[.int .i64 0, .int .i64 0, .int .i64 0, .int .i64 0, .int .i64 0, .string ⟨#[]⟩] 39) (.cells #[.int .i64 0, .int .i64 0, .int .i64 0, .int .i64 0, .int .i64 0, .string ⟨#[]⟩] 39)
  have c2 := cell_of_heap k2 0
  obtain ⟨⟨c30, c31⟩, _⟩ := two k3
  have hs5 : w4.heap.size < (w4.alloc (.cells #[.bool (decide (0 < r))] 4)).heap.size := by simp
  have hb5 : Below w4.heap.size w4 (w4.alloc (.cells #[.bool (decide (0 < r))] 4)) := (Below.refl _ _).alloc (Nat.le_refl _) _
  simp only [List.getElem?_toArray, List.getElem?_cons_zero] at c2
  have h1 := ask_no r q 1 (.func (.func 25) #[] #[.pointer (some ⟨w.heap.size, 0, none⟩), .pointer (some ⟨w.heap.size + 3, 0, none⟩)]) (.slice (some ⟨w4.heap.size, 0, none⟩) 1 1) (w4.alloc (.cells #[.bool (decide (0 < r))] 4))
  have HK := Lib.hid (And.intro k4 k7)
  have HB4 := Lib.hid hb4
  have HB5 := Lib.hid hb5
  clear k2 k3 k4 k7 hb4 hb5
  go_enter Tryd.func14, Tryd.ntmps14
  go_wp2_with (go_at_call 24; (with_reducible refine h1.mono ?_); rintro e w6 ⟨rfl, hb6⟩; have HB6 : Hid (Below w4.heap.size w4 w6) := Lib.hid (HB5.out.trans (hb6.mono HB5.out.size)); have HA := Lib.hid (And.intro ((HB6.out.block _ (Array.getElem?_eq_some_iff.1 HK.out.1).1).trans HK.out.1) ((HB6.out.block _ (Array.getElem?_eq_some_iff.1 HK.out.2).1).trans HK.out.2)); obtain ⟨⟨d0, d1, d2, d3, d4, d5⟩, ⟨f0, f1, f2, f3, f4, f5⟩⟩ := six HA.out.1; obtain ⟨⟨x0, x1, x2, x3, x4, x5⟩, _⟩ := six HA.out.2; clear hb6 h1)
  have h6 := set6 HA.out.1 (.int .i64 0) (.int .i64 0) (.int .i64 0) (.int .i64 0) (.int .i64 0) (.string ⟨#[]⟩)
  obtain ⟨⟨z0, z1, z2, z3, z4, z5⟩, _⟩ := six h6
  clear d0 d1 d2 d3 d4 d5 x0 x1 x2 x3 x4 x5 f0 f1 f2 f3 f4 f5
  refine bodyPost_ret (v := .tuple #[.agg #[.int .i64 0, .int .i64 0, .int .i64 0, .int .i64 0, .int .i64 0, .string ⟨#[]⟩], .bool false, .int .i64 1]) (by simp only [results, Tryd.results14]; simp [go_sem, z0, z1, z2, z3, z4, z5]) rfl ⟨rfl, ?_⟩
  exact bset6 (HB4.out.trans (HB6.out.mono HB4.out.size)) (by omega) _ _ _ _ _ _
set_option maxRecDepth 100000 in
set_option maxHeartbeats 1000000 in
theorem Sm.promise_zero (r q : Int) (w : World) (p : Nat) (M : AcM) (hp : AAt w p M) (hc : M.c = 0) :
    Calls Tryd.prog 14 #[.pointer (some ⟨p, 0, none⟩), .agg #[.int .i64 r, .int .i64 q]] w fun e w' => e = .returned (.tuple #[.agg #[.int .i64 0, .int .i64 0, .int .i64 0, .int .i64 0, .int .i64 0, .string ⟨#[]⟩], .bool false, .int .i64 1]) ∧ Below w.heap.size w w' := by
  obtain ⟨w4, hw4, k2, k3, k4, k7, hb4, hz4⟩ := four_new w (.cells #[.pointer (some ⟨p, 0, none⟩)] 29) (.cells #[.int .i64 r, .int .i64 q] 36) (.cells #[.int .i64 0, .int .i64 0, .int .i64 0, .int .i64 0, .int .i64 0, .string ⟨#[]⟩] 39) (.cells #[.int .i64 0, .int .i64 0, .int .i64 0, .int .i64 0, .int .i64 0, .string ⟨#[]⟩] 39)
  have c2 := cell_of_heap k2 0
  obtain ⟨⟨c30, c31⟩, _⟩ := two k3
  have hs5 : w4.heap.size < (w4.alloc (.cells #[.bool (decide (0 < r))] 4)).heap.size := by simp
  have hb5 : Below w4.heap.size w4 (w4.alloc (.cells #[.bool (decide (0 < r))] 4)) := (Below.refl _ _).alloc (Nat.le_refl _) _
  simp only [List.getElem?_toArray, List.getElem?_cons_zero] at c2
  have h1 := ask_zero r q 1 (.func (.func 25) #[] #[.pointer (some ⟨w.heap.size, 0, none⟩), .pointer (some ⟨w.heap.size + 3, 0, none⟩)]) (.slice (some ⟨w4.heap.size, 0, none⟩) 1 1) _ p M ((hp.keep hb4).keep hb5) hc
  have HK := Lib.hid (And.intro k4 k7)
  have HB4 := Lib.hid hb4
  have HB5 := Lib.hid hb5
  clear k2 k3 k4 k7 hb4 hb5 hp hc
  go_enter Tryd.func14, Tryd.ntmps14
  go_wp2_with (go_at_call 24; (with_reducible refine h1.mono ?_); rintro e w6 ⟨rfl, hb6⟩; have HB6 : Hid (Below w4.heap.size w4 w6) := Lib.hid (HB5.out.trans (hb6.mono HB5.out.size)); have HA := Lib.hid (And.intro ((HB6.out.block _ (Array.getElem?_eq_some_iff.1 HK.out.1).1).trans HK.out.1) ((HB6.out.block _ (Array.getElem?_eq_some_iff.1 HK.out.2).1).trans HK.out.2)); obtain ⟨⟨d0, d1, d2, d3, d4, d5⟩, ⟨f0, f1, f2, f3, f4, f5⟩⟩ := six HA.out.1; obtain ⟨⟨x0, x1, x2, x3, x4, x5⟩, _⟩ := six HA.out.2; clear hb6 h1)
  have h6 := set6 HA.out.1 (.int .i64 0) (.int .i64 0) (.int .i64 0) (.int .i64 0) (.int .i64 0) (.string ⟨#[]⟩)
  obtain ⟨⟨z0, z1, z2, z3, z4, z5⟩, _⟩ := six h6
  clear d0 d1 d2 d3 d4 d5 x0 x1 x2 x3 x4 x5 f0 f1 f2 f3 f4 f5
  refine bodyPost_ret (v := .tuple #[.agg #[.int .i64 0, .int .i64 0, .int .i64 0, .int .i64 0, .int .i64 0, .string ⟨#[]⟩], .bool false, .int .i64 1]) (by simp only [results, Tryd.results14]; simp [go_sem, z0, z1, z2, z3, z4, z5]) rfl ⟨rfl, ?_⟩
  exact bset6 (HB4.out.trans (HB6.out.mono HB4.out.size)) (by omega) _ _ _ _ _ _
set_option maxRecDepth 100000 in
set_option maxHeartbeats 1000000 in
theorem Sm.promise_arg1 (r q : Int) (w : World) (p : Nat) (M : AcM) (hp : AAt w p M) (hc : M.c ≠ 0) (hm : mayB M.c M.s r q = false) :
    Calls Tryd.prog 14 #[.pointer (some ⟨p, 0, none⟩), .agg #[.int .i64 r, .int .i64 q]] w fun e w' => e = .returned (.tuple #[.agg #[.int .i64 0, .int .i64 0, .int .i64 0, .int .i64 0, .int .i64 0, .string ⟨#[]⟩], .bool false, .int .i64 2]) ∧ Below w.heap.size w w' := by
  obtain ⟨w4, hw4, k2, k3, k4, k7, hb4, hz4⟩ := four_new w (.cells #[.pointer (some ⟨p, 0, none⟩)] 29) (.cells #[.int .i64 r, .int .i64 q] 36) (.cells #[.int .i64 0, .int .i64 0, .int .i64 0, .int .i64 0, .int .i64 0, .string ⟨#[]⟩] 39) (.cells #[.int .i64 0, .int .i64 0, .int .i64 0, .int .i64 0, .int .i64 0, .string ⟨#[]⟩] 39)
  have c2 := cell_of_heap k2 0
  obtain ⟨⟨c30, c31⟩, _⟩ := two k3
  have hs5 : w4.heap.size < (w4.alloc (.cells #[.bool (decide (0 < r))] 4)).heap.size := by simp
  have hb5 : Below w4.heap.size w4 (w4.alloc (.cells #[.bool (decide (0 < r))] 4)) := (Below.refl _ _).alloc (Nat.le_refl _) _
  simp only [List.getElem?_toArray, List.getElem?_cons_zero] at c2
  have h1 := ask_arg1 r q 1 (.func (.func 25) #[] #[.pointer (some ⟨w.heap.size, 0, none⟩), .pointer (some ⟨w.heap.size + 3, 0, none⟩)]) (some ⟨w4.heap.size, 0, none⟩) 1 1 [decide (0 < r)] _ p M ((hp.keep hb4).keep hb5) hc (row1 w4 (decide (0 < r)) 4) hm
  have HK := Lib.hid (And.intro k4 k7)
  have HB4 := Lib.hid hb4
  have HB5 := Lib.hid hb5
  clear k2 k3 k4 k7 hb4 hb5 hp hc hm
  go_enter Tryd.func14, Tryd.ntmps14
  go_wp2_with (go_at_call 24; (with_reducible refine h1.mono ?_); rintro e w6 ⟨rfl, hb6⟩; have HB6 : Hid (Below w4.heap.size w4 w6) := Lib.hid (HB5.out.trans (hb6.mono HB5.out.size)); have HA := Lib.hid (And.intro ((HB6.out.block _ (Array.getElem?_eq_some_iff.1 HK.out.1).1).trans HK.out.1) ((HB6.out.block _ (Array.getElem?_eq_some_iff.1 HK.out.2).1).trans HK.out.2)); obtain ⟨⟨d0, d1, d2, d3, d4, d5⟩, ⟨f0, f1, f2, f3, f4, f5⟩⟩ := six HA.out.1; obtain ⟨⟨x0, x1, x2, x3, x4, x5⟩, _⟩ := six HA.out.2; clear hb6 h1)
  have h6 := set6 HA.out.1 (.int .i64 0) (.int .i64 0) (.int .i64 0) (.int .i64 0) (.int .i64 0) (.string ⟨#[]⟩)
  obtain ⟨⟨z0, z1, z2, z3, z4, z5⟩, _⟩ := six h6
  clear d0 d1 d2 d3 d4 d5 x0 x1 x2 x3 x4 x5 f0 f1 f2 f3 f4 f5
  refine bodyPost_ret (v := .tuple #[.agg #[.int .i64 0, .int .i64 0, .int .i64 0, .int .i64 0, .int .i64 0, .string ⟨#[]⟩], .bool false, .int .i64 2]) (by simp only [results, Tryd.results14]; simp [go_sem, z0, z1, z2, z3, z4, z5]) rfl ⟨rfl, ?_⟩
  exact bset6 (HB4.out.trans (HB6.out.mono HB4.out.size)) (by omega) _ _ _ _ _ _
set_option maxRecDepth 100000 in
set_option maxHeartbeats 1000000 in
theorem Sm.promise_arg2 (r q : Int) (w : World) (p : Nat) (M : AcM) (hp : AAt w p M) (hc : M.c ≠ 0) (hm : mayB M.c M.s r q = true) (hr : decide (0 < r) = false) :
    Calls Tryd.prog 14 #[.pointer (some ⟨p, 0, none⟩), .agg #[.int .i64 r, .int .i64 q]] w fun e w' => e = .returned (.tuple #[.agg #[.int .i64 0, .int .i64 0, .int .i64 0, .int .i64 0, .int .i64 0, .string ⟨#[]⟩], .bool false, .int .i64 2]) ∧ Below w.heap.size w w' := by
  obtain ⟨w4, hw4, k2, k3, k4, k7, hb4, hz4⟩ := four_new w (.cells #[.pointer (some ⟨p, 0, none⟩)] 29) (.cells #[.int .i64 r, .int .i64 q] 36) (.cells #[.int .i64 0, .int .i64 0, .int .i64 0, .int .i64 0, .int .i64 0, .string ⟨#[]⟩] 39) (.cells #[.int .i64 0, .int .i64 0, .int .i64 0, .int .i64 0, .int .i64 0, .string ⟨#[]⟩] 39)
  have c2 := cell_of_heap k2 0
  obtain ⟨⟨c30, c31⟩, _⟩ := two k3
  have hs5 : w4.heap.size < (w4.alloc (.cells #[.bool false] 4)).heap.size := by simp
  have hb5 : Below w4.heap.size w4 (w4.alloc (.cells #[.bool false] 4)) := (Below.refl _ _).alloc (Nat.le_refl _) _
  simp only [List.getElem?_toArray, List.getElem?_cons_zero] at c2
  have h1 := ask_arg2 r q 1 (.func (.func 25) #[] #[.pointer (some ⟨w.heap.size, 0, none⟩), .pointer (some ⟨w.heap.size + 3, 0, none⟩)]) (some ⟨w4.heap.size, 0, none⟩) 1 1 [false] _ p M ((hp.keep hb4).keep hb5) hc (row1 w4 false 4) hm (by rfl)
  have HK := Lib.hid (And.intro k4 k7)
  have HB4 := Lib.hid hb4
  have HB5 := Lib.hid hb5
  clear k2 k3 k4 k7 hb4 hb5 hp hc hm
  go_enter Tryd.func14, Tryd.ntmps14
  go_wp2_with (go_at_call 24; (with_reducible refine h1.mono ?_); rintro e w6 ⟨rfl, hb6⟩; have HB6 : Hid (Below w4.heap.size w4 w6) := Lib.hid (HB5.out.trans (hb6.mono HB5.out.size)); have HA := Lib.hid (And.intro ((HB6.out.block _ (Array.getElem?_eq_some_iff.1 HK.out.1).1).trans HK.out.1) ((HB6.out.block _ (Array.getElem?_eq_some_iff.1 HK.out.2).1).trans HK.out.2)); obtain ⟨⟨d0, d1, d2, d3, d4, d5⟩, ⟨f0, f1, f2, f3, f4, f5⟩⟩ := six HA.out.1; obtain ⟨⟨x0, x1, x2, x3, x4, x5⟩, _⟩ := six HA.out.2; clear hb6 h1)
  have h6 := set6 HA.out.1 (.int .i64 0) (.int .i64 0) (.int .i64 0) (.int .i64 0) (.int .i64 0) (.string ⟨#[]⟩)
  obtain ⟨⟨z0, z1, z2, z3, z4, z5⟩, _⟩ := six h6
  clear d0 d1 d2 d3 d4 d5 x0 x1 x2 x3 x4 x5 f0 f1 f2 f3 f4 f5
  refine bodyPost_ret (v := .tuple #[.agg #[.int .i64 0, .int .i64 0, .int .i64 0, .int .i64 0, .int .i64 0, .string ⟨#[]⟩], .bool false, .int .i64 2]) (by simp only [results, Tryd.results14]; simp [go_sem, z0, z1, z2, z3, z4, z5]) rfl ⟨rfl, ?_⟩
  exact bset6 (HB4.out.trans (HB6.out.mono HB4.out.size)) (by omega) _ _ _ _ _ _
set_option maxRecDepth 100000 in
set_option maxHeartbeats 1000000 in
theorem Sm.promise_low (r q : Int) (w : World) (p : Nat) (M : AcM) (hp : AAt w p M) (hc : M.c ≠ 0) (hm : mayB M.c M.s r q = true) (hr : decide (0 < r) = true) (hlt : cmpB r q M.pr M.pp < 1) :
    Calls Tryd.prog 14 #[.pointer (some ⟨p, 0, none⟩), .agg #[.int .i64 r, .int .i64 q]] w fun e w' => e = .returned (.tuple #[.agg #[.int .i64 0, .int .i64 0, .int .i64 0, .int .i64 0, .int .i64 0, .string ⟨#[]⟩], .bool false, .int .i64 0]) ∧ Below w.heap.size w w' := by
  obtain ⟨w4, hw4, k2, k3, k4, k7, hb4, hz4⟩ := four_new w (.cells #[.pointer (some ⟨p, 0, none⟩)] 29) (.cells #[.int .i64 r, .int .i64 q] 36) (.cells #[.int .i64 0, .int .i64 0, .int .i64 0, .int .i64 0, .int .i64 0, .string ⟨#[]⟩] 39) (.cells #[.int .i64 0, .int .i64 0, .int .i64 0, .int .i64 0, .int .i64 0, .string ⟨#[]⟩] 39)
  have c2 := cell_of_heap k2 0
  obtain ⟨⟨c30, c31⟩, _⟩ := two k3
  have hs5 : w4.heap.size < (w4.alloc (.cells #[.bool true] 4)).heap.size := by simp
  have hb5 : Below w4.heap.size w4 (w4.alloc (.cells #[.bool true] 4)) := (Below.refl _ _).alloc (Nat.le_refl _) _
  simp only [List.getElem?_toArray, List.getElem?_cons_zero] at c2
  have h1 := ask_low r q 1 (.func (.func 25) #[] #[.pointer (some ⟨w.heap.size, 0, none⟩), .pointer (some ⟨w.heap.size + 3, 0, none⟩)]) (some ⟨w4.heap.size, 0, none⟩) 1 1 [true] _ p M ((hp.keep hb4).keep hb5) hc (row1 w4 true 4) hm (by rfl) hlt
  have HK := Lib.hid (And.intro k4 k7)
  have HB4 := Lib.hid hb4
  have HB5 := Lib.hid hb5
  clear k2 k3 k4 k7 hb4 hb5 hp hc hm hlt
  go_enter Tryd.func14, Tryd.ntmps14
  go_wp2_with (go_at_call 24; (with_reducible refine h1.mono ?_); rintro e w6 ⟨rfl, hb6⟩; have HB6 : Hid (Below w4.heap.size w4 w6) := Lib.hid (HB5.out.trans (hb6.mono HB5.out.size)); have HA := Lib.hid (And.intro ((HB6.out.block _ (Array.getElem?_eq_some_iff.1 HK.out.1).1).trans HK.out.1) ((HB6.out.block _ (Array.getElem?_eq_some_iff.1 HK.out.2).1).trans HK.out.2)); obtain ⟨⟨d0, d1, d2, d3, d4, d5⟩, ⟨f0, f1, f2, f3, f4, f5⟩⟩ := six HA.out.1; obtain ⟨⟨x0, x1, x2, x3, x4, x5⟩, _⟩ := six HA.out.2; clear hb6 h1)
  have h6 := set6 HA.out.1 (.int .i64 0) (.int .i64 0) (.int .i64 0) (.int .i64 0) (.int .i64 0) (.string ⟨#[]⟩)
  obtain ⟨⟨z0, z1, z2, z3, z4, z5⟩, _⟩ := six h6
  clear d0 d1 d2 d3 d4 d5 x0 x1 x2 x3 x4 x5 f0 f1 f2 f3 f4 f5
  refine bodyPost_ret (v := .tuple #[.agg #[.int .i64 0, .int .i64 0, .int .i64 0, .int .i64 0, .int .i64 0, .string ⟨#[]⟩], .bool false, .int .i64 0]) (by simp only [results, Tryd.results14]; simp [go_sem, z0, z1, z2, z3, z4, z5]) rfl ⟨rfl, ?_⟩
  exact bset6 (HB4.out.trans (HB6.out.mono HB4.out.size)) (by omega) _ _ _ _ _ _
set_option maxRecDepth 100000 in
set_option maxHeartbeats 1000000 in
theorem Sm.promise_yes (r q : Int) (w : World) (p : Nat) (M : AcM) (hp : AAt w p M) (ht : M.t.size ≤ 1000000) (hc : M.c ≠ 0) (hm : mayB M.c M.s r q = true) (hr : decide (0 < r) = true) (hlt : ¬ cmpB r q M.pr M.pp < 1) :
    Calls Tryd.prog 14 #[.pointer (some ⟨p, 0, none⟩), .agg #[.int .i64 r, .int .i64 q]] w fun e w' => e = .returned (.tuple #[.agg #[.int .i64 M.ar, .int .i64 M.ap, .int .i64 M.k, .int .i64 M.m, .int .i64 M.n, .string M.t], .bool true, .int .i64 0]) ∧ AAt w' p (promM M r q) ∧ But (Xp p) w w' := by
  obtain ⟨w4, hw4, k2, k3, k4, k7, hb4, hz4⟩ := four_new w (.cells #[.pointer (some ⟨p, 0, none⟩)] 29) (.cells #[.int .i64 r, .int .i64 q] 36) (.cells #[.int .i64 0, .int .i64 0, .int .i64 0, .int .i64 0, .int .i64 0, .string ⟨#[]⟩] 39) (.cells #[.int .i64 0, .int .i64 0, .int .i64 0, .int .i64 0, .int .i64 0, .string ⟨#[]⟩] 39)
  have c2 := cell_of_heap k2 0
  obtain ⟨⟨c30, c31⟩, _⟩ := two k3
  have hs5 : w4.heap.size < (w4.alloc (.cells #[.bool true] 4)).heap.size := by simp
  have hb5 : Below w4.heap.size w4 (w4.alloc (.cells #[.bool true] 4)) := (Below.refl _ _).alloc (Nat.le_refl _) _
  simp only [List.getElem?_toArray, List.getElem?_cons_zero] at c2
  have hl := hp.lt
  have k25 := (hb5.block _ (by omega)).trans k2
  have k45 := (hb5.block _ (by omega)).trans k4
  have k75 := (hb5.block _ (by omega)).trans k7
  have h1 := ask_yes29 r q 1 (some ⟨w4.heap.size, 0, none⟩) 1 1 [true] _ p M ((hp.keep hb4).keep hb5) hc (row1 w4 true 4) hm (by rfl) hlt w.heap.size (w.heap.size + 3) (fun W W' => W'.heap[w.heap.size + 3]? = some (.cells #[.int .i64 M.ar, .int .i64 M.ap, .int .i64 M.k, .int .i64 M.m, .int .i64 M.n, .string M.t] 39 (0, 0)) ∧ But (Xp (w.heap.size + 3)) W W')
    (fun W hB hA => do29 W w.heap.size (w.heap.size + 3) p (promM M r q) (cell_of_heap (hB.box k25 (by unfold Xp; omega)) 0) hA (hB.box k75 (by unfold Xp; omega)) ht)
  have HK := Lib.hid k45
  have HB := Lib.hid (hb4.trans (hb5.mono hb4.size))
  clear k2 k3 k4 k7 k25 k45 k75 hb4 hb5 hp hc hm hlt
  go_enter Tryd.func14, Tryd.ntmps14
  go_wp2_with (go_at_call 24; (with_reducible refine h1.mono ?_); clear h1; rintro e w6 ⟨rfl, W, hB, hA, h7, hB7⟩; have HB6 := Lib.hid (And.intro hB hB7); have HA := Lib.hid (And.intro h7 (hB7.box (hB.box HK.out (by unfold Xp; omega)) (by unfold Xp; omega))); have HP := Lib.hid (hB7.box hA (by unfold Xp; omega)); obtain ⟨⟨d0, d1, d2, d3, d4, d5⟩, ⟨f0, f1, f2, f3, f4, f5⟩⟩ := six HA.out.2; obtain ⟨⟨x0, x1, x2, x3, x4, x5⟩, _⟩ := six HA.out.1; clear hB hA h7 hB7)
  have h6 := set6 HA.out.2 (.int .i64 M.ar) (.int .i64 M.ap) (.int .i64 M.k) (.int .i64 M.m) (.int .i64 M.n) (.string M.t)
  obtain ⟨⟨z0, z1, z2, z3, z4, z5⟩, _⟩ := six h6
  clear d0 d1 d2 d3 d4 d5 x0 x1 x2 x3 x4 x5 f0 f1 f2 f3 f4 f5
  refine bodyPost_ret (v := .tuple #[.agg #[.int .i64 M.ar, .int .i64 M.ap, .int .i64 M.k, .int .i64 M.m, .int .i64 M.n, .string M.t], .bool true, .int .i64 0]) (by simp only [results, Tryd.results14]; simp [go_sem, z0, z1, z2, z3, z4, z5]) rfl ⟨rfl, ?_, ?_⟩
  · exact other6 HP.out (by omega) _ _ _ _ _ _
  · have hbb := ((But.of_all HB.out (Xp p)).trans HB6.out.1 (fun _ _ e => e)).trans HB6.out.2 (fun b hb e => absurd (show b = w.heap.size + 3 from e) (by omega))
    exact buts6 hbb (by omega) _ _ _ _ _ _
theorem Sm.promise_any (r q : Int) (w : World) (p : Nat) (M : AcM) (hp : AAt w p M) (ht : M.t.size ≤ 1000000) (hc : M.c ≠ 0) :
    Calls Tryd.prog 14 #[.pointer (some ⟨p, 0, none⟩), .agg #[.int .i64 r, .int .i64 q]] w fun e w' => e = .returned (.tuple #[acVal (prOk M r q) M, .bool (prOk M r q), .int .i64 (prE M r q)]) ∧ AAt w' p (prM M r q) ∧ But (Xp p) w w' := by
  unfold prM prE prOk acVal
  cases hm : mayB M.c M.s r q with
  | false => exact (promise_arg1 r q w p M hp hc hm).mono fun e w' ⟨h1, h2⟩ => ⟨by rw [h1]; simp, by simpa using hp.keep h2, But.of_all h2 _⟩
  | true =>
    cases hr : decide (0 < r) with
    | false => exact (promise_arg2 r q w p M hp hc hm hr).mono fun e w' ⟨h1, h2⟩ => ⟨by rw [h1]; simp, by simpa using hp.keep h2, But.of_all h2 _⟩
    | true =>
      by_cases hlt : cmpB r q M.pr M.pp < 1
      · exact (promise_low r q w p M hp hc hm hr hlt).mono fun e w' ⟨h1, h2⟩ => ⟨by rw [h1]; simp [hlt], by simpa [hlt] using hp.keep h2, But.of_all h2 _⟩
      · exact (promise_yes r q w p M hp ht hc hm hr hlt).mono fun e w' ⟨h1, h2, h3⟩ => ⟨by rw [h1]; simp [hlt], by simpa [hlt] using h2, h3⟩
end Go.Proofs
