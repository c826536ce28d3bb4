/-
  acceptor: ask. Conditions: as each theorem names them.
-/
import Derived.WalkMore
import Derived.ScopeJumps
import Derived.Test.YtamlacofmihldaaDoorAcG
namespace Go.Proofs
open Go Go.RowKit Sm Go.Lib
attribute [local go_sem] Oper.semAt_some
/-- a scope that is left ahead to one label at most -/
theorem Sm.wp_scope_fwd {P : Program} {a : Act} {w : World} {Q : Exit → Act → World → Prop} {c rest : Code} (l : Nat) (hf : findLabel c l = some rest) (h : c.wp P (Exit.jump l (fun a' w' => rest.wp P (Exit.noGoto Q) a' w') Q) a w) : (Code.scope c).wp P Q a w :=
  wp_scope_jumps l (fun a' w' => rest.wp P (Exit.noGoto Q) a' w') (fun _ _ => 0) hf h (fun a' w' hj => wp_mono hj (fun e a'' w'' hq => by cases e <;> first | exact hq | exact False.elim hq))
theorem Sm.ask_no (r q least : Int) (v u : Value) (w : World) : Calls Tryd.prog 24 #[.pointer none, .agg #[.int .i64 r, .int .i64 q], .int .i64 least, v, u] w fun e w' => e = .returned (.tuple #[.bool false, .int .i64 1]) ∧ Below w.heap.size w w' := by
  have h1 := fun W => there_no W
  have hb1 : Below w.heap.size w (w.alloc (.cells #[.int .i64 r, .int .i64 q] 36)) := (Below.refl _ w).alloc (Nat.le_refl _) _
  go_enter Tryd.func24, Tryd.ntmps24
  go_wp2
  refine wp_scope_fwd 0 rfl ?_
  go_wp2_with (go_at_call 22; (with_reducible refine (h1 _).mono ?_); rintro e w2 ⟨rfl, hb2⟩)
  go_step3
  refine ⟨rfl, ?_⟩
  go_wp2
  try rw [Exit.noGoto_ret]
  go_ret2
  exact ⟨rfl, hb1.trans (hb2.mono hb1.size)⟩
theorem Sm.ask_zero (r q least : Int) (v u : Value) (w : World) (p : Nat) (M : AcM) (hp : AAt w p M) (hc : M.c = 0) : Calls Tryd.prog 24 #[.pointer (some ⟨p, 0, none⟩), .agg #[.int .i64 r, .int .i64 q], .int .i64 least, v, u] w fun e w' => e = .returned (.tuple #[.bool false, .int .i64 1]) ∧ Below w.heap.size w w' := by
  have hb1 : Below w.heap.size w (w.alloc (.cells #[.int .i64 r, .int .i64 q] 36)) := (Below.refl _ w).alloc (Nat.le_refl _) _
  have h1 := there_any _ p M (hp.keep hb1)
  have e : (M.c != 0) = false := by simp [hc]
  rw [e] at h1
  clear e hp hc
  go_enter Tryd.func24, Tryd.ntmps24
  go_wp2
  refine wp_scope_fwd 0 rfl ?_
  go_wp2_with (go_at_call 22; (with_reducible refine h1.mono ?_); rintro e w2 ⟨rfl, hb2⟩)
  go_step3
  refine ⟨rfl, ?_⟩
  go_wp2
  try rw [Exit.noGoto_ret]
  go_ret2
  exact ⟨rfl, hb1.trans (hb2.mono hb1.size)⟩
set_option maxRecDepth 100000 in
set_option maxHeartbeats 1000000 in
theorem Sm.ask_arg1 (r q least : Int) (v : Value) (A : Option Addr) (n c : Nat) (xs : List Bool) (w : World) (p : Nat) (M : AcM) (hp : AAt w p M) (hc : M.c ≠ 0) (hr : RowB w A n c xs) (hm : mayB M.c M.s r q = false) :
    Calls Tryd.prog 24 #[.pointer (some ⟨p, 0, none⟩), .agg #[.int .i64 r, .int .i64 q], .int .i64 least, v, .slice A n c] w fun e w' => e = .returned (.tuple #[.bool false, .int .i64 2]) ∧ Below w.heap.size w w' := by
  have hb1 : Below w.heap.size w (w.alloc (.cells #[.int .i64 r, .int .i64 q] 36)) := (Below.refl _ w).alloc (Nat.le_refl _) _
  have q1 := World.alloc_heap_new w (.cells #[.int .i64 r, .int .i64 q] 36)
  have hq := hp.keep hb1
  have hr1 := hr.keep hb1
  obtain ⟨w1, hw1⟩ : ∃ v, w.alloc (.cells #[.int .i64 r, .int .i64 q] 36) = v := ⟨_, rfl⟩
  rw [hw1] at hb1 q1 hq hr1
  have e1 : (M.c != 0) = true := by simpa using hc
  have H33 : Hid (∀ W, Below w1.heap.size w1 W → Calls Tryd.prog 22 #[.pointer (some ⟨p, 0, none⟩)] W fun e w' => e = .returned (.bool true) ∧ Below w1.heap.size w1 w') := Lib.hid fun W hb =>
    (there_any W p M (hq.keep hb)).mono fun e w' ⟨h1, h2⟩ => ⟨by rw [h1, e1], hb.trans (h2.mono hb.size)⟩
  have H37 : Hid (∀ W, Below w1.heap.size w1 W → Calls Tryd.prog 34 #[.pointer (some ⟨p, 0, none⟩), .agg #[.int .i64 r, .int .i64 q]] W fun e w' => e = .returned (.bool (mayB M.c M.s r q)) ∧ Below w1.heap.size w1 w') := Lib.hid fun W hb =>
    (may_any W p M (hq.keep hb) r q).mono fun e w' ⟨h1, h2⟩ => ⟨h1, hb.trans (h2.mono hb.size)⟩
  have H38 : Hid (∀ W, Below w1.heap.size w1 W → Calls Tryd.prog 35 #[.slice A n c] W fun e w' => e = .returned (.bool (xs.all id)) ∧ W = w') := Lib.hid fun W hb => all_any A n c xs W (hr1.keep hb)
  have HX : Hid (∀ W, Below w1.heap.size w1 W → W.cell? ⟨w.heap.size, 0, none⟩ = some (.int .i64 r) ∧ W.cell? ⟨w.heap.size, 1, none⟩ = some (.int .i64 q)) := Lib.hid fun W hb => (two ((hb.block _ (Array.getElem?_eq_some_iff.1 q1).1).trans q1)).1
  have HQ : Hid (∀ W, Below w1.heap.size w1 W → AAt W p M) := Lib.hid fun W hb => hq.keep hb
  obtain ⟨x0, x1⟩ := HX.out _ (Below.refl _ w1)
  have HB1 := Lib.hid hb1
  have hl := hp.lt
  clear hb1 q1 hq hr1 e1 hp hr hc
  rw [hm] at H37
  clear hm
  go_enter Tryd.func24, Tryd.ntmps24
  go_wp2
  refine wp_scope_fwd 0 rfl ?_
  go_wp2_with (first | (go_at_call 22; (with_reducible refine (H33.out _ (by with_reducible exact Below.refl _ _)).mono ?_); rintro e w2 ⟨rfl, hb2⟩; obtain ⟨y0, y1⟩ := HX.out _ hb2; clear hw1 x0 x1) | (go_at_call 34; (with_reducible refine (H37.out _ (by assumption)).mono ?_); rintro e w3 ⟨rfl, hb3⟩; obtain ⟨u0, u1⟩ := HX.out _ hb3; clear y0 y1))
  go_step3
  refine ⟨rfl, ?_⟩
  go_wp2
  try rw [Exit.noGoto_ret]
  go_ret2
  exact ⟨rfl, HB1.out.trans (hb3.mono HB1.out.size)⟩
set_option maxRecDepth 100000 in
set_option maxHeartbeats 1000000 in
theorem Sm.ask_arg2 (r q least : Int) (v : Value) (A : Option Addr) (n c : Nat) (xs : List Bool) (w : World) (p : Nat) (M : AcM) (hp : AAt w p M) (hc : M.c ≠ 0) (hr : RowB w A n c xs) (hm : mayB M.c M.s r q = true) (ha : xs.all id = false) :
    Calls Tryd.prog 24 #[.pointer (some ⟨p, 0, none⟩), .agg #[.int .i64 r, .int .i64 q], .int .i64 least, v, .slice A n c] w fun e w' => e = .returned (.tuple #[.bool false, .int .i64 2]) ∧ Below w.heap.size w w' := by
  have hb1 : Below w.heap.size w (w.alloc (.cells #[.int .i64 r, .int .i64 q] 36)) := (Below.refl _ w).alloc (Nat.le_refl _) _
  have q1 := World.alloc_heap_new w (.cells #[.int .i64 r, .int .i64 q] 36)
  have hq := hp.keep hb1
  have hr1 := hr.keep hb1
  obtain ⟨w1, hw1⟩ : ∃ v, w.alloc (.cells #[.int .i64 r, .int .i64 q] 36) = v := ⟨_, rfl⟩
  rw [hw1] at hb1 q1 hq hr1
  have e1 : (M.c != 0) = true := by simpa using hc
  have H33 : Hid (∀ W, Below w1.heap.size w1 W → Calls Tryd.prog 22 #[.pointer (some ⟨p, 0, none⟩)] W fun e w' => e = .returned (.bool true) ∧ Below w1.heap.size w1 w') := Lib.hid fun W hb =>
    (there_any W p M (hq.keep hb)).mono fun e w' ⟨h1, h2⟩ => ⟨by rw [h1, e1], hb.trans (h2.mono hb.size)⟩
  have H37 : Hid (∀ W, Below w1.heap.size w1 W → Calls Tryd.prog 34 #[.pointer (some ⟨p, 0, none⟩), .agg #[.int .i64 r, .int .i64 q]] W fun e w' => e = .returned (.bool (mayB M.c M.s r q)) ∧ Below w1.heap.size w1 w') := Lib.hid fun W hb =>
    (may_any W p M (hq.keep hb) r q).mono fun e w' ⟨h1, h2⟩ => ⟨h1, hb.trans (h2.mono hb.size)⟩
  have H38 : Hid (∀ W, Below w1.heap.size w1 W → Calls Tryd.prog 35 #[.slice A n c] W fun e w' => e = .returned (.bool (xs.all id)) ∧ W = w') := Lib.hid fun W hb => all_any A n c xs W (hr1.keep hb)
  have HX : Hid (∀ W, Below w1.heap.size w1 W → W.cell? ⟨w.heap.size, 0, none⟩ = some (.int .i64 r) ∧ W.cell? ⟨w.heap.size, 1, none⟩ = some (.int .i64 q)) := Lib.hid fun W hb => (two ((hb.block _ (Array.getElem?_eq_some_iff.1 q1).1).trans q1)).1
  have HQ : Hid (∀ W, Below w1.heap.size w1 W → AAt W p M) := Lib.hid fun W hb => hq.keep hb
  obtain ⟨x0, x1⟩ := HX.out _ (Below.refl _ w1)
  have HB1 := Lib.hid hb1
  have hl := hp.lt
  clear hb1 q1 hq hr1 e1 hp hr hc
  rw [hm] at H37
  rw [ha] at H38
  clear hm ha
  go_enter Tryd.func24, Tryd.ntmps24
  go_wp2
  refine wp_scope_fwd 0 rfl ?_
  go_wp2_with (first | (go_at_call 22; (with_reducible refine (H33.out _ (by with_reducible exact Below.refl _ _)).mono ?_); rintro e w2 ⟨rfl, hb2⟩; obtain ⟨y0, y1⟩ := HX.out _ hb2; clear hw1 x0 x1) | (go_at_call 34; (with_reducible refine (H37.out _ (by assumption)).mono ?_); rintro e w3 ⟨rfl, hb3⟩; obtain ⟨u0, u1⟩ := HX.out _ hb3; clear y0 y1) | (go_at_call 35; (with_reducible refine (H38.out _ (by assumption)).mono ?_); rintro e w' ⟨rfl, rfl⟩))
  go_step3
  refine ⟨rfl, ?_⟩
  go_wp2
  try rw [Exit.noGoto_ret]
  go_ret2
  exact ⟨rfl, HB1.out.trans (hb3.mono HB1.out.size)⟩
set_option maxRecDepth 100000 in
set_option maxHeartbeats 1000000 in
theorem Sm.ask_low (r q least : Int) (v : Value) (A : Option Addr) (n c : Nat) (xs : List Bool) (w : World) (p : Nat) (M : AcM) (hp : AAt w p M) (hc : M.c ≠ 0) (hr : RowB w A n c xs) (hm : mayB M.c M.s r q = true) (ha : xs.all id = true) (hlt : cmpB r q M.pr M.pp < least) :
    Calls Tryd.prog 24 #[.pointer (some ⟨p, 0, none⟩), .agg #[.int .i64 r, .int .i64 q], .int .i64 least, v, .slice A n c] w fun e w' => e = .returned (.tuple #[.bool false, .int .i64 0]) ∧ Below w.heap.size w w' := by
  have hb1 : Below w.heap.size w (w.alloc (.cells #[.int .i64 r, .int .i64 q] 36)) := (Below.refl _ w).alloc (Nat.le_refl _) _
  have q1 := World.alloc_heap_new w (.cells #[.int .i64 r, .int .i64 q] 36)
  have hq := hp.keep hb1
  have hr1 := hr.keep hb1
  obtain ⟨w1, hw1⟩ : ∃ v, w.alloc (.cells #[.int .i64 r, .int .i64 q] 36) = v := ⟨_, rfl⟩
  rw [hw1] at hb1 q1 hq hr1
  have e1 : (M.c != 0) = true := by simpa using hc
  have H33 : Hid (∀ W, Below w1.heap.size w1 W → Calls Tryd.prog 22 #[.pointer (some ⟨p, 0, none⟩)] W fun e w' => e = .returned (.bool true) ∧ Below w1.heap.size w1 w') := Lib.hid fun W hb =>
    (there_any W p M (hq.keep hb)).mono fun e w' ⟨h1, h2⟩ => ⟨by rw [h1, e1], hb.trans (h2.mono hb.size)⟩
  have H37 : Hid (∀ W, Below w1.heap.size w1 W → Calls Tryd.prog 34 #[.pointer (some ⟨p, 0, none⟩), .agg #[.int .i64 r, .int .i64 q]] W fun e w' => e = .returned (.bool (mayB M.c M.s r q)) ∧ Below w1.heap.size w1 w') := Lib.hid fun W hb =>
    (may_any W p M (hq.keep hb) r q).mono fun e w' ⟨h1, h2⟩ => ⟨h1, hb.trans (h2.mono hb.size)⟩
  have H38 : Hid (∀ W, Below w1.heap.size w1 W → Calls Tryd.prog 35 #[.slice A n c] W fun e w' => e = .returned (.bool (xs.all id)) ∧ W = w') := Lib.hid fun W hb => all_any A n c xs W (hr1.keep hb)
  have HX : Hid (∀ W, Below w1.heap.size w1 W → W.cell? ⟨w.heap.size, 0, none⟩ = some (.int .i64 r) ∧ W.cell? ⟨w.heap.size, 1, none⟩ = some (.int .i64 q)) := Lib.hid fun W hb => (two ((hb.block _ (Array.getElem?_eq_some_iff.1 q1).1).trans q1)).1
  have HQ : Hid (∀ W, Below w1.heap.size w1 W → AAt W p M) := Lib.hid fun W hb => hq.keep hb
  obtain ⟨x0, x1⟩ := HX.out _ (Below.refl _ w1)
  have HB1 := Lib.hid hb1
  have hl := hp.lt
  clear hb1 q1 hq hr1 e1 hp hr hc
  rw [hm] at H37
  rw [ha] at H38
  have H39 : Hid (∀ W, Below w1.heap.size w1 W → Calls Tryd.prog 36 #[.agg #[.int .i64 r, .int .i64 q], .agg #[.int .i64 M.pr, .int .i64 M.pp]] W fun e w' => e = .returned (.int .i64 (cmpB r q M.pr M.pp)) ∧ Below w1.heap.size w1 w') := Lib.hid fun W hb =>
    (Compare_any r q M.pr M.pp W).mono fun e w' ⟨h1, h2⟩ => ⟨h1, hb.trans (h2.mono hb.size)⟩
  clear hm ha
  obtain ⟨k, hk⟩ : ∃ k, cmpB r q M.pr M.pp = k := ⟨_, rfl⟩
  rw [hk] at H39 hlt
  clear hk
  have HS : Hid (∀ W, Below w1.heap.size w1 W → (W.cell? ⟨w.heap.size, 0, none⟩ = some (.int .i64 r) ∧ W.cell? ⟨w.heap.size, 1, none⟩ = some (.int .i64 q)) ∧ (W.cell? ⟨p, 2, none⟩ = some (.int .i64 M.pr) ∧ W.cell? ⟨p, 3, none⟩ = some (.int .i64 M.pp))) := Lib.hid fun W hb =>
    ⟨HX.out W hb, (HQ.out W hb).cells.2.2.1, (HQ.out W hb).cells.2.2.2.1⟩
  go_enter Tryd.func24, Tryd.ntmps24
  go_wp2
  go_step3
  go_upto_region 5 with (first | (go_at_call 22; (with_reducible refine (H33.out _ (by with_reducible exact Below.refl _ _)).mono ?_); rintro e w2 ⟨rfl, hb2⟩; obtain ⟨y0, y1⟩ := HX.out _ hb2; clear hw1 x0 x1) | (go_at_call 34; (with_reducible refine (H37.out _ (by assumption)).mono ?_); rintro e w3 ⟨rfl, hb3⟩; obtain ⟨u0, u1⟩ := HX.out _ hb3; clear y0 y1) | (go_at_call 35; (with_reducible refine (H38.out _ (by assumption)).mono ?_); rintro e w' ⟨rfl, rfl⟩))
  have z0 := HS.out _ hb3
  clear u0 u1
  go_region_held_law (fun W => (W.cell? ⟨w.heap.size, 0, none⟩ = some (.int .i64 r) ∧ W.cell? ⟨w.heap.size, 1, none⟩ = some (.int .i64 q)) ∧ (W.cell? ⟨p, 2, none⟩ = some (.int .i64 M.pr) ∧ W.cell? ⟨p, 3, none⟩ = some (.int .i64 M.pp)))
    (first | with_reducible exact z0 | (refine HS.out _ ?_; (first | with_reducible assumption | with_reducible exact Below.drew (by assumption))))
    ((go_at_call 36; (with_reducible refine (H39.out _ (by with_reducible exact Below.drew (by assumption))).mono ?_); rintro e w4 ⟨rfl, hb4⟩; obtain ⟨v0, v1⟩ := HX.out _ hb4))
  all_goals
    go_wp2
    try rw [Exit.noGoto_ret]
    go_ret2
    exact ⟨rfl, HB1.out.trans (hb4.mono HB1.out.size)⟩
set_option maxRecDepth 100000 in
set_option maxHeartbeats 1000000 in
theorem Sm.ask_yes29 (r q least : Int) (A : Option Addr) (n c : Nat) (xs : List Bool) (w : World) (p : Nat) (M : AcM) (hp : AAt w p M) (hc : M.c ≠ 0) (hr : RowB w A n c xs) (hm : mayB M.c M.s r q = true) (ha : xs.all id = true) (hlt : ¬ cmpB r q M.pr M.pp < least) (x2 x7 : Nat) (R : World → World → Prop)
    (hd : ∀ W, But (Xp p) w W → AAt W p (promM M r q) → Calls Tryd.prog 25 #[.pointer (some ⟨x2, 0, none⟩), .pointer (some ⟨x7, 0, none⟩)] W fun e w' => e = .returned (.tuple #[]) ∧ R W w') :
    Calls Tryd.prog 24 #[.pointer (some ⟨p, 0, none⟩), .agg #[.int .i64 r, .int .i64 q], .int .i64 least, .func (.func 25) #[] #[.pointer (some ⟨x2, 0, none⟩), .pointer (some ⟨x7, 0, none⟩)], .slice A n c] w fun e w' => e = .returned (.tuple #[.bool true, .int .i64 0]) ∧ ∃ W, But (Xp p) w W ∧ AAt W p (promM M r q) ∧ R W w' := by
  have hb1 : Below w.heap.size w (w.alloc (.cells #[.int .i64 r, .int .i64 q] 36)) := (Below.refl _ w).alloc (Nat.le_refl _) _
  have q1 := World.alloc_heap_new w (.cells #[.int .i64 r, .int .i64 q] 36)
  have hq := hp.keep hb1
  have hr1 := hr.keep hb1
  obtain ⟨w1, hw1⟩ : ∃ v, w.alloc (.cells #[.int .i64 r, .int .i64 q] 36) = v := ⟨_, rfl⟩
  rw [hw1] at hb1 q1 hq hr1
  have e1 : (M.c != 0) = true := by simpa using hc
  have H33 : Hid (∀ W, Below w1.heap.size w1 W → Calls Tryd.prog 22 #[.pointer (some ⟨p, 0, none⟩)] W fun e w' => e = .returned (.bool true) ∧ Below w1.heap.size w1 w') := Lib.hid fun W hb =>
    (there_any W p M (hq.keep hb)).mono fun e w' ⟨h1, h2⟩ => ⟨by rw [h1, e1], hb.trans (h2.mono hb.size)⟩
  have H37 : Hid (∀ W, Below w1.heap.size w1 W → Calls Tryd.prog 34 #[.pointer (some ⟨p, 0, none⟩), .agg #[.int .i64 r, .int .i64 q]] W fun e w' => e = .returned (.bool (mayB M.c M.s r q)) ∧ Below w1.heap.size w1 w') := Lib.hid fun W hb =>
    (may_any W p M (hq.keep hb) r q).mono fun e w' ⟨h1, h2⟩ => ⟨h1, hb.trans (h2.mono hb.size)⟩
  have H38 : Hid (∀ W, Below w1.heap.size w1 W → Calls Tryd.prog 35 #[.slice A n c] W fun e w' => e = .returned (.bool (xs.all id)) ∧ W = w') := Lib.hid fun W hb => all_any A n c xs W (hr1.keep hb)
  have HX : Hid (∀ W, Below w1.heap.size w1 W → W.cell? ⟨w.heap.size, 0, none⟩ = some (.int .i64 r) ∧ W.cell? ⟨w.heap.size, 1, none⟩ = some (.int .i64 q)) := Lib.hid fun W hb => (two ((hb.block _ (Array.getElem?_eq_some_iff.1 q1).1).trans q1)).1
  have HQ : Hid (∀ W, Below w1.heap.size w1 W → AAt W p M) := Lib.hid fun W hb => hq.keep hb
  obtain ⟨x0, x1⟩ := HX.out _ (Below.refl _ w1)
  have HB1 := Lib.hid hb1
  have hl := hp.lt
  clear hb1 q1 hq hr1 e1 hp hr hc
  have HD := Lib.hid hd
  clear hd
  rw [hm] at H37
  rw [ha] at H38
  have H39 : Hid (∀ W, Below w1.heap.size w1 W → Calls Tryd.prog 36 #[.agg #[.int .i64 r, .int .i64 q], .agg #[.int .i64 M.pr, .int .i64 M.pp]] W fun e w' => e = .returned (.int .i64 (cmpB r q M.pr M.pp)) ∧ Below w1.heap.size w1 w') := Lib.hid fun W hb =>
    (Compare_any r q M.pr M.pp W).mono fun e w' ⟨h1, h2⟩ => ⟨h1, hb.trans (h2.mono hb.size)⟩
  clear hm ha
  obtain ⟨k, hk⟩ : ∃ k, cmpB r q M.pr M.pp = k := ⟨_, rfl⟩
  rw [hk] at H39 hlt
  clear hk
  have HS : Hid (∀ W, Below w1.heap.size w1 W → (W.cell? ⟨w.heap.size, 0, none⟩ = some (.int .i64 r) ∧ W.cell? ⟨w.heap.size, 1, none⟩ = some (.int .i64 q)) ∧ (W.cell? ⟨p, 2, none⟩ = some (.int .i64 M.pr) ∧ W.cell? ⟨p, 3, none⟩ = some (.int .i64 M.pp))) := Lib.hid fun W hb =>
    ⟨HX.out W hb, (HQ.out W hb).cells.2.2.1, (HQ.out W hb).cells.2.2.2.1⟩
  go_enter Tryd.func24, Tryd.ntmps24
  go_wp2
  go_step3
  go_upto_region 5 with (first | (go_at_call 22; (with_reducible refine (H33.out _ (by with_reducible exact Below.refl _ _)).mono ?_); rintro e w2 ⟨rfl, hb2⟩; obtain ⟨y0, y1⟩ := HX.out _ hb2; clear hw1 x0 x1) | (go_at_call 34; (with_reducible refine (H37.out _ (by assumption)).mono ?_); rintro e w3 ⟨rfl, hb3⟩; obtain ⟨u0, u1⟩ := HX.out _ hb3; clear y0 y1) | (go_at_call 35; (with_reducible refine (H38.out _ (by assumption)).mono ?_); rintro e w' ⟨rfl, rfl⟩))
  have z0 := HS.out _ hb3
  clear u0 u1
  go_region_held_law (fun W => (W.cell? ⟨w.heap.size, 0, none⟩ = some (.int .i64 r) ∧ W.cell? ⟨w.heap.size, 1, none⟩ = some (.int .i64 q)) ∧ (W.cell? ⟨p, 2, none⟩ = some (.int .i64 M.pr) ∧ W.cell? ⟨p, 3, none⟩ = some (.int .i64 M.pp)))
    (first | with_reducible exact z0 | (refine HS.out _ ?_; (first | with_reducible assumption | with_reducible exact Below.drew (by assumption))))
    ((go_at_call 36; (with_reducible refine (H39.out _ (by with_reducible exact Below.drew (by assumption))).mono ?_); rintro e w4 ⟨rfl, hb4⟩; obtain ⟨v0, v1⟩ := HX.out _ hb4))
  all_goals
    obtain ⟨_, _, p2, p3, _, _, _, _, _, _⟩ := (HQ.out _ hb4).cells
    have g2 := (HQ.out _ hb4).free 2
    have g3 := (HQ.out _ hb4).free 3
    have HA := Lib.hid ((HQ.out _ hb4).prom r q)
    have HBB := Lib.hid (but2 (But.of_all (HB1.out.trans (hb4.mono HB1.out.size)) (Xp p)) (.int .i64 r) (.int .i64 q))
    have hs4 : p < w4.heap.size := Nat.lt_of_lt_of_le hl (HB1.out.trans (hb4.mono HB1.out.size)).size
    go_wp2_with (go_at_call 25; (with_reducible refine (HD.out _ HBB.out HA.out).mono ?_); rintro e w5 ⟨rfl, hR⟩)
    try rw [Exit.noGoto_ret]
    go_ret2
    exact ⟨rfl, _, HBB.out, HA.out, hR⟩
set_option maxRecDepth 100000 in
set_option maxHeartbeats 1000000 in
theorem Sm.ask_yes31 (r q least : Int) (A : Option Addr) (n c : Nat) (xs : List Bool) (w : World) (p : Nat) (M : AcM) (hp : AAt w p M) (hc : M.c ≠ 0) (hr : RowB w A n c xs) (hm : mayB M.c M.s r q = true) (ha : xs.all id = true) (hlt : ¬ cmpB r q M.pr M.pp < least) (x4 x5 x3 : Nat) (R : World → World → Prop)
    (hd : ∀ W, But (Xp p) w W → AAt W p (promM M r q) → Calls Tryd.prog 26 #[.pointer (some ⟨x4, 0, none⟩), .pointer (some ⟨x5, 0, none⟩), .pointer (some ⟨x3, 0, none⟩)] W fun e w' => e = .returned (.tuple #[]) ∧ R W w') :
    Calls Tryd.prog 24 #[.pointer (some ⟨p, 0, none⟩), .agg #[.int .i64 r, .int .i64 q], .int .i64 least, .func (.func 26) #[] #[.pointer (some ⟨x4, 0, none⟩), .pointer (some ⟨x5, 0, none⟩), .pointer (some ⟨x3, 0, none⟩)], .slice A n c] w fun e w' => e = .returned (.tuple #[.bool true, .int .i64 0]) ∧ ∃ W, But (Xp p) w W ∧ AAt W p (promM M r q) ∧ R W w' := by
  have hb1 : Below w.heap.size w (w.alloc (.cells #[.int .i64 r, .int .i64 q] 36)) := (Below.refl _ w).alloc (Nat.le_refl _) _
  have q1 := World.alloc_heap_new w (.cells #[.int .i64 r, .int .i64 q] 36)
  have hq := hp.keep hb1
  have hr1 := hr.keep hb1
  obtain ⟨w1, hw1⟩ : ∃ v, w.alloc (.cells #[.int .i64 r, .int .i64 q] 36) = v := ⟨_, rfl⟩
  rw [hw1] at hb1 q1 hq hr1
  have e1 : (M.c != 0) = true := by simpa using hc
  have H33 : Hid (∀ W, Below w1.heap.size w1 W → Calls Tryd.prog 22 #[.pointer (some ⟨p, 0, none⟩)] W fun e w' => e = .returned (.bool true) ∧ Below w1.heap.size w1 w') := Lib.hid fun W hb =>
    (there_any W p M (hq.keep hb)).mono fun e w' ⟨h1, h2⟩ => ⟨by rw [h1, e1], hb.trans (h2.mono hb.size)⟩
  have H37 : Hid (∀ W, Below w1.heap.size w1 W → Calls Tryd.prog 34 #[.pointer (some ⟨p, 0, none⟩), .agg #[.int .i64 r, .int .i64 q]] W fun e w' => e = .returned (.bool (mayB M.c M.s r q)) ∧ Below w1.heap.size w1 w') := Lib.hid fun W hb =>
    (may_any W p M (hq.keep hb) r q).mono fun e w' ⟨h1, h2⟩ => ⟨h1, hb.trans (h2.mono hb.size)⟩
  have H38 : Hid (∀ W, Below w1.heap.size w1 W → Calls Tryd.prog 35 #[.slice A n c] W fun e w' => e = .returned (.bool (xs.all id)) ∧ W = w') := Lib.hid fun W hb => all_any A n c xs W (hr1.keep hb)
  have HX : Hid (∀ W, Below w1.heap.size w1 W → W.cell? ⟨w.heap.size, 0, none⟩ = some (.int .i64 r) ∧ W.cell? ⟨w.heap.size, 1, none⟩ = some (.int .i64 q)) := Lib.hid fun W hb => (two ((hb.block _ (Array.getElem?_eq_some_iff.1 q1).1).trans q1)).1
  have HQ : Hid (∀ W, Below w1.heap.size w1 W → AAt W p M) := Lib.hid fun W hb => hq.keep hb
  obtain ⟨x0, x1⟩ := HX.out _ (Below.refl _ w1)
  have HB1 := Lib.hid hb1
  have hl := hp.lt
  clear hb1 q1 hq hr1 e1 hp hr hc
  have HD := Lib.hid hd
  clear hd
  rw [hm] at H37
  rw [ha] at H38
  have H39 : Hid (∀ W, Below w1.heap.size w1 W → Calls Tryd.prog 36 #[.agg #[.int .i64 r, .int .i64 q], .agg #[.int .i64 M.pr, .int .i64 M.pp]] W fun e w' => e = .returned (.int .i64 (cmpB r q M.pr M.pp)) ∧ Below w1.heap.size w1 w') := Lib.hid fun W hb =>
    (Compare_any r q M.pr M.pp W).mono fun e w' ⟨h1, h2⟩ => ⟨h1, hb.trans (h2.mono hb.size)⟩
  clear hm ha
  obtain ⟨k, hk⟩ : ∃ k, cmpB r q M.pr M.pp = k := ⟨_, rfl⟩
  rw [hk] at H39 hlt
  clear hk
  have HS : Hid (∀ W, Below w1.heap.size w1 W → (W.cell? ⟨w.heap.size, 0, none⟩ = some (.int .i64 r) ∧ W.cell? ⟨w.heap.size, 1, none⟩ = some (.int .i64 q)) ∧ (W.cell? ⟨p, 2, none⟩ = some (.int .i64 M.pr) ∧ W.cell? ⟨p, 3, none⟩ = some (.int .i64 M.pp))) := Lib.hid fun W hb =>
    ⟨HX.out W hb, (HQ.out W hb).cells.2.2.1, (HQ.out W hb).cells.2.2.2.1⟩
  go_enter Tryd.func24, Tryd.ntmps24
  go_wp2
  go_step3
  go_upto_region 5 with (first | (go_at_call 22; (with_reducible refine (H33.out _ (by with_reducible exact Below.refl _ _)).mono ?_); rintro e w2 ⟨rfl, hb2⟩; obtain ⟨y0, y1⟩ := HX.out _ hb2; clear hw1 x0 x1) | (go_at_call 34; (with_reducible refine (H37.out _ (by assumption)).mono ?_); rintro e w3 ⟨rfl, hb3⟩; obtain ⟨u0, u1⟩ := HX.out _ hb3; clear y0 y1) | (go_at_call 35; (with_reducible refine (H38.out _ (by assumption)).mono ?_); rintro e w' ⟨rfl, rfl⟩))
  have z0 := HS.out _ hb3
  clear u0 u1
  go_region_held_law (fun W => (W.cell? ⟨w.heap.size, 0, none⟩ = some (.int .i64 r) ∧ W.cell? ⟨w.heap.size, 1, none⟩ = some (.int .i64 q)) ∧ (W.cell? ⟨p, 2, none⟩ = some (.int .i64 M.pr) ∧ W.cell? ⟨p, 3, none⟩ = some (.int .i64 M.pp)))
    (first | with_reducible exact z0 | (refine HS.out _ ?_; (first | with_reducible assumption | with_reducible exact Below.drew (by assumption))))
    ((go_at_call 36; (with_reducible refine (H39.out _ (by with_reducible exact Below.drew (by assumption))).mono ?_); rintro e w4 ⟨rfl, hb4⟩; obtain ⟨v0, v1⟩ := HX.out _ hb4))
  all_goals
    obtain ⟨_, _, p2, p3, _, _, _, _, _, _⟩ := (HQ.out _ hb4).cells
    have g2 := (HQ.out _ hb4).free 2
    have g3 := (HQ.out _ hb4).free 3
    have HA := Lib.hid ((HQ.out _ hb4).prom r q)
    have HBB := Lib.hid (but2 (But.of_all (HB1.out.trans (hb4.mono HB1.out.size)) (Xp p)) (.int .i64 r) (.int .i64 q))
    have hs4 : p < w4.heap.size := Nat.lt_of_lt_of_le hl (HB1.out.trans (hb4.mono HB1.out.size)).size
    go_wp2_with (go_at_call 26; (with_reducible refine (HD.out _ HBB.out HA.out).mono ?_); rintro e w5 ⟨rfl, hR⟩)
    try rw [Exit.noGoto_ret]
    go_ret2
    exact ⟨rfl, _, HBB.out, HA.out, hR⟩
end Go.Proofs
