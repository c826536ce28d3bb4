/-
  acceptor: Accept. Conditions: as each theorem names them.
-/
import Derived.Test.YtamlacofmihldaaDoorAcI
namespace Go.Proofs
open Go Go.RowKit Sm Go.Lib
attribute [local go_sem] Oper.semAt_some
/-- is it accepted, where truths hold -/
def Sm.acOk (M : AcM) (r q : Int) (b : Bool) : Bool := mayB M.c M.s r q && b && !decide (cmpB r q M.pr M.pp < 0)
def Sm.acE (M : AcM) (r q : Int) (b : Bool) : Int := if (mayB M.c M.s r q && b) = true then 0 else 2
def Sm.acM (M : AcM) (r q k m n : Int) (t : ByteArray) (b : Bool) : AcM := if acOk M r q b then accM (promM M r q) r q k m n t else M
theorem Sm.ask31_any (r q k m n : Int) (t : ByteArray) (A : Option Addr) (N c : Nat) (b : Bool) (w : World) (p b3 b4 b5 : Nat) (M : AcM) (hp : AAt w p M) (hc : M.c ≠ 0) (ht : t.size ≤ 1000000) (hr : RowB w A N c [b]) (n3 : b3 ≠ p) (n4 : b4 ≠ p) (n5 : b5 ≠ p)
    (h3 : w.heap[b3]? = some (.cells #[.pointer (some ⟨p, 0, none⟩)] 29 (0, 0))) (h4 : w.heap[b4]? = some (.cells #[.int .i64 r, .int .i64 q] 36 (0, 0))) (h5 : w.heap[b5]? = some (.cells #[.int .i64 k, .int .i64 m, .int .i64 n, .string t] 24 (0, 0))) :
    Calls Tryd.prog 24 #[.pointer (some ⟨p, 0, none⟩), .agg #[.int .i64 r, .int .i64 q], .int .i64 0, .func (.func 26) #[] #[.pointer (some ⟨b4, 0, none⟩), .pointer (some ⟨b5, 0, none⟩), .pointer (some ⟨b3, 0, none⟩)], .slice A N c] w
      fun e w' => e = .returned (.tuple #[.bool (acOk M r q b), .int .i64 (acE M r q b)]) ∧ AAt w' p (acM M r q k m n t b) ∧ But (Xp p) w w' := by
  unfold acM acE acOk
  cases hm : mayB M.c M.s r q with
  | false => exact (ask_arg1 r q 0 _ A N c [b] w p M hp hc hr hm).mono fun e w' ⟨h1, h2⟩ => ⟨by rw [h1]; simp, by simpa using hp.keep h2, But.of_all h2 _⟩
  | true =>
    cases b with
    | false => exact (ask_arg2 r q 0 _ A N c [false] w p M hp hc hr hm rfl).mono fun e w' ⟨h1, h2⟩ => ⟨by rw [h1]; simp, by simpa using hp.keep h2, But.of_all h2 _⟩
    | true =>
      by_cases hlt : cmpB r q M.pr M.pp < 0
      · exact (ask_low r q 0 _ A N c [true] w p M hp hc hr hm rfl hlt).mono fun e w' ⟨h1, h2⟩ => ⟨by rw [h1]; simp [hlt], by simpa [hlt] using hp.keep h2, But.of_all h2 _⟩
      · refine (ask_yes31 r q 0 A N c [true] w p M hp hc hr hm rfl hlt b4 b5 b3 (fun W w' => AAt w' p (accM (promM M r q) r q k m n t) ∧ But (Xp p) W w') (fun W hB hA => do31 W b4 b5 b3 p (promM M r q) r q k m n t ht hA n3 n4 n5 (cell_of_heap (hB.box h3 n3) 0) (hB.box h4 n4) (hB.box h5 n5))).mono ?_
        rintro e w' ⟨h1, W, hB, _, hA, hB2⟩
        exact ⟨by rw [h1]; simp [hlt], by simpa [hlt] using hA, hB.trans hB2 (fun _ _ e => e)⟩
theorem Sm.three_new (w : World) (a b c : Obj) : ∃ w3, ((w.alloc a).alloc b).alloc c = w3 ∧ w3.heap[w.heap.size]? = some a ∧ w3.heap[w.heap.size + 1]? = some b ∧ w3.heap[w.heap.size + 2]? = some c ∧ Below w.heap.size w w3 ∧ w.heap.size + 3 ≤ w3.heap.size := by
  refine ⟨_, rfl, ?_, ?_, ?_, ?_, ?_⟩
  · exact (Below.heap_alloc _ _ _ (by simp <;> omega)).trans ((Below.heap_alloc _ _ _ (by simp)).trans (World.alloc_heap_new w a))
  · refine (Below.heap_alloc _ _ _ (by simp <;> omega)).trans ?_
    have := World.alloc_heap_new (w.alloc a) b
    rwa [World.size_alloc] at this
  · have := World.alloc_heap_new ((w.alloc a).alloc b) c
    rwa [World.size_alloc, World.size_alloc] at this
  · exact (((Below.refl _ w).alloc (Nat.le_refl _) _).alloc (by simp) _).alloc (by simp; omega) _
  · simp
set_option maxRecDepth 100000 in
set_option maxHeartbeats 1000000 in
theorem Sm.accept_any (r q k m n : Int) (t : ByteArray) (w : World) (p : Nat) (M : AcM) (hp : AAt w p M) (hc : M.c ≠ 0) (hk : I64 k) (ht : t.size ≤ 1000000) (hL : LaysT w) :
    Calls Tryd.prog 15 #[.pointer (some ⟨p, 0, none⟩), .agg #[.int .i64 r, .int .i64 q], .agg #[.int .i64 k, .int .i64 m, .int .i64 n, .string t]] w fun e w' => e = .returned (.tuple #[.bool (acOk M r q (entB k m n t)), .int .i64 (acE M r q (entB k m n t))]) ∧ AAt w' p (acM M r q k m n t (entB k m n t)) ∧ But (Xp p) w w' := by
  obtain ⟨w3, hw3, k3, k4, k5, hb3, hz3⟩ := three_new w (.cells #[.pointer (some ⟨p, 0, none⟩)] 29) (.cells #[.int .i64 r, .int .i64 q] 36) (.cells #[.int .i64 k, .int .i64 m, .int .i64 n, .string t] 24)
  have hL3 := hL.keep hb3
  have HR : Hid (∀ W, Below w3.heap.size w3 W → Calls Tryd.prog 7 #[.agg #[.int .i64 k, .int .i64 m, .int .i64 n, .string t]] W fun e w' => e = .returned (.bool (entB k m n t)) ∧ Below w3.heap.size w3 w') := Lib.hid fun W hb =>
    (right_any k m n t W hk ht (hL3.keep hb)).mono fun e w' ⟨h1, h2⟩ => ⟨h1, hb.trans (h2.mono hb.size)⟩
  obtain ⟨b, hb⟩ : ∃ b, entB k m n t = b := ⟨_, rfl⟩
  rw [hb] at HR ⊢
  clear hb
  have hl := hp.lt
  have hq := hp.keep hb3
  have HASK : Hid (∀ W, Below w3.heap.size w3 W → Calls Tryd.prog 24 #[.pointer (some ⟨p, 0, none⟩), .agg #[.int .i64 r, .int .i64 q], .int .i64 0, .func (.func 26) #[] #[.pointer (some ⟨w.heap.size + 1, 0, none⟩), .pointer (some ⟨w.heap.size + 2, 0, none⟩), .pointer (some ⟨w.heap.size, 0, none⟩)], .slice (some ⟨W.heap.size, 0, none⟩) 1 1] (W.alloc (.cells #[.bool b] 4))
      fun e w' => e = .returned (.tuple #[.bool (acOk M r q b), .int .i64 (acE M r q b)]) ∧ AAt w' p (acM M r q k m n t b) ∧ But (Xp p) w3 w') := Lib.hid fun W hb => by
    have hb' : Below w3.heap.size w3 (W.alloc (.cells #[.bool b] 4)) := hb.alloc hb.size _
    refine (ask31_any r q k m n t _ 1 1 b _ p w.heap.size (w.heap.size + 1) (w.heap.size + 2) M (hq.keep hb') hc ht (row1 W b 4) (by omega) (by omega) (by omega) ((hb'.block _ (by omega)).trans k3) ((hb'.block _ (by omega)).trans k4) ((hb'.block _ (by omega)).trans k5)).mono ?_
    rintro e w' ⟨h1, h2, h3⟩
    exact ⟨h1, h2, (But.of_all hb' _).trans h3 (fun _ _ e => e)⟩
  clear hq
  have HS : Hid (∀ W, But (Xp p) w3 W → W.cell? ⟨w.heap.size, 0, none⟩ = some (.pointer (some ⟨p, 0, none⟩)) ∧ (W.cell? ⟨w.heap.size + 1, 0, none⟩ = some (.int .i64 r) ∧ W.cell? ⟨w.heap.size + 1, 1, none⟩ = some (.int .i64 q)) ∧ (W.cell? ⟨w.heap.size + 2, 0, none⟩ = some (.int .i64 k) ∧ W.cell? ⟨w.heap.size + 2, 1, none⟩ = some (.int .i64 m) ∧ W.cell? ⟨w.heap.size + 2, 2, none⟩ = some (.int .i64 n) ∧ W.cell? ⟨w.heap.size + 2, 3, none⟩ = some (.string t))) := Lib.hid fun W hb =>
    ⟨cell_of_heap (hb.box k3 (by unfold Xp; omega)) 0, (two (hb.box k4 (by unfold Xp; omega))).1, (four (hb.box k5 (by unfold Xp; omega))).1⟩
  have z0 := HS.out _ (But.refl _ _)
  have HB3 := Lib.hid hb3
  clear k3 k4 k5 hb3 hL hL3 hp
  go_enter Tryd.func15, Tryd.ntmps15
  go_upto_region 2 with fail
  clear hw3
  go_region_held_law (fun W => W.cell? ⟨w.heap.size, 0, none⟩ = some (.pointer (some ⟨p, 0, none⟩)) ∧ (W.cell? ⟨w.heap.size + 1, 0, none⟩ = some (.int .i64 r) ∧ W.cell? ⟨w.heap.size + 1, 1, none⟩ = some (.int .i64 q)) ∧ (W.cell? ⟨w.heap.size + 2, 0, none⟩ = some (.int .i64 k) ∧ W.cell? ⟨w.heap.size + 2, 1, none⟩ = some (.int .i64 m) ∧ W.cell? ⟨w.heap.size + 2, 2, none⟩ = some (.int .i64 n) ∧ W.cell? ⟨w.heap.size + 2, 3, none⟩ = some (.string t)))
    (first | with_reducible exact z0 | (refine HS.out _ ?_; (first | with_reducible exact (But.refl _ _).drew | with_reducible exact HB5.out | with_reducible exact (But.of_all (by assumption) _).alloc _ | with_reducible exact But.of_all (by assumption) _)))
    (first
      | (go_at_call 7; (with_reducible refine (HR.out _ (by with_reducible exact (Below.refl _ _).drew)).mono ?_); clear HR; rintro e w4 ⟨rfl, hb4⟩; have hs4 := hb4.size; obtain ⟨y0, ⟨y1, y2⟩, y3, y4, y5, y6⟩ := HS.out _ ((But.of_all hb4 _).alloc (.cells #[.bool b] 4)))
      | (go_at_call 24; (with_reducible refine (HASK.out _ hb4).mono ?_); clear HASK; rintro e w5 ⟨rfl, hA, hB5⟩; have HB5 := Lib.hid hB5; have HA := Lib.hid hA; clear hA hB5))
  all_goals
    go_wp2
    go_ret2
    exact ⟨rfl, HA.out, (But.of_all HB3.out _).trans HB5.out (fun _ _ e => e)⟩
set_option maxRecDepth 100000 in
set_option maxHeartbeats 1000000 in
theorem Sm.accept_no (r q k m n : Int) (t : ByteArray) (w : World) (hk : I64 k) (ht : t.size ≤ 1000000) (hL : LaysT w) :
    Calls Tryd.prog 15 #[.pointer none, .agg #[.int .i64 r, .int .i64 q], .agg #[.int .i64 k, .int .i64 m, .int .i64 n, .string t]] w fun e w' => e = .returned (.tuple #[.bool false, .int .i64 1]) ∧ Below w.heap.size w w' := by
  obtain ⟨w3, hw3, k3, k4, k5, hb3, hz3⟩ := three_new w (.cells #[.pointer none] 29) (.cells #[.int .i64 r, .int .i64 q] 36) (.cells #[.int .i64 k, .int .i64 m, .int .i64 n, .string t] 24)
  have hL3 := hL.keep hb3
  have HR : Hid (∀ W, Below w3.heap.size w3 W → Calls Tryd.prog 7 #[.agg #[.int .i64 k, .int .i64 m, .int .i64 n, .string t]] W fun e w' => e = .returned (.bool (entB k m n t)) ∧ Below w3.heap.size w3 w') := Lib.hid fun W hb =>
    (right_any k m n t W hk ht (hL3.keep hb)).mono fun e w' ⟨h1, h2⟩ => ⟨h1, hb.trans (h2.mono hb.size)⟩
  obtain ⟨b, hb⟩ : ∃ b, entB k m n t = b := ⟨_, rfl⟩
  rw [hb] at HR
  clear hb
  have HASK : Hid (∀ W, Below w3.heap.size w3 W → Calls Tryd.prog 24 #[.pointer none, .agg #[.int .i64 r, .int .i64 q], .int .i64 0, .func (.func 26) #[] #[.pointer (some ⟨w.heap.size + 1, 0, none⟩), .pointer (some ⟨w.heap.size + 2, 0, none⟩), .pointer (some ⟨w.heap.size, 0, none⟩)], .slice (some ⟨W.heap.size, 0, none⟩) 1 1] (W.alloc (.cells #[.bool b] 4))
      fun e w' => e = .returned (.tuple #[.bool false, .int .i64 1]) ∧ Below w3.heap.size w3 w' ∧ But (Xp (w.heap.size + 3)) w3 w') := Lib.hid fun W hb => by
    have hb' : Below w3.heap.size w3 (W.alloc (.cells #[.bool b] 4)) := hb.alloc hb.size _
    exact (ask_no r q 0 _ _ _).mono fun e w' ⟨h1, h2⟩ => ⟨h1, hb'.trans (h2.mono hb'.size), But.of_all (hb'.trans (h2.mono hb'.size)) _⟩
  have HS : Hid (∀ W, But (Xp (w.heap.size + 3)) w3 W → W.cell? ⟨w.heap.size, 0, none⟩ = some (.pointer none) ∧ (W.cell? ⟨w.heap.size + 1, 0, none⟩ = some (.int .i64 r) ∧ W.cell? ⟨w.heap.size + 1, 1, none⟩ = some (.int .i64 q)) ∧ (W.cell? ⟨w.heap.size + 2, 0, none⟩ = some (.int .i64 k) ∧ W.cell? ⟨w.heap.size + 2, 1, none⟩ = some (.int .i64 m) ∧ W.cell? ⟨w.heap.size + 2, 2, none⟩ = some (.int .i64 n) ∧ W.cell? ⟨w.heap.size + 2, 3, none⟩ = some (.string t))) := Lib.hid fun W hb =>
    ⟨cell_of_heap (hb.box k3 (by unfold Xp; omega)) 0, (two (hb.box k4 (by unfold Xp; omega))).1, (four (hb.box k5 (by unfold Xp; omega))).1⟩
  have z0 := HS.out _ (But.refl _ _)
  have HB3 := Lib.hid hb3
  clear k3 k4 k5 hb3 hL hL3
  go_enter Tryd.func15, Tryd.ntmps15
  go_upto_region 2 with fail
  clear hw3
  go_region_held_law (fun W => W.cell? ⟨w.heap.size, 0, none⟩ = some (.pointer none) ∧ (W.cell? ⟨w.heap.size + 1, 0, none⟩ = some (.int .i64 r) ∧ W.cell? ⟨w.heap.size + 1, 1, none⟩ = some (.int .i64 q)) ∧ (W.cell? ⟨w.heap.size + 2, 0, none⟩ = some (.int .i64 k) ∧ W.cell? ⟨w.heap.size + 2, 1, none⟩ = some (.int .i64 m) ∧ W.cell? ⟨w.heap.size + 2, 2, none⟩ = some (.int .i64 n) ∧ W.cell? ⟨w.heap.size + 2, 3, none⟩ = some (.string t)))
    (first | with_reducible exact z0 | (refine HS.out _ ?_; (first | with_reducible exact (But.refl _ _).drew | with_reducible exact HB5.out | with_reducible exact (But.of_all (by assumption) _).alloc _ | with_reducible exact But.of_all (by assumption) _)))
    (first
      | (go_at_call 7; (with_reducible refine (HR.out _ (by with_reducible exact (Below.refl _ _).drew)).mono ?_); clear HR; rintro e w4 ⟨rfl, hb4⟩; have hs4 := hb4.size; obtain ⟨y0, ⟨y1, y2⟩, y3, y4, y5, y6⟩ := HS.out _ ((But.of_all hb4 _).alloc (.cells #[.bool b] 4)))
      | (go_at_call 24; (with_reducible refine (HASK.out _ hb4).mono ?_); clear HASK; rintro e w5 ⟨rfl, hA, hB5⟩; have HB5 := Lib.hid hB5; have HA := Lib.hid hA; clear hA hB5))
  all_goals
    go_wp2
    go_ret2
    exact ⟨rfl, HB3.out.trans (HA.out.mono HB3.out.size)⟩
set_option maxRecDepth 100000 in
set_option maxHeartbeats 1000000 in
theorem Sm.accept_zero (r q k m n : Int) (t : ByteArray) (w : World) (p : Nat) (M : AcM) (hp : AAt w p M) (hc : M.c = 0) (hk : I64 k) (ht : t.size ≤ 1000000) (hL : LaysT w) :
    Calls Tryd.prog 15 #[.pointer (some ⟨p, 0, none⟩), .agg #[.int .i64 r, .int .i64 q], .agg #[.int .i64 k, .int .i64 m, .int .i64 n, .string t]] w fun e w' => e = .returned (.tuple #[.bool false, .int .i64 1]) ∧ Below w.heap.size w w' := by
  obtain ⟨w3, hw3, k3, k4, k5, hb3, hz3⟩ := three_new w (.cells #[.pointer (some ⟨p, 0, none⟩)] 29) (.cells #[.int .i64 r, .int .i64 q] 36) (.cells #[.int .i64 k, .int .i64 m, .int .i64 n, .string t] 24)
  have hL3 := hL.keep hb3
  have HR : Hid (∀ W, Below w3.heap.size w3 W → Calls Tryd.prog 7 #[.agg #[.int .i64 k, .int .i64 m, .int .i64 n, .string t]] W fun e w' => e = .returned (.bool (entB k m n t)) ∧ Below w3.heap.size w3 w') := Lib.hid fun W hb =>
    (right_any k m n t W hk ht (hL3.keep hb)).mono fun e w' ⟨h1, h2⟩ => ⟨h1, hb.trans (h2.mono hb.size)⟩
  obtain ⟨b, hb⟩ : ∃ b, entB k m n t = b := ⟨_, rfl⟩
  rw [hb] at HR
  clear hb
  have hl := hp.lt
  have hq := hp.keep hb3
  have HASK : Hid (∀ W, Below w3.heap.size w3 W → Calls Tryd.prog 24 #[.pointer (some ⟨p, 0, none⟩), .agg #[.int .i64 r, .int .i64 q], .int .i64 0, .func (.func 26) #[] #[.pointer (some ⟨w.heap.size + 1, 0, none⟩), .pointer (some ⟨w.heap.size + 2, 0, none⟩), .pointer (some ⟨w.heap.size, 0, none⟩)], .slice (some ⟨W.heap.size, 0, none⟩) 1 1] (W.alloc (.cells #[.bool b] 4))
      fun e w' => e = .returned (.tuple #[.bool false, .int .i64 1]) ∧ Below w3.heap.size w3 w' ∧ But (Xp p) w3 w') := Lib.hid fun W hb => by
    have hb' : Below w3.heap.size w3 (W.alloc (.cells #[.bool b] 4)) := hb.alloc hb.size _
    exact (ask_zero r q 0 _ _ _ p M (hq.keep hb') hc).mono fun e w' ⟨h1, h2⟩ => ⟨h1, hb'.trans (h2.mono hb'.size), But.of_all (hb'.trans (h2.mono hb'.size)) _⟩
  have HS : Hid (∀ W, But (Xp p) w3 W → W.cell? ⟨w.heap.size, 0, none⟩ = some (.pointer (some ⟨p, 0, none⟩)) ∧ (W.cell? ⟨w.heap.size + 1, 0, none⟩ = some (.int .i64 r) ∧ W.cell? ⟨w.heap.size + 1, 1, none⟩ = some (.int .i64 q)) ∧ (W.cell? ⟨w.heap.size + 2, 0, none⟩ = some (.int .i64 k) ∧ W.cell? ⟨w.heap.size + 2, 1, none⟩ = some (.int .i64 m) ∧ W.cell? ⟨w.heap.size + 2, 2, none⟩ = some (.int .i64 n) ∧ W.cell? ⟨w.heap.size + 2, 3, none⟩ = some (.string t))) := Lib.hid fun W hb =>
    ⟨cell_of_heap (hb.box k3 (by unfold Xp; omega)) 0, (two (hb.box k4 (by unfold Xp; omega))).1, (four (hb.box k5 (by unfold Xp; omega))).1⟩
  have z0 := HS.out _ (But.refl _ _)
  have HB3 := Lib.hid hb3
  clear k3 k4 k5 hb3 hL hL3 hp hq
  go_enter Tryd.func15, Tryd.ntmps15
  go_upto_region 2 with fail
  clear hw3
  go_region_held_law (fun W => W.cell? ⟨w.heap.size, 0, none⟩ = some (.pointer (some ⟨p, 0, none⟩)) ∧ (W.cell? ⟨w.heap.size + 1, 0, none⟩ = some (.int .i64 r) ∧ W.cell? ⟨w.heap.size + 1, 1, none⟩ = some (.int .i64 q)) ∧ (W.cell? ⟨w.heap.size + 2, 0, none⟩ = some (.int .i64 k) ∧ W.cell? ⟨w.heap.size + 2, 1, none⟩ = some (.int .i64 m) ∧ W.cell? ⟨w.heap.size + 2, 2, none⟩ = some (.int .i64 n) ∧ W.cell? ⟨w.heap.size + 2, 3, none⟩ = some (.string t)))
    (first | with_reducible exact z0 | (refine HS.out _ ?_; (first | with_reducible exact (But.refl _ _).drew | with_reducible exact HB5.out | with_reducible exact (But.of_all (by assumption) _).alloc _ | with_reducible exact But.of_all (by assumption) _)))
    (first
      | (go_at_call 7; (with_reducible refine (HR.out _ (by with_reducible exact (Below.refl _ _).drew)).mono ?_); clear HR; rintro e w4 ⟨rfl, hb4⟩; have hs4 := hb4.size; obtain ⟨y0, ⟨y1, y2⟩, y3, y4, y5, y6⟩ := HS.out _ ((But.of_all hb4 _).alloc (.cells #[.bool b] 4)))
      | (go_at_call 24; (with_reducible refine (HASK.out _ hb4).mono ?_); clear HASK; rintro e w5 ⟨rfl, hA, hB5⟩; have HB5 := Lib.hid hB5; have HA := Lib.hid hA; clear hA hB5))
  all_goals
    go_wp2
    go_ret2
    exact ⟨rfl, HB3.out.trans (HA.out.mono HB3.out.size)⟩
end Go.Proofs
