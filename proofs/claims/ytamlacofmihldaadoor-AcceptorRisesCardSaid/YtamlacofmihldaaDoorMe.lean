/-
  acceptor: a call by both: they tell the same. acceptor: the chapter's rows: works. Condition: the library's two tables of UTF-8 lie as they are laid. acceptor: calls that came in; few. Conditions: as each theorem names them.
-/
import Derived.Test.YtamlacofmihldaaDoorAcS
namespace Go.Proofs
open Go Go.RowKit Sm Go.Lib
attribute [local go_sem] Oper.semAt_some
theorem Sm.seven {w : World} {p : Nat} {a0 a1 a2 a3 a4 a5 a6 : Value} {t : TypeId} {fr : Nat × Nat} (h : w.heap[p]? = some (.cells #[a0, a1, a2, a3, a4, a5, a6] t fr)) :
    w.cell? ⟨p, 0, none⟩ = some a0 ∧ w.cell? ⟨p, 1, none⟩ = some a1 ∧ w.cell? ⟨p, 2, none⟩ = some a2 ∧ w.cell? ⟨p, 3, none⟩ = some a3 ∧ w.cell? ⟨p, 4, none⟩ = some a4 ∧ w.cell? ⟨p, 5, none⟩ = some a5 ∧ w.cell? ⟨p, 6, none⟩ = some a6 :=
  ⟨cell_of_heap h 0, cell_of_heap h 1, cell_of_heap h 2, cell_of_heap h 3, cell_of_heap h 4, cell_of_heap h 5, cell_of_heap h 6⟩
/-- what a call makes of an acceptor -/
def Sm.stM (M : AcM) (x r q k m n : Int) (t : ByteArray) : AcM := if x = 0 then prM M r q else acM M r q k m n t (entB k m n t)
theorem Sm.LaysT.but {w w' : World} {p : Nat} (h : LaysT w) (hb : But (Xp p) w w') (hp : 3 ≤ p) : LaysT w' := by
  have hs := h.size
  have k : ∀ b o, b < 3 → w'.cell? ⟨b, o, none⟩ = w.cell? ⟨b, o, none⟩ := fun b o hlt => hb.cell (p := ⟨b, o, none⟩) (by show b < _; omega) (by show ¬ (b = p); omega)
  exact ⟨Nat.le_trans hs hb.size, ⟨fun c hc => (k 0 c (by omega)).trans (h.tabs.1 c hc), fun i hi => ⟨(k 1 _ (by omega)).trans (h.tabs.2 i hi).1, (k 1 _ (by omega)).trans (h.tabs.2 i hi).2⟩⟩⟩
end Go.Proofs
namespace Go.Proofs
open Go Go.RowKit Sm Go.Lib
attribute [local go_sem] Oper.semAt_some
def Sm.wM0 : AcM := newM 3 1
def Sm.wM1 : AcM := ⟨3, 1, 0, 1, 0, 1, 1, 0, 0, ⟨#[]⟩⟩
def Sm.wM2 : AcM := ⟨3, 1, 1, 0, 0, 1, 1, 0, 0, ⟨#[]⟩⟩
def Sm.wM3 : AcM := ⟨3, 1, 2, 2, 2, 2, 1, 0, 0, ⟨#[]⟩⟩
theorem Sm.wE : entB 1 0 0 ⟨#[]⟩ = true := by decide +kernel
/-- asked to accept nothing, told from a base -/
theorem Sm.wAcc (M N : AcM) (r q : Int) (b : Bool) (E : Int) (h1 : acM M r q 1 0 0 ⟨#[]⟩ true = N) (h2 : acOk M r q true = b) (h3 : acE M r q true = E) (w4 : World) (p : Nat) (hp : 3 ≤ p) (hL : LaysT w4) (hc : M.c ≠ 0) :
    ∀ W, But (Xp p) w4 W → AAt W p M → Calls Tryd.prog 15 #[.pointer (some ⟨p, 0, none⟩), .agg #[.int .i64 r, .int .i64 q], .agg #[.int .i64 1, .int .i64 0, .int .i64 0, .string ⟨#[]⟩]] W fun e w' => e = .returned (.tuple #[.bool b, .int .i64 E]) ∧ AAt w' p N ∧ But (Xp p) w4 w' := fun W hB hA => by
  refine (accept_any r q 1 0 0 ⟨#[]⟩ W p M hA hc (by unfold I64; omega) (by decide) (hL.but hB hp)).mono ?_
  rintro e w' ⟨e1, e2, e3⟩
  rw [wE] at e1 e2
  rw [h2, h3] at e1
  rw [h1] at e2
  exact ⟨e1, e2, hB.trans e3 (fun _ _ e => e)⟩
theorem Sm.wPro (M N : AcM) (r q : Int) (b : Bool) (E : Int) (v : Value) (h1 : prM M r q = N) (h2 : prOk M r q = b) (h3 : prE M r q = E) (h4 : acVal b M = v) (w4 : World) (p : Nat) (ht : M.t.size ≤ 1000000) (hc : M.c ≠ 0) :
    ∀ W, But (Xp p) w4 W → AAt W p M → Calls Tryd.prog 14 #[.pointer (some ⟨p, 0, none⟩), .agg #[.int .i64 r, .int .i64 q]] W fun e w' => e = .returned (.tuple #[v, .bool b, .int .i64 E]) ∧ AAt w' p N ∧ But (Xp p) w4 w' := fun W hB hA => by
  refine (promise_any r q W p M hA ht hc).mono ?_
  rintro e w' ⟨e1, e2, e3⟩
  rw [h2, h3, h4] at e1
  rw [h1] at e2
  exact ⟨e1, e2, hB.trans e3 (fun _ _ e => e)⟩
set_option maxRecDepth 100000 in
set_option maxHeartbeats 4000000 in
theorem Sm.works_any (w : World) (hL : LaysT w) : Calls Tryd.prog 6 #[] w fun e w' => e = .returned (.bool true) ∧ Below w.heap.size w w' := by
  have hb1 : Below w.heap.size w (w.alloc (.cells #[.int .i64 1, .int .i64 0, .int .i64 0, .string ⟨#[]⟩] 24)) := (Below.refl _ w).alloc (Nat.le_refl _) _
  have q1 := World.alloc_heap_new w (.cells #[.int .i64 1, .int .i64 0, .int .i64 0, .string ⟨#[]⟩] 24)
  obtain ⟨w1, hw1⟩ : ∃ v, w.alloc (.cells #[.int .i64 1, .int .i64 0, .int .i64 0, .string ⟨#[]⟩] 24) = v := ⟨_, rfl⟩
  rw [hw1] at hb1 q1
  have hs := hL.size
  have HN : Hid (∀ W, Calls Tryd.prog 10 #[.int .i64 3, .int .i64 1] W fun e w' => ∃ p, e = .returned (.tuple #[.pointer (some ⟨p, 0, none⟩), .int .i64 0]) ∧ W.heap.size ≤ p ∧ AAt w' p wM0 ∧ Below W.heap.size W w') := Lib.hid fun W => new_yes 3 1 W (by decide) (by decide)
  obtain ⟨z0, z1, z2, z3⟩ := (four q1).1
  have hl1 := (Array.getElem?_eq_some_iff.1 q1).1
  have HQ := Lib.hid q1
  have HB1 := Lib.hid hb1
  have HL := Lib.hid (hL.keep hb1)
  have HW1 := Lib.hid hw1
  clear hb1 q1 hL hw1 z0 z1 z2 z3
  go_enter Tryd.func6, Tryd.ntmps6
  go_upto_region 2 with fail
  rw [HW1.out]
  obtain ⟨z0, z1, z2, z3⟩ := (four HQ.out).1
  go_upto_region 3 with (go_at_call 10; (with_reducible refine (HN.out _).mono ?_); rintro e w2 ⟨p, rfl, hp, hA2, hb2⟩)
  have hs2 := hb2.size
  have HC2 := Lib.hid (wAcc wM0 wM1 0 1 true 0 (sameM_eq.1 (by decide +kernel)) (by decide +kernel) (by decide +kernel) w2 p (by have := HB1.out.size; omega) (HL.out.keep hb2) (by decide))
  have HC3 := Lib.hid (wPro wM1 wM2 1 0 true 0 (.agg #[.int .i64 0, .int .i64 1, .int .i64 1, .int .i64 0, .int .i64 0, .string ⟨#[]⟩]) (sameM_eq.1 (by decide +kernel)) (by decide +kernel) (by decide +kernel) rfl w2 p (by decide) (by decide))
  have q2 := (hb2.block _ hl1).trans HQ.out
  have HB2 := Lib.hid hb2
  have HL2 := Lib.hid (HL.out.keep hb2)
  have HQ2 : Hid (∀ W, But (Xp p) w2 W → W.heap[w.heap.size]? = some (.cells #[.int .i64 1, .int .i64 0, .int .i64 0, .string ⟨#[]⟩] 24 (0, 0))) := Lib.hid fun W hB => hB.box q2 (by show ¬ (w.heap.size = p); omega)
  obtain ⟨y0, y1, y2, y3⟩ := (four q2).1
  clear hb2 q2 HW1 z0 z1 z2 z3 HN HQ
  have HA2 := Lib.hid hA2
  clear hA2
  go_upto_region 4 with (go_at_call 15; (with_reducible refine (HC2.out _ (But.refl _ _) HA2.out).mono ?_); rintro e w3 ⟨rfl, hA3, hB3⟩)
  go_upto_region 5 with (go_at_call 14; (with_reducible refine (HC3.out _ hB3 hA3).mono ?_); clear hB3 hA3; rintro e w4 ⟨rfl, hA4, hB4⟩)
  have q5 := World.alloc_heap_new w4 (.cells #[.int .i64 0, .int .i64 1, .int .i64 1, .int .i64 0, .int .i64 0, .string ⟨#[]⟩] 39)
  have hs4 : w2.heap.size ≤ w4.heap.size := hB4.size
  have q6 := (Below.heap_alloc w4 (.cells #[.int .i64 0, .int .i64 1, .int .i64 1, .int .i64 0, .int .i64 0, .string ⟨#[]⟩] 39) w.heap.size (by omega)).trans (HQ2.out _ hB4)
  have q7 : AAt (w4.alloc (.cells #[.int .i64 0, .int .i64 1, .int .i64 1, .int .i64 0, .int .i64 0, .string ⟨#[]⟩] 39)) p wM2 := (Below.heap_alloc w4 (.cells #[.int .i64 0, .int .i64 1, .int .i64 1, .int .i64 0, .int .i64 0, .string ⟨#[]⟩] 39) p hA4.lt).trans hA4
  have hB5 := hB4.alloc (.cells #[.int .i64 0, .int .i64 1, .int .i64 1, .int .i64 0, .int .i64 0, .string ⟨#[]⟩] 39)
  have hpl : p < w4.heap.size := hA4.lt
  obtain ⟨w5, hw5⟩ : ∃ v, w4.alloc (.cells #[.int .i64 0, .int .i64 1, .int .i64 1, .int .i64 0, .int .i64 0, .string ⟨#[]⟩] 39) = v := ⟨_, rfl⟩
  rw [hw5] at q5 q6 q7 hB5 ⊢
  clear hw5 hA4 hB4 y0 y1 y2 y3
  have h3p : 3 ≤ p := by have := HB1.out.size; omega
  have HL5 := Lib.hid (HL2.out.but hB5 h3p)
  have HC4 := Lib.hid (wAcc wM2 wM2 0 1 false 0 (sameM_eq.1 (by decide +kernel)) (by decide +kernel) (by decide +kernel) w5 p h3p HL5.out (by decide))
  have HC5 := Lib.hid (wPro wM2 wM2 1 0 false 0 (.agg #[.int .i64 0, .int .i64 0, .int .i64 0, .int .i64 0, .int .i64 0, .string ⟨#[]⟩]) (sameM_eq.1 (by decide +kernel)) (by decide +kernel) (by decide +kernel) rfl w5 p (by decide) (by decide))
  have HC6 := Lib.hid (wPro wM2 wM2 0 1 false 2 (.agg #[.int .i64 0, .int .i64 0, .int .i64 0, .int .i64 0, .int .i64 0, .string ⟨#[]⟩]) (sameM_eq.1 (by decide +kernel)) (by decide +kernel) (by decide +kernel) rfl w5 p (by decide) (by decide))
  have HC7 := Lib.hid (wAcc wM2 wM2 0 2 false 2 (sameM_eq.1 (by decide +kernel)) (by decide +kernel) (by decide +kernel) w5 p h3p HL5.out (by decide))
  have HC8 := Lib.hid (wAcc wM2 wM3 2 2 true 0 (sameM_eq.1 (by decide +kernel)) (by decide +kernel) (by decide +kernel) w5 p h3p HL5.out (by decide))
  have HB5 := Lib.hid (HB1.out.trans ((HB2.out.trans (hB5.to_below (n := w1.heap.size) hs2 (fun b e => by rw [show b = p from e]; exact hp))).mono HB1.out.size))
  have HQ5 : Hid (∀ W, But (Xp p) w5 W → W.heap[w4.heap.size]? = some (.cells #[.int .i64 0, .int .i64 1, .int .i64 1, .int .i64 0, .int .i64 0, .string ⟨#[]⟩] 39 (0, 0)) ∧ W.heap[w.heap.size]? = some (.cells #[.int .i64 1, .int .i64 0, .int .i64 0, .string ⟨#[]⟩] 24 (0, 0))) := Lib.hid fun W hB =>
    ⟨hB.box q5 (by show ¬ (w4.heap.size = p); omega), hB.box q6 (by show ¬ (w.heap.size = p); omega)⟩
  obtain ⟨y0, y1, y2, y3⟩ := (four q6).1
  have hA5 := Lib.hid q7
  clear q5 q6 q7 hB5 HC2 HC3 HA2 HL HL2
  go_upto_region 6 with (go_at_call 15; (with_reducible refine (HC4.out _ (But.refl _ _) hA5.out).mono ?_); rintro e w6 ⟨rfl, hA, hB⟩; have hA6 := Lib.hid hA; have hB6 := Lib.hid hB; clear hA hB y0 y1 y2 y3; obtain ⟨y0, y1, y2, y3⟩ := (four (HQ5.out _ hB6.out).2).1)
  go_upto_region 7 with (go_at_call 14; (with_reducible refine (HC5.out _ hB6.out hA6.out).mono ?_); rintro e w7 ⟨rfl, hA, hB⟩; have hA7 := Lib.hid hA; have hB7 := Lib.hid hB; clear hA hB y0 y1 y2 y3; obtain ⟨y0, y1, y2, y3⟩ := (four (HQ5.out _ hB7.out).2).1)
  have hBx := hB7.out.alloc (.cells #[.int .i64 0, .int .i64 0, .int .i64 0, .int .i64 0, .int .i64 0, .string ⟨#[]⟩] 39)
  have hAx : AAt (w7.alloc (.cells #[.int .i64 0, .int .i64 0, .int .i64 0, .int .i64 0, .int .i64 0, .string ⟨#[]⟩] 39)) p wM2 := (Below.heap_alloc w7 (.cells #[.int .i64 0, .int .i64 0, .int .i64 0, .int .i64 0, .int .i64 0, .string ⟨#[]⟩] 39) p (AAt.lt hA7.out)).trans hA7.out
  obtain ⟨w7', hw'⟩ : ∃ v, w7.alloc (.cells #[.int .i64 0, .int .i64 0, .int .i64 0, .int .i64 0, .int .i64 0, .string ⟨#[]⟩] 39) = v := ⟨_, rfl⟩
  rw [hw'] at hBx hAx ⊢
  clear hw' hA7 hB7 y0 y1 y2 y3
  have hA7 := Lib.hid hAx
  have hB7 := Lib.hid hBx
  obtain ⟨y0, y1, y2, y3⟩ := (four (HQ5.out _ hB7.out).2).1
  clear hAx hBx
  go_upto_region 8 with (go_at_call 14; (with_reducible refine (HC6.out _ hB7.out hA7.out).mono ?_); rintro e w8 ⟨rfl, hA, hB⟩; have hA8 := Lib.hid hA; have hB8 := Lib.hid hB; clear hA hB y0 y1 y2 y3; obtain ⟨y0, y1, y2, y3⟩ := (four (HQ5.out _ hB8.out).2).1)
  have hBx := hB8.out.alloc (.cells #[.int .i64 0, .int .i64 0, .int .i64 0, .int .i64 0, .int .i64 0, .string ⟨#[]⟩] 39)
  have hAx : AAt (w8.alloc (.cells #[.int .i64 0, .int .i64 0, .int .i64 0, .int .i64 0, .int .i64 0, .string ⟨#[]⟩] 39)) p wM2 := (Below.heap_alloc w8 (.cells #[.int .i64 0, .int .i64 0, .int .i64 0, .int .i64 0, .int .i64 0, .string ⟨#[]⟩] 39) p (AAt.lt hA8.out)).trans hA8.out
  obtain ⟨w8', hw'⟩ : ∃ v, w8.alloc (.cells #[.int .i64 0, .int .i64 0, .int .i64 0, .int .i64 0, .int .i64 0, .string ⟨#[]⟩] 39) = v := ⟨_, rfl⟩
  rw [hw'] at hBx hAx ⊢
  clear hw' hA8 hB8 y0 y1 y2 y3
  have hA8 := Lib.hid hAx
  have hB8 := Lib.hid hBx
  obtain ⟨y0, y1, y2, y3⟩ := (four (HQ5.out _ hB8.out).2).1
  clear hAx hBx
  go_upto_region 9 with (go_at_call 15; (with_reducible refine (HC7.out _ hB8.out hA8.out).mono ?_); rintro e w9 ⟨rfl, hA, hB⟩; have hA9 := Lib.hid hA; have hB9 := Lib.hid hB; clear hA hB y0 y1 y2 y3; obtain ⟨y0, y1, y2, y3⟩ := (four (HQ5.out _ hB9.out).2).1)
  go_upto_region 10 with (go_at_call 15; (with_reducible refine (HC8.out _ hB9.out hA9.out).mono ?_); rintro e w10 ⟨rfl, hA, hB⟩; have hA10 := Lib.hid hA; have hB10 := Lib.hid hB; clear hA hB y0 y1 y2 y3; obtain ⟨y0, y1, y2, y3⟩ := (four (HQ5.out _ hB10.out).2).1)
  obtain ⟨v0, v1, v2, v3, v4, v5⟩ := (six (HQ5.out _ hB10.out).1).1
  have hPr : Calls Tryd.prog 12 #[.pointer (some ⟨p, 0, none⟩)] w10 fun e w' => e = .returned (.agg #[.int .i64 2, .int .i64 2]) ∧ Below w10.heap.size w10 w' := Promised_any _ (some p) wM3 hA10.out
  have hnum := fun x W => num_any x W
  have hend : Below w.heap.size w w10 := HB5.out.trans (hB10.out.to_below HB5.out.size (fun b e => by rw [show b = p from e]; have := HB1.out.size; omega))
  have HEnd := Lib.hid hend
  clear HC4 HC5 HC6 HC7 HC8 hA10 hB10 HB5 HQ5 hend
  go_wp2_with (first
    | (go_at_call 11; (with_reducible refine (hnum _ _).mono ?_); rintro e w' ⟨rfl, rfl⟩)
    | (go_at_call 12; (with_reducible refine hPr.mono ?_); clear hPr; rintro e w11 ⟨rfl, hb11⟩))
  go_ret
  exact ⟨rfl, HEnd.out.trans (hb11.mono HEnd.out.size)⟩
end Go.Proofs
namespace Go.Proofs
open Go Go.RowKit Sm Go.Lib
attribute [local go_sem] Oper.semAt_some
/-- a call that came in -/
structure Sm.XV where
  (x r q k m n : Int) (t : ByteArray)
def Sm.XV.cells (y : XV) : List Value := [.int .i64 y.x, .int .i64 y.r, .int .i64 y.q, .int .i64 y.k, .int .i64 y.m, .int .i64 y.n, .string y.t]
structure Sm.XV.came (y : XV) : Prop where
  kd : I64 y.k
  sz : y.t.size ≤ 9223372036854775807
/-- calls that came in, in a row -/
def Sm.RdX (w : World) (A : Option Addr) (xs : List XV) : Prop :=
  0 < xs.length → ∃ b off, A = some ⟨b, off, none⟩ ∧ b < w.heap.size ∧ ∀ j y, xs[j]? = some y → ∀ i v, y.cells[i]? = some v → w.cell? ⟨b, off + j * 7 + i, none⟩ = some v
theorem Sm.RdX.keep {w w' : World} {A : Option Addr} {xs : List XV} (h : RdX w A xs) (hb : Below w.heap.size w w') : RdX w' A xs := fun hn => by
  obtain ⟨b, off, rfl, hl, hc⟩ := h hn
  exact ⟨b, off, rfl, Nat.lt_of_lt_of_le hl hb.size, fun j y hj i v hi => (hb.cell (p := ⟨b, off + j * 7 + i, none⟩) hl).trans (hc j y hj i v hi)⟩
/-- the cells of one of them -/
theorem Sm.RdX.one {w : World} {A : Option Addr} {xs : List XV} (h : RdX w A xs) {k : Nat} (hk : k < xs.length) : ∃ b off, A = some ⟨b, off, none⟩ ∧ b < w.heap.size ∧ ∀ W, Below w.heap.size w W →
    W.cell? ⟨b, off + k * 7, none⟩ = some (.int .i64 xs[k].x) ∧ W.cell? ⟨b, off + k * 7 + 1, none⟩ = some (.int .i64 xs[k].r) ∧ W.cell? ⟨b, off + k * 7 + 2, none⟩ = some (.int .i64 xs[k].q) ∧ W.cell? ⟨b, off + k * 7 + 3, none⟩ = some (.int .i64 xs[k].k)
    ∧ W.cell? ⟨b, off + k * 7 + 4, none⟩ = some (.int .i64 xs[k].m) ∧ W.cell? ⟨b, off + k * 7 + 5, none⟩ = some (.int .i64 xs[k].n) ∧ W.cell? ⟨b, off + k * 7 + 6, none⟩ = some (.string xs[k].t) := by
  obtain ⟨b, off, rfl, hl, hc⟩ := h (by omega)
  have h0 := hc k xs[k] (List.getElem?_eq_getElem hk)
  have g : ∀ W, Below w.heap.size w W → ∀ i v, xs[k].cells[i]? = some v → W.cell? ⟨b, off + k * 7 + i, none⟩ = some v := fun W hb i v hi => (hb.cell (p := ⟨b, off + k * 7 + i, none⟩) hl).trans (h0 i v hi)
  exact ⟨b, off, rfl, hl, fun W hb => ⟨g W hb 0 _ rfl, g W hb 1 _ rfl, g W hb 2 _ rfl, g W hb 3 _ rfl, g W hb 4 _ rfl, g W hb 5 _ rfl, g W hb 6 _ rfl⟩⟩
def Sm.lg (y : XV) : Bool := decide (300 < y.t.size)
def Sm.fewB (xs : List XV) (most : Int) : Bool := !xs.any lg && decide ((xs.length : Int) ≤ most)
set_option maxRecDepth 100000 in
set_option maxHeartbeats 1000000 in
theorem Sm.few_any (A : Option Addr) (n c : Nat) (xs : List XV) (most : Int) (w : World) (hn : xs.length = n) (hnc : n ≤ c) (hc9 : c ≤ 9223372036854775807) (hx : RdX w A xs) (hcm : ∀ y ∈ xs, XV.came y) :
    Calls Tryd.prog 9 #[.slice A n c, .int .i64 most] w fun e w' => e = .returned (.bool (fewB xs most)) ∧ Below w.heap.size w w' := by
  have HX := Lib.hid hx
  have HN := Lib.hid hn
  have HCM := Lib.hid hcm
  clear hx hn hcm
  go_enter Tryd.func9, Tryd.ntmps9
  go_wp2
  go_loopw [5] (fun v5 wr => ∃ k : Nat, k ≤ n ∧ v5 = .int .i64 (k : Int) ∧ Hid ((xs.take k).any lg = false) ∧ Below w.heap.size w wr) (fun v5 _ => n - (RowKit.intOf v5).toNat)
  case atStart => exact ⟨0, Nat.zero_le _, rfl, Lib.hid rfl, Below.refl _ _⟩
  case round =>
    obtain ⟨k, hk, rfl, HA, hb⟩ := hrel
    by_cases hlt : k < n
    · have hkx : k < xs.length := by rw [HN.out]; exact hlt
      obtain ⟨b, off, rfl, hbl, hcl⟩ := HX.out.one hkx
      obtain ⟨_, _, _, c3, c4, c5, c6⟩ := hcl wr hb
      have hlg := fun W => elong_any xs[k].k xs[k].m xs[k].n xs[k].t W (HCM.out _ (List.getElem_mem hkx)).sz
      have htk : (xs.take (k + 1)).any lg = ((xs.take k).any lg || decide (300 < xs[k].t.size)) := by rw [List.take_succ_eq_append_getElem hkx, List.any_append]; simp [lg]
      have hbl2 : b < wr.heap.size := Nat.lt_of_lt_of_le hbl hb.size
      have HB := Lib.hid hb
      have HTK := Lib.hid htk
      clear hcl htk hb
      cases hd : decide (300 < xs[k].t.size) with
      | false =>
        rw [hd] at hlg
        have HA2 : Hid ((xs.take (k + 1)).any lg = false) := Lib.hid (by rw [HTK.out, HA.out, hd]; rfl)
        clear hd HTK
        go_wp2_with (go_at_call 5; (with_reducible refine (hlg _).mono ?_); rintro e w2 ⟨rfl, hb2⟩)
        go_roundw
        case rel => exact ⟨k + 1, by omega, by go_num, HA2, HB.out.trans (hb2.mono HB.out.size)⟩
        case measure => simp [RowKit.intOf]; omega
      | true =>
        rw [hd] at hlg
        have HA2 : Hid (xs.any lg = true) := Lib.hid (List.any_eq_true.2 ⟨xs[k], List.getElem_mem hkx, hd⟩)
        clear hd HTK
        go_wp2_with (go_at_call 5; (with_reducible refine (hlg _).mono ?_); rintro e w2 ⟨rfl, hb2⟩)
        go_ret
        exact ⟨by unfold fewB; rw [HA2.out]; simp, HB.out.trans (hb2.mono HB.out.size)⟩
    · obtain rfl : k = n := by omega
      have h1 := HA.out
      rw [List.take_of_length_le (by rw [HN.out]; exact Nat.le_refl _)] at h1
      have H1 := Lib.hid h1
      have HB := Lib.hid hb
      clear h1 hb
      go_wp2
      go_ret
      exact ⟨by unfold fewB; rw [H1.out, HN.out]; simp, HB.out⟩
end Go.Proofs
