/-
  acceptor: the document's Promise, Accept told as the program's; num, long. acceptor: a call by both: they tell the same. acceptor: an acceptor stands as the document's. acceptor: the chapter's rows: works. Condition: the library's two tables of UTF-8 lie as they are laid. acceptor: calls that came in; few. acceptor: what calls make of an acceptor. No condition. Conditions: as each theorem names them.
-/
import Derived.Test.YtamlacofmihldaaGreatDoorMc
import Derived.Test.YtamlacofmihldaaGreatDoorMb
namespace Go.Proofs
open Go Go.RowKit Sm Go.Lib
attribute [local go_sem] Oper.semAt_some
theorem Sm.rPromise_any (r q : Int) (M : AcM) (w : World) : Calls Tryz.prog 35 #[.agg #[.int .i64 M.c, .int .i64 M.s, .int .i64 M.pr, .int .i64 M.pp, .int .i64 M.ar, .int .i64 M.ap, .int .i64 M.k, .int .i64 M.m, .int .i64 M.n, .string M.t], .agg #[.int .i64 r, .int .i64 q]] w fun e w' => e = .returned (.tuple #[.agg #[.int .i64 ((prM M r q).c), .int .i64 ((prM M r q).s), .int .i64 ((prM M r q).pr), .int .i64 ((prM M r q).pp), .int .i64 ((prM M r q).ar), .int .i64 ((prM M r q).ap), .int .i64 ((prM M r q).k), .int .i64 ((prM M r q).m), .int .i64 ((prM M r q).n), .string ((prM M r q).t)], acVal (prOk M r q) M, .bool (prOk M r q), .int .i64 (prE M r q)]) ∧ Below w.heap.size w w' := by
  unfold prM prE prOk acVal
  rw [lt1_less, Bool.not_not]
  cases hm : mayB M.c M.s r q with
  | false => exact (rPromise_arg1 r q M w hm).mono fun e w' ⟨h1, h2⟩ => ⟨by rw [h1]; simp, h2⟩
  | true =>
    have h0 := may_round hm
    by_cases hr : r = 0
    · exact (rPromise_arg2 r q M w hm hr).mono fun e w' ⟨h1, h2⟩ => ⟨by rw [h1]; simp [hr], h2⟩
    · have hr2 : (r == 0) = false := by simpa using hr
      have hr3 : decide (0 < r) = true := decide_eq_true (by omega)
      rw [hr3]
      cases hl : lessB M.pr M.pp r q with
      | false => exact (rPromise_low r q M w hm hr2 hl).mono fun e w' ⟨h1, h2⟩ => ⟨by rw [h1]; simp, h2⟩
      | true => exact (rPromise_yes r q M w hm hr2 hl).mono fun e w' ⟨h1, h2⟩ => ⟨by rw [h1]; simp [promM], h2⟩
theorem Sm.rAccept_any (r q k m n : Int) (t : ByteArray) (M : AcM) (w : World) (hsz : t.size ≤ 1000000) : Calls Tryz.prog 36 #[.agg #[.int .i64 M.c, .int .i64 M.s, .int .i64 M.pr, .int .i64 M.pp, .int .i64 M.ar, .int .i64 M.ap, .int .i64 M.k, .int .i64 M.m, .int .i64 M.n, .string M.t], .agg #[.int .i64 r, .int .i64 q], .agg #[.int .i64 k, .int .i64 m, .int .i64 n, .string t]] w
    fun e w' => e = .returned (.tuple #[.agg #[.int .i64 ((acM M r q k m n t (entB k m n t)).c), .int .i64 ((acM M r q k m n t (entB k m n t)).s), .int .i64 ((acM M r q k m n t (entB k m n t)).pr), .int .i64 ((acM M r q k m n t (entB k m n t)).pp), .int .i64 ((acM M r q k m n t (entB k m n t)).ar), .int .i64 ((acM M r q k m n t (entB k m n t)).ap), .int .i64 ((acM M r q k m n t (entB k m n t)).k), .int .i64 ((acM M r q k m n t (entB k m n t)).m), .int .i64 ((acM M r q k m n t (entB k m n t)).n), .string ((acM M r q k m n t (entB k m n t)).t)], .bool (acOk M r q (entB k m n t)), .int .i64 (acE M r q (entB k m n t))]) ∧ Below w.heap.size w w' := by
  unfold acM acE acOk
  rw [lt0_less]
  cases hm : mayB M.c M.s r q with
  | false => exact (rAccept_arg1 r q k m n t M w hsz hm).mono fun e w' ⟨h1, h2⟩ => ⟨by rw [h1]; simp, h2⟩
  | true =>
    cases he : entB k m n t with
    | false => exact (rAccept_arg2 r q k m n t M w hsz hm he).mono fun e w' ⟨h1, h2⟩ => ⟨by rw [h1]; simp, h2⟩
    | true =>
      cases hl : lessB r q M.pr M.pp with
      | true => exact (rAccept_low r q k m n t M w hsz hm he hl).mono fun e w' ⟨h1, h2⟩ => ⟨by rw [h1]; simp, h2⟩
      | false => exact (rAccept_yes r q k m n t M w hsz hm he hl).mono fun e w' ⟨h1, h2⟩ => ⟨by rw [h1]; simp [accM, promM], h2⟩
theorem Sm.num_any (x : Int) (w : World) : Calls Tryz.prog 13 #[.int .i64 x] w fun e w' => e = .returned (.int .i64 x) ∧ w = w' := by
  go_enter Tryz.func13, Tryz.ntmps13
  go_wp2
  go_ret
  exact ⟨rfl, rfl⟩
set_option maxRecDepth 100000 in
theorem Sm.elong_any (k m n : Int) (t : ByteArray) (w : World) (ht : t.size ≤ 9223372036854775807) : Calls Tryz.prog 19 #[.agg #[.int .i64 k, .int .i64 m, .int .i64 n, .string t]] w fun e w' => e = .returned (.bool (decide (300 < t.size))) ∧ Below w.heap.size w w' := by
  have hb1 : Below w.heap.size w (w.alloc (.cells #[.int .i64 k, .int .i64 m, .int .i64 n, .string t] 34)) := (Below.refl _ w).alloc (Nat.le_refl _) _
  go_enter Tryz.func19, Tryz.ntmps19
  go_wp2
  go_ret
  exact ⟨by simp; omega, hb1⟩
end Go.Proofs
namespace Go.Proofs
open Go Go.RowKit Sm Go.Lib
attribute [local go_sem] Oper.semAt_some
theorem Sm.seven {w : World} {p : Nat} {a0 a1 a2 a3 a4 a5 a6 : Value} {t : TypeId} {fr : Nat × Nat} (h : w.heap[p]? = some (.cells #[a0, a1, a2, a3, a4, a5, a6] t fr)) :
    w.cell? ⟨p, 0, none⟩ = some a0 ∧ w.cell? ⟨p, 1, none⟩ = some a1 ∧ w.cell? ⟨p, 2, none⟩ = some a2 ∧ w.cell? ⟨p, 3, none⟩ = some a3 ∧ w.cell? ⟨p, 4, none⟩ = some a4 ∧ w.cell? ⟨p, 5, none⟩ = some a5 ∧ w.cell? ⟨p, 6, none⟩ = some a6 :=
  ⟨cell_of_heap h 0, cell_of_heap h 1, cell_of_heap h 2, cell_of_heap h 3, cell_of_heap h 4, cell_of_heap h 5, cell_of_heap h 6⟩
set_option maxRecDepth 100000 in
set_option maxHeartbeats 4000000 in
theorem Sm.act0_core (r q k m n : Int) (t : ByteArray) (w : World) (p : Nat) (M N A : AcM) (b : Bool) (E : Int) (hp : AAt w p M) 
    (hR : ∀ W, Calls Tryz.prog 35 #[.agg #[.int .i64 M.c, .int .i64 M.s, .int .i64 M.pr, .int .i64 M.pp, .int .i64 M.ar, .int .i64 M.ap, .int .i64 M.k, .int .i64 M.m, .int .i64 M.n, .string M.t], .agg #[.int .i64 r, .int .i64 q]] W fun e w' => e = .returned (.tuple #[.agg #[.int .i64 N.c, .int .i64 N.s, .int .i64 N.pr, .int .i64 N.pp, .int .i64 N.ar, .int .i64 N.ap, .int .i64 N.k, .int .i64 N.m, .int .i64 N.n, .string N.t], .agg #[.int .i64 A.ar, .int .i64 A.ap, .int .i64 A.k, .int .i64 A.m, .int .i64 A.n, .string A.t], .bool b, .int .i64 E]) ∧ Below W.heap.size W w')
    (hP : ∀ W, AAt W p M → Calls Tryz.prog 10 #[.pointer (some ⟨p, 0, none⟩), .agg #[.int .i64 r, .int .i64 q]] W fun e w' => e = .returned (.tuple #[.agg #[.int .i64 A.ar, .int .i64 A.ap, .int .i64 A.k, .int .i64 A.m, .int .i64 A.n, .string A.t], .bool b, .int .i64 E]) ∧ AAt w' p N ∧ But (Xp p) W w') :
    Calls Tryz.prog 17 #[.pointer (some ⟨p, 0, none⟩), .agg #[.int .i64 M.c, .int .i64 M.s, .int .i64 M.pr, .int .i64 M.pp, .int .i64 M.ar, .int .i64 M.ap, .int .i64 M.k, .int .i64 M.m, .int .i64 M.n, .string M.t], .agg #[.int .i64 0, .int .i64 r, .int .i64 q, .int .i64 k, .int .i64 m, .int .i64 n, .string t]] w fun e w' => e = .returned (.tuple #[.agg #[.int .i64 N.c, .int .i64 N.s, .int .i64 N.pr, .int .i64 N.pp, .int .i64 N.ar, .int .i64 N.ap, .int .i64 N.k, .int .i64 N.m, .int .i64 N.n, .string N.t], .bool true]) ∧ AAt w' p N ∧ But (Xp p) w w' := by
  obtain ⟨w3, hw3, k4, k5, k6, hb3, hz3⟩ := three_new w (.cells #[.int .i64 M.c, .int .i64 M.s, .int .i64 M.pr, .int .i64 M.pp, .int .i64 M.ar, .int .i64 M.ap, .int .i64 M.k, .int .i64 M.m, .int .i64 M.n, .string M.t] 38) (.cells #[.int .i64 0, .int .i64 r, .int .i64 q, .int .i64 k, .int .i64 m, .int .i64 n, .string t] 58) (.cells #[.int .i64 0, .int .i64 0, .int .i64 0, .int .i64 0, .int .i64 0, .int .i64 0, .int .i64 0, .int .i64 0, .int .i64 0, .string ⟨#[]⟩] 38)
  have hl := hp.lt
  have hp3 := hp.keep hb3
  have HQ : Hid (∀ W, Below w3.heap.size w3 W → AAt W p M ∧ W.heap[w.heap.size]? = some (.cells #[.int .i64 M.c, .int .i64 M.s, .int .i64 M.pr, .int .i64 M.pp, .int .i64 M.ar, .int .i64 M.ap, .int .i64 M.k, .int .i64 M.m, .int .i64 M.n, .string M.t] 38 (0, 0)) ∧ W.heap[w.heap.size + 1]? = some (.cells #[.int .i64 0, .int .i64 r, .int .i64 q, .int .i64 k, .int .i64 m, .int .i64 n, .string t] 58 (0, 0)) ∧ W.heap[w.heap.size + 2]? = some (.cells #[.int .i64 0, .int .i64 0, .int .i64 0, .int .i64 0, .int .i64 0, .int .i64 0, .int .i64 0, .int .i64 0, .int .i64 0, .string ⟨#[]⟩] 38 (0, 0))) := Lib.hid fun W hb =>
    ⟨hp3.keep hb, (hb.block _ (by omega)).trans k4, (hb.block _ (by omega)).trans k5, (hb.block _ (by omega)).trans k6⟩
  have HB3 := Lib.hid hb3
  obtain ⟨⟨d0, d1, d2, d3, d4, d5, d6, d7, d8, d9⟩, _⟩ := ten k4
  obtain ⟨x0, x1, x2, x3, x4, x5, x6⟩ := seven k5
  have HR := Lib.hid hR
  have HP := Lib.hid hP
  clear k4 k5 k6 hb3 hp hp3 hR hP
  go_enter Tryz.func17, Tryz.ntmps17
  go_upto_region 3 with (go_at_call 35; (with_reducible refine (HR.out _).mono ?_); rintro e w4 ⟨rfl, hb4⟩; have HB4 := Lib.hid hb4; clear hb4)
  have hb5 := (HB4.out.alloc HB4.out.size (.cells #[.int .i64 N.c, .int .i64 N.s, .int .i64 N.pr, .int .i64 N.pp, .int .i64 N.ar, .int .i64 N.ap, .int .i64 N.k, .int .i64 N.m, .int .i64 N.n, .string N.t] 38)).alloc (by have := HB4.out.size; simp; omega) (.cells #[.int .i64 A.ar, .int .i64 A.ap, .int .i64 A.k, .int .i64 A.m, .int .i64 A.n, .string A.t] 36)
  have y8 := (Below.heap_alloc (w4.alloc (.cells #[.int .i64 N.c, .int .i64 N.s, .int .i64 N.pr, .int .i64 N.pp, .int .i64 N.ar, .int .i64 N.ap, .int .i64 N.k, .int .i64 N.m, .int .i64 N.n, .string N.t] 38)) (.cells #[.int .i64 A.ar, .int .i64 A.ap, .int .i64 A.k, .int .i64 A.m, .int .i64 A.n, .string A.t] 36) w4.heap.size (by simp)).trans (World.alloc_heap_new w4 (.cells #[.int .i64 N.c, .int .i64 N.s, .int .i64 N.pr, .int .i64 N.pp, .int .i64 N.ar, .int .i64 N.ap, .int .i64 N.k, .int .i64 N.m, .int .i64 N.n, .string N.t] 38))
  have y9 := World.alloc_heap_new (w4.alloc (.cells #[.int .i64 N.c, .int .i64 N.s, .int .i64 N.pr, .int .i64 N.pp, .int .i64 N.ar, .int .i64 N.ap, .int .i64 N.k, .int .i64 N.m, .int .i64 N.n, .string N.t] 38)) (.cells #[.int .i64 A.ar, .int .i64 A.ap, .int .i64 A.k, .int .i64 A.m, .int .i64 A.n, .string A.t] 36)
  rw [World.size_alloc] at y9
  obtain ⟨w5, hw5⟩ : ∃ v, (w4.alloc (.cells #[.int .i64 N.c, .int .i64 N.s, .int .i64 N.pr, .int .i64 N.pp, .int .i64 N.ar, .int .i64 N.ap, .int .i64 N.k, .int .i64 N.m, .int .i64 N.n, .string N.t] 38)).alloc (.cells #[.int .i64 A.ar, .int .i64 A.ap, .int .i64 A.k, .int .i64 A.m, .int .i64 A.n, .string A.t] 36) = v := ⟨_, rfl⟩
  rw [hw5] at hb5 y8 y9 ⊢
  clear hw5 hw3 x0 x1 x2 x3 x4 x5 x6 d0 d1 d2 d3 d4 d5 d6 d7 d8 d9
  have hs4 : w3.heap.size ≤ w4.heap.size := HB4.out.size
  have HB5 := Lib.hid hb5
  have hl8 := (Array.getElem?_eq_some_iff.1 y8).1
  have hl9 := (Array.getElem?_eq_some_iff.1 y9).1
  have HY := Lib.hid (And.intro y8 y9)
  clear hb5 y8 y9
  obtain ⟨x0, x1, x2, x3, x4, x5, x6⟩ := seven (HQ.out _ HB5.out).2.2.1
  go_upto_region 4 with (go_at_call 10; (with_reducible refine (HP.out _ (HQ.out _ HB5.out).1).mono ?_); rintro e w6 ⟨rfl, hA6, hB6⟩; have HA6 := Lib.hid hA6; have HB6 := Lib.hid hB6; clear hA6 hB6)
  have hs5 := HB5.out.size
  have hs6 := HB6.out.size
  have m8 := HB6.out.box HY.out.1 (by unfold Xp; omega)
  have m9 := HB6.out.box HY.out.2 (by unfold Xp; omega)
  have m6 := HB6.out.box (HQ.out _ HB5.out).2.2.2 (by unfold Xp; omega)
  have l8 := (Array.getElem?_eq_some_iff.1 m8).1
  have l9 := (Array.getElem?_eq_some_iff.1 m9).1
  have l6 := (Array.getElem?_eq_some_iff.1 m6).1
  have n8 := (Below.heap_alloc w6 (.cells #[.int .i64 A.ar, .int .i64 A.ap, .int .i64 A.k, .int .i64 A.m, .int .i64 A.n, .string A.t] 36) w4.heap.size l8).trans m8
  have n9 := (Below.heap_alloc w6 (.cells #[.int .i64 A.ar, .int .i64 A.ap, .int .i64 A.k, .int .i64 A.m, .int .i64 A.n, .string A.t] 36) (w4.heap.size + 1) l9).trans m9
  have n6 := (Below.heap_alloc w6 (.cells #[.int .i64 A.ar, .int .i64 A.ap, .int .i64 A.k, .int .i64 A.m, .int .i64 A.n, .string A.t] 36) (w.heap.size + 2) l6).trans m6
  have n10 := World.alloc_heap_new w6 (.cells #[.int .i64 A.ar, .int .i64 A.ap, .int .i64 A.k, .int .i64 A.m, .int .i64 A.n, .string A.t] 36)
  have nA : AAt (w6.alloc (.cells #[.int .i64 A.ar, .int .i64 A.ap, .int .i64 A.k, .int .i64 A.m, .int .i64 A.n, .string A.t] 36)) p N := (Below.heap_alloc w6 (.cells #[.int .i64 A.ar, .int .i64 A.ap, .int .i64 A.k, .int .i64 A.m, .int .i64 A.n, .string A.t] 36) p (AAt.lt HA6.out)).trans HA6.out
  have nB : But (Xp p) w (w6.alloc (.cells #[.int .i64 A.ar, .int .i64 A.ap, .int .i64 A.k, .int .i64 A.m, .int .i64 A.n, .string A.t] 36)) := ((But.of_all (HB3.out.trans (HB5.out.mono HB3.out.size)) _).trans HB6.out (fun _ _ e => e)).alloc _
  obtain ⟨w7, hw7⟩ : ∃ v, w6.alloc (.cells #[.int .i64 A.ar, .int .i64 A.ap, .int .i64 A.k, .int .i64 A.m, .int .i64 A.n, .string A.t] 36) = v := ⟨_, rfl⟩
  rw [hw7] at n8 n9 n6 n10 nA nB ⊢
  clear hw7 m8 m9 m6 l8 l9 l6 x0 x1 x2 x3 x4 x5 x6 HR HP
  have z0 : (fun W => (W.cell? ⟨w4.heap.size, 0, none⟩ = some (.int .i64 N.c) ∧ W.cell? ⟨w4.heap.size, 1, none⟩ = some (.int .i64 N.s) ∧ W.cell? ⟨w4.heap.size, 2, none⟩ = some (.int .i64 N.pr) ∧ W.cell? ⟨w4.heap.size, 3, none⟩ = some (.int .i64 N.pp) ∧ W.cell? ⟨w4.heap.size, 4, none⟩ = some (.int .i64 N.ar) ∧ W.cell? ⟨w4.heap.size, 5, none⟩ = some (.int .i64 N.ap) ∧ W.cell? ⟨w4.heap.size, 6, none⟩ = some (.int .i64 N.k) ∧ W.cell? ⟨w4.heap.size, 7, none⟩ = some (.int .i64 N.m) ∧ W.cell? ⟨w4.heap.size, 8, none⟩ = some (.int .i64 N.n) ∧ W.cell? ⟨w4.heap.size, 9, none⟩ = some (.string N.t)) ∧ (W.cell? ⟨w4.heap.size + 1, 0, none⟩ = some (.int .i64 A.ar) ∧ W.cell? ⟨w4.heap.size + 1, 1, none⟩ = some (.int .i64 A.ap) ∧ W.cell? ⟨w4.heap.size + 1, 2, none⟩ = some (.int .i64 A.k) ∧ W.cell? ⟨w4.heap.size + 1, 3, none⟩ = some (.int .i64 A.m) ∧ W.cell? ⟨w4.heap.size + 1, 4, none⟩ = some (.int .i64 A.n) ∧ W.cell? ⟨w4.heap.size + 1, 5, none⟩ = some (.string A.t)) ∧ (W.cell? ⟨w6.heap.size, 0, none⟩ = some (.int .i64 A.ar) ∧ W.cell? ⟨w6.heap.size, 1, none⟩ = some (.int .i64 A.ap) ∧ W.cell? ⟨w6.heap.size, 2, none⟩ = some (.int .i64 A.k) ∧ W.cell? ⟨w6.heap.size, 3, none⟩ = some (.int .i64 A.m) ∧ W.cell? ⟨w6.heap.size, 4, none⟩ = some (.int .i64 A.n) ∧ W.cell? ⟨w6.heap.size, 5, none⟩ = some (.string A.t))) w7 := ⟨(ten n8).1, (six n9).1, (six n10).1⟩
  have r8 : w7.drew.heap[w4.heap.size]? = _ := n8
  have r9 : w7.drew.heap[w4.heap.size + 1]? = _ := n9
  have r6 : w7.drew.heap[w.heap.size + 2]? = _ := n6
  have r10 : w7.drew.heap[w6.heap.size]? = _ := n10
  have rA : AAt w7.drew p N := nA
  have rB := nB.drew
  clear n8 n9 n6 n10 nA nB
  have hS0 : (fun W => (W.cell? ⟨w4.heap.size, 0, none⟩ = some (.int .i64 N.c) ∧ W.cell? ⟨w4.heap.size, 1, none⟩ = some (.int .i64 N.s) ∧ W.cell? ⟨w4.heap.size, 2, none⟩ = some (.int .i64 N.pr) ∧ W.cell? ⟨w4.heap.size, 3, none⟩ = some (.int .i64 N.pp) ∧ W.cell? ⟨w4.heap.size, 4, none⟩ = some (.int .i64 N.ar) ∧ W.cell? ⟨w4.heap.size, 5, none⟩ = some (.int .i64 N.ap) ∧ W.cell? ⟨w4.heap.size, 6, none⟩ = some (.int .i64 N.k) ∧ W.cell? ⟨w4.heap.size, 7, none⟩ = some (.int .i64 N.m) ∧ W.cell? ⟨w4.heap.size, 8, none⟩ = some (.int .i64 N.n) ∧ W.cell? ⟨w4.heap.size, 9, none⟩ = some (.string N.t)) ∧ (W.cell? ⟨w4.heap.size + 1, 0, none⟩ = some (.int .i64 A.ar) ∧ W.cell? ⟨w4.heap.size + 1, 1, none⟩ = some (.int .i64 A.ap) ∧ W.cell? ⟨w4.heap.size + 1, 2, none⟩ = some (.int .i64 A.k) ∧ W.cell? ⟨w4.heap.size + 1, 3, none⟩ = some (.int .i64 A.m) ∧ W.cell? ⟨w4.heap.size + 1, 4, none⟩ = some (.int .i64 A.n) ∧ W.cell? ⟨w4.heap.size + 1, 5, none⟩ = some (.string A.t)) ∧ (W.cell? ⟨w6.heap.size, 0, none⟩ = some (.int .i64 A.ar) ∧ W.cell? ⟨w6.heap.size, 1, none⟩ = some (.int .i64 A.ap) ∧ W.cell? ⟨w6.heap.size, 2, none⟩ = some (.int .i64 A.k) ∧ W.cell? ⟨w6.heap.size, 3, none⟩ = some (.int .i64 A.m) ∧ W.cell? ⟨w6.heap.size, 4, none⟩ = some (.int .i64 A.n) ∧ W.cell? ⟨w6.heap.size, 5, none⟩ = some (.string A.t))) w7.drew := z0
  refine wp_region_held_drew (S := fun W => (W.cell? ⟨w4.heap.size, 0, none⟩ = some (.int .i64 N.c) ∧ W.cell? ⟨w4.heap.size, 1, none⟩ = some (.int .i64 N.s) ∧ W.cell? ⟨w4.heap.size, 2, none⟩ = some (.int .i64 N.pr) ∧ W.cell? ⟨w4.heap.size, 3, none⟩ = some (.int .i64 N.pp) ∧ W.cell? ⟨w4.heap.size, 4, none⟩ = some (.int .i64 N.ar) ∧ W.cell? ⟨w4.heap.size, 5, none⟩ = some (.int .i64 N.ap) ∧ W.cell? ⟨w4.heap.size, 6, none⟩ = some (.int .i64 N.k) ∧ W.cell? ⟨w4.heap.size, 7, none⟩ = some (.int .i64 N.m) ∧ W.cell? ⟨w4.heap.size, 8, none⟩ = some (.int .i64 N.n) ∧ W.cell? ⟨w4.heap.size, 9, none⟩ = some (.string N.t)) ∧ (W.cell? ⟨w4.heap.size + 1, 0, none⟩ = some (.int .i64 A.ar) ∧ W.cell? ⟨w4.heap.size + 1, 1, none⟩ = some (.int .i64 A.ap) ∧ W.cell? ⟨w4.heap.size + 1, 2, none⟩ = some (.int .i64 A.k) ∧ W.cell? ⟨w4.heap.size + 1, 3, none⟩ = some (.int .i64 A.m) ∧ W.cell? ⟨w4.heap.size + 1, 4, none⟩ = some (.int .i64 A.n) ∧ W.cell? ⟨w4.heap.size + 1, 5, none⟩ = some (.string A.t)) ∧ (W.cell? ⟨w6.heap.size, 0, none⟩ = some (.int .i64 A.ar) ∧ W.cell? ⟨w6.heap.size, 1, none⟩ = some (.int .i64 A.ap) ∧ W.cell? ⟨w6.heap.size, 2, none⟩ = some (.int .i64 A.k) ∧ W.cell? ⟨w6.heap.size, 3, none⟩ = some (.int .i64 A.m) ∧ W.cell? ⟨w6.heap.size, 4, none⟩ = some (.int .i64 A.n) ∧ W.cell? ⟨w6.heap.size, 5, none⟩ = some (.string A.t))) rfl hS0 (fun hHeld => ?_)
  simp only [List.size_toArray, List.length_cons, List.length_nil, Nat.reduceAdd]
  have HB0 : Hid (Below w7.heap.size w7 w7.drew) := Lib.hid (Below.refl _ _).drew
  obtain ⟨V0, hV0⟩ : ∃ V, w7.drew = V := ⟨_, rfl⟩
  rw [hV0] at hHeld hS0 HB0 r8 r9 r6 r10 rA rB ⊢
  clear hV0
  refine wpAnyH_take (i := 0) (v := .agg #[.int .i64 N.c, .int .i64 N.s, .int .i64 N.pr, .int .i64 N.pp, .int .i64 N.ar, .int .i64 N.ap, .int .i64 N.k, .int .i64 N.m, .int .i64 N.n, .string N.t]) rfl (by kernel_rfl) (by kernel_rfl) (by kernel_rfl) (fun _ _ _ h => h) (Or.inl ⟨by rfl, ?_⟩) (by assumption) ?_
  · intro wx hs1; obtain ⟨⟨s0, s1, s2, s3, s4, s5, s6, s7, s8, s9⟩, ⟨u0, u1, u2, u3, u4, u5⟩, ⟨v0, v1, v2, v3, v4, v5⟩⟩ := hs1; go_simp
  (try simp only [Act.put, List.getElem_toArray, List.getElem_cons_zero, List.setIfInBounds_toArray, List.set_cons_zero, List.set_cons_succ])
  refine wpAnyH_take (i := 1) (v := .agg #[.int .i64 A.ar, .int .i64 A.ap, .int .i64 A.k, .int .i64 A.m, .int .i64 A.n, .string A.t]) rfl (by kernel_rfl) (by kernel_rfl) (by kernel_rfl) (fun _ _ _ h => h) (Or.inl ⟨by rfl, ?_⟩) (by assumption) ?_
  · intro wx hs1; obtain ⟨⟨s0, s1, s2, s3, s4, s5, s6, s7, s8, s9⟩, ⟨u0, u1, u2, u3, u4, u5⟩, ⟨v0, v1, v2, v3, v4, v5⟩⟩ := hs1; go_simp
  (try simp only [Act.put, List.getElem_toArray, List.getElem_cons_succ, List.getElem_cons_zero, List.setIfInBounds_toArray, List.set_cons_zero, List.set_cons_succ])
  refine wpAnyH_take (i := 2) (v := .agg #[.int .i64 A.ar, .int .i64 A.ap, .int .i64 A.k, .int .i64 A.m, .int .i64 A.n, .string A.t]) rfl (by kernel_rfl) (by kernel_rfl) (by kernel_rfl) (fun _ _ _ h => h) (Or.inl ⟨by rfl, ?_⟩) (by assumption) ?_
  · intro wx hs1; obtain ⟨⟨s0, s1, s2, s3, s4, s5, s6, s7, s8, s9⟩, ⟨u0, u1, u2, u3, u4, u5⟩, ⟨v0, v1, v2, v3, v4, v5⟩⟩ := hs1; go_simp
  (try simp only [Act.put, List.getElem_toArray, List.getElem_cons_succ, List.getElem_cons_zero, List.setIfInBounds_toArray, List.set_cons_zero, List.set_cons_succ])
  refine wpAnyH_take (i := 3) (v := .bool true) rfl (by kernel_rfl) (by kernel_rfl) (by kernel_rfl) (fun _ _ _ h => h) (Or.inl ⟨by rfl, ?_⟩) (by assumption) ?_
  · intro wx hs1; have e3 := eql36 wx A.ar A.ar A.ap A.ap A.k A.k A.m A.m A.n A.n A.t A.t; simp only [and_self, decide_true] at e3; have g3 := run_eqGuard_agg (P := Tryz.prog) wx .eql 36 (.tmp 41) (.tmp 42) #[.int .i64 A.ar, .int .i64 A.ap, .int .i64 A.k, .int .i64 A.m, .int .i64 A.n, .string A.t] #[.int .i64 A.ar, .int .i64 A.ap, .int .i64 A.k, .int .i64 A.m, .int .i64 A.n, .string A.t] (by kernel_rfl); clear hs1; go_simp
  (try simp only [Act.put, List.getElem_toArray, List.getElem_cons_succ, List.getElem_cons_zero, List.setIfInBounds_toArray, List.set_cons_zero, List.set_cons_succ])
  refine wpAnyH_take (i := 4) (v := .bool true) rfl (by kernel_rfl) (by kernel_rfl) (by kernel_rfl) (fun _ _ _ h => h) (Or.inl ⟨by rfl, ?_⟩) (by assumption) ?_
  · intro wx hs1; go_simp
  (try simp only [Act.put, List.getElem_toArray, List.getElem_cons_succ, List.getElem_cons_zero, List.setIfInBounds_toArray, List.set_cons_zero, List.set_cons_succ])
  refine wpAnyH_take (i := 5) (v := .bool b) rfl (by kernel_rfl) (by kernel_rfl) (by kernel_rfl) (fun _ _ _ h => h) (Or.inl ⟨by rfl, ?_⟩) (by assumption) ?_
  · intro wx hs1; go_simp
  (try simp only [Act.put, List.getElem_toArray, List.getElem_cons_succ, List.getElem_cons_zero, List.setIfInBounds_toArray, List.set_cons_zero, List.set_cons_succ])
  refine wpAnyH_take (i := 6) (v := .bool b) rfl (by kernel_rfl) (by kernel_rfl) (by kernel_rfl) (fun _ _ _ h => h) (Or.inl ⟨by rfl, ?_⟩) (by assumption) ?_
  · intro wx hs1; go_simp
  (try simp only [Act.put, List.getElem_toArray, List.getElem_cons_succ, List.getElem_cons_zero, List.setIfInBounds_toArray, List.set_cons_zero, List.set_cons_succ])
  refine wpAnyH_take (i := 7) (v := .bool true) rfl (by kernel_rfl) (by kernel_rfl) (by kernel_rfl) (fun _ _ _ h => h) (Or.inl ⟨by rfl, ?_⟩) (by assumption) ?_
  · intro wx hs1; clear hs1; cases b <;> go_simp
  (try simp only [Act.put, List.getElem_toArray, List.getElem_cons_succ, List.getElem_cons_zero, List.setIfInBounds_toArray, List.set_cons_zero, List.set_cons_succ])
  refine wpAnyH_take (i := 8) (v := .bool true) rfl (by kernel_rfl) (by kernel_rfl) (by kernel_rfl) (fun _ _ _ h => h) (Or.inl ⟨by rfl, ?_⟩) (by assumption) ?_
  · intro wx hs1; go_simp
  (try simp only [Act.put, List.getElem_toArray, List.getElem_cons_succ, List.getElem_cons_zero, List.setIfInBounds_toArray, List.set_cons_zero, List.set_cons_succ])
  refine wpAnyH_take (i := 9) (v := .bool true) rfl (by kernel_rfl) (by kernel_rfl) (by kernel_rfl) (fun _ _ _ h => h) (Or.inl ⟨by rfl, ?_⟩) (by assumption) ?_
  · intro wx hs1; go_simp
  (try simp only [Act.put, List.getElem_toArray, List.getElem_cons_succ, List.getElem_cons_zero, List.setIfInBounds_toArray, List.set_cons_zero, List.set_cons_succ])
  refine wpAnyH_take (i := 10) (v := .int .i64 E) rfl (by kernel_rfl) (by kernel_rfl) (by kernel_rfl) (fun _ _ _ h => h) (Or.inl ⟨by rfl, ?_⟩) (by assumption) ?_
  · intro wx hs1; go_simp
  (try simp only [Act.put, List.getElem_toArray, List.getElem_cons_succ, List.getElem_cons_zero, List.setIfInBounds_toArray, List.set_cons_zero, List.set_cons_succ])
  refine wpAnyH_take (i := 12) (v := .int .i64 E) rfl (by kernel_rfl) (by kernel_rfl) (by kernel_rfl) (fun _ _ _ h => h) (Or.inl ⟨by rfl, ?_⟩) (by assumption) ?_
  · intro wx hs1; go_simp
  (try simp only [Act.put, List.getElem_toArray, List.getElem_cons_succ, List.getElem_cons_zero, List.setIfInBounds_toArray, List.set_cons_zero, List.set_cons_succ])
  refine wpAnyH_ready (rs := [11]) (by kernel_rfl) (by simp) (AllReadyH.cons rfl (fun K hK => ?_) AllReadyH.nil)
  go_simp
  go_at_call 13
  (with_reducible refine (num_any _ _).mono ?_)
  rintro e w' ⟨rfl, rfl⟩
  try dsimp only
  have hS := hS0
  refine hK.out _ _ hS (fun _ => ?_)
  clear hK K
  (try simp only [Act.put, List.getElem_toArray, List.getElem_cons_succ, List.getElem_cons_zero, List.setIfInBounds_toArray, List.set_cons_zero, List.set_cons_succ])
  refine wpAnyH_take (i := 13) (v := .bool true) rfl (by kernel_rfl) (by kernel_rfl) (by kernel_rfl) (fun _ _ _ h => h) (Or.inl ⟨by rfl, ?_⟩) (by assumption) ?_
  · intro wx hs1; clear hs1; go_simp
  (try simp only [Act.put, List.getElem_toArray, List.getElem_cons_succ, List.getElem_cons_zero, List.setIfInBounds_toArray, List.set_cons_zero, List.set_cons_succ])
  refine wpAnyH_take (i := 14) (v := .bool true) rfl (by kernel_rfl) (by kernel_rfl) (by kernel_rfl) (fun _ _ _ h => h) (Or.inl ⟨by rfl, ?_⟩) (by assumption) ?_
  · intro wx hs1; go_simp
  (try simp only [Act.put, List.getElem_toArray, List.getElem_cons_succ, List.getElem_cons_zero, List.setIfInBounds_toArray, List.set_cons_zero, List.set_cons_succ])
  obtain ⟨_, ⟨F0, F1, F2, F3, F4, F5, F6, F7, F8, F9⟩⟩ := ten r6
  refine wpAnyH_ready (rs := [15]) (by kernel_rfl) (by simp) (AllReadyH.cons rfl (fun K hK => ?_) AllReadyH.nil)
  go_simp
  try dsimp only
  have hS : (fun W => (W.cell? ⟨w4.heap.size, 0, none⟩ = some (.int .i64 N.c) ∧ W.cell? ⟨w4.heap.size, 1, none⟩ = some (.int .i64 N.s) ∧ W.cell? ⟨w4.heap.size, 2, none⟩ = some (.int .i64 N.pr) ∧ W.cell? ⟨w4.heap.size, 3, none⟩ = some (.int .i64 N.pp) ∧ W.cell? ⟨w4.heap.size, 4, none⟩ = some (.int .i64 N.ar) ∧ W.cell? ⟨w4.heap.size, 5, none⟩ = some (.int .i64 N.ap) ∧ W.cell? ⟨w4.heap.size, 6, none⟩ = some (.int .i64 N.k) ∧ W.cell? ⟨w4.heap.size, 7, none⟩ = some (.int .i64 N.m) ∧ W.cell? ⟨w4.heap.size, 8, none⟩ = some (.int .i64 N.n) ∧ W.cell? ⟨w4.heap.size, 9, none⟩ = some (.string N.t)) ∧ (W.cell? ⟨w4.heap.size + 1, 0, none⟩ = some (.int .i64 A.ar) ∧ W.cell? ⟨w4.heap.size + 1, 1, none⟩ = some (.int .i64 A.ap) ∧ W.cell? ⟨w4.heap.size + 1, 2, none⟩ = some (.int .i64 A.k) ∧ W.cell? ⟨w4.heap.size + 1, 3, none⟩ = some (.int .i64 A.m) ∧ W.cell? ⟨w4.heap.size + 1, 4, none⟩ = some (.int .i64 A.n) ∧ W.cell? ⟨w4.heap.size + 1, 5, none⟩ = some (.string A.t)) ∧ (W.cell? ⟨w6.heap.size, 0, none⟩ = some (.int .i64 A.ar) ∧ W.cell? ⟨w6.heap.size, 1, none⟩ = some (.int .i64 A.ap) ∧ W.cell? ⟨w6.heap.size, 2, none⟩ = some (.int .i64 A.k) ∧ W.cell? ⟨w6.heap.size, 3, none⟩ = some (.int .i64 A.m) ∧ W.cell? ⟨w6.heap.size, 4, none⟩ = some (.int .i64 A.n) ∧ W.cell? ⟨w6.heap.size, 5, none⟩ = some (.string A.t))) ((((((((((V0.setCell ⟨w.heap.size + 1 + 1, 0, none⟩ (.int .i64 N.c)).setCell ⟨w.heap.size + 1 + 1, 1, none⟩ (.int .i64 N.s)).setCell ⟨w.heap.size + 1 + 1, 2, none⟩ (.int .i64 N.pr)).setCell ⟨w.heap.size + 1 + 1, 3, none⟩ (.int .i64 N.pp)).setCell ⟨w.heap.size + 1 + 1, 4, none⟩ (.int .i64 N.ar)).setCell ⟨w.heap.size + 1 + 1, 5, none⟩ (.int .i64 N.ap)).setCell ⟨w.heap.size + 1 + 1, 6, none⟩ (.int .i64 N.k)).setCell ⟨w.heap.size + 1 + 1, 7, none⟩ (.int .i64 N.m)).setCell ⟨w.heap.size + 1 + 1, 8, none⟩ (.int .i64 N.n)).setCell ⟨w.heap.size + 1 + 1, 9, none⟩ (.string N.t)) := ⟨(ten (other10 (b := w.heap.size + 2) r8 (by omega) (.int .i64 N.c) (.int .i64 N.s) (.int .i64 N.pr) (.int .i64 N.pp) (.int .i64 N.ar) (.int .i64 N.ap) (.int .i64 N.k) (.int .i64 N.m) (.int .i64 N.n) (.string N.t))).1, (six (other10 (b := w.heap.size + 2) r9 (by omega) (.int .i64 N.c) (.int .i64 N.s) (.int .i64 N.pr) (.int .i64 N.pp) (.int .i64 N.ar) (.int .i64 N.ap) (.int .i64 N.k) (.int .i64 N.m) (.int .i64 N.n) (.string N.t))).1, (six (other10 (b := w.heap.size + 2) r10 (by omega) (.int .i64 N.c) (.int .i64 N.s) (.int .i64 N.pr) (.int .i64 N.pp) (.int .i64 N.ar) (.int .i64 N.ap) (.int .i64 N.k) (.int .i64 N.m) (.int .i64 N.n) (.string N.t))).1⟩
  refine hK.out _ _ hS (fun _ => ?_)
  clear hK K
  (try simp only [Act.put, List.getElem_toArray, List.getElem_cons_succ, List.getElem_cons_zero, List.setIfInBounds_toArray, List.set_cons_zero, List.set_cons_succ])
  clear F0 F1 F2 F3 F4 F5 F6 F7 F8 F9
  refine wpAnyH_take (i := 16) (v := .bool true) rfl (by kernel_rfl) (by kernel_rfl) (by kernel_rfl) (fun _ _ _ h => h) (Or.inl ⟨by rfl, ?_⟩) (by assumption) ?_
  · intro wx hs1; go_simp
  (try simp only [Act.put, List.getElem_toArray, List.getElem_cons_succ, List.getElem_cons_zero, List.setIfInBounds_toArray, List.set_cons_zero, List.set_cons_succ])
  refine wpAnyH_done (by kernel_rfl) ?_ _
  have ht := ten (set10 r6 (.int .i64 N.c) (.int .i64 N.s) (.int .i64 N.pr) (.int .i64 N.pp) (.int .i64 N.ar) (.int .i64 N.ap) (.int .i64 N.k) (.int .i64 N.m) (.int .i64 N.n) (.string N.t))
  go_wp2
  obtain ⟨⟨z0, z1, z2, z3, z4, z5, z6, z7, z8, z9⟩, _⟩ := ht
  refine bodyPost_ret (v := .tuple #[.agg #[.int .i64 N.c, .int .i64 N.s, .int .i64 N.pr, .int .i64 N.pp, .int .i64 N.ar, .int .i64 N.ap, .int .i64 N.k, .int .i64 N.m, .int .i64 N.n, .string N.t], .bool true]) (by simp only [results, Tryz.results17]; simp [go_sem, z0, z1, z2, z3, z4, z5, z6, z7, z8, z9]) rfl ⟨rfl, other10 (b := w.heap.size + 2) rA (by omega) (.int .i64 N.c) (.int .i64 N.s) (.int .i64 N.pr) (.int .i64 N.pp) (.int .i64 N.ar) (.int .i64 N.ap) (.int .i64 N.k) (.int .i64 N.m) (.int .i64 N.n) (.string N.t), buts10 rB (by omega) (.int .i64 N.c) (.int .i64 N.s) (.int .i64 N.pr) (.int .i64 N.pp) (.int .i64 N.ar) (.int .i64 N.ap) (.int .i64 N.k) (.int .i64 N.m) (.int .i64 N.n) (.string N.t)⟩
set_option maxRecDepth 100000 in
set_option maxHeartbeats 4000000 in
theorem Sm.act1_core (x r q k m n : Int) (t : ByteArray) (w : World) (p : Nat) (M N : AcM) (b : Bool) (E : Int) (hp : AAt w p M) (hx : (x == 0) = false) (hL : LaysT w)
    (hR : ∀ W, Calls Tryz.prog 36 #[.agg #[.int .i64 M.c, .int .i64 M.s, .int .i64 M.pr, .int .i64 M.pp, .int .i64 M.ar, .int .i64 M.ap, .int .i64 M.k, .int .i64 M.m, .int .i64 M.n, .string M.t], .agg #[.int .i64 r, .int .i64 q], .agg #[.int .i64 k, .int .i64 m, .int .i64 n, .string t]] W fun e w' => e = .returned (.tuple #[.agg #[.int .i64 N.c, .int .i64 N.s, .int .i64 N.pr, .int .i64 N.pp, .int .i64 N.ar, .int .i64 N.ap, .int .i64 N.k, .int .i64 N.m, .int .i64 N.n, .string N.t], .bool b, .int .i64 E]) ∧ Below W.heap.size W w')
    (hP : ∀ W, AAt W p M → LaysT W → Calls Tryz.prog 11 #[.pointer (some ⟨p, 0, none⟩), .agg #[.int .i64 r, .int .i64 q], .agg #[.int .i64 k, .int .i64 m, .int .i64 n, .string t]] W fun e w' => e = .returned (.tuple #[.bool b, .int .i64 E]) ∧ AAt w' p N ∧ But (Xp p) W w') :
    Calls Tryz.prog 17 #[.pointer (some ⟨p, 0, none⟩), .agg #[.int .i64 M.c, .int .i64 M.s, .int .i64 M.pr, .int .i64 M.pp, .int .i64 M.ar, .int .i64 M.ap, .int .i64 M.k, .int .i64 M.m, .int .i64 M.n, .string M.t], .agg #[.int .i64 x, .int .i64 r, .int .i64 q, .int .i64 k, .int .i64 m, .int .i64 n, .string t]] w fun e w' => e = .returned (.tuple #[.agg #[.int .i64 N.c, .int .i64 N.s, .int .i64 N.pr, .int .i64 N.pp, .int .i64 N.ar, .int .i64 N.ap, .int .i64 N.k, .int .i64 N.m, .int .i64 N.n, .string N.t], .bool true]) ∧ AAt w' p N ∧ But (Xp p) w w' := by
  obtain ⟨w3, hw3, k4, k5, k6, hb3, hz3⟩ := three_new w (.cells #[.int .i64 M.c, .int .i64 M.s, .int .i64 M.pr, .int .i64 M.pp, .int .i64 M.ar, .int .i64 M.ap, .int .i64 M.k, .int .i64 M.m, .int .i64 M.n, .string M.t] 38) (.cells #[.int .i64 x, .int .i64 r, .int .i64 q, .int .i64 k, .int .i64 m, .int .i64 n, .string t] 58) (.cells #[.int .i64 0, .int .i64 0, .int .i64 0, .int .i64 0, .int .i64 0, .int .i64 0, .int .i64 0, .int .i64 0, .int .i64 0, .string ⟨#[]⟩] 38)
  have hl := hp.lt
  have hp3 := hp.keep hb3
  have HQ : Hid (∀ W, Below w3.heap.size w3 W → AAt W p M ∧ W.heap[w.heap.size]? = some (.cells #[.int .i64 M.c, .int .i64 M.s, .int .i64 M.pr, .int .i64 M.pp, .int .i64 M.ar, .int .i64 M.ap, .int .i64 M.k, .int .i64 M.m, .int .i64 M.n, .string M.t] 38 (0, 0)) ∧ W.heap[w.heap.size + 1]? = some (.cells #[.int .i64 x, .int .i64 r, .int .i64 q, .int .i64 k, .int .i64 m, .int .i64 n, .string t] 58 (0, 0)) ∧ W.heap[w.heap.size + 2]? = some (.cells #[.int .i64 0, .int .i64 0, .int .i64 0, .int .i64 0, .int .i64 0, .int .i64 0, .int .i64 0, .int .i64 0, .int .i64 0, .string ⟨#[]⟩] 38 (0, 0))) := Lib.hid fun W hb =>
    ⟨hp3.keep hb, (hb.block _ (by omega)).trans k4, (hb.block _ (by omega)).trans k5, (hb.block _ (by omega)).trans k6⟩
  have HB3 := Lib.hid hb3
  obtain ⟨⟨d0, d1, d2, d3, d4, d5, d6, d7, d8, d9⟩, _⟩ := ten k4
  obtain ⟨x0, x1, x2, x3, x4, x5, x6⟩ := seven k5
  have HR := Lib.hid hR
  have HP := Lib.hid hP
  clear k4 k5 k6 hb3 hp hp3 hR hP
  have HL := Lib.hid (hL.keep HB3.out)
  clear hL
  go_enter Tryz.func17, Tryz.ntmps17
  go_upto_region 6 with (go_at_call 36; (with_reducible refine (HR.out _).mono ?_); rintro e w4 ⟨rfl, hb4⟩; have HB4 := Lib.hid hb4; clear hb4)
  have hb5 := (HB4.out.alloc HB4.out.size (.cells #[.int .i64 N.c, .int .i64 N.s, .int .i64 N.pr, .int .i64 N.pp, .int .i64 N.ar, .int .i64 N.ap, .int .i64 N.k, .int .i64 N.m, .int .i64 N.n, .string N.t] 38))
  have y8 := (World.alloc_heap_new w4 (.cells #[.int .i64 N.c, .int .i64 N.s, .int .i64 N.pr, .int .i64 N.pp, .int .i64 N.ar, .int .i64 N.ap, .int .i64 N.k, .int .i64 N.m, .int .i64 N.n, .string N.t] 38))
  obtain ⟨w5, hw5⟩ : ∃ v, (w4.alloc (.cells #[.int .i64 N.c, .int .i64 N.s, .int .i64 N.pr, .int .i64 N.pp, .int .i64 N.ar, .int .i64 N.ap, .int .i64 N.k, .int .i64 N.m, .int .i64 N.n, .string N.t] 38)) = v := ⟨_, rfl⟩
  rw [hw5] at hb5 y8 ⊢
  clear hw5 hw3 x0 x1 x2 x3 x4 x5 x6 d0 d1 d2 d3 d4 d5 d6 d7 d8 d9
  have hs4 : w3.heap.size ≤ w4.heap.size := HB4.out.size
  have HB5 := Lib.hid hb5
  have hl8 := (Array.getElem?_eq_some_iff.1 y8).1
  have HY := Lib.hid y8
  clear hb5 y8
  obtain ⟨x0, x1, x2, x3, x4, x5, x6⟩ := seven (HQ.out _ HB5.out).2.2.1
  go_upto_region 7 with (go_at_call 11; (with_reducible refine (HP.out _ (HQ.out _ HB5.out).1 (HL.out.keep HB5.out)).mono ?_); rintro e w6 ⟨rfl, hA6, hB6⟩; have HA6 := Lib.hid hA6; have HB6 := Lib.hid hB6; clear hA6 hB6)
  have hs5 := HB5.out.size
  have hs6 := HB6.out.size
  have n8 := HB6.out.box HY.out (by unfold Xp; omega)
  have n6 := HB6.out.box (HQ.out _ HB5.out).2.2.2 (by unfold Xp; omega)
  have nA : AAt w6 p N := HA6.out
  have nB : But (Xp p) w w6 := ((But.of_all (HB3.out.trans (HB5.out.mono HB3.out.size)) _).trans HB6.out (fun _ _ e => e))
  clear x0 x1 x2 x3 x4 x5 x6 HR HP
  have z0 : (fun W => (W.cell? ⟨w4.heap.size, 0, none⟩ = some (.int .i64 N.c) ∧ W.cell? ⟨w4.heap.size, 1, none⟩ = some (.int .i64 N.s) ∧ W.cell? ⟨w4.heap.size, 2, none⟩ = some (.int .i64 N.pr) ∧ W.cell? ⟨w4.heap.size, 3, none⟩ = some (.int .i64 N.pp) ∧ W.cell? ⟨w4.heap.size, 4, none⟩ = some (.int .i64 N.ar) ∧ W.cell? ⟨w4.heap.size, 5, none⟩ = some (.int .i64 N.ap) ∧ W.cell? ⟨w4.heap.size, 6, none⟩ = some (.int .i64 N.k) ∧ W.cell? ⟨w4.heap.size, 7, none⟩ = some (.int .i64 N.m) ∧ W.cell? ⟨w4.heap.size, 8, none⟩ = some (.int .i64 N.n) ∧ W.cell? ⟨w4.heap.size, 9, none⟩ = some (.string N.t))) w6 := (ten n8).1
  have r8 : w6.drew.heap[w4.heap.size]? = _ := n8
  have r6 : w6.drew.heap[w.heap.size + 2]? = _ := n6
  have rA : AAt w6.drew p N := nA
  have rB := nB.drew
  clear n8 n6 nA nB
  have hS0 : (fun W => (W.cell? ⟨w4.heap.size, 0, none⟩ = some (.int .i64 N.c) ∧ W.cell? ⟨w4.heap.size, 1, none⟩ = some (.int .i64 N.s) ∧ W.cell? ⟨w4.heap.size, 2, none⟩ = some (.int .i64 N.pr) ∧ W.cell? ⟨w4.heap.size, 3, none⟩ = some (.int .i64 N.pp) ∧ W.cell? ⟨w4.heap.size, 4, none⟩ = some (.int .i64 N.ar) ∧ W.cell? ⟨w4.heap.size, 5, none⟩ = some (.int .i64 N.ap) ∧ W.cell? ⟨w4.heap.size, 6, none⟩ = some (.int .i64 N.k) ∧ W.cell? ⟨w4.heap.size, 7, none⟩ = some (.int .i64 N.m) ∧ W.cell? ⟨w4.heap.size, 8, none⟩ = some (.int .i64 N.n) ∧ W.cell? ⟨w4.heap.size, 9, none⟩ = some (.string N.t))) w6.drew := z0
  refine wp_region_held_drew (S := fun W => (W.cell? ⟨w4.heap.size, 0, none⟩ = some (.int .i64 N.c) ∧ W.cell? ⟨w4.heap.size, 1, none⟩ = some (.int .i64 N.s) ∧ W.cell? ⟨w4.heap.size, 2, none⟩ = some (.int .i64 N.pr) ∧ W.cell? ⟨w4.heap.size, 3, none⟩ = some (.int .i64 N.pp) ∧ W.cell? ⟨w4.heap.size, 4, none⟩ = some (.int .i64 N.ar) ∧ W.cell? ⟨w4.heap.size, 5, none⟩ = some (.int .i64 N.ap) ∧ W.cell? ⟨w4.heap.size, 6, none⟩ = some (.int .i64 N.k) ∧ W.cell? ⟨w4.heap.size, 7, none⟩ = some (.int .i64 N.m) ∧ W.cell? ⟨w4.heap.size, 8, none⟩ = some (.int .i64 N.n) ∧ W.cell? ⟨w4.heap.size, 9, none⟩ = some (.string N.t))) rfl hS0 (fun hHeld => ?_)
  simp only [List.size_toArray, List.length_cons, List.length_nil, Nat.reduceAdd]
  have HB0 : Hid (Below w6.heap.size w6 w6.drew) := Lib.hid (Below.refl _ _).drew
  obtain ⟨V0, hV0⟩ : ∃ V, w6.drew = V := ⟨_, rfl⟩
  rw [hV0] at hHeld hS0 HB0 r8 r6 rA rB ⊢
  clear hV0
  refine wpAnyH_take (i := 0) (v := .agg #[.int .i64 N.c, .int .i64 N.s, .int .i64 N.pr, .int .i64 N.pp, .int .i64 N.ar, .int .i64 N.ap, .int .i64 N.k, .int .i64 N.m, .int .i64 N.n, .string N.t]) rfl (by kernel_rfl) (by kernel_rfl) (by kernel_rfl) (fun _ _ _ h => h) (Or.inl ⟨by rfl, ?_⟩) (by assumption) ?_
  · intro wx hs1; obtain ⟨s0, s1, s2, s3, s4, s5, s6, s7, s8, s9⟩ := hs1; go_simp
  (try simp only [Act.put, List.getElem_toArray, List.getElem_cons_zero, List.setIfInBounds_toArray, List.set_cons_zero, List.set_cons_succ])
  refine wpAnyH_take (i := 1) (v := .bool b) rfl (by kernel_rfl) (by kernel_rfl) (by kernel_rfl) (fun _ _ _ h => h) (Or.inl ⟨by rfl, ?_⟩) (by assumption) ?_
  · intro wx hs1; go_simp
  (try simp only [Act.put, List.getElem_toArray, List.getElem_cons_succ, List.getElem_cons_zero, List.setIfInBounds_toArray, List.set_cons_zero, List.set_cons_succ])
  refine wpAnyH_take (i := 2) (v := .bool b) rfl (by kernel_rfl) (by kernel_rfl) (by kernel_rfl) (fun _ _ _ h => h) (Or.inl ⟨by rfl, ?_⟩) (by assumption) ?_
  · intro wx hs1; go_simp
  (try simp only [Act.put, List.getElem_toArray, List.getElem_cons_succ, List.getElem_cons_zero, List.setIfInBounds_toArray, List.set_cons_zero, List.set_cons_succ])
  refine wpAnyH_take (i := 3) (v := .bool true) rfl (by kernel_rfl) (by kernel_rfl) (by kernel_rfl) (fun _ _ _ h => h) (Or.inl ⟨by rfl, ?_⟩) (by assumption) ?_
  · intro wx hs1; clear hs1; cases b <;> go_simp
  (try simp only [Act.put, List.getElem_toArray, List.getElem_cons_succ, List.getElem_cons_zero, List.setIfInBounds_toArray, List.set_cons_zero, List.set_cons_succ])
  refine wpAnyH_take (i := 4) (v := .bool true) rfl (by kernel_rfl) (by kernel_rfl) (by kernel_rfl) (fun _ _ _ h => h) (Or.inl ⟨by rfl, ?_⟩) (by assumption) ?_
  · intro wx hs1; go_simp
  (try simp only [Act.put, List.getElem_toArray, List.getElem_cons_succ, List.getElem_cons_zero, List.setIfInBounds_toArray, List.set_cons_zero, List.set_cons_succ])
  refine wpAnyH_take (i := 5) (v := .int .i64 E) rfl (by kernel_rfl) (by kernel_rfl) (by kernel_rfl) (fun _ _ _ h => h) (Or.inl ⟨by rfl, ?_⟩) (by assumption) ?_
  · intro wx hs1; go_simp
  (try simp only [Act.put, List.getElem_toArray, List.getElem_cons_succ, List.getElem_cons_zero, List.setIfInBounds_toArray, List.set_cons_zero, List.set_cons_succ])
  refine wpAnyH_take (i := 7) (v := .int .i64 E) rfl (by kernel_rfl) (by kernel_rfl) (by kernel_rfl) (fun _ _ _ h => h) (Or.inl ⟨by rfl, ?_⟩) (by assumption) ?_
  · intro wx hs1; go_simp
  (try simp only [Act.put, List.getElem_toArray, List.getElem_cons_succ, List.getElem_cons_zero, List.setIfInBounds_toArray, List.set_cons_zero, List.set_cons_succ])
  refine wpAnyH_ready (rs := [6]) (by kernel_rfl) (by simp) (AllReadyH.cons rfl (fun K hK => ?_) AllReadyH.nil)
  go_simp
  go_at_call 13
  (with_reducible refine (num_any _ _).mono ?_)
  rintro e w' ⟨rfl, rfl⟩
  try dsimp only
  have hS := hS0
  refine hK.out _ _ hS (fun _ => ?_)
  clear hK K
  (try simp only [Act.put, List.getElem_toArray, List.getElem_cons_succ, List.getElem_cons_zero, List.setIfInBounds_toArray, List.set_cons_zero, List.set_cons_succ])
  refine wpAnyH_take (i := 8) (v := .bool true) rfl (by kernel_rfl) (by kernel_rfl) (by kernel_rfl) (fun _ _ _ h => h) (Or.inl ⟨by rfl, ?_⟩) (by assumption) ?_
  · intro wx hs1; clear hs1; go_simp
  (try simp only [Act.put, List.getElem_toArray, List.getElem_cons_succ, List.getElem_cons_zero, List.setIfInBounds_toArray, List.set_cons_zero, List.set_cons_succ])
  refine wpAnyH_take (i := 9) (v := .bool true) rfl (by kernel_rfl) (by kernel_rfl) (by kernel_rfl) (fun _ _ _ h => h) (Or.inl ⟨by rfl, ?_⟩) (by assumption) ?_
  · intro wx hs1; go_simp
  (try simp only [Act.put, List.getElem_toArray, List.getElem_cons_succ, List.getElem_cons_zero, List.setIfInBounds_toArray, List.set_cons_zero, List.set_cons_succ])
  obtain ⟨_, ⟨F0, F1, F2, F3, F4, F5, F6, F7, F8, F9⟩⟩ := ten r6
  refine wpAnyH_ready (rs := [10]) (by kernel_rfl) (by simp) (AllReadyH.cons rfl (fun K hK => ?_) AllReadyH.nil)
  go_simp
  try dsimp only
  have hS : (fun W => (W.cell? ⟨w4.heap.size, 0, none⟩ = some (.int .i64 N.c) ∧ W.cell? ⟨w4.heap.size, 1, none⟩ = some (.int .i64 N.s) ∧ W.cell? ⟨w4.heap.size, 2, none⟩ = some (.int .i64 N.pr) ∧ W.cell? ⟨w4.heap.size, 3, none⟩ = some (.int .i64 N.pp) ∧ W.cell? ⟨w4.heap.size, 4, none⟩ = some (.int .i64 N.ar) ∧ W.cell? ⟨w4.heap.size, 5, none⟩ = some (.int .i64 N.ap) ∧ W.cell? ⟨w4.heap.size, 6, none⟩ = some (.int .i64 N.k) ∧ W.cell? ⟨w4.heap.size, 7, none⟩ = some (.int .i64 N.m) ∧ W.cell? ⟨w4.heap.size, 8, none⟩ = some (.int .i64 N.n) ∧ W.cell? ⟨w4.heap.size, 9, none⟩ = some (.string N.t))) ((((((((((V0.setCell ⟨w.heap.size + 1 + 1, 0, none⟩ (.int .i64 N.c)).setCell ⟨w.heap.size + 1 + 1, 1, none⟩ (.int .i64 N.s)).setCell ⟨w.heap.size + 1 + 1, 2, none⟩ (.int .i64 N.pr)).setCell ⟨w.heap.size + 1 + 1, 3, none⟩ (.int .i64 N.pp)).setCell ⟨w.heap.size + 1 + 1, 4, none⟩ (.int .i64 N.ar)).setCell ⟨w.heap.size + 1 + 1, 5, none⟩ (.int .i64 N.ap)).setCell ⟨w.heap.size + 1 + 1, 6, none⟩ (.int .i64 N.k)).setCell ⟨w.heap.size + 1 + 1, 7, none⟩ (.int .i64 N.m)).setCell ⟨w.heap.size + 1 + 1, 8, none⟩ (.int .i64 N.n)).setCell ⟨w.heap.size + 1 + 1, 9, none⟩ (.string N.t)) := (ten (other10 (b := w.heap.size + 2) r8 (by omega) (.int .i64 N.c) (.int .i64 N.s) (.int .i64 N.pr) (.int .i64 N.pp) (.int .i64 N.ar) (.int .i64 N.ap) (.int .i64 N.k) (.int .i64 N.m) (.int .i64 N.n) (.string N.t))).1
  refine hK.out _ _ hS (fun _ => ?_)
  clear hK K
  (try simp only [Act.put, List.getElem_toArray, List.getElem_cons_succ, List.getElem_cons_zero, List.setIfInBounds_toArray, List.set_cons_zero, List.set_cons_succ])
  clear F0 F1 F2 F3 F4 F5 F6 F7 F8 F9
  refine wpAnyH_take (i := 11) (v := .bool true) rfl (by kernel_rfl) (by kernel_rfl) (by kernel_rfl) (fun _ _ _ h => h) (Or.inl ⟨by rfl, ?_⟩) (by assumption) ?_
  · intro wx hs1; go_simp
  (try simp only [Act.put, List.getElem_toArray, List.getElem_cons_succ, List.getElem_cons_zero, List.setIfInBounds_toArray, List.set_cons_zero, List.set_cons_succ])
  refine wpAnyH_done (by kernel_rfl) ?_ _
  go_wp2
  have ht := ten (set10 r6 (.int .i64 N.c) (.int .i64 N.s) (.int .i64 N.pr) (.int .i64 N.pp) (.int .i64 N.ar) (.int .i64 N.ap) (.int .i64 N.k) (.int .i64 N.m) (.int .i64 N.n) (.string N.t))
  obtain ⟨⟨z0, z1, z2, z3, z4, z5, z6, z7, z8, z9⟩, _⟩ := ht
  refine bodyPost_ret (v := .tuple #[.agg #[.int .i64 N.c, .int .i64 N.s, .int .i64 N.pr, .int .i64 N.pp, .int .i64 N.ar, .int .i64 N.ap, .int .i64 N.k, .int .i64 N.m, .int .i64 N.n, .string N.t], .bool true]) (by simp only [results, Tryz.results17]; simp [go_sem, z0, z1, z2, z3, z4, z5, z6, z7, z8, z9]) rfl ⟨rfl, other10 (b := w.heap.size + 2) rA (by omega) (.int .i64 N.c) (.int .i64 N.s) (.int .i64 N.pr) (.int .i64 N.pp) (.int .i64 N.ar) (.int .i64 N.ap) (.int .i64 N.k) (.int .i64 N.m) (.int .i64 N.n) (.string N.t), buts10 rB (by omega) (.int .i64 N.c) (.int .i64 N.s) (.int .i64 N.pr) (.int .i64 N.pp) (.int .i64 N.ar) (.int .i64 N.ap) (.int .i64 N.k) (.int .i64 N.m) (.int .i64 N.n) (.string N.t)⟩
/-- what a call makes of an acceptor -/
def Sm.stM (M : AcM) (x r q k m n : Int) (t : ByteArray) : AcM := if x = 0 then prM M r q else acM M r q k m n t (entB k m n t)
theorem Sm.LaysT.but {w w' : World} {p : Nat} (h : LaysT w) (hb : But (Xp p) w w') (hp : 3 ≤ p) : LaysT w' := by
  have hs := h.size
  have k : ∀ b o, b < 3 → w'.cell? ⟨b, o, none⟩ = w.cell? ⟨b, o, none⟩ := fun b o hlt => hb.cell (p := ⟨b, o, none⟩) (by show b < _; omega) (by show ¬ (b = p); omega)
  exact ⟨Nat.le_trans hs hb.size, ⟨fun c hc => (k 0 c (by omega)).trans (h.tabs.1 c hc), fun i hi => ⟨(k 1 _ (by omega)).trans (h.tabs.2 i hi).1, (k 1 _ (by omega)).trans (h.tabs.2 i hi).2⟩⟩⟩
theorem Sm.act_any (x r q k m n : Int) (t : ByteArray) (w : World) (p : Nat) (M : AcM) (hp : AAt w p M) (hc : M.c ≠ 0) (hM : M.t.size ≤ 1000000) (ht : t.size ≤ 1000000) (hk : I64 k) (hL : LaysT w) :
    Calls Tryz.prog 17 #[.pointer (some ⟨p, 0, none⟩), .agg #[.int .i64 M.c, .int .i64 M.s, .int .i64 M.pr, .int .i64 M.pp, .int .i64 M.ar, .int .i64 M.ap, .int .i64 M.k, .int .i64 M.m, .int .i64 M.n, .string M.t], .agg #[.int .i64 x, .int .i64 r, .int .i64 q, .int .i64 k, .int .i64 m, .int .i64 n, .string t]] w fun e w' => e = .returned (.tuple #[.agg #[.int .i64 ((stM M x r q k m n t).c), .int .i64 ((stM M x r q k m n t).s), .int .i64 ((stM M x r q k m n t).pr), .int .i64 ((stM M x r q k m n t).pp), .int .i64 ((stM M x r q k m n t).ar), .int .i64 ((stM M x r q k m n t).ap), .int .i64 ((stM M x r q k m n t).k), .int .i64 ((stM M x r q k m n t).m), .int .i64 ((stM M x r q k m n t).n), .string ((stM M x r q k m n t).t)], .bool true]) ∧ AAt w' p (stM M x r q k m n t) ∧ But (Xp p) w w' := by
  unfold stM
  by_cases hx : x = 0
  · subst hx
    rw [if_pos rfl]
    have hv : ∃ A : AcM, acVal (prOk M r q) M = .agg #[.int .i64 A.ar, .int .i64 A.ap, .int .i64 A.k, .int .i64 A.m, .int .i64 A.n, .string A.t] := by
      unfold acVal
      split
      · exact ⟨M, rfl⟩
      · exact ⟨⟨0, 0, 0, 0, 0, 0, 0, 0, 0, ⟨#[]⟩⟩, rfl⟩
    obtain ⟨A, hA⟩ := hv
    exact act0_core r q k m n t w p M (prM M r q) A (prOk M r q) (prE M r q) hp (fun W => by have := rPromise_any r q M W; rwa [hA] at this) (fun W hW => by have := promise_any r q W p M hW hM hc; rwa [hA] at this)
  · rw [if_neg hx]
    exact act1_core x r q k m n t w p M _ _ _ hp (by simpa using hx) hL (fun W => rAccept_any r q k m n t M W ht) (fun W hW hLW => accept_any r q k m n t W p M hW hc hk ht hLW)
end Go.Proofs
namespace Go.Proofs
open Go Go.RowKit Sm Go.Lib
attribute [local go_sem] Oper.semAt_some
/-- what is accepted by no ballot is nothing -/
def Sm.GoodM (M : AcM) : Prop := M.ar = -1 → M.ap = 0 → M.k = 0 ∧ M.m = 0 ∧ M.n = 0 ∧ M.t = ⟨#[]⟩
set_option maxRecDepth 100000 in
set_option maxHeartbeats 4000000 in
theorem Sm.is_none (w : World) (p : Nat) (M : AcM) (hp : AAt w p M) (hc : M.c ≠ 0) (ht : M.t.size ≤ 1000000) (hn : noAcc M = true) (hno : decide (M.ar = -1 ∧ M.ap = 0) = true) :
    Calls Tryz.prog 18 #[.pointer (some ⟨p, 0, none⟩), .agg #[.int .i64 M.c, .int .i64 M.s, .int .i64 M.pr, .int .i64 M.pp, .int .i64 M.ar, .int .i64 M.ap, .int .i64 M.k, .int .i64 M.m, .int .i64 M.n, .string M.t]] w fun e w' => e = .returned (.bool true) ∧ Below w.heap.size w w' := by
  have hb1 : Below w.heap.size w (w.alloc (.cells #[.int .i64 M.c, .int .i64 M.s, .int .i64 M.pr, .int .i64 M.pp, .int .i64 M.ar, .int .i64 M.ap, .int .i64 M.k, .int .i64 M.m, .int .i64 M.n, .string M.t] 38)) := (Below.refl _ w).alloc (Nat.le_refl _) _
  have q1 := World.alloc_heap_new w (.cells #[.int .i64 M.c, .int .i64 M.s, .int .i64 M.pr, .int .i64 M.pp, .int .i64 M.ar, .int .i64 M.ap, .int .i64 M.k, .int .i64 M.m, .int .i64 M.n, .string M.t] 38)
  obtain ⟨w1, hw1⟩ : ∃ v, w.alloc (.cells #[.int .i64 M.c, .int .i64 M.s, .int .i64 M.pr, .int .i64 M.pp, .int .i64 M.ar, .int .i64 M.ap, .int .i64 M.k, .int .i64 M.m, .int .i64 M.n, .string M.t] 38) = v := ⟨_, rfl⟩
  rw [hw1] at hb1 q1
  have hp1 := hp.keep hb1
  have HA : Hid (∀ W, Below w1.heap.size w1 W → AAt W p M ∧ W.heap[w.heap.size]? = some (.cells #[.int .i64 M.c, .int .i64 M.s, .int .i64 M.pr, .int .i64 M.pp, .int .i64 M.ar, .int .i64 M.ap, .int .i64 M.k, .int .i64 M.m, .int .i64 M.n, .string M.t] 38 (0, 0))) := Lib.hid fun W hb => ⟨hp1.keep hb, (hb.block _ (Array.getElem?_eq_some_iff.1 q1).1).trans q1⟩
  have HAC : Hid (∀ W, Below w1.heap.size w1 W → Calls Tryz.prog 12 #[.pointer (some ⟨p, 0, none⟩)] W fun e w' => e = .returned (.tuple #[.agg #[.int .i64 0, .int .i64 0, .int .i64 0, .int .i64 0, .int .i64 0, .string ⟨#[]⟩], .bool false]) ∧ Below w1.heap.size w1 w') := Lib.hid fun W hb =>
    (accd_any W p M (hp1.keep hb) ht hc).mono fun e w' ⟨h1, h2⟩ => ⟨by rw [h1, hn]; rfl, hb.trans (h2.mono hb.size)⟩
  have HPR : Hid (∀ W, Below w1.heap.size w1 W → Calls Tryz.prog 14 #[.pointer (some ⟨p, 0, none⟩)] W fun e w' => e = .returned (.agg #[.int .i64 M.pr, .int .i64 M.pp]) ∧ Below w1.heap.size w1 w') := Lib.hid fun W hb =>
    (Promised_any W (some p) M (hp1.keep hb)).mono fun e w' ⟨h1, h2⟩ => ⟨h1, hb.trans (h2.mono hb.size)⟩
  have HNO : Hid (∀ W, Below w1.heap.size w1 W → Calls Tryz.prog 27 #[] W fun e w' => e = .returned (.agg #[.int .i64 (-1), .int .i64 0]) ∧ Below w1.heap.size w1 w') := Lib.hid fun W hb =>
    (None27 W).mono fun e w' ⟨h1, h2⟩ => ⟨h1, hb.trans (h2.mono hb.size)⟩
  have HB1 := Lib.hid hb1
  have hl := hp.lt
  clear hb1 q1 hp hp1 hc ht hn
  go_enter Tryz.func18, Tryz.ntmps18
  go_upto_region 2 with (go_at_call 12; (with_reducible refine (HAC.out _ (Below.refl _ _)).mono ?_); rintro e w2 ⟨rfl, hb2⟩)
  have hb3 := hb2.alloc hb2.size (.cells #[(.int .i64 0), (.int .i64 0), (.int .i64 0), (.int .i64 0), (.int .i64 0), (.string ⟨#[]⟩)] 36)
  have q3 := World.alloc_heap_new w2 (.cells #[(.int .i64 0), (.int .i64 0), (.int .i64 0), (.int .i64 0), (.int .i64 0), (.string ⟨#[]⟩)] 36)
  obtain ⟨w3, hw3⟩ : ∃ v, w2.alloc (.cells #[(.int .i64 0), (.int .i64 0), (.int .i64 0), (.int .i64 0), (.int .i64 0), (.string ⟨#[]⟩)] 36) = v := ⟨_, rfl⟩
  rw [hw3] at hb3 q3 ⊢
  clear hw3 hw1
  have HS : Hid (∀ W, Below w3.heap.size w3 W → (fun W => (W.cell? ⟨w.heap.size, 0, none⟩ = some (.int .i64 M.c) ∧ W.cell? ⟨w.heap.size, 1, none⟩ = some (.int .i64 M.s) ∧ W.cell? ⟨w.heap.size, 2, none⟩ = some (.int .i64 M.pr) ∧ W.cell? ⟨w.heap.size, 3, none⟩ = some (.int .i64 M.pp) ∧ W.cell? ⟨w.heap.size, 4, none⟩ = some (.int .i64 M.ar) ∧ W.cell? ⟨w.heap.size, 5, none⟩ = some (.int .i64 M.ap) ∧ W.cell? ⟨w.heap.size, 6, none⟩ = some (.int .i64 M.k) ∧ W.cell? ⟨w.heap.size, 7, none⟩ = some (.int .i64 M.m) ∧ W.cell? ⟨w.heap.size, 8, none⟩ = some (.int .i64 M.n) ∧ W.cell? ⟨w.heap.size, 9, none⟩ = some (.string M.t)) ∧ (W.cell? ⟨w2.heap.size, 0, none⟩ = some (.int .i64 0) ∧ W.cell? ⟨w2.heap.size, 1, none⟩ = some (.int .i64 0) ∧ W.cell? ⟨w2.heap.size, 2, none⟩ = some (.int .i64 0) ∧ W.cell? ⟨w2.heap.size, 3, none⟩ = some (.int .i64 0) ∧ W.cell? ⟨w2.heap.size, 4, none⟩ = some (.int .i64 0) ∧ W.cell? ⟨w2.heap.size, 5, none⟩ = some (.string ⟨#[]⟩))) W) := Lib.hid fun W hb => ⟨(ten (HA.out W (hb3.trans (hb.mono hb3.size))).2).1, (six ((hb.block _ (Array.getElem?_eq_some_iff.1 q3).1).trans q3)).1⟩
  have z0 : (fun W => (W.cell? ⟨w.heap.size, 0, none⟩ = some (.int .i64 M.c) ∧ W.cell? ⟨w.heap.size, 1, none⟩ = some (.int .i64 M.s) ∧ W.cell? ⟨w.heap.size, 2, none⟩ = some (.int .i64 M.pr) ∧ W.cell? ⟨w.heap.size, 3, none⟩ = some (.int .i64 M.pp) ∧ W.cell? ⟨w.heap.size, 4, none⟩ = some (.int .i64 M.ar) ∧ W.cell? ⟨w.heap.size, 5, none⟩ = some (.int .i64 M.ap) ∧ W.cell? ⟨w.heap.size, 6, none⟩ = some (.int .i64 M.k) ∧ W.cell? ⟨w.heap.size, 7, none⟩ = some (.int .i64 M.m) ∧ W.cell? ⟨w.heap.size, 8, none⟩ = some (.int .i64 M.n) ∧ W.cell? ⟨w.heap.size, 9, none⟩ = some (.string M.t)) ∧ (W.cell? ⟨w2.heap.size, 0, none⟩ = some (.int .i64 0) ∧ W.cell? ⟨w2.heap.size, 1, none⟩ = some (.int .i64 0) ∧ W.cell? ⟨w2.heap.size, 2, none⟩ = some (.int .i64 0) ∧ W.cell? ⟨w2.heap.size, 3, none⟩ = some (.int .i64 0) ∧ W.cell? ⟨w2.heap.size, 4, none⟩ = some (.int .i64 0) ∧ W.cell? ⟨w2.heap.size, 5, none⟩ = some (.string ⟨#[]⟩))) w3 := HS.out _ (Below.refl _ _)
  have HB3 := Lib.hid hb3
  have HNO3 : Hid (∀ W, Below w3.heap.size w3 W → Calls Tryz.prog 27 #[] W fun e w' => e = .returned (.agg #[.int .i64 (-1), .int .i64 0]) ∧ Below w3.heap.size w3 w') := Lib.hid fun W hb => (None27 W).mono fun e w' ⟨h1, h2⟩ => ⟨h1, hb.trans (h2.mono hb.size)⟩
  have HPR3 : Hid (∀ W, Below w3.heap.size w3 W → Calls Tryz.prog 14 #[.pointer (some ⟨p, 0, none⟩)] W fun e w' => e = .returned (.agg #[.int .i64 M.pr, .int .i64 M.pp]) ∧ Below w3.heap.size w3 w') := Lib.hid fun W hb => (Promised_any W (some p) M (HA.out W (hb3.trans (hb.mono hb3.size))).1).mono fun e w' ⟨h1, h2⟩ => ⟨h1, hb.trans (h2.mono hb.size)⟩
  clear hb2 hb3 q3 HAC HPR HNO HA
  have hS0 : (fun W => (W.cell? ⟨w.heap.size, 0, none⟩ = some (.int .i64 M.c) ∧ W.cell? ⟨w.heap.size, 1, none⟩ = some (.int .i64 M.s) ∧ W.cell? ⟨w.heap.size, 2, none⟩ = some (.int .i64 M.pr) ∧ W.cell? ⟨w.heap.size, 3, none⟩ = some (.int .i64 M.pp) ∧ W.cell? ⟨w.heap.size, 4, none⟩ = some (.int .i64 M.ar) ∧ W.cell? ⟨w.heap.size, 5, none⟩ = some (.int .i64 M.ap) ∧ W.cell? ⟨w.heap.size, 6, none⟩ = some (.int .i64 M.k) ∧ W.cell? ⟨w.heap.size, 7, none⟩ = some (.int .i64 M.m) ∧ W.cell? ⟨w.heap.size, 8, none⟩ = some (.int .i64 M.n) ∧ W.cell? ⟨w.heap.size, 9, none⟩ = some (.string M.t)) ∧ (W.cell? ⟨w2.heap.size, 0, none⟩ = some (.int .i64 0) ∧ W.cell? ⟨w2.heap.size, 1, none⟩ = some (.int .i64 0) ∧ W.cell? ⟨w2.heap.size, 2, none⟩ = some (.int .i64 0) ∧ W.cell? ⟨w2.heap.size, 3, none⟩ = some (.int .i64 0) ∧ W.cell? ⟨w2.heap.size, 4, none⟩ = some (.int .i64 0) ∧ W.cell? ⟨w2.heap.size, 5, none⟩ = some (.string ⟨#[]⟩))) w3.drew := z0
  refine wp_region_held_drew (S := fun W => (W.cell? ⟨w.heap.size, 0, none⟩ = some (.int .i64 M.c) ∧ W.cell? ⟨w.heap.size, 1, none⟩ = some (.int .i64 M.s) ∧ W.cell? ⟨w.heap.size, 2, none⟩ = some (.int .i64 M.pr) ∧ W.cell? ⟨w.heap.size, 3, none⟩ = some (.int .i64 M.pp) ∧ W.cell? ⟨w.heap.size, 4, none⟩ = some (.int .i64 M.ar) ∧ W.cell? ⟨w.heap.size, 5, none⟩ = some (.int .i64 M.ap) ∧ W.cell? ⟨w.heap.size, 6, none⟩ = some (.int .i64 M.k) ∧ W.cell? ⟨w.heap.size, 7, none⟩ = some (.int .i64 M.m) ∧ W.cell? ⟨w.heap.size, 8, none⟩ = some (.int .i64 M.n) ∧ W.cell? ⟨w.heap.size, 9, none⟩ = some (.string M.t)) ∧ (W.cell? ⟨w2.heap.size, 0, none⟩ = some (.int .i64 0) ∧ W.cell? ⟨w2.heap.size, 1, none⟩ = some (.int .i64 0) ∧ W.cell? ⟨w2.heap.size, 2, none⟩ = some (.int .i64 0) ∧ W.cell? ⟨w2.heap.size, 3, none⟩ = some (.int .i64 0) ∧ W.cell? ⟨w2.heap.size, 4, none⟩ = some (.int .i64 0) ∧ W.cell? ⟨w2.heap.size, 5, none⟩ = some (.string ⟨#[]⟩))) rfl hS0 (fun hHeld => ?_)
  simp only [List.size_toArray, List.length_cons, List.length_nil, Nat.reduceAdd]
  have HB0 : Hid (Below w3.heap.size w3 w3.drew) := Lib.hid (Below.refl _ _).drew
  obtain ⟨V0, hV0⟩ : ∃ V, w3.drew = V := ⟨_, rfl⟩
  rw [hV0] at hHeld hS0 HB0 ⊢
  clear hV0
  refine wpAnyH_take (i := 0) (v := .pointer (some ⟨w.heap.size, 4, none⟩)) rfl (by kernel_rfl) (by kernel_rfl) (by kernel_rfl) (fun _ _ _ h => h) (Or.inl ⟨by rfl, ?_⟩) (by assumption) ?_
  · intro wx hs1; go_simp
  (try simp only [Act.put, List.getElem_toArray, List.getElem_cons_zero, List.setIfInBounds_toArray, List.set_cons_zero, List.set_cons_succ])
  refine wpAnyH_take (i := 1) (v := .pointer (some ⟨w.heap.size, 4, none⟩)) rfl (by kernel_rfl) (by kernel_rfl) (by kernel_rfl) (fun _ _ _ h => h) (Or.inl ⟨by rfl, ?_⟩) (by assumption) ?_
  · intro wx hs1; go_simp
  (try simp only [Act.put, List.getElem_toArray, List.getElem_cons_succ, List.getElem_cons_zero, List.setIfInBounds_toArray, List.set_cons_zero, List.set_cons_succ])
  refine wpAnyH_take (i := 2) (v := .agg #[.int .i64 M.ar, .int .i64 M.ap]) rfl (by kernel_rfl) (by kernel_rfl) (by kernel_rfl) (fun _ _ _ h => h) (Or.inl ⟨by rfl, ?_⟩) (by assumption) ?_
  · intro wx hs1; obtain ⟨⟨s0, s1, s2, s3, s4, s5, s6, s7, s8, s9⟩, ⟨u0, u1, u2, u3, u4, u5⟩⟩ := hs1; go_simp
  (try simp only [Act.put, List.getElem_toArray, List.getElem_cons_succ, List.getElem_cons_zero, List.setIfInBounds_toArray, List.set_cons_zero, List.set_cons_succ])
  refine wpAnyH_ready (rs := [3]) (by kernel_rfl) (by simp) (AllReadyH.cons rfl (fun K hK => ?_) AllReadyH.nil)
  go_simp
  go_at_call 27
  (with_reducible refine (HNO3.out _ HB0.out).mono ?_)
  rintro e w4 ⟨rfl, hb4⟩
  try dsimp only
  have HB4 := Lib.hid hb4; clear hb4; have hS : (fun W => (W.cell? ⟨w.heap.size, 0, none⟩ = some (.int .i64 M.c) ∧ W.cell? ⟨w.heap.size, 1, none⟩ = some (.int .i64 M.s) ∧ W.cell? ⟨w.heap.size, 2, none⟩ = some (.int .i64 M.pr) ∧ W.cell? ⟨w.heap.size, 3, none⟩ = some (.int .i64 M.pp) ∧ W.cell? ⟨w.heap.size, 4, none⟩ = some (.int .i64 M.ar) ∧ W.cell? ⟨w.heap.size, 5, none⟩ = some (.int .i64 M.ap) ∧ W.cell? ⟨w.heap.size, 6, none⟩ = some (.int .i64 M.k) ∧ W.cell? ⟨w.heap.size, 7, none⟩ = some (.int .i64 M.m) ∧ W.cell? ⟨w.heap.size, 8, none⟩ = some (.int .i64 M.n) ∧ W.cell? ⟨w.heap.size, 9, none⟩ = some (.string M.t)) ∧ (W.cell? ⟨w2.heap.size, 0, none⟩ = some (.int .i64 0) ∧ W.cell? ⟨w2.heap.size, 1, none⟩ = some (.int .i64 0) ∧ W.cell? ⟨w2.heap.size, 2, none⟩ = some (.int .i64 0) ∧ W.cell? ⟨w2.heap.size, 3, none⟩ = some (.int .i64 0) ∧ W.cell? ⟨w2.heap.size, 4, none⟩ = some (.int .i64 0) ∧ W.cell? ⟨w2.heap.size, 5, none⟩ = some (.string ⟨#[]⟩))) w4 := HS.out w4 HB4.out
  refine hK.out _ _ hS (fun _ => ?_)
  clear hK K
  (try simp only [Act.put, List.getElem_toArray, List.getElem_cons_succ, List.getElem_cons_zero, List.setIfInBounds_toArray, List.set_cons_zero, List.set_cons_succ])
  refine wpAnyH_take (i := 4) (v := .bool true) rfl (by kernel_rfl) (by kernel_rfl) (by kernel_rfl) (fun _ _ _ h => h) (Or.inl ⟨by rfl, ?_⟩) (by assumption) ?_
  · intro wx hs1; clear hs1; go_simp; have h4 := of_decide_eq_true hno; simp [h4.1, h4.2]
  (try simp only [Act.put, List.getElem_toArray, List.getElem_cons_succ, List.getElem_cons_zero, List.setIfInBounds_toArray, List.set_cons_zero, List.set_cons_succ])
  refine wpAnyH_done (by kernel_rfl) ?_ _
  go_upto_region 3 with fail
  have hT : (fun W => (W.cell? ⟨w.heap.size, 0, none⟩ = some (.int .i64 M.c) ∧ W.cell? ⟨w.heap.size, 1, none⟩ = some (.int .i64 M.s) ∧ W.cell? ⟨w.heap.size, 2, none⟩ = some (.int .i64 M.pr) ∧ W.cell? ⟨w.heap.size, 3, none⟩ = some (.int .i64 M.pp) ∧ W.cell? ⟨w.heap.size, 4, none⟩ = some (.int .i64 M.ar) ∧ W.cell? ⟨w.heap.size, 5, none⟩ = some (.int .i64 M.ap) ∧ W.cell? ⟨w.heap.size, 6, none⟩ = some (.int .i64 M.k) ∧ W.cell? ⟨w.heap.size, 7, none⟩ = some (.int .i64 M.m) ∧ W.cell? ⟨w.heap.size, 8, none⟩ = some (.int .i64 M.n) ∧ W.cell? ⟨w.heap.size, 9, none⟩ = some (.string M.t)) ∧ (W.cell? ⟨w2.heap.size, 0, none⟩ = some (.int .i64 0) ∧ W.cell? ⟨w2.heap.size, 1, none⟩ = some (.int .i64 0) ∧ W.cell? ⟨w2.heap.size, 2, none⟩ = some (.int .i64 0) ∧ W.cell? ⟨w2.heap.size, 3, none⟩ = some (.int .i64 0) ∧ W.cell? ⟨w2.heap.size, 4, none⟩ = some (.int .i64 0) ∧ W.cell? ⟨w2.heap.size, 5, none⟩ = some (.string ⟨#[]⟩))) w4 := HS.out w4 HB4.out
  have hT0 : (fun W => (W.cell? ⟨w.heap.size, 0, none⟩ = some (.int .i64 M.c) ∧ W.cell? ⟨w.heap.size, 1, none⟩ = some (.int .i64 M.s) ∧ W.cell? ⟨w.heap.size, 2, none⟩ = some (.int .i64 M.pr) ∧ W.cell? ⟨w.heap.size, 3, none⟩ = some (.int .i64 M.pp) ∧ W.cell? ⟨w.heap.size, 4, none⟩ = some (.int .i64 M.ar) ∧ W.cell? ⟨w.heap.size, 5, none⟩ = some (.int .i64 M.ap) ∧ W.cell? ⟨w.heap.size, 6, none⟩ = some (.int .i64 M.k) ∧ W.cell? ⟨w.heap.size, 7, none⟩ = some (.int .i64 M.m) ∧ W.cell? ⟨w.heap.size, 8, none⟩ = some (.int .i64 M.n) ∧ W.cell? ⟨w.heap.size, 9, none⟩ = some (.string M.t)) ∧ (W.cell? ⟨w2.heap.size, 0, none⟩ = some (.int .i64 0) ∧ W.cell? ⟨w2.heap.size, 1, none⟩ = some (.int .i64 0) ∧ W.cell? ⟨w2.heap.size, 2, none⟩ = some (.int .i64 0) ∧ W.cell? ⟨w2.heap.size, 3, none⟩ = some (.int .i64 0) ∧ W.cell? ⟨w2.heap.size, 4, none⟩ = some (.int .i64 0) ∧ W.cell? ⟨w2.heap.size, 5, none⟩ = some (.string ⟨#[]⟩))) w4.drew := hT
  refine wp_region_held_drew (S := fun W => (W.cell? ⟨w.heap.size, 0, none⟩ = some (.int .i64 M.c) ∧ W.cell? ⟨w.heap.size, 1, none⟩ = some (.int .i64 M.s) ∧ W.cell? ⟨w.heap.size, 2, none⟩ = some (.int .i64 M.pr) ∧ W.cell? ⟨w.heap.size, 3, none⟩ = some (.int .i64 M.pp) ∧ W.cell? ⟨w.heap.size, 4, none⟩ = some (.int .i64 M.ar) ∧ W.cell? ⟨w.heap.size, 5, none⟩ = some (.int .i64 M.ap) ∧ W.cell? ⟨w.heap.size, 6, none⟩ = some (.int .i64 M.k) ∧ W.cell? ⟨w.heap.size, 7, none⟩ = some (.int .i64 M.m) ∧ W.cell? ⟨w.heap.size, 8, none⟩ = some (.int .i64 M.n) ∧ W.cell? ⟨w.heap.size, 9, none⟩ = some (.string M.t)) ∧ (W.cell? ⟨w2.heap.size, 0, none⟩ = some (.int .i64 0) ∧ W.cell? ⟨w2.heap.size, 1, none⟩ = some (.int .i64 0) ∧ W.cell? ⟨w2.heap.size, 2, none⟩ = some (.int .i64 0) ∧ W.cell? ⟨w2.heap.size, 3, none⟩ = some (.int .i64 0) ∧ W.cell? ⟨w2.heap.size, 4, none⟩ = some (.int .i64 0) ∧ W.cell? ⟨w2.heap.size, 5, none⟩ = some (.string ⟨#[]⟩))) rfl hT0 (fun hHeld => ?_)
  simp only [List.size_toArray, List.length_cons, List.length_nil, Nat.reduceAdd]
  have HC0 : Hid (Below w4.heap.size w4 w4.drew) := Lib.hid (Below.refl _ _).drew
  obtain ⟨V1, hV1⟩ : ∃ V, w4.drew = V := ⟨_, rfl⟩
  rw [hV1] at hHeld hT0 HC0 ⊢
  clear hV1
  refine wpAnyH_take (i := 0) (v := .bool false) rfl (by kernel_rfl) (by kernel_rfl) (by kernel_rfl) (fun _ _ _ h => h) (Or.inl ⟨by rfl, ?_⟩) (by assumption) ?_
  · intro wx hs1; go_simp
  (try simp only [Act.put, List.getElem_toArray, List.getElem_cons_zero, List.setIfInBounds_toArray, List.set_cons_zero, List.set_cons_succ])
  refine wpAnyH_take (i := 1) (v := .bool true) rfl (by kernel_rfl) (by kernel_rfl) (by kernel_rfl) (fun _ _ _ h => h) (Or.inl ⟨by rfl, ?_⟩) (by assumption) ?_
  · intro wx hs1; go_simp
  (try simp only [Act.put, List.getElem_toArray, List.getElem_cons_succ, List.getElem_cons_zero, List.setIfInBounds_toArray, List.set_cons_zero, List.set_cons_succ])
  refine wpAnyH_take (i := 2) (v := .bool true) rfl (by kernel_rfl) (by kernel_rfl) (by kernel_rfl) (fun _ _ _ h => h) (Or.inl ⟨by rfl, ?_⟩) (by assumption) ?_
  · intro wx hs1; go_simp
  (try simp only [Act.put, List.getElem_toArray, List.getElem_cons_succ, List.getElem_cons_zero, List.setIfInBounds_toArray, List.set_cons_zero, List.set_cons_succ])
  refine wpAnyH_take (i := 3) (v := .agg #[(.int .i64 0), (.int .i64 0), (.int .i64 0), (.int .i64 0), (.int .i64 0), (.string ⟨#[]⟩)]) rfl (by kernel_rfl) (by kernel_rfl) (by kernel_rfl) (fun _ _ _ h => h) (Or.inl ⟨by rfl, ?_⟩) (by assumption) ?_
  · intro wx hs1; obtain ⟨⟨s0, s1, s2, s3, s4, s5, s6, s7, s8, s9⟩, ⟨u0, u1, u2, u3, u4, u5⟩⟩ := hs1; go_simp
  (try simp only [Act.put, List.getElem_toArray, List.getElem_cons_succ, List.getElem_cons_zero, List.setIfInBounds_toArray, List.set_cons_zero, List.set_cons_succ])
  refine wpAnyH_take (i := 4) (v := .agg #[(.int .i64 0), (.int .i64 0), (.int .i64 0), (.int .i64 0), (.int .i64 0), (.string ⟨#[]⟩)]) rfl (by kernel_rfl) (by kernel_rfl) (by kernel_rfl) (fun _ _ _ h => h) (Or.inl ⟨by rfl, ?_⟩) (by assumption) ?_
  · intro wx hs1; go_simp
  (try simp only [Act.put, List.getElem_toArray, List.getElem_cons_succ, List.getElem_cons_zero, List.setIfInBounds_toArray, List.set_cons_zero, List.set_cons_succ])
  refine wpAnyH_take (i := 5) (v := .bool true) rfl (by kernel_rfl) (by kernel_rfl) (by kernel_rfl) (fun _ _ _ h => h) (Or.inl ⟨by rfl, ?_⟩) (by assumption) ?_
  · intro wx hs1; clear hs1; have e3 := eql36 wx 0 0 0 0 0 0 0 0 0 0 ⟨#[]⟩ ⟨#[]⟩; simp only [and_self, decide_true] at e3; go_simp
  (try simp only [Act.put, List.getElem_toArray, List.getElem_cons_succ, List.getElem_cons_zero, List.setIfInBounds_toArray, List.set_cons_zero, List.set_cons_succ])
  refine wpAnyH_take (i := 6) (v := .bool true) rfl (by kernel_rfl) (by kernel_rfl) (by kernel_rfl) (fun _ _ _ h => h) (Or.inl ⟨by rfl, ?_⟩) (by assumption) ?_
  · intro wx hs1; go_simp
  (try simp only [Act.put, List.getElem_toArray, List.getElem_cons_succ, List.getElem_cons_zero, List.setIfInBounds_toArray, List.set_cons_zero, List.set_cons_succ])
  refine wpAnyH_take (i := 7) (v := .bool true) rfl (by kernel_rfl) (by kernel_rfl) (by kernel_rfl) (fun _ _ _ h => h) (Or.inl ⟨by rfl, ?_⟩) (by assumption) ?_
  · intro wx hs1; go_simp
  (try simp only [Act.put, List.getElem_toArray, List.getElem_cons_succ, List.getElem_cons_zero, List.setIfInBounds_toArray, List.set_cons_zero, List.set_cons_succ])
  refine wpAnyH_take (i := 8) (v := .pointer (some ⟨p, 0, none⟩)) rfl (by kernel_rfl) (by kernel_rfl) (by kernel_rfl) (fun _ _ _ h => h) (Or.inl ⟨by rfl, ?_⟩) (by assumption) ?_
  · intro wx hs1; go_simp
  (try simp only [Act.put, List.getElem_toArray, List.getElem_cons_succ, List.getElem_cons_zero, List.setIfInBounds_toArray, List.set_cons_zero, List.set_cons_succ])
  refine wpAnyH_take (i := 10) (v := .pointer (some ⟨w.heap.size, 2, none⟩)) rfl (by kernel_rfl) (by kernel_rfl) (by kernel_rfl) (fun _ _ _ h => h) (Or.inl ⟨by rfl, ?_⟩) (by assumption) ?_
  · intro wx hs1; go_simp
  (try simp only [Act.put, List.getElem_toArray, List.getElem_cons_succ, List.getElem_cons_zero, List.setIfInBounds_toArray, List.set_cons_zero, List.set_cons_succ])
  refine wpAnyH_take (i := 11) (v := .agg #[.int .i64 M.pr, .int .i64 M.pp]) rfl (by kernel_rfl) (by kernel_rfl) (by kernel_rfl) (fun _ _ _ h => h) (Or.inl ⟨by rfl, ?_⟩) (by assumption) ?_
  · intro wx hs1; obtain ⟨⟨s0, s1, s2, s3, s4, s5, s6, s7, s8, s9⟩, ⟨u0, u1, u2, u3, u4, u5⟩⟩ := hs1; go_simp
  (try simp only [Act.put, List.getElem_toArray, List.getElem_cons_succ, List.getElem_cons_zero, List.setIfInBounds_toArray, List.set_cons_zero, List.set_cons_succ])
  refine wpAnyH_ready (rs := [9]) (by kernel_rfl) (by simp) (AllReadyH.cons rfl (fun K hK => ?_) AllReadyH.nil)
  go_simp
  go_at_call 14
  (with_reducible refine (HPR3.out _ (HB4.out.trans (HC0.out.mono HB4.out.size))).mono ?_)
  rintro e w5 ⟨rfl, hb5⟩
  try dsimp only
  have HB5 := Lib.hid hb5; clear hb5; have hS : (fun W => (W.cell? ⟨w.heap.size, 0, none⟩ = some (.int .i64 M.c) ∧ W.cell? ⟨w.heap.size, 1, none⟩ = some (.int .i64 M.s) ∧ W.cell? ⟨w.heap.size, 2, none⟩ = some (.int .i64 M.pr) ∧ W.cell? ⟨w.heap.size, 3, none⟩ = some (.int .i64 M.pp) ∧ W.cell? ⟨w.heap.size, 4, none⟩ = some (.int .i64 M.ar) ∧ W.cell? ⟨w.heap.size, 5, none⟩ = some (.int .i64 M.ap) ∧ W.cell? ⟨w.heap.size, 6, none⟩ = some (.int .i64 M.k) ∧ W.cell? ⟨w.heap.size, 7, none⟩ = some (.int .i64 M.m) ∧ W.cell? ⟨w.heap.size, 8, none⟩ = some (.int .i64 M.n) ∧ W.cell? ⟨w.heap.size, 9, none⟩ = some (.string M.t)) ∧ (W.cell? ⟨w2.heap.size, 0, none⟩ = some (.int .i64 0) ∧ W.cell? ⟨w2.heap.size, 1, none⟩ = some (.int .i64 0) ∧ W.cell? ⟨w2.heap.size, 2, none⟩ = some (.int .i64 0) ∧ W.cell? ⟨w2.heap.size, 3, none⟩ = some (.int .i64 0) ∧ W.cell? ⟨w2.heap.size, 4, none⟩ = some (.int .i64 0) ∧ W.cell? ⟨w2.heap.size, 5, none⟩ = some (.string ⟨#[]⟩))) w5 := HS.out w5 HB5.out
  refine hK.out _ _ hS (fun _ => ?_)
  clear hK K
  (try simp only [Act.put, List.getElem_toArray, List.getElem_cons_succ, List.getElem_cons_zero, List.setIfInBounds_toArray, List.set_cons_zero, List.set_cons_succ])
  refine wpAnyH_take (i := 12) (v := .bool true) rfl (by kernel_rfl) (by kernel_rfl) (by kernel_rfl) (fun _ _ _ h => h) (Or.inl ⟨by rfl, ?_⟩) (by assumption) ?_
  · intro wx hs1; clear hs1; have e3 := eql31 wx M.pr M.pr M.pp M.pp; simp only [and_self, decide_true] at e3; go_simp
  (try simp only [Act.put, List.getElem_toArray, List.getElem_cons_succ, List.getElem_cons_zero, List.setIfInBounds_toArray, List.set_cons_zero, List.set_cons_succ])
  refine wpAnyH_take (i := 13) (v := .bool true) rfl (by kernel_rfl) (by kernel_rfl) (by kernel_rfl) (fun _ _ _ h => h) (Or.inl ⟨by rfl, ?_⟩) (by assumption) ?_
  · intro wx hs1; go_simp
  (try simp only [Act.put, List.getElem_toArray, List.getElem_cons_succ, List.getElem_cons_zero, List.setIfInBounds_toArray, List.set_cons_zero, List.set_cons_succ])
  refine wpAnyH_take (i := 14) (v := .bool true) rfl (by kernel_rfl) (by kernel_rfl) (by kernel_rfl) (fun _ _ _ h => h) (Or.inl ⟨by rfl, ?_⟩) (by assumption) ?_
  · intro wx hs1; go_simp
  (try simp only [Act.put, List.getElem_toArray, List.getElem_cons_succ, List.getElem_cons_zero, List.setIfInBounds_toArray, List.set_cons_zero, List.set_cons_succ])
  refine wpAnyH_done (by kernel_rfl) ?_ _
  go_wp2
  go_ret
  exact ⟨rfl, HB1.out.trans ((HB3.out.trans (HB5.out.mono HB3.out.size)).mono HB1.out.size)⟩
set_option maxRecDepth 100000 in
set_option maxHeartbeats 4000000 in
theorem Sm.is_some (w : World) (p : Nat) (M : AcM) (hp : AAt w p M) (hc : M.c ≠ 0) (ht : M.t.size ≤ 1000000) (hn : noAcc M = false) (hno : decide (M.ar = -1 ∧ M.ap = 0) = false) :
    Calls Tryz.prog 18 #[.pointer (some ⟨p, 0, none⟩), .agg #[.int .i64 M.c, .int .i64 M.s, .int .i64 M.pr, .int .i64 M.pp, .int .i64 M.ar, .int .i64 M.ap, .int .i64 M.k, .int .i64 M.m, .int .i64 M.n, .string M.t]] w fun e w' => e = .returned (.bool true) ∧ Below w.heap.size w w' := by
  have hb1 : Below w.heap.size w (w.alloc (.cells #[.int .i64 M.c, .int .i64 M.s, .int .i64 M.pr, .int .i64 M.pp, .int .i64 M.ar, .int .i64 M.ap, .int .i64 M.k, .int .i64 M.m, .int .i64 M.n, .string M.t] 38)) := (Below.refl _ w).alloc (Nat.le_refl _) _
  have q1 := World.alloc_heap_new w (.cells #[.int .i64 M.c, .int .i64 M.s, .int .i64 M.pr, .int .i64 M.pp, .int .i64 M.ar, .int .i64 M.ap, .int .i64 M.k, .int .i64 M.m, .int .i64 M.n, .string M.t] 38)
  obtain ⟨w1, hw1⟩ : ∃ v, w.alloc (.cells #[.int .i64 M.c, .int .i64 M.s, .int .i64 M.pr, .int .i64 M.pp, .int .i64 M.ar, .int .i64 M.ap, .int .i64 M.k, .int .i64 M.m, .int .i64 M.n, .string M.t] 38) = v := ⟨_, rfl⟩
  rw [hw1] at hb1 q1
  have hp1 := hp.keep hb1
  have HA : Hid (∀ W, Below w1.heap.size w1 W → AAt W p M ∧ W.heap[w.heap.size]? = some (.cells #[.int .i64 M.c, .int .i64 M.s, .int .i64 M.pr, .int .i64 M.pp, .int .i64 M.ar, .int .i64 M.ap, .int .i64 M.k, .int .i64 M.m, .int .i64 M.n, .string M.t] 38 (0, 0))) := Lib.hid fun W hb => ⟨hp1.keep hb, (hb.block _ (Array.getElem?_eq_some_iff.1 q1).1).trans q1⟩
  have HAC : Hid (∀ W, Below w1.heap.size w1 W → Calls Tryz.prog 12 #[.pointer (some ⟨p, 0, none⟩)] W fun e w' => e = .returned (.tuple #[.agg #[.int .i64 M.ar, .int .i64 M.ap, .int .i64 M.k, .int .i64 M.m, .int .i64 M.n, .string M.t], .bool true]) ∧ Below w1.heap.size w1 w') := Lib.hid fun W hb =>
    (accd_any W p M (hp1.keep hb) ht hc).mono fun e w' ⟨h1, h2⟩ => ⟨by rw [h1, hn]; rfl, hb.trans (h2.mono hb.size)⟩
  have HPR : Hid (∀ W, Below w1.heap.size w1 W → Calls Tryz.prog 14 #[.pointer (some ⟨p, 0, none⟩)] W fun e w' => e = .returned (.agg #[.int .i64 M.pr, .int .i64 M.pp]) ∧ Below w1.heap.size w1 w') := Lib.hid fun W hb =>
    (Promised_any W (some p) M (hp1.keep hb)).mono fun e w' ⟨h1, h2⟩ => ⟨h1, hb.trans (h2.mono hb.size)⟩
  have HNO : Hid (∀ W, Below w1.heap.size w1 W → Calls Tryz.prog 27 #[] W fun e w' => e = .returned (.agg #[.int .i64 (-1), .int .i64 0]) ∧ Below w1.heap.size w1 w') := Lib.hid fun W hb =>
    (None27 W).mono fun e w' ⟨h1, h2⟩ => ⟨h1, hb.trans (h2.mono hb.size)⟩
  have HB1 := Lib.hid hb1
  have hl := hp.lt
  clear hb1 q1 hp hp1 hc ht hn
  go_enter Tryz.func18, Tryz.ntmps18
  go_upto_region 2 with (go_at_call 12; (with_reducible refine (HAC.out _ (Below.refl _ _)).mono ?_); rintro e w2 ⟨rfl, hb2⟩)
  have hb3 := hb2.alloc hb2.size (.cells #[(.int .i64 M.ar), (.int .i64 M.ap), (.int .i64 M.k), (.int .i64 M.m), (.int .i64 M.n), (.string M.t)] 36)
  have q3 := World.alloc_heap_new w2 (.cells #[(.int .i64 M.ar), (.int .i64 M.ap), (.int .i64 M.k), (.int .i64 M.m), (.int .i64 M.n), (.string M.t)] 36)
  obtain ⟨w3, hw3⟩ : ∃ v, w2.alloc (.cells #[(.int .i64 M.ar), (.int .i64 M.ap), (.int .i64 M.k), (.int .i64 M.m), (.int .i64 M.n), (.string M.t)] 36) = v := ⟨_, rfl⟩
  rw [hw3] at hb3 q3 ⊢
  clear hw3 hw1
  have HS : Hid (∀ W, Below w3.heap.size w3 W → (fun W => (W.cell? ⟨w.heap.size, 0, none⟩ = some (.int .i64 M.c) ∧ W.cell? ⟨w.heap.size, 1, none⟩ = some (.int .i64 M.s) ∧ W.cell? ⟨w.heap.size, 2, none⟩ = some (.int .i64 M.pr) ∧ W.cell? ⟨w.heap.size, 3, none⟩ = some (.int .i64 M.pp) ∧ W.cell? ⟨w.heap.size, 4, none⟩ = some (.int .i64 M.ar) ∧ W.cell? ⟨w.heap.size, 5, none⟩ = some (.int .i64 M.ap) ∧ W.cell? ⟨w.heap.size, 6, none⟩ = some (.int .i64 M.k) ∧ W.cell? ⟨w.heap.size, 7, none⟩ = some (.int .i64 M.m) ∧ W.cell? ⟨w.heap.size, 8, none⟩ = some (.int .i64 M.n) ∧ W.cell? ⟨w.heap.size, 9, none⟩ = some (.string M.t)) ∧ (W.cell? ⟨w2.heap.size, 0, none⟩ = some (.int .i64 M.ar) ∧ W.cell? ⟨w2.heap.size, 1, none⟩ = some (.int .i64 M.ap) ∧ W.cell? ⟨w2.heap.size, 2, none⟩ = some (.int .i64 M.k) ∧ W.cell? ⟨w2.heap.size, 3, none⟩ = some (.int .i64 M.m) ∧ W.cell? ⟨w2.heap.size, 4, none⟩ = some (.int .i64 M.n) ∧ W.cell? ⟨w2.heap.size, 5, none⟩ = some (.string M.t))) W) := Lib.hid fun W hb => ⟨(ten (HA.out W (hb3.trans (hb.mono hb3.size))).2).1, (six ((hb.block _ (Array.getElem?_eq_some_iff.1 q3).1).trans q3)).1⟩
  have z0 : (fun W => (W.cell? ⟨w.heap.size, 0, none⟩ = some (.int .i64 M.c) ∧ W.cell? ⟨w.heap.size, 1, none⟩ = some (.int .i64 M.s) ∧ W.cell? ⟨w.heap.size, 2, none⟩ = some (.int .i64 M.pr) ∧ W.cell? ⟨w.heap.size, 3, none⟩ = some (.int .i64 M.pp) ∧ W.cell? ⟨w.heap.size, 4, none⟩ = some (.int .i64 M.ar) ∧ W.cell? ⟨w.heap.size, 5, none⟩ = some (.int .i64 M.ap) ∧ W.cell? ⟨w.heap.size, 6, none⟩ = some (.int .i64 M.k) ∧ W.cell? ⟨w.heap.size, 7, none⟩ = some (.int .i64 M.m) ∧ W.cell? ⟨w.heap.size, 8, none⟩ = some (.int .i64 M.n) ∧ W.cell? ⟨w.heap.size, 9, none⟩ = some (.string M.t)) ∧ (W.cell? ⟨w2.heap.size, 0, none⟩ = some (.int .i64 M.ar) ∧ W.cell? ⟨w2.heap.size, 1, none⟩ = some (.int .i64 M.ap) ∧ W.cell? ⟨w2.heap.size, 2, none⟩ = some (.int .i64 M.k) ∧ W.cell? ⟨w2.heap.size, 3, none⟩ = some (.int .i64 M.m) ∧ W.cell? ⟨w2.heap.size, 4, none⟩ = some (.int .i64 M.n) ∧ W.cell? ⟨w2.heap.size, 5, none⟩ = some (.string M.t))) w3 := HS.out _ (Below.refl _ _)
  have HB3 := Lib.hid hb3
  have HNO3 : Hid (∀ W, Below w3.heap.size w3 W → Calls Tryz.prog 27 #[] W fun e w' => e = .returned (.agg #[.int .i64 (-1), .int .i64 0]) ∧ Below w3.heap.size w3 w') := Lib.hid fun W hb => (None27 W).mono fun e w' ⟨h1, h2⟩ => ⟨h1, hb.trans (h2.mono hb.size)⟩
  have HPR3 : Hid (∀ W, Below w3.heap.size w3 W → Calls Tryz.prog 14 #[.pointer (some ⟨p, 0, none⟩)] W fun e w' => e = .returned (.agg #[.int .i64 M.pr, .int .i64 M.pp]) ∧ Below w3.heap.size w3 w') := Lib.hid fun W hb => (Promised_any W (some p) M (HA.out W (hb3.trans (hb.mono hb3.size))).1).mono fun e w' ⟨h1, h2⟩ => ⟨h1, hb.trans (h2.mono hb.size)⟩
  clear hb2 hb3 q3 HAC HPR HNO HA
  have hS0 : (fun W => (W.cell? ⟨w.heap.size, 0, none⟩ = some (.int .i64 M.c) ∧ W.cell? ⟨w.heap.size, 1, none⟩ = some (.int .i64 M.s) ∧ W.cell? ⟨w.heap.size, 2, none⟩ = some (.int .i64 M.pr) ∧ W.cell? ⟨w.heap.size, 3, none⟩ = some (.int .i64 M.pp) ∧ W.cell? ⟨w.heap.size, 4, none⟩ = some (.int .i64 M.ar) ∧ W.cell? ⟨w.heap.size, 5, none⟩ = some (.int .i64 M.ap) ∧ W.cell? ⟨w.heap.size, 6, none⟩ = some (.int .i64 M.k) ∧ W.cell? ⟨w.heap.size, 7, none⟩ = some (.int .i64 M.m) ∧ W.cell? ⟨w.heap.size, 8, none⟩ = some (.int .i64 M.n) ∧ W.cell? ⟨w.heap.size, 9, none⟩ = some (.string M.t)) ∧ (W.cell? ⟨w2.heap.size, 0, none⟩ = some (.int .i64 M.ar) ∧ W.cell? ⟨w2.heap.size, 1, none⟩ = some (.int .i64 M.ap) ∧ W.cell? ⟨w2.heap.size, 2, none⟩ = some (.int .i64 M.k) ∧ W.cell? ⟨w2.heap.size, 3, none⟩ = some (.int .i64 M.m) ∧ W.cell? ⟨w2.heap.size, 4, none⟩ = some (.int .i64 M.n) ∧ W.cell? ⟨w2.heap.size, 5, none⟩ = some (.string M.t))) w3.drew := z0
  refine wp_region_held_drew (S := fun W => (W.cell? ⟨w.heap.size, 0, none⟩ = some (.int .i64 M.c) ∧ W.cell? ⟨w.heap.size, 1, none⟩ = some (.int .i64 M.s) ∧ W.cell? ⟨w.heap.size, 2, none⟩ = some (.int .i64 M.pr) ∧ W.cell? ⟨w.heap.size, 3, none⟩ = some (.int .i64 M.pp) ∧ W.cell? ⟨w.heap.size, 4, none⟩ = some (.int .i64 M.ar) ∧ W.cell? ⟨w.heap.size, 5, none⟩ = some (.int .i64 M.ap) ∧ W.cell? ⟨w.heap.size, 6, none⟩ = some (.int .i64 M.k) ∧ W.cell? ⟨w.heap.size, 7, none⟩ = some (.int .i64 M.m) ∧ W.cell? ⟨w.heap.size, 8, none⟩ = some (.int .i64 M.n) ∧ W.cell? ⟨w.heap.size, 9, none⟩ = some (.string M.t)) ∧ (W.cell? ⟨w2.heap.size, 0, none⟩ = some (.int .i64 M.ar) ∧ W.cell? ⟨w2.heap.size, 1, none⟩ = some (.int .i64 M.ap) ∧ W.cell? ⟨w2.heap.size, 2, none⟩ = some (.int .i64 M.k) ∧ W.cell? ⟨w2.heap.size, 3, none⟩ = some (.int .i64 M.m) ∧ W.cell? ⟨w2.heap.size, 4, none⟩ = some (.int .i64 M.n) ∧ W.cell? ⟨w2.heap.size, 5, none⟩ = some (.string M.t))) rfl hS0 (fun hHeld => ?_)
  simp only [List.size_toArray, List.length_cons, List.length_nil, Nat.reduceAdd]
  have HB0 : Hid (Below w3.heap.size w3 w3.drew) := Lib.hid (Below.refl _ _).drew
  obtain ⟨V0, hV0⟩ : ∃ V, w3.drew = V := ⟨_, rfl⟩
  rw [hV0] at hHeld hS0 HB0 ⊢
  clear hV0
  refine wpAnyH_take (i := 0) (v := .pointer (some ⟨w.heap.size, 4, none⟩)) rfl (by kernel_rfl) (by kernel_rfl) (by kernel_rfl) (fun _ _ _ h => h) (Or.inl ⟨by rfl, ?_⟩) (by assumption) ?_
  · intro wx hs1; go_simp
  (try simp only [Act.put, List.getElem_toArray, List.getElem_cons_zero, List.setIfInBounds_toArray, List.set_cons_zero, List.set_cons_succ])
  refine wpAnyH_take (i := 1) (v := .pointer (some ⟨w.heap.size, 4, none⟩)) rfl (by kernel_rfl) (by kernel_rfl) (by kernel_rfl) (fun _ _ _ h => h) (Or.inl ⟨by rfl, ?_⟩) (by assumption) ?_
  · intro wx hs1; go_simp
  (try simp only [Act.put, List.getElem_toArray, List.getElem_cons_succ, List.getElem_cons_zero, List.setIfInBounds_toArray, List.set_cons_zero, List.set_cons_succ])
  refine wpAnyH_take (i := 2) (v := .agg #[.int .i64 M.ar, .int .i64 M.ap]) rfl (by kernel_rfl) (by kernel_rfl) (by kernel_rfl) (fun _ _ _ h => h) (Or.inl ⟨by rfl, ?_⟩) (by assumption) ?_
  · intro wx hs1; obtain ⟨⟨s0, s1, s2, s3, s4, s5, s6, s7, s8, s9⟩, ⟨u0, u1, u2, u3, u4, u5⟩⟩ := hs1; go_simp
  (try simp only [Act.put, List.getElem_toArray, List.getElem_cons_succ, List.getElem_cons_zero, List.setIfInBounds_toArray, List.set_cons_zero, List.set_cons_succ])
  refine wpAnyH_ready (rs := [3]) (by kernel_rfl) (by simp) (AllReadyH.cons rfl (fun K hK => ?_) AllReadyH.nil)
  go_simp
  go_at_call 27
  (with_reducible refine (HNO3.out _ HB0.out).mono ?_)
  rintro e w4 ⟨rfl, hb4⟩
  try dsimp only
  have HB4 := Lib.hid hb4; clear hb4; have hS : (fun W => (W.cell? ⟨w.heap.size, 0, none⟩ = some (.int .i64 M.c) ∧ W.cell? ⟨w.heap.size, 1, none⟩ = some (.int .i64 M.s) ∧ W.cell? ⟨w.heap.size, 2, none⟩ = some (.int .i64 M.pr) ∧ W.cell? ⟨w.heap.size, 3, none⟩ = some (.int .i64 M.pp) ∧ W.cell? ⟨w.heap.size, 4, none⟩ = some (.int .i64 M.ar) ∧ W.cell? ⟨w.heap.size, 5, none⟩ = some (.int .i64 M.ap) ∧ W.cell? ⟨w.heap.size, 6, none⟩ = some (.int .i64 M.k) ∧ W.cell? ⟨w.heap.size, 7, none⟩ = some (.int .i64 M.m) ∧ W.cell? ⟨w.heap.size, 8, none⟩ = some (.int .i64 M.n) ∧ W.cell? ⟨w.heap.size, 9, none⟩ = some (.string M.t)) ∧ (W.cell? ⟨w2.heap.size, 0, none⟩ = some (.int .i64 M.ar) ∧ W.cell? ⟨w2.heap.size, 1, none⟩ = some (.int .i64 M.ap) ∧ W.cell? ⟨w2.heap.size, 2, none⟩ = some (.int .i64 M.k) ∧ W.cell? ⟨w2.heap.size, 3, none⟩ = some (.int .i64 M.m) ∧ W.cell? ⟨w2.heap.size, 4, none⟩ = some (.int .i64 M.n) ∧ W.cell? ⟨w2.heap.size, 5, none⟩ = some (.string M.t))) w4 := HS.out w4 HB4.out
  refine hK.out _ _ hS (fun _ => ?_)
  clear hK K
  (try simp only [Act.put, List.getElem_toArray, List.getElem_cons_succ, List.getElem_cons_zero, List.setIfInBounds_toArray, List.set_cons_zero, List.set_cons_succ])
  refine wpAnyH_take (i := 4) (v := .bool false) rfl (by kernel_rfl) (by kernel_rfl) (by kernel_rfl) (fun _ _ _ h => h) (Or.inl ⟨by rfl, ?_⟩) (by assumption) ?_
  · intro wx hs1; clear hs1; go_simp; have h4 := of_decide_eq_false hno; by_cases h5 : M.ar = -1 <;> by_cases h6 : M.ap = 0 <;> simp [h5, h6]; exact h4 ⟨h5, h6⟩
  (try simp only [Act.put, List.getElem_toArray, List.getElem_cons_succ, List.getElem_cons_zero, List.setIfInBounds_toArray, List.set_cons_zero, List.set_cons_succ])
  refine wpAnyH_done (by kernel_rfl) ?_ _
  go_upto_region 4 with fail
  have hT : (fun W => (W.cell? ⟨w.heap.size, 0, none⟩ = some (.int .i64 M.c) ∧ W.cell? ⟨w.heap.size, 1, none⟩ = some (.int .i64 M.s) ∧ W.cell? ⟨w.heap.size, 2, none⟩ = some (.int .i64 M.pr) ∧ W.cell? ⟨w.heap.size, 3, none⟩ = some (.int .i64 M.pp) ∧ W.cell? ⟨w.heap.size, 4, none⟩ = some (.int .i64 M.ar) ∧ W.cell? ⟨w.heap.size, 5, none⟩ = some (.int .i64 M.ap) ∧ W.cell? ⟨w.heap.size, 6, none⟩ = some (.int .i64 M.k) ∧ W.cell? ⟨w.heap.size, 7, none⟩ = some (.int .i64 M.m) ∧ W.cell? ⟨w.heap.size, 8, none⟩ = some (.int .i64 M.n) ∧ W.cell? ⟨w.heap.size, 9, none⟩ = some (.string M.t)) ∧ (W.cell? ⟨w2.heap.size, 0, none⟩ = some (.int .i64 M.ar) ∧ W.cell? ⟨w2.heap.size, 1, none⟩ = some (.int .i64 M.ap) ∧ W.cell? ⟨w2.heap.size, 2, none⟩ = some (.int .i64 M.k) ∧ W.cell? ⟨w2.heap.size, 3, none⟩ = some (.int .i64 M.m) ∧ W.cell? ⟨w2.heap.size, 4, none⟩ = some (.int .i64 M.n) ∧ W.cell? ⟨w2.heap.size, 5, none⟩ = some (.string M.t))) w4 := HS.out w4 HB4.out
  have hT0 : (fun W => (W.cell? ⟨w.heap.size, 0, none⟩ = some (.int .i64 M.c) ∧ W.cell? ⟨w.heap.size, 1, none⟩ = some (.int .i64 M.s) ∧ W.cell? ⟨w.heap.size, 2, none⟩ = some (.int .i64 M.pr) ∧ W.cell? ⟨w.heap.size, 3, none⟩ = some (.int .i64 M.pp) ∧ W.cell? ⟨w.heap.size, 4, none⟩ = some (.int .i64 M.ar) ∧ W.cell? ⟨w.heap.size, 5, none⟩ = some (.int .i64 M.ap) ∧ W.cell? ⟨w.heap.size, 6, none⟩ = some (.int .i64 M.k) ∧ W.cell? ⟨w.heap.size, 7, none⟩ = some (.int .i64 M.m) ∧ W.cell? ⟨w.heap.size, 8, none⟩ = some (.int .i64 M.n) ∧ W.cell? ⟨w.heap.size, 9, none⟩ = some (.string M.t)) ∧ (W.cell? ⟨w2.heap.size, 0, none⟩ = some (.int .i64 M.ar) ∧ W.cell? ⟨w2.heap.size, 1, none⟩ = some (.int .i64 M.ap) ∧ W.cell? ⟨w2.heap.size, 2, none⟩ = some (.int .i64 M.k) ∧ W.cell? ⟨w2.heap.size, 3, none⟩ = some (.int .i64 M.m) ∧ W.cell? ⟨w2.heap.size, 4, none⟩ = some (.int .i64 M.n) ∧ W.cell? ⟨w2.heap.size, 5, none⟩ = some (.string M.t))) w4.drew := hT
  refine wp_region_held_drew (S := fun W => (W.cell? ⟨w.heap.size, 0, none⟩ = some (.int .i64 M.c) ∧ W.cell? ⟨w.heap.size, 1, none⟩ = some (.int .i64 M.s) ∧ W.cell? ⟨w.heap.size, 2, none⟩ = some (.int .i64 M.pr) ∧ W.cell? ⟨w.heap.size, 3, none⟩ = some (.int .i64 M.pp) ∧ W.cell? ⟨w.heap.size, 4, none⟩ = some (.int .i64 M.ar) ∧ W.cell? ⟨w.heap.size, 5, none⟩ = some (.int .i64 M.ap) ∧ W.cell? ⟨w.heap.size, 6, none⟩ = some (.int .i64 M.k) ∧ W.cell? ⟨w.heap.size, 7, none⟩ = some (.int .i64 M.m) ∧ W.cell? ⟨w.heap.size, 8, none⟩ = some (.int .i64 M.n) ∧ W.cell? ⟨w.heap.size, 9, none⟩ = some (.string M.t)) ∧ (W.cell? ⟨w2.heap.size, 0, none⟩ = some (.int .i64 M.ar) ∧ W.cell? ⟨w2.heap.size, 1, none⟩ = some (.int .i64 M.ap) ∧ W.cell? ⟨w2.heap.size, 2, none⟩ = some (.int .i64 M.k) ∧ W.cell? ⟨w2.heap.size, 3, none⟩ = some (.int .i64 M.m) ∧ W.cell? ⟨w2.heap.size, 4, none⟩ = some (.int .i64 M.n) ∧ W.cell? ⟨w2.heap.size, 5, none⟩ = some (.string M.t))) rfl hT0 (fun hHeld => ?_)
  simp only [List.size_toArray, List.length_cons, List.length_nil, Nat.reduceAdd]
  have HC0 : Hid (Below w4.heap.size w4 w4.drew) := Lib.hid (Below.refl _ _).drew
  obtain ⟨V1, hV1⟩ : ∃ V, w4.drew = V := ⟨_, rfl⟩
  rw [hV1] at hHeld hT0 HC0 ⊢
  clear hV1
  refine wpAnyH_take (i := 0) (v := .bool true) rfl (by kernel_rfl) (by kernel_rfl) (by kernel_rfl) (fun _ _ _ h => h) (Or.inl ⟨by rfl, ?_⟩) (by assumption) ?_
  · intro wx hs1; go_simp
  (try simp only [Act.put, List.getElem_toArray, List.getElem_cons_zero, List.setIfInBounds_toArray, List.set_cons_zero, List.set_cons_succ])
  refine wpAnyH_take (i := 1) (v := .bool true) rfl (by kernel_rfl) (by kernel_rfl) (by kernel_rfl) (fun _ _ _ h => h) (Or.inl ⟨by rfl, ?_⟩) (by assumption) ?_
  · intro wx hs1; go_simp
  (try simp only [Act.put, List.getElem_toArray, List.getElem_cons_succ, List.getElem_cons_zero, List.setIfInBounds_toArray, List.set_cons_zero, List.set_cons_succ])
  refine wpAnyH_take (i := 2) (v := .agg #[(.int .i64 M.ar), (.int .i64 M.ap), (.int .i64 M.k), (.int .i64 M.m), (.int .i64 M.n), (.string M.t)]) rfl (by kernel_rfl) (by kernel_rfl) (by kernel_rfl) (fun _ _ _ h => h) (Or.inl ⟨by rfl, ?_⟩) (by assumption) ?_
  · intro wx hs1; obtain ⟨⟨s0, s1, s2, s3, s4, s5, s6, s7, s8, s9⟩, ⟨u0, u1, u2, u3, u4, u5⟩⟩ := hs1; go_simp
  (try simp only [Act.put, List.getElem_toArray, List.getElem_cons_succ, List.getElem_cons_zero, List.setIfInBounds_toArray, List.set_cons_zero, List.set_cons_succ])
  refine wpAnyH_take (i := 3) (v := .pointer (some ⟨w.heap.size, 4, none⟩)) rfl (by kernel_rfl) (by kernel_rfl) (by kernel_rfl) (fun _ _ _ h => h) (Or.inl ⟨by rfl, ?_⟩) (by assumption) ?_
  · intro wx hs1; go_simp
  (try simp only [Act.put, List.getElem_toArray, List.getElem_cons_succ, List.getElem_cons_zero, List.setIfInBounds_toArray, List.set_cons_zero, List.set_cons_succ])
  refine wpAnyH_take (i := 4) (v := .agg #[(.int .i64 M.ar), (.int .i64 M.ap), (.int .i64 M.k), (.int .i64 M.m), (.int .i64 M.n), (.string M.t)]) rfl (by kernel_rfl) (by kernel_rfl) (by kernel_rfl) (fun _ _ _ h => h) (Or.inl ⟨by rfl, ?_⟩) (by assumption) ?_
  · intro wx hs1; obtain ⟨⟨s0, s1, s2, s3, s4, s5, s6, s7, s8, s9⟩, ⟨u0, u1, u2, u3, u4, u5⟩⟩ := hs1; go_simp
  (try simp only [Act.put, List.getElem_toArray, List.getElem_cons_succ, List.getElem_cons_zero, List.setIfInBounds_toArray, List.set_cons_zero, List.set_cons_succ])
  refine wpAnyH_take (i := 5) (v := .bool true) rfl (by kernel_rfl) (by kernel_rfl) (by kernel_rfl) (fun _ _ _ h => h) (Or.inl ⟨by rfl, ?_⟩) (by assumption) ?_
  · intro wx hs1; clear hs1; have e3 := eql36 wx M.ar M.ar M.ap M.ap M.k M.k M.m M.m M.n M.n M.t M.t; simp only [and_self, decide_true] at e3; go_simp
  (try simp only [Act.put, List.getElem_toArray, List.getElem_cons_succ, List.getElem_cons_zero, List.setIfInBounds_toArray, List.set_cons_zero, List.set_cons_succ])
  refine wpAnyH_take (i := 6) (v := .bool true) rfl (by kernel_rfl) (by kernel_rfl) (by kernel_rfl) (fun _ _ _ h => h) (Or.inl ⟨by rfl, ?_⟩) (by assumption) ?_
  · intro wx hs1; go_simp
  (try simp only [Act.put, List.getElem_toArray, List.getElem_cons_succ, List.getElem_cons_zero, List.setIfInBounds_toArray, List.set_cons_zero, List.set_cons_succ])
  refine wpAnyH_take (i := 7) (v := .bool true) rfl (by kernel_rfl) (by kernel_rfl) (by kernel_rfl) (fun _ _ _ h => h) (Or.inl ⟨by rfl, ?_⟩) (by assumption) ?_
  · intro wx hs1; go_simp
  (try simp only [Act.put, List.getElem_toArray, List.getElem_cons_succ, List.getElem_cons_zero, List.setIfInBounds_toArray, List.set_cons_zero, List.set_cons_succ])
  refine wpAnyH_take (i := 8) (v := .pointer (some ⟨p, 0, none⟩)) rfl (by kernel_rfl) (by kernel_rfl) (by kernel_rfl) (fun _ _ _ h => h) (Or.inl ⟨by rfl, ?_⟩) (by assumption) ?_
  · intro wx hs1; go_simp
  (try simp only [Act.put, List.getElem_toArray, List.getElem_cons_succ, List.getElem_cons_zero, List.setIfInBounds_toArray, List.set_cons_zero, List.set_cons_succ])
  refine wpAnyH_take (i := 10) (v := .pointer (some ⟨w.heap.size, 2, none⟩)) rfl (by kernel_rfl) (by kernel_rfl) (by kernel_rfl) (fun _ _ _ h => h) (Or.inl ⟨by rfl, ?_⟩) (by assumption) ?_
  · intro wx hs1; go_simp
  (try simp only [Act.put, List.getElem_toArray, List.getElem_cons_succ, List.getElem_cons_zero, List.setIfInBounds_toArray, List.set_cons_zero, List.set_cons_succ])
  refine wpAnyH_take (i := 11) (v := .agg #[.int .i64 M.pr, .int .i64 M.pp]) rfl (by kernel_rfl) (by kernel_rfl) (by kernel_rfl) (fun _ _ _ h => h) (Or.inl ⟨by rfl, ?_⟩) (by assumption) ?_
  · intro wx hs1; obtain ⟨⟨s0, s1, s2, s3, s4, s5, s6, s7, s8, s9⟩, ⟨u0, u1, u2, u3, u4, u5⟩⟩ := hs1; go_simp
  (try simp only [Act.put, List.getElem_toArray, List.getElem_cons_succ, List.getElem_cons_zero, List.setIfInBounds_toArray, List.set_cons_zero, List.set_cons_succ])
  refine wpAnyH_ready (rs := [9]) (by kernel_rfl) (by simp) (AllReadyH.cons rfl (fun K hK => ?_) AllReadyH.nil)
  go_simp
  go_at_call 14
  (with_reducible refine (HPR3.out _ (HB4.out.trans (HC0.out.mono HB4.out.size))).mono ?_)
  rintro e w5 ⟨rfl, hb5⟩
  try dsimp only
  have HB5 := Lib.hid hb5; clear hb5; have hS : (fun W => (W.cell? ⟨w.heap.size, 0, none⟩ = some (.int .i64 M.c) ∧ W.cell? ⟨w.heap.size, 1, none⟩ = some (.int .i64 M.s) ∧ W.cell? ⟨w.heap.size, 2, none⟩ = some (.int .i64 M.pr) ∧ W.cell? ⟨w.heap.size, 3, none⟩ = some (.int .i64 M.pp) ∧ W.cell? ⟨w.heap.size, 4, none⟩ = some (.int .i64 M.ar) ∧ W.cell? ⟨w.heap.size, 5, none⟩ = some (.int .i64 M.ap) ∧ W.cell? ⟨w.heap.size, 6, none⟩ = some (.int .i64 M.k) ∧ W.cell? ⟨w.heap.size, 7, none⟩ = some (.int .i64 M.m) ∧ W.cell? ⟨w.heap.size, 8, none⟩ = some (.int .i64 M.n) ∧ W.cell? ⟨w.heap.size, 9, none⟩ = some (.string M.t)) ∧ (W.cell? ⟨w2.heap.size, 0, none⟩ = some (.int .i64 M.ar) ∧ W.cell? ⟨w2.heap.size, 1, none⟩ = some (.int .i64 M.ap) ∧ W.cell? ⟨w2.heap.size, 2, none⟩ = some (.int .i64 M.k) ∧ W.cell? ⟨w2.heap.size, 3, none⟩ = some (.int .i64 M.m) ∧ W.cell? ⟨w2.heap.size, 4, none⟩ = some (.int .i64 M.n) ∧ W.cell? ⟨w2.heap.size, 5, none⟩ = some (.string M.t))) w5 := HS.out w5 HB5.out
  refine hK.out _ _ hS (fun _ => ?_)
  clear hK K
  (try simp only [Act.put, List.getElem_toArray, List.getElem_cons_succ, List.getElem_cons_zero, List.setIfInBounds_toArray, List.set_cons_zero, List.set_cons_succ])
  refine wpAnyH_take (i := 12) (v := .bool true) rfl (by kernel_rfl) (by kernel_rfl) (by kernel_rfl) (fun _ _ _ h => h) (Or.inl ⟨by rfl, ?_⟩) (by assumption) ?_
  · intro wx hs1; clear hs1; have e3 := eql31 wx M.pr M.pr M.pp M.pp; simp only [and_self, decide_true] at e3; go_simp
  (try simp only [Act.put, List.getElem_toArray, List.getElem_cons_succ, List.getElem_cons_zero, List.setIfInBounds_toArray, List.set_cons_zero, List.set_cons_succ])
  refine wpAnyH_take (i := 13) (v := .bool true) rfl (by kernel_rfl) (by kernel_rfl) (by kernel_rfl) (fun _ _ _ h => h) (Or.inl ⟨by rfl, ?_⟩) (by assumption) ?_
  · intro wx hs1; go_simp
  (try simp only [Act.put, List.getElem_toArray, List.getElem_cons_succ, List.getElem_cons_zero, List.setIfInBounds_toArray, List.set_cons_zero, List.set_cons_succ])
  refine wpAnyH_take (i := 14) (v := .bool true) rfl (by kernel_rfl) (by kernel_rfl) (by kernel_rfl) (fun _ _ _ h => h) (Or.inl ⟨by rfl, ?_⟩) (by assumption) ?_
  · intro wx hs1; go_simp
  (try simp only [Act.put, List.getElem_toArray, List.getElem_cons_succ, List.getElem_cons_zero, List.setIfInBounds_toArray, List.set_cons_zero, List.set_cons_succ])
  refine wpAnyH_done (by kernel_rfl) ?_ _
  go_wp2
  go_ret
  exact ⟨rfl, HB1.out.trans ((HB3.out.trans (HB5.out.mono HB3.out.size)).mono HB1.out.size)⟩
theorem Sm.is_any (w : World) (p : Nat) (M : AcM) (hp : AAt w p M) (hc : M.c ≠ 0) (ht : M.t.size ≤ 1000000) (hg : GoodM M) :
    Calls Tryz.prog 18 #[.pointer (some ⟨p, 0, none⟩), .agg #[.int .i64 M.c, .int .i64 M.s, .int .i64 M.pr, .int .i64 M.pp, .int .i64 M.ar, .int .i64 M.ap, .int .i64 M.k, .int .i64 M.m, .int .i64 M.n, .string M.t]] w fun e w' => e = .returned (.bool true) ∧ Below w.heap.size w w' := by
  by_cases h : M.ar = -1 ∧ M.ap = 0
  · refine is_none w p M hp hc ht ?_ (decide_eq_true h)
    obtain ⟨h1, h2, h3, h4⟩ := hg h.1 h.2
    exact decide_eq_true ⟨h.1, h.2, h1, h2, h3, h4⟩
  · refine is_some w p M hp hc ht ?_ (decide_eq_false h)
    exact decide_eq_false (fun e => h ⟨e.1, e.2.1⟩)
end Go.Proofs
namespace Go.Proofs
open Go Go.RowKit Sm Go.Lib
attribute [local go_sem] Oper.semAt_some
def Sm.wM0 : AcM := newM 3 1
def Sm.wM1 : AcM := ⟨3, 1, 0, 1, 0, 1, 1, 0, 0, ⟨#[]⟩⟩
def Sm.wM2 : AcM := ⟨3, 1, 1, 0, 0, 1, 1, 0, 0, ⟨#[]⟩⟩
def Sm.wM3 : AcM := ⟨3, 1, 2, 2, 2, 2, 1, 0, 0, ⟨#[]⟩⟩
theorem Sm.wE : entB 1 0 0 ⟨#[]⟩ = true := by decide +kernel
/-- asked to accept nothing, told from a base -/
theorem Sm.wAcc (M N : AcM) (r q : Int) (b : Bool) (E : Int) (h1 : acM M r q 1 0 0 ⟨#[]⟩ true = N) (h2 : acOk M r q true = b) (h3 : acE M r q true = E) (w4 : World) (p : Nat) (hp : 3 ≤ p) (hL : LaysT w4) (hc : M.c ≠ 0) :
    ∀ W, But (Xp p) w4 W → AAt W p M → Calls Tryz.prog 11 #[.pointer (some ⟨p, 0, none⟩), .agg #[.int .i64 r, .int .i64 q], .agg #[.int .i64 1, .int .i64 0, .int .i64 0, .string ⟨#[]⟩]] W fun e w' => e = .returned (.tuple #[.bool b, .int .i64 E]) ∧ AAt w' p N ∧ But (Xp p) w4 w' := fun W hB hA => by
  refine (accept_any r q 1 0 0 ⟨#[]⟩ W p M hA hc (by unfold I64; omega) (by decide) (hL.but hB hp)).mono ?_
  rintro e w' ⟨e1, e2, e3⟩
  rw [wE] at e1 e2
  rw [h2, h3] at e1
  rw [h1] at e2
  exact ⟨e1, e2, hB.trans e3 (fun _ _ e => e)⟩
theorem Sm.wPro (M N : AcM) (r q : Int) (b : Bool) (E : Int) (v : Value) (h1 : prM M r q = N) (h2 : prOk M r q = b) (h3 : prE M r q = E) (h4 : acVal b M = v) (w4 : World) (p : Nat) (ht : M.t.size ≤ 1000000) (hc : M.c ≠ 0) :
    ∀ W, But (Xp p) w4 W → AAt W p M → Calls Tryz.prog 10 #[.pointer (some ⟨p, 0, none⟩), .agg #[.int .i64 r, .int .i64 q]] W fun e w' => e = .returned (.tuple #[v, .bool b, .int .i64 E]) ∧ AAt w' p N ∧ But (Xp p) w4 w' := fun W hB hA => by
  refine (promise_any r q W p M hA ht hc).mono ?_
  rintro e w' ⟨e1, e2, e3⟩
  rw [h2, h3, h4] at e1
  rw [h1] at e2
  exact ⟨e1, e2, hB.trans e3 (fun _ _ e => e)⟩
set_option maxRecDepth 100000 in
set_option maxHeartbeats 4000000 in
theorem Sm.works_any (w : World) (hL : LaysT w) : Calls Tryz.prog 7 #[] w fun e w' => e = .returned (.bool true) ∧ Below w.heap.size w w' := by
  have hb1 : Below w.heap.size w (w.alloc (.cells #[.int .i64 1, .int .i64 0, .int .i64 0, .string ⟨#[]⟩] 34)) := (Below.refl _ w).alloc (Nat.le_refl _) _
  have q1 := World.alloc_heap_new w (.cells #[.int .i64 1, .int .i64 0, .int .i64 0, .string ⟨#[]⟩] 34)
  obtain ⟨w1, hw1⟩ : ∃ v, w.alloc (.cells #[.int .i64 1, .int .i64 0, .int .i64 0, .string ⟨#[]⟩] 34) = v := ⟨_, rfl⟩
  rw [hw1] at hb1 q1
  have hs := hL.size
  have HN : Hid (∀ W, Calls Tryz.prog 8 #[.int .i64 3, .int .i64 1] W fun e w' => ∃ p, e = .returned (.tuple #[.pointer (some ⟨p, 0, none⟩), .int .i64 0]) ∧ W.heap.size ≤ p ∧ AAt w' p wM0 ∧ Below W.heap.size W w') := Lib.hid fun W => new_yes 3 1 W (by decide) (by decide)
  obtain ⟨z0, z1, z2, z3⟩ := (four q1).1
  have hl1 := (Array.getElem?_eq_some_iff.1 q1).1
  have HQ := Lib.hid q1
  have HB1 := Lib.hid hb1
  have HL := Lib.hid (hL.keep hb1)
  have HW1 := Lib.hid hw1
  clear hb1 q1 hL hw1 z0 z1 z2 z3
  go_enter Tryz.func7, Tryz.ntmps7
  go_upto_region 2 with fail
  rw [HW1.out]
  obtain ⟨z0, z1, z2, z3⟩ := (four HQ.out).1
  go_upto_region 3 with (go_at_call 8; (with_reducible refine (HN.out _).mono ?_); rintro e w2 ⟨p, rfl, hp, hA2, hb2⟩)
  have hs2 := hb2.size
  have HC2 := Lib.hid (wAcc wM0 wM1 0 1 true 0 (sameM_eq.1 (by decide +kernel)) (by decide +kernel) (by decide +kernel) w2 p (by have := HB1.out.size; omega) (HL.out.keep hb2) (by decide))
  have HC3 := Lib.hid (wPro wM1 wM2 1 0 true 0 (.agg #[.int .i64 0, .int .i64 1, .int .i64 1, .int .i64 0, .int .i64 0, .string ⟨#[]⟩]) (sameM_eq.1 (by decide +kernel)) (by decide +kernel) (by decide +kernel) rfl w2 p (by decide) (by decide))
  have q2 := (hb2.block _ hl1).trans HQ.out
  have HB2 := Lib.hid hb2
  have HL2 := Lib.hid (HL.out.keep hb2)
  have HQ2 : Hid (∀ W, But (Xp p) w2 W → W.heap[w.heap.size]? = some (.cells #[.int .i64 1, .int .i64 0, .int .i64 0, .string ⟨#[]⟩] 34 (0, 0))) := Lib.hid fun W hB => hB.box q2 (by show ¬ (w.heap.size = p); omega)
  obtain ⟨y0, y1, y2, y3⟩ := (four q2).1
  clear hb2 q2 HW1 z0 z1 z2 z3 HN HQ
  have HA2 := Lib.hid hA2
  clear hA2
  go_upto_region 4 with (go_at_call 11; (with_reducible refine (HC2.out _ (But.refl _ _) HA2.out).mono ?_); rintro e w3 ⟨rfl, hA3, hB3⟩)
  go_upto_region 5 with (go_at_call 10; (with_reducible refine (HC3.out _ hB3 hA3).mono ?_); clear hB3 hA3; rintro e w4 ⟨rfl, hA4, hB4⟩)
  have q5 := World.alloc_heap_new w4 (.cells #[.int .i64 0, .int .i64 1, .int .i64 1, .int .i64 0, .int .i64 0, .string ⟨#[]⟩] 36)
  have hs4 : w2.heap.size ≤ w4.heap.size := hB4.size
  have q6 := (Below.heap_alloc w4 (.cells #[.int .i64 0, .int .i64 1, .int .i64 1, .int .i64 0, .int .i64 0, .string ⟨#[]⟩] 36) w.heap.size (by omega)).trans (HQ2.out _ hB4)
  have q7 : AAt (w4.alloc (.cells #[.int .i64 0, .int .i64 1, .int .i64 1, .int .i64 0, .int .i64 0, .string ⟨#[]⟩] 36)) p wM2 := (Below.heap_alloc w4 (.cells #[.int .i64 0, .int .i64 1, .int .i64 1, .int .i64 0, .int .i64 0, .string ⟨#[]⟩] 36) p hA4.lt).trans hA4
  have hB5 := hB4.alloc (.cells #[.int .i64 0, .int .i64 1, .int .i64 1, .int .i64 0, .int .i64 0, .string ⟨#[]⟩] 36)
  have hpl : p < w4.heap.size := hA4.lt
  obtain ⟨w5, hw5⟩ : ∃ v, w4.alloc (.cells #[.int .i64 0, .int .i64 1, .int .i64 1, .int .i64 0, .int .i64 0, .string ⟨#[]⟩] 36) = v := ⟨_, rfl⟩
  rw [hw5] at q5 q6 q7 hB5 ⊢
  clear hw5 hA4 hB4 y0 y1 y2 y3
  have h3p : 3 ≤ p := by have := HB1.out.size; omega
  have HL5 := Lib.hid (HL2.out.but hB5 h3p)
  have HC4 := Lib.hid (wAcc wM2 wM2 0 1 false 0 (sameM_eq.1 (by decide +kernel)) (by decide +kernel) (by decide +kernel) w5 p h3p HL5.out (by decide))
  have HC5 := Lib.hid (wPro wM2 wM2 1 0 false 0 (.agg #[.int .i64 0, .int .i64 0, .int .i64 0, .int .i64 0, .int .i64 0, .string ⟨#[]⟩]) (sameM_eq.1 (by decide +kernel)) (by decide +kernel) (by decide +kernel) rfl w5 p (by decide) (by decide))
  have HC6 := Lib.hid (wPro wM2 wM2 0 1 false 2 (.agg #[.int .i64 0, .int .i64 0, .int .i64 0, .int .i64 0, .int .i64 0, .string ⟨#[]⟩]) (sameM_eq.1 (by decide +kernel)) (by decide +kernel) (by decide +kernel) rfl w5 p (by decide) (by decide))
  have HC7 := Lib.hid (wAcc wM2 wM2 0 2 false 2 (sameM_eq.1 (by decide +kernel)) (by decide +kernel) (by decide +kernel) w5 p h3p HL5.out (by decide))
  have HC8 := Lib.hid (wAcc wM2 wM3 2 2 true 0 (sameM_eq.1 (by decide +kernel)) (by decide +kernel) (by decide +kernel) w5 p h3p HL5.out (by decide))
  have HB5 := Lib.hid (HB1.out.trans ((HB2.out.trans (hB5.to_below (n := w1.heap.size) hs2 (fun b e => by rw [show b = p from e]; exact hp))).mono HB1.out.size))
  have HQ5 : Hid (∀ W, But (Xp p) w5 W → W.heap[w4.heap.size]? = some (.cells #[.int .i64 0, .int .i64 1, .int .i64 1, .int .i64 0, .int .i64 0, .string ⟨#[]⟩] 36 (0, 0)) ∧ W.heap[w.heap.size]? = some (.cells #[.int .i64 1, .int .i64 0, .int .i64 0, .string ⟨#[]⟩] 34 (0, 0))) := Lib.hid fun W hB =>
    ⟨hB.box q5 (by show ¬ (w4.heap.size = p); omega), hB.box q6 (by show ¬ (w.heap.size = p); omega)⟩
  obtain ⟨y0, y1, y2, y3⟩ := (four q6).1
  have hA5 := Lib.hid q7
  clear q5 q6 q7 hB5 HC2 HC3 HA2 HL HL2
  go_upto_region 6 with (go_at_call 11; (with_reducible refine (HC4.out _ (But.refl _ _) hA5.out).mono ?_); rintro e w6 ⟨rfl, hA, hB⟩; have hA6 := Lib.hid hA; have hB6 := Lib.hid hB; clear hA hB y0 y1 y2 y3; obtain ⟨y0, y1, y2, y3⟩ := (four (HQ5.out _ hB6.out).2).1)
  go_upto_region 7 with (go_at_call 10; (with_reducible refine (HC5.out _ hB6.out hA6.out).mono ?_); rintro e w7 ⟨rfl, hA, hB⟩; have hA7 := Lib.hid hA; have hB7 := Lib.hid hB; clear hA hB y0 y1 y2 y3; obtain ⟨y0, y1, y2, y3⟩ := (four (HQ5.out _ hB7.out).2).1)
  have hBx := hB7.out.alloc (.cells #[.int .i64 0, .int .i64 0, .int .i64 0, .int .i64 0, .int .i64 0, .string ⟨#[]⟩] 36)
  have hAx : AAt (w7.alloc (.cells #[.int .i64 0, .int .i64 0, .int .i64 0, .int .i64 0, .int .i64 0, .string ⟨#[]⟩] 36)) p wM2 := (Below.heap_alloc w7 (.cells #[.int .i64 0, .int .i64 0, .int .i64 0, .int .i64 0, .int .i64 0, .string ⟨#[]⟩] 36) p (AAt.lt hA7.out)).trans hA7.out
  obtain ⟨w7', hw'⟩ : ∃ v, w7.alloc (.cells #[.int .i64 0, .int .i64 0, .int .i64 0, .int .i64 0, .int .i64 0, .string ⟨#[]⟩] 36) = v := ⟨_, rfl⟩
  rw [hw'] at hBx hAx ⊢
  clear hw' hA7 hB7 y0 y1 y2 y3
  have hA7 := Lib.hid hAx
  have hB7 := Lib.hid hBx
  obtain ⟨y0, y1, y2, y3⟩ := (four (HQ5.out _ hB7.out).2).1
  clear hAx hBx
  go_upto_region 8 with (go_at_call 10; (with_reducible refine (HC6.out _ hB7.out hA7.out).mono ?_); rintro e w8 ⟨rfl, hA, hB⟩; have hA8 := Lib.hid hA; have hB8 := Lib.hid hB; clear hA hB y0 y1 y2 y3; obtain ⟨y0, y1, y2, y3⟩ := (four (HQ5.out _ hB8.out).2).1)
  have hBx := hB8.out.alloc (.cells #[.int .i64 0, .int .i64 0, .int .i64 0, .int .i64 0, .int .i64 0, .string ⟨#[]⟩] 36)
  have hAx : AAt (w8.alloc (.cells #[.int .i64 0, .int .i64 0, .int .i64 0, .int .i64 0, .int .i64 0, .string ⟨#[]⟩] 36)) p wM2 := (Below.heap_alloc w8 (.cells #[.int .i64 0, .int .i64 0, .int .i64 0, .int .i64 0, .int .i64 0, .string ⟨#[]⟩] 36) p (AAt.lt hA8.out)).trans hA8.out
  obtain ⟨w8', hw'⟩ : ∃ v, w8.alloc (.cells #[.int .i64 0, .int .i64 0, .int .i64 0, .int .i64 0, .int .i64 0, .string ⟨#[]⟩] 36) = v := ⟨_, rfl⟩
  rw [hw'] at hBx hAx ⊢
  clear hw' hA8 hB8 y0 y1 y2 y3
  have hA8 := Lib.hid hAx
  have hB8 := Lib.hid hBx
  obtain ⟨y0, y1, y2, y3⟩ := (four (HQ5.out _ hB8.out).2).1
  clear hAx hBx
  go_upto_region 9 with (go_at_call 11; (with_reducible refine (HC7.out _ hB8.out hA8.out).mono ?_); rintro e w9 ⟨rfl, hA, hB⟩; have hA9 := Lib.hid hA; have hB9 := Lib.hid hB; clear hA hB y0 y1 y2 y3; obtain ⟨y0, y1, y2, y3⟩ := (four (HQ5.out _ hB9.out).2).1)
  go_upto_region 10 with (go_at_call 11; (with_reducible refine (HC8.out _ hB9.out hA9.out).mono ?_); rintro e w10 ⟨rfl, hA, hB⟩; have hA10 := Lib.hid hA; have hB10 := Lib.hid hB; clear hA hB y0 y1 y2 y3; obtain ⟨y0, y1, y2, y3⟩ := (four (HQ5.out _ hB10.out).2).1)
  obtain ⟨v0, v1, v2, v3, v4, v5⟩ := (six (HQ5.out _ hB10.out).1).1
  have hPr : Calls Tryz.prog 14 #[.pointer (some ⟨p, 0, none⟩)] w10 fun e w' => e = .returned (.agg #[.int .i64 2, .int .i64 2]) ∧ Below w10.heap.size w10 w' := Promised_any _ (some p) wM3 hA10.out
  have hnum := fun x W => num_any x W
  have hend : Below w.heap.size w w10 := HB5.out.trans (hB10.out.to_below HB5.out.size (fun b e => by rw [show b = p from e]; have := HB1.out.size; omega))
  have HEnd := Lib.hid hend
  clear HC4 HC5 HC6 HC7 HC8 hA10 hB10 HB5 HQ5 hend
  go_wp2_with (first
    | (go_at_call 13; (with_reducible refine (hnum _ _).mono ?_); rintro e w' ⟨rfl, rfl⟩)
    | (go_at_call 14; (with_reducible refine hPr.mono ?_); clear hPr; rintro e w11 ⟨rfl, hb11⟩))
  go_ret
  exact ⟨rfl, HEnd.out.trans (hb11.mono HEnd.out.size)⟩
end Go.Proofs
namespace Go.Proofs
open Go Go.RowKit Sm Go.Lib
attribute [local go_sem] Oper.semAt_some
/-- a call that came in -/
structure Sm.XV where
  (x r q k m n : Int) (t : ByteArray)
def Sm.XV.cells (y : XV) : List Value := [.int .i64 y.x, .int .i64 y.r, .int .i64 y.q, .int .i64 y.k, .int .i64 y.m, .int .i64 y.n, .string y.t]
structure Sm.XV.came (y : XV) : Prop where
  kd : I64 y.k
  sz : y.t.size ≤ 9223372036854775807
/-- calls that came in, in a row -/
def Sm.RdX (w : World) (A : Option Addr) (xs : List XV) : Prop :=
  0 < xs.length → ∃ b off, A = some ⟨b, off, none⟩ ∧ b < w.heap.size ∧ ∀ j y, xs[j]? = some y → ∀ i v, y.cells[i]? = some v → w.cell? ⟨b, off + j * 7 + i, none⟩ = some v
theorem Sm.RdX.keep {w w' : World} {A : Option Addr} {xs : List XV} (h : RdX w A xs) (hb : Below w.heap.size w w') : RdX w' A xs := fun hn => by
  obtain ⟨b, off, rfl, hl, hc⟩ := h hn
  exact ⟨b, off, rfl, Nat.lt_of_lt_of_le hl hb.size, fun j y hj i v hi => (hb.cell (p := ⟨b, off + j * 7 + i, none⟩) hl).trans (hc j y hj i v hi)⟩
/-- the cells of one of them -/
theorem Sm.RdX.one {w : World} {A : Option Addr} {xs : List XV} (h : RdX w A xs) {k : Nat} (hk : k < xs.length) : ∃ b off, A = some ⟨b, off, none⟩ ∧ b < w.heap.size ∧ ∀ W, Below w.heap.size w W →
    W.cell? ⟨b, off + k * 7, none⟩ = some (.int .i64 xs[k].x) ∧ W.cell? ⟨b, off + k * 7 + 1, none⟩ = some (.int .i64 xs[k].r) ∧ W.cell? ⟨b, off + k * 7 + 2, none⟩ = some (.int .i64 xs[k].q) ∧ W.cell? ⟨b, off + k * 7 + 3, none⟩ = some (.int .i64 xs[k].k)
    ∧ W.cell? ⟨b, off + k * 7 + 4, none⟩ = some (.int .i64 xs[k].m) ∧ W.cell? ⟨b, off + k * 7 + 5, none⟩ = some (.int .i64 xs[k].n) ∧ W.cell? ⟨b, off + k * 7 + 6, none⟩ = some (.string xs[k].t) := by
  obtain ⟨b, off, rfl, hl, hc⟩ := h (by omega)
  have h0 := hc k xs[k] (List.getElem?_eq_getElem hk)
  have g : ∀ W, Below w.heap.size w W → ∀ i v, xs[k].cells[i]? = some v → W.cell? ⟨b, off + k * 7 + i, none⟩ = some v := fun W hb i v hi => (hb.cell (p := ⟨b, off + k * 7 + i, none⟩) hl).trans (h0 i v hi)
  exact ⟨b, off, rfl, hl, fun W hb => ⟨g W hb 0 _ rfl, g W hb 1 _ rfl, g W hb 2 _ rfl, g W hb 3 _ rfl, g W hb 4 _ rfl, g W hb 5 _ rfl, g W hb 6 _ rfl⟩⟩
def Sm.lg (y : XV) : Bool := decide (300 < y.t.size)
def Sm.fewB (xs : List XV) (most : Int) : Bool := !xs.any lg && decide ((xs.length : Int) ≤ most)
set_option maxRecDepth 100000 in
set_option maxHeartbeats 1000000 in
theorem Sm.few_any (A : Option Addr) (n c : Nat) (xs : List XV) (most : Int) (w : World) (hn : xs.length = n) (hnc : n ≤ c) (hc9 : c ≤ 9223372036854775807) (hx : RdX w A xs) (hcm : ∀ y ∈ xs, XV.came y) :
    Calls Tryz.prog 6 #[.slice A n c, .int .i64 most] w fun e w' => e = .returned (.bool (fewB xs most)) ∧ Below w.heap.size w w' := by
  have HX := Lib.hid hx
  have HN := Lib.hid hn
  have HCM := Lib.hid hcm
  clear hx hn hcm
  go_enter Tryz.func6, Tryz.ntmps6
  go_wp2
  go_loopw [5] (fun v5 wr => ∃ k : Nat, k ≤ n ∧ v5 = .int .i64 (k : Int) ∧ Hid ((xs.take k).any lg = false) ∧ Below w.heap.size w wr) (fun v5 _ => n - (RowKit.intOf v5).toNat)
  case atStart => exact ⟨0, Nat.zero_le _, rfl, Lib.hid rfl, Below.refl _ _⟩
  case round =>
    obtain ⟨k, hk, rfl, HA, hb⟩ := hrel
    by_cases hlt : k < n
    · have hkx : k < xs.length := by rw [HN.out]; exact hlt
      obtain ⟨b, off, rfl, hbl, hcl⟩ := HX.out.one hkx
      obtain ⟨_, _, _, c3, c4, c5, c6⟩ := hcl wr hb
      have hlg := fun W => elong_any xs[k].k xs[k].m xs[k].n xs[k].t W (HCM.out _ (List.getElem_mem hkx)).sz
      have htk : (xs.take (k + 1)).any lg = ((xs.take k).any lg || decide (300 < xs[k].t.size)) := by rw [List.take_succ_eq_append_getElem hkx, List.any_append]; simp [lg]
      have hbl2 : b < wr.heap.size := Nat.lt_of_lt_of_le hbl hb.size
      have HB := Lib.hid hb
      have HTK := Lib.hid htk
      clear hcl htk hb
      cases hd : decide (300 < xs[k].t.size) with
      | false =>
        rw [hd] at hlg
        have HA2 : Hid ((xs.take (k + 1)).any lg = false) := Lib.hid (by rw [HTK.out, HA.out, hd]; rfl)
        clear hd HTK
        go_wp2_with (go_at_call 19; (with_reducible refine (hlg _).mono ?_); rintro e w2 ⟨rfl, hb2⟩)
        go_roundw
        case rel => exact ⟨k + 1, by omega, by go_num, HA2, HB.out.trans (hb2.mono HB.out.size)⟩
        case measure => simp [RowKit.intOf]; omega
      | true =>
        rw [hd] at hlg
        have HA2 : Hid (xs.any lg = true) := Lib.hid (List.any_eq_true.2 ⟨xs[k], List.getElem_mem hkx, hd⟩)
        clear hd HTK
        go_wp2_with (go_at_call 19; (with_reducible refine (hlg _).mono ?_); rintro e w2 ⟨rfl, hb2⟩)
        go_ret
        exact ⟨by unfold fewB; rw [HA2.out]; simp, HB.out.trans (hb2.mono HB.out.size)⟩
    · obtain rfl : k = n := by omega
      have h1 := HA.out
      rw [List.take_of_length_le (by rw [HN.out]; exact Nat.le_refl _)] at h1
      have H1 := Lib.hid h1
      have HB := Lib.hid hb
      clear h1 hb
      go_wp2
      go_ret
      exact ⟨by unfold fewB; rw [H1.out, HN.out]; simp, HB.out⟩
end Go.Proofs
namespace Go.Proofs
open Go Go.RowKit Sm Go.Lib
def Sm.stX (M : AcM) (y : XV) : AcM := stM M y.x y.r y.q y.k y.m y.n y.t
def Sm.playM (M : AcM) (xs : List XV) : AcM := xs.foldl stX M
theorem Sm.playM_snoc (M : AcM) (xs : List XV) (y : XV) : playM M (xs ++ [y]) = stX (playM M xs) y := by unfold playM; rw [List.foldl_append]; rfl
/-- what stays of an acceptor while it is called -/
structure Sm.OkM (c s : Int) (M : AcM) : Prop where
  c : M.c = c
  s : M.s = s
  t : M.t.size ≤ 300
  good : GoodM M
theorem Sm.OkM.prom {c s : Int} {M : AcM} (h : OkM c s M) (r q : Int) : OkM c s (prM M r q) := by
  unfold prM
  split
  · exact ⟨h.c, h.s, h.t, h.good⟩
  · exact h
theorem Sm.OkM.acc {c s : Int} {M : AcM} (h : OkM c s M) (r q k m n : Int) (t : ByteArray) (b : Bool) (ht : t.size ≤ 300) : OkM c s (acM M r q k m n t b) := by
  unfold acM
  split
  · rename_i e
    refine ⟨h.c, h.s, ht, ?_⟩
    unfold acOk at e
    simp only [Bool.and_eq_true] at e
    have := may_round e.1.1
    intro e1 _
    exact absurd (show r = -1 from e1) (by omega)
  · exact h
theorem Sm.OkM.step {c s : Int} {M : AcM} (h : OkM c s M) (y : XV) (ht : y.t.size ≤ 300) : OkM c s (stX M y) := by
  unfold stX stM
  split
  · exact h.prom _ _
  · exact h.acc _ _ _ _ _ _ _ ht
theorem Sm.OkM.play {c s : Int} {M : AcM} : ∀ (xs : List XV), OkM c s M → (∀ y ∈ xs, y.t.size ≤ 300) → OkM c s (playM M xs)
  | [], h, _ => h
  | y :: r, h, ht => OkM.play r (h.step y (ht y (List.mem_cons_self ..))) (fun z hz => ht z (List.mem_cons_of_mem _ hz))
theorem Sm.okNew (c s : Int) : OkM c s (newM c s) := ⟨rfl, rfl, (show (⟨#[]⟩ : ByteArray).size ≤ 300 by decide), fun _ _ => ⟨rfl, rfl, rfl, rfl⟩⟩
theorem Sm.few_small {xs : List XV} {most : Int} (h : fewB xs most = true) : (∀ y ∈ xs, y.t.size ≤ 300) ∧ (xs.length : Int) ≤ most := by
  unfold fewB at h
  simp only [Bool.and_eq_true, Bool.not_eq_true', decide_eq_true_eq] at h
  refine ⟨fun y hy => ?_, h.2⟩
  have := List.any_eq_false.1 h.1 y hy
  unfold lg at this
  simp at this
  exact this
theorem Sm.take_play (M : AcM) {xs : List XV} {k : Nat} (hk : k < xs.length) : playM M (xs.take (k + 1)) = stX (playM M (xs.take k)) xs[k] := by
  rw [List.take_succ_eq_append_getElem hk, playM_snoc]
end Go.Proofs
