/-
  acceptor: fresh, may. Conditions: as each theorem names them.
-/
import Derived.Test.YtamlacofmihldaaDoorMf
import Derived.Test.YtamlacofmihldaaDoorBaD
import Derived.Test.YtamlacofmihldaaDoorTxE
namespace Go.Proofs
open Go Go.RowKit Sm Go.Lib
attribute [local go_sem] Oper.semAt_some
theorem Sm.other {w : World} {p : Addr} {q : Nat} {u : Value} {x : Option Obj} (h : w.heap[q]? = x) (hp : q ≠ p.block) : (w.setCell p u).heap[q]? = x := (Below.heap_setCell _ _ _ _ hp).trans h
set_option maxRecDepth 100000 in
set_option maxHeartbeats 2000000 in
theorem Sm.fresh_any (r p k m n : Int) (t : ByteArray) (w : World) (ht : t.size ≤ 1000000) : Calls Tryd.prog 23 #[.agg #[.int .i64 r, .int .i64 p, .int .i64 k, .int .i64 m, .int .i64 n, .string t]] w fun e w' => e = .returned (.agg #[.int .i64 r, .int .i64 p, .int .i64 k, .int .i64 m, .int .i64 n, .string t]) ∧ Below w.heap.size w w' := by
  have h1 := fun W => Clone_any t W ht
  have q1 := World.alloc_heap_new w (.cells #[.int .i64 r, .int .i64 p, .int .i64 k, .int .i64 m, .int .i64 n, .string t] 39)
  have q2 := World.alloc_heap_new (w.alloc (.cells #[.int .i64 r, .int .i64 p, .int .i64 k, .int .i64 m, .int .i64 n, .string t] 39)) (.cells #[.int .i64 0, .int .i64 0, .int .i64 0, .int .i64 0, .int .i64 0, .string ⟨#[]⟩] 39)
  have hb : Below w.heap.size w ((w.alloc (.cells #[.int .i64 r, .int .i64 p, .int .i64 k, .int .i64 m, .int .i64 n, .string t] 39)).alloc (.cells #[.int .i64 0, .int .i64 0, .int .i64 0, .int .i64 0, .int .i64 0, .string ⟨#[]⟩] 39)) := ((Below.refl _ w).alloc (Nat.le_refl _) _).alloc (by simp) _
  have hk := Below.heap_alloc (w.alloc (.cells #[.int .i64 r, .int .i64 p, .int .i64 k, .int .i64 m, .int .i64 n, .string t] 39)) (.cells #[.int .i64 0, .int .i64 0, .int .i64 0, .int .i64 0, .int .i64 0, .string ⟨#[]⟩] 39) w.heap.size (by simp)
  rw [World.size_alloc] at q2
  rw [← hk] at q1
  clear hk
  obtain ⟨w1, hw1⟩ : ∃ v, (w.alloc (.cells #[.int .i64 r, .int .i64 p, .int .i64 k, .int .i64 m, .int .i64 n, .string t] 39)).alloc (.cells #[.int .i64 0, .int .i64 0, .int .i64 0, .int .i64 0, .int .i64 0, .string ⟨#[]⟩] 39) = v := ⟨_, rfl⟩
  rw [hw1] at q1 q2 hb
  have HK : Hid (∀ W, Below w1.heap.size w1 W → W.heap[w.heap.size]? = some (.cells #[.int .i64 r, .int .i64 p, .int .i64 k, .int .i64 m, .int .i64 n, .string t] 39 (0, 0)) ∧ W.heap[w.heap.size + 1]? = some (.cells #[.int .i64 0, .int .i64 0, .int .i64 0, .int .i64 0, .int .i64 0, .string ⟨#[]⟩] 39 (0, 0))) := Lib.hid fun W hb =>
    ⟨(hb.block _ (Array.getElem?_eq_some_iff.1 q1).1).trans q1, (hb.block _ (Array.getElem?_eq_some_iff.1 q2).1).trans q2⟩
  obtain ⟨c0, c1, c2, c3, c4, c5⟩ := (six q1).1
  have HB := Lib.hid hb
  clear q1 q2 hb
  go_enter Tryd.func23, Tryd.ntmps23
  go_wp2_with (go_at_call 33; (with_reducible refine (h1 _).mono ?_); rintro e w2 ⟨rfl, hb2⟩; have HA := Lib.hid (HK.out _ hb2); obtain ⟨⟨d0, d1, d2, d3, d4, d5⟩, ⟨e0, e1, e2, e3, e4, e5⟩⟩ := six (HK.out _ hb2).1; obtain ⟨⟨x0, x1, x2, x3, x4, x5⟩, ⟨f0, f1, f2, f3, f4, f5⟩⟩ := six (HK.out _ hb2).2; have HB2 := Lib.hid (HB.out.trans (hb2.mono HB.out.size)); clear hb2 hw1 c0 c1 c2 c3 c4 c5)
  have h6 := set6 (other (p := ⟨w.heap.size, 5, none⟩) (u := .string t) HA.out.2 (by simp)) (.int .i64 r) (.int .i64 p) (.int .i64 k) (.int .i64 m) (.int .i64 n) (.string t)
  obtain ⟨⟨z0, z1, z2, z3, z4, z5⟩, _⟩ := six h6
  clear d0 d1 d2 d3 d4 d5 e0 e1 e2 e3 e4 e5 x0 x1 x2 x3 x4 x5 f0 f1 f2 f3 f4 f5
  refine bodyPost_ret (v := .agg #[.int .i64 r, .int .i64 p, .int .i64 k, .int .i64 m, .int .i64 n, .string t]) (by simp only [results, Tryd.results23]; simp [go_sem, z0, z1, z2, z3, z4, z5]) rfl ⟨rfl, ?_⟩
  exact bset6 (HB2.out.setCell (Nat.le_refl _) _) (by omega) _ _ _ _ _ _
set_option maxRecDepth 100000 in
set_option maxHeartbeats 2000000 in
/-- the choir and the slot of an acceptor, and what one may speak by -/
theorem Sm.may_any (w : World) (p : Nat) (M : AcM) (hp : AAt w p M) (r q : Int) : Calls Tryd.prog 34 #[.pointer (some ⟨p, 0, none⟩), .agg #[.int .i64 r, .int .i64 q]] w fun e w' => e = .returned (.bool (mayB M.c M.s r q)) ∧ Below w.heap.size w w' := by
  have hb1 : Below w.heap.size w (w.alloc (.cells #[.int .i64 r, .int .i64 q] 36)) := (Below.refl _ w).alloc (Nat.le_refl _) _
  have q1 := World.alloc_heap_new w (.cells #[.int .i64 r, .int .i64 q] 36)
  have hq := hp.keep hb1
  have h1 := fun W => May_any M.c M.s r q W
  obtain ⟨w1, hw1⟩ : ∃ v, w.alloc (.cells #[.int .i64 r, .int .i64 q] 36) = v := ⟨_, rfl⟩
  rw [hw1] at hb1 q1 hq
  have HS : Hid (∀ W, Below w1.heap.size w1 W → W.cell? ⟨p, 0, none⟩ = some (.int .i64 M.c) ∧ W.cell? ⟨p, 1, none⟩ = some (.int .i64 M.s) ∧ W.cell? ⟨w.heap.size, 0, none⟩ = some (.int .i64 r) ∧ W.cell? ⟨w.heap.size, 1, none⟩ = some (.int .i64 q)) := Lib.hid fun W hb => by
    have hc := (hq.keep hb).cells
    have hd := (two ((hb.block _ (Array.getElem?_eq_some_iff.1 q1).1).trans q1)).1
    exact ⟨hc.1, hc.2.1, hd.1, hd.2⟩
  have z0 := HS.out _ (Below.refl _ _)
  have hl := hp.lt
  have HB1 := Lib.hid hb1
  obtain ⟨x, hx⟩ : ∃ x, mayB M.c M.s r q = x := ⟨_, rfl⟩
  rw [hx] at h1 ⊢
  clear hp hb1 q1 hq hx
  go_enter Tryd.func34, Tryd.ntmps34
  go_upto_region 1 with fail
  clear hw1
  go_region_held_law (fun W => W.cell? ⟨p, 0, none⟩ = some (.int .i64 M.c) ∧ W.cell? ⟨p, 1, none⟩ = some (.int .i64 M.s) ∧ W.cell? ⟨w.heap.size, 0, none⟩ = some (.int .i64 r) ∧ W.cell? ⟨w.heap.size, 1, none⟩ = some (.int .i64 q))
    (first | exact z0 | (refine HS.out _ ?_; repeat' (first | assumption | exact Below.refl _ _ | refine Below.drew ?_ | (simp; done) | (simp; omega) | omega)))
    ((go_at_call 46; (with_reducible refine (h1 _).mono ?_); rintro e w2 ⟨rfl, hb2⟩; have hb2 := (Below.refl _ w1).drew.trans hb2))
  all_goals
    go_wp2
    go_ret
    exact ⟨rfl, HB1.out.trans (hb2.mono HB1.out.size)⟩
end Go.Proofs
