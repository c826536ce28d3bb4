/-
  acceptor: fresh, may. acceptor: what is done where a call is promised, accepted; ask. acceptor: ask. acceptor: Promise, Accept. acceptor: Accept. acceptor: New, Promised, Accepted, Copy, Same. acceptor: Accepted. Conditions: as each theorem names them.
-/
import Derived.Test.YtamlacofmihldaaGreatDoorMa
import Derived.Test.YtamlacofmihldaaGreatDoorBaD
import Derived.Test.YtamlacofmihldaaGreatDoorTxE
import Derived.WalkMore
import Derived.ScopeJumps
namespace Go.Proofs
open Go Go.RowKit Sm Go.Lib
attribute [local go_sem] Oper.semAt_some
theorem Sm.other {w : World} {p : Addr} {q : Nat} {u : Value} {x : Option Obj} (h : w.heap[q]? = x) (hp : q ≠ p.block) : (w.setCell p u).heap[q]? = x := (Below.heap_setCell _ _ _ _ hp).trans h
set_option maxRecDepth 100000 in
set_option maxHeartbeats 2000000 in
theorem Sm.fresh_any (r p k m n : Int) (t : ByteArray) (w : World) (ht : t.size ≤ 1000000) : Calls Tryz.prog 30 #[.agg #[.int .i64 r, .int .i64 p, .int .i64 k, .int .i64 m, .int .i64 n, .string t]] w fun e w' => e = .returned (.agg #[.int .i64 r, .int .i64 p, .int .i64 k, .int .i64 m, .int .i64 n, .string t]) ∧ Below w.heap.size w w' := by
  have h1 := fun W => Clone_any t W ht
  have q1 := World.alloc_heap_new w (.cells #[.int .i64 r, .int .i64 p, .int .i64 k, .int .i64 m, .int .i64 n, .string t] 36)
  have q2 := World.alloc_heap_new (w.alloc (.cells #[.int .i64 r, .int .i64 p, .int .i64 k, .int .i64 m, .int .i64 n, .string t] 36)) (.cells #[.int .i64 0, .int .i64 0, .int .i64 0, .int .i64 0, .int .i64 0, .string ⟨#[]⟩] 36)
  have hb : Below w.heap.size w ((w.alloc (.cells #[.int .i64 r, .int .i64 p, .int .i64 k, .int .i64 m, .int .i64 n, .string t] 36)).alloc (.cells #[.int .i64 0, .int .i64 0, .int .i64 0, .int .i64 0, .int .i64 0, .string ⟨#[]⟩] 36)) := ((Below.refl _ w).alloc (Nat.le_refl _) _).alloc (by simp) _
  have hk := Below.heap_alloc (w.alloc (.cells #[.int .i64 r, .int .i64 p, .int .i64 k, .int .i64 m, .int .i64 n, .string t] 36)) (.cells #[.int .i64 0, .int .i64 0, .int .i64 0, .int .i64 0, .int .i64 0, .string ⟨#[]⟩] 36) w.heap.size (by simp)
  rw [World.size_alloc] at q2
  rw [← hk] at q1
  clear hk
  obtain ⟨w1, hw1⟩ : ∃ v, (w.alloc (.cells #[.int .i64 r, .int .i64 p, .int .i64 k, .int .i64 m, .int .i64 n, .string t] 36)).alloc (.cells #[.int .i64 0, .int .i64 0, .int .i64 0, .int .i64 0, .int .i64 0, .string ⟨#[]⟩] 36) = v := ⟨_, rfl⟩
  rw [hw1] at q1 q2 hb
  have HK : Hid (∀ W, Below w1.heap.size w1 W → W.heap[w.heap.size]? = some (.cells #[.int .i64 r, .int .i64 p, .int .i64 k, .int .i64 m, .int .i64 n, .string t] 36 (0, 0)) ∧ W.heap[w.heap.size + 1]? = some (.cells #[.int .i64 0, .int .i64 0, .int .i64 0, .int .i64 0, .int .i64 0, .string ⟨#[]⟩] 36 (0, 0))) := Lib.hid fun W hb =>
    ⟨(hb.block _ (Array.getElem?_eq_some_iff.1 q1).1).trans q1, (hb.block _ (Array.getElem?_eq_some_iff.1 q2).1).trans q2⟩
  obtain ⟨c0, c1, c2, c3, c4, c5⟩ := (six q1).1
  have HB := Lib.hid hb
  clear q1 q2 hb
  go_enter Tryz.func30, Tryz.ntmps30
  go_wp2_with (go_at_call 45; (with_reducible refine (h1 _).mono ?_); rintro e w2 ⟨rfl, hb2⟩; have HA := Lib.hid (HK.out _ hb2); obtain ⟨⟨d0, d1, d2, d3, d4, d5⟩, ⟨e0, e1, e2, e3, e4, e5⟩⟩ := six (HK.out _ hb2).1; obtain ⟨⟨x0, x1, x2, x3, x4, x5⟩, ⟨f0, f1, f2, f3, f4, f5⟩⟩ := six (HK.out _ hb2).2; have HB2 := Lib.hid (HB.out.trans (hb2.mono HB.out.size)); clear hb2 hw1 c0 c1 c2 c3 c4 c5)
  have h6 := set6 (other (p := ⟨w.heap.size, 5, none⟩) (u := .string t) HA.out.2 (by simp)) (.int .i64 r) (.int .i64 p) (.int .i64 k) (.int .i64 m) (.int .i64 n) (.string t)
  obtain ⟨⟨z0, z1, z2, z3, z4, z5⟩, _⟩ := six h6
  clear d0 d1 d2 d3 d4 d5 e0 e1 e2 e3 e4 e5 x0 x1 x2 x3 x4 x5 f0 f1 f2 f3 f4 f5
  refine bodyPost_ret (v := .agg #[.int .i64 r, .int .i64 p, .int .i64 k, .int .i64 m, .int .i64 n, .string t]) (by simp only [results, Tryz.results30]; simp [go_sem, z0, z1, z2, z3, z4, z5]) rfl ⟨rfl, ?_⟩
  exact bset6 (HB2.out.setCell (Nat.le_refl _) _) (by omega) _ _ _ _ _ _
set_option maxRecDepth 100000 in
set_option maxHeartbeats 2000000 in
/-- the choir and the slot of an acceptor, and what one may speak by -/
theorem Sm.may_any (w : World) (p : Nat) (M : AcM) (hp : AAt w p M) (r q : Int) : Calls Tryz.prog 37 #[.pointer (some ⟨p, 0, none⟩), .agg #[.int .i64 r, .int .i64 q]] w fun e w' => e = .returned (.bool (mayB M.c M.s r q)) ∧ Below w.heap.size w w' := by
  have hb1 : Below w.heap.size w (w.alloc (.cells #[.int .i64 r, .int .i64 q] 31)) := (Below.refl _ w).alloc (Nat.le_refl _) _
  have q1 := World.alloc_heap_new w (.cells #[.int .i64 r, .int .i64 q] 31)
  have hq := hp.keep hb1
  have h1 := fun W => May_any M.c M.s r q W
  obtain ⟨w1, hw1⟩ : ∃ v, w.alloc (.cells #[.int .i64 r, .int .i64 q] 31) = v := ⟨_, rfl⟩
  rw [hw1] at hb1 q1 hq
  have HS : Hid (∀ W, Below w1.heap.size w1 W → W.cell? ⟨p, 0, none⟩ = some (.int .i64 M.c) ∧ W.cell? ⟨p, 1, none⟩ = some (.int .i64 M.s) ∧ W.cell? ⟨w.heap.size, 0, none⟩ = some (.int .i64 r) ∧ W.cell? ⟨w.heap.size, 1, none⟩ = some (.int .i64 q)) := Lib.hid fun W hb => by
    have hc := (hq.keep hb).cells
    have hd := (two ((hb.block _ (Array.getElem?_eq_some_iff.1 q1).1).trans q1)).1
    exact ⟨hc.1, hc.2.1, hd.1, hd.2⟩
  have z0 := HS.out _ (Below.refl _ _)
  have hl := hp.lt
  have HB1 := Lib.hid hb1
  obtain ⟨x, hx⟩ : ∃ x, mayB M.c M.s r q = x := ⟨_, rfl⟩
  rw [hx] at h1 ⊢
  clear hp hb1 q1 hq hx
  go_enter Tryz.func37, Tryz.ntmps37
  go_upto_region 1 with fail
  clear hw1
  go_region_held_law (fun W => W.cell? ⟨p, 0, none⟩ = some (.int .i64 M.c) ∧ W.cell? ⟨p, 1, none⟩ = some (.int .i64 M.s) ∧ W.cell? ⟨w.heap.size, 0, none⟩ = some (.int .i64 r) ∧ W.cell? ⟨w.heap.size, 1, none⟩ = some (.int .i64 q))
    (first | exact z0 | (refine HS.out _ ?_; repeat' (first | assumption | exact Below.refl _ _ | refine Below.drew ?_ | (simp; done) | (simp; omega) | omega)))
    ((go_at_call 47; (with_reducible refine (h1 _).mono ?_); rintro e w2 ⟨rfl, hb2⟩; have hb2 := (Below.refl _ w1).drew.trans hb2))
  all_goals
    go_wp2
    go_ret
    exact ⟨rfl, HB1.out.trans (hb2.mono HB1.out.size)⟩
end Go.Proofs
namespace Go.Proofs
open Go Go.RowKit Sm Go.Lib
attribute [local go_sem] Oper.semAt_some
theorem Sm.cellO {W : World} {q a : Addr} {u : Value} {x : Option Value} (h : W.cell? q = x) (hn : q.block ≠ a.block) : (W.setCell a u).cell? q = x := (World.cell?_of_block (Below.heap_setCell W a u q.block hn)).trans h
def Sm.promM (M : AcM) (r q : Int) : AcM := { M with pr := r, pp := q }
def Sm.accM (M : AcM) (r q k m n : Int) (t : ByteArray) : AcM := { M with ar := r, ap := q, k := k, m := m, n := n, t := t }
theorem Sm.AAt.acc {w : World} {p : Nat} {M : AcM} (h : AAt w p M) (r q k m n : Int) (t : ByteArray) : AAt ((((((w.setCell ⟨p, 4, none⟩ (.int .i64 r)).setCell ⟨p, 5, none⟩ (.int .i64 q)).setCell ⟨p, 6, none⟩ (.int .i64 k)).setCell ⟨p, 7, none⟩ (.int .i64 m)).setCell ⟨p, 8, none⟩ (.int .i64 n)).setCell ⟨p, 9, none⟩ (.string t)) p (accM M r q k m n t) :=
  heap_setCells (heap_setCells (heap_setCells (heap_setCells (heap_setCells (heap_setCells h)))))
theorem Sm.AAt.prom {w : World} {p : Nat} {M : AcM} (h : AAt w p M) (r q : Int) : AAt ((w.setCell ⟨p, 2, none⟩ (.int .i64 r)).setCell ⟨p, 3, none⟩ (.int .i64 q)) p (promM M r q) :=
  heap_setCells (heap_setCells h)
def Sm.Xp (p : Nat) : Nat → Prop := fun b => b = p
theorem Sm.but2 {w w1 : World} {p : Nat} (h : But (Xp p) w w1) (a b : Value) : But (Xp p) w ((w1.setCell ⟨p, 2, none⟩ a).setCell ⟨p, 3, none⟩ b) := (h.set _ _ (Or.inl (show _ = _ from rfl))).set _ _ (Or.inl (show _ = _ from rfl))
theorem Sm.but6 {w w1 : World} {p o : Nat} (h : But (Xp p) w w1) (a b c d e f : Value) : But (Xp p) w ((((((w1.setCell ⟨p, o, none⟩ a).setCell ⟨p, o + 1, none⟩ b).setCell ⟨p, o + 2, none⟩ c).setCell ⟨p, o + 3, none⟩ d).setCell ⟨p, o + 4, none⟩ e).setCell ⟨p, o + 5, none⟩ f) :=
  (((((h.set _ _ (Or.inl (show _ = _ from rfl))).set _ _ (Or.inl (show _ = _ from rfl))).set _ _ (Or.inl (show _ = _ from rfl))).set _ _ (Or.inl (show _ = _ from rfl))).set _ _ (Or.inl (show _ = _ from rfl))).set _ _ (Or.inl (show _ = _ from rfl))
set_option maxRecDepth 100000 in
set_option maxHeartbeats 600000 in
theorem Sm.do29 (w : World) (b2 b7 p : Nat) (M : AcM) (h2 : w.cell? ⟨b2, 0, none⟩ = some (.pointer (some ⟨p, 0, none⟩))) (hp : AAt w p M) (h7 : w.heap[b7]? = some (.cells #[.int .i64 0, .int .i64 0, .int .i64 0, .int .i64 0, .int .i64 0, .string ⟨#[]⟩] 36 (0, 0))) (ht : M.t.size ≤ 1000000) :
    Calls Tryz.prog 29 #[.pointer (some ⟨b2, 0, none⟩), .pointer (some ⟨b7, 0, none⟩)] w fun e w' => e = .returned (.tuple #[]) ∧ w'.heap[b7]? = some (.cells #[.int .i64 M.ar, .int .i64 M.ap, .int .i64 M.k, .int .i64 M.m, .int .i64 M.n, .string M.t] 36 (0, 0)) ∧ But (Xp b7) w w' := by
  have h1 := fun W => fresh_any M.ar M.ap M.k M.m M.n M.t W ht
  obtain ⟨_, _, _, _, c4, c5, c6, c7, c8, c9⟩ := hp.cells
  have hl := hp.lt
  have l7 := (Array.getElem?_eq_some_iff.1 h7).1
  have H7 := Lib.hid h7
  clear h7 hp
  go_enter Tryz.func29, Tryz.ntmps29
  go_wp2_with (go_at_call 30; (with_reducible refine (h1 _).mono ?_); rintro e w2 ⟨rfl, hb2⟩; have h72 := (hb2.block _ l7).trans H7.out; obtain ⟨⟨x0, x1, x2, x3, x4, x5⟩, ⟨f0, f1, f2, f3, f4, f5⟩⟩ := six h72; have H72 := Lib.hid h72; have HB2 := Lib.hid hb2; clear hb2 h72)
  go_end0
  exact ⟨rfl, set6 H72.out _ _ _ _ _ _, but6 (But.of_all HB2.out _) _ _ _ _ _ _⟩
set_option maxRecDepth 100000 in
set_option maxHeartbeats 600000 in
theorem Sm.do31 (w : World) (b4 b5 b3 p : Nat) (M : AcM) (r q k m n : Int) (t : ByteArray) (ht : t.size ≤ 1000000) (hp : AAt w p M) (n3 : b3 ≠ p) (n4 : b4 ≠ p) (n5 : b5 ≠ p)
    (h3 : w.cell? ⟨b3, 0, none⟩ = some (.pointer (some ⟨p, 0, none⟩))) (h4 : w.heap[b4]? = some (.cells #[.int .i64 r, .int .i64 q] 31 (0, 0))) (h5 : w.heap[b5]? = some (.cells #[.int .i64 k, .int .i64 m, .int .i64 n, .string t] 34 (0, 0))) :
    Calls Tryz.prog 31 #[.pointer (some ⟨b4, 0, none⟩), .pointer (some ⟨b5, 0, none⟩), .pointer (some ⟨b3, 0, none⟩)] w fun e w' => e = .returned (.tuple #[]) ∧ AAt w' p (accM M r q k m n t) ∧ But (Xp p) w w' := by
  have h1 := fun W => fresh_any r q k m n t W ht
  have l3 := World.block_lt_of_cell? w _ h3
  have l4 := (Array.getElem?_eq_some_iff.1 h4).1
  have l5 := (Array.getElem?_eq_some_iff.1 h5).1
  have HS : Hid (∀ W, Below w.heap.size w W → W.cell? ⟨b3, 0, none⟩ = some (.pointer (some ⟨p, 0, none⟩)) ∧ (W.cell? ⟨b4, 0, none⟩ = some (.int .i64 r) ∧ W.cell? ⟨b4, 1, none⟩ = some (.int .i64 q)) ∧ W.cell? ⟨b5, 0, none⟩ = some (.int .i64 k) ∧ W.cell? ⟨b5, 1, none⟩ = some (.int .i64 m) ∧ W.cell? ⟨b5, 2, none⟩ = some (.int .i64 n) ∧ W.cell? ⟨b5, 3, none⟩ = some (.string t)) := Lib.hid fun W hb =>
    ⟨(hb.cell (p := ⟨b3, 0, none⟩) l3).trans h3, (two ((hb.block _ l4).trans h4)).1, (four ((hb.block _ l5).trans h5)).1⟩
  have HO : Hid (∀ W, Below w.heap.size w W → (((((((W.setCell ⟨p, 4, none⟩ (.int .i64 r)).setCell ⟨p, 5, none⟩ (.int .i64 q)).setCell ⟨p, 6, none⟩ (.int .i64 k)).setCell ⟨p, 7, none⟩ (.int .i64 m)).setCell ⟨p, 8, none⟩ (.int .i64 n)).setCell ⟨p, 9, none⟩ (.string t)).cell? ⟨b3, 0, none⟩ = some (.pointer (some ⟨p, 0, none⟩)) ∧ (((((((W.setCell ⟨p, 4, none⟩ (.int .i64 r)).setCell ⟨p, 5, none⟩ (.int .i64 q)).setCell ⟨p, 6, none⟩ (.int .i64 k)).setCell ⟨p, 7, none⟩ (.int .i64 m)).setCell ⟨p, 8, none⟩ (.int .i64 n)).setCell ⟨p, 9, none⟩ (.string t)).cell? ⟨b4, 0, none⟩ = some (.int .i64 r) ∧ ((((((W.setCell ⟨p, 4, none⟩ (.int .i64 r)).setCell ⟨p, 5, none⟩ (.int .i64 q)).setCell ⟨p, 6, none⟩ (.int .i64 k)).setCell ⟨p, 7, none⟩ (.int .i64 m)).setCell ⟨p, 8, none⟩ (.int .i64 n)).setCell ⟨p, 9, none⟩ (.string t)).cell? ⟨b4, 1, none⟩ = some (.int .i64 q)) ∧ ((((((W.setCell ⟨p, 4, none⟩ (.int .i64 r)).setCell ⟨p, 5, none⟩ (.int .i64 q)).setCell ⟨p, 6, none⟩ (.int .i64 k)).setCell ⟨p, 7, none⟩ (.int .i64 m)).setCell ⟨p, 8, none⟩ (.int .i64 n)).setCell ⟨p, 9, none⟩ (.string t)).cell? ⟨b5, 0, none⟩ = some (.int .i64 k) ∧ ((((((W.setCell ⟨p, 4, none⟩ (.int .i64 r)).setCell ⟨p, 5, none⟩ (.int .i64 q)).setCell ⟨p, 6, none⟩ (.int .i64 k)).setCell ⟨p, 7, none⟩ (.int .i64 m)).setCell ⟨p, 8, none⟩ (.int .i64 n)).setCell ⟨p, 9, none⟩ (.string t)).cell? ⟨b5, 1, none⟩ = some (.int .i64 m) ∧ ((((((W.setCell ⟨p, 4, none⟩ (.int .i64 r)).setCell ⟨p, 5, none⟩ (.int .i64 q)).setCell ⟨p, 6, none⟩ (.int .i64 k)).setCell ⟨p, 7, none⟩ (.int .i64 m)).setCell ⟨p, 8, none⟩ (.int .i64 n)).setCell ⟨p, 9, none⟩ (.string t)).cell? ⟨b5, 2, none⟩ = some (.int .i64 n) ∧ ((((((W.setCell ⟨p, 4, none⟩ (.int .i64 r)).setCell ⟨p, 5, none⟩ (.int .i64 q)).setCell ⟨p, 6, none⟩ (.int .i64 k)).setCell ⟨p, 7, none⟩ (.int .i64 m)).setCell ⟨p, 8, none⟩ (.int .i64 n)).setCell ⟨p, 9, none⟩ (.string t)).cell? ⟨b5, 3, none⟩ = some (.string t))) := Lib.hid (fun W hb => by
    have hs := HS.out W hb
    have k3 : ∀ (q' : Addr) x, q'.block ≠ p → W.cell? q' = some x → ((((((W.setCell ⟨p, 4, none⟩ (.int .i64 r)).setCell ⟨p, 5, none⟩ (.int .i64 q)).setCell ⟨p, 6, none⟩ (.int .i64 k)).setCell ⟨p, 7, none⟩ (.int .i64 m)).setCell ⟨p, 8, none⟩ (.int .i64 n)).setCell ⟨p, 9, none⟩ (.string t)).cell? q' = some x := fun q' x hn h => cellO (cellO (cellO (cellO (cellO (cellO h hn) hn) hn) hn) hn) hn
    exact ⟨k3 _ _ n3 hs.1, ⟨k3 _ _ n4 hs.2.1.1, k3 _ _ n4 hs.2.1.2⟩, k3 _ _ n5 hs.2.2.1, k3 _ _ n5 hs.2.2.2.1, k3 _ _ n5 hs.2.2.2.2.1, k3 _ _ n5 hs.2.2.2.2.2⟩)
  have z0 := HS.out _ (Below.refl _ w)
  have HP := Lib.hid hp
  have hl := hp.lt
  clear h3 h4 h5 hp
  go_enter Tryz.func31, Tryz.ntmps31
  go_region_held_law (fun W => W.cell? ⟨b3, 0, none⟩ = some (.pointer (some ⟨p, 0, none⟩)) ∧ (W.cell? ⟨b4, 0, none⟩ = some (.int .i64 r) ∧ W.cell? ⟨b4, 1, none⟩ = some (.int .i64 q)) ∧ W.cell? ⟨b5, 0, none⟩ = some (.int .i64 k) ∧ W.cell? ⟨b5, 1, none⟩ = some (.int .i64 m) ∧ W.cell? ⟨b5, 2, none⟩ = some (.int .i64 n) ∧ W.cell? ⟨b5, 3, none⟩ = some (.string t))
    (first | with_reducible exact z0 | with_reducible exact hset | (refine HS.out _ ?_; (first | with_reducible assumption | with_reducible exact (Below.refl _ _).drew | with_reducible exact Below.refl _ _)))
    ((go_at_call 30; (with_reducible refine (h1 _).mono ?_); rintro e w2 ⟨rfl, hb2⟩; have hb2 : Below w.heap.size w w2 := (Below.refl _ w).drew.trans hb2; have hset := HO.out _ hb2; have HP2 := Lib.hid (HP.out.keep hb2); have hs2 := hb2.size; obtain ⟨c0, c1, c2, c3, c4, c5, c6, c7, c8, c9⟩ := HP2.out.cells; have f4 := HP2.out.free 4; have f5 := HP2.out.free 5; have f6 := HP2.out.free 6; have f7 := HP2.out.free 7; have f8 := HP2.out.free 8; have f9 := HP2.out.free 9))
  all_goals
    go_end0
    exact ⟨rfl, HP2.out.acc _ _ _ _ _ _, but6 (But.of_all hb2 _) _ _ _ _ _ _⟩
end Go.Proofs
namespace Go.Proofs
open Go Go.RowKit Sm Go.Lib
attribute [local go_sem] Oper.semAt_some
/-- a scope that is left ahead to one label at most -/
theorem Sm.wp_scope_fwd {P : Program} {a : Act} {w : World} {Q : Exit → Act → World → Prop} {c rest : Code} (l : Nat) (hf : findLabel c l = some rest) (h : c.wp P (Exit.jump l (fun a' w' => rest.wp P (Exit.noGoto Q) a' w') Q) a w) : (Code.scope c).wp P Q a w :=
  wp_scope_jumps l (fun a' w' => rest.wp P (Exit.noGoto Q) a' w') (fun _ _ => 0) hf h (fun a' w' hj => wp_mono hj (fun e a'' w'' hq => by cases e <;> first | exact hq | exact False.elim hq))
theorem Sm.ask_no (r q least : Int) (v u : Value) (w : World) : Calls Tryz.prog 28 #[.pointer none, .agg #[.int .i64 r, .int .i64 q], .int .i64 least, v, u] w fun e w' => e = .returned (.tuple #[.bool false, .int .i64 1]) ∧ Below w.heap.size w w' := by
  have h1 := fun W => there_no W
  have hb1 : Below w.heap.size w (w.alloc (.cells #[.int .i64 r, .int .i64 q] 31)) := (Below.refl _ w).alloc (Nat.le_refl _) _
  go_enter Tryz.func28, Tryz.ntmps28
  go_wp2
  refine wp_scope_fwd 0 rfl ?_
  go_wp2_with (go_at_call 33; (with_reducible refine (h1 _).mono ?_); rintro e w2 ⟨rfl, hb2⟩)
  go_step3
  refine ⟨rfl, ?_⟩
  go_wp2
  try rw [Exit.noGoto_ret]
  go_ret2
  exact ⟨rfl, hb1.trans (hb2.mono hb1.size)⟩
theorem Sm.ask_zero (r q least : Int) (v u : Value) (w : World) (p : Nat) (M : AcM) (hp : AAt w p M) (hc : M.c = 0) : Calls Tryz.prog 28 #[.pointer (some ⟨p, 0, none⟩), .agg #[.int .i64 r, .int .i64 q], .int .i64 least, v, u] w fun e w' => e = .returned (.tuple #[.bool false, .int .i64 1]) ∧ Below w.heap.size w w' := by
  have hb1 : Below w.heap.size w (w.alloc (.cells #[.int .i64 r, .int .i64 q] 31)) := (Below.refl _ w).alloc (Nat.le_refl _) _
  have h1 := there_any _ p M (hp.keep hb1)
  have e : (M.c != 0) = false := by simp [hc]
  rw [e] at h1
  clear e hp hc
  go_enter Tryz.func28, Tryz.ntmps28
  go_wp2
  refine wp_scope_fwd 0 rfl ?_
  go_wp2_with (go_at_call 33; (with_reducible refine h1.mono ?_); rintro e w2 ⟨rfl, hb2⟩)
  go_step3
  refine ⟨rfl, ?_⟩
  go_wp2
  try rw [Exit.noGoto_ret]
  go_ret2
  exact ⟨rfl, hb1.trans (hb2.mono hb1.size)⟩
set_option maxRecDepth 100000 in
set_option maxHeartbeats 1000000 in
theorem Sm.ask_arg1 (r q least : Int) (v : Value) (A : Option Addr) (n c : Nat) (xs : List Bool) (w : World) (p : Nat) (M : AcM) (hp : AAt w p M) (hc : M.c ≠ 0) (hr : RowB w A n c xs) (hm : mayB M.c M.s r q = false) :
    Calls Tryz.prog 28 #[.pointer (some ⟨p, 0, none⟩), .agg #[.int .i64 r, .int .i64 q], .int .i64 least, v, .slice A n c] w fun e w' => e = .returned (.tuple #[.bool false, .int .i64 2]) ∧ Below w.heap.size w w' := by
  have hb1 : Below w.heap.size w (w.alloc (.cells #[.int .i64 r, .int .i64 q] 31)) := (Below.refl _ w).alloc (Nat.le_refl _) _
  have q1 := World.alloc_heap_new w (.cells #[.int .i64 r, .int .i64 q] 31)
  have hq := hp.keep hb1
  have hr1 := hr.keep hb1
  obtain ⟨w1, hw1⟩ : ∃ v, w.alloc (.cells #[.int .i64 r, .int .i64 q] 31) = v := ⟨_, rfl⟩
  rw [hw1] at hb1 q1 hq hr1
  have e1 : (M.c != 0) = true := by simpa using hc
  have H33 : Hid (∀ W, Below w1.heap.size w1 W → Calls Tryz.prog 33 #[.pointer (some ⟨p, 0, none⟩)] W fun e w' => e = .returned (.bool true) ∧ Below w1.heap.size w1 w') := Lib.hid fun W hb =>
    (there_any W p M (hq.keep hb)).mono fun e w' ⟨h1, h2⟩ => ⟨by rw [h1, e1], hb.trans (h2.mono hb.size)⟩
  have H37 : Hid (∀ W, Below w1.heap.size w1 W → Calls Tryz.prog 37 #[.pointer (some ⟨p, 0, none⟩), .agg #[.int .i64 r, .int .i64 q]] W fun e w' => e = .returned (.bool (mayB M.c M.s r q)) ∧ Below w1.heap.size w1 w') := Lib.hid fun W hb =>
    (may_any W p M (hq.keep hb) r q).mono fun e w' ⟨h1, h2⟩ => ⟨h1, hb.trans (h2.mono hb.size)⟩
  have H38 : Hid (∀ W, Below w1.heap.size w1 W → Calls Tryz.prog 38 #[.slice A n c] W fun e w' => e = .returned (.bool (xs.all id)) ∧ W = w') := Lib.hid fun W hb => all_any A n c xs W (hr1.keep hb)
  have HX : Hid (∀ W, Below w1.heap.size w1 W → W.cell? ⟨w.heap.size, 0, none⟩ = some (.int .i64 r) ∧ W.cell? ⟨w.heap.size, 1, none⟩ = some (.int .i64 q)) := Lib.hid fun W hb => (two ((hb.block _ (Array.getElem?_eq_some_iff.1 q1).1).trans q1)).1
  have HQ : Hid (∀ W, Below w1.heap.size w1 W → AAt W p M) := Lib.hid fun W hb => hq.keep hb
  obtain ⟨x0, x1⟩ := HX.out _ (Below.refl _ w1)
  have HB1 := Lib.hid hb1
  have hl := hp.lt
  clear hb1 q1 hq hr1 e1 hp hr hc
  rw [hm] at H37
  clear hm
  go_enter Tryz.func28, Tryz.ntmps28
  go_wp2
  refine wp_scope_fwd 0 rfl ?_
  go_wp2_with (first | (go_at_call 33; (with_reducible refine (H33.out _ (by with_reducible exact Below.refl _ _)).mono ?_); rintro e w2 ⟨rfl, hb2⟩; obtain ⟨y0, y1⟩ := HX.out _ hb2; clear hw1 x0 x1) | (go_at_call 37; (with_reducible refine (H37.out _ (by assumption)).mono ?_); rintro e w3 ⟨rfl, hb3⟩; obtain ⟨u0, u1⟩ := HX.out _ hb3; clear y0 y1))
  go_step3
  refine ⟨rfl, ?_⟩
  go_wp2
  try rw [Exit.noGoto_ret]
  go_ret2
  exact ⟨rfl, HB1.out.trans (hb3.mono HB1.out.size)⟩
set_option maxRecDepth 100000 in
set_option maxHeartbeats 1000000 in
theorem Sm.ask_arg2 (r q least : Int) (v : Value) (A : Option Addr) (n c : Nat) (xs : List Bool) (w : World) (p : Nat) (M : AcM) (hp : AAt w p M) (hc : M.c ≠ 0) (hr : RowB w A n c xs) (hm : mayB M.c M.s r q = true) (ha : xs.all id = false) :
    Calls Tryz.prog 28 #[.pointer (some ⟨p, 0, none⟩), .agg #[.int .i64 r, .int .i64 q], .int .i64 least, v, .slice A n c] w fun e w' => e = .returned (.tuple #[.bool false, .int .i64 2]) ∧ Below w.heap.size w w' := by
  have hb1 : Below w.heap.size w (w.alloc (.cells #[.int .i64 r, .int .i64 q] 31)) := (Below.refl _ w).alloc (Nat.le_refl _) _
  have q1 := World.alloc_heap_new w (.cells #[.int .i64 r, .int .i64 q] 31)
  have hq := hp.keep hb1
  have hr1 := hr.keep hb1
  obtain ⟨w1, hw1⟩ : ∃ v, w.alloc (.cells #[.int .i64 r, .int .i64 q] 31) = v := ⟨_, rfl⟩
  rw [hw1] at hb1 q1 hq hr1
  have e1 : (M.c != 0) = true := by simpa using hc
  have H33 : Hid (∀ W, Below w1.heap.size w1 W → Calls Tryz.prog 33 #[.pointer (some ⟨p, 0, none⟩)] W fun e w' => e = .returned (.bool true) ∧ Below w1.heap.size w1 w') := Lib.hid fun W hb =>
    (there_any W p M (hq.keep hb)).mono fun e w' ⟨h1, h2⟩ => ⟨by rw [h1, e1], hb.trans (h2.mono hb.size)⟩
  have H37 : Hid (∀ W, Below w1.heap.size w1 W → Calls Tryz.prog 37 #[.pointer (some ⟨p, 0, none⟩), .agg #[.int .i64 r, .int .i64 q]] W fun e w' => e = .returned (.bool (mayB M.c M.s r q)) ∧ Below w1.heap.size w1 w') := Lib.hid fun W hb =>
    (may_any W p M (hq.keep hb) r q).mono fun e w' ⟨h1, h2⟩ => ⟨h1, hb.trans (h2.mono hb.size)⟩
  have H38 : Hid (∀ W, Below w1.heap.size w1 W → Calls Tryz.prog 38 #[.slice A n c] W fun e w' => e = .returned (.bool (xs.all id)) ∧ W = w') := Lib.hid fun W hb => all_any A n c xs W (hr1.keep hb)
  have HX : Hid (∀ W, Below w1.heap.size w1 W → W.cell? ⟨w.heap.size, 0, none⟩ = some (.int .i64 r) ∧ W.cell? ⟨w.heap.size, 1, none⟩ = some (.int .i64 q)) := Lib.hid fun W hb => (two ((hb.block _ (Array.getElem?_eq_some_iff.1 q1).1).trans q1)).1
  have HQ : Hid (∀ W, Below w1.heap.size w1 W → AAt W p M) := Lib.hid fun W hb => hq.keep hb
  obtain ⟨x0, x1⟩ := HX.out _ (Below.refl _ w1)
  have HB1 := Lib.hid hb1
  have hl := hp.lt
  clear hb1 q1 hq hr1 e1 hp hr hc
  rw [hm] at H37
  rw [ha] at H38
  clear hm ha
  go_enter Tryz.func28, Tryz.ntmps28
  go_wp2
  refine wp_scope_fwd 0 rfl ?_
  go_wp2_with (first | (go_at_call 33; (with_reducible refine (H33.out _ (by with_reducible exact Below.refl _ _)).mono ?_); rintro e w2 ⟨rfl, hb2⟩; obtain ⟨y0, y1⟩ := HX.out _ hb2; clear hw1 x0 x1) | (go_at_call 37; (with_reducible refine (H37.out _ (by assumption)).mono ?_); rintro e w3 ⟨rfl, hb3⟩; obtain ⟨u0, u1⟩ := HX.out _ hb3; clear y0 y1) | (go_at_call 38; (with_reducible refine (H38.out _ (by assumption)).mono ?_); rintro e w' ⟨rfl, rfl⟩))
  go_step3
  refine ⟨rfl, ?_⟩
  go_wp2
  try rw [Exit.noGoto_ret]
  go_ret2
  exact ⟨rfl, HB1.out.trans (hb3.mono HB1.out.size)⟩
set_option maxRecDepth 100000 in
set_option maxHeartbeats 1000000 in
theorem Sm.ask_low (r q least : Int) (v : Value) (A : Option Addr) (n c : Nat) (xs : List Bool) (w : World) (p : Nat) (M : AcM) (hp : AAt w p M) (hc : M.c ≠ 0) (hr : RowB w A n c xs) (hm : mayB M.c M.s r q = true) (ha : xs.all id = true) (hlt : cmpB r q M.pr M.pp < least) :
    Calls Tryz.prog 28 #[.pointer (some ⟨p, 0, none⟩), .agg #[.int .i64 r, .int .i64 q], .int .i64 least, v, .slice A n c] w fun e w' => e = .returned (.tuple #[.bool false, .int .i64 0]) ∧ Below w.heap.size w w' := by
  have hb1 : Below w.heap.size w (w.alloc (.cells #[.int .i64 r, .int .i64 q] 31)) := (Below.refl _ w).alloc (Nat.le_refl _) _
  have q1 := World.alloc_heap_new w (.cells #[.int .i64 r, .int .i64 q] 31)
  have hq := hp.keep hb1
  have hr1 := hr.keep hb1
  obtain ⟨w1, hw1⟩ : ∃ v, w.alloc (.cells #[.int .i64 r, .int .i64 q] 31) = v := ⟨_, rfl⟩
  rw [hw1] at hb1 q1 hq hr1
  have e1 : (M.c != 0) = true := by simpa using hc
  have H33 : Hid (∀ W, Below w1.heap.size w1 W → Calls Tryz.prog 33 #[.pointer (some ⟨p, 0, none⟩)] W fun e w' => e = .returned (.bool true) ∧ Below w1.heap.size w1 w') := Lib.hid fun W hb =>
    (there_any W p M (hq.keep hb)).mono fun e w' ⟨h1, h2⟩ => ⟨by rw [h1, e1], hb.trans (h2.mono hb.size)⟩
  have H37 : Hid (∀ W, Below w1.heap.size w1 W → Calls Tryz.prog 37 #[.pointer (some ⟨p, 0, none⟩), .agg #[.int .i64 r, .int .i64 q]] W fun e w' => e = .returned (.bool (mayB M.c M.s r q)) ∧ Below w1.heap.size w1 w') := Lib.hid fun W hb =>
    (may_any W p M (hq.keep hb) r q).mono fun e w' ⟨h1, h2⟩ => ⟨h1, hb.trans (h2.mono hb.size)⟩
  have H38 : Hid (∀ W, Below w1.heap.size w1 W → Calls Tryz.prog 38 #[.slice A n c] W fun e w' => e = .returned (.bool (xs.all id)) ∧ W = w') := Lib.hid fun W hb => all_any A n c xs W (hr1.keep hb)
  have HX : Hid (∀ W, Below w1.heap.size w1 W → W.cell? ⟨w.heap.size, 0, none⟩ = some (.int .i64 r) ∧ W.cell? ⟨w.heap.size, 1, none⟩ = some (.int .i64 q)) := Lib.hid fun W hb => (two ((hb.block _ (Array.getElem?_eq_some_iff.1 q1).1).trans q1)).1
  have HQ : Hid (∀ W, Below w1.heap.size w1 W → AAt W p M) := Lib.hid fun W hb => hq.keep hb
  obtain ⟨x0, x1⟩ := HX.out _ (Below.refl _ w1)
  have HB1 := Lib.hid hb1
  have hl := hp.lt
  clear hb1 q1 hq hr1 e1 hp hr hc
  rw [hm] at H37
  rw [ha] at H38
  have H39 : Hid (∀ W, Below w1.heap.size w1 W → Calls Tryz.prog 39 #[.agg #[.int .i64 r, .int .i64 q], .agg #[.int .i64 M.pr, .int .i64 M.pp]] W fun e w' => e = .returned (.int .i64 (cmpB r q M.pr M.pp)) ∧ Below w1.heap.size w1 w') := Lib.hid fun W hb =>
    (Compare_any r q M.pr M.pp W).mono fun e w' ⟨h1, h2⟩ => ⟨h1, hb.trans (h2.mono hb.size)⟩
  clear hm ha
  obtain ⟨k, hk⟩ : ∃ k, cmpB r q M.pr M.pp = k := ⟨_, rfl⟩
  rw [hk] at H39 hlt
  clear hk
  have HS : Hid (∀ W, Below w1.heap.size w1 W → (W.cell? ⟨w.heap.size, 0, none⟩ = some (.int .i64 r) ∧ W.cell? ⟨w.heap.size, 1, none⟩ = some (.int .i64 q)) ∧ (W.cell? ⟨p, 2, none⟩ = some (.int .i64 M.pr) ∧ W.cell? ⟨p, 3, none⟩ = some (.int .i64 M.pp))) := Lib.hid fun W hb =>
    ⟨HX.out W hb, (HQ.out W hb).cells.2.2.1, (HQ.out W hb).cells.2.2.2.1⟩
  go_enter Tryz.func28, Tryz.ntmps28
  go_wp2
  go_step3
  go_upto_region 5 with (first | (go_at_call 33; (with_reducible refine (H33.out _ (by with_reducible exact Below.refl _ _)).mono ?_); rintro e w2 ⟨rfl, hb2⟩; obtain ⟨y0, y1⟩ := HX.out _ hb2; clear hw1 x0 x1) | (go_at_call 37; (with_reducible refine (H37.out _ (by assumption)).mono ?_); rintro e w3 ⟨rfl, hb3⟩; obtain ⟨u0, u1⟩ := HX.out _ hb3; clear y0 y1) | (go_at_call 38; (with_reducible refine (H38.out _ (by assumption)).mono ?_); rintro e w' ⟨rfl, rfl⟩))
  have z0 := HS.out _ hb3
  clear u0 u1
  go_region_held_law (fun W => (W.cell? ⟨w.heap.size, 0, none⟩ = some (.int .i64 r) ∧ W.cell? ⟨w.heap.size, 1, none⟩ = some (.int .i64 q)) ∧ (W.cell? ⟨p, 2, none⟩ = some (.int .i64 M.pr) ∧ W.cell? ⟨p, 3, none⟩ = some (.int .i64 M.pp)))
    (first | with_reducible exact z0 | (refine HS.out _ ?_; (first | with_reducible assumption | with_reducible exact Below.drew (by assumption))))
    ((go_at_call 39; (with_reducible refine (H39.out _ (by with_reducible exact Below.drew (by assumption))).mono ?_); rintro e w4 ⟨rfl, hb4⟩; obtain ⟨v0, v1⟩ := HX.out _ hb4))
  all_goals
    go_wp2
    try rw [Exit.noGoto_ret]
    go_ret2
    exact ⟨rfl, HB1.out.trans (hb4.mono HB1.out.size)⟩
set_option maxRecDepth 100000 in
set_option maxHeartbeats 1000000 in
theorem Sm.ask_yes29 (r q least : Int) (A : Option Addr) (n c : Nat) (xs : List Bool) (w : World) (p : Nat) (M : AcM) (hp : AAt w p M) (hc : M.c ≠ 0) (hr : RowB w A n c xs) (hm : mayB M.c M.s r q = true) (ha : xs.all id = true) (hlt : ¬ cmpB r q M.pr M.pp < least) (x2 x7 : Nat) (R : World → World → Prop)
    (hd : ∀ W, But (Xp p) w W → AAt W p (promM M r q) → Calls Tryz.prog 29 #[.pointer (some ⟨x2, 0, none⟩), .pointer (some ⟨x7, 0, none⟩)] W fun e w' => e = .returned (.tuple #[]) ∧ R W w') :
    Calls Tryz.prog 28 #[.pointer (some ⟨p, 0, none⟩), .agg #[.int .i64 r, .int .i64 q], .int .i64 least, .func (.func 29) #[] #[.pointer (some ⟨x2, 0, none⟩), .pointer (some ⟨x7, 0, none⟩)], .slice A n c] w fun e w' => e = .returned (.tuple #[.bool true, .int .i64 0]) ∧ ∃ W, But (Xp p) w W ∧ AAt W p (promM M r q) ∧ R W w' := by
  have hb1 : Below w.heap.size w (w.alloc (.cells #[.int .i64 r, .int .i64 q] 31)) := (Below.refl _ w).alloc (Nat.le_refl _) _
  have q1 := World.alloc_heap_new w (.cells #[.int .i64 r, .int .i64 q] 31)
  have hq := hp.keep hb1
  have hr1 := hr.keep hb1
  obtain ⟨w1, hw1⟩ : ∃ v, w.alloc (.cells #[.int .i64 r, .int .i64 q] 31) = v := ⟨_, rfl⟩
  rw [hw1] at hb1 q1 hq hr1
  have e1 : (M.c != 0) = true := by simpa using hc
  have H33 : Hid (∀ W, Below w1.heap.size w1 W → Calls Tryz.prog 33 #[.pointer (some ⟨p, 0, none⟩)] W fun e w' => e = .returned (.bool true) ∧ Below w1.heap.size w1 w') := Lib.hid fun W hb =>
    (there_any W p M (hq.keep hb)).mono fun e w' ⟨h1, h2⟩ => ⟨by rw [h1, e1], hb.trans (h2.mono hb.size)⟩
  have H37 : Hid (∀ W, Below w1.heap.size w1 W → Calls Tryz.prog 37 #[.pointer (some ⟨p, 0, none⟩), .agg #[.int .i64 r, .int .i64 q]] W fun e w' => e = .returned (.bool (mayB M.c M.s r q)) ∧ Below w1.heap.size w1 w') := Lib.hid fun W hb =>
    (may_any W p M (hq.keep hb) r q).mono fun e w' ⟨h1, h2⟩ => ⟨h1, hb.trans (h2.mono hb.size)⟩
  have H38 : Hid (∀ W, Below w1.heap.size w1 W → Calls Tryz.prog 38 #[.slice A n c] W fun e w' => e = .returned (.bool (xs.all id)) ∧ W = w') := Lib.hid fun W hb => all_any A n c xs W (hr1.keep hb)
  have HX : Hid (∀ W, Below w1.heap.size w1 W → W.cell? ⟨w.heap.size, 0, none⟩ = some (.int .i64 r) ∧ W.cell? ⟨w.heap.size, 1, none⟩ = some (.int .i64 q)) := Lib.hid fun W hb => (two ((hb.block _ (Array.getElem?_eq_some_iff.1 q1).1).trans q1)).1
  have HQ : Hid (∀ W, Below w1.heap.size w1 W → AAt W p M) := Lib.hid fun W hb => hq.keep hb
  obtain ⟨x0, x1⟩ := HX.out _ (Below.refl _ w1)
  have HB1 := Lib.hid hb1
  have hl := hp.lt
  clear hb1 q1 hq hr1 e1 hp hr hc
  have HD := Lib.hid hd
  clear hd
  rw [hm] at H37
  rw [ha] at H38
  have H39 : Hid (∀ W, Below w1.heap.size w1 W → Calls Tryz.prog 39 #[.agg #[.int .i64 r, .int .i64 q], .agg #[.int .i64 M.pr, .int .i64 M.pp]] W fun e w' => e = .returned (.int .i64 (cmpB r q M.pr M.pp)) ∧ Below w1.heap.size w1 w') := Lib.hid fun W hb =>
    (Compare_any r q M.pr M.pp W).mono fun e w' ⟨h1, h2⟩ => ⟨h1, hb.trans (h2.mono hb.size)⟩
  clear hm ha
  obtain ⟨k, hk⟩ : ∃ k, cmpB r q M.pr M.pp = k := ⟨_, rfl⟩
  rw [hk] at H39 hlt
  clear hk
  have HS : Hid (∀ W, Below w1.heap.size w1 W → (W.cell? ⟨w.heap.size, 0, none⟩ = some (.int .i64 r) ∧ W.cell? ⟨w.heap.size, 1, none⟩ = some (.int .i64 q)) ∧ (W.cell? ⟨p, 2, none⟩ = some (.int .i64 M.pr) ∧ W.cell? ⟨p, 3, none⟩ = some (.int .i64 M.pp))) := Lib.hid fun W hb =>
    ⟨HX.out W hb, (HQ.out W hb).cells.2.2.1, (HQ.out W hb).cells.2.2.2.1⟩
  go_enter Tryz.func28, Tryz.ntmps28
  go_wp2
  go_step3
  go_upto_region 5 with (first | (go_at_call 33; (with_reducible refine (H33.out _ (by with_reducible exact Below.refl _ _)).mono ?_); rintro e w2 ⟨rfl, hb2⟩; obtain ⟨y0, y1⟩ := HX.out _ hb2; clear hw1 x0 x1) | (go_at_call 37; (with_reducible refine (H37.out _ (by assumption)).mono ?_); rintro e w3 ⟨rfl, hb3⟩; obtain ⟨u0, u1⟩ := HX.out _ hb3; clear y0 y1) | (go_at_call 38; (with_reducible refine (H38.out _ (by assumption)).mono ?_); rintro e w' ⟨rfl, rfl⟩))
  have z0 := HS.out _ hb3
  clear u0 u1
  go_region_held_law (fun W => (W.cell? ⟨w.heap.size, 0, none⟩ = some (.int .i64 r) ∧ W.cell? ⟨w.heap.size, 1, none⟩ = some (.int .i64 q)) ∧ (W.cell? ⟨p, 2, none⟩ = some (.int .i64 M.pr) ∧ W.cell? ⟨p, 3, none⟩ = some (.int .i64 M.pp)))
    (first | with_reducible exact z0 | (refine HS.out _ ?_; (first | with_reducible assumption | with_reducible exact Below.drew (by assumption))))
    ((go_at_call 39; (with_reducible refine (H39.out _ (by with_reducible exact Below.drew (by assumption))).mono ?_); rintro e w4 ⟨rfl, hb4⟩; obtain ⟨v0, v1⟩ := HX.out _ hb4))
  all_goals
    obtain ⟨_, _, p2, p3, _, _, _, _, _, _⟩ := (HQ.out _ hb4).cells
    have g2 := (HQ.out _ hb4).free 2
    have g3 := (HQ.out _ hb4).free 3
    have HA := Lib.hid ((HQ.out _ hb4).prom r q)
    have HBB := Lib.hid (but2 (But.of_all (HB1.out.trans (hb4.mono HB1.out.size)) (Xp p)) (.int .i64 r) (.int .i64 q))
    have hs4 : p < w4.heap.size := Nat.lt_of_lt_of_le hl (HB1.out.trans (hb4.mono HB1.out.size)).size
    go_wp2_with (go_at_call 29; (with_reducible refine (HD.out _ HBB.out HA.out).mono ?_); rintro e w5 ⟨rfl, hR⟩)
    try rw [Exit.noGoto_ret]
    go_ret2
    exact ⟨rfl, _, HBB.out, HA.out, hR⟩
set_option maxRecDepth 100000 in
set_option maxHeartbeats 1000000 in
theorem Sm.ask_yes31 (r q least : Int) (A : Option Addr) (n c : Nat) (xs : List Bool) (w : World) (p : Nat) (M : AcM) (hp : AAt w p M) (hc : M.c ≠ 0) (hr : RowB w A n c xs) (hm : mayB M.c M.s r q = true) (ha : xs.all id = true) (hlt : ¬ cmpB r q M.pr M.pp < least) (x4 x5 x3 : Nat) (R : World → World → Prop)
    (hd : ∀ W, But (Xp p) w W → AAt W p (promM M r q) → Calls Tryz.prog 31 #[.pointer (some ⟨x4, 0, none⟩), .pointer (some ⟨x5, 0, none⟩), .pointer (some ⟨x3, 0, none⟩)] W fun e w' => e = .returned (.tuple #[]) ∧ R W w') :
    Calls Tryz.prog 28 #[.pointer (some ⟨p, 0, none⟩), .agg #[.int .i64 r, .int .i64 q], .int .i64 least, .func (.func 31) #[] #[.pointer (some ⟨x4, 0, none⟩), .pointer (some ⟨x5, 0, none⟩), .pointer (some ⟨x3, 0, none⟩)], .slice A n c] w fun e w' => e = .returned (.tuple #[.bool true, .int .i64 0]) ∧ ∃ W, But (Xp p) w W ∧ AAt W p (promM M r q) ∧ R W w' := by
  have hb1 : Below w.heap.size w (w.alloc (.cells #[.int .i64 r, .int .i64 q] 31)) := (Below.refl _ w).alloc (Nat.le_refl _) _
  have q1 := World.alloc_heap_new w (.cells #[.int .i64 r, .int .i64 q] 31)
  have hq := hp.keep hb1
  have hr1 := hr.keep hb1
  obtain ⟨w1, hw1⟩ : ∃ v, w.alloc (.cells #[.int .i64 r, .int .i64 q] 31) = v := ⟨_, rfl⟩
  rw [hw1] at hb1 q1 hq hr1
  have e1 : (M.c != 0) = true := by simpa using hc
  have H33 : Hid (∀ W, Below w1.heap.size w1 W → Calls Tryz.prog 33 #[.pointer (some ⟨p, 0, none⟩)] W fun e w' => e = .returned (.bool true) ∧ Below w1.heap.size w1 w') := Lib.hid fun W hb =>
    (there_any W p M (hq.keep hb)).mono fun e w' ⟨h1, h2⟩ => ⟨by rw [h1, e1], hb.trans (h2.mono hb.size)⟩
  have H37 : Hid (∀ W, Below w1.heap.size w1 W → Calls Tryz.prog 37 #[.pointer (some ⟨p, 0, none⟩), .agg #[.int .i64 r, .int .i64 q]] W fun e w' => e = .returned (.bool (mayB M.c M.s r q)) ∧ Below w1.heap.size w1 w') := Lib.hid fun W hb =>
    (may_any W p M (hq.keep hb) r q).mono fun e w' ⟨h1, h2⟩ => ⟨h1, hb.trans (h2.mono hb.size)⟩
  have H38 : Hid (∀ W, Below w1.heap.size w1 W → Calls Tryz.prog 38 #[.slice A n c] W fun e w' => e = .returned (.bool (xs.all id)) ∧ W = w') := Lib.hid fun W hb => all_any A n c xs W (hr1.keep hb)
  have HX : Hid (∀ W, Below w1.heap.size w1 W → W.cell? ⟨w.heap.size, 0, none⟩ = some (.int .i64 r) ∧ W.cell? ⟨w.heap.size, 1, none⟩ = some (.int .i64 q)) := Lib.hid fun W hb => (two ((hb.block _ (Array.getElem?_eq_some_iff.1 q1).1).trans q1)).1
  have HQ : Hid (∀ W, Below w1.heap.size w1 W → AAt W p M) := Lib.hid fun W hb => hq.keep hb
  obtain ⟨x0, x1⟩ := HX.out _ (Below.refl _ w1)
  have HB1 := Lib.hid hb1
  have hl := hp.lt
  clear hb1 q1 hq hr1 e1 hp hr hc
  have HD := Lib.hid hd
  clear hd
  rw [hm] at H37
  rw [ha] at H38
  have H39 : Hid (∀ W, Below w1.heap.size w1 W → Calls Tryz.prog 39 #[.agg #[.int .i64 r, .int .i64 q], .agg #[.int .i64 M.pr, .int .i64 M.pp]] W fun e w' => e = .returned (.int .i64 (cmpB r q M.pr M.pp)) ∧ Below w1.heap.size w1 w') := Lib.hid fun W hb =>
    (Compare_any r q M.pr M.pp W).mono fun e w' ⟨h1, h2⟩ => ⟨h1, hb.trans (h2.mono hb.size)⟩
  clear hm ha
  obtain ⟨k, hk⟩ : ∃ k, cmpB r q M.pr M.pp = k := ⟨_, rfl⟩
  rw [hk] at H39 hlt
  clear hk
  have HS : Hid (∀ W, Below w1.heap.size w1 W → (W.cell? ⟨w.heap.size, 0, none⟩ = some (.int .i64 r) ∧ W.cell? ⟨w.heap.size, 1, none⟩ = some (.int .i64 q)) ∧ (W.cell? ⟨p, 2, none⟩ = some (.int .i64 M.pr) ∧ W.cell? ⟨p, 3, none⟩ = some (.int .i64 M.pp))) := Lib.hid fun W hb =>
    ⟨HX.out W hb, (HQ.out W hb).cells.2.2.1, (HQ.out W hb).cells.2.2.2.1⟩
  go_enter Tryz.func28, Tryz.ntmps28
  go_wp2
  go_step3
  go_upto_region 5 with (first | (go_at_call 33; (with_reducible refine (H33.out _ (by with_reducible exact Below.refl _ _)).mono ?_); rintro e w2 ⟨rfl, hb2⟩; obtain ⟨y0, y1⟩ := HX.out _ hb2; clear hw1 x0 x1) | (go_at_call 37; (with_reducible refine (H37.out _ (by assumption)).mono ?_); rintro e w3 ⟨rfl, hb3⟩; obtain ⟨u0, u1⟩ := HX.out _ hb3; clear y0 y1) | (go_at_call 38; (with_reducible refine (H38.out _ (by assumption)).mono ?_); rintro e w' ⟨rfl, rfl⟩))
  have z0 := HS.out _ hb3
  clear u0 u1
  go_region_held_law (fun W => (W.cell? ⟨w.heap.size, 0, none⟩ = some (.int .i64 r) ∧ W.cell? ⟨w.heap.size, 1, none⟩ = some (.int .i64 q)) ∧ (W.cell? ⟨p, 2, none⟩ = some (.int .i64 M.pr) ∧ W.cell? ⟨p, 3, none⟩ = some (.int .i64 M.pp)))
    (first | with_reducible exact z0 | (refine HS.out _ ?_; (first | with_reducible assumption | with_reducible exact Below.drew (by assumption))))
    ((go_at_call 39; (with_reducible refine (H39.out _ (by with_reducible exact Below.drew (by assumption))).mono ?_); rintro e w4 ⟨rfl, hb4⟩; obtain ⟨v0, v1⟩ := HX.out _ hb4))
  all_goals
    obtain ⟨_, _, p2, p3, _, _, _, _, _, _⟩ := (HQ.out _ hb4).cells
    have g2 := (HQ.out _ hb4).free 2
    have g3 := (HQ.out _ hb4).free 3
    have HA := Lib.hid ((HQ.out _ hb4).prom r q)
    have HBB := Lib.hid (but2 (But.of_all (HB1.out.trans (hb4.mono HB1.out.size)) (Xp p)) (.int .i64 r) (.int .i64 q))
    have hs4 : p < w4.heap.size := Nat.lt_of_lt_of_le hl (HB1.out.trans (hb4.mono HB1.out.size)).size
    go_wp2_with (go_at_call 31; (with_reducible refine (HD.out _ HBB.out HA.out).mono ?_); rintro e w5 ⟨rfl, hR⟩)
    try rw [Exit.noGoto_ret]
    go_ret2
    exact ⟨rfl, _, HBB.out, HA.out, hR⟩
end Go.Proofs
namespace Go.Proofs
open Go Go.RowKit Sm Go.Lib
attribute [local go_sem] Oper.semAt_some
/-- what is accepted, or zero -/
def Sm.acVal (b : Bool) (M : AcM) : Value := if b then .agg #[.int .i64 M.ar, .int .i64 M.ap, .int .i64 M.k, .int .i64 M.m, .int .i64 M.n, .string M.t] else .agg #[.int .i64 0, .int .i64 0, .int .i64 0, .int .i64 0, .int .i64 0, .string ⟨#[]⟩]
def Sm.prOk (M : AcM) (r q : Int) : Bool := mayB M.c M.s r q && decide (0 < r) && !decide (cmpB r q M.pr M.pp < 1)
def Sm.prE (M : AcM) (r q : Int) : Int := if (mayB M.c M.s r q && decide (0 < r)) = true then 0 else 2
def Sm.prM (M : AcM) (r q : Int) : AcM := if prOk M r q then promM M r q else M
theorem Sm.other6 {w : World} {b q : Nat} {x : Option Obj} (h : w.heap[q]? = x) (hn : q ≠ b) (a' b' c' d' e' f' : Value) :
    ((((((w.setCell ⟨b, 0, none⟩ a').setCell ⟨b, 1, none⟩ b').setCell ⟨b, 2, none⟩ c').setCell ⟨b, 3, none⟩ d').setCell ⟨b, 4, none⟩ e').setCell ⟨b, 5, none⟩ f').heap[q]? = x :=
  other (other (other (other (other (other h hn) hn) hn) hn) hn) hn
theorem Sm.buts6 {S : Nat → Prop} {w w1 : World} {b : Nat} (h : But S w w1) (hn : w.heap.size ≤ b) (a' b' c' d' e' f' : Value) :
    But S w ((((((w1.setCell ⟨b, 0, none⟩ a').setCell ⟨b, 1, none⟩ b').setCell ⟨b, 2, none⟩ c').setCell ⟨b, 3, none⟩ d').setCell ⟨b, 4, none⟩ e').setCell ⟨b, 5, none⟩ f') :=
  (((((h.set _ _ (.inr hn)).set _ _ (.inr hn)).set _ _ (.inr hn)).set _ _ (.inr hn)).set _ _ (.inr hn)).set _ _ (.inr hn)
/-- four blocks made one behind the other -/
theorem Sm.four_new (w : World) (a b c d : Obj) : ∃ w4, (((w.alloc a).alloc b).alloc c).alloc d = w4 ∧ w4.heap[w.heap.size]? = some a ∧ w4.heap[w.heap.size + 1]? = some b ∧ w4.heap[w.heap.size + 2]? = some c ∧ w4.heap[w.heap.size + 3]? = some d ∧ Below w.heap.size w w4 ∧ w.heap.size + 4 ≤ w4.heap.size := by
  refine ⟨_, rfl, ?_, ?_, ?_, ?_, ?_, ?_⟩
  · exact (Below.heap_alloc _ _ _ (by simp <;> omega)).trans ((Below.heap_alloc _ _ _ (by simp <;> omega)).trans ((Below.heap_alloc _ _ _ (by simp)).trans (World.alloc_heap_new w a)))
  · refine (Below.heap_alloc _ _ _ (by simp <;> omega)).trans ((Below.heap_alloc _ _ _ (by simp <;> omega)).trans ?_)
    have := World.alloc_heap_new (w.alloc a) b
    rwa [World.size_alloc] at this
  · refine (Below.heap_alloc _ _ _ (by simp <;> omega)).trans ?_
    have := World.alloc_heap_new ((w.alloc a).alloc b) c
    rwa [World.size_alloc, World.size_alloc] at this
  · have := World.alloc_heap_new (((w.alloc a).alloc b).alloc c) d
    rwa [World.size_alloc, World.size_alloc, World.size_alloc] at this
  · exact ((((Below.refl _ w).alloc (Nat.le_refl _) _).alloc (by simp) _).alloc (by simp; omega) _).alloc (by simp; omega) _
  · simp
set_option maxRecDepth 100000 in
set_option maxHeartbeats 1000000 in
theorem Sm.promise_no (r q : Int) (w : World) :
    Calls Tryz.prog 10 #[.pointer none, .agg #[.int .i64 r, .int .i64 q]] w fun e w' => e = .returned (.tuple #[.agg #[.int .i64 0, .int .i64 0, .int .i64 0, .int .i64 0, .int .i64 0, .string ⟨#[]⟩], .bool false, .int .i64 1]) ∧ Below w.heap.size w w' := by
  obtain ⟨w4, hw4, k2, k3, k4, k7, hb4, hz4⟩ := four_new w (.cells #[.pointer none] 25) (.cells #[.int .i64 r, .int .i64 q] 31) (.cells #[.int .i64 0, .int .i64 0, .int .i64 0, .int .i64 0, .int .i64 0, .string ⟨#[]⟩] 36) (.cells #[.int .i64 0, .int .i64 0, .int .i64 0, .int .i64 0, .int .i64 0, .string ⟨#[]⟩] 36)
  have c2 := cell_of_heap k2 0
  obtain ⟨⟨c30, c31⟩, _⟩ := two k3
  have hs5 : w4.heap.size < (w4.alloc (.cells #[.bool (decide (0 < r))] 4)).heap.size := by simp
  have hb5 : Below w4.heap.size w4 (w4.alloc (.cells #[.bool (decide (0 < r))] 4)) := (Below.refl _ _).alloc (Nat.le_refl _) _
  simp only [List.getElem?_toArray, List.getElem?_cons_zero] at c2
  have h1 := ask_no r q 1 (.func (.func 29) #[] #[.pointer (some ⟨w.heap.size, 0, none⟩), .pointer (some ⟨w.heap.size + 3, 0, none⟩)]) (.slice (some ⟨w4.heap.size, 0, none⟩) 1 1) (w4.alloc (.cells #[.bool (decide (0 < r))] 4))
  have HK := Lib.hid (And.intro k4 k7)
  have HB4 := Lib.hid hb4
  have HB5 := Lib.hid hb5
  clear k2 k3 k4 k7 hb4 hb5
  go_enter Tryz.func10, Tryz.ntmps10
  go_wp2_with (go_at_call 28; (with_reducible refine h1.mono ?_); rintro e w6 ⟨rfl, hb6⟩; have HB6 : Hid (Below w4.heap.size w4 w6) := Lib.hid (HB5.out.trans (hb6.mono HB5.out.size)); have HA := Lib.hid (And.intro ((HB6.out.block _ (Array.getElem?_eq_some_iff.1 HK.out.1).1).trans HK.out.1) ((HB6.out.block _ (Array.getElem?_eq_some_iff.1 HK.out.2).1).trans HK.out.2)); obtain ⟨⟨d0, d1, d2, d3, d4, d5⟩, ⟨f0, f1, f2, f3, f4, f5⟩⟩ := six HA.out.1; obtain ⟨⟨x0, x1, x2, x3, x4, x5⟩, _⟩ := six HA.out.2; clear hb6 h1)
  have h6 := set6 HA.out.1 (.int .i64 0) (.int .i64 0) (.int .i64 0) (.int .i64 0) (.int .i64 0) (.string ⟨#[]⟩)
  obtain ⟨⟨z0, z1, z2, z3, z4, z5⟩, _⟩ := six h6
  clear d0 d1 d2 d3 d4 d5 x0 x1 x2 x3 x4 x5 f0 f1 f2 f3 f4 f5
  refine bodyPost_ret (v := .tuple #[.agg #[.int .i64 0, .int .i64 0, .int .i64 0, .int .i64 0, .int .i64 0, .string ⟨#[]⟩], .bool false, .int .i64 1]) (by simp only [results, Tryz.results10]; simp [go_sem, z0, z1, z2, z3, z4, z5]) rfl ⟨rfl, ?_⟩
  exact bset6 (HB4.out.trans (HB6.out.mono HB4.out.size)) (by omega) _ _ _ _ _ _
set_option maxRecDepth 100000 in
set_option maxHeartbeats 1000000 in
theorem Sm.promise_zero (r q : Int) (w : World) (p : Nat) (M : AcM) (hp : AAt w p M) (hc : M.c = 0) :
    Calls Tryz.prog 10 #[.pointer (some ⟨p, 0, none⟩), .agg #[.int .i64 r, .int .i64 q]] w fun e w' => e = .returned (.tuple #[.agg #[.int .i64 0, .int .i64 0, .int .i64 0, .int .i64 0, .int .i64 0, .string ⟨#[]⟩], .bool false, .int .i64 1]) ∧ Below w.heap.size w w' := by
  obtain ⟨w4, hw4, k2, k3, k4, k7, hb4, hz4⟩ := four_new w (.cells #[.pointer (some ⟨p, 0, none⟩)] 25) (.cells #[.int .i64 r, .int .i64 q] 31) (.cells #[.int .i64 0, .int .i64 0, .int .i64 0, .int .i64 0, .int .i64 0, .string ⟨#[]⟩] 36) (.cells #[.int .i64 0, .int .i64 0, .int .i64 0, .int .i64 0, .int .i64 0, .string ⟨#[]⟩] 36)
  have c2 := cell_of_heap k2 0
  obtain ⟨⟨c30, c31⟩, _⟩ := two k3
  have hs5 : w4.heap.size < (w4.alloc (.cells #[.bool (decide (0 < r))] 4)).heap.size := by simp
  have hb5 : Below w4.heap.size w4 (w4.alloc (.cells #[.bool (decide (0 < r))] 4)) := (Below.refl _ _).alloc (Nat.le_refl _) _
  simp only [List.getElem?_toArray, List.getElem?_cons_zero] at c2
  have h1 := ask_zero r q 1 (.func (.func 29) #[] #[.pointer (some ⟨w.heap.size, 0, none⟩), .pointer (some ⟨w.heap.size + 3, 0, none⟩)]) (.slice (some ⟨w4.heap.size, 0, none⟩) 1 1) _ p M ((hp.keep hb4).keep hb5) hc
  have HK := Lib.hid (And.intro k4 k7)
  have HB4 := Lib.hid hb4
  have HB5 := Lib.hid hb5
  clear k2 k3 k4 k7 hb4 hb5 hp hc
  go_enter Tryz.func10, Tryz.ntmps10
  go_wp2_with (go_at_call 28; (with_reducible refine h1.mono ?_); rintro e w6 ⟨rfl, hb6⟩; have HB6 : Hid (Below w4.heap.size w4 w6) := Lib.hid (HB5.out.trans (hb6.mono HB5.out.size)); have HA := Lib.hid (And.intro ((HB6.out.block _ (Array.getElem?_eq_some_iff.1 HK.out.1).1).trans HK.out.1) ((HB6.out.block _ (Array.getElem?_eq_some_iff.1 HK.out.2).1).trans HK.out.2)); obtain ⟨⟨d0, d1, d2, d3, d4, d5⟩, ⟨f0, f1, f2, f3, f4, f5⟩⟩ := six HA.out.1; obtain ⟨⟨x0, x1, x2, x3, x4, x5⟩, _⟩ := six HA.out.2; clear hb6 h1)
  have h6 := set6 HA.out.1 (.int .i64 0) (.int .i64 0) (.int .i64 0) (.int .i64 0) (.int .i64 0) (.string ⟨#[]⟩)
  obtain ⟨⟨z0, z1, z2, z3, z4, z5⟩, _⟩ := six h6
  clear d0 d1 d2 d3 d4 d5 x0 x1 x2 x3 x4 x5 f0 f1 f2 f3 f4 f5
  refine bodyPost_ret (v := .tuple #[.agg #[.int .i64 0, .int .i64 0, .int .i64 0, .int .i64 0, .int .i64 0, .string ⟨#[]⟩], .bool false, .int .i64 1]) (by simp only [results, Tryz.results10]; simp [go_sem, z0, z1, z2, z3, z4, z5]) rfl ⟨rfl, ?_⟩
  exact bset6 (HB4.out.trans (HB6.out.mono HB4.out.size)) (by omega) _ _ _ _ _ _
set_option maxRecDepth 100000 in
set_option maxHeartbeats 1000000 in
theorem Sm.promise_arg1 (r q : Int) (w : World) (p : Nat) (M : AcM) (hp : AAt w p M) (hc : M.c ≠ 0) (hm : mayB M.c M.s r q = false) :
    Calls Tryz.prog 10 #[.pointer (some ⟨p, 0, none⟩), .agg #[.int .i64 r, .int .i64 q]] w fun e w' => e = .returned (.tuple #[.agg #[.int .i64 0, .int .i64 0, .int .i64 0, .int .i64 0, .int .i64 0, .string ⟨#[]⟩], .bool false, .int .i64 2]) ∧ Below w.heap.size w w' := by
  obtain ⟨w4, hw4, k2, k3, k4, k7, hb4, hz4⟩ := four_new w (.cells #[.pointer (some ⟨p, 0, none⟩)] 25) (.cells #[.int .i64 r, .int .i64 q] 31) (.cells #[.int .i64 0, .int .i64 0, .int .i64 0, .int .i64 0, .int .i64 0, .string ⟨#[]⟩] 36) (.cells #[.int .i64 0, .int .i64 0, .int .i64 0, .int .i64 0, .int .i64 0, .string ⟨#[]⟩] 36)
  have c2 := cell_of_heap k2 0
  obtain ⟨⟨c30, c31⟩, _⟩ := two k3
  have hs5 : w4.heap.size < (w4.alloc (.cells #[.bool (decide (0 < r))] 4)).heap.size := by simp
  have hb5 : Below w4.heap.size w4 (w4.alloc (.cells #[.bool (decide (0 < r))] 4)) := (Below.refl _ _).alloc (Nat.le_refl _) _
  simp only [List.getElem?_toArray, List.getElem?_cons_zero] at c2
  have h1 := ask_arg1 r q 1 (.func (.func 29) #[] #[.pointer (some ⟨w.heap.size, 0, none⟩), .pointer (some ⟨w.heap.size + 3, 0, none⟩)]) (some ⟨w4.heap.size, 0, none⟩) 1 1 [decide (0 < r)] _ p M ((hp.keep hb4).keep hb5) hc (row1 w4 (decide (0 < r)) 4) hm
  have HK := Lib.hid (And.intro k4 k7)
  have HB4 := Lib.hid hb4
  have HB5 := Lib.hid hb5
  clear k2 k3 k4 k7 hb4 hb5 hp hc hm
  go_enter Tryz.func10, Tryz.ntmps10
  go_wp2_with (go_at_call 28; (with_reducible refine h1.mono ?_); rintro e w6 ⟨rfl, hb6⟩; have HB6 : Hid (Below w4.heap.size w4 w6) := Lib.hid (HB5.out.trans (hb6.mono HB5.out.size)); have HA := Lib.hid (And.intro ((HB6.out.block _ (Array.getElem?_eq_some_iff.1 HK.out.1).1).trans HK.out.1) ((HB6.out.block _ (Array.getElem?_eq_some_iff.1 HK.out.2).1).trans HK.out.2)); obtain ⟨⟨d0, d1, d2, d3, d4, d5⟩, ⟨f0, f1, f2, f3, f4, f5⟩⟩ := six HA.out.1; obtain ⟨⟨x0, x1, x2, x3, x4, x5⟩, _⟩ := six HA.out.2; clear hb6 h1)
  have h6 := set6 HA.out.1 (.int .i64 0) (.int .i64 0) (.int .i64 0) (.int .i64 0) (.int .i64 0) (.string ⟨#[]⟩)
  obtain ⟨⟨z0, z1, z2, z3, z4, z5⟩, _⟩ := six h6
  clear d0 d1 d2 d3 d4 d5 x0 x1 x2 x3 x4 x5 f0 f1 f2 f3 f4 f5
  refine bodyPost_ret (v := .tuple #[.agg #[.int .i64 0, .int .i64 0, .int .i64 0, .int .i64 0, .int .i64 0, .string ⟨#[]⟩], .bool false, .int .i64 2]) (by simp only [results, Tryz.results10]; simp [go_sem, z0, z1, z2, z3, z4, z5]) rfl ⟨rfl, ?_⟩
  exact bset6 (HB4.out.trans (HB6.out.mono HB4.out.size)) (by omega) _ _ _ _ _ _
set_option maxRecDepth 100000 in
set_option maxHeartbeats 1000000 in
theorem Sm.promise_arg2 (r q : Int) (w : World) (p : Nat) (M : AcM) (hp : AAt w p M) (hc : M.c ≠ 0) (hm : mayB M.c M.s r q = true) (hr : decide (0 < r) = false) :
    Calls Tryz.prog 10 #[.pointer (some ⟨p, 0, none⟩), .agg #[.int .i64 r, .int .i64 q]] w fun e w' => e = .returned (.tuple #[.agg #[.int .i64 0, .int .i64 0, .int .i64 0, .int .i64 0, .int .i64 0, .string ⟨#[]⟩], .bool false, .int .i64 2]) ∧ Below w.heap.size w w' := by
  obtain ⟨w4, hw4, k2, k3, k4, k7, hb4, hz4⟩ := four_new w (.cells #[.pointer (some ⟨p, 0, none⟩)] 25) (.cells #[.int .i64 r, .int .i64 q] 31) (.cells #[.int .i64 0, .int .i64 0, .int .i64 0, .int .i64 0, .int .i64 0, .string ⟨#[]⟩] 36) (.cells #[.int .i64 0, .int .i64 0, .int .i64 0, .int .i64 0, .int .i64 0, .string ⟨#[]⟩] 36)
  have c2 := cell_of_heap k2 0
  obtain ⟨⟨c30, c31⟩, _⟩ := two k3
  have hs5 : w4.heap.size < (w4.alloc (.cells #[.bool false] 4)).heap.size := by simp
  have hb5 : Below w4.heap.size w4 (w4.alloc (.cells #[.bool false] 4)) := (Below.refl _ _).alloc (Nat.le_refl _) _
  simp only [List.getElem?_toArray, List.getElem?_cons_zero] at c2
  have h1 := ask_arg2 r q 1 (.func (.func 29) #[] #[.pointer (some ⟨w.heap.size, 0, none⟩), .pointer (some ⟨w.heap.size + 3, 0, none⟩)]) (some ⟨w4.heap.size, 0, none⟩) 1 1 [false] _ p M ((hp.keep hb4).keep hb5) hc (row1 w4 false 4) hm (by rfl)
  have HK := Lib.hid (And.intro k4 k7)
  have HB4 := Lib.hid hb4
  have HB5 := Lib.hid hb5
  clear k2 k3 k4 k7 hb4 hb5 hp hc hm
  go_enter Tryz.func10, Tryz.ntmps10
  go_wp2_with (go_at_call 28; (with_reducible refine h1.mono ?_); rintro e w6 ⟨rfl, hb6⟩; have HB6 : Hid (Below w4.heap.size w4 w6) := Lib.hid (HB5.out.trans (hb6.mono HB5.out.size)); have HA := Lib.hid (And.intro ((HB6.out.block _ (Array.getElem?_eq_some_iff.1 HK.out.1).1).trans HK.out.1) ((HB6.out.block _ (Array.getElem?_eq_some_iff.1 HK.out.2).1).trans HK.out.2)); obtain ⟨⟨d0, d1, d2, d3, d4, d5⟩, ⟨f0, f1, f2, f3, f4, f5⟩⟩ := six HA.out.1; obtain ⟨⟨x0, x1, x2, x3, x4, x5⟩, _⟩ := six HA.out.2; clear hb6 h1)
  have h6 := set6 HA.out.1 (.int .i64 0) (.int .i64 0) (.int .i64 0) (.int .i64 0) (.int .i64 0) (.string ⟨#[]⟩)
  obtain ⟨⟨z0, z1, z2, z3, z4, z5⟩, _⟩ := six h6
  clear d0 d1 d2 d3 d4 d5 x0 x1 x2 x3 x4 x5 f0 f1 f2 f3 f4 f5
  refine bodyPost_ret (v := .tuple #[.agg #[.int .i64 0, .int .i64 0, .int .i64 0, .int .i64 0, .int .i64 0, .string ⟨#[]⟩], .bool false, .int .i64 2]) (by simp only [results, Tryz.results10]; simp [go_sem, z0, z1, z2, z3, z4, z5]) rfl ⟨rfl, ?_⟩
  exact bset6 (HB4.out.trans (HB6.out.mono HB4.out.size)) (by omega) _ _ _ _ _ _
set_option maxRecDepth 100000 in
set_option maxHeartbeats 1000000 in
theorem Sm.promise_low (r q : Int) (w : World) (p : Nat) (M : AcM) (hp : AAt w p M) (hc : M.c ≠ 0) (hm : mayB M.c M.s r q = true) (hr : decide (0 < r) = true) (hlt : cmpB r q M.pr M.pp < 1) :
    Calls Tryz.prog 10 #[.pointer (some ⟨p, 0, none⟩), .agg #[.int .i64 r, .int .i64 q]] w fun e w' => e = .returned (.tuple #[.agg #[.int .i64 0, .int .i64 0, .int .i64 0, .int .i64 0, .int .i64 0, .string ⟨#[]⟩], .bool false, .int .i64 0]) ∧ Below w.heap.size w w' := by
  obtain ⟨w4, hw4, k2, k3, k4, k7, hb4, hz4⟩ := four_new w (.cells #[.pointer (some ⟨p, 0, none⟩)] 25) (.cells #[.int .i64 r, .int .i64 q] 31) (.cells #[.int .i64 0, .int .i64 0, .int .i64 0, .int .i64 0, .int .i64 0, .string ⟨#[]⟩] 36) (.cells #[.int .i64 0, .int .i64 0, .int .i64 0, .int .i64 0, .int .i64 0, .string ⟨#[]⟩] 36)
  have c2 := cell_of_heap k2 0
  obtain ⟨⟨c30, c31⟩, _⟩ := two k3
  have hs5 : w4.heap.size < (w4.alloc (.cells #[.bool true] 4)).heap.size := by simp
  have hb5 : Below w4.heap.size w4 (w4.alloc (.cells #[.bool true] 4)) := (Below.refl _ _).alloc (Nat.le_refl _) _
  simp only [List.getElem?_toArray, List.getElem?_cons_zero] at c2
  have h1 := ask_low r q 1 (.func (.func 29) #[] #[.pointer (some ⟨w.heap.size, 0, none⟩), .pointer (some ⟨w.heap.size + 3, 0, none⟩)]) (some ⟨w4.heap.size, 0, none⟩) 1 1 [true] _ p M ((hp.keep hb4).keep hb5) hc (row1 w4 true 4) hm (by rfl) hlt
  have HK := Lib.hid (And.intro k4 k7)
  have HB4 := Lib.hid hb4
  have HB5 := Lib.hid hb5
  clear k2 k3 k4 k7 hb4 hb5 hp hc hm hlt
  go_enter Tryz.func10, Tryz.ntmps10
  go_wp2_with (go_at_call 28; (with_reducible refine h1.mono ?_); rintro e w6 ⟨rfl, hb6⟩; have HB6 : Hid (Below w4.heap.size w4 w6) := Lib.hid (HB5.out.trans (hb6.mono HB5.out.size)); have HA := Lib.hid (And.intro ((HB6.out.block _ (Array.getElem?_eq_some_iff.1 HK.out.1).1).trans HK.out.1) ((HB6.out.block _ (Array.getElem?_eq_some_iff.1 HK.out.2).1).trans HK.out.2)); obtain ⟨⟨d0, d1, d2, d3, d4, d5⟩, ⟨f0, f1, f2, f3, f4, f5⟩⟩ := six HA.out.1; obtain ⟨⟨x0, x1, x2, x3, x4, x5⟩, _⟩ := six HA.out.2; clear hb6 h1)
  have h6 := set6 HA.out.1 (.int .i64 0) (.int .i64 0) (.int .i64 0) (.int .i64 0) (.int .i64 0) (.string ⟨#[]⟩)
  obtain ⟨⟨z0, z1, z2, z3, z4, z5⟩, _⟩ := six h6
  clear d0 d1 d2 d3 d4 d5 x0 x1 x2 x3 x4 x5 f0 f1 f2 f3 f4 f5
  refine bodyPost_ret (v := .tuple #[.agg #[.int .i64 0, .int .i64 0, .int .i64 0, .int .i64 0, .int .i64 0, .string ⟨#[]⟩], .bool false, .int .i64 0]) (by simp only [results, Tryz.results10]; simp [go_sem, z0, z1, z2, z3, z4, z5]) rfl ⟨rfl, ?_⟩
  exact bset6 (HB4.out.trans (HB6.out.mono HB4.out.size)) (by omega) _ _ _ _ _ _
set_option maxRecDepth 100000 in
set_option maxHeartbeats 1000000 in
theorem Sm.promise_yes (r q : Int) (w : World) (p : Nat) (M : AcM) (hp : AAt w p M) (ht : M.t.size ≤ 1000000) (hc : M.c ≠ 0) (hm : mayB M.c M.s r q = true) (hr : decide (0 < r) = true) (hlt : ¬ cmpB r q M.pr M.pp < 1) :
    Calls Tryz.prog 10 #[.pointer (some ⟨p, 0, none⟩), .agg #[.int .i64 r, .int .i64 q]] w fun e w' => e = .returned (.tuple #[.agg #[.int .i64 M.ar, .int .i64 M.ap, .int .i64 M.k, .int .i64 M.m, .int .i64 M.n, .string M.t], .bool true, .int .i64 0]) ∧ AAt w' p (promM M r q) ∧ But (Xp p) w w' := by
  obtain ⟨w4, hw4, k2, k3, k4, k7, hb4, hz4⟩ := four_new w (.cells #[.pointer (some ⟨p, 0, none⟩)] 25) (.cells #[.int .i64 r, .int .i64 q] 31) (.cells #[.int .i64 0, .int .i64 0, .int .i64 0, .int .i64 0, .int .i64 0, .string ⟨#[]⟩] 36) (.cells #[.int .i64 0, .int .i64 0, .int .i64 0, .int .i64 0, .int .i64 0, .string ⟨#[]⟩] 36)
  have c2 := cell_of_heap k2 0
  obtain ⟨⟨c30, c31⟩, _⟩ := two k3
  have hs5 : w4.heap.size < (w4.alloc (.cells #[.bool true] 4)).heap.size := by simp
  have hb5 : Below w4.heap.size w4 (w4.alloc (.cells #[.bool true] 4)) := (Below.refl _ _).alloc (Nat.le_refl _) _
  simp only [List.getElem?_toArray, List.getElem?_cons_zero] at c2
  have hl := hp.lt
  have k25 := (hb5.block _ (by omega)).trans k2
  have k45 := (hb5.block _ (by omega)).trans k4
  have k75 := (hb5.block _ (by omega)).trans k7
  have h1 := ask_yes29 r q 1 (some ⟨w4.heap.size, 0, none⟩) 1 1 [true] _ p M ((hp.keep hb4).keep hb5) hc (row1 w4 true 4) hm (by rfl) hlt w.heap.size (w.heap.size + 3) (fun W W' => W'.heap[w.heap.size + 3]? = some (.cells #[.int .i64 M.ar, .int .i64 M.ap, .int .i64 M.k, .int .i64 M.m, .int .i64 M.n, .string M.t] 36 (0, 0)) ∧ But (Xp (w.heap.size + 3)) W W')
    (fun W hB hA => do29 W w.heap.size (w.heap.size + 3) p (promM M r q) (cell_of_heap (hB.box k25 (by unfold Xp; omega)) 0) hA (hB.box k75 (by unfold Xp; omega)) ht)
  have HK := Lib.hid k45
  have HB := Lib.hid (hb4.trans (hb5.mono hb4.size))
  clear k2 k3 k4 k7 k25 k45 k75 hb4 hb5 hp hc hm hlt
  go_enter Tryz.func10, Tryz.ntmps10
  go_wp2_with (go_at_call 28; (with_reducible refine h1.mono ?_); clear h1; rintro e w6 ⟨rfl, W, hB, hA, h7, hB7⟩; have HB6 := Lib.hid (And.intro hB hB7); have HA := Lib.hid (And.intro h7 (hB7.box (hB.box HK.out (by unfold Xp; omega)) (by unfold Xp; omega))); have HP := Lib.hid (hB7.box hA (by unfold Xp; omega)); obtain ⟨⟨d0, d1, d2, d3, d4, d5⟩, ⟨f0, f1, f2, f3, f4, f5⟩⟩ := six HA.out.2; obtain ⟨⟨x0, x1, x2, x3, x4, x5⟩, _⟩ := six HA.out.1; clear hB hA h7 hB7)
  have h6 := set6 HA.out.2 (.int .i64 M.ar) (.int .i64 M.ap) (.int .i64 M.k) (.int .i64 M.m) (.int .i64 M.n) (.string M.t)
  obtain ⟨⟨z0, z1, z2, z3, z4, z5⟩, _⟩ := six h6
  clear d0 d1 d2 d3 d4 d5 x0 x1 x2 x3 x4 x5 f0 f1 f2 f3 f4 f5
  refine bodyPost_ret (v := .tuple #[.agg #[.int .i64 M.ar, .int .i64 M.ap, .int .i64 M.k, .int .i64 M.m, .int .i64 M.n, .string M.t], .bool true, .int .i64 0]) (by simp only [results, Tryz.results10]; simp [go_sem, z0, z1, z2, z3, z4, z5]) rfl ⟨rfl, ?_, ?_⟩
  · exact other6 HP.out (by omega) _ _ _ _ _ _
  · have hbb := ((But.of_all HB.out (Xp p)).trans HB6.out.1 (fun _ _ e => e)).trans HB6.out.2 (fun b hb e => absurd (show b = w.heap.size + 3 from e) (by omega))
    exact buts6 hbb (by omega) _ _ _ _ _ _
theorem Sm.promise_any (r q : Int) (w : World) (p : Nat) (M : AcM) (hp : AAt w p M) (ht : M.t.size ≤ 1000000) (hc : M.c ≠ 0) :
    Calls Tryz.prog 10 #[.pointer (some ⟨p, 0, none⟩), .agg #[.int .i64 r, .int .i64 q]] w fun e w' => e = .returned (.tuple #[acVal (prOk M r q) M, .bool (prOk M r q), .int .i64 (prE M r q)]) ∧ AAt w' p (prM M r q) ∧ But (Xp p) w w' := by
  unfold prM prE prOk acVal
  cases hm : mayB M.c M.s r q with
  | false => exact (promise_arg1 r q w p M hp hc hm).mono fun e w' ⟨h1, h2⟩ => ⟨by rw [h1]; simp, by simpa using hp.keep h2, But.of_all h2 _⟩
  | true =>
    cases hr : decide (0 < r) with
    | false => exact (promise_arg2 r q w p M hp hc hm hr).mono fun e w' ⟨h1, h2⟩ => ⟨by rw [h1]; simp, by simpa using hp.keep h2, But.of_all h2 _⟩
    | true =>
      by_cases hlt : cmpB r q M.pr M.pp < 1
      · exact (promise_low r q w p M hp hc hm hr hlt).mono fun e w' ⟨h1, h2⟩ => ⟨by rw [h1]; simp [hlt], by simpa [hlt] using hp.keep h2, But.of_all h2 _⟩
      · exact (promise_yes r q w p M hp ht hc hm hr hlt).mono fun e w' ⟨h1, h2, h3⟩ => ⟨by rw [h1]; simp [hlt], by simpa [hlt] using h2, h3⟩
end Go.Proofs
namespace Go.Proofs
open Go Go.RowKit Sm Go.Lib
attribute [local go_sem] Oper.semAt_some
/-- is it accepted, where truths hold -/
def Sm.acOk (M : AcM) (r q : Int) (b : Bool) : Bool := mayB M.c M.s r q && b && !decide (cmpB r q M.pr M.pp < 0)
def Sm.acE (M : AcM) (r q : Int) (b : Bool) : Int := if (mayB M.c M.s r q && b) = true then 0 else 2
def Sm.acM (M : AcM) (r q k m n : Int) (t : ByteArray) (b : Bool) : AcM := if acOk M r q b then accM (promM M r q) r q k m n t else M
theorem Sm.ask31_any (r q k m n : Int) (t : ByteArray) (A : Option Addr) (N c : Nat) (b : Bool) (w : World) (p b3 b4 b5 : Nat) (M : AcM) (hp : AAt w p M) (hc : M.c ≠ 0) (ht : t.size ≤ 1000000) (hr : RowB w A N c [b]) (n3 : b3 ≠ p) (n4 : b4 ≠ p) (n5 : b5 ≠ p)
    (h3 : w.heap[b3]? = some (.cells #[.pointer (some ⟨p, 0, none⟩)] 25 (0, 0))) (h4 : w.heap[b4]? = some (.cells #[.int .i64 r, .int .i64 q] 31 (0, 0))) (h5 : w.heap[b5]? = some (.cells #[.int .i64 k, .int .i64 m, .int .i64 n, .string t] 34 (0, 0))) :
    Calls Tryz.prog 28 #[.pointer (some ⟨p, 0, none⟩), .agg #[.int .i64 r, .int .i64 q], .int .i64 0, .func (.func 31) #[] #[.pointer (some ⟨b4, 0, none⟩), .pointer (some ⟨b5, 0, none⟩), .pointer (some ⟨b3, 0, none⟩)], .slice A N c] w
      fun e w' => e = .returned (.tuple #[.bool (acOk M r q b), .int .i64 (acE M r q b)]) ∧ AAt w' p (acM M r q k m n t b) ∧ But (Xp p) w w' := by
  unfold acM acE acOk
  cases hm : mayB M.c M.s r q with
  | false => exact (ask_arg1 r q 0 _ A N c [b] w p M hp hc hr hm).mono fun e w' ⟨h1, h2⟩ => ⟨by rw [h1]; simp, by simpa using hp.keep h2, But.of_all h2 _⟩
  | true =>
    cases b with
    | false => exact (ask_arg2 r q 0 _ A N c [false] w p M hp hc hr hm rfl).mono fun e w' ⟨h1, h2⟩ => ⟨by rw [h1]; simp, by simpa using hp.keep h2, But.of_all h2 _⟩
    | true =>
      by_cases hlt : cmpB r q M.pr M.pp < 0
      · exact (ask_low r q 0 _ A N c [true] w p M hp hc hr hm rfl hlt).mono fun e w' ⟨h1, h2⟩ => ⟨by rw [h1]; simp [hlt], by simpa [hlt] using hp.keep h2, But.of_all h2 _⟩
      · refine (ask_yes31 r q 0 A N c [true] w p M hp hc hr hm rfl hlt b4 b5 b3 (fun W w' => AAt w' p (accM (promM M r q) r q k m n t) ∧ But (Xp p) W w') (fun W hB hA => do31 W b4 b5 b3 p (promM M r q) r q k m n t ht hA n3 n4 n5 (cell_of_heap (hB.box h3 n3) 0) (hB.box h4 n4) (hB.box h5 n5))).mono ?_
        rintro e w' ⟨h1, W, hB, _, hA, hB2⟩
        exact ⟨by rw [h1]; simp [hlt], by simpa [hlt] using hA, hB.trans hB2 (fun _ _ e => e)⟩
theorem Sm.three_new (w : World) (a b c : Obj) : ∃ w3, ((w.alloc a).alloc b).alloc c = w3 ∧ w3.heap[w.heap.size]? = some a ∧ w3.heap[w.heap.size + 1]? = some b ∧ w3.heap[w.heap.size + 2]? = some c ∧ Below w.heap.size w w3 ∧ w.heap.size + 3 ≤ w3.heap.size := by
  refine ⟨_, rfl, ?_, ?_, ?_, ?_, ?_⟩
  · exact (Below.heap_alloc _ _ _ (by simp <;> omega)).trans ((Below.heap_alloc _ _ _ (by simp)).trans (World.alloc_heap_new w a))
  · refine (Below.heap_alloc _ _ _ (by simp <;> omega)).trans ?_
    have := World.alloc_heap_new (w.alloc a) b
    rwa [World.size_alloc] at this
  · have := World.alloc_heap_new ((w.alloc a).alloc b) c
    rwa [World.size_alloc, World.size_alloc] at this
  · exact (((Below.refl _ w).alloc (Nat.le_refl _) _).alloc (by simp) _).alloc (by simp; omega) _
  · simp
set_option maxRecDepth 100000 in
set_option maxHeartbeats 1000000 in
theorem Sm.accept_any (r q k m n : Int) (t : ByteArray) (w : World) (p : Nat) (M : AcM) (hp : AAt w p M) (hc : M.c ≠ 0) (hk : I64 k) (ht : t.size ≤ 1000000) (hL : LaysT w) :
    Calls Tryz.prog 11 #[.pointer (some ⟨p, 0, none⟩), .agg #[.int .i64 r, .int .i64 q], .agg #[.int .i64 k, .int .i64 m, .int .i64 n, .string t]] w fun e w' => e = .returned (.tuple #[.bool (acOk M r q (entB k m n t)), .int .i64 (acE M r q (entB k m n t))]) ∧ AAt w' p (acM M r q k m n t (entB k m n t)) ∧ But (Xp p) w w' := by
  obtain ⟨w3, hw3, k3, k4, k5, hb3, hz3⟩ := three_new w (.cells #[.pointer (some ⟨p, 0, none⟩)] 25) (.cells #[.int .i64 r, .int .i64 q] 31) (.cells #[.int .i64 k, .int .i64 m, .int .i64 n, .string t] 34)
  have hL3 := hL.keep hb3
  have HR : Hid (∀ W, Below w3.heap.size w3 W → Calls Tryz.prog 32 #[.agg #[.int .i64 k, .int .i64 m, .int .i64 n, .string t]] W fun e w' => e = .returned (.bool (entB k m n t)) ∧ Below w3.heap.size w3 w') := Lib.hid fun W hb =>
    (right_any k m n t W hk ht (hL3.keep hb)).mono fun e w' ⟨h1, h2⟩ => ⟨h1, hb.trans (h2.mono hb.size)⟩
  obtain ⟨b, hb⟩ : ∃ b, entB k m n t = b := ⟨_, rfl⟩
  rw [hb] at HR ⊢
  clear hb
  have hl := hp.lt
  have hq := hp.keep hb3
  have HASK : Hid (∀ W, Below w3.heap.size w3 W → Calls Tryz.prog 28 #[.pointer (some ⟨p, 0, none⟩), .agg #[.int .i64 r, .int .i64 q], .int .i64 0, .func (.func 31) #[] #[.pointer (some ⟨w.heap.size + 1, 0, none⟩), .pointer (some ⟨w.heap.size + 2, 0, none⟩), .pointer (some ⟨w.heap.size, 0, none⟩)], .slice (some ⟨W.heap.size, 0, none⟩) 1 1] (W.alloc (.cells #[.bool b] 4))
      fun e w' => e = .returned (.tuple #[.bool (acOk M r q b), .int .i64 (acE M r q b)]) ∧ AAt w' p (acM M r q k m n t b) ∧ But (Xp p) w3 w') := Lib.hid fun W hb => by
    have hb' : Below w3.heap.size w3 (W.alloc (.cells #[.bool b] 4)) := hb.alloc hb.size _
    refine (ask31_any r q k m n t _ 1 1 b _ p w.heap.size (w.heap.size + 1) (w.heap.size + 2) M (hq.keep hb') hc ht (row1 W b 4) (by omega) (by omega) (by omega) ((hb'.block _ (by omega)).trans k3) ((hb'.block _ (by omega)).trans k4) ((hb'.block _ (by omega)).trans k5)).mono ?_
    rintro e w' ⟨h1, h2, h3⟩
    exact ⟨h1, h2, (But.of_all hb' _).trans h3 (fun _ _ e => e)⟩
  clear hq
  have HS : Hid (∀ W, But (Xp p) w3 W → W.cell? ⟨w.heap.size, 0, none⟩ = some (.pointer (some ⟨p, 0, none⟩)) ∧ (W.cell? ⟨w.heap.size + 1, 0, none⟩ = some (.int .i64 r) ∧ W.cell? ⟨w.heap.size + 1, 1, none⟩ = some (.int .i64 q)) ∧ (W.cell? ⟨w.heap.size + 2, 0, none⟩ = some (.int .i64 k) ∧ W.cell? ⟨w.heap.size + 2, 1, none⟩ = some (.int .i64 m) ∧ W.cell? ⟨w.heap.size + 2, 2, none⟩ = some (.int .i64 n) ∧ W.cell? ⟨w.heap.size + 2, 3, none⟩ = some (.string t))) := Lib.hid fun W hb =>
    ⟨cell_of_heap (hb.box k3 (by unfold Xp; omega)) 0, (two (hb.box k4 (by unfold Xp; omega))).1, (four (hb.box k5 (by unfold Xp; omega))).1⟩
  have z0 := HS.out _ (But.refl _ _)
  have HB3 := Lib.hid hb3
  clear k3 k4 k5 hb3 hL hL3 hp
  go_enter Tryz.func11, Tryz.ntmps11
  go_upto_region 2 with fail
  clear hw3
  go_region_held_law (fun W => W.cell? ⟨w.heap.size, 0, none⟩ = some (.pointer (some ⟨p, 0, none⟩)) ∧ (W.cell? ⟨w.heap.size + 1, 0, none⟩ = some (.int .i64 r) ∧ W.cell? ⟨w.heap.size + 1, 1, none⟩ = some (.int .i64 q)) ∧ (W.cell? ⟨w.heap.size + 2, 0, none⟩ = some (.int .i64 k) ∧ W.cell? ⟨w.heap.size + 2, 1, none⟩ = some (.int .i64 m) ∧ W.cell? ⟨w.heap.size + 2, 2, none⟩ = some (.int .i64 n) ∧ W.cell? ⟨w.heap.size + 2, 3, none⟩ = some (.string t)))
    (first | with_reducible exact z0 | (refine HS.out _ ?_; (first | with_reducible exact (But.refl _ _).drew | with_reducible exact HB5.out | with_reducible exact (But.of_all (by assumption) _).alloc _ | with_reducible exact But.of_all (by assumption) _)))
    (first
      | (go_at_call 32; (with_reducible refine (HR.out _ (by with_reducible exact (Below.refl _ _).drew)).mono ?_); clear HR; rintro e w4 ⟨rfl, hb4⟩; have hs4 := hb4.size; obtain ⟨y0, ⟨y1, y2⟩, y3, y4, y5, y6⟩ := HS.out _ ((But.of_all hb4 _).alloc (.cells #[.bool b] 4)))
      | (go_at_call 28; (with_reducible refine (HASK.out _ hb4).mono ?_); clear HASK; rintro e w5 ⟨rfl, hA, hB5⟩; have HB5 := Lib.hid hB5; have HA := Lib.hid hA; clear hA hB5))
  all_goals
    go_wp2
    go_ret2
    exact ⟨rfl, HA.out, (But.of_all HB3.out _).trans HB5.out (fun _ _ e => e)⟩
set_option maxRecDepth 100000 in
set_option maxHeartbeats 1000000 in
theorem Sm.accept_no (r q k m n : Int) (t : ByteArray) (w : World) (hk : I64 k) (ht : t.size ≤ 1000000) (hL : LaysT w) :
    Calls Tryz.prog 11 #[.pointer none, .agg #[.int .i64 r, .int .i64 q], .agg #[.int .i64 k, .int .i64 m, .int .i64 n, .string t]] w fun e w' => e = .returned (.tuple #[.bool false, .int .i64 1]) ∧ Below w.heap.size w w' := by
  obtain ⟨w3, hw3, k3, k4, k5, hb3, hz3⟩ := three_new w (.cells #[.pointer none] 25) (.cells #[.int .i64 r, .int .i64 q] 31) (.cells #[.int .i64 k, .int .i64 m, .int .i64 n, .string t] 34)
  have hL3 := hL.keep hb3
  have HR : Hid (∀ W, Below w3.heap.size w3 W → Calls Tryz.prog 32 #[.agg #[.int .i64 k, .int .i64 m, .int .i64 n, .string t]] W fun e w' => e = .returned (.bool (entB k m n t)) ∧ Below w3.heap.size w3 w') := Lib.hid fun W hb =>
    (right_any k m n t W hk ht (hL3.keep hb)).mono fun e w' ⟨h1, h2⟩ => ⟨h1, hb.trans (h2.mono hb.size)⟩
  obtain ⟨b, hb⟩ : ∃ b, entB k m n t = b := ⟨_, rfl⟩
  rw [hb] at HR
  clear hb
  have HASK : Hid (∀ W, Below w3.heap.size w3 W → Calls Tryz.prog 28 #[.pointer none, .agg #[.int .i64 r, .int .i64 q], .int .i64 0, .func (.func 31) #[] #[.pointer (some ⟨w.heap.size + 1, 0, none⟩), .pointer (some ⟨w.heap.size + 2, 0, none⟩), .pointer (some ⟨w.heap.size, 0, none⟩)], .slice (some ⟨W.heap.size, 0, none⟩) 1 1] (W.alloc (.cells #[.bool b] 4))
      fun e w' => e = .returned (.tuple #[.bool false, .int .i64 1]) ∧ Below w3.heap.size w3 w' ∧ But (Xp (w.heap.size + 3)) w3 w') := Lib.hid fun W hb => by
    have hb' : Below w3.heap.size w3 (W.alloc (.cells #[.bool b] 4)) := hb.alloc hb.size _
    exact (ask_no r q 0 _ _ _).mono fun e w' ⟨h1, h2⟩ => ⟨h1, hb'.trans (h2.mono hb'.size), But.of_all (hb'.trans (h2.mono hb'.size)) _⟩
  have HS : Hid (∀ W, But (Xp (w.heap.size + 3)) w3 W → W.cell? ⟨w.heap.size, 0, none⟩ = some (.pointer none) ∧ (W.cell? ⟨w.heap.size + 1, 0, none⟩ = some (.int .i64 r) ∧ W.cell? ⟨w.heap.size + 1, 1, none⟩ = some (.int .i64 q)) ∧ (W.cell? ⟨w.heap.size + 2, 0, none⟩ = some (.int .i64 k) ∧ W.cell? ⟨w.heap.size + 2, 1, none⟩ = some (.int .i64 m) ∧ W.cell? ⟨w.heap.size + 2, 2, none⟩ = some (.int .i64 n) ∧ W.cell? ⟨w.heap.size + 2, 3, none⟩ = some (.string t))) := Lib.hid fun W hb =>
    ⟨cell_of_heap (hb.box k3 (by unfold Xp; omega)) 0, (two (hb.box k4 (by unfold Xp; omega))).1, (four (hb.box k5 (by unfold Xp; omega))).1⟩
  have z0 := HS.out _ (But.refl _ _)
  have HB3 := Lib.hid hb3
  clear k3 k4 k5 hb3 hL hL3
  go_enter Tryz.func11, Tryz.ntmps11
  go_upto_region 2 with fail
  clear hw3
  go_region_held_law (fun W => W.cell? ⟨w.heap.size, 0, none⟩ = some (.pointer none) ∧ (W.cell? ⟨w.heap.size + 1, 0, none⟩ = some (.int .i64 r) ∧ W.cell? ⟨w.heap.size + 1, 1, none⟩ = some (.int .i64 q)) ∧ (W.cell? ⟨w.heap.size + 2, 0, none⟩ = some (.int .i64 k) ∧ W.cell? ⟨w.heap.size + 2, 1, none⟩ = some (.int .i64 m) ∧ W.cell? ⟨w.heap.size + 2, 2, none⟩ = some (.int .i64 n) ∧ W.cell? ⟨w.heap.size + 2, 3, none⟩ = some (.string t)))
    (first | with_reducible exact z0 | (refine HS.out _ ?_; (first | with_reducible exact (But.refl _ _).drew | with_reducible exact HB5.out | with_reducible exact (But.of_all (by assumption) _).alloc _ | with_reducible exact But.of_all (by assumption) _)))
    (first
      | (go_at_call 32; (with_reducible refine (HR.out _ (by with_reducible exact (Below.refl _ _).drew)).mono ?_); clear HR; rintro e w4 ⟨rfl, hb4⟩; have hs4 := hb4.size; obtain ⟨y0, ⟨y1, y2⟩, y3, y4, y5, y6⟩ := HS.out _ ((But.of_all hb4 _).alloc (.cells #[.bool b] 4)))
      | (go_at_call 28; (with_reducible refine (HASK.out _ hb4).mono ?_); clear HASK; rintro e w5 ⟨rfl, hA, hB5⟩; have HB5 := Lib.hid hB5; have HA := Lib.hid hA; clear hA hB5))
  all_goals
    go_wp2
    go_ret2
    exact ⟨rfl, HB3.out.trans (HA.out.mono HB3.out.size)⟩
set_option maxRecDepth 100000 in
set_option maxHeartbeats 1000000 in
theorem Sm.accept_zero (r q k m n : Int) (t : ByteArray) (w : World) (p : Nat) (M : AcM) (hp : AAt w p M) (hc : M.c = 0) (hk : I64 k) (ht : t.size ≤ 1000000) (hL : LaysT w) :
    Calls Tryz.prog 11 #[.pointer (some ⟨p, 0, none⟩), .agg #[.int .i64 r, .int .i64 q], .agg #[.int .i64 k, .int .i64 m, .int .i64 n, .string t]] w fun e w' => e = .returned (.tuple #[.bool false, .int .i64 1]) ∧ Below w.heap.size w w' := by
  obtain ⟨w3, hw3, k3, k4, k5, hb3, hz3⟩ := three_new w (.cells #[.pointer (some ⟨p, 0, none⟩)] 25) (.cells #[.int .i64 r, .int .i64 q] 31) (.cells #[.int .i64 k, .int .i64 m, .int .i64 n, .string t] 34)
  have hL3 := hL.keep hb3
  have HR : Hid (∀ W, Below w3.heap.size w3 W → Calls Tryz.prog 32 #[.agg #[.int .i64 k, .int .i64 m, .int .i64 n, .string t]] W fun e w' => e = .returned (.bool (entB k m n t)) ∧ Below w3.heap.size w3 w') := Lib.hid fun W hb =>
    (right_any k m n t W hk ht (hL3.keep hb)).mono fun e w' ⟨h1, h2⟩ => ⟨h1, hb.trans (h2.mono hb.size)⟩
  obtain ⟨b, hb⟩ : ∃ b, entB k m n t = b := ⟨_, rfl⟩
  rw [hb] at HR
  clear hb
  have hl := hp.lt
  have hq := hp.keep hb3
  have HASK : Hid (∀ W, Below w3.heap.size w3 W → Calls Tryz.prog 28 #[.pointer (some ⟨p, 0, none⟩), .agg #[.int .i64 r, .int .i64 q], .int .i64 0, .func (.func 31) #[] #[.pointer (some ⟨w.heap.size + 1, 0, none⟩), .pointer (some ⟨w.heap.size + 2, 0, none⟩), .pointer (some ⟨w.heap.size, 0, none⟩)], .slice (some ⟨W.heap.size, 0, none⟩) 1 1] (W.alloc (.cells #[.bool b] 4))
      fun e w' => e = .returned (.tuple #[.bool false, .int .i64 1]) ∧ Below w3.heap.size w3 w' ∧ But (Xp p) w3 w') := Lib.hid fun W hb => by
    have hb' : Below w3.heap.size w3 (W.alloc (.cells #[.bool b] 4)) := hb.alloc hb.size _
    exact (ask_zero r q 0 _ _ _ p M (hq.keep hb') hc).mono fun e w' ⟨h1, h2⟩ => ⟨h1, hb'.trans (h2.mono hb'.size), But.of_all (hb'.trans (h2.mono hb'.size)) _⟩
  have HS : Hid (∀ W, But (Xp p) w3 W → W.cell? ⟨w.heap.size, 0, none⟩ = some (.pointer (some ⟨p, 0, none⟩)) ∧ (W.cell? ⟨w.heap.size + 1, 0, none⟩ = some (.int .i64 r) ∧ W.cell? ⟨w.heap.size + 1, 1, none⟩ = some (.int .i64 q)) ∧ (W.cell? ⟨w.heap.size + 2, 0, none⟩ = some (.int .i64 k) ∧ W.cell? ⟨w.heap.size + 2, 1, none⟩ = some (.int .i64 m) ∧ W.cell? ⟨w.heap.size + 2, 2, none⟩ = some (.int .i64 n) ∧ W.cell? ⟨w.heap.size + 2, 3, none⟩ = some (.string t))) := Lib.hid fun W hb =>
    ⟨cell_of_heap (hb.box k3 (by unfold Xp; omega)) 0, (two (hb.box k4 (by unfold Xp; omega))).1, (four (hb.box k5 (by unfold Xp; omega))).1⟩
  have z0 := HS.out _ (But.refl _ _)
  have HB3 := Lib.hid hb3
  clear k3 k4 k5 hb3 hL hL3 hp hq
  go_enter Tryz.func11, Tryz.ntmps11
  go_upto_region 2 with fail
  clear hw3
  go_region_held_law (fun W => W.cell? ⟨w.heap.size, 0, none⟩ = some (.pointer (some ⟨p, 0, none⟩)) ∧ (W.cell? ⟨w.heap.size + 1, 0, none⟩ = some (.int .i64 r) ∧ W.cell? ⟨w.heap.size + 1, 1, none⟩ = some (.int .i64 q)) ∧ (W.cell? ⟨w.heap.size + 2, 0, none⟩ = some (.int .i64 k) ∧ W.cell? ⟨w.heap.size + 2, 1, none⟩ = some (.int .i64 m) ∧ W.cell? ⟨w.heap.size + 2, 2, none⟩ = some (.int .i64 n) ∧ W.cell? ⟨w.heap.size + 2, 3, none⟩ = some (.string t)))
    (first | with_reducible exact z0 | (refine HS.out _ ?_; (first | with_reducible exact (But.refl _ _).drew | with_reducible exact HB5.out | with_reducible exact (But.of_all (by assumption) _).alloc _ | with_reducible exact But.of_all (by assumption) _)))
    (first
      | (go_at_call 32; (with_reducible refine (HR.out _ (by with_reducible exact (Below.refl _ _).drew)).mono ?_); clear HR; rintro e w4 ⟨rfl, hb4⟩; have hs4 := hb4.size; obtain ⟨y0, ⟨y1, y2⟩, y3, y4, y5, y6⟩ := HS.out _ ((But.of_all hb4 _).alloc (.cells #[.bool b] 4)))
      | (go_at_call 28; (with_reducible refine (HASK.out _ hb4).mono ?_); clear HASK; rintro e w5 ⟨rfl, hA, hB5⟩; have HB5 := Lib.hid hB5; have HA := Lib.hid hA; clear hA hB5))
  all_goals
    go_wp2
    go_ret2
    exact ⟨rfl, HB3.out.trans (HA.out.mono HB3.out.size)⟩
end Go.Proofs
namespace Go.Proofs
open Go Go.RowKit Sm Go.Lib
attribute [local go_sem] Oper.semAt_some
/-- a new acceptor -/
def Sm.newM (c s : Int) : AcM := ⟨c, s, 0, s % c, -1, 0, 0, 0, 0, ⟨#[]⟩⟩
set_option maxRecDepth 100000 in
set_option maxHeartbeats 1000000 in
theorem Sm.new_no (c s : Int) (w : World) (hn : ¬ (chB c = true ∧ slB s = true)) : Calls Tryz.prog 8 #[.int .i64 c, .int .i64 s] w fun e w' => e = .returned (.tuple #[.pointer none, .int .i64 (slotV c s (s % c)).2]) ∧ Below w.heap.size w w' := by
  have h1 := First_any c s w
  have h2 : ((slotV c s (s % c)).2 != 0) = true := by
    simp only [bne_iff_ne, ne_eq, slotV_e]
    exact hn
  obtain ⟨x, hx⟩ : ∃ x, (slotV c s (s % c)).1 = x := ⟨_, rfl⟩
  obtain ⟨y, hy⟩ : ∃ x, (slotV c s (s % c)).2 = x := ⟨_, rfl⟩
  rw [hx, hy] at h1
  rw [hy] at h2 ⊢
  clear hx hy hn
  go_enter Tryz.func8, Tryz.ntmps8
  go_wp2_with (go_at_call 22; (with_reducible refine h1.mono ?_); rintro e w1 ⟨rfl, hb1⟩; have hs1 := hb1.size)
  go_ret2
  exact ⟨rfl, hb1.alloc hs1 _⟩
set_option maxRecDepth 100000 in
set_option maxHeartbeats 1000000 in
theorem Sm.new_yes (c s : Int) (w : World) (hc : chB c = true) (hs : slB s = true) : Calls Tryz.prog 8 #[.int .i64 c, .int .i64 s] w fun e w' => ∃ p, e = .returned (.tuple #[.pointer (some ⟨p, 0, none⟩), .int .i64 0]) ∧ w.heap.size ≤ p ∧ AAt w' p (newM c s) ∧ Below w.heap.size w w' := by
  have h1 := First_any c s w
  rw [slotV_v c s _ hc hs] at h1
  obtain ⟨o, ho⟩ : ∃ o, s % c = o := ⟨_, rfl⟩
  unfold newM
  rw [ho] at h1 ⊢
  have h2 := fun W => nothing_any W
  clear hc hs ho
  go_enter Tryz.func8, Tryz.ntmps8
  go_upto_region 4 with (go_at_call 22; (with_reducible refine h1.mono ?_); rintro e w1 ⟨rfl, hb1⟩; have hs1 := hb1.size)
  have hb2 := hb1.alloc hs1 (.cells #[.int .i64 0, .int .i64 o] 31)
  have q2 := World.alloc_heap_new w1 (.cells #[.int .i64 0, .int .i64 o] 31)
  obtain ⟨w2, hw2⟩ : ∃ v, w1.alloc (.cells #[.int .i64 0, .int .i64 o] 31) = v := ⟨_, rfl⟩
  rw [hw2] at q2 hb2 ⊢
  have z0 := (two q2).1
  have HS : Hid (∀ W, Below w2.heap.size w2 W → W.cell? ⟨w1.heap.size, 0, none⟩ = some (.int .i64 0) ∧ W.cell? ⟨w1.heap.size, 1, none⟩ = some (.int .i64 o)) := Lib.hid fun W hb => (two ((hb.block _ (Array.getElem?_eq_some_iff.1 q2).1).trans q2)).1
  have HB2 := Lib.hid hb2
  clear hw2 q2 hb2 h1
  go_region_held_law (fun W => W.cell? ⟨w1.heap.size, 0, none⟩ = some (.int .i64 0) ∧ W.cell? ⟨w1.heap.size, 1, none⟩ = some (.int .i64 o))
    (first | with_reducible exact z0 | (refine HS.out _ ?_; (first | with_reducible exact (Below.refl _ _).drew | with_reducible assumption | with_reducible exact Below.alloc (by assumption) hs3 _)))
    ((go_at_call 23; (with_reducible refine (h2 _).mono ?_); rintro e w3 ⟨rfl, hb3⟩; have hb3 : Below w2.heap.size w2 w3 := (Below.refl _ w2).drew.trans hb3; have hs3 := hb3.size))
  all_goals
    go_wp2
    go_ret2
    exact ⟨w3.heap.size, rfl, (HB2.out.trans (hb3.mono HB2.out.size)).size, World.alloc_heap_new w3 _, HB2.out.trans ((hb3.alloc hs3 _).mono HB2.out.size)⟩
/-- an acceptor, or none -/
def Sm.pV : Option Nat → Value
  | none => .pointer none
  | some p => .pointer (some ⟨p, 0, none⟩)
def Sm.zeroM : AcM := ⟨0, 0, 0, 0, 0, 0, 0, 0, 0, ⟨#[]⟩⟩
/-- an acceptor in memory, or none, which is as a zero one -/
def Sm.OAt (w : World) (P : Option Nat) (M : AcM) : Prop := match P with | none => M = zeroM | some p => AAt w p M
theorem Sm.OAt.keep {w w' : World} {P : Option Nat} {M : AcM} (h : OAt w P M) (hb : Below w.heap.size w w') : OAt w' P M := by
  cases P with
  | none => exact h
  | some p => exact AAt.keep h hb
theorem Sm.wholeO (w : World) (P : Option Nat) (M : AcM) (h : OAt w P M) : Calls Tryz.prog 34 #[pV P] w fun e w' => e = .returned (.agg #[.int .i64 M.c, .int .i64 M.s, .int .i64 M.pr, .int .i64 M.pp, .int .i64 M.ar, .int .i64 M.ap, .int .i64 M.k, .int .i64 M.m, .int .i64 M.n, .string M.t]) ∧ Below w.heap.size w w' := by
  cases P with
  | none => rw [show M = zeroM from h]; exact whole_no w
  | some p => exact whole_any w p M h
theorem Sm.thereO (w : World) (P : Option Nat) (M : AcM) (h : OAt w P M) : Calls Tryz.prog 33 #[pV P] w fun e w' => e = .returned (.bool (M.c != 0)) ∧ Below w.heap.size w w' := by
  cases P with
  | none => rw [show M = zeroM from h]; exact there_no w
  | some p => exact there_any w p M h
set_option maxRecDepth 100000 in
set_option maxHeartbeats 1000000 in
theorem Sm.Promised_any (w : World) (P : Option Nat) (M : AcM) (h : OAt w P M) : Calls Tryz.prog 14 #[pV P] w fun e w' => e = .returned (.agg #[.int .i64 M.pr, .int .i64 M.pp]) ∧ Below w.heap.size w w' := by
  have hb1 : Below w.heap.size w (w.alloc (.cells #[.int .i64 0, .int .i64 0] 31)) := (Below.refl _ w).alloc (Nat.le_refl _) _
  have h1 := wholeO _ P M (h.keep hb1)
  have q1 := World.alloc_heap_new w (.cells #[.int .i64 0, .int .i64 0] 31)
  have f1 : ∀ w, (Instr.field 44 (.agg #[.int .i64 M.c, .int .i64 M.s, .int .i64 M.pr, .int .i64 M.pp, .int .i64 M.ar, .int .i64 M.ap, .int .i64 M.k, .int .i64 M.m, .int .i64 M.n, .string M.t]) 2).run Tryz.prog w = .ok (.agg #[.int .i64 M.pr, .int .i64 M.pp, .int .i64 M.ar, .int .i64 M.ap, .int .i64 M.k, .int .i64 M.m, .int .i64 M.n, .string M.t]) w := fun _ => by kernel_rfl
  have f2 : ∀ w, (Instr.field 42 (.agg #[.int .i64 M.pr, .int .i64 M.pp, .int .i64 M.ar, .int .i64 M.ap, .int .i64 M.k, .int .i64 M.m, .int .i64 M.n, .string M.t]) 0).run Tryz.prog w = .ok (.agg #[.int .i64 M.pr, .int .i64 M.pp]) w := fun _ => by kernel_rfl
  have HQ : Hid (∀ W, Below (w.alloc (.cells #[.int .i64 0, .int .i64 0] 31)).heap.size (w.alloc (.cells #[.int .i64 0, .int .i64 0] 31)) W → W.heap[w.heap.size]? = some (.cells #[.int .i64 0, .int .i64 0] 31 (0, 0))) := Lib.hid fun W hb => (hb.block _ (by simp)).trans q1
  have HB1 := Lib.hid hb1
  generalize pV P = v at h1 ⊢
  clear hb1 q1 h
  go_enter Tryz.func14, Tryz.ntmps14
  go_wp2_with (go_at_call 34; (with_reducible refine h1.mono ?_); rintro e w2 ⟨rfl, hb2⟩; have HA := Lib.hid (HQ.out _ hb2); obtain ⟨⟨d0, d1⟩, ⟨g0, g1⟩⟩ := two (HQ.out _ hb2); have HB2 := Lib.hid (HB1.out.trans (hb2.mono HB1.out.size)); clear hb2)
  obtain ⟨⟨z0, z1⟩, _⟩ := two (set2 HA.out (.int .i64 M.pr) (.int .i64 M.pp))
  clear d0 d1 g0 g1
  refine bodyPost_ret (v := .agg #[.int .i64 M.pr, .int .i64 M.pp]) (by simp only [results, Tryz.results14]; simp [go_sem, z0, z1]) rfl ⟨rfl, ?_⟩
  exact bset2 HB2.out (Nat.le_refl _) _ _
set_option maxRecDepth 100000 in
set_option maxHeartbeats 1000000 in
theorem Sm.copy_no (w : World) (P : Option Nat) (M : AcM) (h : OAt w P M) (hc : M.c = 0) : Calls Tryz.prog 15 #[pV P] w fun e w' => e = .returned (.pointer none) ∧ Below w.heap.size w w' := by
  have h1 := thereO w P M h
  have e1 : (M.c != 0) = false := by simp [hc]
  rw [e1] at h1
  generalize pV P = v at h1 ⊢
  clear h hc e1
  go_enter Tryz.func15, Tryz.ntmps15
  go_wp2_with (go_at_call 33; (with_reducible refine h1.mono ?_); rintro e w2 ⟨rfl, hb2⟩)
  go_ret
  exact ⟨rfl, hb2⟩
set_option maxRecDepth 100000 in
set_option maxHeartbeats 1000000 in
theorem Sm.copy_yes (w : World) (p : Nat) (M : AcM) (h : AAt w p M) (hc : M.c ≠ 0) : Calls Tryz.prog 15 #[.pointer (some ⟨p, 0, none⟩)] w fun e w' => ∃ o, e = .returned (.pointer (some ⟨o, 0, none⟩)) ∧ w.heap.size ≤ o ∧ AAt w' o M ∧ Below w.heap.size w w' := by
  have h1 := there_any w p M h
  have e1 : (M.c != 0) = true := by simpa using hc
  rw [e1] at h1
  have HQ : Hid (∀ W, Below w.heap.size w W → AAt W p M) := Lib.hid fun W hb => h.keep hb
  have hl := h.lt
  clear h hc e1
  go_enter Tryz.func15, Tryz.ntmps15
  go_wp2_with (go_at_call 33; (with_reducible refine h1.mono ?_); rintro e w2 ⟨rfl, hb2⟩; have hl2 := (HQ.out _ hb2).lt; obtain ⟨c0, c1, c2, c3, c4, c5, c6, c7, c8, c9⟩ := (HQ.out _ hb2).cells)
  go_ret
  exact ⟨w2.heap.size, rfl, hb2.size, World.alloc_heap_new w2 _, hb2.alloc hb2.size _⟩
def Sm.sameM (M M' : AcM) : Bool := decide (M.c = M'.c ∧ M.s = M'.s ∧ M.pr = M'.pr ∧ M.pp = M'.pp ∧ M.ar = M'.ar ∧ M.ap = M'.ap ∧ M.k = M'.k ∧ M.m = M'.m ∧ M.n = M'.n ∧ M.t = M'.t)
theorem Sm.sameM_eq {M M' : AcM} : sameM M M' = true ↔ M = M' := by
  unfold sameM
  rw [decide_eq_true_eq]
  constructor
  · rintro ⟨h0, h1, h2, h3, h4, h5, h6, h7, h8, h9⟩
    cases M; cases M'
    simp only at h0 h1 h2 h3 h4 h5 h6 h7 h8 h9
    subst h0 h1 h2 h3 h4 h5 h6 h7 h8 h9
    rfl
  · rintro rfl
    exact ⟨rfl, rfl, rfl, rfl, rfl, rfl, rfl, rfl, rfl, rfl⟩
set_option maxRecDepth 100000 in
set_option maxHeartbeats 1000000 in
theorem Sm.Same_any (w : World) (P Q : Option Nat) (M N : AcM) (h : OAt w P M) (k : OAt w Q N) : Calls Tryz.prog 16 #[pV P, pV Q] w fun e w' => e = .returned (.bool (sameM M N)) ∧ Below w.heap.size w w' := by
  have h1 := wholeO w P M h
  have H2 : Hid (∀ W, Below w.heap.size w W → Calls Tryz.prog 34 #[pV Q] W fun e w' => e = .returned (.agg #[.int .i64 N.c, .int .i64 N.s, .int .i64 N.pr, .int .i64 N.pp, .int .i64 N.ar, .int .i64 N.ap, .int .i64 N.k, .int .i64 N.m, .int .i64 N.n, .string N.t]) ∧ Below w.heap.size w w') := Lib.hid fun W hb => (wholeO W Q N (k.keep hb)).mono fun e w' ⟨e1, e2⟩ => ⟨e1, hb.trans (e2.mono hb.size)⟩
  have h3 := fun W => eql44 W M.c N.c M.s N.s M.pr N.pr M.pp N.pp M.ar N.ar M.ap N.ap M.k N.k M.m N.m M.n N.n M.t N.t
  unfold sameM
  obtain ⟨x, hx⟩ : ∃ x, decide (M.c = N.c ∧ M.s = N.s ∧ M.pr = N.pr ∧ M.pp = N.pp ∧ M.ar = N.ar ∧ M.ap = N.ap ∧ M.k = N.k ∧ M.m = N.m ∧ M.n = N.n ∧ M.t = N.t) = x := ⟨_, rfl⟩
  rw [hx] at h3 ⊢
  have g3 : ∀ (w : World) (x y : Operand), (eqGuard .eql 44 x y (.agg #[.int .i64 M.c, .int .i64 M.s, .int .i64 M.pr, .int .i64 M.pp, .int .i64 M.ar, .int .i64 M.ap, .int .i64 M.k, .int .i64 M.m, .int .i64 M.n, .string M.t]) (.agg #[.int .i64 N.c, .int .i64 N.s, .int .i64 N.pr, .int .i64 N.pp, .int .i64 N.ar, .int .i64 N.ap, .int .i64 N.k, .int .i64 N.m, .int .i64 N.n, .string N.t])).run Tryz.prog w = .ok () w := fun w x y => run_eqGuard_agg w .eql 44 x y _ _ (by kernel_rfl)
  generalize pV P = v at h1 ⊢
  generalize pV Q = u at H2 ⊢
  clear hx h k
  go_enter Tryz.func16, Tryz.ntmps16
  go_wp2_with (first
    | (go_at_call 34; (with_reducible refine h1.mono ?_); clear h1; rintro e w2 ⟨rfl, hb2⟩; have h2 := H2.out _ hb2)
    | (go_at_call 34; (with_reducible refine h2.mono ?_); clear h2; rintro e w3 ⟨rfl, hb3⟩))
  go_ret
  exact ⟨rfl, hb3⟩
end Go.Proofs
namespace Go.Proofs
open Go Go.RowKit Sm Go.Lib
attribute [local go_sem] Oper.semAt_some
def Sm.noAcc (M : AcM) : Bool := decide (M.ar = -1 ∧ M.ap = 0 ∧ M.k = 0 ∧ M.m = 0 ∧ M.n = 0 ∧ M.t = ⟨#[]⟩)
def Sm.hasB (M : AcM) : Bool := M.c != 0 && !noAcc M
set_option maxRecDepth 100000 in
set_option maxHeartbeats 1000000 in
theorem Sm.accd_no (w : World) (P : Option Nat) (M : AcM) (h : OAt w P M) (hc : M.c = 0) : Calls Tryz.prog 12 #[pV P] w fun e w' => e = .returned (.tuple #[.agg #[.int .i64 0, .int .i64 0, .int .i64 0, .int .i64 0, .int .i64 0, .string ⟨#[]⟩], .bool false]) ∧ Below w.heap.size w w' := by
  have hb1 : Below w.heap.size w (w.alloc (.cells #[.int .i64 0, .int .i64 0, .int .i64 0, .int .i64 0, .int .i64 0, .string ⟨#[]⟩] 36)) := (Below.refl _ w).alloc (Nat.le_refl _) _
  have q1 := World.alloc_heap_new w (.cells #[.int .i64 0, .int .i64 0, .int .i64 0, .int .i64 0, .int .i64 0, .string ⟨#[]⟩] 36)
  obtain ⟨w1, hw1⟩ : ∃ v, w.alloc (.cells #[.int .i64 0, .int .i64 0, .int .i64 0, .int .i64 0, .int .i64 0, .string ⟨#[]⟩] 36) = v := ⟨_, rfl⟩
  have hh := h.keep hb1
  rw [hw1] at hb1 q1 hh
  have H1 : Hid (∀ W, Below w1.heap.size w1 W → Calls Tryz.prog 33 #[pV P] W fun e w' => e = .returned (.bool false) ∧ Below w1.heap.size w1 w') := Lib.hid fun W hb => (thereO W P M (hh.keep hb)).mono fun e w' ⟨e1, e2⟩ => ⟨by rw [e1]; simp [hc], hb.trans (e2.mono hb.size)⟩
  have HQ : Hid (∀ W, Below w1.heap.size w1 W → W.heap[w.heap.size]? = some (.cells #[.int .i64 0, .int .i64 0, .int .i64 0, .int .i64 0, .int .i64 0, .string ⟨#[]⟩] 36 (0, 0))) := Lib.hid fun W hb => (hb.block _ (Array.getElem?_eq_some_iff.1 q1).1).trans q1
  have HB1 := Lib.hid hb1
  clear hb1 q1 hh h hc
  rcases P with _ | p
  · simp only [pV] at H1 ⊢
    go_enter Tryz.func12, Tryz.ntmps12
    go_upto_region 1 with fail
    clear hw1
    have hS0 : (fun W => Below w1.heap.size w1 W) w1.drew := (Below.refl _ w1).drew
    refine wp_region_held_drew (S := fun W => Below w1.heap.size w1 W) rfl hS0 (fun hHeld => ?_)
    simp only [List.size_toArray, List.length_cons, List.length_nil, Nat.reduceAdd]
    have HB0 : Hid (Below w1.heap.size w1 w1.drew) := Lib.hid (Below.refl _ _).drew
    obtain ⟨V0, hV0⟩ : ∃ V, w1.drew = V := ⟨_, rfl⟩
    rw [hV0] at hHeld hS0 HB0 ⊢
    clear hV0
    refine wpAnyH_take (i := 0) (v := .pointer none) rfl (by kernel_rfl) (by kernel_rfl) (by kernel_rfl) (fun _ _ _ h => h) (Or.inl ⟨by rfl, ?_⟩) (by assumption) ?_
    · intro wx hs1; go_simp
    (try simp only [Act.put, List.getElem_toArray, List.getElem_cons_zero, List.setIfInBounds_toArray, List.set_cons_zero, List.set_cons_succ])
    refine wpAnyH_ready (rs := [1]) (by kernel_rfl) (by simp) (AllReadyH.cons rfl (fun K hK => ?_) AllReadyH.nil)
    go_simp
    go_at_call 33
    (with_reducible refine (H1.out _ HB0.out).mono ?_)
    rintro e w2 ⟨rfl, hb2⟩
    try dsimp only
    have hS : (fun W => Below w1.heap.size w1 W) w2 := hb2
    refine hK.out _ _ hS (fun _ => ?_)
    clear hK K
    (try simp only [Act.put, List.getElem_toArray, List.getElem_cons_succ, List.getElem_cons_zero, List.setIfInBounds_toArray, List.set_cons_zero, List.set_cons_succ])
    refine wpAnyH_take (i := 2) (v := .bool true) rfl (by kernel_rfl) (by kernel_rfl) (by kernel_rfl) (fun _ _ _ h => h) (Or.inl ⟨by rfl, ?_⟩) (by assumption) ?_
    · intro wx hs1; go_simp
    (try simp only [Act.put, List.getElem_toArray, List.getElem_cons_succ, List.getElem_cons_zero, List.setIfInBounds_toArray, List.set_cons_zero, List.set_cons_succ])
    refine wpAnyH_take (i := 3) (v := .bool true) rfl (by kernel_rfl) (by kernel_rfl) (by kernel_rfl) (fun _ _ _ h => h) (Or.inl ⟨by rfl, ?_⟩) (by assumption) ?_
    · intro wx hs1; go_simp
    (try simp only [Act.put, List.getElem_toArray, List.getElem_cons_succ, List.getElem_cons_zero, List.setIfInBounds_toArray, List.set_cons_zero, List.set_cons_succ])
    refine wpAnyH_take (i := 4) (v := undef) rfl (by kernel_rfl) (by kernel_rfl) (by kernel_rfl) (fun _ _ _ h => h) (Or.inr ⟨by rfl, rfl⟩) (by assumption) ?_
    (try simp only [Act.put, List.getElem_toArray, List.getElem_cons_succ, List.getElem_cons_zero, List.setIfInBounds_toArray, List.set_cons_zero, List.set_cons_succ])
    refine wpAnyH_take (i := 5) (v := undef) rfl (by kernel_rfl) (by kernel_rfl) (by kernel_rfl) (fun _ _ _ h => h) (Or.inr ⟨by rfl, rfl⟩) (by assumption) ?_
    (try simp only [Act.put, List.getElem_toArray, List.getElem_cons_succ, List.getElem_cons_zero, List.setIfInBounds_toArray, List.set_cons_zero, List.set_cons_succ])
    refine wpAnyH_take (i := 6) (v := undef) rfl (by kernel_rfl) (by kernel_rfl) (by kernel_rfl) (fun _ _ _ h => h) (Or.inr ⟨by rfl, rfl⟩) (by assumption) ?_
    (try simp only [Act.put, List.getElem_toArray, List.getElem_cons_succ, List.getElem_cons_zero, List.setIfInBounds_toArray, List.set_cons_zero, List.set_cons_succ])
    refine wpAnyH_take (i := 7) (v := undef) rfl (by kernel_rfl) (by kernel_rfl) (by kernel_rfl) (fun _ _ _ h => h) (Or.inr ⟨by rfl, rfl⟩) (by assumption) ?_
    (try simp only [Act.put, List.getElem_toArray, List.getElem_cons_succ, List.getElem_cons_zero, List.setIfInBounds_toArray, List.set_cons_zero, List.set_cons_succ])
    refine wpAnyH_take (i := 8) (v := undef) rfl (by kernel_rfl) (by kernel_rfl) (by kernel_rfl) (fun _ _ _ h => h) (Or.inr ⟨by rfl, rfl⟩) (by assumption) ?_
    (try simp only [Act.put, List.getElem_toArray, List.getElem_cons_succ, List.getElem_cons_zero, List.setIfInBounds_toArray, List.set_cons_zero, List.set_cons_succ])
    refine wpAnyH_take (i := 9) (v := undef) rfl (by kernel_rfl) (by kernel_rfl) (by kernel_rfl) (fun _ _ _ h => h) (Or.inr ⟨by rfl, rfl⟩) (by assumption) ?_
    (try simp only [Act.put, List.getElem_toArray, List.getElem_cons_succ, List.getElem_cons_zero, List.setIfInBounds_toArray, List.set_cons_zero, List.set_cons_succ])
    refine wpAnyH_take (i := 10) (v := undef) rfl (by kernel_rfl) (by kernel_rfl) (by kernel_rfl) (fun _ _ _ h => h) (Or.inr ⟨by rfl, rfl⟩) (by assumption) ?_
    (try simp only [Act.put, List.getElem_toArray, List.getElem_cons_succ, List.getElem_cons_zero, List.setIfInBounds_toArray, List.set_cons_zero, List.set_cons_succ])
    refine wpAnyH_take (i := 11) (v := .bool true) rfl (by kernel_rfl) (by kernel_rfl) (by kernel_rfl) (fun _ _ _ h => h) (Or.inl ⟨by rfl, ?_⟩) (by assumption) ?_
    · intro wx hs1; go_simp
    (try simp only [Act.put, List.getElem_toArray, List.getElem_cons_succ, List.getElem_cons_zero, List.setIfInBounds_toArray, List.set_cons_zero, List.set_cons_succ])
    refine wpAnyH_done (by kernel_rfl) ?_ _
    have HA := Lib.hid (HQ.out _ hb2)
    obtain ⟨⟨d0, d1, d2, d3, d4, d5⟩, ⟨f0, f1, f2, f3, f4, f5⟩⟩ := six (HQ.out _ hb2)
    go_wp2
    obtain ⟨⟨z0, z1, z2, z3, z4, z5⟩, _⟩ := six (set6 HA.out (.int .i64 0) (.int .i64 0) (.int .i64 0) (.int .i64 0) (.int .i64 0) (.string ⟨#[]⟩))
    clear d0 d1 d2 d3 d4 d5 f0 f1 f2 f3 f4 f5
    refine bodyPost_ret (v := .tuple #[.agg #[.int .i64 0, .int .i64 0, .int .i64 0, .int .i64 0, .int .i64 0, .string ⟨#[]⟩], .bool false]) (by simp only [results, Tryz.results12]; simp [go_sem, z0, z1, z2, z3, z4, z5]) rfl ⟨rfl, ?_⟩
    exact bset6 (HB1.out.trans (hb2.mono HB1.out.size)) (Nat.le_refl _) _ _ _ _ _ _
  · simp only [pV] at H1 ⊢
    go_enter Tryz.func12, Tryz.ntmps12
    go_upto_region 1 with fail
    clear hw1
    have hS0 : (fun W => Below w1.heap.size w1 W) w1.drew := (Below.refl _ w1).drew
    refine wp_region_held_drew (S := fun W => Below w1.heap.size w1 W) rfl hS0 (fun hHeld => ?_)
    simp only [List.size_toArray, List.length_cons, List.length_nil, Nat.reduceAdd]
    have HB0 : Hid (Below w1.heap.size w1 w1.drew) := Lib.hid (Below.refl _ _).drew
    obtain ⟨V0, hV0⟩ : ∃ V, w1.drew = V := ⟨_, rfl⟩
    rw [hV0] at hHeld hS0 HB0 ⊢
    clear hV0
    refine wpAnyH_take (i := 0) (v := .pointer (some ⟨p, 0, none⟩)) rfl (by kernel_rfl) (by kernel_rfl) (by kernel_rfl) (fun _ _ _ h => h) (Or.inl ⟨by rfl, ?_⟩) (by assumption) ?_
    · intro wx hs1; go_simp
    (try simp only [Act.put, List.getElem_toArray, List.getElem_cons_zero, List.setIfInBounds_toArray, List.set_cons_zero, List.set_cons_succ])
    refine wpAnyH_ready (rs := [1]) (by kernel_rfl) (by simp) (AllReadyH.cons rfl (fun K hK => ?_) AllReadyH.nil)
    go_simp
    go_at_call 33
    (with_reducible refine (H1.out _ HB0.out).mono ?_)
    rintro e w2 ⟨rfl, hb2⟩
    try dsimp only
    have hS : (fun W => Below w1.heap.size w1 W) w2 := hb2
    refine hK.out _ _ hS (fun _ => ?_)
    clear hK K
    (try simp only [Act.put, List.getElem_toArray, List.getElem_cons_succ, List.getElem_cons_zero, List.setIfInBounds_toArray, List.set_cons_zero, List.set_cons_succ])
    refine wpAnyH_take (i := 2) (v := .bool true) rfl (by kernel_rfl) (by kernel_rfl) (by kernel_rfl) (fun _ _ _ h => h) (Or.inl ⟨by rfl, ?_⟩) (by assumption) ?_
    · intro wx hs1; go_simp
    (try simp only [Act.put, List.getElem_toArray, List.getElem_cons_succ, List.getElem_cons_zero, List.setIfInBounds_toArray, List.set_cons_zero, List.set_cons_succ])
    refine wpAnyH_take (i := 3) (v := .bool true) rfl (by kernel_rfl) (by kernel_rfl) (by kernel_rfl) (fun _ _ _ h => h) (Or.inl ⟨by rfl, ?_⟩) (by assumption) ?_
    · intro wx hs1; go_simp
    (try simp only [Act.put, List.getElem_toArray, List.getElem_cons_succ, List.getElem_cons_zero, List.setIfInBounds_toArray, List.set_cons_zero, List.set_cons_succ])
    refine wpAnyH_take (i := 4) (v := undef) rfl (by kernel_rfl) (by kernel_rfl) (by kernel_rfl) (fun _ _ _ h => h) (Or.inr ⟨by rfl, rfl⟩) (by assumption) ?_
    (try simp only [Act.put, List.getElem_toArray, List.getElem_cons_succ, List.getElem_cons_zero, List.setIfInBounds_toArray, List.set_cons_zero, List.set_cons_succ])
    refine wpAnyH_take (i := 5) (v := undef) rfl (by kernel_rfl) (by kernel_rfl) (by kernel_rfl) (fun _ _ _ h => h) (Or.inr ⟨by rfl, rfl⟩) (by assumption) ?_
    (try simp only [Act.put, List.getElem_toArray, List.getElem_cons_succ, List.getElem_cons_zero, List.setIfInBounds_toArray, List.set_cons_zero, List.set_cons_succ])
    refine wpAnyH_take (i := 6) (v := undef) rfl (by kernel_rfl) (by kernel_rfl) (by kernel_rfl) (fun _ _ _ h => h) (Or.inr ⟨by rfl, rfl⟩) (by assumption) ?_
    (try simp only [Act.put, List.getElem_toArray, List.getElem_cons_succ, List.getElem_cons_zero, List.setIfInBounds_toArray, List.set_cons_zero, List.set_cons_succ])
    refine wpAnyH_take (i := 7) (v := undef) rfl (by kernel_rfl) (by kernel_rfl) (by kernel_rfl) (fun _ _ _ h => h) (Or.inr ⟨by rfl, rfl⟩) (by assumption) ?_
    (try simp only [Act.put, List.getElem_toArray, List.getElem_cons_succ, List.getElem_cons_zero, List.setIfInBounds_toArray, List.set_cons_zero, List.set_cons_succ])
    refine wpAnyH_take (i := 8) (v := undef) rfl (by kernel_rfl) (by kernel_rfl) (by kernel_rfl) (fun _ _ _ h => h) (Or.inr ⟨by rfl, rfl⟩) (by assumption) ?_
    (try simp only [Act.put, List.getElem_toArray, List.getElem_cons_succ, List.getElem_cons_zero, List.setIfInBounds_toArray, List.set_cons_zero, List.set_cons_succ])
    refine wpAnyH_take (i := 9) (v := undef) rfl (by kernel_rfl) (by kernel_rfl) (by kernel_rfl) (fun _ _ _ h => h) (Or.inr ⟨by rfl, rfl⟩) (by assumption) ?_
    (try simp only [Act.put, List.getElem_toArray, List.getElem_cons_succ, List.getElem_cons_zero, List.setIfInBounds_toArray, List.set_cons_zero, List.set_cons_succ])
    refine wpAnyH_take (i := 10) (v := undef) rfl (by kernel_rfl) (by kernel_rfl) (by kernel_rfl) (fun _ _ _ h => h) (Or.inr ⟨by rfl, rfl⟩) (by assumption) ?_
    (try simp only [Act.put, List.getElem_toArray, List.getElem_cons_succ, List.getElem_cons_zero, List.setIfInBounds_toArray, List.set_cons_zero, List.set_cons_succ])
    refine wpAnyH_take (i := 11) (v := .bool true) rfl (by kernel_rfl) (by kernel_rfl) (by kernel_rfl) (fun _ _ _ h => h) (Or.inl ⟨by rfl, ?_⟩) (by assumption) ?_
    · intro wx hs1; go_simp
    (try simp only [Act.put, List.getElem_toArray, List.getElem_cons_succ, List.getElem_cons_zero, List.setIfInBounds_toArray, List.set_cons_zero, List.set_cons_succ])
    refine wpAnyH_done (by kernel_rfl) ?_ _
    have HA := Lib.hid (HQ.out _ hb2)
    obtain ⟨⟨d0, d1, d2, d3, d4, d5⟩, ⟨f0, f1, f2, f3, f4, f5⟩⟩ := six (HQ.out _ hb2)
    go_wp2
    obtain ⟨⟨z0, z1, z2, z3, z4, z5⟩, _⟩ := six (set6 HA.out (.int .i64 0) (.int .i64 0) (.int .i64 0) (.int .i64 0) (.int .i64 0) (.string ⟨#[]⟩))
    clear d0 d1 d2 d3 d4 d5 f0 f1 f2 f3 f4 f5
    refine bodyPost_ret (v := .tuple #[.agg #[.int .i64 0, .int .i64 0, .int .i64 0, .int .i64 0, .int .i64 0, .string ⟨#[]⟩], .bool false]) (by simp only [results, Tryz.results12]; simp [go_sem, z0, z1, z2, z3, z4, z5]) rfl ⟨rfl, ?_⟩
    exact bset6 (HB1.out.trans (hb2.mono HB1.out.size)) (Nat.le_refl _) _ _ _ _ _ _
set_option maxRecDepth 100000 in
set_option maxHeartbeats 2000000 in
theorem Sm.accd_any (w : World) (p : Nat) (M : AcM) (h : AAt w p M) (ht : M.t.size ≤ 1000000) (hc : M.c ≠ 0) : Calls Tryz.prog 12 #[.pointer (some ⟨p, 0, none⟩)] w fun e w' => e = .returned (.tuple #[acVal (!noAcc M) M, .bool (!noAcc M)]) ∧ Below w.heap.size w w' := by
  have hb1 : Below w.heap.size w (w.alloc (.cells #[.int .i64 0, .int .i64 0, .int .i64 0, .int .i64 0, .int .i64 0, .string ⟨#[]⟩] 36)) := (Below.refl _ w).alloc (Nat.le_refl _) _
  have q1 := World.alloc_heap_new w (.cells #[.int .i64 0, .int .i64 0, .int .i64 0, .int .i64 0, .int .i64 0, .string ⟨#[]⟩] 36)
  obtain ⟨w1, hw1⟩ : ∃ v, w.alloc (.cells #[.int .i64 0, .int .i64 0, .int .i64 0, .int .i64 0, .int .i64 0, .string ⟨#[]⟩] 36) = v := ⟨_, rfl⟩
  have hh := h.keep hb1
  rw [hw1] at hb1 q1 hh
  have e1 : (M.c != 0) = true := by simpa using hc
  have H1 : Hid (∀ W, Below w1.heap.size w1 W → Calls Tryz.prog 33 #[.pointer (some ⟨p, 0, none⟩)] W fun e w' => e = .returned (.bool true) ∧ Below w1.heap.size w1 w') := Lib.hid fun W hb => (there_any W p M (hh.keep hb)).mono fun e w' ⟨h1, h2⟩ => ⟨by rw [h1, e1], hb.trans (h2.mono hb.size)⟩
  have H2 : Hid (∀ W, Below w1.heap.size w1 W → Calls Tryz.prog 23 #[] W fun e w' => e = .returned (.agg #[.int .i64 (-1), .int .i64 0, .int .i64 0, .int .i64 0, .int .i64 0, .string ⟨#[]⟩]) ∧ Below w1.heap.size w1 w') := Lib.hid fun W hb => (nothing_any W).mono fun e w' ⟨h1, h2⟩ => ⟨h1, hb.trans (h2.mono hb.size)⟩
  have h3 := fun W => fresh_any M.ar M.ap M.k M.m M.n M.t W ht
  have h4 := fun W => eql36 W M.ar (-1) M.ap 0 M.k 0 M.m 0 M.n 0 M.t ⟨#[]⟩
  have g4 : ∀ (w : World) (x y : Operand), (eqGuard .eql 36 x y (.agg #[.int .i64 M.ar, .int .i64 M.ap, .int .i64 M.k, .int .i64 M.m, .int .i64 M.n, .string M.t]) (.agg #[.int .i64 (-1), .int .i64 0, .int .i64 0, .int .i64 0, .int .i64 0, .string ⟨#[]⟩])).run Tryz.prog w = .ok () w := fun w x y => run_eqGuard_agg w .eql 36 x y _ _ (by kernel_rfl)
  have HQ : Hid (∀ W, Below w1.heap.size w1 W → W.heap[w.heap.size]? = some (.cells #[.int .i64 0, .int .i64 0, .int .i64 0, .int .i64 0, .int .i64 0, .string ⟨#[]⟩] 36 (0, 0))) := Lib.hid fun W hb => (hb.block _ (Array.getElem?_eq_some_iff.1 q1).1).trans q1
  have HS : Hid (∀ W, Below w1.heap.size w1 W → W.cell? ⟨p, 4, none⟩ = some (.int .i64 M.ar) ∧ W.cell? ⟨p, 5, none⟩ = some (.int .i64 M.ap) ∧ W.cell? ⟨p, 6, none⟩ = some (.int .i64 M.k) ∧ W.cell? ⟨p, 7, none⟩ = some (.int .i64 M.m) ∧ W.cell? ⟨p, 8, none⟩ = some (.int .i64 M.n) ∧ W.cell? ⟨p, 9, none⟩ = some (.string M.t)) := Lib.hid fun W hb => (hh.keep hb).cells.2.2.2.2
  have z0 := HS.out _ (Below.refl _ _)
  have HB1 := Lib.hid hb1
  have hl := h.lt
  clear hb1 q1 hh h hc e1
  unfold noAcc acVal
  obtain ⟨x, hx⟩ : ∃ x, decide (M.ar = -1 ∧ M.ap = 0 ∧ M.k = 0 ∧ M.m = 0 ∧ M.n = 0 ∧ M.t = ⟨#[]⟩) = x := ⟨_, rfl⟩
  rw [hx] at h4 ⊢
  clear hx
  cases x
  all_goals
    go_enter Tryz.func12, Tryz.ntmps12
    go_upto_region 1 with fail
    clear hw1
    go_region_held_law (fun W => W.cell? ⟨p, 4, none⟩ = some (.int .i64 M.ar) ∧ W.cell? ⟨p, 5, none⟩ = some (.int .i64 M.ap) ∧ W.cell? ⟨p, 6, none⟩ = some (.int .i64 M.k) ∧ W.cell? ⟨p, 7, none⟩ = some (.int .i64 M.m) ∧ W.cell? ⟨p, 8, none⟩ = some (.int .i64 M.n) ∧ W.cell? ⟨p, 9, none⟩ = some (.string M.t))
      (first | with_reducible exact z0 | (refine HS.out _ ?_; (first | with_reducible exact (Below.refl _ _).drew | with_reducible assumption)))
      (first
        | (go_at_call 33; (with_reducible refine (H1.out _ (by with_reducible exact (Below.refl _ _).drew)).mono ?_); rintro e w2 ⟨rfl, hb2⟩)
        | (go_at_call 23; (with_reducible refine (H2.out _ (by assumption)).mono ?_); rintro e w3 ⟨rfl, hb3⟩))
  · have hv := HS.out _ hb3
    obtain ⟨y0, y1, y2, y3, y4, y5⟩ := hv
    go_wp2_with (go_at_call 30; (with_reducible refine (h3 _).mono ?_); rintro e w4 ⟨rfl, hb4⟩; have hb4 := hb3.trans (hb4.mono hb3.size); have HA := Lib.hid (HQ.out _ hb4); obtain ⟨⟨d0, d1, d2, d3, d4, d5⟩, ⟨f0, f1, f2, f3, f4, f5⟩⟩ := six (HQ.out _ hb4))
    obtain ⟨⟨z0, z1, z2, z3, z4, z5⟩, _⟩ := six (set6 HA.out (.int .i64 M.ar) (.int .i64 M.ap) (.int .i64 M.k) (.int .i64 M.m) (.int .i64 M.n) (.string M.t))
    clear d0 d1 d2 d3 d4 d5 f0 f1 f2 f3 f4 f5
    refine bodyPost_ret (v := .tuple #[.agg #[.int .i64 M.ar, .int .i64 M.ap, .int .i64 M.k, .int .i64 M.m, .int .i64 M.n, .string M.t], .bool true]) (by simp only [results, Tryz.results12]; simp [go_sem, z0, z1, z2, z3, z4, z5]) rfl ⟨by simp, ?_⟩
    exact bset6 (HB1.out.trans (hb4.mono HB1.out.size)) (Nat.le_refl _) _ _ _ _ _ _
  · have HA := Lib.hid (HQ.out _ hb3)
    obtain ⟨⟨d0, d1, d2, d3, d4, d5⟩, ⟨f0, f1, f2, f3, f4, f5⟩⟩ := six (HQ.out _ hb3)
    go_wp2
    obtain ⟨⟨z0, z1, z2, z3, z4, z5⟩, _⟩ := six (set6 HA.out (.int .i64 0) (.int .i64 0) (.int .i64 0) (.int .i64 0) (.int .i64 0) (.string ⟨#[]⟩))
    clear d0 d1 d2 d3 d4 d5 f0 f1 f2 f3 f4 f5
    refine bodyPost_ret (v := .tuple #[.agg #[.int .i64 0, .int .i64 0, .int .i64 0, .int .i64 0, .int .i64 0, .string ⟨#[]⟩], .bool false]) (by simp only [results, Tryz.results12]; simp [go_sem, z0, z1, z2, z3, z4, z5]) rfl ⟨by simp, ?_⟩
    exact bset6 (HB1.out.trans (hb3.mono HB1.out.size)) (Nat.le_refl _) _ _ _ _ _ _
end Go.Proofs
