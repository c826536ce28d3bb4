/-
  acceptor: what is done where a call is promised, accepted; ask. Conditions: as each theorem names them.
-/
import Derived.Test.YtamlacofmihldaaDoorAcF
import Derived.Test.YtamlacofmihldaaDoorAcD
namespace Go.Proofs
open Go Go.RowKit Sm Go.Lib
attribute [local go_sem] Oper.semAt_some
theorem Sm.cellO {W : World} {q a : Addr} {u : Value} {x : Option Value} (h : W.cell? q = x) (hn : q.block ≠ a.block) : (W.setCell a u).cell? q = x := (World.cell?_of_block (Below.heap_setCell W a u q.block hn)).trans h
def Sm.promM (M : AcM) (r q : Int) : AcM := { M with pr := r, pp := q }
def Sm.accM (M : AcM) (r q k m n : Int) (t : ByteArray) : AcM := { M with ar := r, ap := q, k := k, m := m, n := n, t := t }
theorem Sm.AAt.acc {w : World} {p : Nat} {M : AcM} (h : AAt w p M) (r q k m n : Int) (t : ByteArray) : AAt ((((((w.setCell ⟨p, 4, none⟩ (.int .i64 r)).setCell ⟨p, 5, none⟩ (.int .i64 q)).setCell ⟨p, 6, none⟩ (.int .i64 k)).setCell ⟨p, 7, none⟩ (.int .i64 m)).setCell ⟨p, 8, none⟩ (.int .i64 n)).setCell ⟨p, 9, none⟩ (.string t)) p (accM M r q k m n t) :=
  heap_setCells (heap_setCells (heap_setCells (heap_setCells (heap_setCells (heap_setCells h)))))
theorem Sm.AAt.prom {w : World} {p : Nat} {M : AcM} (h : AAt w p M) (r q : Int) : AAt ((w.setCell ⟨p, 2, none⟩ (.int .i64 r)).setCell ⟨p, 3, none⟩ (.int .i64 q)) p (promM M r q) :=
  heap_setCells (heap_setCells h)
def Sm.Xp (p : Nat) : Nat → Prop := fun b => b = p
theorem Sm.but2 {w w1 : World} {p : Nat} (h : But (Xp p) w w1) (a b : Value) : But (Xp p) w ((w1.setCell ⟨p, 2, none⟩ a).setCell ⟨p, 3, none⟩ b) := (h.set _ _ (Or.inl (show _ = _ from rfl))).set _ _ (Or.inl (show _ = _ from rfl))
theorem Sm.but6 {w w1 : World} {p o : Nat} (h : But (Xp p) w w1) (a b c d e f : Value) : But (Xp p) w ((((((w1.setCell ⟨p, o, none⟩ a).setCell ⟨p, o + 1, none⟩ b).setCell ⟨p, o + 2, none⟩ c).setCell ⟨p, o + 3, none⟩ d).setCell ⟨p, o + 4, none⟩ e).setCell ⟨p, o + 5, none⟩ f) :=
  (((((h.set _ _ (Or.inl (show _ = _ from rfl))).set _ _ (Or.inl (show _ = _ from rfl))).set _ _ (Or.inl (show _ = _ from rfl))).set _ _ (Or.inl (show _ = _ from rfl))).set _ _ (Or.inl (show _ = _ from rfl))).set _ _ (Or.inl (show _ = _ from rfl))
set_option maxRecDepth 100000 in
set_option maxHeartbeats 600000 in
theorem Sm.do29 (w : World) (b2 b7 p : Nat) (M : AcM) (h2 : w.cell? ⟨b2, 0, none⟩ = some (.pointer (some ⟨p, 0, none⟩))) (hp : AAt w p M) (h7 : w.heap[b7]? = some (.cells #[.int .i64 0, .int .i64 0, .int .i64 0, .int .i64 0, .int .i64 0, .string ⟨#[]⟩] 39 (0, 0))) (ht : M.t.size ≤ 1000000) :
    Calls Tryd.prog 25 #[.pointer (some ⟨b2, 0, none⟩), .pointer (some ⟨b7, 0, none⟩)] w fun e w' => e = .returned (.tuple #[]) ∧ w'.heap[b7]? = some (.cells #[.int .i64 M.ar, .int .i64 M.ap, .int .i64 M.k, .int .i64 M.m, .int .i64 M.n, .string M.t] 39 (0, 0)) ∧ But (Xp b7) w w' := by
  have h1 := fun W => fresh_any M.ar M.ap M.k M.m M.n M.t W ht
  obtain ⟨_, _, _, _, c4, c5, c6, c7, c8, c9⟩ := hp.cells
  have hl := hp.lt
  have l7 := (Array.getElem?_eq_some_iff.1 h7).1
  have H7 := Lib.hid h7
  clear h7 hp
  go_enter Tryd.func25, Tryd.ntmps25
  go_wp2_with (go_at_call 23; (with_reducible refine (h1 _).mono ?_); rintro e w2 ⟨rfl, hb2⟩; have h72 := (hb2.block _ l7).trans H7.out; obtain ⟨⟨x0, x1, x2, x3, x4, x5⟩, ⟨f0, f1, f2, f3, f4, f5⟩⟩ := six h72; have H72 := Lib.hid h72; have HB2 := Lib.hid hb2; clear hb2 h72)
  go_end0
  exact ⟨rfl, set6 H72.out _ _ _ _ _ _, but6 (But.of_all HB2.out _) _ _ _ _ _ _⟩
set_option maxRecDepth 100000 in
set_option maxHeartbeats 600000 in
theorem Sm.do31 (w : World) (b4 b5 b3 p : Nat) (M : AcM) (r q k m n : Int) (t : ByteArray) (ht : t.size ≤ 1000000) (hp : AAt w p M) (n3 : b3 ≠ p) (n4 : b4 ≠ p) (n5 : b5 ≠ p)
    (h3 : w.cell? ⟨b3, 0, none⟩ = some (.pointer (some ⟨p, 0, none⟩))) (h4 : w.heap[b4]? = some (.cells #[.int .i64 r, .int .i64 q] 36 (0, 0))) (h5 : w.heap[b5]? = some (.cells #[.int .i64 k, .int .i64 m, .int .i64 n, .string t] 24 (0, 0))) :
    Calls Tryd.prog 26 #[.pointer (some ⟨b4, 0, none⟩), .pointer (some ⟨b5, 0, none⟩), .pointer (some ⟨b3, 0, none⟩)] w fun e w' => e = .returned (.tuple #[]) ∧ AAt w' p (accM M r q k m n t) ∧ But (Xp p) w w' := by
  have h1 := fun W => fresh_any r q k m n t W ht
  have l3 := World.block_lt_of_cell? w _ h3
  have l4 := (Array.getElem?_eq_some_iff.1 h4).1
  have l5 := (Array.getElem?_eq_some_iff.1 h5).1
  have HS : Hid (∀ W, Below w.heap.size w W → W.cell? ⟨b3, 0, none⟩ = some (.pointer (some ⟨p, 0, none⟩)) ∧ (W.cell? ⟨b4, 0, none⟩ = some (.int .i64 r) ∧ W.cell? ⟨b4, 1, none⟩ = some (.int .i64 q)) ∧ W.cell? ⟨b5, 0, none⟩ = some (.int .i64 k) ∧ W.cell? ⟨b5, 1, none⟩ = some (.int .i64 m) ∧ W.cell? ⟨b5, 2, none⟩ = some (.int .i64 n) ∧ W.cell? ⟨b5, 3, none⟩ = some (.string t)) := Lib.hid fun W hb =>
    ⟨(hb.cell (p := ⟨b3, 0, none⟩) l3).trans h3, (two ((hb.block _ l4).trans h4)).1, (four ((hb.block _ l5).trans h5)).1⟩
  have HO : Hid (∀ W, Below w.heap.size w W → (((((((W.setCell ⟨p, 4, none⟩ (.int .i64 r)).setCell ⟨p, 5, none⟩ (.int .i64 q)).setCell ⟨p, 6, none⟩ (.int .i64 k)).setCell ⟨p, 7, none⟩ (.int .i64 m)).setCell ⟨p, 8, none⟩ (.int .i64 n)).setCell ⟨p, 9, none⟩ (.string t)).cell? ⟨b3, 0, none⟩ = some (.pointer (some ⟨p, 0, none⟩)) ∧ (((((((W.setCell ⟨p, 4, none⟩ (.int .i64 r)).setCell ⟨p, 5, none⟩ (.int .i64 q)).setCell ⟨p, 6, none⟩ (.int .i64 k)).setCell ⟨p, 7, none⟩ (.int .i64 m)).setCell ⟨p, 8, none⟩ (.int .i64 n)).setCell ⟨p, 9, none⟩ (.string t)).cell? ⟨b4, 0, none⟩ = some (.int .i64 r) ∧ ((((((W.setCell ⟨p, 4, none⟩ (.int .i64 r)).setCell ⟨p, 5, none⟩ (.int .i64 q)).setCell ⟨p, 6, none⟩ (.int .i64 k)).setCell ⟨p, 7, none⟩ (.int .i64 m)).setCell ⟨p, 8, none⟩ (.int .i64 n)).setCell ⟨p, 9, none⟩ (.string t)).cell? ⟨b4, 1, none⟩ = some (.int .i64 q)) ∧ ((((((W.setCell ⟨p, 4, none⟩ (.int .i64 r)).setCell ⟨p, 5, none⟩ (.int .i64 q)).setCell ⟨p, 6, none⟩ (.int .i64 k)).setCell ⟨p, 7, none⟩ (.int .i64 m)).setCell ⟨p, 8, none⟩ (.int .i64 n)).setCell ⟨p, 9, none⟩ (.string t)).cell? ⟨b5, 0, none⟩ = some (.int .i64 k) ∧ ((((((W.setCell ⟨p, 4, none⟩ (.int .i64 r)).setCell ⟨p, 5, none⟩ (.int .i64 q)).setCell ⟨p, 6, none⟩ (.int .i64 k)).setCell ⟨p, 7, none⟩ (.int .i64 m)).setCell ⟨p, 8, none⟩ (.int .i64 n)).setCell ⟨p, 9, none⟩ (.string t)).cell? ⟨b5, 1, none⟩ = some (.int .i64 m) ∧ ((((((W.setCell ⟨p, 4, none⟩ (.int .i64 r)).setCell ⟨p, 5, none⟩ (.int .i64 q)).setCell ⟨p, 6, none⟩ (.int .i64 k)).setCell ⟨p, 7, none⟩ (.int .i64 m)).setCell ⟨p, 8, none⟩ (.int .i64 n)).setCell ⟨p, 9, none⟩ (.string t)).cell? ⟨b5, 2, none⟩ = some (.int .i64 n) ∧ ((((((W.setCell ⟨p, 4, none⟩ (.int .i64 r)).setCell ⟨p, 5, none⟩ (.int .i64 q)).setCell ⟨p, 6, none⟩ (.int .i64 k)).setCell ⟨p, 7, none⟩ (.int .i64 m)).setCell ⟨p, 8, none⟩ (.int .i64 n)).setCell ⟨p, 9, none⟩ (.string t)).cell? ⟨b5, 3, none⟩ = some (.string t))) := Lib.hid (fun W hb => by
    have hs := HS.out W hb
    have k3 : ∀ (q' : Addr) x, q'.block ≠ p → W.cell? q' = some x → ((((((W.setCell ⟨p, 4, none⟩ (.int .i64 r)).setCell ⟨p, 5, none⟩ (.int .i64 q)).setCell ⟨p, 6, none⟩ (.int .i64 k)).setCell ⟨p, 7, none⟩ (.int .i64 m)).setCell ⟨p, 8, none⟩ (.int .i64 n)).setCell ⟨p, 9, none⟩ (.string t)).cell? q' = some x := fun q' x hn h => cellO (cellO (cellO (cellO (cellO (cellO h hn) hn) hn) hn) hn) hn
    exact ⟨k3 _ _ n3 hs.1, ⟨k3 _ _ n4 hs.2.1.1, k3 _ _ n4 hs.2.1.2⟩, k3 _ _ n5 hs.2.2.1, k3 _ _ n5 hs.2.2.2.1, k3 _ _ n5 hs.2.2.2.2.1, k3 _ _ n5 hs.2.2.2.2.2⟩)
  have z0 := HS.out _ (Below.refl _ w)
  have HP := Lib.hid hp
  have hl := hp.lt
  clear h3 h4 h5 hp
  go_enter Tryd.func26, Tryd.ntmps26
  go_region_held_law (fun W => W.cell? ⟨b3, 0, none⟩ = some (.pointer (some ⟨p, 0, none⟩)) ∧ (W.cell? ⟨b4, 0, none⟩ = some (.int .i64 r) ∧ W.cell? ⟨b4, 1, none⟩ = some (.int .i64 q)) ∧ W.cell? ⟨b5, 0, none⟩ = some (.int .i64 k) ∧ W.cell? ⟨b5, 1, none⟩ = some (.int .i64 m) ∧ W.cell? ⟨b5, 2, none⟩ = some (.int .i64 n) ∧ W.cell? ⟨b5, 3, none⟩ = some (.string t))
    (first | with_reducible exact z0 | with_reducible exact hset | (refine HS.out _ ?_; (first | with_reducible assumption | with_reducible exact (Below.refl _ _).drew | with_reducible exact Below.refl _ _)))
    ((go_at_call 23; (with_reducible refine (h1 _).mono ?_); rintro e w2 ⟨rfl, hb2⟩; have hb2 : Below w.heap.size w w2 := (Below.refl _ w).drew.trans hb2; have hset := HO.out _ hb2; have HP2 := Lib.hid (HP.out.keep hb2); have hs2 := hb2.size; obtain ⟨c0, c1, c2, c3, c4, c5, c6, c7, c8, c9⟩ := HP2.out.cells; have f4 := HP2.out.free 4; have f5 := HP2.out.free 5; have f6 := HP2.out.free 6; have f7 := HP2.out.free 7; have f8 := HP2.out.free 8; have f9 := HP2.out.free 9))
  all_goals
    go_end0
    exact ⟨rfl, HP2.out.acc _ _ _ _ _ _, but6 (But.of_all hb2 _) _ _ _ _ _ _⟩
end Go.Proofs
