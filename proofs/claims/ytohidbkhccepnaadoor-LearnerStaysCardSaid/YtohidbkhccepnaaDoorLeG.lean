/-
  learner: Hear's closure. Conditions: as each theorem names them.
-/
import Derived.Test.YtohidbkhccepnaaDoorLeF
namespace Go.Proofs
open Go Go.RowKit Sm Go.Lib Go.Maps Go.WideMaps
attribute [local go_sem] Oper.semAt_some
/-- a place more is among them -/
def Sm.setF (f : Nat → Bool) (p : Nat) : Nat → Bool := fun i => if i = p then true else f i
theorem Sm.thirteen {w : World} {b : Nat} {e0 : EntM} {f : Nat → Bool} (h : w.heap[b]? = some (.cells #[.int .i64 e0.k, .int .i64 e0.m, .int .i64 e0.n, .string e0.t, .bool (f 0), .bool (f 1), .bool (f 2), .bool (f 3), .bool (f 4), .bool (f 5), .bool (f 6), .bool (f 7), .bool (f 8)] 58 (0, 0))) :
    (w.cell? ⟨b, 0, none⟩ = some (.int .i64 e0.k) ∧ w.cell? ⟨b, 1, none⟩ = some (.int .i64 e0.m) ∧ w.cell? ⟨b, 2, none⟩ = some (.int .i64 e0.n) ∧ w.cell? ⟨b, 3, none⟩ = some (.string e0.t))
    ∧ w.cell? ⟨b, 4, none⟩ = some (.bool (f 0)) ∧ w.cell? ⟨b, 5, none⟩ = some (.bool (f 1)) ∧ w.cell? ⟨b, 6, none⟩ = some (.bool (f 2)) ∧ w.cell? ⟨b, 7, none⟩ = some (.bool (f 3)) ∧ w.cell? ⟨b, 8, none⟩ = some (.bool (f 4)) ∧ w.cell? ⟨b, 9, none⟩ = some (.bool (f 5)) ∧ w.cell? ⟨b, 10, none⟩ = some (.bool (f 6)) ∧ w.cell? ⟨b, 11, none⟩ = some (.bool (f 7)) ∧ w.cell? ⟨b, 12, none⟩ = some (.bool (f 8)) :=
  ⟨⟨cell_of_heap h 0, cell_of_heap h 1, cell_of_heap h 2, cell_of_heap h 3⟩, cell_of_heap h 4, cell_of_heap h 5, cell_of_heap h 6, cell_of_heap h 7, cell_of_heap h 8, cell_of_heap h 9, cell_of_heap h 10, cell_of_heap h 11, cell_of_heap h 12⟩
theorem Sm.set58 {W : World} {b : Nat} {e0 : EntM} {f : Nat → Bool} (h : W.heap[b]? = some (.cells #[.int .i64 e0.k, .int .i64 e0.m, .int .i64 e0.n, .string e0.t, .bool (f 0), .bool (f 1), .bool (f 2), .bool (f 3), .bool (f 4), .bool (f 5), .bool (f 6), .bool (f 7), .bool (f 8)] 58 (0, 0))) (p : Nat) (hp : p < 9) : W.cell? ⟨b, 4 + p, none⟩ = some (.bool (f p)) ∧ W.frozen? ⟨b, 4 + p, none⟩ = false ∧ (W.setCell ⟨b, 4 + p, none⟩ (.bool true)).heap[b]? = some (.cells #[.int .i64 e0.k, .int .i64 e0.m, .int .i64 e0.n, .string e0.t, .bool ((setF f p) 0), .bool ((setF f p) 1), .bool ((setF f p) 2), .bool ((setF f p) 3), .bool ((setF f p) 4), .bool ((setF f p) 5), .bool ((setF f p) 6), .bool ((setF f p) 7), .bool ((setF f p) 8)] 58 (0, 0)) := by
  refine ⟨?_, frozen_of_heap h _, ?_⟩
  · rw [cell_of_heap h]
    obtain rfl | rfl | rfl | rfl | rfl | rfl | rfl | rfl | rfl : p = 0 ∨ p = 1 ∨ p = 2 ∨ p = 3 ∨ p = 4 ∨ p = 5 ∨ p = 6 ∨ p = 7 ∨ p = 8 := by omega
    all_goals rfl
  · rw [heap_setCells h]
    obtain rfl | rfl | rfl | rfl | rfl | rfl | rfl | rfl | rfl : p = 0 ∨ p = 1 ∨ p = 2 ∨ p = 3 ∨ p = 4 ∨ p = 5 ∨ p = 6 ∨ p = 7 ∨ p = 8 := by omega
    all_goals simp [setF]
theorem Sm.turned_but {w w' : World} {b : Nat} (h : w.mapTurned w' b) : But (fun x => x = b) w w' := by
  have := But.grown h.grown
  exact this.mono (fun x _ e => by injection e with e; exact e.symm)
theorem Sm.LAt.heard {W : World} {p Mb : Nat} {s : LSt} {g : HrdM} {n : Nat} (h : LAt W p Mb s g n) (hn : n < 1000000) {r q : Int} (hr : I64 r) (hq : I64 q) (e0 : EntM) (f : Nat → Bool) (he : e0.ok) :
    ∃ W', (Instr.mapUpdate 48 (.map (some Mb)) (.agg #[.int .i64 r, .int .i64 q]) (.agg #[.int .i64 e0.k, .int .i64 e0.m, .int .i64 e0.n, .string e0.t, .bool (f 0), .bool (f 1), .bool (f 2), .bool (f 3), .bool (f 4), .bool (f 5), .bool (f 6), .bool (f 7), .bool (f 8)])).run Tryd.prog W = .ok () W' ∧ LAt W' p Mb s (putG g r q (e0, f)) (n + 1) ∧ But (fun x => x = Mb) W W' := by
  obtain ⟨M, K, q1, q2, q3⟩ := h.map
  obtain ⟨W', hrun, o1, t1⟩ := q1.store lawB Tryd.underlying48 (show K.length < maxLen by unfold maxLen; omega) (key := balV r q) (val := hrdV e0 f) (bal_key hr hq) (d := .held (hrdV e0 f)) (ps := []) rfl
  have hb := turned_but t1
  obtain ⟨K', k1, k2⟩ := q2.put hr hq e0 f he
  refine ⟨W', hrun, ⟨hb.box h.blk h.ne, ⟨_, K', ?_, k1, by omega⟩, h.ne, h.ch, h.ok⟩, hb⟩
  have := map_tight o1
  rwa [k1.len] at this
theorem Sm.LAt.ent {W : World} {p Mb : Nat} {s : LSt} {g : HrdM} {n : Nat} (h : LAt W p Mb s g n) {r q : Int} {e0 : EntM} {f : Nat → Bool} (hg : g r q = some (e0, f)) : e0.ok := by
  obtain ⟨M, K, _, q2, _⟩ := h.map
  exact (q2.here r q e0 f hg).2.2
/-- the boxes of Hear's closure -/
structure Sm.HrAt (w : World) (p b0 b1 b2 b3 : Nat) (r q : Int) (e0 : EntM) (pl : Nat) : Prop where
  h0 : w.cell? ⟨b0, 0, none⟩ = some (.pointer (some ⟨p, 0, none⟩))
  h1 : w.heap[b1]? = some (.cells #[.int .i64 r, .int .i64 q] 37 (0, 0))
  h2 : w.heap[b2]? = some (.cells #[.int .i64 e0.k, .int .i64 e0.m, .int .i64 e0.n, .string e0.t] 33 (0, 0))
  h3 : w.cell? ⟨b3, 0, none⟩ = some (.int .i64 (pl : Int))
  n0 : b0 ≠ p
  n1 : b1 ≠ p
  n2 : b2 ≠ p
  n3 : b3 ≠ p
theorem Sm.HrAt.but {w w' : World} {p b0 b1 b2 b3 : Nat} {r q : Int} {e0 : EntM} {pl : Nat} (h : HrAt w p b0 b1 b2 b3 r q e0 pl) (hb : But (fun x => x = p) w w') : HrAt w' p b0 b1 b2 b3 r q e0 pl :=
  ⟨(hb.cell (p := ⟨b0, 0, none⟩) (World.block_lt_of_cell? w _ h.h0) h.n0).trans h.h0, hb.box h.h1 h.n1, hb.box h.h2 h.n2, (hb.cell (p := ⟨b3, 0, none⟩) (World.block_lt_of_cell? w _ h.h3) h.n3).trans h.h3, h.n0, h.n1, h.n2, h.n3⟩
theorem Sm.HrAt.keep {w w' : World} {p b0 b1 b2 b3 : Nat} {r q : Int} {e0 : EntM} {pl : Nat} (h : HrAt w p b0 b1 b2 b3 r q e0 pl) (hb : Below w.heap.size w w') : HrAt w' p b0 b1 b2 b3 r q e0 pl := h.but (But.of_all hb _)
set_option maxRecDepth 100000 in
set_option maxHeartbeats 2000000 in
theorem Sm.hear1_tA {w : World} {p Mb b0 b1 b2 b3 : Nat} {s : LSt} {g : HrdM} {n : Nat} {r q : Int} {e0 e1 : EntM} {f : Nat → Bool} {pl : Nat} (hp : LAt w p Mb s g n) (_hn : n < 1000000) (hh : HrAt w p b0 b1 b2 b3 r q e0 pl) (hpl : pl < 9) (hr : I64 r) (hq : I64 q) (_he : e0.ok) (hg : g r q = some (e1, f)) (hne : sameE e1 e0 = false) :
    Calls Tryd.prog 16 #[.pointer (some ⟨b0, 0, none⟩), .pointer (some ⟨b1, 0, none⟩), .pointer (some ⟨b2, 0, none⟩), .pointer (some ⟨b3, 0, none⟩)] w fun e w' => e = .returned (.int .i64 260) ∧ Below w.heap.size w w' := by
  have HF : Hid (∀ W, Below w.heap.size w W → W.cell? ⟨b0, 0, none⟩ = some (.pointer (some ⟨p, 0, none⟩)) ∧ W.cell? ⟨p, 7, none⟩ = some (.map (some Mb)) ∧ (W.cell? ⟨b1, 0, none⟩ = some (.int .i64 r) ∧ W.cell? ⟨b1, 1, none⟩ = some (.int .i64 q)) ∧ (Instr.lookup 48 (.map (some Mb)) (.agg #[.int .i64 r, .int .i64 q]) true).run Tryd.prog W = .ok (.tuple #[.agg #[.int .i64 e1.k, .int .i64 e1.m, .int .i64 e1.n, .string e1.t, .bool (f 0), .bool (f 1), .bool (f 2), .bool (f 3), .bool (f 4), .bool (f 5), .bool (f 6), .bool (f 7), .bool (f 8)], .bool true]) W) := Lib.hid fun W hb => by
    obtain ⟨M, K, q1, q2, q3⟩ := (hp.keep hb).map
    have k := hh.keep hb
    exact ⟨k.h0, (eight (hp.keep hb).blk).1.2.2.2.2.2.2.2, (two k.h1).1, look_yes q1 q2 hg hr hq⟩
  have z0 := HF.out _ (Below.refl _ w)
  have HP := Lib.hid hp
  have HH := Lib.hid hh
  have hE : e1.ok := hp.ent hg
  have hplI : (pl : Int) < 9 := by omega
  have hch := hp.ch.1
  clear hp hh hg
  have hqe := neqE e1 e0
  rw [hne] at hqe
  simp only [Bool.not_false] at hqe
  clear hne
  go_enter Tryd.func16, Tryd.ntmps16
  go_wp2
  refine wp_scope_fwd 0 rfl ?_
  go_upto_region 1 with fail
  go_region_held_law (fun W => W.cell? ⟨b0, 0, none⟩ = some (.pointer (some ⟨p, 0, none⟩)) ∧ W.cell? ⟨p, 7, none⟩ = some (.map (some Mb)) ∧ (W.cell? ⟨b1, 0, none⟩ = some (.int .i64 r) ∧ W.cell? ⟨b1, 1, none⟩ = some (.int .i64 q)) ∧ (Instr.lookup 48 (.map (some Mb)) (.agg #[.int .i64 r, .int .i64 q]) true).run Tryd.prog W = .ok (.tuple #[.agg #[.int .i64 e1.k, .int .i64 e1.m, .int .i64 e1.n, .string e1.t, .bool (f 0), .bool (f 1), .bool (f 2), .bool (f 3), .bool (f 4), .bool (f 5), .bool (f 6), .bool (f 7), .bool (f 8)], .bool true]) W)
    (first | with_reducible exact z0 | (refine HF.out _ ?_; repeat' (first | with_reducible assumption | with_reducible exact Below.refl _ _ | refine Below.drew ?_ | refine Below.alloc ?_ ?_ _ | refine Below.setCell ?_ ?_ _ | (simp; done) | (simp; omega))))
    (fail)
  all_goals
    obtain ⟨W1, hW1⟩ : ∃ v, (w.alloc (.cells #[.int .i64 e1.k, .int .i64 e1.m, .int .i64 e1.n, .string e1.t, .bool (f 0), .bool (f 1), .bool (f 2), .bool (f 3), .bool (f 4), .bool (f 5), .bool (f 6), .bool (f 7), .bool (f 8)] 58)).drew = v := ⟨_, rfl⟩
    rw [hW1]
    have hb1 : Below w.heap.size w W1 := by rw [← hW1]; exact ((Below.refl _ w).alloc (Nat.le_refl _) _).drew
    have hN : W1.heap[w.heap.size]? = some (.cells #[.int .i64 e1.k, .int .i64 e1.m, .int .i64 e1.n, .string e1.t, .bool (f 0), .bool (f 1), .bool (f 2), .bool (f 3), .bool (f 4), .bool (f 5), .bool (f 6), .bool (f 7), .bool (f 8)] 58 (0, 0)) := by rw [← hW1]; exact World.alloc_heap_new w _
    clear hW1 HF z0
    have hh1 := HH.out.keep hb1
    obtain ⟨⟨c0, c1, c2, c3⟩, -⟩ := thirteen (f := f) hN
    obtain ⟨⟨d0, d1, d2, d3⟩, -⟩ := four hh1.h2
    have x3 := hh1.h3
    have HB := Lib.hid hb1
    clear hb1 hN hh1
    go_wp2
    go_step3
    refine ⟨rfl, ?_⟩
    go_wp2
    try rw [Exit.noGoto_ret]
    go_ret
    exact ⟨rfl, HB.out⟩
set_option maxRecDepth 100000 in
set_option maxHeartbeats 2000000 in
theorem Sm.hear1_tB {w : World} {p Mb b0 b1 b2 b3 : Nat} {s : LSt} {g : HrdM} {n : Nat} {r q : Int} {e0 e1 : EntM} {f : Nat → Bool} {pl : Nat} (hp : LAt w p Mb s g n) (_hn : n < 1000000) (hh : HrAt w p b0 b1 b2 b3 r q e0 pl) (hpl : pl < 9) (hr : I64 r) (hq : I64 q) (_he : e0.ok) (hg : g r q = some (e1, f)) (hsame : sameE e1 e0 = true) (hw : wonB s.c (setF (f) pl) = true) (hf : fits s e0 = false) :
    Calls Tryd.prog 16 #[.pointer (some ⟨b0, 0, none⟩), .pointer (some ⟨b1, 0, none⟩), .pointer (some ⟨b2, 0, none⟩), .pointer (some ⟨b3, 0, none⟩)] w fun e w' => e = .returned (.int .i64 260) ∧ Below w.heap.size w w' := by
  have HF : Hid (∀ W, Below w.heap.size w W → W.cell? ⟨b0, 0, none⟩ = some (.pointer (some ⟨p, 0, none⟩)) ∧ W.cell? ⟨p, 7, none⟩ = some (.map (some Mb)) ∧ (W.cell? ⟨b1, 0, none⟩ = some (.int .i64 r) ∧ W.cell? ⟨b1, 1, none⟩ = some (.int .i64 q)) ∧ (Instr.lookup 48 (.map (some Mb)) (.agg #[.int .i64 r, .int .i64 q]) true).run Tryd.prog W = .ok (.tuple #[.agg #[.int .i64 e1.k, .int .i64 e1.m, .int .i64 e1.n, .string e1.t, .bool (f 0), .bool (f 1), .bool (f 2), .bool (f 3), .bool (f 4), .bool (f 5), .bool (f 6), .bool (f 7), .bool (f 8)], .bool true]) W) := Lib.hid fun W hb => by
    obtain ⟨M, K, q1, q2, q3⟩ := (hp.keep hb).map
    have k := hh.keep hb
    exact ⟨k.h0, (eight (hp.keep hb).blk).1.2.2.2.2.2.2.2, (two k.h1).1, look_yes q1 q2 hg hr hq⟩
  have z0 := HF.out _ (Below.refl _ w)
  have HP := Lib.hid hp
  have HH := Lib.hid hh
  have hE : e1.ok := hp.ent hg
  have hplI : (pl : Int) < 9 := by omega
  have hch := hp.ch.1
  clear hp hh hg
  have hqe := neqE e1 e0
  rw [hsame] at hqe
  simp only [Bool.not_true] at hqe
  clear hsame
  go_enter Tryd.func16, Tryd.ntmps16
  go_wp2
  refine wp_scope_fwd 0 rfl ?_
  go_upto_region 1 with fail
  go_region_held_law (fun W => W.cell? ⟨b0, 0, none⟩ = some (.pointer (some ⟨p, 0, none⟩)) ∧ W.cell? ⟨p, 7, none⟩ = some (.map (some Mb)) ∧ (W.cell? ⟨b1, 0, none⟩ = some (.int .i64 r) ∧ W.cell? ⟨b1, 1, none⟩ = some (.int .i64 q)) ∧ (Instr.lookup 48 (.map (some Mb)) (.agg #[.int .i64 r, .int .i64 q]) true).run Tryd.prog W = .ok (.tuple #[.agg #[.int .i64 e1.k, .int .i64 e1.m, .int .i64 e1.n, .string e1.t, .bool (f 0), .bool (f 1), .bool (f 2), .bool (f 3), .bool (f 4), .bool (f 5), .bool (f 6), .bool (f 7), .bool (f 8)], .bool true]) W)
    (first | with_reducible exact z0 | (refine HF.out _ ?_; repeat' (first | with_reducible assumption | with_reducible exact Below.refl _ _ | refine Below.drew ?_ | refine Below.alloc ?_ ?_ _ | refine Below.setCell ?_ ?_ _ | (simp; done) | (simp; omega))))
    (fail)
  all_goals
    obtain ⟨W1, hW1⟩ : ∃ v, (w.alloc (.cells #[.int .i64 e1.k, .int .i64 e1.m, .int .i64 e1.n, .string e1.t, .bool (f 0), .bool (f 1), .bool (f 2), .bool (f 3), .bool (f 4), .bool (f 5), .bool (f 6), .bool (f 7), .bool (f 8)] 58)).drew = v := ⟨_, rfl⟩
    rw [hW1]
    have hb1 : Below w.heap.size w W1 := by rw [← hW1]; exact ((Below.refl _ w).alloc (Nat.le_refl _) _).drew
    have hN : W1.heap[w.heap.size]? = some (.cells #[.int .i64 e1.k, .int .i64 e1.m, .int .i64 e1.n, .string e1.t, .bool (f 0), .bool (f 1), .bool (f 2), .bool (f 3), .bool (f 4), .bool (f 5), .bool (f 6), .bool (f 7), .bool (f 8)] 58 (0, 0)) := by rw [← hW1]; exact World.alloc_heap_new w _
    clear hW1 HF z0
    have hh1 := HH.out.keep hb1
    obtain ⟨⟨c0, c1, c2, c3⟩, -⟩ := thirteen (f := f) hN
    obtain ⟨⟨d0, d1, d2, d3⟩, -⟩ := four hh1.h2
    have x3 := hh1.h3
    obtain ⟨y0, y1, y2⟩ := set58 (f := f) hN pl hpl
    have HN := Lib.hid y2
    have hb4 : Below w.heap.size w (W1.setCell ⟨w.heap.size, 4 + pl, none⟩ (.bool true)) := hb1.setCell (Nat.le_refl _) _
    have HB4 := Lib.hid hb4
    clear hb1 hb4 hN hh1 y2
    go_upto_region 6 with fail
    clear c0 c1 c2 c3 d0 d1 d2 d3 x3 y0 y1
    generalize W1.setCell ⟨w.heap.size, 4 + pl, none⟩ (.bool true) = W4 at HN HB4 ⊢
    have x0 := (HH.out.keep HB4.out).h0
    obtain ⟨-, k0, k1, k2, k3, k4, k5, k6, k7, k8⟩ := thirteen (f := setF (f) pl) HN.out
    have h17 := won_any (setF (f) pl) (HP.out.keep HB4.out)
    rw [hw] at h17
    unfold fits at hf
    simp only [Bool.or_eq_false_iff, Bool.not_eq_false'] at hf
    have H18 : Hid (∀ W, Below W4.heap.size W4 W → Calls Tryd.prog 18 #[.pointer (some ⟨p, 0, none⟩), .agg #[.int .i64 e0.k, .int .i64 e0.m, .int .i64 e0.n, .string e0.t]] W fun e w' => e = .returned (.int .i64 260) ∧ Below w.heap.size w w') := Lib.hid fun W hb => (know_no e0 ((HP.out.keep HB4.out).keep hb) hf.1 hf.2).mono fun e w' ⟨h1, h2⟩ => ⟨h1, HB4.out.trans ((hb.trans (h2.mono hb.size)).mono HB4.out.size)⟩
    have HX : Hid (∀ W, Below W4.heap.size W4 W → HrAt W p b0 b1 b2 b3 r q e0 pl) := Lib.hid fun W hb => (HH.out.keep HB4.out).keep hb
    go_wp2_with (first | (go_at_call 17; (with_reducible refine h17.mono ?_); clear h17 k0 k1 k2 k3 k4 k5 k6 k7 k8; rintro e W5 ⟨rfl, hb5⟩; have hx5 := HX.out _ hb5; have x0' := hx5.h0; obtain ⟨⟨d0, d1, d2, d3⟩, -⟩ := four hx5.h2; clear hx5 x0) | (go_at_call 18; (with_reducible refine (H18.out _ hb5).mono ?_); rintro e W6 ⟨rfl, hb6⟩))
    go_step3
    refine ⟨rfl, ?_⟩
    go_wp2
    try rw [Exit.noGoto_ret]
    go_ret
    exact ⟨rfl, hb6⟩
set_option maxRecDepth 100000 in
set_option maxHeartbeats 2000000 in
theorem Sm.hear1_tC {w : World} {p Mb b0 b1 b2 b3 : Nat} {s : LSt} {g : HrdM} {n : Nat} {r q : Int} {e0 e1 : EntM} {f : Nat → Bool} {pl : Nat} (hp : LAt w p Mb s g n) (hn : n < 1000000) (hh : HrAt w p b0 b1 b2 b3 r q e0 pl) (hM0 : b0 ≠ Mb) (hM1 : b1 ≠ Mb) (hpl : pl < 9) (hr : I64 r) (hq : I64 q) (he : e0.ok) (hg : g r q = some (e1, f)) (hsame : sameE e1 e0 = true) (hw : wonB s.c (setF (f) pl) = true) (hf : fits s e0 = true) :
    Calls Tryd.prog 16 #[.pointer (some ⟨b0, 0, none⟩), .pointer (some ⟨b1, 0, none⟩), .pointer (some ⟨b2, 0, none⟩), .pointer (some ⟨b3, 0, none⟩)] w fun e w' => e = .returned (.int .i64 0) ∧ LAt w' p Mb (s.knows e0) (putG g r q (e1, setF (f) pl)) (n + 1) ∧ But (SL p Mb) w w' := by
  have HF : Hid (∀ W, Below w.heap.size w W → W.cell? ⟨b0, 0, none⟩ = some (.pointer (some ⟨p, 0, none⟩)) ∧ W.cell? ⟨p, 7, none⟩ = some (.map (some Mb)) ∧ (W.cell? ⟨b1, 0, none⟩ = some (.int .i64 r) ∧ W.cell? ⟨b1, 1, none⟩ = some (.int .i64 q)) ∧ (Instr.lookup 48 (.map (some Mb)) (.agg #[.int .i64 r, .int .i64 q]) true).run Tryd.prog W = .ok (.tuple #[.agg #[.int .i64 e1.k, .int .i64 e1.m, .int .i64 e1.n, .string e1.t, .bool (f 0), .bool (f 1), .bool (f 2), .bool (f 3), .bool (f 4), .bool (f 5), .bool (f 6), .bool (f 7), .bool (f 8)], .bool true]) W) := Lib.hid fun W hb => by
    obtain ⟨M, K, q1, q2, q3⟩ := (hp.keep hb).map
    have k := hh.keep hb
    exact ⟨k.h0, (eight (hp.keep hb).blk).1.2.2.2.2.2.2.2, (two k.h1).1, look_yes q1 q2 hg hr hq⟩
  have z0 := HF.out _ (Below.refl _ w)
  have HP := Lib.hid hp
  have HH := Lib.hid hh
  have hE : e1.ok := hp.ent hg
  have hplI : (pl : Int) < 9 := by omega
  have hch := hp.ch.1
  clear hp hh hg
  have hqe := neqE e1 e0
  rw [hsame] at hqe
  simp only [Bool.not_true] at hqe
  clear hsame
  go_enter Tryd.func16, Tryd.ntmps16
  go_wp2
  refine wp_scope_straight ?_
  go_upto_region 1 with fail
  go_region_held_law (fun W => W.cell? ⟨b0, 0, none⟩ = some (.pointer (some ⟨p, 0, none⟩)) ∧ W.cell? ⟨p, 7, none⟩ = some (.map (some Mb)) ∧ (W.cell? ⟨b1, 0, none⟩ = some (.int .i64 r) ∧ W.cell? ⟨b1, 1, none⟩ = some (.int .i64 q)) ∧ (Instr.lookup 48 (.map (some Mb)) (.agg #[.int .i64 r, .int .i64 q]) true).run Tryd.prog W = .ok (.tuple #[.agg #[.int .i64 e1.k, .int .i64 e1.m, .int .i64 e1.n, .string e1.t, .bool (f 0), .bool (f 1), .bool (f 2), .bool (f 3), .bool (f 4), .bool (f 5), .bool (f 6), .bool (f 7), .bool (f 8)], .bool true]) W)
    (first | with_reducible exact z0 | (refine HF.out _ ?_; repeat' (first | with_reducible assumption | with_reducible exact Below.refl _ _ | refine Below.drew ?_ | refine Below.alloc ?_ ?_ _ | refine Below.setCell ?_ ?_ _ | (simp; done) | (simp; omega))))
    (fail)
  all_goals
    obtain ⟨W1, hW1⟩ : ∃ v, (w.alloc (.cells #[.int .i64 e1.k, .int .i64 e1.m, .int .i64 e1.n, .string e1.t, .bool (f 0), .bool (f 1), .bool (f 2), .bool (f 3), .bool (f 4), .bool (f 5), .bool (f 6), .bool (f 7), .bool (f 8)] 58)).drew = v := ⟨_, rfl⟩
    rw [hW1]
    have hb1 : Below w.heap.size w W1 := by rw [← hW1]; exact ((Below.refl _ w).alloc (Nat.le_refl _) _).drew
    have hN : W1.heap[w.heap.size]? = some (.cells #[.int .i64 e1.k, .int .i64 e1.m, .int .i64 e1.n, .string e1.t, .bool (f 0), .bool (f 1), .bool (f 2), .bool (f 3), .bool (f 4), .bool (f 5), .bool (f 6), .bool (f 7), .bool (f 8)] 58 (0, 0)) := by rw [← hW1]; exact World.alloc_heap_new w _
    clear hW1 HF z0
    have hh1 := HH.out.keep hb1
    obtain ⟨⟨c0, c1, c2, c3⟩, -⟩ := thirteen (f := f) hN
    obtain ⟨⟨d0, d1, d2, d3⟩, -⟩ := four hh1.h2
    have x3 := hh1.h3
    obtain ⟨y0, y1, y2⟩ := set58 (f := f) hN pl hpl
    have HN := Lib.hid y2
    have hb4 : Below w.heap.size w (W1.setCell ⟨w.heap.size, 4 + pl, none⟩ (.bool true)) := hb1.setCell (Nat.le_refl _) _
    have HB4 := Lib.hid hb4
    clear hb1 hb4 hN hh1 y2
    go_upto_region 6 with fail
    clear c0 c1 c2 c3 d0 d1 d2 d3 x3 y0 y1
    generalize W1.setCell ⟨w.heap.size, 4 + pl, none⟩ (.bool true) = W4 at HN HB4 ⊢
    have x0 := (HH.out.keep HB4.out).h0
    obtain ⟨-, k0, k1, k2, k3, k4, k5, k6, k7, k8⟩ := thirteen (f := setF (f) pl) HN.out
    have h17 := won_any (setF (f) pl) (HP.out.keep HB4.out)
    rw [hw] at h17
    have H18 : Hid (∀ W, Below W4.heap.size W4 W → Calls Tryd.prog 18 #[.pointer (some ⟨p, 0, none⟩), .agg #[.int .i64 e0.k, .int .i64 e0.m, .int .i64 e0.n, .string e0.t]] W fun e w' => e = .returned (.int .i64 0) ∧ LAt w' p Mb (s.knows e0) g n ∧ But (fun x => x = p) W4 w') := Lib.hid fun W hb => (know_yes e0 ((HP.out.keep HB4.out).keep hb) hf he).mono fun e w' ⟨h1, h2, h3⟩ => ⟨h1, h2, (But.of_all hb _).trans h3 (fun _ _ e => e)⟩
    have HX : Hid (∀ W, Below W4.heap.size W4 W → HrAt W p b0 b1 b2 b3 r q e0 pl) := Lib.hid fun W hb => (HH.out.keep HB4.out).keep hb
    go_upto_region 7 with (first | (go_at_call 17; (with_reducible refine h17.mono ?_); clear h17 k0 k1 k2 k3 k4 k5 k6 k7 k8; rintro e W5 ⟨rfl, hb5⟩; have hx5 := HX.out _ hb5; have x0' := hx5.h0; obtain ⟨⟨d0, d1, d2, d3⟩, -⟩ := four hx5.h2; clear hx5 x0) | (go_at_call 18; (with_reducible refine (H18.out _ hb5).mono ?_); rintro e W6 ⟨rfl, ha6, hb6⟩))
    have HA := Lib.hid ha6
    have HBu := Lib.hid hb6
    clear ha6 hb6 d0 d1 d2 d3 x0' hb5
    have hpN : p ≠ w.heap.size := by have := HP.out.lt.1; omega
    have hMN : w.heap.size ≠ Mb := by have := HP.out.lt.2; omega
    have hN6 := HBu.out.box HN.out (fun e => hpN e.symm)
    have hx6 := (HH.out.keep HB4.out).but HBu.out
    obtain ⟨W7, hup, ha7, hb7⟩ := LAt.heard (W := W6.drew) (HA.out.keep (Below.refl _ _).drew) hn hr hq e1 (setF (f) pl) hE
    have HS : ∀ W, LAt W p Mb (s.knows e0) g n → HrAt W p b0 b1 b2 b3 r q e0 pl → W.heap[w.heap.size]? = some (.cells #[.int .i64 e1.k, .int .i64 e1.m, .int .i64 e1.n, .string e1.t, .bool ((setF (f) pl) 0), .bool ((setF (f) pl) 1), .bool ((setF (f) pl) 2), .bool ((setF (f) pl) 3), .bool ((setF (f) pl) 4), .bool ((setF (f) pl) 5), .bool ((setF (f) pl) 6), .bool ((setF (f) pl) 7), .bool ((setF (f) pl) 8)] 58 (0, 0)) → W.cell? ⟨b0, 0, none⟩ = some (.pointer (some ⟨p, 0, none⟩)) ∧ W.cell? ⟨p, 7, none⟩ = some (.map (some Mb)) ∧ (W.cell? ⟨b1, 0, none⟩ = some (.int .i64 r) ∧ W.cell? ⟨b1, 1, none⟩ = some (.int .i64 q)) ∧ (W.cell? ⟨w.heap.size, 0, none⟩ = some (.int .i64 e1.k) ∧ W.cell? ⟨w.heap.size, 1, none⟩ = some (.int .i64 e1.m) ∧ W.cell? ⟨w.heap.size, 2, none⟩ = some (.int .i64 e1.n) ∧ W.cell? ⟨w.heap.size, 3, none⟩ = some (.string e1.t)) ∧ W.cell? ⟨w.heap.size, 4, none⟩ = some (.bool (setF (f) pl 0)) ∧ W.cell? ⟨w.heap.size, 5, none⟩ = some (.bool (setF (f) pl 1)) ∧ W.cell? ⟨w.heap.size, 6, none⟩ = some (.bool (setF (f) pl 2)) ∧ W.cell? ⟨w.heap.size, 7, none⟩ = some (.bool (setF (f) pl 3)) ∧ W.cell? ⟨w.heap.size, 8, none⟩ = some (.bool (setF (f) pl 4)) ∧ W.cell? ⟨w.heap.size, 9, none⟩ = some (.bool (setF (f) pl 5)) ∧ W.cell? ⟨w.heap.size, 10, none⟩ = some (.bool (setF (f) pl 6)) ∧ W.cell? ⟨w.heap.size, 11, none⟩ = some (.bool (setF (f) pl 7)) ∧ W.cell? ⟨w.heap.size, 12, none⟩ = some (.bool (setF (f) pl 8)) := fun W a b c => ⟨b.h0, (eight a.blk).1.2.2.2.2.2.2.2, (two b.h1).1, (thirteen (f := setF (f) pl) c).1, (thirteen (f := setF (f) pl) c).2⟩
    have z6 := HS _ HA.out hx6 hN6
    have z7 := HS _ (HA.out.keep (Below.refl _ _).drew) (hx6.keep (Below.refl _ _).drew) hN6
    have z8 : W7.cell? ⟨b0, 0, none⟩ = some (.pointer (some ⟨p, 0, none⟩)) ∧ W7.cell? ⟨p, 7, none⟩ = some (.map (some Mb)) ∧ (W7.cell? ⟨b1, 0, none⟩ = some (.int .i64 r) ∧ W7.cell? ⟨b1, 1, none⟩ = some (.int .i64 q)) ∧ (W7.cell? ⟨w.heap.size, 0, none⟩ = some (.int .i64 e1.k) ∧ W7.cell? ⟨w.heap.size, 1, none⟩ = some (.int .i64 e1.m) ∧ W7.cell? ⟨w.heap.size, 2, none⟩ = some (.int .i64 e1.n) ∧ W7.cell? ⟨w.heap.size, 3, none⟩ = some (.string e1.t)) ∧ W7.cell? ⟨w.heap.size, 4, none⟩ = some (.bool (setF (f) pl 0)) ∧ W7.cell? ⟨w.heap.size, 5, none⟩ = some (.bool (setF (f) pl 1)) ∧ W7.cell? ⟨w.heap.size, 6, none⟩ = some (.bool (setF (f) pl 2)) ∧ W7.cell? ⟨w.heap.size, 7, none⟩ = some (.bool (setF (f) pl 3)) ∧ W7.cell? ⟨w.heap.size, 8, none⟩ = some (.bool (setF (f) pl 4)) ∧ W7.cell? ⟨w.heap.size, 9, none⟩ = some (.bool (setF (f) pl 5)) ∧ W7.cell? ⟨w.heap.size, 10, none⟩ = some (.bool (setF (f) pl 6)) ∧ W7.cell? ⟨w.heap.size, 11, none⟩ = some (.bool (setF (f) pl 7)) ∧ W7.cell? ⟨w.heap.size, 12, none⟩ = some (.bool (setF (f) pl 8)) := by
      have e0' := ha7.blk
      refine ⟨?_, (eight e0').1.2.2.2.2.2.2.2, (two (hb7.box (show W6.drew.heap[b1]? = _ from hx6.h1) hM1)).1, (thirteen (f := setF (f) pl) (hb7.box (show W6.drew.heap[w.heap.size]? = _ from hN6) hMN)).1, (thirteen (f := setF (f) pl) (hb7.box (show W6.drew.heap[w.heap.size]? = _ from hN6) hMN)).2⟩
      exact (hb7.cell (p := ⟨b0, 0, none⟩) (World.block_lt_of_cell? _ _ hx6.h0) hM0).trans hx6.h0
    have HA7 := Lib.hid ha7
    have HB7 := Lib.hid hb7
    clear HS hN6 hx6 ha7 hb7
    go_region_held_law (fun W => W.cell? ⟨b0, 0, none⟩ = some (.pointer (some ⟨p, 0, none⟩)) ∧ W.cell? ⟨p, 7, none⟩ = some (.map (some Mb)) ∧ (W.cell? ⟨b1, 0, none⟩ = some (.int .i64 r) ∧ W.cell? ⟨b1, 1, none⟩ = some (.int .i64 q)) ∧ (W.cell? ⟨w.heap.size, 0, none⟩ = some (.int .i64 e1.k) ∧ W.cell? ⟨w.heap.size, 1, none⟩ = some (.int .i64 e1.m) ∧ W.cell? ⟨w.heap.size, 2, none⟩ = some (.int .i64 e1.n) ∧ W.cell? ⟨w.heap.size, 3, none⟩ = some (.string e1.t)) ∧ W.cell? ⟨w.heap.size, 4, none⟩ = some (.bool (setF (f) pl 0)) ∧ W.cell? ⟨w.heap.size, 5, none⟩ = some (.bool (setF (f) pl 1)) ∧ W.cell? ⟨w.heap.size, 6, none⟩ = some (.bool (setF (f) pl 2)) ∧ W.cell? ⟨w.heap.size, 7, none⟩ = some (.bool (setF (f) pl 3)) ∧ W.cell? ⟨w.heap.size, 8, none⟩ = some (.bool (setF (f) pl 4)) ∧ W.cell? ⟨w.heap.size, 9, none⟩ = some (.bool (setF (f) pl 5)) ∧ W.cell? ⟨w.heap.size, 10, none⟩ = some (.bool (setF (f) pl 6)) ∧ W.cell? ⟨w.heap.size, 11, none⟩ = some (.bool (setF (f) pl 7)) ∧ W.cell? ⟨w.heap.size, 12, none⟩ = some (.bool (setF (f) pl 8)))
      (first | with_reducible exact z6 | with_reducible exact z7 | with_reducible exact z8)
      (fail)
    all_goals
      clear z6 z7 z8 hup
      go_wp2
      try rw [Exit.noGoto_ret]
      go_ret
      refine ⟨rfl, HA7.out, ((But.of_all HB4.out _).trans (HBu.out.mono (fun _ _ e => .inl e)) (fun _ _ e => e)).trans ((But.of_all (Below.refl _ W6).drew (SL p Mb)).trans (HB7.out.mono (fun _ _ e => .inr e)) (fun _ _ e => e)) (fun _ _ e => e)⟩
set_option maxRecDepth 100000 in
set_option maxHeartbeats 2000000 in
theorem Sm.hear1_tD {w : World} {p Mb b0 b1 b2 b3 : Nat} {s : LSt} {g : HrdM} {n : Nat} {r q : Int} {e0 e1 : EntM} {f : Nat → Bool} {pl : Nat} (hp : LAt w p Mb s g n) (hn : n < 1000000) (hh : HrAt w p b0 b1 b2 b3 r q e0 pl) (hM0 : b0 ≠ Mb) (hM1 : b1 ≠ Mb) (hpl : pl < 9) (hr : I64 r) (hq : I64 q) (_he : e0.ok) (hg : g r q = some (e1, f)) (hsame : sameE e1 e0 = true) (hw : wonB s.c (setF (f) pl) = false) :
    Calls Tryd.prog 16 #[.pointer (some ⟨b0, 0, none⟩), .pointer (some ⟨b1, 0, none⟩), .pointer (some ⟨b2, 0, none⟩), .pointer (some ⟨b3, 0, none⟩)] w fun e w' => e = .returned (.int .i64 0) ∧ LAt w' p Mb s (putG g r q (e1, setF (f) pl)) (n + 1) ∧ But (SL p Mb) w w' := by
  have HF : Hid (∀ W, Below w.heap.size w W → W.cell? ⟨b0, 0, none⟩ = some (.pointer (some ⟨p, 0, none⟩)) ∧ W.cell? ⟨p, 7, none⟩ = some (.map (some Mb)) ∧ (W.cell? ⟨b1, 0, none⟩ = some (.int .i64 r) ∧ W.cell? ⟨b1, 1, none⟩ = some (.int .i64 q)) ∧ (Instr.lookup 48 (.map (some Mb)) (.agg #[.int .i64 r, .int .i64 q]) true).run Tryd.prog W = .ok (.tuple #[.agg #[.int .i64 e1.k, .int .i64 e1.m, .int .i64 e1.n, .string e1.t, .bool (f 0), .bool (f 1), .bool (f 2), .bool (f 3), .bool (f 4), .bool (f 5), .bool (f 6), .bool (f 7), .bool (f 8)], .bool true]) W) := Lib.hid fun W hb => by
    obtain ⟨M, K, q1, q2, q3⟩ := (hp.keep hb).map
    have k := hh.keep hb
    exact ⟨k.h0, (eight (hp.keep hb).blk).1.2.2.2.2.2.2.2, (two k.h1).1, look_yes q1 q2 hg hr hq⟩
  have z0 := HF.out _ (Below.refl _ w)
  have HP := Lib.hid hp
  have HH := Lib.hid hh
  have hE : e1.ok := hp.ent hg
  have hplI : (pl : Int) < 9 := by omega
  have hch := hp.ch.1
  clear hp hh hg
  have hqe := neqE e1 e0
  rw [hsame] at hqe
  simp only [Bool.not_true] at hqe
  clear hsame
  go_enter Tryd.func16, Tryd.ntmps16
  go_wp2
  refine wp_scope_straight ?_
  go_upto_region 1 with fail
  go_region_held_law (fun W => W.cell? ⟨b0, 0, none⟩ = some (.pointer (some ⟨p, 0, none⟩)) ∧ W.cell? ⟨p, 7, none⟩ = some (.map (some Mb)) ∧ (W.cell? ⟨b1, 0, none⟩ = some (.int .i64 r) ∧ W.cell? ⟨b1, 1, none⟩ = some (.int .i64 q)) ∧ (Instr.lookup 48 (.map (some Mb)) (.agg #[.int .i64 r, .int .i64 q]) true).run Tryd.prog W = .ok (.tuple #[.agg #[.int .i64 e1.k, .int .i64 e1.m, .int .i64 e1.n, .string e1.t, .bool (f 0), .bool (f 1), .bool (f 2), .bool (f 3), .bool (f 4), .bool (f 5), .bool (f 6), .bool (f 7), .bool (f 8)], .bool true]) W)
    (first | with_reducible exact z0 | (refine HF.out _ ?_; repeat' (first | with_reducible assumption | with_reducible exact Below.refl _ _ | refine Below.drew ?_ | refine Below.alloc ?_ ?_ _ | refine Below.setCell ?_ ?_ _ | (simp; done) | (simp; omega))))
    (fail)
  all_goals
    obtain ⟨W1, hW1⟩ : ∃ v, (w.alloc (.cells #[.int .i64 e1.k, .int .i64 e1.m, .int .i64 e1.n, .string e1.t, .bool (f 0), .bool (f 1), .bool (f 2), .bool (f 3), .bool (f 4), .bool (f 5), .bool (f 6), .bool (f 7), .bool (f 8)] 58)).drew = v := ⟨_, rfl⟩
    rw [hW1]
    have hb1 : Below w.heap.size w W1 := by rw [← hW1]; exact ((Below.refl _ w).alloc (Nat.le_refl _) _).drew
    have hN : W1.heap[w.heap.size]? = some (.cells #[.int .i64 e1.k, .int .i64 e1.m, .int .i64 e1.n, .string e1.t, .bool (f 0), .bool (f 1), .bool (f 2), .bool (f 3), .bool (f 4), .bool (f 5), .bool (f 6), .bool (f 7), .bool (f 8)] 58 (0, 0)) := by rw [← hW1]; exact World.alloc_heap_new w _
    clear hW1 HF z0
    have hh1 := HH.out.keep hb1
    obtain ⟨⟨c0, c1, c2, c3⟩, -⟩ := thirteen (f := f) hN
    obtain ⟨⟨d0, d1, d2, d3⟩, -⟩ := four hh1.h2
    have x3 := hh1.h3
    obtain ⟨y0, y1, y2⟩ := set58 (f := f) hN pl hpl
    have HN := Lib.hid y2
    have hb4 : Below w.heap.size w (W1.setCell ⟨w.heap.size, 4 + pl, none⟩ (.bool true)) := hb1.setCell (Nat.le_refl _) _
    have HB4 := Lib.hid hb4
    clear hb1 hb4 hN hh1 y2
    go_upto_region 6 with fail
    clear c0 c1 c2 c3 d0 d1 d2 d3 x3 y0 y1
    generalize W1.setCell ⟨w.heap.size, 4 + pl, none⟩ (.bool true) = W4 at HN HB4 ⊢
    have x0 := (HH.out.keep HB4.out).h0
    obtain ⟨-, k0, k1, k2, k3, k4, k5, k6, k7, k8⟩ := thirteen (f := setF (f) pl) HN.out
    have h17 := won_any (setF (f) pl) (HP.out.keep HB4.out)
    rw [hw] at h17
    go_upto_region 7 with (go_at_call 17; (with_reducible refine h17.mono ?_); clear h17 k0 k1 k2 k3 k4 k5 k6 k7 k8; rintro e W5 ⟨rfl, hb5⟩)
    have HA : Hid (LAt W5 p Mb s g n) := Lib.hid ((HP.out.keep HB4.out).keep hb5)
    have HBu : Hid (But (fun x => x = p) W4 W5) := Lib.hid (But.of_all hb5 _)
    clear hb5 x0
    have hpN : p ≠ w.heap.size := by have := HP.out.lt.1; omega
    have hMN : w.heap.size ≠ Mb := by have := HP.out.lt.2; omega
    have hN6 := HBu.out.box HN.out (fun e => hpN e.symm)
    have hx6 := (HH.out.keep HB4.out).but HBu.out
    obtain ⟨W7, hup, ha7, hb7⟩ := LAt.heard (W := W5.drew) (HA.out.keep (Below.refl _ _).drew) hn hr hq e1 (setF (f) pl) hE
    have HS : ∀ W, LAt W p Mb (s) g n → HrAt W p b0 b1 b2 b3 r q e0 pl → W.heap[w.heap.size]? = some (.cells #[.int .i64 e1.k, .int .i64 e1.m, .int .i64 e1.n, .string e1.t, .bool ((setF (f) pl) 0), .bool ((setF (f) pl) 1), .bool ((setF (f) pl) 2), .bool ((setF (f) pl) 3), .bool ((setF (f) pl) 4), .bool ((setF (f) pl) 5), .bool ((setF (f) pl) 6), .bool ((setF (f) pl) 7), .bool ((setF (f) pl) 8)] 58 (0, 0)) → W.cell? ⟨b0, 0, none⟩ = some (.pointer (some ⟨p, 0, none⟩)) ∧ W.cell? ⟨p, 7, none⟩ = some (.map (some Mb)) ∧ (W.cell? ⟨b1, 0, none⟩ = some (.int .i64 r) ∧ W.cell? ⟨b1, 1, none⟩ = some (.int .i64 q)) ∧ (W.cell? ⟨w.heap.size, 0, none⟩ = some (.int .i64 e1.k) ∧ W.cell? ⟨w.heap.size, 1, none⟩ = some (.int .i64 e1.m) ∧ W.cell? ⟨w.heap.size, 2, none⟩ = some (.int .i64 e1.n) ∧ W.cell? ⟨w.heap.size, 3, none⟩ = some (.string e1.t)) ∧ W.cell? ⟨w.heap.size, 4, none⟩ = some (.bool (setF (f) pl 0)) ∧ W.cell? ⟨w.heap.size, 5, none⟩ = some (.bool (setF (f) pl 1)) ∧ W.cell? ⟨w.heap.size, 6, none⟩ = some (.bool (setF (f) pl 2)) ∧ W.cell? ⟨w.heap.size, 7, none⟩ = some (.bool (setF (f) pl 3)) ∧ W.cell? ⟨w.heap.size, 8, none⟩ = some (.bool (setF (f) pl 4)) ∧ W.cell? ⟨w.heap.size, 9, none⟩ = some (.bool (setF (f) pl 5)) ∧ W.cell? ⟨w.heap.size, 10, none⟩ = some (.bool (setF (f) pl 6)) ∧ W.cell? ⟨w.heap.size, 11, none⟩ = some (.bool (setF (f) pl 7)) ∧ W.cell? ⟨w.heap.size, 12, none⟩ = some (.bool (setF (f) pl 8)) := fun W a b c => ⟨b.h0, (eight a.blk).1.2.2.2.2.2.2.2, (two b.h1).1, (thirteen (f := setF (f) pl) c).1, (thirteen (f := setF (f) pl) c).2⟩
    have z6 := HS _ HA.out hx6 hN6
    have z7 := HS _ (HA.out.keep (Below.refl _ _).drew) (hx6.keep (Below.refl _ _).drew) hN6
    have z8 : W7.cell? ⟨b0, 0, none⟩ = some (.pointer (some ⟨p, 0, none⟩)) ∧ W7.cell? ⟨p, 7, none⟩ = some (.map (some Mb)) ∧ (W7.cell? ⟨b1, 0, none⟩ = some (.int .i64 r) ∧ W7.cell? ⟨b1, 1, none⟩ = some (.int .i64 q)) ∧ (W7.cell? ⟨w.heap.size, 0, none⟩ = some (.int .i64 e1.k) ∧ W7.cell? ⟨w.heap.size, 1, none⟩ = some (.int .i64 e1.m) ∧ W7.cell? ⟨w.heap.size, 2, none⟩ = some (.int .i64 e1.n) ∧ W7.cell? ⟨w.heap.size, 3, none⟩ = some (.string e1.t)) ∧ W7.cell? ⟨w.heap.size, 4, none⟩ = some (.bool (setF (f) pl 0)) ∧ W7.cell? ⟨w.heap.size, 5, none⟩ = some (.bool (setF (f) pl 1)) ∧ W7.cell? ⟨w.heap.size, 6, none⟩ = some (.bool (setF (f) pl 2)) ∧ W7.cell? ⟨w.heap.size, 7, none⟩ = some (.bool (setF (f) pl 3)) ∧ W7.cell? ⟨w.heap.size, 8, none⟩ = some (.bool (setF (f) pl 4)) ∧ W7.cell? ⟨w.heap.size, 9, none⟩ = some (.bool (setF (f) pl 5)) ∧ W7.cell? ⟨w.heap.size, 10, none⟩ = some (.bool (setF (f) pl 6)) ∧ W7.cell? ⟨w.heap.size, 11, none⟩ = some (.bool (setF (f) pl 7)) ∧ W7.cell? ⟨w.heap.size, 12, none⟩ = some (.bool (setF (f) pl 8)) := by
      have e0' := ha7.blk
      refine ⟨?_, (eight e0').1.2.2.2.2.2.2.2, (two (hb7.box (show W5.drew.heap[b1]? = _ from hx6.h1) hM1)).1, (thirteen (f := setF (f) pl) (hb7.box (show W5.drew.heap[w.heap.size]? = _ from hN6) hMN)).1, (thirteen (f := setF (f) pl) (hb7.box (show W5.drew.heap[w.heap.size]? = _ from hN6) hMN)).2⟩
      exact (hb7.cell (p := ⟨b0, 0, none⟩) (World.block_lt_of_cell? _ _ hx6.h0) hM0).trans hx6.h0
    have HA7 := Lib.hid ha7
    have HB7 := Lib.hid hb7
    clear HS hN6 hx6 ha7 hb7
    go_region_held_law (fun W => W.cell? ⟨b0, 0, none⟩ = some (.pointer (some ⟨p, 0, none⟩)) ∧ W.cell? ⟨p, 7, none⟩ = some (.map (some Mb)) ∧ (W.cell? ⟨b1, 0, none⟩ = some (.int .i64 r) ∧ W.cell? ⟨b1, 1, none⟩ = some (.int .i64 q)) ∧ (W.cell? ⟨w.heap.size, 0, none⟩ = some (.int .i64 e1.k) ∧ W.cell? ⟨w.heap.size, 1, none⟩ = some (.int .i64 e1.m) ∧ W.cell? ⟨w.heap.size, 2, none⟩ = some (.int .i64 e1.n) ∧ W.cell? ⟨w.heap.size, 3, none⟩ = some (.string e1.t)) ∧ W.cell? ⟨w.heap.size, 4, none⟩ = some (.bool (setF (f) pl 0)) ∧ W.cell? ⟨w.heap.size, 5, none⟩ = some (.bool (setF (f) pl 1)) ∧ W.cell? ⟨w.heap.size, 6, none⟩ = some (.bool (setF (f) pl 2)) ∧ W.cell? ⟨w.heap.size, 7, none⟩ = some (.bool (setF (f) pl 3)) ∧ W.cell? ⟨w.heap.size, 8, none⟩ = some (.bool (setF (f) pl 4)) ∧ W.cell? ⟨w.heap.size, 9, none⟩ = some (.bool (setF (f) pl 5)) ∧ W.cell? ⟨w.heap.size, 10, none⟩ = some (.bool (setF (f) pl 6)) ∧ W.cell? ⟨w.heap.size, 11, none⟩ = some (.bool (setF (f) pl 7)) ∧ W.cell? ⟨w.heap.size, 12, none⟩ = some (.bool (setF (f) pl 8)))
      (first | with_reducible exact z6 | with_reducible exact z7 | with_reducible exact z8)
      (fail)
    all_goals
      clear z6 z7 z8 hup
      go_wp2
      try rw [Exit.noGoto_ret]
      go_ret
      refine ⟨rfl, HA7.out, ((But.of_all HB4.out _).trans (HBu.out.mono (fun _ _ e => .inl e)) (fun _ _ e => e)).trans ((But.of_all (Below.refl _ W5).drew (SL p Mb)).trans (HB7.out.mono (fun _ _ e => .inr e)) (fun _ _ e => e)) (fun _ _ e => e)⟩
set_option maxRecDepth 100000 in
set_option maxHeartbeats 2000000 in
theorem Sm.hear1_nB {w : World} {p Mb b0 b1 b2 b3 : Nat} {s : LSt} {g : HrdM} {n : Nat} {r q : Int} {e0 : EntM} {pl : Nat} (hp : LAt w p Mb s g n) (_hn : n < 1000000) (hh : HrAt w p b0 b1 b2 b3 r q e0 pl) (hpl : pl < 9) (hr : I64 r) (hq : I64 q) (he : e0.ok) (hg : g r q = none) (hw : wonB s.c (setF (fun _ => false) pl) = true) (hf : fits s e0 = false) :
    Calls Tryd.prog 16 #[.pointer (some ⟨b0, 0, none⟩), .pointer (some ⟨b1, 0, none⟩), .pointer (some ⟨b2, 0, none⟩), .pointer (some ⟨b3, 0, none⟩)] w fun e w' => e = .returned (.int .i64 260) ∧ Below w.heap.size w w' := by
  have HF : Hid (∀ W, Below w.heap.size w W → W.cell? ⟨b0, 0, none⟩ = some (.pointer (some ⟨p, 0, none⟩)) ∧ W.cell? ⟨p, 7, none⟩ = some (.map (some Mb)) ∧ (W.cell? ⟨b1, 0, none⟩ = some (.int .i64 r) ∧ W.cell? ⟨b1, 1, none⟩ = some (.int .i64 q)) ∧ (Instr.lookup 48 (.map (some Mb)) (.agg #[.int .i64 r, .int .i64 q]) true).run Tryd.prog W = .ok (.tuple #[.agg #[.int .i64 0, .int .i64 0, .int .i64 0, .string ⟨#[]⟩, .bool false, .bool false, .bool false, .bool false, .bool false, .bool false, .bool false, .bool false, .bool false], .bool false]) W) := Lib.hid fun W hb => by
    obtain ⟨M, K, q1, q2, q3⟩ := (hp.keep hb).map
    have k := hh.keep hb
    exact ⟨k.h0, (eight (hp.keep hb).blk).1.2.2.2.2.2.2.2, (two k.h1).1, look_none q1 q2 hg hr hq⟩
  have z0 := HF.out _ (Below.refl _ w)
  have HP := Lib.hid hp
  have HH := Lib.hid hh
  have hE : e0.ok := he
  have hplI : (pl : Int) < 9 := by omega
  have hch := hp.ch.1
  clear hp hh hg
  have hqe := neqE e0 e0
  rw [sameE_self] at hqe
  simp only [Bool.not_true] at hqe
  go_enter Tryd.func16, Tryd.ntmps16
  go_wp2
  refine wp_scope_fwd 0 rfl ?_
  go_upto_region 1 with fail
  go_region_held_law (fun W => W.cell? ⟨b0, 0, none⟩ = some (.pointer (some ⟨p, 0, none⟩)) ∧ W.cell? ⟨p, 7, none⟩ = some (.map (some Mb)) ∧ (W.cell? ⟨b1, 0, none⟩ = some (.int .i64 r) ∧ W.cell? ⟨b1, 1, none⟩ = some (.int .i64 q)) ∧ (Instr.lookup 48 (.map (some Mb)) (.agg #[.int .i64 r, .int .i64 q]) true).run Tryd.prog W = .ok (.tuple #[.agg #[.int .i64 0, .int .i64 0, .int .i64 0, .string ⟨#[]⟩, .bool false, .bool false, .bool false, .bool false, .bool false, .bool false, .bool false, .bool false, .bool false], .bool false]) W)
    (first | with_reducible exact z0 | (refine HF.out _ ?_; repeat' (first | with_reducible assumption | with_reducible exact Below.refl _ _ | refine Below.drew ?_ | refine Below.alloc ?_ ?_ _ | refine Below.setCell ?_ ?_ _ | (simp; done) | (simp; omega))))
    (fail)
  all_goals
    obtain ⟨W1, hW1⟩ : ∃ v, (w.alloc (.cells #[.int .i64 0, .int .i64 0, .int .i64 0, .string ⟨#[]⟩, .bool false, .bool false, .bool false, .bool false, .bool false, .bool false, .bool false, .bool false, .bool false] 58)).drew = v := ⟨_, rfl⟩
    rw [hW1]
    have hb1 : Below w.heap.size w W1 := by rw [← hW1]; exact ((Below.refl _ w).alloc (Nat.le_refl _) _).drew
    have hN : W1.heap[w.heap.size]? = some (.cells #[.int .i64 0, .int .i64 0, .int .i64 0, .string ⟨#[]⟩, .bool false, .bool false, .bool false, .bool false, .bool false, .bool false, .bool false, .bool false, .bool false] 58 (0, 0)) := by rw [← hW1]; exact World.alloc_heap_new w _
    clear hW1 HF z0
    have h15 := fun W => fresh_any e0 W he.2.2.2
    obtain ⟨⟨u0, u1, u2, u3⟩, -⟩ := four (HH.out.keep hb1).h2
    have HN0 := Lib.hid hN
    have HB1 := Lib.hid hb1
    clear hN hb1
    go_upto_region 4 with (go_at_call 15; (with_reducible refine (h15 _).mono ?_); clear h15; rintro e W2 ⟨rfl, hb2⟩; have hN2 := (hb2.block _ (Array.getElem?_eq_some_iff.1 HN0.out).1).trans HN0.out; have v0 := cell_of_heap hN2 0; have v1 := cell_of_heap hN2 1; have v2 := cell_of_heap hN2 2; have v3 := cell_of_heap hN2 3; have g0 := frozen_of_heap hN2 0; have g1 := frozen_of_heap hN2 1; have g2 := frozen_of_heap hN2 2; have g3 := frozen_of_heap hN2 3; simp only [List.getElem?_toArray, List.getElem?_cons_zero, List.getElem?_cons_succ] at v0 v1 v2 v3; have HN2 := Lib.hid hN2; have HB2 : Hid (Below w.heap.size w W2) := Lib.hid (HB1.out.trans (hb2.mono HB1.out.size)); clear hb2 hN2)
    have hN : ((((W2.setCell ⟨w.heap.size, 0, none⟩ (.int .i64 e0.k)).setCell ⟨w.heap.size, 1, none⟩ (.int .i64 e0.m)).setCell ⟨w.heap.size, 2, none⟩ (.int .i64 e0.n)).setCell ⟨w.heap.size, 3, none⟩ (.string e0.t)).heap[w.heap.size]? = some (.cells #[.int .i64 e0.k, .int .i64 e0.m, .int .i64 e0.n, .string e0.t, .bool false, .bool false, .bool false, .bool false, .bool false, .bool false, .bool false, .bool false, .bool false] 58 (0, 0)) := heap_setCells (heap_setCells (heap_setCells (heap_setCells HN2.out)))
    have hb1 : Below w.heap.size w ((((W2.setCell ⟨w.heap.size, 0, none⟩ (.int .i64 e0.k)).setCell ⟨w.heap.size, 1, none⟩ (.int .i64 e0.m)).setCell ⟨w.heap.size, 2, none⟩ (.int .i64 e0.n)).setCell ⟨w.heap.size, 3, none⟩ (.string e0.t)) := bset4 HB2.out (Nat.le_refl _) _ _ _ _
    clear u0 u1 u2 u3 v0 v1 v2 v3 g0 g1 g2 g3
    generalize ((((W2.setCell ⟨w.heap.size, 0, none⟩ (.int .i64 e0.k)).setCell ⟨w.heap.size, 1, none⟩ (.int .i64 e0.m)).setCell ⟨w.heap.size, 2, none⟩ (.int .i64 e0.n)).setCell ⟨w.heap.size, 3, none⟩ (.string e0.t)) = W3 at hN hb1 ⊢
    have hh1 := HH.out.keep hb1
    obtain ⟨⟨c0, c1, c2, c3⟩, -⟩ := thirteen (f := fun _ => false) hN
    obtain ⟨⟨d0, d1, d2, d3⟩, -⟩ := four hh1.h2
    have x3 := hh1.h3
    obtain ⟨y0, y1, y2⟩ := set58 (f := fun _ => false) hN pl hpl
    have HN := Lib.hid y2
    have hb4 : Below w.heap.size w (W3.setCell ⟨w.heap.size, 4 + pl, none⟩ (.bool true)) := hb1.setCell (Nat.le_refl _) _
    have HB4 := Lib.hid hb4
    clear hb1 hb4 hN hh1 y2
    go_upto_region 6 with fail
    clear c0 c1 c2 c3 d0 d1 d2 d3 x3 y0 y1
    generalize W3.setCell ⟨w.heap.size, 4 + pl, none⟩ (.bool true) = W4 at HN HB4 ⊢
    have x0 := (HH.out.keep HB4.out).h0
    obtain ⟨-, k0, k1, k2, k3, k4, k5, k6, k7, k8⟩ := thirteen (f := setF (fun _ => false) pl) HN.out
    have h17 := won_any (setF (fun _ => false) pl) (HP.out.keep HB4.out)
    rw [hw] at h17
    unfold fits at hf
    simp only [Bool.or_eq_false_iff, Bool.not_eq_false'] at hf
    have H18 : Hid (∀ W, Below W4.heap.size W4 W → Calls Tryd.prog 18 #[.pointer (some ⟨p, 0, none⟩), .agg #[.int .i64 e0.k, .int .i64 e0.m, .int .i64 e0.n, .string e0.t]] W fun e w' => e = .returned (.int .i64 260) ∧ Below w.heap.size w w') := Lib.hid fun W hb => (know_no e0 ((HP.out.keep HB4.out).keep hb) hf.1 hf.2).mono fun e w' ⟨h1, h2⟩ => ⟨h1, HB4.out.trans ((hb.trans (h2.mono hb.size)).mono HB4.out.size)⟩
    have HX : Hid (∀ W, Below W4.heap.size W4 W → HrAt W p b0 b1 b2 b3 r q e0 pl) := Lib.hid fun W hb => (HH.out.keep HB4.out).keep hb
    go_wp2_with (first | (go_at_call 17; (with_reducible refine h17.mono ?_); clear h17 k0 k1 k2 k3 k4 k5 k6 k7 k8; rintro e W5 ⟨rfl, hb5⟩; have hx5 := HX.out _ hb5; have x0' := hx5.h0; obtain ⟨⟨d0, d1, d2, d3⟩, -⟩ := four hx5.h2; clear hx5 x0) | (go_at_call 18; (with_reducible refine (H18.out _ hb5).mono ?_); rintro e W6 ⟨rfl, hb6⟩))
    go_step3
    refine ⟨rfl, ?_⟩
    go_wp2
    try rw [Exit.noGoto_ret]
    go_ret
    exact ⟨rfl, hb6⟩
set_option maxRecDepth 100000 in
set_option maxHeartbeats 2000000 in
theorem Sm.hear1_nC {w : World} {p Mb b0 b1 b2 b3 : Nat} {s : LSt} {g : HrdM} {n : Nat} {r q : Int} {e0 : EntM} {pl : Nat} (hp : LAt w p Mb s g n) (hn : n < 1000000) (hh : HrAt w p b0 b1 b2 b3 r q e0 pl) (hM0 : b0 ≠ Mb) (hM1 : b1 ≠ Mb) (hpl : pl < 9) (hr : I64 r) (hq : I64 q) (he : e0.ok) (hg : g r q = none) (hw : wonB s.c (setF (fun _ => false) pl) = true) (hf : fits s e0 = true) :
    Calls Tryd.prog 16 #[.pointer (some ⟨b0, 0, none⟩), .pointer (some ⟨b1, 0, none⟩), .pointer (some ⟨b2, 0, none⟩), .pointer (some ⟨b3, 0, none⟩)] w fun e w' => e = .returned (.int .i64 0) ∧ LAt w' p Mb (s.knows e0) (putG g r q (e0, setF (fun _ => false) pl)) (n + 1) ∧ But (SL p Mb) w w' := by
  have HF : Hid (∀ W, Below w.heap.size w W → W.cell? ⟨b0, 0, none⟩ = some (.pointer (some ⟨p, 0, none⟩)) ∧ W.cell? ⟨p, 7, none⟩ = some (.map (some Mb)) ∧ (W.cell? ⟨b1, 0, none⟩ = some (.int .i64 r) ∧ W.cell? ⟨b1, 1, none⟩ = some (.int .i64 q)) ∧ (Instr.lookup 48 (.map (some Mb)) (.agg #[.int .i64 r, .int .i64 q]) true).run Tryd.prog W = .ok (.tuple #[.agg #[.int .i64 0, .int .i64 0, .int .i64 0, .string ⟨#[]⟩, .bool false, .bool false, .bool false, .bool false, .bool false, .bool false, .bool false, .bool false, .bool false], .bool false]) W) := Lib.hid fun W hb => by
    obtain ⟨M, K, q1, q2, q3⟩ := (hp.keep hb).map
    have k := hh.keep hb
    exact ⟨k.h0, (eight (hp.keep hb).blk).1.2.2.2.2.2.2.2, (two k.h1).1, look_none q1 q2 hg hr hq⟩
  have z0 := HF.out _ (Below.refl _ w)
  have HP := Lib.hid hp
  have HH := Lib.hid hh
  have hE : e0.ok := he
  have hplI : (pl : Int) < 9 := by omega
  have hch := hp.ch.1
  clear hp hh hg
  have hqe := neqE e0 e0
  rw [sameE_self] at hqe
  simp only [Bool.not_true] at hqe
  go_enter Tryd.func16, Tryd.ntmps16
  go_wp2
  refine wp_scope_straight ?_
  go_upto_region 1 with fail
  go_region_held_law (fun W => W.cell? ⟨b0, 0, none⟩ = some (.pointer (some ⟨p, 0, none⟩)) ∧ W.cell? ⟨p, 7, none⟩ = some (.map (some Mb)) ∧ (W.cell? ⟨b1, 0, none⟩ = some (.int .i64 r) ∧ W.cell? ⟨b1, 1, none⟩ = some (.int .i64 q)) ∧ (Instr.lookup 48 (.map (some Mb)) (.agg #[.int .i64 r, .int .i64 q]) true).run Tryd.prog W = .ok (.tuple #[.agg #[.int .i64 0, .int .i64 0, .int .i64 0, .string ⟨#[]⟩, .bool false, .bool false, .bool false, .bool false, .bool false, .bool false, .bool false, .bool false, .bool false], .bool false]) W)
    (first | with_reducible exact z0 | (refine HF.out _ ?_; repeat' (first | with_reducible assumption | with_reducible exact Below.refl _ _ | refine Below.drew ?_ | refine Below.alloc ?_ ?_ _ | refine Below.setCell ?_ ?_ _ | (simp; done) | (simp; omega))))
    (fail)
  all_goals
    obtain ⟨W1, hW1⟩ : ∃ v, (w.alloc (.cells #[.int .i64 0, .int .i64 0, .int .i64 0, .string ⟨#[]⟩, .bool false, .bool false, .bool false, .bool false, .bool false, .bool false, .bool false, .bool false, .bool false] 58)).drew = v := ⟨_, rfl⟩
    rw [hW1]
    have hb1 : Below w.heap.size w W1 := by rw [← hW1]; exact ((Below.refl _ w).alloc (Nat.le_refl _) _).drew
    have hN : W1.heap[w.heap.size]? = some (.cells #[.int .i64 0, .int .i64 0, .int .i64 0, .string ⟨#[]⟩, .bool false, .bool false, .bool false, .bool false, .bool false, .bool false, .bool false, .bool false, .bool false] 58 (0, 0)) := by rw [← hW1]; exact World.alloc_heap_new w _
    clear hW1 HF z0
    have h15 := fun W => fresh_any e0 W he.2.2.2
    obtain ⟨⟨u0, u1, u2, u3⟩, -⟩ := four (HH.out.keep hb1).h2
    have HN0 := Lib.hid hN
    have HB1 := Lib.hid hb1
    clear hN hb1
    go_upto_region 4 with (go_at_call 15; (with_reducible refine (h15 _).mono ?_); clear h15; rintro e W2 ⟨rfl, hb2⟩; have hN2 := (hb2.block _ (Array.getElem?_eq_some_iff.1 HN0.out).1).trans HN0.out; have v0 := cell_of_heap hN2 0; have v1 := cell_of_heap hN2 1; have v2 := cell_of_heap hN2 2; have v3 := cell_of_heap hN2 3; have g0 := frozen_of_heap hN2 0; have g1 := frozen_of_heap hN2 1; have g2 := frozen_of_heap hN2 2; have g3 := frozen_of_heap hN2 3; simp only [List.getElem?_toArray, List.getElem?_cons_zero, List.getElem?_cons_succ] at v0 v1 v2 v3; have HN2 := Lib.hid hN2; have HB2 : Hid (Below w.heap.size w W2) := Lib.hid (HB1.out.trans (hb2.mono HB1.out.size)); clear hb2 hN2)
    have hN : ((((W2.setCell ⟨w.heap.size, 0, none⟩ (.int .i64 e0.k)).setCell ⟨w.heap.size, 1, none⟩ (.int .i64 e0.m)).setCell ⟨w.heap.size, 2, none⟩ (.int .i64 e0.n)).setCell ⟨w.heap.size, 3, none⟩ (.string e0.t)).heap[w.heap.size]? = some (.cells #[.int .i64 e0.k, .int .i64 e0.m, .int .i64 e0.n, .string e0.t, .bool false, .bool false, .bool false, .bool false, .bool false, .bool false, .bool false, .bool false, .bool false] 58 (0, 0)) := heap_setCells (heap_setCells (heap_setCells (heap_setCells HN2.out)))
    have hb1 : Below w.heap.size w ((((W2.setCell ⟨w.heap.size, 0, none⟩ (.int .i64 e0.k)).setCell ⟨w.heap.size, 1, none⟩ (.int .i64 e0.m)).setCell ⟨w.heap.size, 2, none⟩ (.int .i64 e0.n)).setCell ⟨w.heap.size, 3, none⟩ (.string e0.t)) := bset4 HB2.out (Nat.le_refl _) _ _ _ _
    clear u0 u1 u2 u3 v0 v1 v2 v3 g0 g1 g2 g3
    generalize ((((W2.setCell ⟨w.heap.size, 0, none⟩ (.int .i64 e0.k)).setCell ⟨w.heap.size, 1, none⟩ (.int .i64 e0.m)).setCell ⟨w.heap.size, 2, none⟩ (.int .i64 e0.n)).setCell ⟨w.heap.size, 3, none⟩ (.string e0.t)) = W3 at hN hb1 ⊢
    have hh1 := HH.out.keep hb1
    obtain ⟨⟨c0, c1, c2, c3⟩, -⟩ := thirteen (f := fun _ => false) hN
    obtain ⟨⟨d0, d1, d2, d3⟩, -⟩ := four hh1.h2
    have x3 := hh1.h3
    obtain ⟨y0, y1, y2⟩ := set58 (f := fun _ => false) hN pl hpl
    have HN := Lib.hid y2
    have hb4 : Below w.heap.size w (W3.setCell ⟨w.heap.size, 4 + pl, none⟩ (.bool true)) := hb1.setCell (Nat.le_refl _) _
    have HB4 := Lib.hid hb4
    clear hb1 hb4 hN hh1 y2
    go_upto_region 6 with fail
    clear c0 c1 c2 c3 d0 d1 d2 d3 x3 y0 y1
    generalize W3.setCell ⟨w.heap.size, 4 + pl, none⟩ (.bool true) = W4 at HN HB4 ⊢
    have x0 := (HH.out.keep HB4.out).h0
    obtain ⟨-, k0, k1, k2, k3, k4, k5, k6, k7, k8⟩ := thirteen (f := setF (fun _ => false) pl) HN.out
    have h17 := won_any (setF (fun _ => false) pl) (HP.out.keep HB4.out)
    rw [hw] at h17
    have H18 : Hid (∀ W, Below W4.heap.size W4 W → Calls Tryd.prog 18 #[.pointer (some ⟨p, 0, none⟩), .agg #[.int .i64 e0.k, .int .i64 e0.m, .int .i64 e0.n, .string e0.t]] W fun e w' => e = .returned (.int .i64 0) ∧ LAt w' p Mb (s.knows e0) g n ∧ But (fun x => x = p) W4 w') := Lib.hid fun W hb => (know_yes e0 ((HP.out.keep HB4.out).keep hb) hf he).mono fun e w' ⟨h1, h2, h3⟩ => ⟨h1, h2, (But.of_all hb _).trans h3 (fun _ _ e => e)⟩
    have HX : Hid (∀ W, Below W4.heap.size W4 W → HrAt W p b0 b1 b2 b3 r q e0 pl) := Lib.hid fun W hb => (HH.out.keep HB4.out).keep hb
    go_upto_region 7 with (first | (go_at_call 17; (with_reducible refine h17.mono ?_); clear h17 k0 k1 k2 k3 k4 k5 k6 k7 k8; rintro e W5 ⟨rfl, hb5⟩; have hx5 := HX.out _ hb5; have x0' := hx5.h0; obtain ⟨⟨d0, d1, d2, d3⟩, -⟩ := four hx5.h2; clear hx5 x0) | (go_at_call 18; (with_reducible refine (H18.out _ hb5).mono ?_); rintro e W6 ⟨rfl, ha6, hb6⟩))
    have HA := Lib.hid ha6
    have HBu := Lib.hid hb6
    clear ha6 hb6 d0 d1 d2 d3 x0' hb5
    have hpN : p ≠ w.heap.size := by have := HP.out.lt.1; omega
    have hMN : w.heap.size ≠ Mb := by have := HP.out.lt.2; omega
    have hN6 := HBu.out.box HN.out (fun e => hpN e.symm)
    have hx6 := (HH.out.keep HB4.out).but HBu.out
    obtain ⟨W7, hup, ha7, hb7⟩ := LAt.heard (W := W6.drew) (HA.out.keep (Below.refl _ _).drew) hn hr hq e0 (setF (fun _ => false) pl) hE
    have HS : ∀ W, LAt W p Mb (s.knows e0) g n → HrAt W p b0 b1 b2 b3 r q e0 pl → W.heap[w.heap.size]? = some (.cells #[.int .i64 e0.k, .int .i64 e0.m, .int .i64 e0.n, .string e0.t, .bool ((setF (fun _ => false) pl) 0), .bool ((setF (fun _ => false) pl) 1), .bool ((setF (fun _ => false) pl) 2), .bool ((setF (fun _ => false) pl) 3), .bool ((setF (fun _ => false) pl) 4), .bool ((setF (fun _ => false) pl) 5), .bool ((setF (fun _ => false) pl) 6), .bool ((setF (fun _ => false) pl) 7), .bool ((setF (fun _ => false) pl) 8)] 58 (0, 0)) → W.cell? ⟨b0, 0, none⟩ = some (.pointer (some ⟨p, 0, none⟩)) ∧ W.cell? ⟨p, 7, none⟩ = some (.map (some Mb)) ∧ (W.cell? ⟨b1, 0, none⟩ = some (.int .i64 r) ∧ W.cell? ⟨b1, 1, none⟩ = some (.int .i64 q)) ∧ (W.cell? ⟨w.heap.size, 0, none⟩ = some (.int .i64 e0.k) ∧ W.cell? ⟨w.heap.size, 1, none⟩ = some (.int .i64 e0.m) ∧ W.cell? ⟨w.heap.size, 2, none⟩ = some (.int .i64 e0.n) ∧ W.cell? ⟨w.heap.size, 3, none⟩ = some (.string e0.t)) ∧ W.cell? ⟨w.heap.size, 4, none⟩ = some (.bool (setF (fun _ => false) pl 0)) ∧ W.cell? ⟨w.heap.size, 5, none⟩ = some (.bool (setF (fun _ => false) pl 1)) ∧ W.cell? ⟨w.heap.size, 6, none⟩ = some (.bool (setF (fun _ => false) pl 2)) ∧ W.cell? ⟨w.heap.size, 7, none⟩ = some (.bool (setF (fun _ => false) pl 3)) ∧ W.cell? ⟨w.heap.size, 8, none⟩ = some (.bool (setF (fun _ => false) pl 4)) ∧ W.cell? ⟨w.heap.size, 9, none⟩ = some (.bool (setF (fun _ => false) pl 5)) ∧ W.cell? ⟨w.heap.size, 10, none⟩ = some (.bool (setF (fun _ => false) pl 6)) ∧ W.cell? ⟨w.heap.size, 11, none⟩ = some (.bool (setF (fun _ => false) pl 7)) ∧ W.cell? ⟨w.heap.size, 12, none⟩ = some (.bool (setF (fun _ => false) pl 8)) := fun W a b c => ⟨b.h0, (eight a.blk).1.2.2.2.2.2.2.2, (two b.h1).1, (thirteen (f := setF (fun _ => false) pl) c).1, (thirteen (f := setF (fun _ => false) pl) c).2⟩
    have z6 := HS _ HA.out hx6 hN6
    have z7 := HS _ (HA.out.keep (Below.refl _ _).drew) (hx6.keep (Below.refl _ _).drew) hN6
    have z8 : W7.cell? ⟨b0, 0, none⟩ = some (.pointer (some ⟨p, 0, none⟩)) ∧ W7.cell? ⟨p, 7, none⟩ = some (.map (some Mb)) ∧ (W7.cell? ⟨b1, 0, none⟩ = some (.int .i64 r) ∧ W7.cell? ⟨b1, 1, none⟩ = some (.int .i64 q)) ∧ (W7.cell? ⟨w.heap.size, 0, none⟩ = some (.int .i64 e0.k) ∧ W7.cell? ⟨w.heap.size, 1, none⟩ = some (.int .i64 e0.m) ∧ W7.cell? ⟨w.heap.size, 2, none⟩ = some (.int .i64 e0.n) ∧ W7.cell? ⟨w.heap.size, 3, none⟩ = some (.string e0.t)) ∧ W7.cell? ⟨w.heap.size, 4, none⟩ = some (.bool (setF (fun _ => false) pl 0)) ∧ W7.cell? ⟨w.heap.size, 5, none⟩ = some (.bool (setF (fun _ => false) pl 1)) ∧ W7.cell? ⟨w.heap.size, 6, none⟩ = some (.bool (setF (fun _ => false) pl 2)) ∧ W7.cell? ⟨w.heap.size, 7, none⟩ = some (.bool (setF (fun _ => false) pl 3)) ∧ W7.cell? ⟨w.heap.size, 8, none⟩ = some (.bool (setF (fun _ => false) pl 4)) ∧ W7.cell? ⟨w.heap.size, 9, none⟩ = some (.bool (setF (fun _ => false) pl 5)) ∧ W7.cell? ⟨w.heap.size, 10, none⟩ = some (.bool (setF (fun _ => false) pl 6)) ∧ W7.cell? ⟨w.heap.size, 11, none⟩ = some (.bool (setF (fun _ => false) pl 7)) ∧ W7.cell? ⟨w.heap.size, 12, none⟩ = some (.bool (setF (fun _ => false) pl 8)) := by
      have e0' := ha7.blk
      refine ⟨?_, (eight e0').1.2.2.2.2.2.2.2, (two (hb7.box (show W6.drew.heap[b1]? = _ from hx6.h1) hM1)).1, (thirteen (f := setF (fun _ => false) pl) (hb7.box (show W6.drew.heap[w.heap.size]? = _ from hN6) hMN)).1, (thirteen (f := setF (fun _ => false) pl) (hb7.box (show W6.drew.heap[w.heap.size]? = _ from hN6) hMN)).2⟩
      exact (hb7.cell (p := ⟨b0, 0, none⟩) (World.block_lt_of_cell? _ _ hx6.h0) hM0).trans hx6.h0
    have HA7 := Lib.hid ha7
    have HB7 := Lib.hid hb7
    clear HS hN6 hx6 ha7 hb7
    go_region_held_law (fun W => W.cell? ⟨b0, 0, none⟩ = some (.pointer (some ⟨p, 0, none⟩)) ∧ W.cell? ⟨p, 7, none⟩ = some (.map (some Mb)) ∧ (W.cell? ⟨b1, 0, none⟩ = some (.int .i64 r) ∧ W.cell? ⟨b1, 1, none⟩ = some (.int .i64 q)) ∧ (W.cell? ⟨w.heap.size, 0, none⟩ = some (.int .i64 e0.k) ∧ W.cell? ⟨w.heap.size, 1, none⟩ = some (.int .i64 e0.m) ∧ W.cell? ⟨w.heap.size, 2, none⟩ = some (.int .i64 e0.n) ∧ W.cell? ⟨w.heap.size, 3, none⟩ = some (.string e0.t)) ∧ W.cell? ⟨w.heap.size, 4, none⟩ = some (.bool (setF (fun _ => false) pl 0)) ∧ W.cell? ⟨w.heap.size, 5, none⟩ = some (.bool (setF (fun _ => false) pl 1)) ∧ W.cell? ⟨w.heap.size, 6, none⟩ = some (.bool (setF (fun _ => false) pl 2)) ∧ W.cell? ⟨w.heap.size, 7, none⟩ = some (.bool (setF (fun _ => false) pl 3)) ∧ W.cell? ⟨w.heap.size, 8, none⟩ = some (.bool (setF (fun _ => false) pl 4)) ∧ W.cell? ⟨w.heap.size, 9, none⟩ = some (.bool (setF (fun _ => false) pl 5)) ∧ W.cell? ⟨w.heap.size, 10, none⟩ = some (.bool (setF (fun _ => false) pl 6)) ∧ W.cell? ⟨w.heap.size, 11, none⟩ = some (.bool (setF (fun _ => false) pl 7)) ∧ W.cell? ⟨w.heap.size, 12, none⟩ = some (.bool (setF (fun _ => false) pl 8)))
      (first | with_reducible exact z6 | with_reducible exact z7 | with_reducible exact z8)
      (fail)
    all_goals
      clear z6 z7 z8 hup
      go_wp2
      try rw [Exit.noGoto_ret]
      go_ret
      refine ⟨rfl, HA7.out, ((But.of_all HB4.out _).trans (HBu.out.mono (fun _ _ e => .inl e)) (fun _ _ e => e)).trans ((But.of_all (Below.refl _ W6).drew (SL p Mb)).trans (HB7.out.mono (fun _ _ e => .inr e)) (fun _ _ e => e)) (fun _ _ e => e)⟩
set_option maxRecDepth 100000 in
set_option maxHeartbeats 2000000 in
theorem Sm.hear1_nD {w : World} {p Mb b0 b1 b2 b3 : Nat} {s : LSt} {g : HrdM} {n : Nat} {r q : Int} {e0 : EntM} {pl : Nat} (hp : LAt w p Mb s g n) (hn : n < 1000000) (hh : HrAt w p b0 b1 b2 b3 r q e0 pl) (hM0 : b0 ≠ Mb) (hM1 : b1 ≠ Mb) (hpl : pl < 9) (hr : I64 r) (hq : I64 q) (he : e0.ok) (hg : g r q = none) (hw : wonB s.c (setF (fun _ => false) pl) = false) :
    Calls Tryd.prog 16 #[.pointer (some ⟨b0, 0, none⟩), .pointer (some ⟨b1, 0, none⟩), .pointer (some ⟨b2, 0, none⟩), .pointer (some ⟨b3, 0, none⟩)] w fun e w' => e = .returned (.int .i64 0) ∧ LAt w' p Mb s (putG g r q (e0, setF (fun _ => false) pl)) (n + 1) ∧ But (SL p Mb) w w' := by
  have HF : Hid (∀ W, Below w.heap.size w W → W.cell? ⟨b0, 0, none⟩ = some (.pointer (some ⟨p, 0, none⟩)) ∧ W.cell? ⟨p, 7, none⟩ = some (.map (some Mb)) ∧ (W.cell? ⟨b1, 0, none⟩ = some (.int .i64 r) ∧ W.cell? ⟨b1, 1, none⟩ = some (.int .i64 q)) ∧ (Instr.lookup 48 (.map (some Mb)) (.agg #[.int .i64 r, .int .i64 q]) true).run Tryd.prog W = .ok (.tuple #[.agg #[.int .i64 0, .int .i64 0, .int .i64 0, .string ⟨#[]⟩, .bool false, .bool false, .bool false, .bool false, .bool false, .bool false, .bool false, .bool false, .bool false], .bool false]) W) := Lib.hid fun W hb => by
    obtain ⟨M, K, q1, q2, q3⟩ := (hp.keep hb).map
    have k := hh.keep hb
    exact ⟨k.h0, (eight (hp.keep hb).blk).1.2.2.2.2.2.2.2, (two k.h1).1, look_none q1 q2 hg hr hq⟩
  have z0 := HF.out _ (Below.refl _ w)
  have HP := Lib.hid hp
  have HH := Lib.hid hh
  have hE : e0.ok := he
  have hplI : (pl : Int) < 9 := by omega
  have hch := hp.ch.1
  clear hp hh hg
  have hqe := neqE e0 e0
  rw [sameE_self] at hqe
  simp only [Bool.not_true] at hqe
  go_enter Tryd.func16, Tryd.ntmps16
  go_wp2
  refine wp_scope_straight ?_
  go_upto_region 1 with fail
  go_region_held_law (fun W => W.cell? ⟨b0, 0, none⟩ = some (.pointer (some ⟨p, 0, none⟩)) ∧ W.cell? ⟨p, 7, none⟩ = some (.map (some Mb)) ∧ (W.cell? ⟨b1, 0, none⟩ = some (.int .i64 r) ∧ W.cell? ⟨b1, 1, none⟩ = some (.int .i64 q)) ∧ (Instr.lookup 48 (.map (some Mb)) (.agg #[.int .i64 r, .int .i64 q]) true).run Tryd.prog W = .ok (.tuple #[.agg #[.int .i64 0, .int .i64 0, .int .i64 0, .string ⟨#[]⟩, .bool false, .bool false, .bool false, .bool false, .bool false, .bool false, .bool false, .bool false, .bool false], .bool false]) W)
    (first | with_reducible exact z0 | (refine HF.out _ ?_; repeat' (first | with_reducible assumption | with_reducible exact Below.refl _ _ | refine Below.drew ?_ | refine Below.alloc ?_ ?_ _ | refine Below.setCell ?_ ?_ _ | (simp; done) | (simp; omega))))
    (fail)
  all_goals
    obtain ⟨W1, hW1⟩ : ∃ v, (w.alloc (.cells #[.int .i64 0, .int .i64 0, .int .i64 0, .string ⟨#[]⟩, .bool false, .bool false, .bool false, .bool false, .bool false, .bool false, .bool false, .bool false, .bool false] 58)).drew = v := ⟨_, rfl⟩
    rw [hW1]
    have hb1 : Below w.heap.size w W1 := by rw [← hW1]; exact ((Below.refl _ w).alloc (Nat.le_refl _) _).drew
    have hN : W1.heap[w.heap.size]? = some (.cells #[.int .i64 0, .int .i64 0, .int .i64 0, .string ⟨#[]⟩, .bool false, .bool false, .bool false, .bool false, .bool false, .bool false, .bool false, .bool false, .bool false] 58 (0, 0)) := by rw [← hW1]; exact World.alloc_heap_new w _
    clear hW1 HF z0
    have h15 := fun W => fresh_any e0 W he.2.2.2
    obtain ⟨⟨u0, u1, u2, u3⟩, -⟩ := four (HH.out.keep hb1).h2
    have HN0 := Lib.hid hN
    have HB1 := Lib.hid hb1
    clear hN hb1
    go_upto_region 4 with (go_at_call 15; (with_reducible refine (h15 _).mono ?_); clear h15; rintro e W2 ⟨rfl, hb2⟩; have hN2 := (hb2.block _ (Array.getElem?_eq_some_iff.1 HN0.out).1).trans HN0.out; have v0 := cell_of_heap hN2 0; have v1 := cell_of_heap hN2 1; have v2 := cell_of_heap hN2 2; have v3 := cell_of_heap hN2 3; have g0 := frozen_of_heap hN2 0; have g1 := frozen_of_heap hN2 1; have g2 := frozen_of_heap hN2 2; have g3 := frozen_of_heap hN2 3; simp only [List.getElem?_toArray, List.getElem?_cons_zero, List.getElem?_cons_succ] at v0 v1 v2 v3; have HN2 := Lib.hid hN2; have HB2 : Hid (Below w.heap.size w W2) := Lib.hid (HB1.out.trans (hb2.mono HB1.out.size)); clear hb2 hN2)
    have hN : ((((W2.setCell ⟨w.heap.size, 0, none⟩ (.int .i64 e0.k)).setCell ⟨w.heap.size, 1, none⟩ (.int .i64 e0.m)).setCell ⟨w.heap.size, 2, none⟩ (.int .i64 e0.n)).setCell ⟨w.heap.size, 3, none⟩ (.string e0.t)).heap[w.heap.size]? = some (.cells #[.int .i64 e0.k, .int .i64 e0.m, .int .i64 e0.n, .string e0.t, .bool false, .bool false, .bool false, .bool false, .bool false, .bool false, .bool false, .bool false, .bool false] 58 (0, 0)) := heap_setCells (heap_setCells (heap_setCells (heap_setCells HN2.out)))
    have hb1 : Below w.heap.size w ((((W2.setCell ⟨w.heap.size, 0, none⟩ (.int .i64 e0.k)).setCell ⟨w.heap.size, 1, none⟩ (.int .i64 e0.m)).setCell ⟨w.heap.size, 2, none⟩ (.int .i64 e0.n)).setCell ⟨w.heap.size, 3, none⟩ (.string e0.t)) := bset4 HB2.out (Nat.le_refl _) _ _ _ _
    clear u0 u1 u2 u3 v0 v1 v2 v3 g0 g1 g2 g3
    generalize ((((W2.setCell ⟨w.heap.size, 0, none⟩ (.int .i64 e0.k)).setCell ⟨w.heap.size, 1, none⟩ (.int .i64 e0.m)).setCell ⟨w.heap.size, 2, none⟩ (.int .i64 e0.n)).setCell ⟨w.heap.size, 3, none⟩ (.string e0.t)) = W3 at hN hb1 ⊢
    have hh1 := HH.out.keep hb1
    obtain ⟨⟨c0, c1, c2, c3⟩, -⟩ := thirteen (f := fun _ => false) hN
    obtain ⟨⟨d0, d1, d2, d3⟩, -⟩ := four hh1.h2
    have x3 := hh1.h3
    obtain ⟨y0, y1, y2⟩ := set58 (f := fun _ => false) hN pl hpl
    have HN := Lib.hid y2
    have hb4 : Below w.heap.size w (W3.setCell ⟨w.heap.size, 4 + pl, none⟩ (.bool true)) := hb1.setCell (Nat.le_refl _) _
    have HB4 := Lib.hid hb4
    clear hb1 hb4 hN hh1 y2
    go_upto_region 6 with fail
    clear c0 c1 c2 c3 d0 d1 d2 d3 x3 y0 y1
    generalize W3.setCell ⟨w.heap.size, 4 + pl, none⟩ (.bool true) = W4 at HN HB4 ⊢
    have x0 := (HH.out.keep HB4.out).h0
    obtain ⟨-, k0, k1, k2, k3, k4, k5, k6, k7, k8⟩ := thirteen (f := setF (fun _ => false) pl) HN.out
    have h17 := won_any (setF (fun _ => false) pl) (HP.out.keep HB4.out)
    rw [hw] at h17
    go_upto_region 7 with (go_at_call 17; (with_reducible refine h17.mono ?_); clear h17 k0 k1 k2 k3 k4 k5 k6 k7 k8; rintro e W5 ⟨rfl, hb5⟩)
    have HA : Hid (LAt W5 p Mb s g n) := Lib.hid ((HP.out.keep HB4.out).keep hb5)
    have HBu : Hid (But (fun x => x = p) W4 W5) := Lib.hid (But.of_all hb5 _)
    clear hb5 x0
    have hpN : p ≠ w.heap.size := by have := HP.out.lt.1; omega
    have hMN : w.heap.size ≠ Mb := by have := HP.out.lt.2; omega
    have hN6 := HBu.out.box HN.out (fun e => hpN e.symm)
    have hx6 := (HH.out.keep HB4.out).but HBu.out
    obtain ⟨W7, hup, ha7, hb7⟩ := LAt.heard (W := W5.drew) (HA.out.keep (Below.refl _ _).drew) hn hr hq e0 (setF (fun _ => false) pl) hE
    have HS : ∀ W, LAt W p Mb (s) g n → HrAt W p b0 b1 b2 b3 r q e0 pl → W.heap[w.heap.size]? = some (.cells #[.int .i64 e0.k, .int .i64 e0.m, .int .i64 e0.n, .string e0.t, .bool ((setF (fun _ => false) pl) 0), .bool ((setF (fun _ => false) pl) 1), .bool ((setF (fun _ => false) pl) 2), .bool ((setF (fun _ => false) pl) 3), .bool ((setF (fun _ => false) pl) 4), .bool ((setF (fun _ => false) pl) 5), .bool ((setF (fun _ => false) pl) 6), .bool ((setF (fun _ => false) pl) 7), .bool ((setF (fun _ => false) pl) 8)] 58 (0, 0)) → W.cell? ⟨b0, 0, none⟩ = some (.pointer (some ⟨p, 0, none⟩)) ∧ W.cell? ⟨p, 7, none⟩ = some (.map (some Mb)) ∧ (W.cell? ⟨b1, 0, none⟩ = some (.int .i64 r) ∧ W.cell? ⟨b1, 1, none⟩ = some (.int .i64 q)) ∧ (W.cell? ⟨w.heap.size, 0, none⟩ = some (.int .i64 e0.k) ∧ W.cell? ⟨w.heap.size, 1, none⟩ = some (.int .i64 e0.m) ∧ W.cell? ⟨w.heap.size, 2, none⟩ = some (.int .i64 e0.n) ∧ W.cell? ⟨w.heap.size, 3, none⟩ = some (.string e0.t)) ∧ W.cell? ⟨w.heap.size, 4, none⟩ = some (.bool (setF (fun _ => false) pl 0)) ∧ W.cell? ⟨w.heap.size, 5, none⟩ = some (.bool (setF (fun _ => false) pl 1)) ∧ W.cell? ⟨w.heap.size, 6, none⟩ = some (.bool (setF (fun _ => false) pl 2)) ∧ W.cell? ⟨w.heap.size, 7, none⟩ = some (.bool (setF (fun _ => false) pl 3)) ∧ W.cell? ⟨w.heap.size, 8, none⟩ = some (.bool (setF (fun _ => false) pl 4)) ∧ W.cell? ⟨w.heap.size, 9, none⟩ = some (.bool (setF (fun _ => false) pl 5)) ∧ W.cell? ⟨w.heap.size, 10, none⟩ = some (.bool (setF (fun _ => false) pl 6)) ∧ W.cell? ⟨w.heap.size, 11, none⟩ = some (.bool (setF (fun _ => false) pl 7)) ∧ W.cell? ⟨w.heap.size, 12, none⟩ = some (.bool (setF (fun _ => false) pl 8)) := fun W a b c => ⟨b.h0, (eight a.blk).1.2.2.2.2.2.2.2, (two b.h1).1, (thirteen (f := setF (fun _ => false) pl) c).1, (thirteen (f := setF (fun _ => false) pl) c).2⟩
    have z6 := HS _ HA.out hx6 hN6
    have z7 := HS _ (HA.out.keep (Below.refl _ _).drew) (hx6.keep (Below.refl _ _).drew) hN6
    have z8 : W7.cell? ⟨b0, 0, none⟩ = some (.pointer (some ⟨p, 0, none⟩)) ∧ W7.cell? ⟨p, 7, none⟩ = some (.map (some Mb)) ∧ (W7.cell? ⟨b1, 0, none⟩ = some (.int .i64 r) ∧ W7.cell? ⟨b1, 1, none⟩ = some (.int .i64 q)) ∧ (W7.cell? ⟨w.heap.size, 0, none⟩ = some (.int .i64 e0.k) ∧ W7.cell? ⟨w.heap.size, 1, none⟩ = some (.int .i64 e0.m) ∧ W7.cell? ⟨w.heap.size, 2, none⟩ = some (.int .i64 e0.n) ∧ W7.cell? ⟨w.heap.size, 3, none⟩ = some (.string e0.t)) ∧ W7.cell? ⟨w.heap.size, 4, none⟩ = some (.bool (setF (fun _ => false) pl 0)) ∧ W7.cell? ⟨w.heap.size, 5, none⟩ = some (.bool (setF (fun _ => false) pl 1)) ∧ W7.cell? ⟨w.heap.size, 6, none⟩ = some (.bool (setF (fun _ => false) pl 2)) ∧ W7.cell? ⟨w.heap.size, 7, none⟩ = some (.bool (setF (fun _ => false) pl 3)) ∧ W7.cell? ⟨w.heap.size, 8, none⟩ = some (.bool (setF (fun _ => false) pl 4)) ∧ W7.cell? ⟨w.heap.size, 9, none⟩ = some (.bool (setF (fun _ => false) pl 5)) ∧ W7.cell? ⟨w.heap.size, 10, none⟩ = some (.bool (setF (fun _ => false) pl 6)) ∧ W7.cell? ⟨w.heap.size, 11, none⟩ = some (.bool (setF (fun _ => false) pl 7)) ∧ W7.cell? ⟨w.heap.size, 12, none⟩ = some (.bool (setF (fun _ => false) pl 8)) := by
      have e0' := ha7.blk
      refine ⟨?_, (eight e0').1.2.2.2.2.2.2.2, (two (hb7.box (show W5.drew.heap[b1]? = _ from hx6.h1) hM1)).1, (thirteen (f := setF (fun _ => false) pl) (hb7.box (show W5.drew.heap[w.heap.size]? = _ from hN6) hMN)).1, (thirteen (f := setF (fun _ => false) pl) (hb7.box (show W5.drew.heap[w.heap.size]? = _ from hN6) hMN)).2⟩
      exact (hb7.cell (p := ⟨b0, 0, none⟩) (World.block_lt_of_cell? _ _ hx6.h0) hM0).trans hx6.h0
    have HA7 := Lib.hid ha7
    have HB7 := Lib.hid hb7
    clear HS hN6 hx6 ha7 hb7
    go_region_held_law (fun W => W.cell? ⟨b0, 0, none⟩ = some (.pointer (some ⟨p, 0, none⟩)) ∧ W.cell? ⟨p, 7, none⟩ = some (.map (some Mb)) ∧ (W.cell? ⟨b1, 0, none⟩ = some (.int .i64 r) ∧ W.cell? ⟨b1, 1, none⟩ = some (.int .i64 q)) ∧ (W.cell? ⟨w.heap.size, 0, none⟩ = some (.int .i64 e0.k) ∧ W.cell? ⟨w.heap.size, 1, none⟩ = some (.int .i64 e0.m) ∧ W.cell? ⟨w.heap.size, 2, none⟩ = some (.int .i64 e0.n) ∧ W.cell? ⟨w.heap.size, 3, none⟩ = some (.string e0.t)) ∧ W.cell? ⟨w.heap.size, 4, none⟩ = some (.bool (setF (fun _ => false) pl 0)) ∧ W.cell? ⟨w.heap.size, 5, none⟩ = some (.bool (setF (fun _ => false) pl 1)) ∧ W.cell? ⟨w.heap.size, 6, none⟩ = some (.bool (setF (fun _ => false) pl 2)) ∧ W.cell? ⟨w.heap.size, 7, none⟩ = some (.bool (setF (fun _ => false) pl 3)) ∧ W.cell? ⟨w.heap.size, 8, none⟩ = some (.bool (setF (fun _ => false) pl 4)) ∧ W.cell? ⟨w.heap.size, 9, none⟩ = some (.bool (setF (fun _ => false) pl 5)) ∧ W.cell? ⟨w.heap.size, 10, none⟩ = some (.bool (setF (fun _ => false) pl 6)) ∧ W.cell? ⟨w.heap.size, 11, none⟩ = some (.bool (setF (fun _ => false) pl 7)) ∧ W.cell? ⟨w.heap.size, 12, none⟩ = some (.bool (setF (fun _ => false) pl 8)))
      (first | with_reducible exact z6 | with_reducible exact z7 | with_reducible exact z8)
      (fail)
    all_goals
      clear z6 z7 z8 hup
      go_wp2
      try rw [Exit.noGoto_ret]
      go_ret
      refine ⟨rfl, HA7.out, ((But.of_all HB4.out _).trans (HBu.out.mono (fun _ _ e => .inl e)) (fun _ _ e => e)).trans ((But.of_all (Below.refl _ W5).drew (SL p Mb)).trans (HB7.out.mono (fun _ _ e => .inr e)) (fun _ _ e => e)) (fun _ _ e => e)⟩
end Go.Proofs
