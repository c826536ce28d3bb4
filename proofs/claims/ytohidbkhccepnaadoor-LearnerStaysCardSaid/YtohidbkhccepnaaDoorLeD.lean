/-
  learner: know. Conditions: as each theorem names them.
-/
import Derived.WalkMore
import Derived.ScopeJumps
import Derived.BigQuiet
import Derived.Test.YtohidbkhccepnaaDoorLeC
namespace Go.Proofs
open Go Go.RowKit Sm Go.Lib
attribute [local go_sem] Oper.semAt_some
/-- a scope that is left ahead to one label at most -/
theorem Sm.wp_scope_fwd {P : Program} {a : Act} {w : World} {Q : Exit → Act → World → Prop} {c rest : Code} (l : Nat) (hf : findLabel c l = some rest) (h : c.wp P (Exit.jump l (fun a' w' => rest.wp P (Exit.noGoto Q) a' w') Q) a w) : (Code.scope c).wp P Q a w :=
  wp_scope_jumps l (fun a' w' => rest.wp P (Exit.noGoto Q) a' w') (fun _ _ => 0) hf h (fun a' w' hj => wp_mono hj (fun e a'' w'' hq => by cases e <;> first | exact hq | exact False.elim hq))
/-- may nothing else be known -/
def Sm.fits (s : LSt) (e : EntM) : Bool := !s.kn || sameE s.e e
/-- it is known -/
def Sm.LSt.knows (s : LSt) (e : EntM) : LSt := { s with e := e, kn := true }
theorem Sm.neqE (a b : EntM) (W : World) : (binOp .neq 33 (.agg #[.int .i64 a.k, .int .i64 a.m, .int .i64 a.n, .string a.t]) (.agg #[.int .i64 b.k, .int .i64 b.m, .int .i64 b.n, .string b.t])).run Tryd.prog W = .ok (.bool (!sameE a b)) W := neq34 W a.k b.k a.m b.m a.n b.n a.t b.t
set_option maxRecDepth 100000 in
set_option maxHeartbeats 1000000 in
theorem Sm.know_no {w : World} {p Mb : Nat} {s : LSt} {g : HrdM} {n : Nat} (e0 : EntM) (hp : LAt w p Mb s g n) (hk : s.kn = true) (hne : sameE s.e e0 = false) :
    Calls Tryd.prog 18 #[.pointer (some ⟨p, 0, none⟩), .agg #[.int .i64 e0.k, .int .i64 e0.m, .int .i64 e0.n, .string e0.t]] w fun e w' => e = .returned (.int .i64 260) ∧ Below w.heap.size w w' := by
  have hq := neqE s.e e0
  rw [hne] at hq
  simp only [Bool.not_false] at hq
  obtain ⟨W1, hW1⟩ : ∃ v, w.alloc (.cells #[.int .i64 e0.k, .int .i64 e0.m, .int .i64 e0.n, .string e0.t] 33) = v := ⟨_, rfl⟩
  have q0 : W1.heap[w.heap.size]? = some (.cells #[.int .i64 e0.k, .int .i64 e0.m, .int .i64 e0.n, .string e0.t] 33 (0, 0)) := by rw [← hW1]; exact World.alloc_heap_new w _
  have hb0 : Below w.heap.size w W1 := by rw [← hW1]; exact (Below.refl _ w).alloc (Nat.le_refl _) _
  have hp1 := hp.keep hb0
  clear hp hne
  obtain ⟨c, sl, ⟨k, m, x, t⟩, kn⟩ := s
  obtain ⟨k', m', x', t'⟩ := e0
  simp only at hq hW1 q0 hk ⊢
  subst hk
  have HB0 := Lib.hid hb0
  have l0 := (Array.getElem?_eq_some_iff.1 q0).1
  have lp := hp1.lt.1
  have HF : Hid (∀ W, Below W1.heap.size W1 W → (W.cell? ⟨p, 2, none⟩ = some (.int .i64 k) ∧ W.cell? ⟨p, 3, none⟩ = some (.int .i64 m) ∧ W.cell? ⟨p, 4, none⟩ = some (.int .i64 x) ∧ W.cell? ⟨p, 5, none⟩ = some (.string t) ∧ W.cell? ⟨p, 6, none⟩ = some (.bool true))
      ∧ W.cell? ⟨w.heap.size, 0, none⟩ = some (.int .i64 k') ∧ W.cell? ⟨w.heap.size, 1, none⟩ = some (.int .i64 m') ∧ W.cell? ⟨w.heap.size, 2, none⟩ = some (.int .i64 x') ∧ W.cell? ⟨w.heap.size, 3, none⟩ = some (.string t')) := Lib.hid fun W hb => by
    obtain ⟨⟨_, _, c2, c3, c4, c5, c6, _⟩, -⟩ := eight ((hb.block _ lp).trans hp1.blk)
    exact ⟨⟨c2, c3, c4, c5, c6⟩, (four ((hb.block _ l0).trans q0)).1⟩
  have z0 := HF.out _ (Below.refl _ W1)
  clear hb0 q0 hp1
  go_enter Tryd.func18, Tryd.ntmps18
  go_wp2
  refine wp_scope_fwd 0 rfl ?_
  go_upto_region 1 with fail
  clear hW1
  go_region_held_law (fun W => (W.cell? ⟨p, 2, none⟩ = some (.int .i64 k) ∧ W.cell? ⟨p, 3, none⟩ = some (.int .i64 m) ∧ W.cell? ⟨p, 4, none⟩ = some (.int .i64 x) ∧ W.cell? ⟨p, 5, none⟩ = some (.string t) ∧ W.cell? ⟨p, 6, none⟩ = some (.bool true))
      ∧ W.cell? ⟨w.heap.size, 0, none⟩ = some (.int .i64 k') ∧ W.cell? ⟨w.heap.size, 1, none⟩ = some (.int .i64 m') ∧ W.cell? ⟨w.heap.size, 2, none⟩ = some (.int .i64 x') ∧ W.cell? ⟨w.heap.size, 3, none⟩ = some (.string t'))
    (first | with_reducible exact z0 | (refine HF.out _ ?_; (first | with_reducible assumption | with_reducible exact (Below.refl _ _).drew | with_reducible exact Below.refl _ _)))
    (fail)
  all_goals
    go_wp2
    go_step3
    refine ⟨rfl, ?_⟩
    go_wp2
    try rw [Exit.noGoto_ret]
    go_ret
    exact ⟨rfl, HB0.out.drew⟩
theorem Sm.LAt.told {w : World} {p Mb : Nat} {s : LSt} {g : HrdM} {n : Nat} (h : LAt w p Mb s g n) (e0 : EntM) (he : e0.ok) :
    LAt (((((w.setCell ⟨p, 2, none⟩ (.int .i64 e0.k)).setCell ⟨p, 3, none⟩ (.int .i64 e0.m)).setCell ⟨p, 4, none⟩ (.int .i64 e0.n)).setCell ⟨p, 5, none⟩ (.string e0.t)).setCell ⟨p, 6, none⟩ (.bool true)) p Mb (s.knows e0) g n
    ∧ But (fun q => q = p) w (((((w.setCell ⟨p, 2, none⟩ (.int .i64 e0.k)).setCell ⟨p, 3, none⟩ (.int .i64 e0.m)).setCell ⟨p, 4, none⟩ (.int .i64 e0.n)).setCell ⟨p, 5, none⟩ (.string e0.t)).setCell ⟨p, 6, none⟩ (.bool true)) := by
  have hb : But (fun q => q = p) w (((((w.setCell ⟨p, 2, none⟩ (.int .i64 e0.k)).setCell ⟨p, 3, none⟩ (.int .i64 e0.m)).setCell ⟨p, 4, none⟩ (.int .i64 e0.n)).setCell ⟨p, 5, none⟩ (.string e0.t)).setCell ⟨p, 6, none⟩ (.bool true)) :=
    (((((But.refl (fun q => q = p) w).set ⟨p, 2, none⟩ _ (.inl rfl)).set ⟨p, 3, none⟩ _ (.inl rfl)).set ⟨p, 4, none⟩ _ (.inl rfl)).set ⟨p, 5, none⟩ _ (.inl rfl)).set ⟨p, 6, none⟩ _ (.inl rfl)
  refine ⟨⟨heap_setCells (heap_setCells (heap_setCells (heap_setCells (heap_setCells h.blk)))), ?_, h.ne, h.ch, he⟩, hb⟩
  obtain ⟨M, K, q1, q2⟩ := h.map
  exact ⟨M, K, map_keep q1 (hb.block _ q1.lt (fun e => h.ne e.symm)), q2⟩
set_option maxRecDepth 100000 in
set_option maxHeartbeats 1000000 in
theorem Sm.know_yes1 {w : World} {p Mb : Nat} {s : LSt} {g : HrdM} {n : Nat} (e0 : EntM) (hp : LAt w p Mb s g n) (hk : s.kn = false) (he : e0.ok) :
    Calls Tryd.prog 18 #[.pointer (some ⟨p, 0, none⟩), .agg #[.int .i64 e0.k, .int .i64 e0.m, .int .i64 e0.n, .string e0.t]] w fun e w' => e = .returned (.int .i64 0) ∧ LAt w' p Mb (s.knows e0) g n ∧ But (fun q => q = p) w w' := by
  have h15 := fun W => fresh_any e0 W he.2.2.2
  obtain ⟨W1, hW1⟩ : ∃ v, w.alloc (.cells #[.int .i64 e0.k, .int .i64 e0.m, .int .i64 e0.n, .string e0.t] 33) = v := ⟨_, rfl⟩
  have q0 : W1.heap[w.heap.size]? = some (.cells #[.int .i64 e0.k, .int .i64 e0.m, .int .i64 e0.n, .string e0.t] 33 (0, 0)) := by rw [← hW1]; exact World.alloc_heap_new w _
  have hb0 : Below w.heap.size w W1 := by rw [← hW1]; exact (Below.refl _ w).alloc (Nat.le_refl _) _
  have hp1 := hp.keep hb0
  clear hp
  have HT : Hid (∀ W, Below W1.heap.size W1 W → LAt W p Mb s g n) := Lib.hid fun W hb => hp1.keep hb
  have HB0 : Hid (∀ W, Below W1.heap.size W1 W → But (fun q => q = p) w W) := Lib.hid fun W hb => But.of_all (hb0.trans (hb.mono hb0.size)) _
  have HT2 : Hid (∀ W, LAt W p Mb s g n → LAt (((((W.setCell ⟨p, 2, none⟩ (.int .i64 e0.k)).setCell ⟨p, 3, none⟩ (.int .i64 e0.m)).setCell ⟨p, 4, none⟩ (.int .i64 e0.n)).setCell ⟨p, 5, none⟩ (.string e0.t)).setCell ⟨p, 6, none⟩ (.bool true)) p Mb (s.knows e0) g n
    ∧ But (fun q => q = p) W (((((W.setCell ⟨p, 2, none⟩ (.int .i64 e0.k)).setCell ⟨p, 3, none⟩ (.int .i64 e0.m)).setCell ⟨p, 4, none⟩ (.int .i64 e0.n)).setCell ⟨p, 5, none⟩ (.string e0.t)).setCell ⟨p, 6, none⟩ (.bool true))) := Lib.hid fun W h => h.told e0 he
  obtain ⟨c, sl, ⟨k, m, x, t⟩, kn⟩ := s
  obtain ⟨k', m', x', t'⟩ := e0
  simp only at h15 hW1 q0 hk HT HT2 ⊢
  subst hk
  have l0 := (Array.getElem?_eq_some_iff.1 q0).1
  have lp := hp1.lt.1
  have HF : Hid (∀ W, Below W1.heap.size W1 W → (W.cell? ⟨p, 2, none⟩ = some (.int .i64 k) ∧ W.cell? ⟨p, 3, none⟩ = some (.int .i64 m) ∧ W.cell? ⟨p, 4, none⟩ = some (.int .i64 x) ∧ W.cell? ⟨p, 5, none⟩ = some (.string t) ∧ W.cell? ⟨p, 6, none⟩ = some (.bool false))
      ∧ W.cell? ⟨w.heap.size, 0, none⟩ = some (.int .i64 k') ∧ W.cell? ⟨w.heap.size, 1, none⟩ = some (.int .i64 m') ∧ W.cell? ⟨w.heap.size, 2, none⟩ = some (.int .i64 x') ∧ W.cell? ⟨w.heap.size, 3, none⟩ = some (.string t')) := Lib.hid fun W hb => by
    obtain ⟨⟨_, _, c2, c3, c4, c5, c6, _⟩, -⟩ := eight ((hb.block _ lp).trans hp1.blk)
    exact ⟨⟨c2, c3, c4, c5, c6⟩, (four ((hb.block _ l0).trans q0)).1⟩
  have z0 := HF.out _ (Below.refl _ W1)
  clear hb0 q0 hp1
  go_enter Tryd.func18, Tryd.ntmps18
  go_wp2
  refine wp_scope_straight ?_
  go_upto_region 1 with fail
  clear hW1
  obtain ⟨⟨a2, a3, a4, a5, a6⟩, d0, d1, d2, d3⟩ := z0
  go_quiet (fail)
  have hb2 : Below W1.heap.size W1 (W1.drewN nq) := below_drewN _ _
  clear a2 a3 a4 a5 a6 d0 d1 d2 d3
  generalize W1.drewN nq = W2 at hb2 ⊢
  obtain ⟨-, d0, d1, d2, d3⟩ := HF.out _ hb2
  go_wp2_with (go_at_call 15; (with_reducible refine (h15 _).mono ?_); rintro e w3 ⟨rfl, hb3⟩; have hb3 : Below W1.heap.size W1 w3 := hb2.trans (hb3.mono hb2.size); have HA := Lib.hid (HT.out _ hb3); obtain ⟨⟨_, _, y2, y3, y4, y5, y6, _⟩, ⟨_, _, g2, g3, g4, g5, g6, _⟩⟩ := eight HA.out.blk; have HBB := Lib.hid (HB0.out _ hb3))
  try rw [Exit.noGoto_ret]
  go_ret
  obtain ⟨z1, z2⟩ := HT2.out _ HA.out
  exact ⟨rfl, z1, HBB.out.trans z2 (fun _ _ e => e)⟩
set_option maxRecDepth 100000 in
set_option maxHeartbeats 1000000 in
theorem Sm.know_yes2 {w : World} {p Mb : Nat} {s : LSt} {g : HrdM} {n : Nat} (e0 : EntM) (hp : LAt w p Mb s g n) (hk : s.kn = true) (hsame : sameE s.e e0 = true) (he : e0.ok) :
    Calls Tryd.prog 18 #[.pointer (some ⟨p, 0, none⟩), .agg #[.int .i64 e0.k, .int .i64 e0.m, .int .i64 e0.n, .string e0.t]] w fun e w' => e = .returned (.int .i64 0) ∧ LAt w' p Mb (s.knows e0) g n ∧ But (fun q => q = p) w w' := by
  have hq := neqE s.e e0
  rw [hsame] at hq
  simp only [Bool.not_true] at hq
  clear hsame
  have h15 := fun W => fresh_any e0 W he.2.2.2
  obtain ⟨W1, hW1⟩ : ∃ v, w.alloc (.cells #[.int .i64 e0.k, .int .i64 e0.m, .int .i64 e0.n, .string e0.t] 33) = v := ⟨_, rfl⟩
  have q0 : W1.heap[w.heap.size]? = some (.cells #[.int .i64 e0.k, .int .i64 e0.m, .int .i64 e0.n, .string e0.t] 33 (0, 0)) := by rw [← hW1]; exact World.alloc_heap_new w _
  have hb0 : Below w.heap.size w W1 := by rw [← hW1]; exact (Below.refl _ w).alloc (Nat.le_refl _) _
  have hp1 := hp.keep hb0
  clear hp
  have HT : Hid (∀ W, Below W1.heap.size W1 W → LAt W p Mb s g n) := Lib.hid fun W hb => hp1.keep hb
  have HB0 : Hid (∀ W, Below W1.heap.size W1 W → But (fun q => q = p) w W) := Lib.hid fun W hb => But.of_all (hb0.trans (hb.mono hb0.size)) _
  have HT2 : Hid (∀ W, LAt W p Mb s g n → LAt (((((W.setCell ⟨p, 2, none⟩ (.int .i64 e0.k)).setCell ⟨p, 3, none⟩ (.int .i64 e0.m)).setCell ⟨p, 4, none⟩ (.int .i64 e0.n)).setCell ⟨p, 5, none⟩ (.string e0.t)).setCell ⟨p, 6, none⟩ (.bool true)) p Mb (s.knows e0) g n
    ∧ But (fun q => q = p) W (((((W.setCell ⟨p, 2, none⟩ (.int .i64 e0.k)).setCell ⟨p, 3, none⟩ (.int .i64 e0.m)).setCell ⟨p, 4, none⟩ (.int .i64 e0.n)).setCell ⟨p, 5, none⟩ (.string e0.t)).setCell ⟨p, 6, none⟩ (.bool true))) := Lib.hid fun W h => h.told e0 he
  obtain ⟨c, sl, ⟨k, m, x, t⟩, kn⟩ := s
  obtain ⟨k', m', x', t'⟩ := e0
  simp only at h15 hq hW1 q0 hk HT HT2 ⊢
  subst hk
  have l0 := (Array.getElem?_eq_some_iff.1 q0).1
  have lp := hp1.lt.1
  have HF : Hid (∀ W, Below W1.heap.size W1 W → (W.cell? ⟨p, 2, none⟩ = some (.int .i64 k) ∧ W.cell? ⟨p, 3, none⟩ = some (.int .i64 m) ∧ W.cell? ⟨p, 4, none⟩ = some (.int .i64 x) ∧ W.cell? ⟨p, 5, none⟩ = some (.string t) ∧ W.cell? ⟨p, 6, none⟩ = some (.bool true))
      ∧ W.cell? ⟨w.heap.size, 0, none⟩ = some (.int .i64 k') ∧ W.cell? ⟨w.heap.size, 1, none⟩ = some (.int .i64 m') ∧ W.cell? ⟨w.heap.size, 2, none⟩ = some (.int .i64 x') ∧ W.cell? ⟨w.heap.size, 3, none⟩ = some (.string t')) := Lib.hid fun W hb => by
    obtain ⟨⟨_, _, c2, c3, c4, c5, c6, _⟩, -⟩ := eight ((hb.block _ lp).trans hp1.blk)
    exact ⟨⟨c2, c3, c4, c5, c6⟩, (four ((hb.block _ l0).trans q0)).1⟩
  have z0 := HF.out _ (Below.refl _ W1)
  clear hb0 q0 hp1
  go_enter Tryd.func18, Tryd.ntmps18
  go_wp2
  refine wp_scope_straight ?_
  go_upto_region 1 with fail
  clear hW1
  obtain ⟨⟨a2, a3, a4, a5, a6⟩, d0, d1, d2, d3⟩ := z0
  go_quiet (fail)
  have hb2 : Below W1.heap.size W1 (W1.drewN nq) := below_drewN _ _
  clear a2 a3 a4 a5 a6 d0 d1 d2 d3
  generalize W1.drewN nq = W2 at hb2 ⊢
  obtain ⟨-, d0, d1, d2, d3⟩ := HF.out _ hb2
  go_wp2_with (go_at_call 15; (with_reducible refine (h15 _).mono ?_); rintro e w3 ⟨rfl, hb3⟩; have hb3 : Below W1.heap.size W1 w3 := hb2.trans (hb3.mono hb2.size); have HA := Lib.hid (HT.out _ hb3); obtain ⟨⟨_, _, y2, y3, y4, y5, y6, _⟩, ⟨_, _, g2, g3, g4, g5, g6, _⟩⟩ := eight HA.out.blk; have HBB := Lib.hid (HB0.out _ hb3))
  try rw [Exit.noGoto_ret]
  go_ret
  obtain ⟨z1, z2⟩ := HT2.out _ HA.out
  exact ⟨rfl, z1, HBB.out.trans z2 (fun _ _ e => e)⟩
theorem Sm.know_yes {w : World} {p Mb : Nat} {s : LSt} {g : HrdM} {n : Nat} (e0 : EntM) (hp : LAt w p Mb s g n) (hf : fits s e0 = true) (he : e0.ok) :
    Calls Tryd.prog 18 #[.pointer (some ⟨p, 0, none⟩), .agg #[.int .i64 e0.k, .int .i64 e0.m, .int .i64 e0.n, .string e0.t]] w fun e w' => e = .returned (.int .i64 0) ∧ LAt w' p Mb (s.knows e0) g n ∧ But (fun q => q = p) w w' := by
  unfold fits at hf
  cases hk : s.kn with
  | false => exact know_yes1 e0 hp hk he
  | true => exact know_yes2 e0 hp hk (by rw [hk] at hf; simpa using hf) he
end Go.Proofs
