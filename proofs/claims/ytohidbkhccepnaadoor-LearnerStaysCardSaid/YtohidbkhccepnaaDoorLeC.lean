/-
  learner: whole, there, fresh, Chosen, won. Conditions: as each theorem names them.
-/
import Derived.Test.YtohidbkhccepnaaDoorLeB
namespace Go.Proofs
open Go Go.RowKit Sm Go.Lib
attribute [local go_sem] Oper.semAt_some
set_option maxRecDepth 100000 in
theorem Sm.whole_any {w : World} {p Mb : Nat} {s : LSt} {g : HrdM} {n : Nat} (hp : LAt w p Mb s g n) :
    Calls Tryd.prog 14 #[.pointer (some ⟨p, 0, none⟩)] w fun e w' => e = .returned (.agg #[.int .i64 s.c, .int .i64 s.s, .int .i64 s.e.k, .int .i64 s.e.m, .int .i64 s.e.n, .string s.e.t, .bool s.kn, .map (some Mb)]) ∧ Below w.heap.size w w' := by
  obtain ⟨⟨c0, c1, c2, c3, c4, c5, c6, c7⟩, _⟩ := eight hp.blk
  have hl := hp.lt.1
  have hb0 : ∀ X t, Below w.heap.size w (w.alloc (.cells X t)) := fun X t => (Below.refl _ w).alloc (Nat.le_refl _) _
  clear hp
  go_enter Tryd.func14, Tryd.ntmps14
  go_wp2
  refine bodyPost_ret (v := .agg #[.int .i64 s.c, .int .i64 s.s, .int .i64 s.e.k, .int .i64 s.e.m, .int .i64 s.e.n, .string s.e.t, .bool s.kn, .map (some Mb)]) (by simp [results, Tryd.results14, go_sem]) rfl ⟨rfl, hb0 _ _⟩
theorem Sm.chB_ne {c : Int} (h : chB c = true) : (c != 0) = true := by
  rcases chB_iff.1 h with e | e | e | e <;> (subst e; rfl)
set_option maxRecDepth 100000 in
theorem Sm.there_any {w : World} {p Mb : Nat} {s : LSt} {g : HrdM} {n : Nat} (hp : LAt w p Mb s g n) :
    Calls Tryd.prog 31 #[.pointer (some ⟨p, 0, none⟩)] w fun e w' => e = .returned (.bool true) ∧ Below w.heap.size w w' := by
  have h1 := whole_any hp
  have e1 := chB_ne hp.ch.1
  have hf : ∀ w, (Instr.field 52 (.agg #[.int .i64 s.c, .int .i64 s.s, .int .i64 s.e.k, .int .i64 s.e.m, .int .i64 s.e.n, .string s.e.t, .bool s.kn, .map (some Mb)]) 0).run Tryd.prog w = .ok (.int .i64 s.c) w := fun _ => by kernel_rfl
  clear hp
  go_enter Tryd.func31, Tryd.ntmps31
  go_wp2_with (go_at_call 14; (with_reducible refine h1.mono ?_); rintro e w1 ⟨rfl, hb1⟩)
  go_ret
  exact ⟨rfl, hb1⟩
theorem Sm.heapO {w : World} {b : Nat} {p : Addr} {u : Value} {o : Option Obj} (h : w.heap[b]? = o) (hn : b ≠ p.block) : (w.setCell p u).heap[b]? = o := (Below.heap_setCell w p u b hn).trans h
theorem Sm.set4 {w : World} {p : Nat} {a b c d : Value} {t : TypeId} (h : w.heap[p]? = some (.cells #[a, b, c, d] t (0, 0))) (a' b' c' d' : Value) :
    ((((w.setCell ⟨p, 0, none⟩ a').setCell ⟨p, 1, none⟩ b').setCell ⟨p, 2, none⟩ c').setCell ⟨p, 3, none⟩ d').heap[p]? = some (.cells #[a', b', c', d'] t (0, 0)) :=
  heap_setCells (heap_setCells (heap_setCells (heap_setCells h)))
theorem Sm.bset4 {N : Nat} {w w1 : World} {p : Nat} (h : Below N w w1) (hp : N ≤ p) (a' b' c' d' : Value) :
    Below N w ((((w1.setCell ⟨p, 0, none⟩ a').setCell ⟨p, 1, none⟩ b').setCell ⟨p, 2, none⟩ c').setCell ⟨p, 3, none⟩ d') :=
  (((h.setCell hp _).setCell hp _).setCell hp _).setCell hp _
set_option maxRecDepth 100000 in
theorem Sm.fresh_any (e0 : EntM) (w : World) (h : e0.t.size ≤ 1000000) :
    Calls Tryd.prog 15 #[.agg #[.int .i64 e0.k, .int .i64 e0.m, .int .i64 e0.n, .string e0.t]] w fun e w' => e = .returned (.agg #[.int .i64 e0.k, .int .i64 e0.m, .int .i64 e0.n, .string e0.t]) ∧ Below w.heap.size w w' := by
  have h1 := fun W => Clone_any e0.t W h
  obtain ⟨k, m, n, t⟩ := e0
  simp only at h1 ⊢
  obtain ⟨W1, hW1⟩ : ∃ v, (w.alloc (.cells #[.int .i64 k, .int .i64 m, .int .i64 n, .string t] 33)).alloc (.cells #[.int .i64 0, .int .i64 0, .int .i64 0, .string ⟨#[]⟩] 33) = v := ⟨_, rfl⟩
  have q0 : W1.heap[w.heap.size]? = some (.cells #[.int .i64 k, .int .i64 m, .int .i64 n, .string t] 33 (0, 0)) := by
    rw [← hW1]; exact (Below.heap_alloc _ _ _ (by simp)).trans (World.alloc_heap_new w _)
  have q1 : W1.heap[w.heap.size + 1]? = some (.cells #[.int .i64 0, .int .i64 0, .int .i64 0, .string ⟨#[]⟩] 33 (0, 0)) := by
    rw [← hW1]; have := World.alloc_heap_new (w.alloc (.cells #[.int .i64 k, .int .i64 m, .int .i64 n, .string t] 33)) (.cells #[.int .i64 0, .int .i64 0, .int .i64 0, .string ⟨#[]⟩] 33); rwa [World.size_alloc] at this
  have hb0 : Below w.heap.size w W1 := by rw [← hW1]; exact ((Below.refl _ w).alloc (Nat.le_refl _) _).alloc (by simp) _
  have l0 := (Array.getElem?_eq_some_iff.1 q0).1
  have l1 := (Array.getElem?_eq_some_iff.1 q1).1
  have HF : Hid (∀ W, Below W1.heap.size W1 W → W.heap[w.heap.size]? = some (.cells #[.int .i64 k, .int .i64 m, .int .i64 n, .string t] 33 (0, 0)) ∧ W.heap[w.heap.size + 1]? = some (.cells #[.int .i64 0, .int .i64 0, .int .i64 0, .string ⟨#[]⟩] 33 (0, 0)) ∧ Below w.heap.size w W) :=
    Lib.hid fun W hb => ⟨(hb.block _ l0).trans q0, (hb.block _ l1).trans q1, hb0.trans (hb.mono hb0.size)⟩
  obtain ⟨⟨c0, c1, c2, c3⟩, -⟩ := four q0
  clear q0 q1 hb0
  go_enter Tryd.func15, Tryd.ntmps15
  go_wp2_with (go_at_call 28; (with_reducible refine (h1 _).mono ?_); rintro e w2 ⟨rfl, hb2⟩; have h72 := HF.out _ hb2; obtain ⟨⟨x0, x1, x2, x3⟩, ⟨f0, f1, f2, f3⟩⟩ := four h72.1; obtain ⟨⟨y0, y1, y2, y3⟩, ⟨g0, g1, g2, g3⟩⟩ := four h72.2.1; have H72 := Lib.hid h72; clear hb2 h72 hW1 c0 c1 c2 c3)
  have h6 := set4 (heapO (p := ⟨w.heap.size, 3, none⟩) (u := .string t) H72.out.2.1 (by simp)) (.int .i64 k) (.int .i64 m) (.int .i64 n) (.string t)
  obtain ⟨⟨z0, z1, z2, z3⟩, -⟩ := four h6
  clear x0 x1 x2 x3 y0 y1 y2 y3 f0 f1 f2 f3 g0 g1 g2 g3
  refine bodyPost_ret (v := .agg #[.int .i64 k, .int .i64 m, .int .i64 n, .string t]) (by simp only [results, Tryd.results15]; simp [go_sem, z0, z1, z2, z3]) rfl ⟨rfl, ?_⟩
  exact bset4 (H72.out.2.2.setCell (Nat.le_refl _) _) (by omega) _ _ _ _
set_option maxRecDepth 100000 in
set_option maxHeartbeats 1000000 in
/-- Chosen: what is known -/
theorem Sm.Chosen_any {w : World} {p Mb : Nat} {s : LSt} {g : HrdM} {n : Nat} (hp : LAt w p Mb s g n) :
    Calls Tryd.prog 8 #[.pointer (some ⟨p, 0, none⟩)] w fun e w' => e = .returned (.tuple #[.agg #[.int .i64 s.e.k, .int .i64 s.e.m, .int .i64 s.e.n, .string s.e.t], .bool s.kn]) ∧ Below w.heap.size w w' := by
  have hs := hp.ok.2.2.2
  obtain ⟨c, sl, ⟨k, m, x, t⟩, kn⟩ := s
  simp only at hs ⊢
  obtain ⟨W1, hW1⟩ : ∃ v, w.alloc (.cells #[.int .i64 0, .int .i64 0, .int .i64 0, .string ⟨#[]⟩] 33) = v := ⟨_, rfl⟩
  have q0 : W1.heap[w.heap.size]? = some (.cells #[.int .i64 0, .int .i64 0, .int .i64 0, .string ⟨#[]⟩] 33 (0, 0)) := by
    rw [← hW1]; exact World.alloc_heap_new w _
  have hb0 : Below w.heap.size w W1 := by rw [← hW1]; exact (Below.refl _ w).alloc (Nat.le_refl _) _
  have h1 := whole_any (hp.keep hb0)
  have l0 := (Array.getElem?_eq_some_iff.1 q0).1
  have h15 := fun W => fresh_any ⟨k, m, x, t⟩ W hs
  simp only at h15
  clear hp
  go_enter Tryd.func8, Tryd.ntmps8
  go_upto_region 2 with (go_at_call 14; (with_reducible refine h1.mono ?_); clear h1; rintro e w1 ⟨rfl, hb1⟩; clear hW1)
  obtain ⟨W2, hW2⟩ : ∃ v, w1.alloc (.cells #[.int .i64 c, .int .i64 sl, .int .i64 k, .int .i64 m, .int .i64 x, .string t, .bool kn, .map (some Mb)] 52) = v := ⟨_, rfl⟩
  have r0 : W2.heap[w1.heap.size]? = some (.cells #[.int .i64 c, .int .i64 sl, .int .i64 k, .int .i64 m, .int .i64 x, .string t, .bool kn, .map (some Mb)] 52 (0, 0)) := by
    rw [← hW2]; exact World.alloc_heap_new w1 _
  have hb2 : Below W1.heap.size W1 W2 := by rw [← hW2]; exact hb1.trans (((Below.refl _ w1).alloc (Nat.le_refl _) _).mono hb1.size)
  have lr := (Array.getElem?_eq_some_iff.1 r0).1
  have hs1 := hb1.size
  have hs2 := hb2.size
  have HF : Hid (∀ W, Below W2.heap.size W2 W → (W.cell? ⟨w1.heap.size, 2, none⟩ = some (.int .i64 k) ∧ W.cell? ⟨w1.heap.size, 3, none⟩ = some (.int .i64 m) ∧ W.cell? ⟨w1.heap.size, 4, none⟩ = some (.int .i64 x) ∧ W.cell? ⟨w1.heap.size, 5, none⟩ = some (.string t) ∧ W.cell? ⟨w1.heap.size, 6, none⟩ = some (.bool kn))
      ∧ W.heap[w.heap.size]? = some (.cells #[.int .i64 0, .int .i64 0, .int .i64 0, .string ⟨#[]⟩] 33 (0, 0)) ∧ Below w.heap.size w W) := Lib.hid fun W hb => by
    obtain ⟨⟨_, _, c2, c3, c4, c5, c6, _⟩, -⟩ := eight ((hb.block _ lr).trans r0)
    exact ⟨⟨c2, c3, c4, c5, c6⟩, (hb.block _ (by omega)).trans ((hb2.block _ (by omega)).trans q0), hb0.trans ((hb2.trans (hb.mono hs2)).mono hb0.size)⟩
  have HO : Hid (∀ W (a b c' d : Value), Below W2.heap.size W2 W → (((((W.setCell ⟨w.heap.size, 0, none⟩ a).setCell ⟨w.heap.size, 1, none⟩ b).setCell ⟨w.heap.size, 2, none⟩ c').setCell ⟨w.heap.size, 3, none⟩ d).cell? ⟨w1.heap.size, 2, none⟩ = some (.int .i64 k) ∧ ((((W.setCell ⟨w.heap.size, 0, none⟩ a).setCell ⟨w.heap.size, 1, none⟩ b).setCell ⟨w.heap.size, 2, none⟩ c').setCell ⟨w.heap.size, 3, none⟩ d).cell? ⟨w1.heap.size, 3, none⟩ = some (.int .i64 m) ∧ ((((W.setCell ⟨w.heap.size, 0, none⟩ a).setCell ⟨w.heap.size, 1, none⟩ b).setCell ⟨w.heap.size, 2, none⟩ c').setCell ⟨w.heap.size, 3, none⟩ d).cell? ⟨w1.heap.size, 4, none⟩ = some (.int .i64 x) ∧ ((((W.setCell ⟨w.heap.size, 0, none⟩ a).setCell ⟨w.heap.size, 1, none⟩ b).setCell ⟨w.heap.size, 2, none⟩ c').setCell ⟨w.heap.size, 3, none⟩ d).cell? ⟨w1.heap.size, 5, none⟩ = some (.string t) ∧ ((((W.setCell ⟨w.heap.size, 0, none⟩ a).setCell ⟨w.heap.size, 1, none⟩ b).setCell ⟨w.heap.size, 2, none⟩ c').setCell ⟨w.heap.size, 3, none⟩ d).cell? ⟨w1.heap.size, 6, none⟩ = some (.bool kn))) := Lib.hid fun W a b c' d hb => by
    have q := heapO (p := ⟨w.heap.size, 3, none⟩) (u := d) (heapO (p := ⟨w.heap.size, 2, none⟩) (u := c') (heapO (p := ⟨w.heap.size, 1, none⟩) (u := b) (heapO (p := ⟨w.heap.size, 0, none⟩) (u := a) ((hb.block _ lr).trans r0) (by show w1.heap.size ≠ w.heap.size; omega)) (by show w1.heap.size ≠ w.heap.size; omega)) (by show w1.heap.size ≠ w.heap.size; omega)) (by show w1.heap.size ≠ w.heap.size; omega)
    obtain ⟨⟨_, _, c2, c3, c4, c5, c6, _⟩, -⟩ := eight q
    exact ⟨c2, c3, c4, c5, c6⟩
  have z0 := (HF.out _ (Below.refl _ W2)).1
  clear q0 hb0 r0 hb1 hb2 l0
  rw [hW2]
  clear hW2
  go_region_held_law (fun W => W.cell? ⟨w1.heap.size, 2, none⟩ = some (.int .i64 k) ∧ W.cell? ⟨w1.heap.size, 3, none⟩ = some (.int .i64 m) ∧ W.cell? ⟨w1.heap.size, 4, none⟩ = some (.int .i64 x) ∧ W.cell? ⟨w1.heap.size, 5, none⟩ = some (.string t) ∧ W.cell? ⟨w1.heap.size, 6, none⟩ = some (.bool kn))
    (first | with_reducible exact z0 | with_reducible exact hset | (refine (HF.out _ ?_).1; (first | with_reducible assumption | with_reducible exact (Below.refl _ _).drew | with_reducible exact Below.refl _ _)))
    ((go_at_call 15; (with_reducible refine (h15 _).mono ?_); rintro e w3 ⟨rfl, hb3⟩; have hb3 : Below W2.heap.size W2 w3 := (Below.refl _ W2).drew.trans hb3; have hset := HO.out _ (.int .i64 k) (.int .i64 m) (.int .i64 x) (.string t) hb3; obtain ⟨⟨y0, y1, y2, y3⟩, ⟨g0, g1, g2, g3⟩⟩ := four (HF.out _ hb3).2.1; have hs3 := hb3.size))
  all_goals
    have hq := HF.out _ hb3
    have h6 := set4 hq.2.1 (.int .i64 k) (.int .i64 m) (.int .i64 x) (.string t)
    obtain ⟨⟨u0, u1, u2, u3⟩, -⟩ := four h6
    have HZ := Lib.hid (bset4 hq.2.2 (Nat.le_refl _) (.int .i64 k) (.int .i64 m) (.int .i64 x) (.string t))
    clear hq h6 hset y0 y1 y2 y3 g0 g1 g2 g3
    go_wp2
    refine bodyPost_ret (v := .tuple #[.agg #[.int .i64 k, .int .i64 m, .int .i64 x, .string t], .bool kn]) (by simp only [results, Tryd.results8]; simp [go_sem, u0, u1, u2, u3]) rfl ⟨rfl, HZ.out⟩
/-- did so many accept that they are a majority -/
def Sm.wonB (c : Int) (f : Nat → Bool) : Bool := decide (c / 2 + 1 ≤ (votF f 9 : Int))
/-- the frame of won -/
def Sm.WoF (p N N1 b : Nat) (c M : Int) (f : Nat → Bool) (y : Value) (df : List Deferred) : Act :=
  { tmps := #[.pointer (some ⟨p, 0, none⟩), .agg #[.bool (f 0), .bool (f 1), .bool (f 2), .bool (f 3), .bool (f 4), .bool (f 5), .bool (f 6), .bool (f 7), .bool (f 8)], undef, .pointer (some ⟨N, 0, none⟩), .bool false, .pointer (some ⟨N1, 0, none⟩), .int .i64 0, .pointer (some ⟨N1 + 1, 0, none⟩), .tuple #[.int .i64 M, .int .i64 0], .pointer (some ⟨p, 0, none⟩), .pointer (some ⟨p, 0, none⟩), .pointer (some ⟨p, 0, none⟩), .int .i64 c, .tuple #[.int .i64 M, .int .i64 0], .int .i64 M, .int .i64 0, .agg #[.bool (f 0), .bool (f 1), .bool (f 2), .bool (f 3), .bool (f 4), .bool (f 5), .bool (f 6), .bool (f 7), .bool (f 8)], .func (.func 43) #[] #[.pointer (some ⟨b, 0, none⟩)], y, undef, undef, undef, undef, undef, undef, undef, undef], defers := df }
set_option maxRecDepth 100000 in
set_option maxHeartbeats 4000000 in
theorem Sm.won_any {w : World} {p Mb : Nat} {s : LSt} {g : HrdM} {n : Nat} (f : Nat → Bool) (hp : LAt w p Mb s g n) :
    Calls Tryd.prog 17 #[.pointer (some ⟨p, 0, none⟩), .agg #[.bool (f 0), .bool (f 1), .bool (f 2), .bool (f 3), .bool (f 4), .bool (f 5), .bool (f 6), .bool (f 7), .bool (f 8)]] w fun e w' => e = .returned (.bool (wonB s.c f)) ∧ Below w.heap.size w w' := by
  have hch := hp.ch.1
  have h9 := votF_le f 9
  obtain ⟨M, hM⟩ : ∃ M, s.c / 2 + 1 = M := ⟨_, rfl⟩
  have h29 := fun W => Majority_any s.c W hch
  rw [hM] at h29
  have hM1 : (2 : Int) ≤ M ∧ M ≤ 5 := by rcases chB_iff.1 hch with e | e | e | e <;> omega
  obtain ⟨W0, hW0⟩ : ∃ v, w.alloc (.cells #[.bool (f 0), .bool (f 1), .bool (f 2), .bool (f 3), .bool (f 4), .bool (f 5), .bool (f 6), .bool (f 7), .bool (f 8)] 56) = v := ⟨_, rfl⟩
  have q0 : W0.heap[w.heap.size]? = some (.cells #[.bool (f 0), .bool (f 1), .bool (f 2), .bool (f 3), .bool (f 4), .bool (f 5), .bool (f 6), .bool (f 7), .bool (f 8)] 56 (0, 0)) := by rw [← hW0]; exact World.alloc_heap_new w _
  have hb0 : Below w.heap.size w W0 := by rw [← hW0]; exact (Below.refl _ w).alloc (Nat.le_refl _) _
  obtain ⟨⟨c0, -⟩, -⟩ := eight (hp.keep hb0).blk
  have l0 := (Array.getElem?_eq_some_iff.1 q0).1
  have HQ := Lib.hid q0
  have HB0 := Lib.hid hb0
  clear q0 hb0 hp hch
  refine (callsIn_wide (n := 3)).1 (callsIn_of_wp_marks Tryd.func17 rfl trivial ?_ rfl)
  simp only [Tryd.ntmps17, List.size_toArray, List.length_cons, List.length_nil, Nat.reduceAdd, Nat.reduceSub, Array.replicate_succ, Array.replicate_zero, List.push_toArray, List.append_toArray, List.nil_append, List.cons_append]
  gi_wp2
  refine wpIn_wide.2 (wp_scope_straight ((wpIn_wide (n := 3)).1 ?_))
  gi_wp2_with ((try refine ⟨trivial, ?_⟩); (gi_at_call 29; refine (callsIn_wide.2 (h29 _)).mono ?_; clear h29; rintro e w1 ⟨rfl, hb1⟩))
  clear hW0 c0
  refine wpIn_label ?_
  obtain ⟨W1, hW1⟩ : ∃ v, (w1.alloc (.cells #[.int .i64 M] 3)).alloc (.cells #[.int .i64 0] 3) = v := ⟨_, rfl⟩
  have r0 : W1.heap[w1.heap.size]? = some (.cells #[.int .i64 M] 3 (0, 0)) := by
    rw [← hW1]; exact (Below.heap_alloc _ _ _ (by simp)).trans (World.alloc_heap_new w1 _)
  have r1 : W1.heap[w1.heap.size + 1]? = some (.cells #[.int .i64 0] 3 (0, 0)) := by
    rw [← hW1]; have := World.alloc_heap_new (w1.alloc (.cells #[.int .i64 M] 3)) (.cells #[.int .i64 0] 3); rwa [World.size_alloc] at this
  have hbW : Below w1.heap.size w1 W1 := by rw [← hW1]; exact ((Below.refl _ w1).alloc (Nat.le_refl _) _).alloc (by simp) _
  have hs1 := hb1.size
  have q1 := (hbW.block _ (by omega)).trans ((hb1.block _ l0).trans HQ.out)
  obtain ⟨c0, c1, c2, c3, c4, c5, c6, c7, c8⟩ := cells9 q1
  have hbB : Below w.heap.size w W1 := (HB0.out.trans (hb1.mono HB0.out.size)).trans (hbW.mono (Nat.le_trans HB0.out.size hs1))
  have h30 := fun W => places_any f W
  clear q1 hbW hb1
  rw [hW1]
  gi_wp2_with ((try refine ⟨trivial, ?_⟩); (gi_at_call 30; refine (callsIn_wide.2 (h30 _)).mono ?_; clear h30; rintro e w2 ⟨b, rfl, hbz, hbc, hb2⟩))
  rename_i K hK
  clear hW1 c0 c1 c2 c3 c4 c5 c6 c7 c8
  have m0 := (hb2.block _ (Array.getElem?_eq_some_iff.1 r0).1).trans r0
  have m1 := (hb2.block _ (Array.getElem?_eq_some_iff.1 r1).1).trans r1
  have l1 := (Array.getElem?_eq_some_iff.1 r1).1
  have l2 := (Array.getElem?_eq_some_iff.1 m1).1
  have hsB := hbB.size
  have hbw2 : Below w.heap.size w w2 := hbB.trans (hb2.mono hbB.size)
  have hs0 := HB0.out.size
  have HK : Hid (∀ (y : Value) (k : Nat) W, W.heap[w1.heap.size + 1]? = some (.cells #[.int .i64 (k : Int)] 3 (0, 0)) → But (fun q => q = w1.heap.size + 1) w2 W → W.heap[w2.heap.size]? = some (.deferred (some [])) → decide ((k : Int) = M) = wonB s.c f → K (WoF p w.heap.size w1.heap.size b s.c M f y [{ target := .collected w2.heap.size, args := #[] }]) W) := Lib.hid fun y k W i1 i2 hD hw => by
    have k1 := cell_of_heap i1 0
    have k0 := cell_of_heap ((i2.block _ (by omega) (by show ¬ w1.heap.size = w1.heap.size + 1; omega)).trans m0) 0
    simp only [List.getElem?_toArray, List.getElem?_cons_zero] at k1 k0
    have HI := Lib.hid i2
    have HD := Lib.hid hD
    obtain ⟨x, hx⟩ : ∃ x, ((k : Int) == M) = x := ⟨_, rfl⟩
    have HX : Hid (x = wonB s.c f) := Lib.hid (by rw [← hw, ← hx]; by_cases e : (k : Int) = M <;> simp [e])
    clear i1 i2 hD hw
    refine hK _ _ ?_
    clear hK
    unfold WoF
    gi_wp2
    simp only [Exit.noGoto]
    refine retM1 (D := w2.heap.size) (v := .bool x) rfl HD.out ?_ ⟨by rw [HX.out], ?_⟩
    · simp [results, Tryd.results17, go_sem]
    · exact But.below (hbw2.trans (HI.out.to_below (by omega) (fun b e => by omega))) (put_but _ _ _) (fun b e => by omega)
  clear hK
  show Code.wpIn Fence.wide 3 Tryd.prog _ _ (WoF p w.heap.size w1.heap.size b s.c M f undef []) w2
  refine wpIn_range1b (gf := 43) (lb := #[.pointer (some ⟨b, 0, none⟩)]) rfl (enters_of Tryd.func43 (by kernel_rfl) rfl)
    (places_seq w2 hbc (fun q => q = w1.heap.size + 1)) (fun q e => by omega) ?hH ?hrow 18 18 rfl ?hargs
    (fun k W => W.heap[w1.heap.size + 1]? = some (.cells #[.int .i64 (k : Int)] 3 (0, 0)) ∧ But (fun q => q = w1.heap.size + 1) w2 W ∧ (k : Int) < M)
    (fun k W => W.heap[w1.heap.size + 1]? = some (.cells #[.int .i64 (k : Int)] 3 (0, 0)) ∧ But (fun q => q = w1.heap.size + 1) w2 W ∧ (k : Int) = M)
    0 ?hI ?hIx ⟨m1, But.refl _ _, by omega⟩ ?assign ?body _ (fun _ _ h => h) (fun _ _ h => h) ?rest
  case hH => exact fun k args W W' hh _ => hh
  case hrow => exact fun k args W b _ e => e.elim
  case hargs =>
    rintro k args W ⟨p, _, _, _, rfl⟩
    exact ⟨_, rfl⟩
  case hI => exact fun k W W' ⟨i1, i2, i3⟩ hb => ⟨(hb.block _ (by omega)).trans i1, i2.trans (But.of_below hb) (fun b hb' e => absurd hb' (Nat.not_lt.2 e)), i3⟩
  case hIx => exact fun k W W' ⟨i1, i2, i3⟩ hb => ⟨(hb.block _ (by omega)).trans i1, i2.trans (But.of_below hb) (fun b hb' e => absurd hb' (Nat.not_lt.2 e)), i3⟩
  case assign =>
    intro l0 y W K2 hK2
    unfold WoF at hK2 ⊢
    simp only [List.setIfInBounds_toArray, List.set_cons_zero, List.set_cons_succ] at hK2 ⊢
    gi_wp2
    exact hK2
  case body =>
    rintro l0 k y W hsz ⟨i1, i2, i3⟩ ⟨q, hq, hf, hk, e⟩
    simp only [Array.mk.injEq, List.cons.injEq, and_true] at e
    obtain rfl := e
    unfold WoF
    simp only [List.setIfInBounds_toArray, List.set_cons_zero, List.set_cons_succ]
    have k1 := cell_of_heap i1 0
    have k2 := frozen_of_heap i1 0
    have k3 := cell_of_heap ((i2.block _ (by omega) (by show ¬ w1.heap.size = w1.heap.size + 1; omega)).trans m0) 0
    simp only [List.getElem?_toArray, List.getElem?_cons_zero] at k1 k3
    have hbx := heap_setCells (i := 0) (u := .int .i64 ((k : Int) + 1)) i1
    have hbq : But (fun q => q = w1.heap.size + 1) W (W.setCell ⟨w1.heap.size + 1, 0, none⟩ (.int .i64 ((k : Int) + 1))) := (But.refl _ _).set ⟨w1.heap.size + 1, 0, none⟩ _ (.inl rfl)
    have k4 := cell_of_heap hbx 0
    have k5 : (W.setCell ⟨w1.heap.size + 1, 0, none⟩ (.int .i64 ((k : Int) + 1))).cell? ⟨w1.heap.size, 0, none⟩ = some (.int .i64 M) := (World.cell?_of_block (Below.heap_setCell W ⟨w1.heap.size + 1, 0, none⟩ _ w1.heap.size (by show w1.heap.size ≠ w1.heap.size + 1; omega))).trans k3
    have HX : Hid ((W.setCell ⟨w1.heap.size + 1, 0, none⟩ (.int .i64 ((k : Int) + 1))).heap[w1.heap.size + 1]? = some (.cells #[.int .i64 ((k + 1 : Nat) : Int)] 3 (0, 0))) := Lib.hid (by rw [show ((k + 1 : Nat) : Int) = (k : Int) + 1 by omega]; exact hbx)
    have HQ2 := Lib.hid hbq
    have HI2 := Lib.hid (i2.trans hbq (fun _ _ e => e))
    have hk8 : (k : Int) ≤ 9 := by omega
    clear hbx hbq i1 i2 hf hk
    by_cases h1 : (k : Int) + 1 = M
    · have h2 : ((k : Int) + 1 == M) = true := by simpa using h1
      have HN : Hid (((k + 1 : Nat) : Int) = M) := Lib.hid (by omega)
      clear h1
      gi_wp2
      exact ⟨HQ2.out.mono (fun b _ e => .inl e), rfl, HX.out, HI2.out, HN.out⟩
    · have h2 : ((k : Int) + 1 == M) = false := by simpa using h1
      have HN : Hid (((k + 1 : Nat) : Int) < M) := Lib.hid (by omega)
      clear h1
      gi_wp2
      exact ⟨trivial, HQ2.out.mono (fun b _ e => .inl e), HX.out, HI2.out, HN.out⟩
  case rest =>
    intro W hor hD
    rcases hor with ⟨k, hk, i1, i2, i3⟩ | ⟨k, ⟨_, hk⟩, i1, i2, i3⟩
    · exact HK.out undef k W i1 i2 hD (by unfold wonB; rw [hM, ← hk]; rw [decide_eq_false (by omega), decide_eq_false (by omega)])
    · exact HK.out undef k W i1 i2 hD (by unfold wonB; rw [hM]; rw [decide_eq_true (by omega), decide_eq_true (by omega)])
end Go.Proofs
