/-
  acceptor: Accepted. Conditions: as each theorem names them.
-/
import Derived.Test.YtamlacofmihldaaDoorAcK
import Derived.Test.YtamlacofmihldaaDoorAcI
namespace Go.Proofs
open Go Go.RowKit Sm Go.Lib
attribute [local go_sem] Oper.semAt_some
def Sm.noAcc (M : AcM) : Bool := decide (M.ar = -1 ∧ M.ap = 0 ∧ M.k = 0 ∧ M.m = 0 ∧ M.n = 0 ∧ M.t = ⟨#[]⟩)
def Sm.hasB (M : AcM) : Bool := M.c != 0 && !noAcc M
set_option maxRecDepth 100000 in
set_option maxHeartbeats 1000000 in
theorem Sm.accd_no (w : World) (P : Option Nat) (M : AcM) (h : OAt w P M) (hc : M.c = 0) : Calls Tryd.prog 13 #[pV P] w fun e w' => e = .returned (.tuple #[.agg #[.int .i64 0, .int .i64 0, .int .i64 0, .int .i64 0, .int .i64 0, .string ⟨#[]⟩], .bool false]) ∧ Below w.heap.size w w' := by
  have hb1 : Below w.heap.size w (w.alloc (.cells #[.int .i64 0, .int .i64 0, .int .i64 0, .int .i64 0, .int .i64 0, .string ⟨#[]⟩] 39)) := (Below.refl _ w).alloc (Nat.le_refl _) _
  have q1 := World.alloc_heap_new w (.cells #[.int .i64 0, .int .i64 0, .int .i64 0, .int .i64 0, .int .i64 0, .string ⟨#[]⟩] 39)
  obtain ⟨w1, hw1⟩ : ∃ v, w.alloc (.cells #[.int .i64 0, .int .i64 0, .int .i64 0, .int .i64 0, .int .i64 0, .string ⟨#[]⟩] 39) = v := ⟨_, rfl⟩
  have hh := h.keep hb1
  rw [hw1] at hb1 q1 hh
  have H1 : Hid (∀ W, Below w1.heap.size w1 W → Calls Tryd.prog 22 #[pV P] W fun e w' => e = .returned (.bool false) ∧ Below w1.heap.size w1 w') := Lib.hid fun W hb => (thereO W P M (hh.keep hb)).mono fun e w' ⟨e1, e2⟩ => ⟨by rw [e1]; simp [hc], hb.trans (e2.mono hb.size)⟩
  have HQ : Hid (∀ W, Below w1.heap.size w1 W → W.heap[w.heap.size]? = some (.cells #[.int .i64 0, .int .i64 0, .int .i64 0, .int .i64 0, .int .i64 0, .string ⟨#[]⟩] 39 (0, 0))) := Lib.hid fun W hb => (hb.block _ (Array.getElem?_eq_some_iff.1 q1).1).trans q1
  have HB1 := Lib.hid hb1
  clear hb1 q1 hh h hc
  rcases P with _ | p
  · simp only [pV] at H1 ⊢
    go_enter Tryd.func13, Tryd.ntmps13
    go_upto_region 1 with fail
    clear hw1
    have hS0 : (fun W => Below w1.heap.size w1 W) w1.drew := (Below.refl _ w1).drew
    refine wp_region_held_drew (S := fun W => Below w1.heap.size w1 W) rfl hS0 (fun hHeld => ?_)
    simp only [List.size_toArray, List.length_cons, List.length_nil, Nat.reduceAdd]
    have HB0 : Hid (Below w1.heap.size w1 w1.drew) := Lib.hid (Below.refl _ _).drew
    obtain ⟨V0, hV0⟩ : ∃ V, w1.drew = V := ⟨_, rfl⟩
    rw [hV0] at hHeld hS0 HB0 ⊢
    clear hV0
    refine wpAnyH_take (i := 0) (v := .pointer none) rfl (by kernel_rfl) (by kernel_rfl) (by kernel_rfl) (fun _ _ _ h => h) (Or.inl ⟨by rfl, ?_⟩) (by assumption) ?_
    · intro wx hs1; go_simp
    (try simp only [Act.put, List.getElem_toArray, List.getElem_cons_zero, List.setIfInBounds_toArray, List.set_cons_zero, List.set_cons_succ])
    refine wpAnyH_ready (rs := [1]) (by kernel_rfl) (by simp) (AllReadyH.cons rfl (fun K hK => ?_) AllReadyH.nil)
    go_simp
    go_at_call 22
    (with_reducible refine (H1.out _ HB0.out).mono ?_)
    rintro e w2 ⟨rfl, hb2⟩
    try dsimp only
    have hS : (fun W => Below w1.heap.size w1 W) w2 := hb2
    refine hK.out _ _ hS (fun _ => ?_)
    clear hK K
    (try simp only [Act.put, List.getElem_toArray, List.getElem_cons_succ, List.getElem_cons_zero, List.setIfInBounds_toArray, List.set_cons_zero, List.set_cons_succ])
    refine wpAnyH_take (i := 2) (v := .bool true) rfl (by kernel_rfl) (by kernel_rfl) (by kernel_rfl) (fun _ _ _ h => h) (Or.inl ⟨by rfl, ?_⟩) (by assumption) ?_
    · intro wx hs1; go_simp
    (try simp only [Act.put, List.getElem_toArray, List.getElem_cons_succ, List.getElem_cons_zero, List.setIfInBounds_toArray, List.set_cons_zero, List.set_cons_succ])
    refine wpAnyH_take (i := 3) (v := .bool true) rfl (by kernel_rfl) (by kernel_rfl) (by kernel_rfl) (fun _ _ _ h => h) (Or.inl ⟨by rfl, ?_⟩) (by assumption) ?_
    · intro wx hs1; go_simp
    (try simp only [Act.put, List.getElem_toArray, List.getElem_cons_succ, List.getElem_cons_zero, List.setIfInBounds_toArray, List.set_cons_zero, List.set_cons_succ])
    refine wpAnyH_take (i := 4) (v := undef) rfl (by kernel_rfl) (by kernel_rfl) (by kernel_rfl) (fun _ _ _ h => h) (Or.inr ⟨by rfl, rfl⟩) (by assumption) ?_
    (try simp only [Act.put, List.getElem_toArray, List.getElem_cons_succ, List.getElem_cons_zero, List.setIfInBounds_toArray, List.set_cons_zero, List.set_cons_succ])
    refine wpAnyH_take (i := 5) (v := undef) rfl (by kernel_rfl) (by kernel_rfl) (by kernel_rfl) (fun _ _ _ h => h) (Or.inr ⟨by rfl, rfl⟩) (by assumption) ?_
    (try simp only [Act.put, List.getElem_toArray, List.getElem_cons_succ, List.getElem_cons_zero, List.setIfInBounds_toArray, List.set_cons_zero, List.set_cons_succ])
    refine wpAnyH_take (i := 6) (v := undef) rfl (by kernel_rfl) (by kernel_rfl) (by kernel_rfl) (fun _ _ _ h => h) (Or.inr ⟨by rfl, rfl⟩) (by assumption) ?_
    (try simp only [Act.put, List.getElem_toArray, List.getElem_cons_succ, List.getElem_cons_zero, List.setIfInBounds_toArray, List.set_cons_zero, List.set_cons_succ])
    refine wpAnyH_take (i := 7) (v := undef) rfl (by kernel_rfl) (by kernel_rfl) (by kernel_rfl) (fun _ _ _ h => h) (Or.inr ⟨by rfl, rfl⟩) (by assumption) ?_
    (try simp only [Act.put, List.getElem_toArray, List.getElem_cons_succ, List.getElem_cons_zero, List.setIfInBounds_toArray, List.set_cons_zero, List.set_cons_succ])
    refine wpAnyH_take (i := 8) (v := undef) rfl (by kernel_rfl) (by kernel_rfl) (by kernel_rfl) (fun _ _ _ h => h) (Or.inr ⟨by rfl, rfl⟩) (by assumption) ?_
    (try simp only [Act.put, List.getElem_toArray, List.getElem_cons_succ, List.getElem_cons_zero, List.setIfInBounds_toArray, List.set_cons_zero, List.set_cons_succ])
    refine wpAnyH_take (i := 9) (v := undef) rfl (by kernel_rfl) (by kernel_rfl) (by kernel_rfl) (fun _ _ _ h => h) (Or.inr ⟨by rfl, rfl⟩) (by assumption) ?_
    (try simp only [Act.put, List.getElem_toArray, List.getElem_cons_succ, List.getElem_cons_zero, List.setIfInBounds_toArray, List.set_cons_zero, List.set_cons_succ])
    refine wpAnyH_take (i := 10) (v := undef) rfl (by kernel_rfl) (by kernel_rfl) (by kernel_rfl) (fun _ _ _ h => h) (Or.inr ⟨by rfl, rfl⟩) (by assumption) ?_
    (try simp only [Act.put, List.getElem_toArray, List.getElem_cons_succ, List.getElem_cons_zero, List.setIfInBounds_toArray, List.set_cons_zero, List.set_cons_succ])
    refine wpAnyH_take (i := 11) (v := .bool true) rfl (by kernel_rfl) (by kernel_rfl) (by kernel_rfl) (fun _ _ _ h => h) (Or.inl ⟨by rfl, ?_⟩) (by assumption) ?_
    · intro wx hs1; go_simp
    (try simp only [Act.put, List.getElem_toArray, List.getElem_cons_succ, List.getElem_cons_zero, List.setIfInBounds_toArray, List.set_cons_zero, List.set_cons_succ])
    refine wpAnyH_done (by kernel_rfl) ?_ _
    have HA := Lib.hid (HQ.out _ hb2)
    obtain ⟨⟨d0, d1, d2, d3, d4, d5⟩, ⟨f0, f1, f2, f3, f4, f5⟩⟩ := six (HQ.out _ hb2)
    go_wp2
    obtain ⟨⟨z0, z1, z2, z3, z4, z5⟩, _⟩ := six (set6 HA.out (.int .i64 0) (.int .i64 0) (.int .i64 0) (.int .i64 0) (.int .i64 0) (.string ⟨#[]⟩))
    clear d0 d1 d2 d3 d4 d5 f0 f1 f2 f3 f4 f5
    refine bodyPost_ret (v := .tuple #[.agg #[.int .i64 0, .int .i64 0, .int .i64 0, .int .i64 0, .int .i64 0, .string ⟨#[]⟩], .bool false]) (by simp only [results, Tryd.results13]; simp [go_sem, z0, z1, z2, z3, z4, z5]) rfl ⟨rfl, ?_⟩
    exact bset6 (HB1.out.trans (hb2.mono HB1.out.size)) (Nat.le_refl _) _ _ _ _ _ _
  · simp only [pV] at H1 ⊢
    go_enter Tryd.func13, Tryd.ntmps13
    go_upto_region 1 with fail
    clear hw1
    have hS0 : (fun W => Below w1.heap.size w1 W) w1.drew := (Below.refl _ w1).drew
    refine wp_region_held_drew (S := fun W => Below w1.heap.size w1 W) rfl hS0 (fun hHeld => ?_)
    simp only [List.size_toArray, List.length_cons, List.length_nil, Nat.reduceAdd]
    have HB0 : Hid (Below w1.heap.size w1 w1.drew) := Lib.hid (Below.refl _ _).drew
    obtain ⟨V0, hV0⟩ : ∃ V, w1.drew = V := ⟨_, rfl⟩
    rw [hV0] at hHeld hS0 HB0 ⊢
    clear hV0
    refine wpAnyH_take (i := 0) (v := .pointer (some ⟨p, 0, none⟩)) rfl (by kernel_rfl) (by kernel_rfl) (by kernel_rfl) (fun _ _ _ h => h) (Or.inl ⟨by rfl, ?_⟩) (by assumption) ?_
    · intro wx hs1; go_simp
    (try simp only [Act.put, List.getElem_toArray, List.getElem_cons_zero, List.setIfInBounds_toArray, List.set_cons_zero, List.set_cons_succ])
    refine wpAnyH_ready (rs := [1]) (by kernel_rfl) (by simp) (AllReadyH.cons rfl (fun K hK => ?_) AllReadyH.nil)
    go_simp
    go_at_call 22
    (with_reducible refine (H1.out _ HB0.out).mono ?_)
    rintro e w2 ⟨rfl, hb2⟩
    try dsimp only
    have hS : (fun W => Below w1.heap.size w1 W) w2 := hb2
    refine hK.out _ _ hS (fun _ => ?_)
    clear hK K
    (try simp only [Act.put, List.getElem_toArray, List.getElem_cons_succ, List.getElem_cons_zero, List.setIfInBounds_toArray, List.set_cons_zero, List.set_cons_succ])
    refine wpAnyH_take (i := 2) (v := .bool true) rfl (by kernel_rfl) (by kernel_rfl) (by kernel_rfl) (fun _ _ _ h => h) (Or.inl ⟨by rfl, ?_⟩) (by assumption) ?_
    · intro wx hs1; go_simp
    (try simp only [Act.put, List.getElem_toArray, List.getElem_cons_succ, List.getElem_cons_zero, List.setIfInBounds_toArray, List.set_cons_zero, List.set_cons_succ])
    refine wpAnyH_take (i := 3) (v := .bool true) rfl (by kernel_rfl) (by kernel_rfl) (by kernel_rfl) (fun _ _ _ h => h) (Or.inl ⟨by rfl, ?_⟩) (by assumption) ?_
    · intro wx hs1; go_simp
    (try simp only [Act.put, List.getElem_toArray, List.getElem_cons_succ, List.getElem_cons_zero, List.setIfInBounds_toArray, List.set_cons_zero, List.set_cons_succ])
    refine wpAnyH_take (i := 4) (v := undef) rfl (by kernel_rfl) (by kernel_rfl) (by kernel_rfl) (fun _ _ _ h => h) (Or.inr ⟨by rfl, rfl⟩) (by assumption) ?_
    (try simp only [Act.put, List.getElem_toArray, List.getElem_cons_succ, List.getElem_cons_zero, List.setIfInBounds_toArray, List.set_cons_zero, List.set_cons_succ])
    refine wpAnyH_take (i := 5) (v := undef) rfl (by kernel_rfl) (by kernel_rfl) (by kernel_rfl) (fun _ _ _ h => h) (Or.inr ⟨by rfl, rfl⟩) (by assumption) ?_
    (try simp only [Act.put, List.getElem_toArray, List.getElem_cons_succ, List.getElem_cons_zero, List.setIfInBounds_toArray, List.set_cons_zero, List.set_cons_succ])
    refine wpAnyH_take (i := 6) (v := undef) rfl (by kernel_rfl) (by kernel_rfl) (by kernel_rfl) (fun _ _ _ h => h) (Or.inr ⟨by rfl, rfl⟩) (by assumption) ?_
    (try simp only [Act.put, List.getElem_toArray, List.getElem_cons_succ, List.getElem_cons_zero, List.setIfInBounds_toArray, List.set_cons_zero, List.set_cons_succ])
    refine wpAnyH_take (i := 7) (v := undef) rfl (by kernel_rfl) (by kernel_rfl) (by kernel_rfl) (fun _ _ _ h => h) (Or.inr ⟨by rfl, rfl⟩) (by assumption) ?_
    (try simp only [Act.put, List.getElem_toArray, List.getElem_cons_succ, List.getElem_cons_zero, List.setIfInBounds_toArray, List.set_cons_zero, List.set_cons_succ])
    refine wpAnyH_take (i := 8) (v := undef) rfl (by kernel_rfl) (by kernel_rfl) (by kernel_rfl) (fun _ _ _ h => h) (Or.inr ⟨by rfl, rfl⟩) (by assumption) ?_
    (try simp only [Act.put, List.getElem_toArray, List.getElem_cons_succ, List.getElem_cons_zero, List.setIfInBounds_toArray, List.set_cons_zero, List.set_cons_succ])
    refine wpAnyH_take (i := 9) (v := undef) rfl (by kernel_rfl) (by kernel_rfl) (by kernel_rfl) (fun _ _ _ h => h) (Or.inr ⟨by rfl, rfl⟩) (by assumption) ?_
    (try simp only [Act.put, List.getElem_toArray, List.getElem_cons_succ, List.getElem_cons_zero, List.setIfInBounds_toArray, List.set_cons_zero, List.set_cons_succ])
    refine wpAnyH_take (i := 10) (v := undef) rfl (by kernel_rfl) (by kernel_rfl) (by kernel_rfl) (fun _ _ _ h => h) (Or.inr ⟨by rfl, rfl⟩) (by assumption) ?_
    (try simp only [Act.put, List.getElem_toArray, List.getElem_cons_succ, List.getElem_cons_zero, List.setIfInBounds_toArray, List.set_cons_zero, List.set_cons_succ])
    refine wpAnyH_take (i := 11) (v := .bool true) rfl (by kernel_rfl) (by kernel_rfl) (by kernel_rfl) (fun _ _ _ h => h) (Or.inl ⟨by rfl, ?_⟩) (by assumption) ?_
    · intro wx hs1; go_simp
    (try simp only [Act.put, List.getElem_toArray, List.getElem_cons_succ, List.getElem_cons_zero, List.setIfInBounds_toArray, List.set_cons_zero, List.set_cons_succ])
    refine wpAnyH_done (by kernel_rfl) ?_ _
    have HA := Lib.hid (HQ.out _ hb2)
    obtain ⟨⟨d0, d1, d2, d3, d4, d5⟩, ⟨f0, f1, f2, f3, f4, f5⟩⟩ := six (HQ.out _ hb2)
    go_wp2
    obtain ⟨⟨z0, z1, z2, z3, z4, z5⟩, _⟩ := six (set6 HA.out (.int .i64 0) (.int .i64 0) (.int .i64 0) (.int .i64 0) (.int .i64 0) (.string ⟨#[]⟩))
    clear d0 d1 d2 d3 d4 d5 f0 f1 f2 f3 f4 f5
    refine bodyPost_ret (v := .tuple #[.agg #[.int .i64 0, .int .i64 0, .int .i64 0, .int .i64 0, .int .i64 0, .string ⟨#[]⟩], .bool false]) (by simp only [results, Tryd.results13]; simp [go_sem, z0, z1, z2, z3, z4, z5]) rfl ⟨rfl, ?_⟩
    exact bset6 (HB1.out.trans (hb2.mono HB1.out.size)) (Nat.le_refl _) _ _ _ _ _ _
set_option maxRecDepth 100000 in
set_option maxHeartbeats 2000000 in
theorem Sm.accd_any (w : World) (p : Nat) (M : AcM) (h : AAt w p M) (ht : M.t.size ≤ 1000000) (hc : M.c ≠ 0) : Calls Tryd.prog 13 #[.pointer (some ⟨p, 0, none⟩)] w fun e w' => e = .returned (.tuple #[acVal (!noAcc M) M, .bool (!noAcc M)]) ∧ Below w.heap.size w w' := by
  have hb1 : Below w.heap.size w (w.alloc (.cells #[.int .i64 0, .int .i64 0, .int .i64 0, .int .i64 0, .int .i64 0, .string ⟨#[]⟩] 39)) := (Below.refl _ w).alloc (Nat.le_refl _) _
  have q1 := World.alloc_heap_new w (.cells #[.int .i64 0, .int .i64 0, .int .i64 0, .int .i64 0, .int .i64 0, .string ⟨#[]⟩] 39)
  obtain ⟨w1, hw1⟩ : ∃ v, w.alloc (.cells #[.int .i64 0, .int .i64 0, .int .i64 0, .int .i64 0, .int .i64 0, .string ⟨#[]⟩] 39) = v := ⟨_, rfl⟩
  have hh := h.keep hb1
  rw [hw1] at hb1 q1 hh
  have e1 : (M.c != 0) = true := by simpa using hc
  have H1 : Hid (∀ W, Below w1.heap.size w1 W → Calls Tryd.prog 22 #[.pointer (some ⟨p, 0, none⟩)] W fun e w' => e = .returned (.bool true) ∧ Below w1.heap.size w1 w') := Lib.hid fun W hb => (there_any W p M (hh.keep hb)).mono fun e w' ⟨h1, h2⟩ => ⟨by rw [h1, e1], hb.trans (h2.mono hb.size)⟩
  have H2 : Hid (∀ W, Below w1.heap.size w1 W → Calls Tryd.prog 20 #[] W fun e w' => e = .returned (.agg #[.int .i64 (-1), .int .i64 0, .int .i64 0, .int .i64 0, .int .i64 0, .string ⟨#[]⟩]) ∧ Below w1.heap.size w1 w') := Lib.hid fun W hb => (nothing_any W).mono fun e w' ⟨h1, h2⟩ => ⟨h1, hb.trans (h2.mono hb.size)⟩
  have h3 := fun W => fresh_any M.ar M.ap M.k M.m M.n M.t W ht
  have h4 := fun W => eql36 W M.ar (-1) M.ap 0 M.k 0 M.m 0 M.n 0 M.t ⟨#[]⟩
  have g4 : ∀ (w : World) (x y : Operand), (eqGuard .eql 39 x y (.agg #[.int .i64 M.ar, .int .i64 M.ap, .int .i64 M.k, .int .i64 M.m, .int .i64 M.n, .string M.t]) (.agg #[.int .i64 (-1), .int .i64 0, .int .i64 0, .int .i64 0, .int .i64 0, .string ⟨#[]⟩])).run Tryd.prog w = .ok () w := fun w x y => run_eqGuard_agg w .eql 39 x y _ _ (by kernel_rfl)
  have HQ : Hid (∀ W, Below w1.heap.size w1 W → W.heap[w.heap.size]? = some (.cells #[.int .i64 0, .int .i64 0, .int .i64 0, .int .i64 0, .int .i64 0, .string ⟨#[]⟩] 39 (0, 0))) := Lib.hid fun W hb => (hb.block _ (Array.getElem?_eq_some_iff.1 q1).1).trans q1
  have HS : Hid (∀ W, Below w1.heap.size w1 W → W.cell? ⟨p, 4, none⟩ = some (.int .i64 M.ar) ∧ W.cell? ⟨p, 5, none⟩ = some (.int .i64 M.ap) ∧ W.cell? ⟨p, 6, none⟩ = some (.int .i64 M.k) ∧ W.cell? ⟨p, 7, none⟩ = some (.int .i64 M.m) ∧ W.cell? ⟨p, 8, none⟩ = some (.int .i64 M.n) ∧ W.cell? ⟨p, 9, none⟩ = some (.string M.t)) := Lib.hid fun W hb => (hh.keep hb).cells.2.2.2.2
  have z0 := HS.out _ (Below.refl _ _)
  have HB1 := Lib.hid hb1
  have hl := h.lt
  clear hb1 q1 hh h hc e1
  unfold noAcc acVal
  obtain ⟨x, hx⟩ : ∃ x, decide (M.ar = -1 ∧ M.ap = 0 ∧ M.k = 0 ∧ M.m = 0 ∧ M.n = 0 ∧ M.t = ⟨#[]⟩) = x := ⟨_, rfl⟩
  rw [hx] at h4 ⊢
  clear hx
  cases x
  all_goals
    go_enter Tryd.func13, Tryd.ntmps13
    go_upto_region 1 with fail
    clear hw1
    go_region_held_law (fun W => W.cell? ⟨p, 4, none⟩ = some (.int .i64 M.ar) ∧ W.cell? ⟨p, 5, none⟩ = some (.int .i64 M.ap) ∧ W.cell? ⟨p, 6, none⟩ = some (.int .i64 M.k) ∧ W.cell? ⟨p, 7, none⟩ = some (.int .i64 M.m) ∧ W.cell? ⟨p, 8, none⟩ = some (.int .i64 M.n) ∧ W.cell? ⟨p, 9, none⟩ = some (.string M.t))
      (first | with_reducible exact z0 | (refine HS.out _ ?_; (first | with_reducible exact (Below.refl _ _).drew | with_reducible assumption)))
      (first
        | (go_at_call 22; (with_reducible refine (H1.out _ (by with_reducible exact (Below.refl _ _).drew)).mono ?_); rintro e w2 ⟨rfl, hb2⟩)
        | (go_at_call 20; (with_reducible refine (H2.out _ (by assumption)).mono ?_); rintro e w3 ⟨rfl, hb3⟩))
  · have hv := HS.out _ hb3
    obtain ⟨y0, y1, y2, y3, y4, y5⟩ := hv
    go_wp2_with (go_at_call 23; (with_reducible refine (h3 _).mono ?_); rintro e w4 ⟨rfl, hb4⟩; have hb4 := hb3.trans (hb4.mono hb3.size); have HA := Lib.hid (HQ.out _ hb4); obtain ⟨⟨d0, d1, d2, d3, d4, d5⟩, ⟨f0, f1, f2, f3, f4, f5⟩⟩ := six (HQ.out _ hb4))
    obtain ⟨⟨z0, z1, z2, z3, z4, z5⟩, _⟩ := six (set6 HA.out (.int .i64 M.ar) (.int .i64 M.ap) (.int .i64 M.k) (.int .i64 M.m) (.int .i64 M.n) (.string M.t))
    clear d0 d1 d2 d3 d4 d5 f0 f1 f2 f3 f4 f5
    refine bodyPost_ret (v := .tuple #[.agg #[.int .i64 M.ar, .int .i64 M.ap, .int .i64 M.k, .int .i64 M.m, .int .i64 M.n, .string M.t], .bool true]) (by simp only [results, Tryd.results13]; simp [go_sem, z0, z1, z2, z3, z4, z5]) rfl ⟨by simp, ?_⟩
    exact bset6 (HB1.out.trans (hb4.mono HB1.out.size)) (Nat.le_refl _) _ _ _ _ _ _
  · have HA := Lib.hid (HQ.out _ hb3)
    obtain ⟨⟨d0, d1, d2, d3, d4, d5⟩, ⟨f0, f1, f2, f3, f4, f5⟩⟩ := six (HQ.out _ hb3)
    go_wp2
    obtain ⟨⟨z0, z1, z2, z3, z4, z5⟩, _⟩ := six (set6 HA.out (.int .i64 0) (.int .i64 0) (.int .i64 0) (.int .i64 0) (.int .i64 0) (.string ⟨#[]⟩))
    clear d0 d1 d2 d3 d4 d5 f0 f1 f2 f3 f4 f5
    refine bodyPost_ret (v := .tuple #[.agg #[.int .i64 0, .int .i64 0, .int .i64 0, .int .i64 0, .int .i64 0, .string ⟨#[]⟩], .bool false]) (by simp only [results, Tryd.results13]; simp [go_sem, z0, z1, z2, z3, z4, z5]) rfl ⟨by simp, ?_⟩
    exact bset6 (HB1.out.trans (hb3.mono HB1.out.size)) (Nat.le_refl _) _ _ _ _ _ _
end Go.Proofs
