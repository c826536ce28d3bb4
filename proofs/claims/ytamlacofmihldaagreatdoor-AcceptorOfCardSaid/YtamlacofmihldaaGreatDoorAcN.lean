/-
  acceptor: Of. Conditions: as each theorem names them.
-/
import Derived.Test.YtamlacofmihldaaGreatDoorMc
namespace Go.Proofs
open Go Go.RowKit Sm Go.Lib
attribute [local go_sem] Oper.semAt_some
/-- an acceptor of what was promised and accepted -/
def Sm.ofM (c s r q cr cq k m n : Int) (t : ByteArray) : AcM := ⟨c, s, r, q, cr, cq, k, m, n, t⟩
/-- is it nothing accepted? -/
def Sm.ntB (cr cq k m n : Int) (t : ByteArray) : Bool := decide (cr = -1 ∧ cq = 0 ∧ k = 0 ∧ m = 0 ∧ n = 0 ∧ t = ⟨#[]⟩)
theorem Sm.of_box (w : World) (r q cr cq k m n : Int) (t : ByteArray) : ∃ w2, (w.alloc (.cells #[.int .i64 r, .int .i64 q] 31)).alloc (.cells #[.int .i64 cr, .int .i64 cq, .int .i64 k, .int .i64 m, .int .i64 n, .string t] 36) = w2 ∧ w2.heap[w.heap.size]? = some (.cells #[.int .i64 r, .int .i64 q] 31 (0, 0)) ∧ w2.heap[w.heap.size + 1]? = some (.cells #[.int .i64 cr, .int .i64 cq, .int .i64 k, .int .i64 m, .int .i64 n, .string t] 36 (0, 0)) ∧ Below w.heap.size w w2 ∧ w.heap.size + 2 ≤ w2.heap.size := by
  refine ⟨_, rfl, ?_, ?_, ?_, ?_⟩
  · exact (Below.heap_alloc _ _ _ (by simp)).trans (World.alloc_heap_new w _)
  · have := World.alloc_heap_new (w.alloc (.cells #[.int .i64 r, .int .i64 q] 31)) (.cells #[.int .i64 cr, .int .i64 cq, .int .i64 k, .int .i64 m, .int .i64 n, .string t] 36)
    rwa [World.size_alloc] at this
  · exact ((Below.refl _ w).alloc (Nat.le_refl _) _).alloc (by simp) _
  · simp
set_option maxRecDepth 100000 in
set_option maxHeartbeats 2000000 in
theorem Sm.of_no (c s r q cr cq k m n : Int) (t : ByteArray) (w : World) (hn : ¬ (chB c = true ∧ slB s = true)) : Calls Tryz.prog 20 #[.int .i64 c, .int .i64 s, .agg #[.int .i64 r, .int .i64 q], .agg #[.int .i64 cr, .int .i64 cq, .int .i64 k, .int .i64 m, .int .i64 n, .string t]] w fun e w' => e = .returned (.tuple #[.pointer none, .int .i64 (slotV c s (s % c)).2]) ∧ Below w.heap.size w w' := by
  obtain ⟨w2, hw2, k0, k1, hb2, hz2⟩ := of_box w r q cr cq k m n t
  have H8 := Lib.hid (fun W => new_no c s W hn)
  obtain ⟨ev, hev⟩ : ∃ ev, (slotV c s (s % c)).2 = ev := ⟨_, rfl⟩
  have hev0 : (ev != 0) = true := by rw [← hev]; simp only [bne_iff_ne, ne_eq, slotV_e]; exact hn
  rw [hev] at H8 ⊢
  have HB2 := Lib.hid hb2
  clear k0 k1 hb2 hz2 hev hn
  go_enter Tryz.func20, Tryz.ntmps20
  go_wp2
  refine wp_scope_fwd 0 rfl ?_
  go_wp2_with (go_at_call 8; (with_reducible refine (H8.out _).mono ?_); rintro e w3 ⟨rfl, hb3⟩)
  go_step3
  refine ⟨rfl, ?_⟩
  go_wp2
  try rw [Exit.noGoto_ret]
  go_ret2
  exact ⟨rfl, HB2.out.trans (hb3.mono HB2.out.size)⟩
set_option maxRecDepth 100000 in
set_option maxHeartbeats 2000000 in
theorem Sm.of_may (c s r q cr cq k m n : Int) (t : ByteArray) (w : World) (hc : chB c = true) (hs : slB s = true) (hm : mayB c s r q = false) : Calls Tryz.prog 20 #[.int .i64 c, .int .i64 s, .agg #[.int .i64 r, .int .i64 q], .agg #[.int .i64 cr, .int .i64 cq, .int .i64 k, .int .i64 m, .int .i64 n, .string t]] w fun e w' => e = .returned (.tuple #[.pointer none, .int .i64 2]) ∧ Below w.heap.size w w' := by
  obtain ⟨w2, hw2, k0, k1, hb2, hz2⟩ := of_box w r q cr cq k m n t
  have H8 : Hid (∀ W, Calls Tryz.prog 8 #[.int .i64 c, .int .i64 s] W fun e w' => ∃ p, e = .returned (.tuple #[.pointer (some ⟨p, 0, none⟩), .int .i64 0]) ∧ W.heap.size ≤ p ∧ AAt w' p (newM c s) ∧ Below W.heap.size W w') := Lib.hid (fun W => new_yes c s W hc hs)
  have H37 : Hid (∀ W p r q, AAt W p (newM c s) → Calls Tryz.prog 37 #[.pointer (some ⟨p, 0, none⟩), .agg #[.int .i64 r, .int .i64 q]] W fun e w' => e = .returned (.bool (mayB c s r q)) ∧ Below W.heap.size W w') := Lib.hid fun W p r q h => may_any W p (newM c s) h r q
  have HS : Hid (∀ W, Below w2.heap.size w2 W → ((W.cell? ⟨w.heap.size, 0, none⟩ = some (.int .i64 r) ∧ W.cell? ⟨w.heap.size, 1, none⟩ = some (.int .i64 q)) ∧ W.cell? ⟨w.heap.size + 1, 0, none⟩ = some (.int .i64 cr) ∧ W.cell? ⟨w.heap.size + 1, 1, none⟩ = some (.int .i64 cq) ∧ W.cell? ⟨w.heap.size + 1, 2, none⟩ = some (.int .i64 k) ∧ W.cell? ⟨w.heap.size + 1, 3, none⟩ = some (.int .i64 m) ∧ W.cell? ⟨w.heap.size + 1, 4, none⟩ = some (.int .i64 n) ∧ W.cell? ⟨w.heap.size + 1, 5, none⟩ = some (.string t))) := Lib.hid fun W hb => ⟨(two ((hb.block _ (by omega)).trans k0)).1, (six ((hb.block _ (by omega)).trans k1)).1⟩
  have HB2 := Lib.hid hb2
  clear k0 k1 hb2 hc hs
  have H37a : Hid (∀ W p, AAt W p (newM c s) → Calls Tryz.prog 37 #[.pointer (some ⟨p, 0, none⟩), .agg #[.int .i64 r, .int .i64 q]] W fun e w' => e = .returned (.bool false) ∧ Below W.heap.size W w') := Lib.hid fun W p h => (H37.out W p r q h).mono fun e w' ⟨h1, h2⟩ => ⟨by rw [h1, hm], h2⟩
  clear hm
  clear H37
  go_enter Tryz.func20, Tryz.ntmps20
  go_wp2
  refine wp_scope_fwd 0 rfl ?_
  go_wp2_with (first
    | (go_at_call 8; (with_reducible refine (H8.out _).mono ?_); clear H8; rintro e w3 ⟨p, rfl, hp, hA3, hb3⟩; obtain ⟨⟨x0, x1⟩, _⟩ := HS.out _ hb3; clear hw2)
    | (go_at_call 37; (with_reducible refine (H37a.out _ _ hA3).mono ?_); clear H37a; rintro e w4 ⟨rfl, hb4⟩; have hA4 := hA3.keep hb4; have hb4 := hb3.trans (hb4.mono hb3.size); clear hA3 hb3 x0 x1))
  go_step3
  refine ⟨rfl, ?_⟩
  go_wp2
  try rw [Exit.noGoto_ret]
  go_ret2
  exact ⟨rfl, HB2.out.trans (hb4.mono HB2.out.size)⟩
set_option maxRecDepth 100000 in
set_option maxHeartbeats 2000000 in
theorem Sm.of_bad (c s r q cr cq k m n : Int) (t : ByteArray) (w : World) (hc : chB c = true) (hs : slB s = true) (hk : I64 k) (ht : t.size ≤ 1000000) (hL : LaysT w) (hm : mayB c s r q = true) (hnt : ntB cr cq k m n t = false) (hv : (mayB c s cr cq && decide (0 ≤ cmpB r q cr cq) && entB k m n t) = false) : Calls Tryz.prog 20 #[.int .i64 c, .int .i64 s, .agg #[.int .i64 r, .int .i64 q], .agg #[.int .i64 cr, .int .i64 cq, .int .i64 k, .int .i64 m, .int .i64 n, .string t]] w fun e w' => e = .returned (.tuple #[.pointer none, .int .i64 2]) ∧ Below w.heap.size w w' := by
  obtain ⟨w2, hw2, k0, k1, hb2, hz2⟩ := of_box w r q cr cq k m n t
  have H8 : Hid (∀ W, Calls Tryz.prog 8 #[.int .i64 c, .int .i64 s] W fun e w' => ∃ p, e = .returned (.tuple #[.pointer (some ⟨p, 0, none⟩), .int .i64 0]) ∧ W.heap.size ≤ p ∧ AAt w' p (newM c s) ∧ Below W.heap.size W w') := Lib.hid (fun W => new_yes c s W hc hs)
  have H37 : Hid (∀ W p r q, AAt W p (newM c s) → Calls Tryz.prog 37 #[.pointer (some ⟨p, 0, none⟩), .agg #[.int .i64 r, .int .i64 q]] W fun e w' => e = .returned (.bool (mayB c s r q)) ∧ Below W.heap.size W w') := Lib.hid fun W p r q h => may_any W p (newM c s) h r q
  have HS : Hid (∀ W, Below w2.heap.size w2 W → ((W.cell? ⟨w.heap.size, 0, none⟩ = some (.int .i64 r) ∧ W.cell? ⟨w.heap.size, 1, none⟩ = some (.int .i64 q)) ∧ W.cell? ⟨w.heap.size + 1, 0, none⟩ = some (.int .i64 cr) ∧ W.cell? ⟨w.heap.size + 1, 1, none⟩ = some (.int .i64 cq) ∧ W.cell? ⟨w.heap.size + 1, 2, none⟩ = some (.int .i64 k) ∧ W.cell? ⟨w.heap.size + 1, 3, none⟩ = some (.int .i64 m) ∧ W.cell? ⟨w.heap.size + 1, 4, none⟩ = some (.int .i64 n) ∧ W.cell? ⟨w.heap.size + 1, 5, none⟩ = some (.string t))) := Lib.hid fun W hb => ⟨(two ((hb.block _ (by omega)).trans k0)).1, (six ((hb.block _ (by omega)).trans k1)).1⟩
  have HB2 := Lib.hid hb2
  clear k0 k1 hb2 hc hs
  have H37a : Hid (∀ W p, AAt W p (newM c s) → Calls Tryz.prog 37 #[.pointer (some ⟨p, 0, none⟩), .agg #[.int .i64 r, .int .i64 q]] W fun e w' => e = .returned (.bool true) ∧ Below W.heap.size W w') := Lib.hid fun W p h => (H37.out W p r q h).mono fun e w' ⟨h1, h2⟩ => ⟨by rw [h1, hm], h2⟩
  clear hm
  have h23 := fun W => nothing_any W
  have hne : ∀ W, (binOp .neq 36 (.agg #[.int .i64 cr, .int .i64 cq, .int .i64 k, .int .i64 m, .int .i64 n, .string t]) (.agg #[.int .i64 (-1), .int .i64 0, .int .i64 0, .int .i64 0, .int .i64 0, .string ⟨#[]⟩])).run Tryz.prog W = .ok (.bool true) W := fun W => by
    rw [neq36]; unfold ntB at hnt; rw [hnt]; rfl
  obtain ⟨a, ha⟩ : ∃ a, mayB c s cr cq = a := ⟨_, rfl⟩
  obtain ⟨z, hz⟩ : ∃ z, entB k m n t = z := ⟨_, rfl⟩
  obtain ⟨kk, hkk⟩ : ∃ kk, cmpB r q cr cq = kk := ⟨_, rfl⟩
  rw [ha, hz, hkk] at hv
  obtain ⟨y, hy⟩ : ∃ y, decide (0 ≤ kk) = y := ⟨_, rfl⟩
  rw [hy] at hv
  have h38 : ∀ W : World, Calls Tryz.prog 38 #[.slice (some ⟨W.heap.size, 0, none⟩) 3 3] (W.alloc (.cells #[.bool a, .bool y, .bool z] 4)) fun e w' => e = .returned (.bool false) ∧ (W.alloc (.cells #[.bool a, .bool y, .bool z] 4)) = w' := fun W => by rw [← hv]; exact all3n W a y z
  have HL := Lib.hid (hL.keep HB2.out)
  clear hv
  clear hnt
  go_enter Tryz.func20, Tryz.ntmps20
  go_wp2
  refine wp_scope_fwd 0 rfl ?_
  go_upto_region 5 with (first
    | (go_at_call 8; (with_reducible refine (H8.out _).mono ?_); clear H8; rintro e w3 ⟨p, rfl, hp, hA3, hb3⟩; obtain ⟨⟨x0, x1⟩, _⟩ := HS.out _ hb3; clear hw2)
    | (go_at_call 37; (with_reducible refine (H37a.out _ _ hA3).mono ?_); clear H37a; rintro e w4 ⟨rfl, hb4⟩; have hA4 := hA3.keep hb4; have hb4 := hb3.trans (hb4.mono hb3.size); clear hA3 hb3 x0 x1))
  have hp2 : w2.heap.size ≤ p := hp
  have HS4 : Hid (∀ W, Below w4.heap.size w4 W → ((W.cell? ⟨w.heap.size, 0, none⟩ = some (.int .i64 r) ∧ W.cell? ⟨w.heap.size, 1, none⟩ = some (.int .i64 q)) ∧ W.cell? ⟨w.heap.size + 1, 0, none⟩ = some (.int .i64 cr) ∧ W.cell? ⟨w.heap.size + 1, 1, none⟩ = some (.int .i64 cq) ∧ W.cell? ⟨w.heap.size + 1, 2, none⟩ = some (.int .i64 k) ∧ W.cell? ⟨w.heap.size + 1, 3, none⟩ = some (.int .i64 m) ∧ W.cell? ⟨w.heap.size + 1, 4, none⟩ = some (.int .i64 n) ∧ W.cell? ⟨w.heap.size + 1, 5, none⟩ = some (.string t))) := Lib.hid fun W hb => HS.out W (hb4.trans (hb.mono hb4.size))
  have z0 := HS4.out _ (Below.refl _ w4)
  have H37b : Hid (∀ W, Below w4.heap.size w4 W → Calls Tryz.prog 37 #[.pointer (some ⟨p, 0, none⟩), .agg #[.int .i64 cr, .int .i64 cq]] W fun e w' => e = .returned (.bool a) ∧ Below w4.heap.size w4 w') := Lib.hid fun W hb => (H37.out W p cr cq (hA4.keep hb)).mono fun e w' ⟨h1, h2⟩ => ⟨by rw [h1, ha], hb.trans (h2.mono hb.size)⟩
  have H39 : Hid (∀ W, Below w4.heap.size w4 W → Calls Tryz.prog 39 #[.agg #[.int .i64 r, .int .i64 q], .agg #[.int .i64 cr, .int .i64 cq]] W fun e w' => e = .returned (.int .i64 kk) ∧ Below w4.heap.size w4 w') := Lib.hid fun W hb => (Compare_any r q cr cq W).mono fun e w' ⟨h1, h2⟩ => ⟨by rw [h1, hkk], hb.trans (h2.mono hb.size)⟩
  have H32 : Hid (∀ W, Below w4.heap.size w4 W → Calls Tryz.prog 32 #[.agg #[.int .i64 k, .int .i64 m, .int .i64 n, .string t]] W fun e w' => e = .returned (.bool z) ∧ Below w4.heap.size w4 w') := Lib.hid fun W hb => (right_any k m n t W hk ht (HL.out.keep (hb4.trans (hb.mono hb4.size)))).mono fun e w' ⟨h1, h2⟩ => ⟨by rw [h1, hz], hb.trans (h2.mono hb.size)⟩
  clear ha hz hkk hk H37
  have hS0 : (fun W => ((W.cell? ⟨w.heap.size, 0, none⟩ = some (.int .i64 r) ∧ W.cell? ⟨w.heap.size, 1, none⟩ = some (.int .i64 q)) ∧ W.cell? ⟨w.heap.size + 1, 0, none⟩ = some (.int .i64 cr) ∧ W.cell? ⟨w.heap.size + 1, 1, none⟩ = some (.int .i64 cq) ∧ W.cell? ⟨w.heap.size + 1, 2, none⟩ = some (.int .i64 k) ∧ W.cell? ⟨w.heap.size + 1, 3, none⟩ = some (.int .i64 m) ∧ W.cell? ⟨w.heap.size + 1, 4, none⟩ = some (.int .i64 n) ∧ W.cell? ⟨w.heap.size + 1, 5, none⟩ = some (.string t))) w4.drew := z0
  refine wp_region_held_drew (S := fun W => ((W.cell? ⟨w.heap.size, 0, none⟩ = some (.int .i64 r) ∧ W.cell? ⟨w.heap.size, 1, none⟩ = some (.int .i64 q)) ∧ W.cell? ⟨w.heap.size + 1, 0, none⟩ = some (.int .i64 cr) ∧ W.cell? ⟨w.heap.size + 1, 1, none⟩ = some (.int .i64 cq) ∧ W.cell? ⟨w.heap.size + 1, 2, none⟩ = some (.int .i64 k) ∧ W.cell? ⟨w.heap.size + 1, 3, none⟩ = some (.int .i64 m) ∧ W.cell? ⟨w.heap.size + 1, 4, none⟩ = some (.int .i64 n) ∧ W.cell? ⟨w.heap.size + 1, 5, none⟩ = some (.string t))) rfl hS0 (fun hHeld => ?_)
  simp only [List.size_toArray, List.length_cons, List.length_nil, Nat.reduceAdd]
  have HB0 : Hid (Below w4.heap.size w4 w4.drew) := Lib.hid (Below.refl _ _).drew
  obtain ⟨V0, hV0⟩ : ∃ V, w4.drew = V := ⟨_, rfl⟩
  rw [hV0] at hHeld hS0 HB0 ⊢
  clear hV0
  refine wpAnyH_take (i := 0) (v := .agg #[.int .i64 cr, .int .i64 cq, .int .i64 k, .int .i64 m, .int .i64 n, .string t]) rfl (by kernel_rfl) (by kernel_rfl) (by kernel_rfl) (fun _ _ _ h => h) (Or.inl ⟨by rfl, ?_⟩) (by assumption) ?_
  · intro wx hs1; obtain ⟨⟨s0, s1⟩, u0, u1, u2, u3, u4, u5⟩ := hs1; go_simp
  (try simp only [Act.put, List.getElem_toArray, List.getElem_cons_zero, List.setIfInBounds_toArray, List.set_cons_zero, List.set_cons_succ])
  refine wpAnyH_ready (rs := [1]) (by kernel_rfl) (by simp) (AllReadyH.cons rfl (fun K hK => ?_) AllReadyH.nil)
  go_simp
  go_at_call 23
  (with_reducible refine (h23 _).mono ?_)
  rintro e w5 ⟨rfl, hb⟩
  try dsimp only
  have HB5 : Hid (Below w4.heap.size w4 w5) := Lib.hid (HB0.out.trans (hb.mono HB0.out.size)); clear hb; have hS := HS4.out _ HB5.out
  refine hK.out _ _ hS (fun _ => ?_)
  clear hK K
  (try simp only [Act.put, List.getElem_toArray, List.getElem_cons_succ, List.getElem_cons_zero, List.setIfInBounds_toArray, List.set_cons_zero, List.set_cons_succ])
  refine wpAnyH_take (i := 2) (v := .bool true) rfl (by kernel_rfl) (by kernel_rfl) (by kernel_rfl) (fun _ _ _ h => h) (Or.inl ⟨by rfl, ?_⟩) (by assumption) ?_
  · intro wx hs1; clear hs1; have e3 := hne wx; go_simp
  (try simp only [Act.put, List.getElem_toArray, List.getElem_cons_succ, List.getElem_cons_zero, List.setIfInBounds_toArray, List.set_cons_zero, List.set_cons_succ])
  refine wpAnyH_take (i := 3) (v := .bool true) rfl (by kernel_rfl) (by kernel_rfl) (by kernel_rfl) (fun _ _ _ h => h) (Or.inl ⟨by rfl, ?_⟩) (by assumption) ?_
  · intro wx hs1; go_simp
  (try simp only [Act.put, List.getElem_toArray, List.getElem_cons_succ, List.getElem_cons_zero, List.setIfInBounds_toArray, List.set_cons_zero, List.set_cons_succ])
  refine wpAnyH_take (i := 4) (v := .pointer (some ⟨p, 0, none⟩)) rfl (by kernel_rfl) (by kernel_rfl) (by kernel_rfl) (fun _ _ _ h => h) (Or.inl ⟨by rfl, ?_⟩) (by assumption) ?_
  · intro wx hs1; go_simp
  (try simp only [Act.put, List.getElem_toArray, List.getElem_cons_succ, List.getElem_cons_zero, List.setIfInBounds_toArray, List.set_cons_zero, List.set_cons_succ])
  refine wpAnyH_take (i := 5) (v := .pointer (some ⟨w.heap.size + 1, 0, none⟩)) rfl (by kernel_rfl) (by kernel_rfl) (by kernel_rfl) (fun _ _ _ h => h) (Or.inl ⟨by rfl, ?_⟩) (by assumption) ?_
  · intro wx hs1; go_simp
  (try simp only [Act.put, List.getElem_toArray, List.getElem_cons_succ, List.getElem_cons_zero, List.setIfInBounds_toArray, List.set_cons_zero, List.set_cons_succ])
  refine wpAnyH_take (i := 6) (v := .agg #[.int .i64 cr, .int .i64 cq]) rfl (by kernel_rfl) (by kernel_rfl) (by kernel_rfl) (fun _ _ _ h => h) (Or.inl ⟨by rfl, ?_⟩) (by assumption) ?_
  · intro wx hs1; obtain ⟨⟨s0, s1⟩, u0, u1, u2, u3, u4, u5⟩ := hs1; go_simp
  (try simp only [Act.put, List.getElem_toArray, List.getElem_cons_succ, List.getElem_cons_zero, List.setIfInBounds_toArray, List.set_cons_zero, List.set_cons_succ])
  refine wpAnyH_take (i := 8) (v := .agg #[.int .i64 r, .int .i64 q]) rfl (by kernel_rfl) (by kernel_rfl) (by kernel_rfl) (fun _ _ _ h => h) (Or.inl ⟨by rfl, ?_⟩) (by assumption) ?_
  · intro wx hs1; obtain ⟨⟨s0, s1⟩, u0, u1, u2, u3, u4, u5⟩ := hs1; go_simp
  (try simp only [Act.put, List.getElem_toArray, List.getElem_cons_succ, List.getElem_cons_zero, List.setIfInBounds_toArray, List.set_cons_zero, List.set_cons_succ])
  refine wpAnyH_take (i := 9) (v := .pointer (some ⟨w.heap.size + 1, 0, none⟩)) rfl (by kernel_rfl) (by kernel_rfl) (by kernel_rfl) (fun _ _ _ h => h) (Or.inl ⟨by rfl, ?_⟩) (by assumption) ?_
  · intro wx hs1; go_simp
  (try simp only [Act.put, List.getElem_toArray, List.getElem_cons_succ, List.getElem_cons_zero, List.setIfInBounds_toArray, List.set_cons_zero, List.set_cons_succ])
  refine wpAnyH_take (i := 10) (v := .agg #[.int .i64 cr, .int .i64 cq]) rfl (by kernel_rfl) (by kernel_rfl) (by kernel_rfl) (fun _ _ _ h => h) (Or.inl ⟨by rfl, ?_⟩) (by assumption) ?_
  · intro wx hs1; obtain ⟨⟨s0, s1⟩, u0, u1, u2, u3, u4, u5⟩ := hs1; go_simp
  (try simp only [Act.put, List.getElem_toArray, List.getElem_cons_succ, List.getElem_cons_zero, List.setIfInBounds_toArray, List.set_cons_zero, List.set_cons_succ])
  refine wpAnyH_take (i := 13) (v := .pointer (some ⟨w.heap.size + 1, 2, none⟩)) rfl (by kernel_rfl) (by kernel_rfl) (by kernel_rfl) (fun _ _ _ h => h) (Or.inl ⟨by rfl, ?_⟩) (by assumption) ?_
  · intro wx hs1; go_simp
  (try simp only [Act.put, List.getElem_toArray, List.getElem_cons_succ, List.getElem_cons_zero, List.setIfInBounds_toArray, List.set_cons_zero, List.set_cons_succ])
  refine wpAnyH_take (i := 14) (v := .agg #[.int .i64 k, .int .i64 m, .int .i64 n, .string t]) rfl (by kernel_rfl) (by kernel_rfl) (by kernel_rfl) (fun _ _ _ h => h) (Or.inl ⟨by rfl, ?_⟩) (by assumption) ?_
  · intro wx hs1; obtain ⟨⟨s0, s1⟩, u0, u1, u2, u3, u4, u5⟩ := hs1; go_simp
  (try simp only [Act.put, List.getElem_toArray, List.getElem_cons_succ, List.getElem_cons_zero, List.setIfInBounds_toArray, List.set_cons_zero, List.set_cons_succ])
  refine wpAnyH_ready (rs := [7]) (by kernel_rfl) (by simp) (AllReadyH.cons rfl (fun K hK => ?_) AllReadyH.nil)
  · go_simp
    go_at_call 37
    (with_reducible refine (H37b.out _ HB5.out).mono ?_)
    rintro e w6 ⟨rfl, hb⟩
    try dsimp only
    have HB6 := Lib.hid hb; clear hb; have hS := HS4.out _ HB6.out
    refine hK.out _ _ hS (fun _ => ?_)
    clear hK K
    (try simp only [Act.put, List.getElem_toArray, List.getElem_cons_succ, List.getElem_cons_zero, List.setIfInBounds_toArray, List.set_cons_zero, List.set_cons_succ])
    refine wpAnyH_ready (rs := [11]) (by kernel_rfl) (by simp) (AllReadyH.cons rfl (fun K hK => ?_) AllReadyH.nil)
    · go_simp
      go_at_call 39
      (with_reducible refine (H39.out _ HB6.out).mono ?_)
      rintro e w7 ⟨rfl, hb⟩
      try dsimp only
      have HB7 := Lib.hid hb; clear hb; have hS := HS4.out _ HB7.out
      refine hK.out _ _ hS (fun _ => ?_)
      clear hK K
      (try simp only [Act.put, List.getElem_toArray, List.getElem_cons_succ, List.getElem_cons_zero, List.setIfInBounds_toArray, List.set_cons_zero, List.set_cons_succ])
      refine wpAnyH_take (i := 12) (v := .bool y) rfl (by kernel_rfl) (by kernel_rfl) (by kernel_rfl) (fun _ _ _ h => h) (Or.inl ⟨by rfl, ?_⟩) (by assumption) ?_
      · intro wx hs1; clear hs1; go_simp; try exact hy; try simp [hy]
      (try simp only [Act.put, List.getElem_toArray, List.getElem_cons_succ, List.getElem_cons_zero, List.setIfInBounds_toArray, List.set_cons_zero, List.set_cons_succ])
      refine wpAnyH_ready (rs := [15]) (by kernel_rfl) (by simp) (AllReadyH.cons rfl (fun K hK => ?_) AllReadyH.nil)
      · go_simp
        go_at_call 32
        (with_reducible refine (H32.out _ HB7.out).mono ?_)
        rintro e w8 ⟨rfl, hb⟩
        try dsimp only
        have HB8 := Lib.hid hb; clear hb; have hS := HS4.out _ HB8.out
        refine hK.out _ _ hS (fun _ => ?_)
        clear hK K
        (try simp only [Act.put, List.getElem_toArray, List.getElem_cons_succ, List.getElem_cons_zero, List.setIfInBounds_toArray, List.set_cons_zero, List.set_cons_succ])
        refine wpAnyH_ready (rs := [16]) (by kernel_rfl) (by simp) (AllReadyH.cons rfl (fun K hK => ?_) AllReadyH.nil)
        go_simp
        try dsimp only
        have HBA := Lib.hid (HB8.out.alloc HB8.out.size (.cells #[.bool a, .bool y, .bool z] 4)); have hS := HS4.out _ HBA.out
        refine hK.out _ _ hS (fun _ => ?_)
        clear hK K
        (try simp only [Act.put, List.getElem_toArray, List.getElem_cons_succ, List.getElem_cons_zero, List.setIfInBounds_toArray, List.set_cons_zero, List.set_cons_succ])
        refine wpAnyH_ready (rs := [17]) (by kernel_rfl) (by simp) (AllReadyH.cons rfl (fun K hK => ?_) AllReadyH.nil)
        go_simp
        go_at_call 38
        (with_reducible refine (h38 _).mono ?_)
        rintro e w' ⟨rfl, rfl⟩
        try dsimp only
        have hS := HS4.out _ HBA.out
        refine hK.out _ _ hS (fun _ => ?_)
        clear hK K
        (try simp only [Act.put, List.getElem_toArray, List.getElem_cons_succ, List.getElem_cons_zero, List.setIfInBounds_toArray, List.set_cons_zero, List.set_cons_succ])
        refine wpAnyH_take (i := 18) (v := .bool true) rfl (by kernel_rfl) (by kernel_rfl) (by kernel_rfl) (fun _ _ _ h => h) (Or.inl ⟨by rfl, ?_⟩) (by assumption) ?_
        · intro wx hs1; go_simp
        (try simp only [Act.put, List.getElem_toArray, List.getElem_cons_succ, List.getElem_cons_zero, List.setIfInBounds_toArray, List.set_cons_zero, List.set_cons_succ])
        refine wpAnyH_take (i := 19) (v := .bool true) rfl (by kernel_rfl) (by kernel_rfl) (by kernel_rfl) (fun _ _ _ h => h) (Or.inl ⟨by rfl, ?_⟩) (by assumption) ?_
        · intro wx hs1; go_simp
        (try simp only [Act.put, List.getElem_toArray, List.getElem_cons_succ, List.getElem_cons_zero, List.setIfInBounds_toArray, List.set_cons_zero, List.set_cons_succ])
        refine wpAnyH_done (by kernel_rfl) ?_ _
        go_wp2
        go_step3
        refine ⟨rfl, ?_⟩
        go_wp2
        try rw [Exit.noGoto_ret]
        go_ret2
        exact ⟨rfl, HB2.out.trans ((hb4.trans (HBA.out.mono hb4.size)).mono HB2.out.size)⟩
set_option maxRecDepth 100000 in
set_option maxHeartbeats 2000000 in
theorem Sm.of_yes1 (c s r q cr cq k m n : Int) (t : ByteArray) (w : World) (hc : chB c = true) (hs : slB s = true) (hk : I64 k) (ht : t.size ≤ 1000000) (hL : LaysT w) (hm : mayB c s r q = true) (hnt : ntB cr cq k m n t = false) (hv : (mayB c s cr cq && decide (0 ≤ cmpB r q cr cq) && entB k m n t) = true) : Calls Tryz.prog 20 #[.int .i64 c, .int .i64 s, .agg #[.int .i64 r, .int .i64 q], .agg #[.int .i64 cr, .int .i64 cq, .int .i64 k, .int .i64 m, .int .i64 n, .string t]] w fun e w' => ∃ p, e = .returned (.tuple #[.pointer (some ⟨p, 0, none⟩), .int .i64 0]) ∧ w.heap.size ≤ p ∧ AAt w' p (ofM c s r q cr cq k m n t) ∧ Below w.heap.size w w' := by
  obtain ⟨w2, hw2, k0, k1, hb2, hz2⟩ := of_box w r q cr cq k m n t
  have H8 : Hid (∀ W, Calls Tryz.prog 8 #[.int .i64 c, .int .i64 s] W fun e w' => ∃ p, e = .returned (.tuple #[.pointer (some ⟨p, 0, none⟩), .int .i64 0]) ∧ W.heap.size ≤ p ∧ AAt w' p (newM c s) ∧ Below W.heap.size W w') := Lib.hid (fun W => new_yes c s W hc hs)
  have H37 : Hid (∀ W p r q, AAt W p (newM c s) → Calls Tryz.prog 37 #[.pointer (some ⟨p, 0, none⟩), .agg #[.int .i64 r, .int .i64 q]] W fun e w' => e = .returned (.bool (mayB c s r q)) ∧ Below W.heap.size W w') := Lib.hid fun W p r q h => may_any W p (newM c s) h r q
  have HS : Hid (∀ W, Below w2.heap.size w2 W → ((W.cell? ⟨w.heap.size, 0, none⟩ = some (.int .i64 r) ∧ W.cell? ⟨w.heap.size, 1, none⟩ = some (.int .i64 q)) ∧ W.cell? ⟨w.heap.size + 1, 0, none⟩ = some (.int .i64 cr) ∧ W.cell? ⟨w.heap.size + 1, 1, none⟩ = some (.int .i64 cq) ∧ W.cell? ⟨w.heap.size + 1, 2, none⟩ = some (.int .i64 k) ∧ W.cell? ⟨w.heap.size + 1, 3, none⟩ = some (.int .i64 m) ∧ W.cell? ⟨w.heap.size + 1, 4, none⟩ = some (.int .i64 n) ∧ W.cell? ⟨w.heap.size + 1, 5, none⟩ = some (.string t))) := Lib.hid fun W hb => ⟨(two ((hb.block _ (by omega)).trans k0)).1, (six ((hb.block _ (by omega)).trans k1)).1⟩
  have HB2 := Lib.hid hb2
  clear k0 k1 hb2 hc hs
  have H37a : Hid (∀ W p, AAt W p (newM c s) → Calls Tryz.prog 37 #[.pointer (some ⟨p, 0, none⟩), .agg #[.int .i64 r, .int .i64 q]] W fun e w' => e = .returned (.bool true) ∧ Below W.heap.size W w') := Lib.hid fun W p h => (H37.out W p r q h).mono fun e w' ⟨h1, h2⟩ => ⟨by rw [h1, hm], h2⟩
  clear hm
  have h23 := fun W => nothing_any W
  have hne : ∀ W, (binOp .neq 36 (.agg #[.int .i64 cr, .int .i64 cq, .int .i64 k, .int .i64 m, .int .i64 n, .string t]) (.agg #[.int .i64 (-1), .int .i64 0, .int .i64 0, .int .i64 0, .int .i64 0, .string ⟨#[]⟩])).run Tryz.prog W = .ok (.bool true) W := fun W => by
    rw [neq36]; unfold ntB at hnt; rw [hnt]; rfl
  obtain ⟨a, ha⟩ : ∃ a, mayB c s cr cq = a := ⟨_, rfl⟩
  obtain ⟨z, hz⟩ : ∃ z, entB k m n t = z := ⟨_, rfl⟩
  obtain ⟨kk, hkk⟩ : ∃ kk, cmpB r q cr cq = kk := ⟨_, rfl⟩
  rw [ha, hz, hkk] at hv
  obtain ⟨y, hy⟩ : ∃ y, decide (0 ≤ kk) = y := ⟨_, rfl⟩
  rw [hy] at hv
  have h38 : ∀ W : World, Calls Tryz.prog 38 #[.slice (some ⟨W.heap.size, 0, none⟩) 3 3] (W.alloc (.cells #[.bool a, .bool y, .bool z] 4)) fun e w' => e = .returned (.bool true) ∧ (W.alloc (.cells #[.bool a, .bool y, .bool z] 4)) = w' := fun W => by rw [← hv]; exact all3n W a y z
  have HL := Lib.hid (hL.keep HB2.out)
  clear hv
  clear hnt
  have h30 := fun W => fresh_any cr cq k m n t W ht
  go_enter Tryz.func20, Tryz.ntmps20
  go_wp2
  go_step3
  go_upto_region 5 with (first
    | (go_at_call 8; (with_reducible refine (H8.out _).mono ?_); clear H8; rintro e w3 ⟨p, rfl, hp, hA3, hb3⟩; obtain ⟨⟨x0, x1⟩, _⟩ := HS.out _ hb3; clear hw2)
    | (go_at_call 37; (with_reducible refine (H37a.out _ _ hA3).mono ?_); clear H37a; rintro e w4 ⟨rfl, hb4⟩; have hA4 := hA3.keep hb4; have hb4 := hb3.trans (hb4.mono hb3.size); clear hA3 hb3 x0 x1))
  have hp2 : w2.heap.size ≤ p := hp
  have HS4 : Hid (∀ W, Below w4.heap.size w4 W → ((W.cell? ⟨w.heap.size, 0, none⟩ = some (.int .i64 r) ∧ W.cell? ⟨w.heap.size, 1, none⟩ = some (.int .i64 q)) ∧ W.cell? ⟨w.heap.size + 1, 0, none⟩ = some (.int .i64 cr) ∧ W.cell? ⟨w.heap.size + 1, 1, none⟩ = some (.int .i64 cq) ∧ W.cell? ⟨w.heap.size + 1, 2, none⟩ = some (.int .i64 k) ∧ W.cell? ⟨w.heap.size + 1, 3, none⟩ = some (.int .i64 m) ∧ W.cell? ⟨w.heap.size + 1, 4, none⟩ = some (.int .i64 n) ∧ W.cell? ⟨w.heap.size + 1, 5, none⟩ = some (.string t))) := Lib.hid fun W hb => HS.out W (hb4.trans (hb.mono hb4.size))
  have z0 := HS4.out _ (Below.refl _ w4)
  have H37b : Hid (∀ W, Below w4.heap.size w4 W → Calls Tryz.prog 37 #[.pointer (some ⟨p, 0, none⟩), .agg #[.int .i64 cr, .int .i64 cq]] W fun e w' => e = .returned (.bool a) ∧ Below w4.heap.size w4 w') := Lib.hid fun W hb => (H37.out W p cr cq (hA4.keep hb)).mono fun e w' ⟨h1, h2⟩ => ⟨by rw [h1, ha], hb.trans (h2.mono hb.size)⟩
  have H39 : Hid (∀ W, Below w4.heap.size w4 W → Calls Tryz.prog 39 #[.agg #[.int .i64 r, .int .i64 q], .agg #[.int .i64 cr, .int .i64 cq]] W fun e w' => e = .returned (.int .i64 kk) ∧ Below w4.heap.size w4 w') := Lib.hid fun W hb => (Compare_any r q cr cq W).mono fun e w' ⟨h1, h2⟩ => ⟨by rw [h1, hkk], hb.trans (h2.mono hb.size)⟩
  have H32 : Hid (∀ W, Below w4.heap.size w4 W → Calls Tryz.prog 32 #[.agg #[.int .i64 k, .int .i64 m, .int .i64 n, .string t]] W fun e w' => e = .returned (.bool z) ∧ Below w4.heap.size w4 w') := Lib.hid fun W hb => (right_any k m n t W hk ht (HL.out.keep (hb4.trans (hb.mono hb4.size)))).mono fun e w' ⟨h1, h2⟩ => ⟨by rw [h1, hz], hb.trans (h2.mono hb.size)⟩
  clear ha hz hkk hk H37
  have hS0 : (fun W => ((W.cell? ⟨w.heap.size, 0, none⟩ = some (.int .i64 r) ∧ W.cell? ⟨w.heap.size, 1, none⟩ = some (.int .i64 q)) ∧ W.cell? ⟨w.heap.size + 1, 0, none⟩ = some (.int .i64 cr) ∧ W.cell? ⟨w.heap.size + 1, 1, none⟩ = some (.int .i64 cq) ∧ W.cell? ⟨w.heap.size + 1, 2, none⟩ = some (.int .i64 k) ∧ W.cell? ⟨w.heap.size + 1, 3, none⟩ = some (.int .i64 m) ∧ W.cell? ⟨w.heap.size + 1, 4, none⟩ = some (.int .i64 n) ∧ W.cell? ⟨w.heap.size + 1, 5, none⟩ = some (.string t))) w4.drew := z0
  refine wp_region_held_drew (S := fun W => ((W.cell? ⟨w.heap.size, 0, none⟩ = some (.int .i64 r) ∧ W.cell? ⟨w.heap.size, 1, none⟩ = some (.int .i64 q)) ∧ W.cell? ⟨w.heap.size + 1, 0, none⟩ = some (.int .i64 cr) ∧ W.cell? ⟨w.heap.size + 1, 1, none⟩ = some (.int .i64 cq) ∧ W.cell? ⟨w.heap.size + 1, 2, none⟩ = some (.int .i64 k) ∧ W.cell? ⟨w.heap.size + 1, 3, none⟩ = some (.int .i64 m) ∧ W.cell? ⟨w.heap.size + 1, 4, none⟩ = some (.int .i64 n) ∧ W.cell? ⟨w.heap.size + 1, 5, none⟩ = some (.string t))) rfl hS0 (fun hHeld => ?_)
  simp only [List.size_toArray, List.length_cons, List.length_nil, Nat.reduceAdd]
  have HB0 : Hid (Below w4.heap.size w4 w4.drew) := Lib.hid (Below.refl _ _).drew
  obtain ⟨V0, hV0⟩ : ∃ V, w4.drew = V := ⟨_, rfl⟩
  rw [hV0] at hHeld hS0 HB0 ⊢
  clear hV0
  refine wpAnyH_take (i := 0) (v := .agg #[.int .i64 cr, .int .i64 cq, .int .i64 k, .int .i64 m, .int .i64 n, .string t]) rfl (by kernel_rfl) (by kernel_rfl) (by kernel_rfl) (fun _ _ _ h => h) (Or.inl ⟨by rfl, ?_⟩) (by assumption) ?_
  · intro wx hs1; obtain ⟨⟨s0, s1⟩, u0, u1, u2, u3, u4, u5⟩ := hs1; go_simp
  (try simp only [Act.put, List.getElem_toArray, List.getElem_cons_zero, List.setIfInBounds_toArray, List.set_cons_zero, List.set_cons_succ])
  refine wpAnyH_ready (rs := [1]) (by kernel_rfl) (by simp) (AllReadyH.cons rfl (fun K hK => ?_) AllReadyH.nil)
  go_simp
  go_at_call 23
  (with_reducible refine (h23 _).mono ?_)
  rintro e w5 ⟨rfl, hb⟩
  try dsimp only
  have HB5 : Hid (Below w4.heap.size w4 w5) := Lib.hid (HB0.out.trans (hb.mono HB0.out.size)); clear hb; have hS := HS4.out _ HB5.out
  refine hK.out _ _ hS (fun _ => ?_)
  clear hK K
  (try simp only [Act.put, List.getElem_toArray, List.getElem_cons_succ, List.getElem_cons_zero, List.setIfInBounds_toArray, List.set_cons_zero, List.set_cons_succ])
  refine wpAnyH_take (i := 2) (v := .bool true) rfl (by kernel_rfl) (by kernel_rfl) (by kernel_rfl) (fun _ _ _ h => h) (Or.inl ⟨by rfl, ?_⟩) (by assumption) ?_
  · intro wx hs1; clear hs1; have e3 := hne wx; go_simp
  (try simp only [Act.put, List.getElem_toArray, List.getElem_cons_succ, List.getElem_cons_zero, List.setIfInBounds_toArray, List.set_cons_zero, List.set_cons_succ])
  refine wpAnyH_take (i := 3) (v := .bool true) rfl (by kernel_rfl) (by kernel_rfl) (by kernel_rfl) (fun _ _ _ h => h) (Or.inl ⟨by rfl, ?_⟩) (by assumption) ?_
  · intro wx hs1; go_simp
  (try simp only [Act.put, List.getElem_toArray, List.getElem_cons_succ, List.getElem_cons_zero, List.setIfInBounds_toArray, List.set_cons_zero, List.set_cons_succ])
  refine wpAnyH_take (i := 4) (v := .pointer (some ⟨p, 0, none⟩)) rfl (by kernel_rfl) (by kernel_rfl) (by kernel_rfl) (fun _ _ _ h => h) (Or.inl ⟨by rfl, ?_⟩) (by assumption) ?_
  · intro wx hs1; go_simp
  (try simp only [Act.put, List.getElem_toArray, List.getElem_cons_succ, List.getElem_cons_zero, List.setIfInBounds_toArray, List.set_cons_zero, List.set_cons_succ])
  refine wpAnyH_take (i := 5) (v := .pointer (some ⟨w.heap.size + 1, 0, none⟩)) rfl (by kernel_rfl) (by kernel_rfl) (by kernel_rfl) (fun _ _ _ h => h) (Or.inl ⟨by rfl, ?_⟩) (by assumption) ?_
  · intro wx hs1; go_simp
  (try simp only [Act.put, List.getElem_toArray, List.getElem_cons_succ, List.getElem_cons_zero, List.setIfInBounds_toArray, List.set_cons_zero, List.set_cons_succ])
  refine wpAnyH_take (i := 6) (v := .agg #[.int .i64 cr, .int .i64 cq]) rfl (by kernel_rfl) (by kernel_rfl) (by kernel_rfl) (fun _ _ _ h => h) (Or.inl ⟨by rfl, ?_⟩) (by assumption) ?_
  · intro wx hs1; obtain ⟨⟨s0, s1⟩, u0, u1, u2, u3, u4, u5⟩ := hs1; go_simp
  (try simp only [Act.put, List.getElem_toArray, List.getElem_cons_succ, List.getElem_cons_zero, List.setIfInBounds_toArray, List.set_cons_zero, List.set_cons_succ])
  refine wpAnyH_take (i := 8) (v := .agg #[.int .i64 r, .int .i64 q]) rfl (by kernel_rfl) (by kernel_rfl) (by kernel_rfl) (fun _ _ _ h => h) (Or.inl ⟨by rfl, ?_⟩) (by assumption) ?_
  · intro wx hs1; obtain ⟨⟨s0, s1⟩, u0, u1, u2, u3, u4, u5⟩ := hs1; go_simp
  (try simp only [Act.put, List.getElem_toArray, List.getElem_cons_succ, List.getElem_cons_zero, List.setIfInBounds_toArray, List.set_cons_zero, List.set_cons_succ])
  refine wpAnyH_take (i := 9) (v := .pointer (some ⟨w.heap.size + 1, 0, none⟩)) rfl (by kernel_rfl) (by kernel_rfl) (by kernel_rfl) (fun _ _ _ h => h) (Or.inl ⟨by rfl, ?_⟩) (by assumption) ?_
  · intro wx hs1; go_simp
  (try simp only [Act.put, List.getElem_toArray, List.getElem_cons_succ, List.getElem_cons_zero, List.setIfInBounds_toArray, List.set_cons_zero, List.set_cons_succ])
  refine wpAnyH_take (i := 10) (v := .agg #[.int .i64 cr, .int .i64 cq]) rfl (by kernel_rfl) (by kernel_rfl) (by kernel_rfl) (fun _ _ _ h => h) (Or.inl ⟨by rfl, ?_⟩) (by assumption) ?_
  · intro wx hs1; obtain ⟨⟨s0, s1⟩, u0, u1, u2, u3, u4, u5⟩ := hs1; go_simp
  (try simp only [Act.put, List.getElem_toArray, List.getElem_cons_succ, List.getElem_cons_zero, List.setIfInBounds_toArray, List.set_cons_zero, List.set_cons_succ])
  refine wpAnyH_take (i := 13) (v := .pointer (some ⟨w.heap.size + 1, 2, none⟩)) rfl (by kernel_rfl) (by kernel_rfl) (by kernel_rfl) (fun _ _ _ h => h) (Or.inl ⟨by rfl, ?_⟩) (by assumption) ?_
  · intro wx hs1; go_simp
  (try simp only [Act.put, List.getElem_toArray, List.getElem_cons_succ, List.getElem_cons_zero, List.setIfInBounds_toArray, List.set_cons_zero, List.set_cons_succ])
  refine wpAnyH_take (i := 14) (v := .agg #[.int .i64 k, .int .i64 m, .int .i64 n, .string t]) rfl (by kernel_rfl) (by kernel_rfl) (by kernel_rfl) (fun _ _ _ h => h) (Or.inl ⟨by rfl, ?_⟩) (by assumption) ?_
  · intro wx hs1; obtain ⟨⟨s0, s1⟩, u0, u1, u2, u3, u4, u5⟩ := hs1; go_simp
  (try simp only [Act.put, List.getElem_toArray, List.getElem_cons_succ, List.getElem_cons_zero, List.setIfInBounds_toArray, List.set_cons_zero, List.set_cons_succ])
  refine wpAnyH_ready (rs := [7]) (by kernel_rfl) (by simp) (AllReadyH.cons rfl (fun K hK => ?_) AllReadyH.nil)
  · go_simp
    go_at_call 37
    (with_reducible refine (H37b.out _ HB5.out).mono ?_)
    rintro e w6 ⟨rfl, hb⟩
    try dsimp only
    have HB6 := Lib.hid hb; clear hb; have hS := HS4.out _ HB6.out
    refine hK.out _ _ hS (fun _ => ?_)
    clear hK K
    (try simp only [Act.put, List.getElem_toArray, List.getElem_cons_succ, List.getElem_cons_zero, List.setIfInBounds_toArray, List.set_cons_zero, List.set_cons_succ])
    refine wpAnyH_ready (rs := [11]) (by kernel_rfl) (by simp) (AllReadyH.cons rfl (fun K hK => ?_) AllReadyH.nil)
    · go_simp
      go_at_call 39
      (with_reducible refine (H39.out _ HB6.out).mono ?_)
      rintro e w7 ⟨rfl, hb⟩
      try dsimp only
      have HB7 := Lib.hid hb; clear hb; have hS := HS4.out _ HB7.out
      refine hK.out _ _ hS (fun _ => ?_)
      clear hK K
      (try simp only [Act.put, List.getElem_toArray, List.getElem_cons_succ, List.getElem_cons_zero, List.setIfInBounds_toArray, List.set_cons_zero, List.set_cons_succ])
      refine wpAnyH_take (i := 12) (v := .bool y) rfl (by kernel_rfl) (by kernel_rfl) (by kernel_rfl) (fun _ _ _ h => h) (Or.inl ⟨by rfl, ?_⟩) (by assumption) ?_
      · intro wx hs1; clear hs1; go_simp; try exact hy; try simp [hy]
      (try simp only [Act.put, List.getElem_toArray, List.getElem_cons_succ, List.getElem_cons_zero, List.setIfInBounds_toArray, List.set_cons_zero, List.set_cons_succ])
      refine wpAnyH_ready (rs := [15]) (by kernel_rfl) (by simp) (AllReadyH.cons rfl (fun K hK => ?_) AllReadyH.nil)
      · go_simp
        go_at_call 32
        (with_reducible refine (H32.out _ HB7.out).mono ?_)
        rintro e w8 ⟨rfl, hb⟩
        try dsimp only
        have HB8 := Lib.hid hb; clear hb; have hS := HS4.out _ HB8.out
        refine hK.out _ _ hS (fun _ => ?_)
        clear hK K
        (try simp only [Act.put, List.getElem_toArray, List.getElem_cons_succ, List.getElem_cons_zero, List.setIfInBounds_toArray, List.set_cons_zero, List.set_cons_succ])
        refine wpAnyH_ready (rs := [16]) (by kernel_rfl) (by simp) (AllReadyH.cons rfl (fun K hK => ?_) AllReadyH.nil)
        go_simp
        try dsimp only
        have HBA := Lib.hid (HB8.out.alloc HB8.out.size (.cells #[.bool a, .bool y, .bool z] 4)); have hS := HS4.out _ HBA.out
        refine hK.out _ _ hS (fun _ => ?_)
        clear hK K
        (try simp only [Act.put, List.getElem_toArray, List.getElem_cons_succ, List.getElem_cons_zero, List.setIfInBounds_toArray, List.set_cons_zero, List.set_cons_succ])
        refine wpAnyH_ready (rs := [17]) (by kernel_rfl) (by simp) (AllReadyH.cons rfl (fun K hK => ?_) AllReadyH.nil)
        go_simp
        go_at_call 38
        (with_reducible refine (h38 _).mono ?_)
        rintro e w' ⟨rfl, rfl⟩
        try dsimp only
        have hS := HS4.out _ HBA.out
        refine hK.out _ _ hS (fun _ => ?_)
        clear hK K
        (try simp only [Act.put, List.getElem_toArray, List.getElem_cons_succ, List.getElem_cons_zero, List.setIfInBounds_toArray, List.set_cons_zero, List.set_cons_succ])
        refine wpAnyH_take (i := 18) (v := .bool false) rfl (by kernel_rfl) (by kernel_rfl) (by kernel_rfl) (fun _ _ _ h => h) (Or.inl ⟨by rfl, ?_⟩) (by assumption) ?_
        · intro wx hs1; go_simp
        (try simp only [Act.put, List.getElem_toArray, List.getElem_cons_succ, List.getElem_cons_zero, List.setIfInBounds_toArray, List.set_cons_zero, List.set_cons_succ])
        refine wpAnyH_take (i := 19) (v := .bool false) rfl (by kernel_rfl) (by kernel_rfl) (by kernel_rfl) (fun _ _ _ h => h) (Or.inl ⟨by rfl, ?_⟩) (by assumption) ?_
        · intro wx hs1; go_simp
        (try simp only [Act.put, List.getElem_toArray, List.getElem_cons_succ, List.getElem_cons_zero, List.setIfInBounds_toArray, List.set_cons_zero, List.set_cons_succ])
        refine wpAnyH_done (by kernel_rfl) ?_ _
        go_upto_region 6 with fail
        have hb6 := HBA.out
        obtain ⟨w6, hw6⟩ : ∃ v, (w8.alloc (.cells #[.bool a, .bool y, .bool z] 4)) = v := ⟨_, rfl⟩
        rw [hw6] at hb6 ⊢
        clear hw6
        have HS6 : Hid (∀ W, Below w6.heap.size w6 W → ((W.cell? ⟨w.heap.size, 0, none⟩ = some (.int .i64 r) ∧ W.cell? ⟨w.heap.size, 1, none⟩ = some (.int .i64 q)) ∧ W.cell? ⟨w.heap.size + 1, 0, none⟩ = some (.int .i64 cr) ∧ W.cell? ⟨w.heap.size + 1, 1, none⟩ = some (.int .i64 cq) ∧ W.cell? ⟨w.heap.size + 1, 2, none⟩ = some (.int .i64 k) ∧ W.cell? ⟨w.heap.size + 1, 3, none⟩ = some (.int .i64 m) ∧ W.cell? ⟨w.heap.size + 1, 4, none⟩ = some (.int .i64 n) ∧ W.cell? ⟨w.heap.size + 1, 5, none⟩ = some (.string t))) := Lib.hid fun W hb => HS4.out W (hb6.trans (hb.mono hb6.size))
        have HP6 := Lib.hid (hA4.keep hb6)
        have z6 := HS6.out _ (Below.refl _ w6)
        have HO : Hid (∀ W, Below w6.heap.size w6 W → (fun W => ((W.cell? ⟨w.heap.size, 0, none⟩ = some (.int .i64 r) ∧ W.cell? ⟨w.heap.size, 1, none⟩ = some (.int .i64 q)) ∧ W.cell? ⟨w.heap.size + 1, 0, none⟩ = some (.int .i64 cr) ∧ W.cell? ⟨w.heap.size + 1, 1, none⟩ = some (.int .i64 cq) ∧ W.cell? ⟨w.heap.size + 1, 2, none⟩ = some (.int .i64 k) ∧ W.cell? ⟨w.heap.size + 1, 3, none⟩ = some (.int .i64 m) ∧ W.cell? ⟨w.heap.size + 1, 4, none⟩ = some (.int .i64 n) ∧ W.cell? ⟨w.heap.size + 1, 5, none⟩ = some (.string t))) ((((((((W.setCell ⟨p, 2, none⟩ (.int .i64 r)).setCell ⟨p, 3, none⟩ (.int .i64 q)).setCell ⟨p, 4, none⟩ (.int .i64 cr)).setCell ⟨p, 5, none⟩ (.int .i64 cq)).setCell ⟨p, 6, none⟩ (.int .i64 k)).setCell ⟨p, 7, none⟩ (.int .i64 m)).setCell ⟨p, 8, none⟩ (.int .i64 n)).setCell ⟨p, 9, none⟩ (.string t))) := Lib.hid fun W hb => by
          have hs := HS6.out W hb
          have k3 : ∀ (q' : Addr) x, q'.block ≠ p → W.cell? q' = some x → ((((((((W.setCell ⟨p, 2, none⟩ (.int .i64 r)).setCell ⟨p, 3, none⟩ (.int .i64 q)).setCell ⟨p, 4, none⟩ (.int .i64 cr)).setCell ⟨p, 5, none⟩ (.int .i64 cq)).setCell ⟨p, 6, none⟩ (.int .i64 k)).setCell ⟨p, 7, none⟩ (.int .i64 m)).setCell ⟨p, 8, none⟩ (.int .i64 n)).setCell ⟨p, 9, none⟩ (.string t)).cell? q' = some x := fun q' x hn h => cellO (cellO (cellO (cellO (cellO (cellO (cellO (cellO h hn) hn) hn) hn) hn) hn) hn) hn
          have n0 : w.heap.size ≠ p := by omega
          have n1 : w.heap.size + 1 ≠ p := by omega
          exact ⟨⟨k3 _ _ n0 hs.1.1, k3 _ _ n0 hs.1.2⟩, k3 _ _ n1 hs.2.1, k3 _ _ n1 hs.2.2.1, k3 _ _ n1 hs.2.2.2.1, k3 _ _ n1 hs.2.2.2.2.1, k3 _ _ n1 hs.2.2.2.2.2.1, k3 _ _ n1 hs.2.2.2.2.2.2⟩
        have hl := HP6.out.lt
        go_region_held_law (fun W => ((W.cell? ⟨w.heap.size, 0, none⟩ = some (.int .i64 r) ∧ W.cell? ⟨w.heap.size, 1, none⟩ = some (.int .i64 q)) ∧ W.cell? ⟨w.heap.size + 1, 0, none⟩ = some (.int .i64 cr) ∧ W.cell? ⟨w.heap.size + 1, 1, none⟩ = some (.int .i64 cq) ∧ W.cell? ⟨w.heap.size + 1, 2, none⟩ = some (.int .i64 k) ∧ W.cell? ⟨w.heap.size + 1, 3, none⟩ = some (.int .i64 m) ∧ W.cell? ⟨w.heap.size + 1, 4, none⟩ = some (.int .i64 n) ∧ W.cell? ⟨w.heap.size + 1, 5, none⟩ = some (.string t)))
          (first | with_reducible exact z6 | with_reducible exact hset | (refine HS6.out _ ?_; (first | with_reducible assumption | with_reducible exact (Below.refl _ _).drew | with_reducible exact Below.refl _ _)))
          ((go_at_call 30; (with_reducible refine (h30 _).mono ?_); rintro e w7 ⟨rfl, hb7⟩; have hb7 : Below w6.heap.size w6 w7 := (Below.refl _ w6).drew.trans hb7; have hset := HO.out _ hb7; have HP2 := Lib.hid (HP6.out.keep hb7); have hs2 := hb7.size; obtain ⟨c0, c1, c2, c3, c4, c5, c6, c7, c8, c9⟩ := HP2.out.cells; have f2 := HP2.out.free 2; have f3 := HP2.out.free 3; have f4 := HP2.out.free 4; have f5 := HP2.out.free 5; have f6 := HP2.out.free 6; have f7 := HP2.out.free 7; have f8 := HP2.out.free 8; have f9 := HP2.out.free 9))
        all_goals
          go_wp2
          try rw [Exit.noGoto_ret]
          go_ret2
          exact ⟨p, rfl, by omega, (HP2.out.prom r q).acc cr cq k m n t, bst8 (HB2.out.trans ((hb4.trans ((hb6.trans (hb7.mono hb6.size)).mono hb4.size)).mono HB2.out.size)) (by omega) _ _ _ _ _ _ _ _⟩
set_option maxRecDepth 100000 in
set_option maxHeartbeats 2000000 in
theorem Sm.of_yes0 (c s r q cr cq k m n : Int) (t : ByteArray) (w : World) (hc : chB c = true) (hs : slB s = true) (ht : t.size ≤ 1000000) (hm : mayB c s r q = true) (hnt : ntB cr cq k m n t = true) : Calls Tryz.prog 20 #[.int .i64 c, .int .i64 s, .agg #[.int .i64 r, .int .i64 q], .agg #[.int .i64 cr, .int .i64 cq, .int .i64 k, .int .i64 m, .int .i64 n, .string t]] w fun e w' => ∃ p, e = .returned (.tuple #[.pointer (some ⟨p, 0, none⟩), .int .i64 0]) ∧ w.heap.size ≤ p ∧ AAt w' p (ofM c s r q cr cq k m n t) ∧ Below w.heap.size w w' := by
  obtain ⟨w2, hw2, k0, k1, hb2, hz2⟩ := of_box w r q cr cq k m n t
  have H8 : Hid (∀ W, Calls Tryz.prog 8 #[.int .i64 c, .int .i64 s] W fun e w' => ∃ p, e = .returned (.tuple #[.pointer (some ⟨p, 0, none⟩), .int .i64 0]) ∧ W.heap.size ≤ p ∧ AAt w' p (newM c s) ∧ Below W.heap.size W w') := Lib.hid (fun W => new_yes c s W hc hs)
  have H37 : Hid (∀ W p r q, AAt W p (newM c s) → Calls Tryz.prog 37 #[.pointer (some ⟨p, 0, none⟩), .agg #[.int .i64 r, .int .i64 q]] W fun e w' => e = .returned (.bool (mayB c s r q)) ∧ Below W.heap.size W w') := Lib.hid fun W p r q h => may_any W p (newM c s) h r q
  have HS : Hid (∀ W, Below w2.heap.size w2 W → ((W.cell? ⟨w.heap.size, 0, none⟩ = some (.int .i64 r) ∧ W.cell? ⟨w.heap.size, 1, none⟩ = some (.int .i64 q)) ∧ W.cell? ⟨w.heap.size + 1, 0, none⟩ = some (.int .i64 cr) ∧ W.cell? ⟨w.heap.size + 1, 1, none⟩ = some (.int .i64 cq) ∧ W.cell? ⟨w.heap.size + 1, 2, none⟩ = some (.int .i64 k) ∧ W.cell? ⟨w.heap.size + 1, 3, none⟩ = some (.int .i64 m) ∧ W.cell? ⟨w.heap.size + 1, 4, none⟩ = some (.int .i64 n) ∧ W.cell? ⟨w.heap.size + 1, 5, none⟩ = some (.string t))) := Lib.hid fun W hb => ⟨(two ((hb.block _ (by omega)).trans k0)).1, (six ((hb.block _ (by omega)).trans k1)).1⟩
  have HB2 := Lib.hid hb2
  clear k0 k1 hb2 hc hs
  have H37a : Hid (∀ W p, AAt W p (newM c s) → Calls Tryz.prog 37 #[.pointer (some ⟨p, 0, none⟩), .agg #[.int .i64 r, .int .i64 q]] W fun e w' => e = .returned (.bool true) ∧ Below W.heap.size W w') := Lib.hid fun W p h => (H37.out W p r q h).mono fun e w' ⟨h1, h2⟩ => ⟨by rw [h1, hm], h2⟩
  clear hm
  have h23 := fun W => nothing_any W
  have hne : ∀ W, (binOp .neq 36 (.agg #[.int .i64 cr, .int .i64 cq, .int .i64 k, .int .i64 m, .int .i64 n, .string t]) (.agg #[.int .i64 (-1), .int .i64 0, .int .i64 0, .int .i64 0, .int .i64 0, .string ⟨#[]⟩])).run Tryz.prog W = .ok (.bool false) W := fun W => by
    rw [neq36]; unfold ntB at hnt; rw [hnt]; rfl
  clear hnt
  have h30 := fun W => fresh_any cr cq k m n t W ht
  clear H37
  go_enter Tryz.func20, Tryz.ntmps20
  go_wp2
  go_step3
  go_upto_region 5 with (first
    | (go_at_call 8; (with_reducible refine (H8.out _).mono ?_); clear H8; rintro e w3 ⟨p, rfl, hp, hA3, hb3⟩; obtain ⟨⟨x0, x1⟩, _⟩ := HS.out _ hb3; clear hw2)
    | (go_at_call 37; (with_reducible refine (H37a.out _ _ hA3).mono ?_); clear H37a; rintro e w4 ⟨rfl, hb4⟩; have hA4 := hA3.keep hb4; have hb4 := hb3.trans (hb4.mono hb3.size); clear hA3 hb3 x0 x1))
  have hp2 : w2.heap.size ≤ p := hp
  have HS4 : Hid (∀ W, Below w4.heap.size w4 W → ((W.cell? ⟨w.heap.size, 0, none⟩ = some (.int .i64 r) ∧ W.cell? ⟨w.heap.size, 1, none⟩ = some (.int .i64 q)) ∧ W.cell? ⟨w.heap.size + 1, 0, none⟩ = some (.int .i64 cr) ∧ W.cell? ⟨w.heap.size + 1, 1, none⟩ = some (.int .i64 cq) ∧ W.cell? ⟨w.heap.size + 1, 2, none⟩ = some (.int .i64 k) ∧ W.cell? ⟨w.heap.size + 1, 3, none⟩ = some (.int .i64 m) ∧ W.cell? ⟨w.heap.size + 1, 4, none⟩ = some (.int .i64 n) ∧ W.cell? ⟨w.heap.size + 1, 5, none⟩ = some (.string t))) := Lib.hid fun W hb => HS.out W (hb4.trans (hb.mono hb4.size))
  have z0 := HS4.out _ (Below.refl _ w4)
  have hS0 : (fun W => ((W.cell? ⟨w.heap.size, 0, none⟩ = some (.int .i64 r) ∧ W.cell? ⟨w.heap.size, 1, none⟩ = some (.int .i64 q)) ∧ W.cell? ⟨w.heap.size + 1, 0, none⟩ = some (.int .i64 cr) ∧ W.cell? ⟨w.heap.size + 1, 1, none⟩ = some (.int .i64 cq) ∧ W.cell? ⟨w.heap.size + 1, 2, none⟩ = some (.int .i64 k) ∧ W.cell? ⟨w.heap.size + 1, 3, none⟩ = some (.int .i64 m) ∧ W.cell? ⟨w.heap.size + 1, 4, none⟩ = some (.int .i64 n) ∧ W.cell? ⟨w.heap.size + 1, 5, none⟩ = some (.string t))) w4.drew := z0
  refine wp_region_held_drew (S := fun W => ((W.cell? ⟨w.heap.size, 0, none⟩ = some (.int .i64 r) ∧ W.cell? ⟨w.heap.size, 1, none⟩ = some (.int .i64 q)) ∧ W.cell? ⟨w.heap.size + 1, 0, none⟩ = some (.int .i64 cr) ∧ W.cell? ⟨w.heap.size + 1, 1, none⟩ = some (.int .i64 cq) ∧ W.cell? ⟨w.heap.size + 1, 2, none⟩ = some (.int .i64 k) ∧ W.cell? ⟨w.heap.size + 1, 3, none⟩ = some (.int .i64 m) ∧ W.cell? ⟨w.heap.size + 1, 4, none⟩ = some (.int .i64 n) ∧ W.cell? ⟨w.heap.size + 1, 5, none⟩ = some (.string t))) rfl hS0 (fun hHeld => ?_)
  simp only [List.size_toArray, List.length_cons, List.length_nil, Nat.reduceAdd]
  have HB0 : Hid (Below w4.heap.size w4 w4.drew) := Lib.hid (Below.refl _ _).drew
  obtain ⟨V0, hV0⟩ : ∃ V, w4.drew = V := ⟨_, rfl⟩
  rw [hV0] at hHeld hS0 HB0 ⊢
  clear hV0
  refine wpAnyH_take (i := 0) (v := .agg #[.int .i64 cr, .int .i64 cq, .int .i64 k, .int .i64 m, .int .i64 n, .string t]) rfl (by kernel_rfl) (by kernel_rfl) (by kernel_rfl) (fun _ _ _ h => h) (Or.inl ⟨by rfl, ?_⟩) (by assumption) ?_
  · intro wx hs1; obtain ⟨⟨s0, s1⟩, u0, u1, u2, u3, u4, u5⟩ := hs1; go_simp
  (try simp only [Act.put, List.getElem_toArray, List.getElem_cons_zero, List.setIfInBounds_toArray, List.set_cons_zero, List.set_cons_succ])
  refine wpAnyH_ready (rs := [1]) (by kernel_rfl) (by simp) (AllReadyH.cons rfl (fun K hK => ?_) AllReadyH.nil)
  go_simp
  go_at_call 23
  (with_reducible refine (h23 _).mono ?_)
  rintro e w5 ⟨rfl, hb⟩
  try dsimp only
  have HB5 : Hid (Below w4.heap.size w4 w5) := Lib.hid (HB0.out.trans (hb.mono HB0.out.size)); clear hb; have hS := HS4.out _ HB5.out
  refine hK.out _ _ hS (fun _ => ?_)
  clear hK K
  (try simp only [Act.put, List.getElem_toArray, List.getElem_cons_succ, List.getElem_cons_zero, List.setIfInBounds_toArray, List.set_cons_zero, List.set_cons_succ])
  refine wpAnyH_take (i := 2) (v := .bool false) rfl (by kernel_rfl) (by kernel_rfl) (by kernel_rfl) (fun _ _ _ h => h) (Or.inl ⟨by rfl, ?_⟩) (by assumption) ?_
  · intro wx hs1; clear hs1; have e3 := hne wx; go_simp
  (try simp only [Act.put, List.getElem_toArray, List.getElem_cons_succ, List.getElem_cons_zero, List.setIfInBounds_toArray, List.set_cons_zero, List.set_cons_succ])
  refine wpAnyH_take (i := 3) (v := .bool false) rfl (by kernel_rfl) (by kernel_rfl) (by kernel_rfl) (fun _ _ _ h => h) (Or.inl ⟨by rfl, ?_⟩) (by assumption) ?_
  · intro wx hs1; go_simp
  (try simp only [Act.put, List.getElem_toArray, List.getElem_cons_succ, List.getElem_cons_zero, List.setIfInBounds_toArray, List.set_cons_zero, List.set_cons_succ])
  refine wpAnyH_take (i := 4) (v := undef) rfl (by kernel_rfl) (by kernel_rfl) (by kernel_rfl) (fun _ _ _ h => h) (Or.inr ⟨by rfl, rfl⟩) (by assumption) ?_
  (try simp only [Act.put, List.getElem_toArray, List.getElem_cons_succ, List.getElem_cons_zero, List.setIfInBounds_toArray, List.set_cons_zero, List.set_cons_succ])
  refine wpAnyH_take (i := 5) (v := undef) rfl (by kernel_rfl) (by kernel_rfl) (by kernel_rfl) (fun _ _ _ h => h) (Or.inr ⟨by rfl, rfl⟩) (by assumption) ?_
  (try simp only [Act.put, List.getElem_toArray, List.getElem_cons_succ, List.getElem_cons_zero, List.setIfInBounds_toArray, List.set_cons_zero, List.set_cons_succ])
  refine wpAnyH_take (i := 6) (v := undef) rfl (by kernel_rfl) (by kernel_rfl) (by kernel_rfl) (fun _ _ _ h => h) (Or.inr ⟨by rfl, rfl⟩) (by assumption) ?_
  (try simp only [Act.put, List.getElem_toArray, List.getElem_cons_succ, List.getElem_cons_zero, List.setIfInBounds_toArray, List.set_cons_zero, List.set_cons_succ])
  refine wpAnyH_take (i := 7) (v := undef) rfl (by kernel_rfl) (by kernel_rfl) (by kernel_rfl) (fun _ _ _ h => h) (Or.inr ⟨by rfl, rfl⟩) (by assumption) ?_
  (try simp only [Act.put, List.getElem_toArray, List.getElem_cons_succ, List.getElem_cons_zero, List.setIfInBounds_toArray, List.set_cons_zero, List.set_cons_succ])
  refine wpAnyH_take (i := 8) (v := undef) rfl (by kernel_rfl) (by kernel_rfl) (by kernel_rfl) (fun _ _ _ h => h) (Or.inr ⟨by rfl, rfl⟩) (by assumption) ?_
  (try simp only [Act.put, List.getElem_toArray, List.getElem_cons_succ, List.getElem_cons_zero, List.setIfInBounds_toArray, List.set_cons_zero, List.set_cons_succ])
  refine wpAnyH_take (i := 9) (v := undef) rfl (by kernel_rfl) (by kernel_rfl) (by kernel_rfl) (fun _ _ _ h => h) (Or.inr ⟨by rfl, rfl⟩) (by assumption) ?_
  (try simp only [Act.put, List.getElem_toArray, List.getElem_cons_succ, List.getElem_cons_zero, List.setIfInBounds_toArray, List.set_cons_zero, List.set_cons_succ])
  refine wpAnyH_take (i := 10) (v := undef) rfl (by kernel_rfl) (by kernel_rfl) (by kernel_rfl) (fun _ _ _ h => h) (Or.inr ⟨by rfl, rfl⟩) (by assumption) ?_
  (try simp only [Act.put, List.getElem_toArray, List.getElem_cons_succ, List.getElem_cons_zero, List.setIfInBounds_toArray, List.set_cons_zero, List.set_cons_succ])
  refine wpAnyH_take (i := 11) (v := undef) rfl (by kernel_rfl) (by kernel_rfl) (by kernel_rfl) (fun _ _ _ h => h) (Or.inr ⟨by rfl, rfl⟩) (by assumption) ?_
  (try simp only [Act.put, List.getElem_toArray, List.getElem_cons_succ, List.getElem_cons_zero, List.setIfInBounds_toArray, List.set_cons_zero, List.set_cons_succ])
  refine wpAnyH_take (i := 12) (v := undef) rfl (by kernel_rfl) (by kernel_rfl) (by kernel_rfl) (fun _ _ _ h => h) (Or.inr ⟨by rfl, rfl⟩) (by assumption) ?_
  (try simp only [Act.put, List.getElem_toArray, List.getElem_cons_succ, List.getElem_cons_zero, List.setIfInBounds_toArray, List.set_cons_zero, List.set_cons_succ])
  refine wpAnyH_take (i := 13) (v := undef) rfl (by kernel_rfl) (by kernel_rfl) (by kernel_rfl) (fun _ _ _ h => h) (Or.inr ⟨by rfl, rfl⟩) (by assumption) ?_
  (try simp only [Act.put, List.getElem_toArray, List.getElem_cons_succ, List.getElem_cons_zero, List.setIfInBounds_toArray, List.set_cons_zero, List.set_cons_succ])
  refine wpAnyH_take (i := 14) (v := undef) rfl (by kernel_rfl) (by kernel_rfl) (by kernel_rfl) (fun _ _ _ h => h) (Or.inr ⟨by rfl, rfl⟩) (by assumption) ?_
  (try simp only [Act.put, List.getElem_toArray, List.getElem_cons_succ, List.getElem_cons_zero, List.setIfInBounds_toArray, List.set_cons_zero, List.set_cons_succ])
  refine wpAnyH_take (i := 15) (v := undef) rfl (by kernel_rfl) (by kernel_rfl) (by kernel_rfl) (fun _ _ _ h => h) (Or.inr ⟨by rfl, rfl⟩) (by assumption) ?_
  (try simp only [Act.put, List.getElem_toArray, List.getElem_cons_succ, List.getElem_cons_zero, List.setIfInBounds_toArray, List.set_cons_zero, List.set_cons_succ])
  refine wpAnyH_take (i := 16) (v := undef) rfl (by kernel_rfl) (by kernel_rfl) (by kernel_rfl) (fun _ _ _ h => h) (Or.inr ⟨by rfl, rfl⟩) (by assumption) ?_
  (try simp only [Act.put, List.getElem_toArray, List.getElem_cons_succ, List.getElem_cons_zero, List.setIfInBounds_toArray, List.set_cons_zero, List.set_cons_succ])
  refine wpAnyH_take (i := 17) (v := undef) rfl (by kernel_rfl) (by kernel_rfl) (by kernel_rfl) (fun _ _ _ h => h) (Or.inr ⟨by rfl, rfl⟩) (by assumption) ?_
  (try simp only [Act.put, List.getElem_toArray, List.getElem_cons_succ, List.getElem_cons_zero, List.setIfInBounds_toArray, List.set_cons_zero, List.set_cons_succ])
  refine wpAnyH_take (i := 18) (v := undef) rfl (by kernel_rfl) (by kernel_rfl) (by kernel_rfl) (fun _ _ _ h => h) (Or.inr ⟨by rfl, rfl⟩) (by assumption) ?_
  (try simp only [Act.put, List.getElem_toArray, List.getElem_cons_succ, List.getElem_cons_zero, List.setIfInBounds_toArray, List.set_cons_zero, List.set_cons_succ])
  refine wpAnyH_take (i := 19) (v := .bool false) rfl (by kernel_rfl) (by kernel_rfl) (by kernel_rfl) (fun _ _ _ h => h) (Or.inl ⟨by rfl, ?_⟩) (by assumption) ?_
  · intro wx hs1; go_simp
  (try simp only [Act.put, List.getElem_toArray, List.getElem_cons_succ, List.getElem_cons_zero, List.setIfInBounds_toArray, List.set_cons_zero, List.set_cons_succ])
  refine wpAnyH_done (by kernel_rfl) ?_ _
  go_upto_region 6 with fail
  have hb6 := HB5.out
  obtain ⟨w6, hw6⟩ : ∃ v, w5 = v := ⟨_, rfl⟩
  rw [hw6] at hb6 ⊢
  clear hw6
  have HS6 : Hid (∀ W, Below w6.heap.size w6 W → ((W.cell? ⟨w.heap.size, 0, none⟩ = some (.int .i64 r) ∧ W.cell? ⟨w.heap.size, 1, none⟩ = some (.int .i64 q)) ∧ W.cell? ⟨w.heap.size + 1, 0, none⟩ = some (.int .i64 cr) ∧ W.cell? ⟨w.heap.size + 1, 1, none⟩ = some (.int .i64 cq) ∧ W.cell? ⟨w.heap.size + 1, 2, none⟩ = some (.int .i64 k) ∧ W.cell? ⟨w.heap.size + 1, 3, none⟩ = some (.int .i64 m) ∧ W.cell? ⟨w.heap.size + 1, 4, none⟩ = some (.int .i64 n) ∧ W.cell? ⟨w.heap.size + 1, 5, none⟩ = some (.string t))) := Lib.hid fun W hb => HS4.out W (hb6.trans (hb.mono hb6.size))
  have HP6 := Lib.hid (hA4.keep hb6)
  have z6 := HS6.out _ (Below.refl _ w6)
  have HO : Hid (∀ W, Below w6.heap.size w6 W → (fun W => ((W.cell? ⟨w.heap.size, 0, none⟩ = some (.int .i64 r) ∧ W.cell? ⟨w.heap.size, 1, none⟩ = some (.int .i64 q)) ∧ W.cell? ⟨w.heap.size + 1, 0, none⟩ = some (.int .i64 cr) ∧ W.cell? ⟨w.heap.size + 1, 1, none⟩ = some (.int .i64 cq) ∧ W.cell? ⟨w.heap.size + 1, 2, none⟩ = some (.int .i64 k) ∧ W.cell? ⟨w.heap.size + 1, 3, none⟩ = some (.int .i64 m) ∧ W.cell? ⟨w.heap.size + 1, 4, none⟩ = some (.int .i64 n) ∧ W.cell? ⟨w.heap.size + 1, 5, none⟩ = some (.string t))) ((((((((W.setCell ⟨p, 2, none⟩ (.int .i64 r)).setCell ⟨p, 3, none⟩ (.int .i64 q)).setCell ⟨p, 4, none⟩ (.int .i64 cr)).setCell ⟨p, 5, none⟩ (.int .i64 cq)).setCell ⟨p, 6, none⟩ (.int .i64 k)).setCell ⟨p, 7, none⟩ (.int .i64 m)).setCell ⟨p, 8, none⟩ (.int .i64 n)).setCell ⟨p, 9, none⟩ (.string t))) := Lib.hid fun W hb => by
    have hs := HS6.out W hb
    have k3 : ∀ (q' : Addr) x, q'.block ≠ p → W.cell? q' = some x → ((((((((W.setCell ⟨p, 2, none⟩ (.int .i64 r)).setCell ⟨p, 3, none⟩ (.int .i64 q)).setCell ⟨p, 4, none⟩ (.int .i64 cr)).setCell ⟨p, 5, none⟩ (.int .i64 cq)).setCell ⟨p, 6, none⟩ (.int .i64 k)).setCell ⟨p, 7, none⟩ (.int .i64 m)).setCell ⟨p, 8, none⟩ (.int .i64 n)).setCell ⟨p, 9, none⟩ (.string t)).cell? q' = some x := fun q' x hn h => cellO (cellO (cellO (cellO (cellO (cellO (cellO (cellO h hn) hn) hn) hn) hn) hn) hn) hn
    have n0 : w.heap.size ≠ p := by omega
    have n1 : w.heap.size + 1 ≠ p := by omega
    exact ⟨⟨k3 _ _ n0 hs.1.1, k3 _ _ n0 hs.1.2⟩, k3 _ _ n1 hs.2.1, k3 _ _ n1 hs.2.2.1, k3 _ _ n1 hs.2.2.2.1, k3 _ _ n1 hs.2.2.2.2.1, k3 _ _ n1 hs.2.2.2.2.2.1, k3 _ _ n1 hs.2.2.2.2.2.2⟩
  have hl := HP6.out.lt
  go_region_held_law (fun W => ((W.cell? ⟨w.heap.size, 0, none⟩ = some (.int .i64 r) ∧ W.cell? ⟨w.heap.size, 1, none⟩ = some (.int .i64 q)) ∧ W.cell? ⟨w.heap.size + 1, 0, none⟩ = some (.int .i64 cr) ∧ W.cell? ⟨w.heap.size + 1, 1, none⟩ = some (.int .i64 cq) ∧ W.cell? ⟨w.heap.size + 1, 2, none⟩ = some (.int .i64 k) ∧ W.cell? ⟨w.heap.size + 1, 3, none⟩ = some (.int .i64 m) ∧ W.cell? ⟨w.heap.size + 1, 4, none⟩ = some (.int .i64 n) ∧ W.cell? ⟨w.heap.size + 1, 5, none⟩ = some (.string t)))
    (first | with_reducible exact z6 | with_reducible exact hset | (refine HS6.out _ ?_; (first | with_reducible assumption | with_reducible exact (Below.refl _ _).drew | with_reducible exact Below.refl _ _)))
    ((go_at_call 30; (with_reducible refine (h30 _).mono ?_); rintro e w7 ⟨rfl, hb7⟩; have hb7 : Below w6.heap.size w6 w7 := (Below.refl _ w6).drew.trans hb7; have hset := HO.out _ hb7; have HP2 := Lib.hid (HP6.out.keep hb7); have hs2 := hb7.size; obtain ⟨c0, c1, c2, c3, c4, c5, c6, c7, c8, c9⟩ := HP2.out.cells; have f2 := HP2.out.free 2; have f3 := HP2.out.free 3; have f4 := HP2.out.free 4; have f5 := HP2.out.free 5; have f6 := HP2.out.free 6; have f7 := HP2.out.free 7; have f8 := HP2.out.free 8; have f9 := HP2.out.free 9))
  all_goals
    go_wp2
    try rw [Exit.noGoto_ret]
    go_ret2
    exact ⟨p, rfl, by omega, (HP2.out.prom r q).acc cr cq k m n t, bst8 (HB2.out.trans ((hb4.trans ((hb6.trans (hb7.mono hb6.size)).mono hb4.size)).mono HB2.out.size)) (by omega) _ _ _ _ _ _ _ _⟩
end Go.Proofs
