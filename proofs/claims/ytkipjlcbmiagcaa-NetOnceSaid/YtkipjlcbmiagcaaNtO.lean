/-
  What among makes. Conditions: as each theorem names them.
-/
import Derived.Lib.Hide
import Derived.Deep.Upon
import Derived.ChangeKeysEq
import Derived.Laws.StructEq
import Derived.Test.YtkipjlcbmiagcaaNtN
namespace Go.Proofs
open Go Go.RowKit Sm Go.Lib Go.Maps Go.WideMaps
attribute [local go_sem] Oper.semAt_some
theorem Sm.plain3 : Try.prog.plainKey 3 = true := by kernel_rfl
set_option maxRecDepth 100000 in
theorem Sm.info3b : ∃ i, Try.prog.info? 3 = some i := ⟨Try.t3, rfl⟩
theorem Sm.guard94 (w : World) (x y : Operand) (xs ys : Array Value) : (eqGuard .eql 94 x y (.agg xs) (.agg ys)).run Try.prog w = .ok () w := run_eqGuard_agg w .eql 94 x y _ _ (by kernel_rfl)
theorem Sm.eql94 (a b x y : Int) (W : World) : (Op.equalIn 10000 94 (.agg #[.int .i64 a, .int .i64 b]) (.agg #[.int .i64 x, .int .i64 y])).run Try.prog W = .ok (decide (a = x) && decide (b = y)) W := by
  rw [show (10000 : Nat) = 9998 + 2 from rfl]
  obtain ⟨i, hi⟩ := info3b
  have hc : Try.prog.cellsOf 3 = 1 := by kernel_rfl
  rw [run_equalIn_array W 9999 _ _ Try.underlying94 hi, hc]
  have p0 := run_part_plain (P := Try.prog) W plain3 (show (#[Value.int .i64 a, .int .i64 b])[0]? = some (.int .i64 a) from rfl)
  have p1 := run_part_plain (P := Try.prog) W plain3 (show (#[Value.int .i64 a, .int .i64 b])[1]? = some (.int .i64 b) from rfl)
  have q0 := run_part_plain (P := Try.prog) W plain3 (show (#[Value.int .i64 x, .int .i64 y])[0]? = some (.int .i64 x) from rfl)
  have q1 := run_part_plain (P := Try.prog) W plain3 (show (#[Value.int .i64 x, .int .i64 y])[1]? = some (.int .i64 y) from rfl)
  have e0 := run_equalIn_int (P := Try.prog) W 9998 3 .i64 .i64 a x Try.underlying3
  have e1 := run_equalIn_int (P := Try.prog) W 9998 3 .i64 .i64 b y Try.underlying3
  have hr : List.range 2 = [0, 1] := by decide
  simp only [hr, Op.eqItems, Sem.run_bind, Nat.zero_mul, Nat.one_mul, p0, q0, e0, Result.andThen_ok]
  by_cases h1 : a = x
  · subst h1
    by_cases h2 : b = y
    · subst h2
      simp [p1, e1]
    · simp [p1, q1, e1, h2]
  · simp [h1]
set_option maxRecDepth 100000 in
set_option maxHeartbeats 2000000 in
theorem Sm.among1_any (b1 b2 : Nat) (x y num a b : Int) (A : Option Addr) (n c : Nat) (w : World) (h1 : w.heap[b1]? = some (.cells #[.int .i64 x] 3 (0, 0))) (h2 : w.heap[b2]? = some (.cells #[.int .i64 y] 3 (0, 0))) :
    Calls Try.prog 73 #[.agg #[.int .i64 num, .int .i64 a, .int .i64 b, .slice A n c], .pointer (some ⟨b1, 0, none⟩), .pointer (some ⟨b2, 0, none⟩)] w fun e w' => e = .returned (.bool (pkB x y a b)) ∧ Below w.heap.size w w' := by
  have h63 := fun W => isAnywhere_any x y W
  have h69 := fun W => link_any num a b (.slice A n c) W
  unfold lnkV at h69
  obtain ⟨v, hv⟩ : ∃ v, Value.slice A n c = v := ⟨_, rfl⟩
  obtain ⟨W0, hW0⟩ : ∃ V, w.alloc (.cells #[.int .i64 num, .int .i64 a, .int .i64 b, .slice A n c] 83) = V := ⟨_, rfl⟩
  have HW0 : Hid (Below w.heap.size w W0) := Lib.hid (by rw [← hW0]; exact (Below.refl _ w).alloc (Nat.le_refl _) _)
  have G1 := Lib.hid ((HW0.out.block _ (Array.getElem?_eq_some_iff.1 h1).1).trans h1)
  have G2 := Lib.hid ((HW0.out.block _ (Array.getElem?_eq_some_iff.1 h2).1).trans h2)
  have G3 : Hid (W0.heap[w.heap.size]? = some (.cells #[.int .i64 num, .int .i64 a, .int .i64 b, .slice A n c] 83 (0, 0))) := Lib.hid (by rw [← hW0]; exact new_alloc _ rfl)
  have HQ0 : ∀ W, (Op.equalIn 10000 94 (.agg #[.int .i64 a, .int .i64 b]) (.agg #[.int .i64 x, .int .i64 y])).run Try.prog W = .ok (decide (a = x) && decide (b = y)) W := fun W => eql94 a b x y W
  obtain ⟨q, hq⟩ : ∃ q, (decide (a = x) && decide (b = y)) = q := ⟨_, rfl⟩
  obtain ⟨t, ht⟩ : ∃ t, anyB x y = t := ⟨_, rfl⟩
  unfold pkB
  rw [hq] at HQ0 ⊢
  rw [ht] at h63 ⊢
  have HQ := Lib.hid HQ0
  clear h1 h2 HQ0 hq ht hv v
  cases t with
  | true =>
    go_enter Try.func73, Try.ntmps73
    go_wp2
    clear hW0
    have hS0 : (fun W => Below W0.heap.size W0 W) W0.drew := (Below.refl _ W0).drew
    refine wp_region_held_drew (S := fun W => Below W0.heap.size W0 W) rfl hS0 (fun hHeld => ?_)
    simp only [List.size_toArray, List.length_cons, List.length_nil, Nat.reduceAdd]
    have HB0 : Hid (Below W0.heap.size W0 W0.drew) := Lib.hid (Below.refl _ _).drew
    obtain ⟨V0, hV0⟩ : ∃ V, W0.drew = V := ⟨_, rfl⟩
    rw [hV0] at hHeld hS0 HB0 ⊢
    clear hV0
    refine wpAnyH_take (i := 0) (v := .int .i64 x) rfl (by kernel_rfl) (by kernel_rfl) (by kernel_rfl) (fun _ _ _ h => h) (Or.inl ⟨by rfl, ?_⟩) (by assumption) ?_
    · intro wx hs1; have k0 := cell_of_heap ((hs1.block _ (Array.getElem?_eq_some_iff.1 G1.out).1).trans G1.out) 0; simp only [List.getElem?_toArray, List.getElem?_cons_zero] at k0; go_simp
    (try simp only [Act.put, List.getElem_toArray, List.getElem_cons_zero, List.setIfInBounds_toArray, List.set_cons_zero, List.set_cons_succ])
    refine wpAnyH_take (i := 1) (v := .int .i64 y) rfl (by kernel_rfl) (by kernel_rfl) (by kernel_rfl) (fun _ _ _ h => h) (Or.inl ⟨by rfl, ?_⟩) (by assumption) ?_
    · intro wx hs1; have k0 := cell_of_heap ((hs1.block _ (Array.getElem?_eq_some_iff.1 G2.out).1).trans G2.out) 0; simp only [List.getElem?_toArray, List.getElem?_cons_zero] at k0; go_simp
    (try simp only [Act.put, List.getElem_toArray, List.getElem_cons_succ, List.getElem_cons_zero, List.setIfInBounds_toArray, List.set_cons_zero, List.set_cons_succ])
    refine wpAnyH_ready (rs := [2]) (by kernel_rfl) (by simp) (AllReadyH.cons rfl (fun K hK => ?_) AllReadyH.nil)
    go_simp
    go_at_call 63
    (with_reducible refine (h63 _).mono ?_)
    rintro e w1 ⟨rfl, hb⟩
    try dsimp only
    have HB1 : Hid (Below W0.heap.size W0 w1) := Lib.hid (HB0.out.trans (hb.mono HB0.out.size)); clear hb; have hS := HB1.out
    refine hK.out _ _ hS (fun _ => ?_)
    clear hK K
    (try simp only [Act.put, List.getElem_toArray, List.getElem_cons_succ, List.getElem_cons_zero, List.setIfInBounds_toArray, List.set_cons_zero, List.set_cons_succ])
    refine wpAnyH_take (i := 3) (v := .bool true) rfl (by kernel_rfl) (by kernel_rfl) (by kernel_rfl) (fun _ _ _ h => h) (Or.inl ⟨by rfl, ?_⟩) (by assumption) ?_
    · intro wx hs1; go_simp
    (try simp only [Act.put, List.getElem_toArray, List.getElem_cons_succ, List.getElem_cons_zero, List.setIfInBounds_toArray, List.set_cons_zero, List.set_cons_succ])
    refine wpAnyH_take (i := 4) (v := undef) rfl (by kernel_rfl) (by kernel_rfl) (by kernel_rfl) (fun _ _ _ h => h) (Or.inr ⟨by rfl, rfl⟩) (by assumption) ?_
    (try simp only [Act.put, List.getElem_toArray, List.getElem_cons_succ, List.getElem_cons_zero, List.setIfInBounds_toArray, List.set_cons_zero, List.set_cons_succ])
    refine wpAnyH_take (i := 5) (v := undef) rfl (by kernel_rfl) (by kernel_rfl) (by kernel_rfl) (fun _ _ _ h => h) (Or.inr ⟨by rfl, rfl⟩) (by assumption) ?_
    (try simp only [Act.put, List.getElem_toArray, List.getElem_cons_succ, List.getElem_cons_zero, List.setIfInBounds_toArray, List.set_cons_zero, List.set_cons_succ])
    refine wpAnyH_take (i := 6) (v := undef) rfl (by kernel_rfl) (by kernel_rfl) (by kernel_rfl) (fun _ _ _ h => h) (Or.inr ⟨by rfl, rfl⟩) (by assumption) ?_
    (try simp only [Act.put, List.getElem_toArray, List.getElem_cons_succ, List.getElem_cons_zero, List.setIfInBounds_toArray, List.set_cons_zero, List.set_cons_succ])
    refine wpAnyH_take (i := 7) (v := undef) rfl (by kernel_rfl) (by kernel_rfl) (by kernel_rfl) (fun _ _ _ h => h) (Or.inr ⟨by rfl, rfl⟩) (by assumption) ?_
    (try simp only [Act.put, List.getElem_toArray, List.getElem_cons_succ, List.getElem_cons_zero, List.setIfInBounds_toArray, List.set_cons_zero, List.set_cons_succ])
    refine wpAnyH_take (i := 8) (v := undef) rfl (by kernel_rfl) (by kernel_rfl) (by kernel_rfl) (fun _ _ _ h => h) (Or.inr ⟨by rfl, rfl⟩) (by assumption) ?_
    (try simp only [Act.put, List.getElem_toArray, List.getElem_cons_succ, List.getElem_cons_zero, List.setIfInBounds_toArray, List.set_cons_zero, List.set_cons_succ])
    refine wpAnyH_take (i := 9) (v := undef) rfl (by kernel_rfl) (by kernel_rfl) (by kernel_rfl) (fun _ _ _ h => h) (Or.inr ⟨by rfl, rfl⟩) (by assumption) ?_
    (try simp only [Act.put, List.getElem_toArray, List.getElem_cons_succ, List.getElem_cons_zero, List.setIfInBounds_toArray, List.set_cons_zero, List.set_cons_succ])
    refine wpAnyH_take (i := 10) (v := .bool true) rfl (by kernel_rfl) (by kernel_rfl) (by kernel_rfl) (fun _ _ _ h => h) (Or.inl ⟨by rfl, ?_⟩) (by assumption) ?_
    · intro wx hs1; go_simp
    (try simp only [Act.put, List.getElem_toArray, List.getElem_cons_succ, List.getElem_cons_zero, List.setIfInBounds_toArray, List.set_cons_zero, List.set_cons_succ])
    refine wpAnyH_take (i := 11) (v := .bool true) rfl (by kernel_rfl) (by kernel_rfl) (by kernel_rfl) (fun _ _ _ h => h) (Or.inl ⟨by rfl, ?_⟩) (by assumption) ?_
    · intro wx hs1; go_simp
    (try simp only [Act.put, List.getElem_toArray, List.getElem_cons_succ, List.getElem_cons_zero, List.setIfInBounds_toArray, List.set_cons_zero, List.set_cons_succ])
    refine wpAnyH_done (by kernel_rfl) ?_ _
    go_wp2
    go_ret
    exact ⟨by rfl, HW0.out.trans (HB1.out.mono HW0.out.size)⟩
  | false =>
    go_enter Try.func73, Try.ntmps73
    go_wp2
    clear hW0
    have hS0 : (fun W => Below W0.heap.size W0 W) W0.drew := (Below.refl _ W0).drew
    refine wp_region_held_drew (S := fun W => Below W0.heap.size W0 W) rfl hS0 (fun hHeld => ?_)
    simp only [List.size_toArray, List.length_cons, List.length_nil, Nat.reduceAdd]
    have HB0 : Hid (Below W0.heap.size W0 W0.drew) := Lib.hid (Below.refl _ _).drew
    obtain ⟨V0, hV0⟩ : ∃ V, W0.drew = V := ⟨_, rfl⟩
    rw [hV0] at hHeld hS0 HB0 ⊢
    clear hV0
    refine wpAnyH_take (i := 0) (v := .int .i64 x) rfl (by kernel_rfl) (by kernel_rfl) (by kernel_rfl) (fun _ _ _ h => h) (Or.inl ⟨by rfl, ?_⟩) (by assumption) ?_
    · intro wx hs1; have k0 := cell_of_heap ((hs1.block _ (Array.getElem?_eq_some_iff.1 G1.out).1).trans G1.out) 0; simp only [List.getElem?_toArray, List.getElem?_cons_zero] at k0; go_simp
    (try simp only [Act.put, List.getElem_toArray, List.getElem_cons_zero, List.setIfInBounds_toArray, List.set_cons_zero, List.set_cons_succ])
    refine wpAnyH_take (i := 1) (v := .int .i64 y) rfl (by kernel_rfl) (by kernel_rfl) (by kernel_rfl) (fun _ _ _ h => h) (Or.inl ⟨by rfl, ?_⟩) (by assumption) ?_
    · intro wx hs1; have k0 := cell_of_heap ((hs1.block _ (Array.getElem?_eq_some_iff.1 G2.out).1).trans G2.out) 0; simp only [List.getElem?_toArray, List.getElem?_cons_zero] at k0; go_simp
    (try simp only [Act.put, List.getElem_toArray, List.getElem_cons_succ, List.getElem_cons_zero, List.setIfInBounds_toArray, List.set_cons_zero, List.set_cons_succ])
    refine wpAnyH_ready (rs := [2]) (by kernel_rfl) (by simp) (AllReadyH.cons rfl (fun K hK => ?_) AllReadyH.nil)
    go_simp
    go_at_call 63
    (with_reducible refine (h63 _).mono ?_)
    rintro e w1 ⟨rfl, hb⟩
    try dsimp only
    have HB1 : Hid (Below W0.heap.size W0 w1) := Lib.hid (HB0.out.trans (hb.mono HB0.out.size)); clear hb; have hS := HB1.out
    refine hK.out _ _ hS (fun _ => ?_)
    clear hK K
    (try simp only [Act.put, List.getElem_toArray, List.getElem_cons_succ, List.getElem_cons_zero, List.setIfInBounds_toArray, List.set_cons_zero, List.set_cons_succ])
    refine wpAnyH_take (i := 3) (v := .bool false) rfl (by kernel_rfl) (by kernel_rfl) (by kernel_rfl) (fun _ _ _ h => h) (Or.inl ⟨by rfl, ?_⟩) (by assumption) ?_
    · intro wx hs1; go_simp
    (try simp only [Act.put, List.getElem_toArray, List.getElem_cons_succ, List.getElem_cons_zero, List.setIfInBounds_toArray, List.set_cons_zero, List.set_cons_succ])
    refine wpAnyH_take (i := 4) (v := .agg #[.int .i64 num, .int .i64 a, .int .i64 b, .slice A n c]) rfl (by kernel_rfl) (by kernel_rfl) (by kernel_rfl) (fun _ _ _ h => h) (Or.inl ⟨by rfl, ?_⟩) (by assumption) ?_
    · intro wx hs1; have hx := (hs1.block _ (Array.getElem?_eq_some_iff.1 G3.out).1).trans G3.out; have k0 := cell_of_heap hx 0; have k1 := cell_of_heap hx 1; have k2 := cell_of_heap hx 2; have k3 := cell_of_heap hx 3; simp only [List.getElem?_toArray, List.getElem?_cons_zero, List.getElem?_cons_succ] at k0 k1 k2 k3; go_simp
    (try simp only [Act.put, List.getElem_toArray, List.getElem_cons_succ, List.getElem_cons_zero, List.setIfInBounds_toArray, List.set_cons_zero, List.set_cons_succ])
    refine wpAnyH_take (i := 6) (v := .int .i64 x) rfl (by kernel_rfl) (by kernel_rfl) (by kernel_rfl) (fun _ _ _ h => h) (Or.inl ⟨by rfl, ?_⟩) (by assumption) ?_
    · intro wx hs1; have k0 := cell_of_heap ((hs1.block _ (Array.getElem?_eq_some_iff.1 G1.out).1).trans G1.out) 0; simp only [List.getElem?_toArray, List.getElem?_cons_zero] at k0; go_simp
    (try simp only [Act.put, List.getElem_toArray, List.getElem_cons_succ, List.getElem_cons_zero, List.setIfInBounds_toArray, List.set_cons_zero, List.set_cons_succ])
    refine wpAnyH_take (i := 7) (v := .int .i64 y) rfl (by kernel_rfl) (by kernel_rfl) (by kernel_rfl) (fun _ _ _ h => h) (Or.inl ⟨by rfl, ?_⟩) (by assumption) ?_
    · intro wx hs1; have k0 := cell_of_heap ((hs1.block _ (Array.getElem?_eq_some_iff.1 G2.out).1).trans G2.out) 0; simp only [List.getElem?_toArray, List.getElem?_cons_zero] at k0; go_simp
    (try simp only [Act.put, List.getElem_toArray, List.getElem_cons_succ, List.getElem_cons_zero, List.setIfInBounds_toArray, List.set_cons_zero, List.set_cons_succ])
    refine wpAnyH_take (i := 8) (v := .agg #[.int .i64 x, .int .i64 y]) rfl (by kernel_rfl) (by kernel_rfl) (by kernel_rfl) (fun _ _ _ h => h) (Or.inl ⟨by rfl, ?_⟩) (by assumption) ?_
    · intro wx hs1; go_simp
    (try simp only [Act.put, List.getElem_toArray, List.getElem_cons_succ, List.getElem_cons_zero, List.setIfInBounds_toArray, List.set_cons_zero, List.set_cons_succ])
    refine wpAnyH_ready (rs := [5]) (by kernel_rfl) (by simp) (AllReadyH.cons rfl (fun K hK => ?_) AllReadyH.nil)
    go_simp
    go_at_call 69
    (with_reducible refine (h69 _).mono ?_)
    rintro e w2 ⟨rfl, hb⟩
    try dsimp only
    have HB2 : Hid (Below W0.heap.size W0 w2) := Lib.hid (HB1.out.trans (hb.mono HB1.out.size)); clear hb; have hS := HB2.out
    refine hK.out _ _ hS (fun _ => ?_)
    clear hK K
    (try simp only [Act.put, List.getElem_toArray, List.getElem_cons_succ, List.getElem_cons_zero, List.setIfInBounds_toArray, List.set_cons_zero, List.set_cons_succ])
    refine wpAnyH_take (i := 9) (v := .bool q) rfl (by kernel_rfl) (by kernel_rfl) (by kernel_rfl) (fun _ _ _ h => h) (Or.inl ⟨by rfl, ?_⟩) (by assumption) ?_
    · intro wx hs1; have hq := HQ.out wx; have hg := fun X Y => guard94 wx X Y #[.int .i64 a, .int .i64 b] #[.int .i64 x, .int .i64 y]; go_simp
    (try simp only [Act.put, List.getElem_toArray, List.getElem_cons_succ, List.getElem_cons_zero, List.setIfInBounds_toArray, List.set_cons_zero, List.set_cons_succ])
    refine wpAnyH_take (i := 10) (v := .bool q) rfl (by kernel_rfl) (by kernel_rfl) (by kernel_rfl) (fun _ _ _ h => h) (Or.inl ⟨by rfl, ?_⟩) (by assumption) ?_
    · intro wx hs1; go_simp
    (try simp only [Act.put, List.getElem_toArray, List.getElem_cons_succ, List.getElem_cons_zero, List.setIfInBounds_toArray, List.set_cons_zero, List.set_cons_succ])
    refine wpAnyH_take (i := 11) (v := .bool q) rfl (by kernel_rfl) (by kernel_rfl) (by kernel_rfl) (fun _ _ _ h => h) (Or.inl ⟨by rfl, ?_⟩) (by assumption) ?_
    · intro wx hs1; go_simp
    (try simp only [Act.put, List.getElem_toArray, List.getElem_cons_succ, List.getElem_cons_zero, List.setIfInBounds_toArray, List.set_cons_zero, List.set_cons_succ])
    refine wpAnyH_done (by kernel_rfl) ?_ _
    go_wp2
    go_ret
    exact ⟨by rfl, HW0.out.trans (HB2.out.mono HW0.out.size)⟩
end Go.Proofs
