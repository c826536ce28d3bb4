/-
  Put. Conditions: as each theorem names them.
-/
import Derived.Lib.Hide
import Derived.Test.YtkipjlcbmiagcaaNtH
namespace Go.Proofs
open Go Go.RowKit Sm Go.Lib Go.Maps Go.WideMaps
attribute [local go_sem] Oper.semAt_some
set_option maxRecDepth 100000 in
set_option maxHeartbeats 4000000 in
theorem Sm.put_err (r : Option Addr) (x y : Int) (A : Option Addr) (n c : Nat) (f1 f2 f3 f4 f5 : Bool) (E : Int) (w : World) (hF : ∀ c1 c2 c3 c4 c5, firstF [⟨59, c1, 1, f1⟩, ⟨60, c2, 2, f2⟩, ⟨35, c3, 3, f3⟩, ⟨36, c4, 210, f4⟩, ⟨37, c5, 211, f5⟩] = E) (hE : E ≠ 0)
    (hc1 : ∀ W b, Below w.heap.size w W → W.heap[b]? = some (.cells #[.pointer r] 25 (0, 0)) → Calls Try.prog 59 #[.pointer (some ⟨b, 0, none⟩)] W fun e w' => e = .returned (.bool f1) ∧ Below W.heap.size W w')
    (hc2 : f1 = false → ∀ W b1 b2 b3, Below w.heap.size w W → W.heap[b1]? = some (.cells #[.pointer r] 25 (0, 0)) → W.heap[b2]? = some (.cells #[.int .i64 x] 3 (0, 0)) → W.heap[b3]? = some (.cells #[.int .i64 y] 3 (0, 0)) →
      Calls Try.prog 60 #[.pointer (some ⟨b1, 0, none⟩), .pointer (some ⟨b2, 0, none⟩), .pointer (some ⟨b3, 0, none⟩)] W fun e w' => e = .returned (.bool f2) ∧ Below W.heap.size W w')
    (hc3 : ∀ W b, W.heap[b]? = some (.cells #[.slice A n c] 39 (0, 0)) → Calls Try.prog 35 #[.pointer (some ⟨b, 0, none⟩)] W fun e w' => e = .returned (.bool f3) ∧ Below W.heap.size W w')
    (hc4 : f1 = false → f2 = false → ∀ W b1 b2 b3, Below w.heap.size w W → W.heap[b1]? = some (.cells #[.pointer r] 25 (0, 0)) → W.heap[b2]? = some (.cells #[.int .i64 x] 3 (0, 0)) → W.heap[b3]? = some (.cells #[.int .i64 y] 3 (0, 0)) →
      Calls Try.prog 36 #[.pointer (some ⟨b1, 0, none⟩), .pointer (some ⟨b2, 0, none⟩), .pointer (some ⟨b3, 0, none⟩)] W fun e w' => e = .returned (.bool f4) ∧ Below W.heap.size W w')
    (hc5 : f1 = false → f2 = false → ∀ W b, Below w.heap.size w W → W.heap[b]? = some (.cells #[.pointer r] 25 (0, 0)) → Calls Try.prog 37 #[.pointer (some ⟨b, 0, none⟩)] W fun e w' => e = .returned (.bool f5) ∧ Below W.heap.size W w') :
    Calls Try.prog 12 #[.pointer r, .int .i64 x, .int .i64 y, .slice A n c] w fun e w' => e = .returned (.tuple #[.int .i64 0, .int .i64 E]) ∧ Below w.heap.size w w' := by
  have hE2 : (E != 0) = true := by simpa using hE
  have HF := Lib.hid hF
  have HC1 := Lib.hid hc1
  have HC2 := Lib.hid hc2
  have HC3 := Lib.hid hc3
  have HC4 := Lib.hid hc4
  have HC5 := Lib.hid hc5
  clear hF hc1 hc2 hc3 hc4 hc5 hE
  go_enter Try.func12, Try.ntmps12
  go_wp2
  obtain ⟨W0, hW0⟩ : ∃ V, ((((w.alloc (.cells #[.pointer r] 25)).alloc (.cells #[.int .i64 x] 3)).alloc (.cells #[.int .i64 y] 3)).alloc (.cells #[.slice A n c] 39)) = V := ⟨_, rfl⟩
  rw [hW0]
  have HBN : Hid (W0.heap[w.heap.size]? = some (.cells #[.pointer r] 25 (0, 0))) := Lib.hid (by rw [← hW0]; exact old_alloc _ (old_alloc _ (old_alloc _ (new_alloc _ rfl))))
  have HBF : Hid (W0.heap[w.heap.size + 1]? = some (.cells #[.int .i64 x] 3 (0, 0))) := Lib.hid (by rw [← hW0]; exact old_alloc _ (old_alloc _ (new_alloc _ (by simp))))
  have HBT : Hid (W0.heap[w.heap.size + 2]? = some (.cells #[.int .i64 y] 3 (0, 0))) := Lib.hid (by rw [← hW0]; exact old_alloc _ (new_alloc _ (by simp)))
  have HBB : Hid (W0.heap[w.heap.size + 3]? = some (.cells #[.slice A n c] 39 (0, 0))) := Lib.hid (by rw [← hW0]; exact new_alloc _ (by simp))
  have HW0 : Hid (Below w.heap.size w W0) := Lib.hid (by rw [← hW0]; exact bel4 _ _ _ _ _)
  clear hW0
  have hS0 : (fun W => Below W0.heap.size W0 W) W0.drew := (Below.refl _ W0).drew
  refine wp_region_held_drew (S := fun W => Below W0.heap.size W0 W) rfl hS0 (fun hHeld => ?_)
  simp only [List.size_toArray, List.length_cons, List.length_nil, Nat.reduceAdd]
  have HB0 : Hid (Below W0.heap.size W0 W0.drew) := Lib.hid (Below.refl _ _).drew
  obtain ⟨V0, hV0⟩ : ∃ V, W0.drew = V := ⟨_, rfl⟩
  rw [hV0] at hHeld hS0 HB0 ⊢
  clear hV0
  refine wpAnyH_take (i := 0) (v := .pointer r) rfl (by kernel_rfl) (by kernel_rfl) (by kernel_rfl) (fun _ _ _ h => h) (Or.inl ⟨by rfl, ?_⟩) (by assumption) ?_
  · intro wx hs1; have k0 := cell_of_heap ((hs1.block _ (Array.getElem?_eq_some_iff.1 HBN.out).1).trans HBN.out) 0; simp only [List.getElem?_toArray, List.getElem?_cons_zero] at k0; go_simp
  (try simp only [Act.put, List.getElem_toArray, List.getElem_cons_zero, List.setIfInBounds_toArray, List.set_cons_zero, List.set_cons_succ])
  refine wpAnyH_take (i := 2) (v := .pointer r) rfl (by kernel_rfl) (by kernel_rfl) (by kernel_rfl) (fun _ _ _ h => h) (Or.inl ⟨by rfl, ?_⟩) (by assumption) ?_
  · intro wx hs1; have k0 := cell_of_heap ((hs1.block _ (Array.getElem?_eq_some_iff.1 HBN.out).1).trans HBN.out) 0; simp only [List.getElem?_toArray, List.getElem?_cons_zero] at k0; go_simp
  (try simp only [Act.put, List.getElem_toArray, List.getElem_cons_succ, List.getElem_cons_zero, List.setIfInBounds_toArray, List.set_cons_zero, List.set_cons_succ])
  refine wpAnyH_take (i := 3) (v := .int .i64 x) rfl (by kernel_rfl) (by kernel_rfl) (by kernel_rfl) (fun _ _ _ h => h) (Or.inl ⟨by rfl, ?_⟩) (by assumption) ?_
  · intro wx hs1; have k0 := cell_of_heap ((hs1.block _ (Array.getElem?_eq_some_iff.1 HBF.out).1).trans HBF.out) 0; simp only [List.getElem?_toArray, List.getElem?_cons_zero] at k0; go_simp
  (try simp only [Act.put, List.getElem_toArray, List.getElem_cons_succ, List.getElem_cons_zero, List.setIfInBounds_toArray, List.set_cons_zero, List.set_cons_succ])
  refine wpAnyH_take (i := 4) (v := .int .i64 y) rfl (by kernel_rfl) (by kernel_rfl) (by kernel_rfl) (fun _ _ _ h => h) (Or.inl ⟨by rfl, ?_⟩) (by assumption) ?_
  · intro wx hs1; have k0 := cell_of_heap ((hs1.block _ (Array.getElem?_eq_some_iff.1 HBT.out).1).trans HBT.out) 0; simp only [List.getElem?_toArray, List.getElem?_cons_zero] at k0; go_simp
  (try simp only [Act.put, List.getElem_toArray, List.getElem_cons_succ, List.getElem_cons_zero, List.setIfInBounds_toArray, List.set_cons_zero, List.set_cons_succ])
  refine wpAnyH_take (i := 6) (v := .func (.func 35) #[] #[.pointer (some ⟨w.heap.size + 3, 0, none⟩)]) rfl (by kernel_rfl) (by kernel_rfl) (by kernel_rfl) (fun _ _ _ h => h) (Or.inl ⟨by rfl, ?_⟩) (by assumption) ?_
  · intro wx hs1; go_simp
  (try simp only [Act.put, List.getElem_toArray, List.getElem_cons_succ, List.getElem_cons_zero, List.setIfInBounds_toArray, List.set_cons_zero, List.set_cons_succ])
  refine wpAnyH_take (i := 7) (v := .agg #[.func (.func 35) #[] #[.pointer (some ⟨w.heap.size + 3, 0, none⟩)], .int .i64 3]) rfl (by kernel_rfl) (by kernel_rfl) (by kernel_rfl) (fun _ _ _ h => h) (Or.inl ⟨by rfl, ?_⟩) (by assumption) ?_
  · intro wx hs1; go_simp
  (try simp only [Act.put, List.getElem_toArray, List.getElem_cons_succ, List.getElem_cons_zero, List.setIfInBounds_toArray, List.set_cons_zero, List.set_cons_succ])
  refine wpAnyH_take (i := 8) (v := .func (.func 36) #[] #[.pointer (some ⟨w.heap.size, 0, none⟩), .pointer (some ⟨w.heap.size + 1, 0, none⟩), .pointer (some ⟨w.heap.size + 2, 0, none⟩)]) rfl (by kernel_rfl) (by kernel_rfl) (by kernel_rfl) (fun _ _ _ h => h) (Or.inl ⟨by rfl, ?_⟩) (by assumption) ?_
  · intro wx hs1; go_simp
  (try simp only [Act.put, List.getElem_toArray, List.getElem_cons_succ, List.getElem_cons_zero, List.setIfInBounds_toArray, List.set_cons_zero, List.set_cons_succ])
  refine wpAnyH_take (i := 9) (v := .agg #[.func (.func 36) #[] #[.pointer (some ⟨w.heap.size, 0, none⟩), .pointer (some ⟨w.heap.size + 1, 0, none⟩), .pointer (some ⟨w.heap.size + 2, 0, none⟩)], .int .i64 210]) rfl (by kernel_rfl) (by kernel_rfl) (by kernel_rfl) (fun _ _ _ h => h) (Or.inl ⟨by rfl, ?_⟩) (by assumption) ?_
  · intro wx hs1; go_simp
  (try simp only [Act.put, List.getElem_toArray, List.getElem_cons_succ, List.getElem_cons_zero, List.setIfInBounds_toArray, List.set_cons_zero, List.set_cons_succ])
  refine wpAnyH_take (i := 10) (v := .func (.func 37) #[] #[.pointer (some ⟨w.heap.size, 0, none⟩)]) rfl (by kernel_rfl) (by kernel_rfl) (by kernel_rfl) (fun _ _ _ h => h) (Or.inl ⟨by rfl, ?_⟩) (by assumption) ?_
  · intro wx hs1; go_simp
  (try simp only [Act.put, List.getElem_toArray, List.getElem_cons_succ, List.getElem_cons_zero, List.setIfInBounds_toArray, List.set_cons_zero, List.set_cons_succ])
  refine wpAnyH_take (i := 11) (v := .agg #[.func (.func 37) #[] #[.pointer (some ⟨w.heap.size, 0, none⟩)], .int .i64 211]) rfl (by kernel_rfl) (by kernel_rfl) (by kernel_rfl) (fun _ _ _ h => h) (Or.inl ⟨by rfl, ?_⟩) (by assumption) ?_
  · intro wx hs1; go_simp
  (try simp only [Act.put, List.getElem_toArray, List.getElem_cons_succ, List.getElem_cons_zero, List.setIfInBounds_toArray, List.set_cons_zero, List.set_cons_succ])
  refine wpAnyH_ready (rs := [1]) (by kernel_rfl) (by simp) (AllReadyH.cons rfl (fun K hK => ?_) AllReadyH.nil)
  go_simp
  go_at_call 33
  (with_reducible refine (none_any r _).mono ?_)
  rintro e w1 ⟨rfl, hx1, hb⟩
  try dsimp only
  have hVs := HB0.out; have HX1 := Lib.hid hx1; have HB01 := Lib.hid hb; have HB1 : Hid (Below W0.heap.size W0 w1) := Lib.hid (HB0.out.trans (hb.mono HB0.out.size)); clear hb hx1; have hS := HB1.out
  refine hK.out _ _ hS (fun _ => ?_)
  clear hK K
  (try simp only [Act.put, List.getElem_toArray, List.getElem_cons_succ, List.getElem_cons_zero, List.setIfInBounds_toArray, List.set_cons_zero, List.set_cons_succ])
  refine wpAnyH_ready (rs := [5]) (by kernel_rfl) (by simp) (AllReadyH.cons rfl (fun K hK => ?_) AllReadyH.nil)
  go_simp
  go_at_call 34
  (with_reducible refine (noLink_any r x y _).mono ?_)
  rintro e w2 ⟨rfl, hn1, hn2, hn3, hb⟩
  try dsimp only
  have HX2 := Lib.hid hn1; have HX3 := Lib.hid hn2; have HX4 := Lib.hid hn3; have HB12 := Lib.hid hb; have HB2 : Hid (Below W0.heap.size W0 w2) := Lib.hid (HB1.out.trans (hb.mono HB1.out.size)); clear hb hn1 hn2 hn3; have hS := HB2.out
  refine hK.out _ _ hS (fun _ => ?_)
  clear hK K
  (try simp only [Act.put, List.getElem_toArray, List.getElem_cons_succ, List.getElem_cons_zero, List.setIfInBounds_toArray, List.set_cons_zero, List.set_cons_succ])
  refine wpAnyH_ready (rs := [12]) (by kernel_rfl) (by simp) (AllReadyH.cons rfl (fun K hK => ?_) AllReadyH.nil)
  go_simp
  try dsimp only
  have hS := HB2.out.alloc HB2.out.size (.cells #[.func (.func 59) #[] #[.pointer (some ⟨V0.heap.size, 0, none⟩)], .int .i64 1, .func (.func 60) #[] #[.pointer (some ⟨w1.heap.size, 0, none⟩), .pointer (some ⟨w1.heap.size + 1, 0, none⟩), .pointer (some ⟨w1.heap.size + 2, 0, none⟩)], .int .i64 2, .func (.func 35) #[] #[.pointer (some ⟨w.heap.size + 3, 0, none⟩)], .int .i64 3, .func (.func 36) #[] #[.pointer (some ⟨w.heap.size, 0, none⟩), .pointer (some ⟨w.heap.size + 1, 0, none⟩), .pointer (some ⟨w.heap.size + 2, 0, none⟩)], .int .i64 210, .func (.func 37) #[] #[.pointer (some ⟨w.heap.size, 0, none⟩)], .int .i64 211] 78)
  refine hK.out _ _ hS (fun _ => ?_)
  clear hK K
  (try simp only [Act.put, List.getElem_toArray, List.getElem_cons_succ, List.getElem_cons_zero, List.setIfInBounds_toArray, List.set_cons_zero, List.set_cons_succ])
  have hf := first_new [⟨59, #[.pointer (some ⟨V0.heap.size, 0, none⟩)], 1, f1⟩, ⟨60, #[.pointer (some ⟨w1.heap.size, 0, none⟩), .pointer (some ⟨w1.heap.size + 1, 0, none⟩), .pointer (some ⟨w1.heap.size + 2, 0, none⟩)], 2, f2⟩, ⟨35, #[.pointer (some ⟨w.heap.size + 3, 0, none⟩)], 3, f3⟩, ⟨36, #[.pointer (some ⟨w.heap.size, 0, none⟩), .pointer (some ⟨w.heap.size + 1, 0, none⟩), .pointer (some ⟨w.heap.size + 2, 0, none⟩)], 210, f4⟩, ⟨37, #[.pointer (some ⟨w.heap.size, 0, none⟩)], 211, f5⟩] E (HF.out _ _ _ _ _) 5 W0 w2 #[.func (.func 59) #[] #[.pointer (some ⟨V0.heap.size, 0, none⟩)], .int .i64 1, .func (.func 60) #[] #[.pointer (some ⟨w1.heap.size, 0, none⟩), .pointer (some ⟨w1.heap.size + 1, 0, none⟩), .pointer (some ⟨w1.heap.size + 2, 0, none⟩)], .int .i64 2, .func (.func 35) #[] #[.pointer (some ⟨w.heap.size + 3, 0, none⟩)], .int .i64 3, .func (.func 36) #[] #[.pointer (some ⟨w.heap.size, 0, none⟩), .pointer (some ⟨w.heap.size + 1, 0, none⟩), .pointer (some ⟨w.heap.size + 2, 0, none⟩)], .int .i64 210, .func (.func 37) #[] #[.pointer (some ⟨w.heap.size, 0, none⟩)], .int .i64 211] rfl rfl (by omega) HB2.out (by simp [flNums]) (fun j hj ht W hW => by
    have hbW : Below w.heap.size w W := (HW0.out.trans (HB2.out.mono HW0.out.size)).trans (hW.mono (HW0.out.trans (HB2.out.mono HW0.out.size)).size)
    have hk0 : ∀ {b : Nat} {o : Obj}, W0.heap[b]? = some o → W.heap[b]? = some o := fun {b o} h1 => ((HB2.out.trans (hW.mono HB2.out.size)).block _ (Array.getElem?_eq_some_iff.1 h1).1).trans h1
    have hk2 : ∀ {b : Nat} {o : Obj}, w2.heap[b]? = some o → W.heap[b]? = some o := fun {b o} h1 => (hW.block _ (Array.getElem?_eq_some_iff.1 h1).1).trans h1
    match j, hj, ht with
    | 0, _, _ => exact HC1.out W V0.heap.size hbW (hk2 ((HB12.out.block _ (Array.getElem?_eq_some_iff.1 HX1.out).1).trans HX1.out))
    | 1, _, ht => exact HC2.out (ht ⟨59, #[.pointer (some ⟨V0.heap.size, 0, none⟩)], 1, f1⟩ (by simp)) W _ _ _ hbW (hk2 HX2.out) (hk2 HX3.out) (hk2 HX4.out)
    | 2, _, _ => exact HC3.out W _ (hk0 HBB.out)
    | 3, _, ht => exact HC4.out (ht ⟨59, #[.pointer (some ⟨V0.heap.size, 0, none⟩)], 1, f1⟩ (by simp)) (ht ⟨60, #[.pointer (some ⟨w1.heap.size, 0, none⟩), .pointer (some ⟨w1.heap.size + 1, 0, none⟩), .pointer (some ⟨w1.heap.size + 2, 0, none⟩)], 2, f2⟩ (by simp)) W _ _ _ hbW (hk0 HBN.out) (hk0 HBF.out) (hk0 HBT.out)
    | 4, _, ht => exact HC5.out (ht ⟨59, #[.pointer (some ⟨V0.heap.size, 0, none⟩)], 1, f1⟩ (by simp)) (ht ⟨60, #[.pointer (some ⟨w1.heap.size, 0, none⟩), .pointer (some ⟨w1.heap.size + 1, 0, none⟩), .pointer (some ⟨w1.heap.size + 2, 0, none⟩)], 2, f2⟩ (by simp)) W _ hbW (hk0 HBN.out))
  refine wpAnyH_ready (rs := [13]) (by kernel_rfl) (by simp) (AllReadyH.cons rfl (fun K hK => ?_) AllReadyH.nil)
  go_simp
  go_at_call 32
  (with_reducible refine hf.mono ?_)
  clear hf
  rintro e w3 ⟨rfl, hb⟩
  try dsimp only
  have HB3 := Lib.hid hb; clear hb; have hS := HB3.out
  refine hK.out _ _ hS (fun _ => ?_)
  clear hK K
  (try simp only [Act.put, List.getElem_toArray, List.getElem_cons_succ, List.getElem_cons_zero, List.setIfInBounds_toArray, List.set_cons_zero, List.set_cons_succ])
  refine wpAnyH_take (i := 14) (v := .int .i64 E) rfl (by kernel_rfl) (by kernel_rfl) (by kernel_rfl) (fun _ _ _ h => h) (Or.inl ⟨by rfl, ?_⟩) (by assumption) ?_
  · intro wx hs1; go_simp
  (try simp only [Act.put, List.getElem_toArray, List.getElem_cons_succ, List.getElem_cons_zero, List.setIfInBounds_toArray, List.set_cons_zero, List.set_cons_succ])
  refine wpAnyH_done (by kernel_rfl) ?_ _
  go_wp2
  exact bodyPost_ret (v := .tuple #[.int .i64 0, .int .i64 E]) (by simp [results, Try.results12, go_sem]) rfl ⟨rfl, HW0.out.trans (HB3.out.mono HW0.out.size)⟩
end Go.Proofs
