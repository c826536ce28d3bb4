/-
  ballot: the document's votes: Won, Add. Conditions: as each theorem names them.
-/
import Derived.Test.YtjdmnajjfikehaaBaL
namespace Go.Proofs
open Go Go.RowKit Sm Go.Lib
attribute [local go_sem] Oper.semAt_some
set_option maxRecDepth 100000 in
set_option maxHeartbeats 4000000 in
theorem Sm.rWon_any (c : Int) (f : Nat → Bool) (w : World) (hc : chB c = true) : Calls Try.prog 34 #[.agg #[.int .i64 c, .bool (f 0), .bool (f 1), .bool (f 2), .bool (f 3), .bool (f 4), .bool (f 5), .bool (f 6), .bool (f 7), .bool (f 8)]] w fun e w' => e = .returned (.bool (wonB c f)) ∧ Below w.heap.size w w' := by
  have q0 := World.alloc_heap_new w (.cells #[.int .i64 c, .bool (f 0), .bool (f 1), .bool (f 2), .bool (f 3), .bool (f 4), .bool (f 5), .bool (f 6), .bool (f 7), .bool (f 8)] 65)
  have hb0 : Below w.heap.size w (w.alloc (.cells #[.int .i64 c, .bool (f 0), .bool (f 1), .bool (f 2), .bool (f 3), .bool (f 4), .bool (f 5), .bool (f 6), .bool (f 7), .bool (f 8)] 65)) := (Below.refl _ w).alloc (Nat.le_refl _) _
  obtain ⟨w1, hw1⟩ : ∃ v, w.alloc (.cells #[.int .i64 c, .bool (f 0), .bool (f 1), .bool (f 2), .bool (f 3), .bool (f 4), .bool (f 5), .bool (f 6), .bool (f 7), .bool (f 8)] 65) = v := ⟨_, rfl⟩
  rw [hw1] at q0 hb0
  have hR := fun W => Right_any c W
  have hMj := fun W => rMaj_any c W hc
  have hMn := fun W => rMany_any c f W
  unfold wonB
  rw [hc] at hR ⊢
  obtain ⟨n, hn⟩ : ∃ n, cntF f 9 = n := ⟨_, rfl⟩
  rw [hn] at hMn ⊢
  obtain ⟨m, hm⟩ : ∃ m, c / 2 + 1 = m := ⟨_, rfl⟩
  rw [hm] at hMj ⊢
  have HS : Hid (∀ W, Below w1.heap.size w1 W → W.cell? ⟨w.heap.size, 0, none⟩ = some (.int .i64 c) ∧ W.cell? ⟨w.heap.size, 1, none⟩ = some (.bool (f 0)) ∧ W.cell? ⟨w.heap.size, 2, none⟩ = some (.bool (f 1)) ∧ W.cell? ⟨w.heap.size, 3, none⟩ = some (.bool (f 2)) ∧ W.cell? ⟨w.heap.size, 4, none⟩ = some (.bool (f 3)) ∧ W.cell? ⟨w.heap.size, 5, none⟩ = some (.bool (f 4)) ∧ W.cell? ⟨w.heap.size, 6, none⟩ = some (.bool (f 5)) ∧ W.cell? ⟨w.heap.size, 7, none⟩ = some (.bool (f 6)) ∧ W.cell? ⟨w.heap.size, 8, none⟩ = some (.bool (f 7)) ∧ W.cell? ⟨w.heap.size, 9, none⟩ = some (.bool (f 8))) := Lib.hid fun W hb => cells10r ((hb.block _ (Array.getElem?_eq_some_iff.1 q0).1).trans q0)
  have z0 := HS.out w1 (Below.refl _ _)
  have HB := Lib.hid hb0
  clear q0 hb0 hn hm hc
  go_enter Try.func34, Try.ntmps34
  go_upto_region 1 with fail
  clear hw1
  go_region_held_law (fun W => W.cell? ⟨w.heap.size, 0, none⟩ = some (.int .i64 c) ∧ W.cell? ⟨w.heap.size, 1, none⟩ = some (.bool (f 0)) ∧ W.cell? ⟨w.heap.size, 2, none⟩ = some (.bool (f 1)) ∧ W.cell? ⟨w.heap.size, 3, none⟩ = some (.bool (f 2)) ∧ W.cell? ⟨w.heap.size, 4, none⟩ = some (.bool (f 3)) ∧ W.cell? ⟨w.heap.size, 5, none⟩ = some (.bool (f 4)) ∧ W.cell? ⟨w.heap.size, 6, none⟩ = some (.bool (f 5)) ∧ W.cell? ⟨w.heap.size, 7, none⟩ = some (.bool (f 6)) ∧ W.cell? ⟨w.heap.size, 8, none⟩ = some (.bool (f 7)) ∧ W.cell? ⟨w.heap.size, 9, none⟩ = some (.bool (f 8)))
    (first | exact z0 | (refine HS.out _ ?_; repeat' (first | exact HB3.out | exact Below.refl _ _ | refine Below.drew ?_ | refine Below.alloc ?_ ?_ _ | (simp; done) | (simp; omega) | omega)))
    (first
      | (go_at_call 31; (with_reducible refine (hR _).mono ?_); rintro e w' ⟨rfl, rfl⟩)
      | (go_at_call 33; (with_reducible refine (hMn _).mono ?_); rintro e w3 ⟨rfl, hb3⟩; have HB3 : Hid (Below w1.heap.size w1 w3) := Lib.hid ((Below.refl _ w1).drew.trans hb3); clear hb3)
      | (go_at_call 52; (with_reducible refine (hMj _).mono ?_); rintro e w' ⟨rfl, rfl⟩))
  all_goals
    go_wp2
    go_ret
    exact ⟨by simp, HB.out.trans (HB3.out.mono HB.out.size)⟩
theorem Sm.put1 {W : World} {b : Nat} {cs : List Value} (h : W.heap[b]? = some (.cells cs.toArray 65 (0, 0))) (i : Nat) (v : Value) : (W.setCell ⟨b, i, none⟩ v).heap[b]? = some (.cells (cs.set i v).toArray 65 (0, 0)) := by
  rw [heap_setCells h]
  simp
set_option maxHeartbeats 2000000 in
theorem Sm.put10 {W : World} {b : Nat} (h : W.heap[b]? = some (.cells #[.int .i64 0, .bool false, .bool false, .bool false, .bool false, .bool false, .bool false, .bool false, .bool false, .bool false] 65 (0, 0))) (c : Int) (f : Nat → Bool) : ((((((((((W.setCell ⟨b, 0, none⟩ (.int .i64 c)).setCell ⟨b, 1, none⟩ (.bool (f 0))).setCell ⟨b, 2, none⟩ (.bool (f 1))).setCell ⟨b, 3, none⟩ (.bool (f 2))).setCell ⟨b, 4, none⟩ (.bool (f 3))).setCell ⟨b, 5, none⟩ (.bool (f 4))).setCell ⟨b, 6, none⟩ (.bool (f 5))).setCell ⟨b, 7, none⟩ (.bool (f 6))).setCell ⟨b, 8, none⟩ (.bool (f 7))).setCell ⟨b, 9, none⟩ (.bool (f 8))).heap[b]? = some (.cells #[.int .i64 c, .bool (f 0), .bool (f 1), .bool (f 2), .bool (f 3), .bool (f 4), .bool (f 5), .bool (f 6), .bool (f 7), .bool (f 8)] 65 (0, 0)) := by
  have h0 := put1 h 0 (.int .i64 c)
  have h1 := put1 h0 1 (.bool (f 0))
  have h2 := put1 h1 2 (.bool (f 1))
  have h3 := put1 h2 3 (.bool (f 2))
  have h4 := put1 h3 4 (.bool (f 3))
  have h5 := put1 h4 5 (.bool (f 4))
  have h6 := put1 h5 6 (.bool (f 5))
  have h7 := put1 h6 7 (.bool (f 6))
  have h8 := put1 h7 8 (.bool (f 7))
  have h9 := put1 h8 9 (.bool (f 8))
  exact h9
theorem Sm.below10 {n : Nat} {w W : World} (h : Below n w W) {b : Nat} (hb : n ≤ b) (c : Int) (f : Nat → Bool) : Below n w ((((((((((W.setCell ⟨b, 0, none⟩ (.int .i64 c)).setCell ⟨b, 1, none⟩ (.bool (f 0))).setCell ⟨b, 2, none⟩ (.bool (f 1))).setCell ⟨b, 3, none⟩ (.bool (f 2))).setCell ⟨b, 4, none⟩ (.bool (f 3))).setCell ⟨b, 5, none⟩ (.bool (f 4))).setCell ⟨b, 6, none⟩ (.bool (f 5))).setCell ⟨b, 7, none⟩ (.bool (f 6))).setCell ⟨b, 8, none⟩ (.bool (f 7))).setCell ⟨b, 9, none⟩ (.bool (f 8))) := by
  have h0 := h.setCell (p := ⟨b, 0, none⟩) hb (.int .i64 c)
  have h1 := h0.setCell (p := ⟨b, 1, none⟩) hb (.bool (f 0))
  have h2 := h1.setCell (p := ⟨b, 2, none⟩) hb (.bool (f 1))
  have h3 := h2.setCell (p := ⟨b, 3, none⟩) hb (.bool (f 2))
  have h4 := h3.setCell (p := ⟨b, 4, none⟩) hb (.bool (f 3))
  have h5 := h4.setCell (p := ⟨b, 5, none⟩) hb (.bool (f 4))
  have h6 := h5.setCell (p := ⟨b, 6, none⟩) hb (.bool (f 5))
  have h7 := h6.setCell (p := ⟨b, 7, none⟩) hb (.bool (f 6))
  have h8 := h7.setCell (p := ⟨b, 8, none⟩) hb (.bool (f 7))
  have h9 := h8.setCell (p := ⟨b, 9, none⟩) hb (.bool (f 8))
  exact h9
set_option maxRecDepth 100000 in
set_option maxHeartbeats 4000000 in
theorem Sm.rAdd_any (c p : Int) (f : Nat → Bool) (w : World) (hc : chB c = true) : Calls Try.prog 32 #[.agg #[.int .i64 c, .bool (f 0), .bool (f 1), .bool (f 2), .bool (f 3), .bool (f 4), .bool (f 5), .bool (f 6), .bool (f 7), .bool (f 8)], .int .i64 p] w fun e w' => e = .returned (.tuple #[.agg #[.int .i64 c, .bool ((adF c p f) 0), .bool ((adF c p f) 1), .bool ((adF c p f) 2), .bool ((adF c p f) 3), .bool ((adF c p f) 4), .bool ((adF c p f) 5), .bool ((adF c p f) 6), .bool ((adF c p f) 7), .bool ((adF c p f) 8)], .bool (adB c p f), .int .i64 (adE c p)]) ∧ Below w.heap.size w w' := by
  have q0 : ((w.alloc (.cells #[.int .i64 c, .bool (f 0), .bool (f 1), .bool (f 2), .bool (f 3), .bool (f 4), .bool (f 5), .bool (f 6), .bool (f 7), .bool (f 8)] 65)).alloc (.cells #[.int .i64 0, .bool false, .bool false, .bool false, .bool false, .bool false, .bool false, .bool false, .bool false, .bool false] 65)).heap[w.heap.size]? = some (.cells #[.int .i64 c, .bool (f 0), .bool (f 1), .bool (f 2), .bool (f 3), .bool (f 4), .bool (f 5), .bool (f 6), .bool (f 7), .bool (f 8)] 65 (0, 0)) := (Below.heap_alloc _ _ _ (by simp)).trans (World.alloc_heap_new w _)
  have q1 : ((w.alloc (.cells #[.int .i64 c, .bool (f 0), .bool (f 1), .bool (f 2), .bool (f 3), .bool (f 4), .bool (f 5), .bool (f 6), .bool (f 7), .bool (f 8)] 65)).alloc (.cells #[.int .i64 0, .bool false, .bool false, .bool false, .bool false, .bool false, .bool false, .bool false, .bool false, .bool false] 65)).heap[w.heap.size + 1]? = some (.cells #[.int .i64 0, .bool false, .bool false, .bool false, .bool false, .bool false, .bool false, .bool false, .bool false, .bool false] 65 (0, 0)) := by
    have := World.alloc_heap_new (w.alloc (.cells #[.int .i64 c, .bool (f 0), .bool (f 1), .bool (f 2), .bool (f 3), .bool (f 4), .bool (f 5), .bool (f 6), .bool (f 7), .bool (f 8)] 65)) (.cells #[.int .i64 0, .bool false, .bool false, .bool false, .bool false, .bool false, .bool false, .bool false, .bool false, .bool false] 65); rwa [World.size_alloc] at this
  have hb0 : Below w.heap.size w ((w.alloc (.cells #[.int .i64 c, .bool (f 0), .bool (f 1), .bool (f 2), .bool (f 3), .bool (f 4), .bool (f 5), .bool (f 6), .bool (f 7), .bool (f 8)] 65)).alloc (.cells #[.int .i64 0, .bool false, .bool false, .bool false, .bool false, .bool false, .bool false, .bool false, .bool false, .bool false] 65)) := ((Below.refl _ w).alloc (Nat.le_refl _) _).alloc (by simp) _
  obtain ⟨w1, hw1⟩ : ∃ v, (w.alloc (.cells #[.int .i64 c, .bool (f 0), .bool (f 1), .bool (f 2), .bool (f 3), .bool (f 4), .bool (f 5), .bool (f 6), .bool (f 7), .bool (f 8)] 65)).alloc (.cells #[.int .i64 0, .bool false, .bool false, .bool false, .bool false, .bool false, .bool false, .bool false, .bool false, .bool false] 65) = v := ⟨_, rfl⟩
  rw [hw1] at q0 q1 hb0
  have hP := fun W => Place_any c p W
  have h9 : 3 ≤ c ∧ c ≤ 9 := by rcases chB_iff.1 hc with e | e | e | e <;> omega
  obtain ⟨c0, c1, c2, c3, c4, c5, c6, c7, c8, c9⟩ := cells10r q0
  unfold adB adE adF
  have HQ0 := Lib.hid q0
  have HQ1 := Lib.hid q1
  have HB := Lib.hid hb0
  clear q0 q1 hb0 hc
  cases hr : rpB c p with
  | false =>
    rw [hr] at hP
    simp only [Bool.false_eq_true, if_false]
    clear hr
    obtain ⟨k0, k1, k2, k3, k4, k5, k6, k7, k8, k9⟩ := cells10r (f := fun _ => false) HQ1.out
    have f0 := frozen_of_heap HQ1.out 0
    have f1 := frozen_of_heap HQ1.out 1
    have f2 := frozen_of_heap HQ1.out 2
    have f3 := frozen_of_heap HQ1.out 3
    have f4 := frozen_of_heap HQ1.out 4
    have f5 := frozen_of_heap HQ1.out 5
    have f6 := frozen_of_heap HQ1.out 6
    have f7 := frozen_of_heap HQ1.out 7
    have f8 := frozen_of_heap HQ1.out 8
    have f9 := frozen_of_heap HQ1.out 9
    go_enter Try.func32, Try.ntmps32
    go_wp2_with (go_at_call 40; (with_reducible refine (hP _).mono ?_); rintro e w' ⟨rfl, rfl⟩)
    have HZ := Lib.hid (put10 HQ1.out c f)
    have HBZ := Lib.hid (below10 HB.out (b := w.heap.size + 1) (by omega) c f)
    obtain ⟨z0, z1, z2, z3, z4, z5, z6, z7, z8, z9⟩ := cells10r HZ.out
    exact bodyPost_ret (v := .tuple #[.agg #[.int .i64 c, .bool (f 0), .bool (f 1), .bool (f 2), .bool (f 3), .bool (f 4), .bool (f 5), .bool (f 6), .bool (f 7), .bool (f 8)], .bool false, .int .i64 2]) (by simp [results, Try.results32, go_sem, z0, z1, z2, z3, z4, z5, z6, z7, z8, z9]) rfl ⟨rfl, HBZ.out⟩
  | true =>
    have hr2 := hr
    unfold rpB at hr2
    rw [Bool.and_eq_true, decide_eq_true_eq, decide_eq_true_eq] at hr2
    rw [hr] at hP
    simp only [if_true]
    obtain ⟨pn, rfl⟩ : ∃ pn : Nat, p = (pn : Int) := ⟨p.toNat, by omega⟩
    simp only [Int.toNat_natCast]
    have hp9 : pn < 9 := by omega
    have hpc : (pn : Int) < 9 := by omega
    clear hr hr2
    obtain ⟨d0, d1, d2⟩ := set65 HQ0.out pn hp9
    have q1 := (heap_setOther (w := w1) (B := w.heap.size) (D := w.heap.size + 1) (i := 1 + pn) (u := .bool true) (by omega)).trans HQ1.out
    have HD := Lib.hid d2
    have HQ2 := Lib.hid q1
    have HB2 : Hid (Below w.heap.size w (w1.setCell ⟨w.heap.size, 1 + pn, none⟩ (.bool true))) := Lib.hid (HB.out.setCell (p := ⟨w.heap.size, 1 + pn, none⟩) (Nat.le_refl _) _)
    clear d2 q1
    go_enter Try.func32, Try.ntmps32
    go_upto_region 5 with (go_at_call 40; (with_reducible refine (hP _).mono ?_); rintro e w' ⟨rfl, rfl⟩)
    obtain ⟨w2, hw2⟩ : ∃ v, w1.setCell ⟨w.heap.size, 1 + pn, none⟩ (.bool true) = v := ⟨_, rfl⟩
    rw [hw2] at HD HQ2 HB2 ⊢
    clear hw2 HQ1 HQ0 HB c0 c1 c2 c3 c4 c5 c6 c7 c8 c9 d0 d1 hw1
    obtain ⟨g, hg⟩ : ∃ g, setF f pn = g := ⟨_, rfl⟩
    rw [hg] at HD
    have HG := Lib.hid hg
    clear hg
    obtain ⟨c0, c1, c2, c3, c4, c5, c6, c7, c8, c9⟩ := cells10r HD.out
    obtain ⟨k0, k1, k2, k3, k4, k5, k6, k7, k8, k9⟩ := cells10r (f := fun _ => false) HQ2.out
    have f0 := frozen_of_heap HQ2.out 0
    have f1 := frozen_of_heap HQ2.out 1
    have f2 := frozen_of_heap HQ2.out 2
    have f3 := frozen_of_heap HQ2.out 3
    have f4 := frozen_of_heap HQ2.out 4
    have f5 := frozen_of_heap HQ2.out 5
    have f6 := frozen_of_heap HQ2.out 6
    have f7 := frozen_of_heap HQ2.out 7
    have f8 := frozen_of_heap HQ2.out 8
    have f9 := frozen_of_heap HQ2.out 9
    go_wp2
    have HZ := Lib.hid (put10 HQ2.out c g)
    have HBZ := Lib.hid (below10 HB2.out (b := w.heap.size + 1) (by omega) c g)
    obtain ⟨z0, z1, z2, z3, z4, z5, z6, z7, z8, z9⟩ := cells10r HZ.out
    exact bodyPost_ret (v := .tuple #[.agg #[.int .i64 c, .bool (g 0), .bool (g 1), .bool (g 2), .bool (g 3), .bool (g 4), .bool (g 5), .bool (g 6), .bool (g 7), .bool (g 8)], .bool (!f pn), .int .i64 0]) (by simp [results, Try.results32, go_sem, z0, z1, z2, z3, z4, z5, z6, z7, z8, z9]) rfl ⟨by rw [HG.out], HBZ.out⟩
end Go.Proofs
