/-
  acceptor: the document's Of. Conditions: as each theorem names them.
-/
import Derived.Test.YtamlacofmihldaaGreatDoorAcN
namespace Go.Proofs
open Go Go.RowKit Sm Go.Lib
attribute [local go_sem] Oper.semAt_some
/-- may such a state be? -/
def Sm.ofB (c s r q cr cq k m n : Int) (t : ByteArray) : Bool := mayB c s r q && (if cr = -1 ∧ cq = 0 then decide (k = 0 ∧ m = 0 ∧ n = 0 ∧ t = ⟨#[]⟩) else mayB c s cr cq && entB k m n t && !lessB r q cr cq)
set_option maxRecDepth 100000 in
set_option maxHeartbeats 2000000 in
theorem Sm.rOf_ch (c s r q cr cq k m n : Int) (t : ByteArray) (w : World) (hc : chB c = false) : Calls Tryz.prog 21 #[.int .i64 c, .int .i64 s, .agg #[.int .i64 r, .int .i64 q], .agg #[.int .i64 cr, .int .i64 cq, .int .i64 k, .int .i64 m, .int .i64 n, .string t]] w fun e w' => e = .returned (.tuple #[.agg #[.int .i64 0, .int .i64 0, .int .i64 0, .int .i64 0, .int .i64 0, .int .i64 0, .int .i64 0, .int .i64 0, .int .i64 0, .string ⟨#[]⟩], .int .i64 2]) ∧ Below w.heap.size w w' := by
  obtain ⟨w3, hw3, k0, k1, k2, hb3, hz3⟩ := three_new w (.cells #[.int .i64 r, .int .i64 q] 31) (.cells #[.int .i64 cr, .int .i64 cq, .int .i64 k, .int .i64 m, .int .i64 n, .string t] 36) (.cells #[.int .i64 0, .int .i64 0, .int .i64 0, .int .i64 0, .int .i64 0, .int .i64 0, .int .i64 0, .int .i64 0, .int .i64 0, .string ⟨#[]⟩] 38)
  have HQ : Hid (∀ W, Below w3.heap.size w3 W → W.heap[w.heap.size]? = some (.cells #[.int .i64 r, .int .i64 q] 31 (0, 0)) ∧ W.heap[w.heap.size + 1]? = some (.cells #[.int .i64 cr, .int .i64 cq, .int .i64 k, .int .i64 m, .int .i64 n, .string t] 36 (0, 0)) ∧ W.heap[w.heap.size + 2]? = some (.cells #[.int .i64 0, .int .i64 0, .int .i64 0, .int .i64 0, .int .i64 0, .int .i64 0, .int .i64 0, .int .i64 0, .int .i64 0, .string ⟨#[]⟩] 38 (0, 0))) := Lib.hid fun W hb =>
    ⟨(hb.block _ (by omega)).trans k0, (hb.block _ (by omega)).trans k1, (hb.block _ (by omega)).trans k2⟩
  have HB3 := Lib.hid hb3
  have HBr : Hid (Below w3.heap.size w3 w3) := Lib.hid (Below.refl _ w3)
  obtain ⟨⟨b0, b1⟩, _⟩ := two (HQ.out _ HBr.out).1; obtain ⟨⟨a0, a1, a2, a3, a4, a5⟩, _⟩ := six (HQ.out _ HBr.out).2.1; obtain ⟨⟨d0, d1, d2, d3, d4, d5, d6, d7, d8, d9⟩, ⟨f0, f1, f2, f3, f4, f5, f6, f7, f8, f9⟩⟩ := ten (HQ.out _ HBr.out).2.2
  clear k0 k1 k2 hb3
  have H24 : Hid (∀ W, Calls Tryz.prog 24 #[.int .i64 c] W fun e w' => e = .returned (.bool false) ∧ W = w') := Lib.hid fun W => by
    have h := Right_any c W
    rw [hc] at h
    exact h
  clear hc
  go_enter Tryz.func21, Tryz.ntmps21
  go_wp2_with (go_at_call 24; (with_reducible refine (H24.out _).mono ?_); rintro e w' ⟨rfl, rfl⟩)
  have ht0 := set10 (HQ.out _ HBr.out).2.2 (.int .i64 0) (.int .i64 0) (.int .i64 0) (.int .i64 0) (.int .i64 0) (.int .i64 0) (.int .i64 0) (.int .i64 0) (.int .i64 0) (.string ⟨#[]⟩)
  obtain ⟨⟨z0, z1, z2, z3, z4, z5, z6, z7, z8, z9⟩, _⟩ := ten ht0
  clear b0 b1 a0 a1 a2 a3 a4 a5 d0 d1 d2 d3 d4 d5 d6 d7 d8 d9 f0 f1 f2 f3 f4 f5 f6 f7 f8 f9 ht0
  refine bodyPost_ret (v := .tuple #[.agg #[.int .i64 0, .int .i64 0, .int .i64 0, .int .i64 0, .int .i64 0, .int .i64 0, .int .i64 0, .int .i64 0, .int .i64 0, .string ⟨#[]⟩], .int .i64 2]) (by simp only [results, Tryz.results21]; simp [go_sem, z0, z1, z2, z3, z4, z5, z6, z7, z8, z9]) rfl ⟨rfl, ?_⟩
  exact bset10 (HB3.out.trans (HBr.out.mono HB3.out.size)) (by omega) (.int .i64 0) (.int .i64 0) (.int .i64 0) (.int .i64 0) (.int .i64 0) (.int .i64 0) (.int .i64 0) (.int .i64 0) (.int .i64 0) (.string ⟨#[]⟩)
set_option maxRecDepth 100000 in
set_option maxHeartbeats 2000000 in
theorem Sm.rOf_sl (c s r q cr cq k m n : Int) (t : ByteArray) (w : World) (hc : chB c = true) (hs : slB s = false) : Calls Tryz.prog 21 #[.int .i64 c, .int .i64 s, .agg #[.int .i64 r, .int .i64 q], .agg #[.int .i64 cr, .int .i64 cq, .int .i64 k, .int .i64 m, .int .i64 n, .string t]] w fun e w' => e = .returned (.tuple #[.agg #[.int .i64 0, .int .i64 0, .int .i64 0, .int .i64 0, .int .i64 0, .int .i64 0, .int .i64 0, .int .i64 0, .int .i64 0, .string ⟨#[]⟩], .int .i64 4]) ∧ Below w.heap.size w w' := by
  obtain ⟨w3, hw3, k0, k1, k2, hb3, hz3⟩ := three_new w (.cells #[.int .i64 r, .int .i64 q] 31) (.cells #[.int .i64 cr, .int .i64 cq, .int .i64 k, .int .i64 m, .int .i64 n, .string t] 36) (.cells #[.int .i64 0, .int .i64 0, .int .i64 0, .int .i64 0, .int .i64 0, .int .i64 0, .int .i64 0, .int .i64 0, .int .i64 0, .string ⟨#[]⟩] 38)
  have HQ : Hid (∀ W, Below w3.heap.size w3 W → W.heap[w.heap.size]? = some (.cells #[.int .i64 r, .int .i64 q] 31 (0, 0)) ∧ W.heap[w.heap.size + 1]? = some (.cells #[.int .i64 cr, .int .i64 cq, .int .i64 k, .int .i64 m, .int .i64 n, .string t] 36 (0, 0)) ∧ W.heap[w.heap.size + 2]? = some (.cells #[.int .i64 0, .int .i64 0, .int .i64 0, .int .i64 0, .int .i64 0, .int .i64 0, .int .i64 0, .int .i64 0, .int .i64 0, .string ⟨#[]⟩] 38 (0, 0))) := Lib.hid fun W hb =>
    ⟨(hb.block _ (by omega)).trans k0, (hb.block _ (by omega)).trans k1, (hb.block _ (by omega)).trans k2⟩
  have HB3 := Lib.hid hb3
  have HBr : Hid (Below w3.heap.size w3 w3) := Lib.hid (Below.refl _ w3)
  obtain ⟨⟨b0, b1⟩, _⟩ := two (HQ.out _ HBr.out).1; obtain ⟨⟨a0, a1, a2, a3, a4, a5⟩, _⟩ := six (HQ.out _ HBr.out).2.1; obtain ⟨⟨d0, d1, d2, d3, d4, d5, d6, d7, d8, d9⟩, ⟨f0, f1, f2, f3, f4, f5, f6, f7, f8, f9⟩⟩ := ten (HQ.out _ HBr.out).2.2
  clear k0 k1 k2 hb3
  have H24 : Hid (∀ W, Calls Tryz.prog 24 #[.int .i64 c] W fun e w' => e = .returned (.bool true) ∧ W = w') := Lib.hid fun W => by
    have h := Right_any c W
    rw [hc] at h
    exact h
  have H25 : Hid (∀ W, Calls Tryz.prog 25 #[.int .i64 s] W fun e w' => e = .returned (.bool false) ∧ W = w') := Lib.hid fun W => by
    have h := rSlot_any s W
    rw [hs] at h
    exact h
  clear hc hs
  go_enter Tryz.func21, Tryz.ntmps21
  go_wp2_with (first | (go_at_call 24; (with_reducible refine (H24.out _).mono ?_); rintro e w' ⟨rfl, rfl⟩) | (go_at_call 25; (with_reducible refine (H25.out _).mono ?_); rintro e w' ⟨rfl, rfl⟩))
  have ht0 := set10 (HQ.out _ HBr.out).2.2 (.int .i64 0) (.int .i64 0) (.int .i64 0) (.int .i64 0) (.int .i64 0) (.int .i64 0) (.int .i64 0) (.int .i64 0) (.int .i64 0) (.string ⟨#[]⟩)
  obtain ⟨⟨z0, z1, z2, z3, z4, z5, z6, z7, z8, z9⟩, _⟩ := ten ht0
  clear b0 b1 a0 a1 a2 a3 a4 a5 d0 d1 d2 d3 d4 d5 d6 d7 d8 d9 f0 f1 f2 f3 f4 f5 f6 f7 f8 f9 ht0
  refine bodyPost_ret (v := .tuple #[.agg #[.int .i64 0, .int .i64 0, .int .i64 0, .int .i64 0, .int .i64 0, .int .i64 0, .int .i64 0, .int .i64 0, .int .i64 0, .string ⟨#[]⟩], .int .i64 4]) (by simp only [results, Tryz.results21]; simp [go_sem, z0, z1, z2, z3, z4, z5, z6, z7, z8, z9]) rfl ⟨rfl, ?_⟩
  exact bset10 (HB3.out.trans (HBr.out.mono HB3.out.size)) (by omega) (.int .i64 0) (.int .i64 0) (.int .i64 0) (.int .i64 0) (.int .i64 0) (.int .i64 0) (.int .i64 0) (.int .i64 0) (.int .i64 0) (.string ⟨#[]⟩)
set_option maxRecDepth 100000 in
set_option maxHeartbeats 2000000 in
theorem Sm.rOf_may (c s r q cr cq k m n : Int) (t : ByteArray) (w : World) (hc : chB c = true) (hs : slB s = true) (hm : mayB c s r q = false) : Calls Tryz.prog 21 #[.int .i64 c, .int .i64 s, .agg #[.int .i64 r, .int .i64 q], .agg #[.int .i64 cr, .int .i64 cq, .int .i64 k, .int .i64 m, .int .i64 n, .string t]] w fun e w' => e = .returned (.tuple #[.agg #[.int .i64 0, .int .i64 0, .int .i64 0, .int .i64 0, .int .i64 0, .int .i64 0, .int .i64 0, .int .i64 0, .int .i64 0, .string ⟨#[]⟩], .int .i64 2]) ∧ Below w.heap.size w w' := by
  obtain ⟨w3, hw3, k0, k1, k2, hb3, hz3⟩ := three_new w (.cells #[.int .i64 r, .int .i64 q] 31) (.cells #[.int .i64 cr, .int .i64 cq, .int .i64 k, .int .i64 m, .int .i64 n, .string t] 36) (.cells #[.int .i64 0, .int .i64 0, .int .i64 0, .int .i64 0, .int .i64 0, .int .i64 0, .int .i64 0, .int .i64 0, .int .i64 0, .string ⟨#[]⟩] 38)
  have HQ : Hid (∀ W, Below w3.heap.size w3 W → W.heap[w.heap.size]? = some (.cells #[.int .i64 r, .int .i64 q] 31 (0, 0)) ∧ W.heap[w.heap.size + 1]? = some (.cells #[.int .i64 cr, .int .i64 cq, .int .i64 k, .int .i64 m, .int .i64 n, .string t] 36 (0, 0)) ∧ W.heap[w.heap.size + 2]? = some (.cells #[.int .i64 0, .int .i64 0, .int .i64 0, .int .i64 0, .int .i64 0, .int .i64 0, .int .i64 0, .int .i64 0, .int .i64 0, .string ⟨#[]⟩] 38 (0, 0))) := Lib.hid fun W hb =>
    ⟨(hb.block _ (by omega)).trans k0, (hb.block _ (by omega)).trans k1, (hb.block _ (by omega)).trans k2⟩
  have HB3 := Lib.hid hb3
  have HBr : Hid (Below w3.heap.size w3 w3) := Lib.hid (Below.refl _ w3)
  obtain ⟨⟨b0, b1⟩, _⟩ := two (HQ.out _ HBr.out).1; obtain ⟨⟨a0, a1, a2, a3, a4, a5⟩, _⟩ := six (HQ.out _ HBr.out).2.1; obtain ⟨⟨d0, d1, d2, d3, d4, d5, d6, d7, d8, d9⟩, ⟨f0, f1, f2, f3, f4, f5, f6, f7, f8, f9⟩⟩ := ten (HQ.out _ HBr.out).2.2
  clear k0 k1 k2 hb3
  have H24 : Hid (∀ W, Calls Tryz.prog 24 #[.int .i64 c] W fun e w' => e = .returned (.bool true) ∧ W = w') := Lib.hid fun W => by
    have h := Right_any c W
    rw [hc] at h
    exact h
  have H25 : Hid (∀ W, Calls Tryz.prog 25 #[.int .i64 s] W fun e w' => e = .returned (.bool true) ∧ W = w') := Lib.hid fun W => by
    have h := rSlot_any s W
    rw [hs] at h
    exact h
  have HM1 : Hid (∀ W, Calls Tryz.prog 40 #[.int .i64 c, .int .i64 s, .agg #[.int .i64 r, .int .i64 q]] W fun e w' => e = .returned (.bool false) ∧ Below W.heap.size W w') := Lib.hid fun W => by
    have h := rMay_any c s r q W
    rw [hm] at h
    exact h
  clear hc hs hm
  go_enter Tryz.func21, Tryz.ntmps21
  go_wp2_with (first | (go_at_call 24; (with_reducible refine (H24.out _).mono ?_); rintro e w' ⟨rfl, rfl⟩) | (go_at_call 25; (with_reducible refine (H25.out _).mono ?_); rintro e w' ⟨rfl, rfl⟩) | (go_at_call 40; (with_reducible refine (HM1.out _).mono ?_); rintro e w4 ⟨rfl, hb⟩; have HB4 := Lib.hid (HBr.out.trans (hb.mono HBr.out.size)); clear hb b0 b1 a0 a1 a2 a3 a4 a5 d0 d1 d2 d3 d4 d5 d6 d7 d8 d9 f0 f1 f2 f3 f4 f5 f6 f7 f8 f9; obtain ⟨⟨b0, b1⟩, _⟩ := two (HQ.out _ HB4.out).1; obtain ⟨⟨a0, a1, a2, a3, a4, a5⟩, _⟩ := six (HQ.out _ HB4.out).2.1; obtain ⟨⟨d0, d1, d2, d3, d4, d5, d6, d7, d8, d9⟩, ⟨f0, f1, f2, f3, f4, f5, f6, f7, f8, f9⟩⟩ := ten (HQ.out _ HB4.out).2.2))
  have ht0 := set10 (HQ.out _ HB4.out).2.2 (.int .i64 0) (.int .i64 0) (.int .i64 0) (.int .i64 0) (.int .i64 0) (.int .i64 0) (.int .i64 0) (.int .i64 0) (.int .i64 0) (.string ⟨#[]⟩)
  obtain ⟨⟨z0, z1, z2, z3, z4, z5, z6, z7, z8, z9⟩, _⟩ := ten ht0
  clear b0 b1 a0 a1 a2 a3 a4 a5 d0 d1 d2 d3 d4 d5 d6 d7 d8 d9 f0 f1 f2 f3 f4 f5 f6 f7 f8 f9 ht0
  refine bodyPost_ret (v := .tuple #[.agg #[.int .i64 0, .int .i64 0, .int .i64 0, .int .i64 0, .int .i64 0, .int .i64 0, .int .i64 0, .int .i64 0, .int .i64 0, .string ⟨#[]⟩], .int .i64 2]) (by simp only [results, Tryz.results21]; simp [go_sem, z0, z1, z2, z3, z4, z5, z6, z7, z8, z9]) rfl ⟨rfl, ?_⟩
  exact bset10 (HB3.out.trans (HB4.out.mono HB3.out.size)) (by omega) (.int .i64 0) (.int .i64 0) (.int .i64 0) (.int .i64 0) (.int .i64 0) (.int .i64 0) (.int .i64 0) (.int .i64 0) (.int .i64 0) (.string ⟨#[]⟩)
set_option maxRecDepth 100000 in
set_option maxHeartbeats 2000000 in
theorem Sm.rOf_none_bad (c s r q cr cq k m n : Int) (t : ByteArray) (w : World) (hc : chB c = true) (hs : slB s = true) (hm : mayB c s r q = true) (hn : (cr = -1 ∧ cq = 0)) (he : ¬ (k = 0 ∧ m = 0 ∧ n = 0 ∧ t = ⟨#[]⟩)) : Calls Tryz.prog 21 #[.int .i64 c, .int .i64 s, .agg #[.int .i64 r, .int .i64 q], .agg #[.int .i64 cr, .int .i64 cq, .int .i64 k, .int .i64 m, .int .i64 n, .string t]] w fun e w' => e = .returned (.tuple #[.agg #[.int .i64 0, .int .i64 0, .int .i64 0, .int .i64 0, .int .i64 0, .int .i64 0, .int .i64 0, .int .i64 0, .int .i64 0, .string ⟨#[]⟩], .int .i64 2]) ∧ Below w.heap.size w w' := by
  obtain ⟨w3, hw3, k0, k1, k2, hb3, hz3⟩ := three_new w (.cells #[.int .i64 r, .int .i64 q] 31) (.cells #[.int .i64 cr, .int .i64 cq, .int .i64 k, .int .i64 m, .int .i64 n, .string t] 36) (.cells #[.int .i64 0, .int .i64 0, .int .i64 0, .int .i64 0, .int .i64 0, .int .i64 0, .int .i64 0, .int .i64 0, .int .i64 0, .string ⟨#[]⟩] 38)
  have HQ : Hid (∀ W, Below w3.heap.size w3 W → W.heap[w.heap.size]? = some (.cells #[.int .i64 r, .int .i64 q] 31 (0, 0)) ∧ W.heap[w.heap.size + 1]? = some (.cells #[.int .i64 cr, .int .i64 cq, .int .i64 k, .int .i64 m, .int .i64 n, .string t] 36 (0, 0)) ∧ W.heap[w.heap.size + 2]? = some (.cells #[.int .i64 0, .int .i64 0, .int .i64 0, .int .i64 0, .int .i64 0, .int .i64 0, .int .i64 0, .int .i64 0, .int .i64 0, .string ⟨#[]⟩] 38 (0, 0))) := Lib.hid fun W hb =>
    ⟨(hb.block _ (by omega)).trans k0, (hb.block _ (by omega)).trans k1, (hb.block _ (by omega)).trans k2⟩
  have HB3 := Lib.hid hb3
  have HBr : Hid (Below w3.heap.size w3 w3) := Lib.hid (Below.refl _ w3)
  obtain ⟨⟨b0, b1⟩, _⟩ := two (HQ.out _ HBr.out).1; obtain ⟨⟨a0, a1, a2, a3, a4, a5⟩, _⟩ := six (HQ.out _ HBr.out).2.1; obtain ⟨⟨d0, d1, d2, d3, d4, d5, d6, d7, d8, d9⟩, ⟨f0, f1, f2, f3, f4, f5, f6, f7, f8, f9⟩⟩ := ten (HQ.out _ HBr.out).2.2
  clear k0 k1 k2 hb3
  have H24 : Hid (∀ W, Calls Tryz.prog 24 #[.int .i64 c] W fun e w' => e = .returned (.bool true) ∧ W = w') := Lib.hid fun W => by
    have h := Right_any c W
    rw [hc] at h
    exact h
  have H25 : Hid (∀ W, Calls Tryz.prog 25 #[.int .i64 s] W fun e w' => e = .returned (.bool true) ∧ W = w') := Lib.hid fun W => by
    have h := rSlot_any s W
    rw [hs] at h
    exact h
  have HM1 : Hid (∀ W, Calls Tryz.prog 40 #[.int .i64 c, .int .i64 s, .agg #[.int .i64 r, .int .i64 q]] W fun e w' => e = .returned (.bool true) ∧ Below W.heap.size W w') := Lib.hid fun W => by
    have h := rMay_any c s r q W
    rw [hm] at h
    exact h
  have h27 := fun W => None27 W
  have heq : ∀ W, (binOp .eql 31 (.agg #[.int .i64 cr, .int .i64 cq]) (.agg #[.int .i64 (-1), .int .i64 0])).run Tryz.prog W = .ok (.bool true) W := fun W => by
    rw [eql31]; rw [decide_eq_true hn]
  have hne : ∀ W, (binOp .neq 34 (.agg #[.int .i64 k, .int .i64 m, .int .i64 n, .string t]) (.agg #[.int .i64 0, .int .i64 0, .int .i64 0, .string ⟨#[]⟩])).run Tryz.prog W = .ok (.bool true) W := fun W => by
    rw [neq34]; rw [decide_eq_false he]; rfl
  have gne : ∀ (w : World) (x y : Operand), (eqGuard .neq 34 x y (.agg #[.int .i64 k, .int .i64 m, .int .i64 n, .string t]) (.agg #[.int .i64 0, .int .i64 0, .int .i64 0, .string ⟨#[]⟩])).run Tryz.prog w = .ok () w := fun w x y => run_eqGuard_agg w .neq 34 x y _ _ (by kernel_rfl)
  clear he
  clear hc hs hm hn
  go_enter Tryz.func21, Tryz.ntmps21
  go_upto_region 6 with (first | (go_at_call 24; (with_reducible refine (H24.out _).mono ?_); rintro e w' ⟨rfl, rfl⟩) | (go_at_call 25; (with_reducible refine (H25.out _).mono ?_); rintro e w' ⟨rfl, rfl⟩) | (go_at_call 40; (with_reducible refine (HM1.out _).mono ?_); rintro e w4 ⟨rfl, hb⟩; have HB4 := Lib.hid (HBr.out.trans (hb.mono HBr.out.size)); clear hb b0 b1 a0 a1 a2 a3 a4 a5 d0 d1 d2 d3 d4 d5 d6 d7 d8 d9 f0 f1 f2 f3 f4 f5 f6 f7 f8 f9; obtain ⟨⟨b0, b1⟩, _⟩ := two (HQ.out _ HB4.out).1; obtain ⟨⟨a0, a1, a2, a3, a4, a5⟩, _⟩ := six (HQ.out _ HB4.out).2.1; obtain ⟨⟨d0, d1, d2, d3, d4, d5, d6, d7, d8, d9⟩, ⟨f0, f1, f2, f3, f4, f5, f6, f7, f8, f9⟩⟩ := ten (HQ.out _ HB4.out).2.2))
  have HS4 : Hid (∀ W, Below w4.heap.size w4 W → W.cell? ⟨w.heap.size + 1, 0, none⟩ = some (.int .i64 cr) ∧ W.cell? ⟨w.heap.size + 1, 1, none⟩ = some (.int .i64 cq) ∧ W.cell? ⟨w.heap.size + 1, 2, none⟩ = some (.int .i64 k) ∧ W.cell? ⟨w.heap.size + 1, 3, none⟩ = some (.int .i64 m) ∧ W.cell? ⟨w.heap.size + 1, 4, none⟩ = some (.int .i64 n) ∧ W.cell? ⟨w.heap.size + 1, 5, none⟩ = some (.string t)) := Lib.hid fun W hb => (six (HQ.out _ (HB4.out.trans (hb.mono HB4.out.size))).2.1).1
  have z0 := HS4.out _ (Below.refl _ w4)
  have hS0 : (fun W => W.cell? ⟨w.heap.size + 1, 0, none⟩ = some (.int .i64 cr) ∧ W.cell? ⟨w.heap.size + 1, 1, none⟩ = some (.int .i64 cq) ∧ W.cell? ⟨w.heap.size + 1, 2, none⟩ = some (.int .i64 k) ∧ W.cell? ⟨w.heap.size + 1, 3, none⟩ = some (.int .i64 m) ∧ W.cell? ⟨w.heap.size + 1, 4, none⟩ = some (.int .i64 n) ∧ W.cell? ⟨w.heap.size + 1, 5, none⟩ = some (.string t)) w4.drew := z0
  refine wp_region_held_drew (S := fun W => W.cell? ⟨w.heap.size + 1, 0, none⟩ = some (.int .i64 cr) ∧ W.cell? ⟨w.heap.size + 1, 1, none⟩ = some (.int .i64 cq) ∧ W.cell? ⟨w.heap.size + 1, 2, none⟩ = some (.int .i64 k) ∧ W.cell? ⟨w.heap.size + 1, 3, none⟩ = some (.int .i64 m) ∧ W.cell? ⟨w.heap.size + 1, 4, none⟩ = some (.int .i64 n) ∧ W.cell? ⟨w.heap.size + 1, 5, none⟩ = some (.string t)) rfl hS0 (fun hHeld => ?_)
  simp only [List.size_toArray, List.length_cons, List.length_nil, Nat.reduceAdd]
  have HB0 : Hid (Below w4.heap.size w4 w4.drew) := Lib.hid (Below.refl _ _).drew
  obtain ⟨V0, hV0⟩ : ∃ V, w4.drew = V := ⟨_, rfl⟩
  rw [hV0] at hHeld hS0 HB0 ⊢
  clear hV0
  refine wpAnyH_take (i := 0) (v := .pointer (some ⟨w.heap.size + 1, 0, none⟩)) rfl (by kernel_rfl) (by kernel_rfl) (by kernel_rfl) (fun _ _ _ h => h) (Or.inl ⟨by rfl, ?_⟩) (by assumption) ?_
  · intro wx hs1; go_simp
  (try simp only [Act.put, List.getElem_toArray, List.getElem_cons_zero, List.setIfInBounds_toArray, List.set_cons_zero, List.set_cons_succ])
  refine wpAnyH_take (i := 1) (v := .agg #[.int .i64 cr, .int .i64 cq]) rfl (by kernel_rfl) (by kernel_rfl) (by kernel_rfl) (fun _ _ _ h => h) (Or.inl ⟨by rfl, ?_⟩) (by assumption) ?_
  · intro wx hs1; obtain ⟨s0, s1, _⟩ := hs1; go_simp
  (try simp only [Act.put, List.getElem_toArray, List.getElem_cons_succ, List.getElem_cons_zero, List.setIfInBounds_toArray, List.set_cons_zero, List.set_cons_succ])
  refine wpAnyH_ready (rs := [2]) (by kernel_rfl) (by simp) (AllReadyH.cons rfl (fun K hK => ?_) AllReadyH.nil)
  go_simp
  go_at_call 27
  (with_reducible refine (h27 _).mono ?_)
  rintro e w5 ⟨rfl, hb⟩
  try dsimp only
  have HB5x : Hid (Below w4.heap.size w4 w5) := Lib.hid (HB0.out.trans (hb.mono HB0.out.size)); clear hb; have hS := HS4.out _ HB5x.out
  refine hK.out _ _ hS (fun _ => ?_)
  clear hK K
  (try simp only [Act.put, List.getElem_toArray, List.getElem_cons_succ, List.getElem_cons_zero, List.setIfInBounds_toArray, List.set_cons_zero, List.set_cons_succ])
  refine wpAnyH_take (i := 3) (v := .bool true) rfl (by kernel_rfl) (by kernel_rfl) (by kernel_rfl) (fun _ _ _ h => h) (Or.inl ⟨by rfl, ?_⟩) (by assumption) ?_
  · intro wx hs1; clear hs1; have e3 := heq wx; go_simp
  (try simp only [Act.put, List.getElem_toArray, List.getElem_cons_succ, List.getElem_cons_zero, List.setIfInBounds_toArray, List.set_cons_zero, List.set_cons_succ])
  refine wpAnyH_done (by kernel_rfl) ?_ _
  have HB5 := Lib.hid (HB4.out.trans (HB5x.out.mono HB4.out.size))
  clear z0 b0 b1 a0 a1 a2 a3 a4 a5 d0 d1 d2 d3 d4 d5 d6 d7 d8 d9 f0 f1 f2 f3 f4 f5 f6 f7 f8 f9
  obtain ⟨⟨b0, b1⟩, _⟩ := two (HQ.out _ HB5.out).1; obtain ⟨⟨a0, a1, a2, a3, a4, a5⟩, _⟩ := six (HQ.out _ HB5.out).2.1; obtain ⟨⟨d0, d1, d2, d3, d4, d5, d6, d7, d8, d9⟩, ⟨f0, f1, f2, f3, f4, f5, f6, f7, f8, f9⟩⟩ := ten (HQ.out _ HB5.out).2.2
  go_wp2
  have ht0 := set10 (HQ.out _ HB5.out).2.2 (.int .i64 0) (.int .i64 0) (.int .i64 0) (.int .i64 0) (.int .i64 0) (.int .i64 0) (.int .i64 0) (.int .i64 0) (.int .i64 0) (.string ⟨#[]⟩)
  obtain ⟨⟨z0, z1, z2, z3, z4, z5, z6, z7, z8, z9⟩, _⟩ := ten ht0
  clear b0 b1 a0 a1 a2 a3 a4 a5 d0 d1 d2 d3 d4 d5 d6 d7 d8 d9 f0 f1 f2 f3 f4 f5 f6 f7 f8 f9 ht0
  refine bodyPost_ret (v := .tuple #[.agg #[.int .i64 0, .int .i64 0, .int .i64 0, .int .i64 0, .int .i64 0, .int .i64 0, .int .i64 0, .int .i64 0, .int .i64 0, .string ⟨#[]⟩], .int .i64 2]) (by simp only [results, Tryz.results21]; simp [go_sem, z0, z1, z2, z3, z4, z5, z6, z7, z8, z9]) rfl ⟨rfl, ?_⟩
  exact bset10 (HB3.out.trans (HB5.out.mono HB3.out.size)) (by omega) (.int .i64 0) (.int .i64 0) (.int .i64 0) (.int .i64 0) (.int .i64 0) (.int .i64 0) (.int .i64 0) (.int .i64 0) (.int .i64 0) (.string ⟨#[]⟩)
set_option maxRecDepth 100000 in
set_option maxHeartbeats 2000000 in
theorem Sm.rOf_none_yes (c s r q cr cq k m n : Int) (t : ByteArray) (w : World) (hc : chB c = true) (hs : slB s = true) (hm : mayB c s r q = true) (hn : (cr = -1 ∧ cq = 0)) (he : (k = 0 ∧ m = 0 ∧ n = 0 ∧ t = ⟨#[]⟩)) : Calls Tryz.prog 21 #[.int .i64 c, .int .i64 s, .agg #[.int .i64 r, .int .i64 q], .agg #[.int .i64 cr, .int .i64 cq, .int .i64 k, .int .i64 m, .int .i64 n, .string t]] w fun e w' => e = .returned (.tuple #[.agg #[.int .i64 c, .int .i64 s, .int .i64 r, .int .i64 q, .int .i64 cr, .int .i64 cq, .int .i64 k, .int .i64 m, .int .i64 n, .string t], .int .i64 0]) ∧ Below w.heap.size w w' := by
  obtain ⟨w3, hw3, k0, k1, k2, hb3, hz3⟩ := three_new w (.cells #[.int .i64 r, .int .i64 q] 31) (.cells #[.int .i64 cr, .int .i64 cq, .int .i64 k, .int .i64 m, .int .i64 n, .string t] 36) (.cells #[.int .i64 0, .int .i64 0, .int .i64 0, .int .i64 0, .int .i64 0, .int .i64 0, .int .i64 0, .int .i64 0, .int .i64 0, .string ⟨#[]⟩] 38)
  have HQ : Hid (∀ W, Below w3.heap.size w3 W → W.heap[w.heap.size]? = some (.cells #[.int .i64 r, .int .i64 q] 31 (0, 0)) ∧ W.heap[w.heap.size + 1]? = some (.cells #[.int .i64 cr, .int .i64 cq, .int .i64 k, .int .i64 m, .int .i64 n, .string t] 36 (0, 0)) ∧ W.heap[w.heap.size + 2]? = some (.cells #[.int .i64 0, .int .i64 0, .int .i64 0, .int .i64 0, .int .i64 0, .int .i64 0, .int .i64 0, .int .i64 0, .int .i64 0, .string ⟨#[]⟩] 38 (0, 0))) := Lib.hid fun W hb =>
    ⟨(hb.block _ (by omega)).trans k0, (hb.block _ (by omega)).trans k1, (hb.block _ (by omega)).trans k2⟩
  have HB3 := Lib.hid hb3
  have HBr : Hid (Below w3.heap.size w3 w3) := Lib.hid (Below.refl _ w3)
  obtain ⟨⟨b0, b1⟩, _⟩ := two (HQ.out _ HBr.out).1; obtain ⟨⟨a0, a1, a2, a3, a4, a5⟩, _⟩ := six (HQ.out _ HBr.out).2.1; obtain ⟨⟨d0, d1, d2, d3, d4, d5, d6, d7, d8, d9⟩, ⟨f0, f1, f2, f3, f4, f5, f6, f7, f8, f9⟩⟩ := ten (HQ.out _ HBr.out).2.2
  clear k0 k1 k2 hb3
  have H24 : Hid (∀ W, Calls Tryz.prog 24 #[.int .i64 c] W fun e w' => e = .returned (.bool true) ∧ W = w') := Lib.hid fun W => by
    have h := Right_any c W
    rw [hc] at h
    exact h
  have H25 : Hid (∀ W, Calls Tryz.prog 25 #[.int .i64 s] W fun e w' => e = .returned (.bool true) ∧ W = w') := Lib.hid fun W => by
    have h := rSlot_any s W
    rw [hs] at h
    exact h
  have HM1 : Hid (∀ W, Calls Tryz.prog 40 #[.int .i64 c, .int .i64 s, .agg #[.int .i64 r, .int .i64 q]] W fun e w' => e = .returned (.bool true) ∧ Below W.heap.size W w') := Lib.hid fun W => by
    have h := rMay_any c s r q W
    rw [hm] at h
    exact h
  have h27 := fun W => None27 W
  have heq : ∀ W, (binOp .eql 31 (.agg #[.int .i64 cr, .int .i64 cq]) (.agg #[.int .i64 (-1), .int .i64 0])).run Tryz.prog W = .ok (.bool true) W := fun W => by
    rw [eql31]; rw [decide_eq_true hn]
  have hne : ∀ W, (binOp .neq 34 (.agg #[.int .i64 k, .int .i64 m, .int .i64 n, .string t]) (.agg #[.int .i64 0, .int .i64 0, .int .i64 0, .string ⟨#[]⟩])).run Tryz.prog W = .ok (.bool false) W := fun W => by
    rw [neq34]; rw [decide_eq_true he]; rfl
  have gne : ∀ (w : World) (x y : Operand), (eqGuard .neq 34 x y (.agg #[.int .i64 k, .int .i64 m, .int .i64 n, .string t]) (.agg #[.int .i64 0, .int .i64 0, .int .i64 0, .string ⟨#[]⟩])).run Tryz.prog w = .ok () w := fun w x y => run_eqGuard_agg w .neq 34 x y _ _ (by kernel_rfl)
  clear he
  clear hc hs hm hn
  go_enter Tryz.func21, Tryz.ntmps21
  go_upto_region 6 with (first | (go_at_call 24; (with_reducible refine (H24.out _).mono ?_); rintro e w' ⟨rfl, rfl⟩) | (go_at_call 25; (with_reducible refine (H25.out _).mono ?_); rintro e w' ⟨rfl, rfl⟩) | (go_at_call 40; (with_reducible refine (HM1.out _).mono ?_); rintro e w4 ⟨rfl, hb⟩; have HB4 := Lib.hid (HBr.out.trans (hb.mono HBr.out.size)); clear hb b0 b1 a0 a1 a2 a3 a4 a5 d0 d1 d2 d3 d4 d5 d6 d7 d8 d9 f0 f1 f2 f3 f4 f5 f6 f7 f8 f9; obtain ⟨⟨b0, b1⟩, _⟩ := two (HQ.out _ HB4.out).1; obtain ⟨⟨a0, a1, a2, a3, a4, a5⟩, _⟩ := six (HQ.out _ HB4.out).2.1; obtain ⟨⟨d0, d1, d2, d3, d4, d5, d6, d7, d8, d9⟩, ⟨f0, f1, f2, f3, f4, f5, f6, f7, f8, f9⟩⟩ := ten (HQ.out _ HB4.out).2.2))
  have HS4 : Hid (∀ W, Below w4.heap.size w4 W → W.cell? ⟨w.heap.size + 1, 0, none⟩ = some (.int .i64 cr) ∧ W.cell? ⟨w.heap.size + 1, 1, none⟩ = some (.int .i64 cq) ∧ W.cell? ⟨w.heap.size + 1, 2, none⟩ = some (.int .i64 k) ∧ W.cell? ⟨w.heap.size + 1, 3, none⟩ = some (.int .i64 m) ∧ W.cell? ⟨w.heap.size + 1, 4, none⟩ = some (.int .i64 n) ∧ W.cell? ⟨w.heap.size + 1, 5, none⟩ = some (.string t)) := Lib.hid fun W hb => (six (HQ.out _ (HB4.out.trans (hb.mono HB4.out.size))).2.1).1
  have z0 := HS4.out _ (Below.refl _ w4)
  have hS0 : (fun W => W.cell? ⟨w.heap.size + 1, 0, none⟩ = some (.int .i64 cr) ∧ W.cell? ⟨w.heap.size + 1, 1, none⟩ = some (.int .i64 cq) ∧ W.cell? ⟨w.heap.size + 1, 2, none⟩ = some (.int .i64 k) ∧ W.cell? ⟨w.heap.size + 1, 3, none⟩ = some (.int .i64 m) ∧ W.cell? ⟨w.heap.size + 1, 4, none⟩ = some (.int .i64 n) ∧ W.cell? ⟨w.heap.size + 1, 5, none⟩ = some (.string t)) w4.drew := z0
  refine wp_region_held_drew (S := fun W => W.cell? ⟨w.heap.size + 1, 0, none⟩ = some (.int .i64 cr) ∧ W.cell? ⟨w.heap.size + 1, 1, none⟩ = some (.int .i64 cq) ∧ W.cell? ⟨w.heap.size + 1, 2, none⟩ = some (.int .i64 k) ∧ W.cell? ⟨w.heap.size + 1, 3, none⟩ = some (.int .i64 m) ∧ W.cell? ⟨w.heap.size + 1, 4, none⟩ = some (.int .i64 n) ∧ W.cell? ⟨w.heap.size + 1, 5, none⟩ = some (.string t)) rfl hS0 (fun hHeld => ?_)
  simp only [List.size_toArray, List.length_cons, List.length_nil, Nat.reduceAdd]
  have HB0 : Hid (Below w4.heap.size w4 w4.drew) := Lib.hid (Below.refl _ _).drew
  obtain ⟨V0, hV0⟩ : ∃ V, w4.drew = V := ⟨_, rfl⟩
  rw [hV0] at hHeld hS0 HB0 ⊢
  clear hV0
  refine wpAnyH_take (i := 0) (v := .pointer (some ⟨w.heap.size + 1, 0, none⟩)) rfl (by kernel_rfl) (by kernel_rfl) (by kernel_rfl) (fun _ _ _ h => h) (Or.inl ⟨by rfl, ?_⟩) (by assumption) ?_
  · intro wx hs1; go_simp
  (try simp only [Act.put, List.getElem_toArray, List.getElem_cons_zero, List.setIfInBounds_toArray, List.set_cons_zero, List.set_cons_succ])
  refine wpAnyH_take (i := 1) (v := .agg #[.int .i64 cr, .int .i64 cq]) rfl (by kernel_rfl) (by kernel_rfl) (by kernel_rfl) (fun _ _ _ h => h) (Or.inl ⟨by rfl, ?_⟩) (by assumption) ?_
  · intro wx hs1; obtain ⟨s0, s1, _⟩ := hs1; go_simp
  (try simp only [Act.put, List.getElem_toArray, List.getElem_cons_succ, List.getElem_cons_zero, List.setIfInBounds_toArray, List.set_cons_zero, List.set_cons_succ])
  refine wpAnyH_ready (rs := [2]) (by kernel_rfl) (by simp) (AllReadyH.cons rfl (fun K hK => ?_) AllReadyH.nil)
  go_simp
  go_at_call 27
  (with_reducible refine (h27 _).mono ?_)
  rintro e w5 ⟨rfl, hb⟩
  try dsimp only
  have HB5x : Hid (Below w4.heap.size w4 w5) := Lib.hid (HB0.out.trans (hb.mono HB0.out.size)); clear hb; have hS := HS4.out _ HB5x.out
  refine hK.out _ _ hS (fun _ => ?_)
  clear hK K
  (try simp only [Act.put, List.getElem_toArray, List.getElem_cons_succ, List.getElem_cons_zero, List.setIfInBounds_toArray, List.set_cons_zero, List.set_cons_succ])
  refine wpAnyH_take (i := 3) (v := .bool true) rfl (by kernel_rfl) (by kernel_rfl) (by kernel_rfl) (fun _ _ _ h => h) (Or.inl ⟨by rfl, ?_⟩) (by assumption) ?_
  · intro wx hs1; clear hs1; have e3 := heq wx; go_simp
  (try simp only [Act.put, List.getElem_toArray, List.getElem_cons_succ, List.getElem_cons_zero, List.setIfInBounds_toArray, List.set_cons_zero, List.set_cons_succ])
  refine wpAnyH_done (by kernel_rfl) ?_ _
  have HB5 := Lib.hid (HB4.out.trans (HB5x.out.mono HB4.out.size))
  clear z0 b0 b1 a0 a1 a2 a3 a4 a5 d0 d1 d2 d3 d4 d5 d6 d7 d8 d9 f0 f1 f2 f3 f4 f5 f6 f7 f8 f9
  obtain ⟨⟨b0, b1⟩, _⟩ := two (HQ.out _ HB5.out).1; obtain ⟨⟨a0, a1, a2, a3, a4, a5⟩, _⟩ := six (HQ.out _ HB5.out).2.1; obtain ⟨⟨d0, d1, d2, d3, d4, d5, d6, d7, d8, d9⟩, ⟨f0, f1, f2, f3, f4, f5, f6, f7, f8, f9⟩⟩ := ten (HQ.out _ HB5.out).2.2
  go_wp2
  have ht0 := set10 (HQ.out _ HB5.out).2.2 (.int .i64 c) (.int .i64 s) (.int .i64 r) (.int .i64 q) (.int .i64 cr) (.int .i64 cq) (.int .i64 k) (.int .i64 m) (.int .i64 n) (.string t)
  obtain ⟨⟨z0, z1, z2, z3, z4, z5, z6, z7, z8, z9⟩, _⟩ := ten ht0
  clear b0 b1 a0 a1 a2 a3 a4 a5 d0 d1 d2 d3 d4 d5 d6 d7 d8 d9 f0 f1 f2 f3 f4 f5 f6 f7 f8 f9 ht0
  refine bodyPost_ret (v := .tuple #[.agg #[.int .i64 c, .int .i64 s, .int .i64 r, .int .i64 q, .int .i64 cr, .int .i64 cq, .int .i64 k, .int .i64 m, .int .i64 n, .string t], .int .i64 0]) (by simp only [results, Tryz.results21]; simp [go_sem, z0, z1, z2, z3, z4, z5, z6, z7, z8, z9]) rfl ⟨rfl, ?_⟩
  exact bset10 (HB3.out.trans (HB5.out.mono HB3.out.size)) (by omega) (.int .i64 c) (.int .i64 s) (.int .i64 r) (.int .i64 q) (.int .i64 cr) (.int .i64 cq) (.int .i64 k) (.int .i64 m) (.int .i64 n) (.string t)
set_option maxRecDepth 100000 in
set_option maxHeartbeats 2000000 in
theorem Sm.rOf_bad1 (c s r q cr cq k m n : Int) (t : ByteArray) (w : World) (hc : chB c = true) (hs : slB s = true) (hm : mayB c s r q = true) (hn : ¬ (cr = -1 ∧ cq = 0)) (hm2 : mayB c s cr cq = false) : Calls Tryz.prog 21 #[.int .i64 c, .int .i64 s, .agg #[.int .i64 r, .int .i64 q], .agg #[.int .i64 cr, .int .i64 cq, .int .i64 k, .int .i64 m, .int .i64 n, .string t]] w fun e w' => e = .returned (.tuple #[.agg #[.int .i64 0, .int .i64 0, .int .i64 0, .int .i64 0, .int .i64 0, .int .i64 0, .int .i64 0, .int .i64 0, .int .i64 0, .string ⟨#[]⟩], .int .i64 2]) ∧ Below w.heap.size w w' := by
  obtain ⟨w3, hw3, k0, k1, k2, hb3, hz3⟩ := three_new w (.cells #[.int .i64 r, .int .i64 q] 31) (.cells #[.int .i64 cr, .int .i64 cq, .int .i64 k, .int .i64 m, .int .i64 n, .string t] 36) (.cells #[.int .i64 0, .int .i64 0, .int .i64 0, .int .i64 0, .int .i64 0, .int .i64 0, .int .i64 0, .int .i64 0, .int .i64 0, .string ⟨#[]⟩] 38)
  have HQ : Hid (∀ W, Below w3.heap.size w3 W → W.heap[w.heap.size]? = some (.cells #[.int .i64 r, .int .i64 q] 31 (0, 0)) ∧ W.heap[w.heap.size + 1]? = some (.cells #[.int .i64 cr, .int .i64 cq, .int .i64 k, .int .i64 m, .int .i64 n, .string t] 36 (0, 0)) ∧ W.heap[w.heap.size + 2]? = some (.cells #[.int .i64 0, .int .i64 0, .int .i64 0, .int .i64 0, .int .i64 0, .int .i64 0, .int .i64 0, .int .i64 0, .int .i64 0, .string ⟨#[]⟩] 38 (0, 0))) := Lib.hid fun W hb =>
    ⟨(hb.block _ (by omega)).trans k0, (hb.block _ (by omega)).trans k1, (hb.block _ (by omega)).trans k2⟩
  have HB3 := Lib.hid hb3
  have HBr : Hid (Below w3.heap.size w3 w3) := Lib.hid (Below.refl _ w3)
  obtain ⟨⟨b0, b1⟩, _⟩ := two (HQ.out _ HBr.out).1; obtain ⟨⟨a0, a1, a2, a3, a4, a5⟩, _⟩ := six (HQ.out _ HBr.out).2.1; obtain ⟨⟨d0, d1, d2, d3, d4, d5, d6, d7, d8, d9⟩, ⟨f0, f1, f2, f3, f4, f5, f6, f7, f8, f9⟩⟩ := ten (HQ.out _ HBr.out).2.2
  clear k0 k1 k2 hb3
  have H24 : Hid (∀ W, Calls Tryz.prog 24 #[.int .i64 c] W fun e w' => e = .returned (.bool true) ∧ W = w') := Lib.hid fun W => by
    have h := Right_any c W
    rw [hc] at h
    exact h
  have H25 : Hid (∀ W, Calls Tryz.prog 25 #[.int .i64 s] W fun e w' => e = .returned (.bool true) ∧ W = w') := Lib.hid fun W => by
    have h := rSlot_any s W
    rw [hs] at h
    exact h
  have HM1 : Hid (∀ W, Calls Tryz.prog 40 #[.int .i64 c, .int .i64 s, .agg #[.int .i64 r, .int .i64 q]] W fun e w' => e = .returned (.bool true) ∧ Below W.heap.size W w') := Lib.hid fun W => by
    have h := rMay_any c s r q W
    rw [hm] at h
    exact h
  have h27 := fun W => None27 W
  have heq : ∀ W, (binOp .eql 31 (.agg #[.int .i64 cr, .int .i64 cq]) (.agg #[.int .i64 (-1), .int .i64 0])).run Tryz.prog W = .ok (.bool false) W := fun W => by
    rw [eql31]; rw [decide_eq_false hn]
  have HM2 : Hid (∀ W, Calls Tryz.prog 40 #[.int .i64 c, .int .i64 s, .agg #[.int .i64 cr, .int .i64 cq]] W fun e w' => e = .returned (.bool false) ∧ Below W.heap.size W w') := Lib.hid fun W => by
    have h := rMay_any c s cr cq W
    rw [hm2] at h
    exact h
  clear hc hs hm hn
  go_enter Tryz.func21, Tryz.ntmps21
  go_upto_region 6 with (first | (go_at_call 24; (with_reducible refine (H24.out _).mono ?_); rintro e w' ⟨rfl, rfl⟩) | (go_at_call 25; (with_reducible refine (H25.out _).mono ?_); rintro e w' ⟨rfl, rfl⟩) | (go_at_call 40; (with_reducible refine (HM1.out _).mono ?_); rintro e w4 ⟨rfl, hb⟩; have HB4 := Lib.hid (HBr.out.trans (hb.mono HBr.out.size)); clear hb b0 b1 a0 a1 a2 a3 a4 a5 d0 d1 d2 d3 d4 d5 d6 d7 d8 d9 f0 f1 f2 f3 f4 f5 f6 f7 f8 f9; obtain ⟨⟨b0, b1⟩, _⟩ := two (HQ.out _ HB4.out).1; obtain ⟨⟨a0, a1, a2, a3, a4, a5⟩, _⟩ := six (HQ.out _ HB4.out).2.1; obtain ⟨⟨d0, d1, d2, d3, d4, d5, d6, d7, d8, d9⟩, ⟨f0, f1, f2, f3, f4, f5, f6, f7, f8, f9⟩⟩ := ten (HQ.out _ HB4.out).2.2))
  have HS4 : Hid (∀ W, Below w4.heap.size w4 W → W.cell? ⟨w.heap.size + 1, 0, none⟩ = some (.int .i64 cr) ∧ W.cell? ⟨w.heap.size + 1, 1, none⟩ = some (.int .i64 cq) ∧ W.cell? ⟨w.heap.size + 1, 2, none⟩ = some (.int .i64 k) ∧ W.cell? ⟨w.heap.size + 1, 3, none⟩ = some (.int .i64 m) ∧ W.cell? ⟨w.heap.size + 1, 4, none⟩ = some (.int .i64 n) ∧ W.cell? ⟨w.heap.size + 1, 5, none⟩ = some (.string t)) := Lib.hid fun W hb => (six (HQ.out _ (HB4.out.trans (hb.mono HB4.out.size))).2.1).1
  have z0 := HS4.out _ (Below.refl _ w4)
  have hS0 : (fun W => W.cell? ⟨w.heap.size + 1, 0, none⟩ = some (.int .i64 cr) ∧ W.cell? ⟨w.heap.size + 1, 1, none⟩ = some (.int .i64 cq) ∧ W.cell? ⟨w.heap.size + 1, 2, none⟩ = some (.int .i64 k) ∧ W.cell? ⟨w.heap.size + 1, 3, none⟩ = some (.int .i64 m) ∧ W.cell? ⟨w.heap.size + 1, 4, none⟩ = some (.int .i64 n) ∧ W.cell? ⟨w.heap.size + 1, 5, none⟩ = some (.string t)) w4.drew := z0
  refine wp_region_held_drew (S := fun W => W.cell? ⟨w.heap.size + 1, 0, none⟩ = some (.int .i64 cr) ∧ W.cell? ⟨w.heap.size + 1, 1, none⟩ = some (.int .i64 cq) ∧ W.cell? ⟨w.heap.size + 1, 2, none⟩ = some (.int .i64 k) ∧ W.cell? ⟨w.heap.size + 1, 3, none⟩ = some (.int .i64 m) ∧ W.cell? ⟨w.heap.size + 1, 4, none⟩ = some (.int .i64 n) ∧ W.cell? ⟨w.heap.size + 1, 5, none⟩ = some (.string t)) rfl hS0 (fun hHeld => ?_)
  simp only [List.size_toArray, List.length_cons, List.length_nil, Nat.reduceAdd]
  have HB0 : Hid (Below w4.heap.size w4 w4.drew) := Lib.hid (Below.refl _ _).drew
  obtain ⟨V0, hV0⟩ : ∃ V, w4.drew = V := ⟨_, rfl⟩
  rw [hV0] at hHeld hS0 HB0 ⊢
  clear hV0
  refine wpAnyH_take (i := 0) (v := .pointer (some ⟨w.heap.size + 1, 0, none⟩)) rfl (by kernel_rfl) (by kernel_rfl) (by kernel_rfl) (fun _ _ _ h => h) (Or.inl ⟨by rfl, ?_⟩) (by assumption) ?_
  · intro wx hs1; go_simp
  (try simp only [Act.put, List.getElem_toArray, List.getElem_cons_zero, List.setIfInBounds_toArray, List.set_cons_zero, List.set_cons_succ])
  refine wpAnyH_take (i := 1) (v := .agg #[.int .i64 cr, .int .i64 cq]) rfl (by kernel_rfl) (by kernel_rfl) (by kernel_rfl) (fun _ _ _ h => h) (Or.inl ⟨by rfl, ?_⟩) (by assumption) ?_
  · intro wx hs1; obtain ⟨s0, s1, _⟩ := hs1; go_simp
  (try simp only [Act.put, List.getElem_toArray, List.getElem_cons_succ, List.getElem_cons_zero, List.setIfInBounds_toArray, List.set_cons_zero, List.set_cons_succ])
  refine wpAnyH_ready (rs := [2]) (by kernel_rfl) (by simp) (AllReadyH.cons rfl (fun K hK => ?_) AllReadyH.nil)
  go_simp
  go_at_call 27
  (with_reducible refine (h27 _).mono ?_)
  rintro e w5 ⟨rfl, hb⟩
  try dsimp only
  have HB5x : Hid (Below w4.heap.size w4 w5) := Lib.hid (HB0.out.trans (hb.mono HB0.out.size)); clear hb; have hS := HS4.out _ HB5x.out
  refine hK.out _ _ hS (fun _ => ?_)
  clear hK K
  (try simp only [Act.put, List.getElem_toArray, List.getElem_cons_succ, List.getElem_cons_zero, List.setIfInBounds_toArray, List.set_cons_zero, List.set_cons_succ])
  refine wpAnyH_take (i := 3) (v := .bool false) rfl (by kernel_rfl) (by kernel_rfl) (by kernel_rfl) (fun _ _ _ h => h) (Or.inl ⟨by rfl, ?_⟩) (by assumption) ?_
  · intro wx hs1; clear hs1; have e3 := heq wx; go_simp
  (try simp only [Act.put, List.getElem_toArray, List.getElem_cons_succ, List.getElem_cons_zero, List.setIfInBounds_toArray, List.set_cons_zero, List.set_cons_succ])
  refine wpAnyH_done (by kernel_rfl) ?_ _
  have HB5 := Lib.hid (HB4.out.trans (HB5x.out.mono HB4.out.size))
  clear z0 b0 b1 a0 a1 a2 a3 a4 a5 d0 d1 d2 d3 d4 d5 d6 d7 d8 d9 f0 f1 f2 f3 f4 f5 f6 f7 f8 f9
  obtain ⟨⟨b0, b1⟩, _⟩ := two (HQ.out _ HB5.out).1; obtain ⟨⟨a0, a1, a2, a3, a4, a5⟩, _⟩ := six (HQ.out _ HB5.out).2.1; obtain ⟨⟨d0, d1, d2, d3, d4, d5, d6, d7, d8, d9⟩, ⟨f0, f1, f2, f3, f4, f5, f6, f7, f8, f9⟩⟩ := ten (HQ.out _ HB5.out).2.2
  go_wp2_with (go_at_call 40; (with_reducible refine (HM2.out _).mono ?_); rintro e w6 ⟨rfl, hb⟩; have HB6 := Lib.hid (HB5.out.trans (hb.mono HB5.out.size)); clear hb b0 b1 a0 a1 a2 a3 a4 a5 d0 d1 d2 d3 d4 d5 d6 d7 d8 d9 f0 f1 f2 f3 f4 f5 f6 f7 f8 f9; obtain ⟨⟨b0, b1⟩, _⟩ := two (HQ.out _ HB6.out).1; obtain ⟨⟨a0, a1, a2, a3, a4, a5⟩, _⟩ := six (HQ.out _ HB6.out).2.1; obtain ⟨⟨d0, d1, d2, d3, d4, d5, d6, d7, d8, d9⟩, ⟨f0, f1, f2, f3, f4, f5, f6, f7, f8, f9⟩⟩ := ten (HQ.out _ HB6.out).2.2)
  have ht0 := set10 (HQ.out _ HB6.out).2.2 (.int .i64 0) (.int .i64 0) (.int .i64 0) (.int .i64 0) (.int .i64 0) (.int .i64 0) (.int .i64 0) (.int .i64 0) (.int .i64 0) (.string ⟨#[]⟩)
  obtain ⟨⟨z0, z1, z2, z3, z4, z5, z6, z7, z8, z9⟩, _⟩ := ten ht0
  clear b0 b1 a0 a1 a2 a3 a4 a5 d0 d1 d2 d3 d4 d5 d6 d7 d8 d9 f0 f1 f2 f3 f4 f5 f6 f7 f8 f9 ht0
  refine bodyPost_ret (v := .tuple #[.agg #[.int .i64 0, .int .i64 0, .int .i64 0, .int .i64 0, .int .i64 0, .int .i64 0, .int .i64 0, .int .i64 0, .int .i64 0, .string ⟨#[]⟩], .int .i64 2]) (by simp only [results, Tryz.results21]; simp [go_sem, z0, z1, z2, z3, z4, z5, z6, z7, z8, z9]) rfl ⟨rfl, ?_⟩
  exact bset10 (HB3.out.trans (HB6.out.mono HB3.out.size)) (by omega) (.int .i64 0) (.int .i64 0) (.int .i64 0) (.int .i64 0) (.int .i64 0) (.int .i64 0) (.int .i64 0) (.int .i64 0) (.int .i64 0) (.string ⟨#[]⟩)
set_option maxRecDepth 100000 in
set_option maxHeartbeats 2000000 in
theorem Sm.rOf_bad2 (c s r q cr cq k m n : Int) (t : ByteArray) (w : World) (hc : chB c = true) (hs : slB s = true) (hm : mayB c s r q = true) (hn : ¬ (cr = -1 ∧ cq = 0)) (hm2 : mayB c s cr cq = true) (ht : t.size ≤ 1000000) (he : entB k m n t = false) : Calls Tryz.prog 21 #[.int .i64 c, .int .i64 s, .agg #[.int .i64 r, .int .i64 q], .agg #[.int .i64 cr, .int .i64 cq, .int .i64 k, .int .i64 m, .int .i64 n, .string t]] w fun e w' => e = .returned (.tuple #[.agg #[.int .i64 0, .int .i64 0, .int .i64 0, .int .i64 0, .int .i64 0, .int .i64 0, .int .i64 0, .int .i64 0, .int .i64 0, .string ⟨#[]⟩], .int .i64 2]) ∧ Below w.heap.size w w' := by
  obtain ⟨w3, hw3, k0, k1, k2, hb3, hz3⟩ := three_new w (.cells #[.int .i64 r, .int .i64 q] 31) (.cells #[.int .i64 cr, .int .i64 cq, .int .i64 k, .int .i64 m, .int .i64 n, .string t] 36) (.cells #[.int .i64 0, .int .i64 0, .int .i64 0, .int .i64 0, .int .i64 0, .int .i64 0, .int .i64 0, .int .i64 0, .int .i64 0, .string ⟨#[]⟩] 38)
  have HQ : Hid (∀ W, Below w3.heap.size w3 W → W.heap[w.heap.size]? = some (.cells #[.int .i64 r, .int .i64 q] 31 (0, 0)) ∧ W.heap[w.heap.size + 1]? = some (.cells #[.int .i64 cr, .int .i64 cq, .int .i64 k, .int .i64 m, .int .i64 n, .string t] 36 (0, 0)) ∧ W.heap[w.heap.size + 2]? = some (.cells #[.int .i64 0, .int .i64 0, .int .i64 0, .int .i64 0, .int .i64 0, .int .i64 0, .int .i64 0, .int .i64 0, .int .i64 0, .string ⟨#[]⟩] 38 (0, 0))) := Lib.hid fun W hb =>
    ⟨(hb.block _ (by omega)).trans k0, (hb.block _ (by omega)).trans k1, (hb.block _ (by omega)).trans k2⟩
  have HB3 := Lib.hid hb3
  have HBr : Hid (Below w3.heap.size w3 w3) := Lib.hid (Below.refl _ w3)
  obtain ⟨⟨b0, b1⟩, _⟩ := two (HQ.out _ HBr.out).1; obtain ⟨⟨a0, a1, a2, a3, a4, a5⟩, _⟩ := six (HQ.out _ HBr.out).2.1; obtain ⟨⟨d0, d1, d2, d3, d4, d5, d6, d7, d8, d9⟩, ⟨f0, f1, f2, f3, f4, f5, f6, f7, f8, f9⟩⟩ := ten (HQ.out _ HBr.out).2.2
  clear k0 k1 k2 hb3
  have H24 : Hid (∀ W, Calls Tryz.prog 24 #[.int .i64 c] W fun e w' => e = .returned (.bool true) ∧ W = w') := Lib.hid fun W => by
    have h := Right_any c W
    rw [hc] at h
    exact h
  have H25 : Hid (∀ W, Calls Tryz.prog 25 #[.int .i64 s] W fun e w' => e = .returned (.bool true) ∧ W = w') := Lib.hid fun W => by
    have h := rSlot_any s W
    rw [hs] at h
    exact h
  have HM1 : Hid (∀ W, Calls Tryz.prog 40 #[.int .i64 c, .int .i64 s, .agg #[.int .i64 r, .int .i64 q]] W fun e w' => e = .returned (.bool true) ∧ Below W.heap.size W w') := Lib.hid fun W => by
    have h := rMay_any c s r q W
    rw [hm] at h
    exact h
  have h27 := fun W => None27 W
  have heq : ∀ W, (binOp .eql 31 (.agg #[.int .i64 cr, .int .i64 cq]) (.agg #[.int .i64 (-1), .int .i64 0])).run Tryz.prog W = .ok (.bool false) W := fun W => by
    rw [eql31]; rw [decide_eq_false hn]
  have HM2 : Hid (∀ W, Calls Tryz.prog 40 #[.int .i64 c, .int .i64 s, .agg #[.int .i64 cr, .int .i64 cq]] W fun e w' => e = .returned (.bool true) ∧ Below W.heap.size W w') := Lib.hid fun W => by
    have h := rMay_any c s cr cq W
    rw [hm2] at h
    exact h
  have HE : Hid (∀ W, Calls Tryz.prog 41 #[.agg #[.int .i64 k, .int .i64 m, .int .i64 n, .string t]] W fun e w' => e = .returned (.bool false) ∧ Below W.heap.size W w') := Lib.hid fun W => by
    have h := entry_any k m n t W ht
    rw [he] at h
    exact h
  clear hc hs hm hn
  go_enter Tryz.func21, Tryz.ntmps21
  go_upto_region 6 with (first | (go_at_call 24; (with_reducible refine (H24.out _).mono ?_); rintro e w' ⟨rfl, rfl⟩) | (go_at_call 25; (with_reducible refine (H25.out _).mono ?_); rintro e w' ⟨rfl, rfl⟩) | (go_at_call 40; (with_reducible refine (HM1.out _).mono ?_); rintro e w4 ⟨rfl, hb⟩; have HB4 := Lib.hid (HBr.out.trans (hb.mono HBr.out.size)); clear hb b0 b1 a0 a1 a2 a3 a4 a5 d0 d1 d2 d3 d4 d5 d6 d7 d8 d9 f0 f1 f2 f3 f4 f5 f6 f7 f8 f9; obtain ⟨⟨b0, b1⟩, _⟩ := two (HQ.out _ HB4.out).1; obtain ⟨⟨a0, a1, a2, a3, a4, a5⟩, _⟩ := six (HQ.out _ HB4.out).2.1; obtain ⟨⟨d0, d1, d2, d3, d4, d5, d6, d7, d8, d9⟩, ⟨f0, f1, f2, f3, f4, f5, f6, f7, f8, f9⟩⟩ := ten (HQ.out _ HB4.out).2.2))
  have HS4 : Hid (∀ W, Below w4.heap.size w4 W → W.cell? ⟨w.heap.size + 1, 0, none⟩ = some (.int .i64 cr) ∧ W.cell? ⟨w.heap.size + 1, 1, none⟩ = some (.int .i64 cq) ∧ W.cell? ⟨w.heap.size + 1, 2, none⟩ = some (.int .i64 k) ∧ W.cell? ⟨w.heap.size + 1, 3, none⟩ = some (.int .i64 m) ∧ W.cell? ⟨w.heap.size + 1, 4, none⟩ = some (.int .i64 n) ∧ W.cell? ⟨w.heap.size + 1, 5, none⟩ = some (.string t)) := Lib.hid fun W hb => (six (HQ.out _ (HB4.out.trans (hb.mono HB4.out.size))).2.1).1
  have z0 := HS4.out _ (Below.refl _ w4)
  have hS0 : (fun W => W.cell? ⟨w.heap.size + 1, 0, none⟩ = some (.int .i64 cr) ∧ W.cell? ⟨w.heap.size + 1, 1, none⟩ = some (.int .i64 cq) ∧ W.cell? ⟨w.heap.size + 1, 2, none⟩ = some (.int .i64 k) ∧ W.cell? ⟨w.heap.size + 1, 3, none⟩ = some (.int .i64 m) ∧ W.cell? ⟨w.heap.size + 1, 4, none⟩ = some (.int .i64 n) ∧ W.cell? ⟨w.heap.size + 1, 5, none⟩ = some (.string t)) w4.drew := z0
  refine wp_region_held_drew (S := fun W => W.cell? ⟨w.heap.size + 1, 0, none⟩ = some (.int .i64 cr) ∧ W.cell? ⟨w.heap.size + 1, 1, none⟩ = some (.int .i64 cq) ∧ W.cell? ⟨w.heap.size + 1, 2, none⟩ = some (.int .i64 k) ∧ W.cell? ⟨w.heap.size + 1, 3, none⟩ = some (.int .i64 m) ∧ W.cell? ⟨w.heap.size + 1, 4, none⟩ = some (.int .i64 n) ∧ W.cell? ⟨w.heap.size + 1, 5, none⟩ = some (.string t)) rfl hS0 (fun hHeld => ?_)
  simp only [List.size_toArray, List.length_cons, List.length_nil, Nat.reduceAdd]
  have HB0 : Hid (Below w4.heap.size w4 w4.drew) := Lib.hid (Below.refl _ _).drew
  obtain ⟨V0, hV0⟩ : ∃ V, w4.drew = V := ⟨_, rfl⟩
  rw [hV0] at hHeld hS0 HB0 ⊢
  clear hV0
  refine wpAnyH_take (i := 0) (v := .pointer (some ⟨w.heap.size + 1, 0, none⟩)) rfl (by kernel_rfl) (by kernel_rfl) (by kernel_rfl) (fun _ _ _ h => h) (Or.inl ⟨by rfl, ?_⟩) (by assumption) ?_
  · intro wx hs1; go_simp
  (try simp only [Act.put, List.getElem_toArray, List.getElem_cons_zero, List.setIfInBounds_toArray, List.set_cons_zero, List.set_cons_succ])
  refine wpAnyH_take (i := 1) (v := .agg #[.int .i64 cr, .int .i64 cq]) rfl (by kernel_rfl) (by kernel_rfl) (by kernel_rfl) (fun _ _ _ h => h) (Or.inl ⟨by rfl, ?_⟩) (by assumption) ?_
  · intro wx hs1; obtain ⟨s0, s1, _⟩ := hs1; go_simp
  (try simp only [Act.put, List.getElem_toArray, List.getElem_cons_succ, List.getElem_cons_zero, List.setIfInBounds_toArray, List.set_cons_zero, List.set_cons_succ])
  refine wpAnyH_ready (rs := [2]) (by kernel_rfl) (by simp) (AllReadyH.cons rfl (fun K hK => ?_) AllReadyH.nil)
  go_simp
  go_at_call 27
  (with_reducible refine (h27 _).mono ?_)
  rintro e w5 ⟨rfl, hb⟩
  try dsimp only
  have HB5x : Hid (Below w4.heap.size w4 w5) := Lib.hid (HB0.out.trans (hb.mono HB0.out.size)); clear hb; have hS := HS4.out _ HB5x.out
  refine hK.out _ _ hS (fun _ => ?_)
  clear hK K
  (try simp only [Act.put, List.getElem_toArray, List.getElem_cons_succ, List.getElem_cons_zero, List.setIfInBounds_toArray, List.set_cons_zero, List.set_cons_succ])
  refine wpAnyH_take (i := 3) (v := .bool false) rfl (by kernel_rfl) (by kernel_rfl) (by kernel_rfl) (fun _ _ _ h => h) (Or.inl ⟨by rfl, ?_⟩) (by assumption) ?_
  · intro wx hs1; clear hs1; have e3 := heq wx; go_simp
  (try simp only [Act.put, List.getElem_toArray, List.getElem_cons_succ, List.getElem_cons_zero, List.setIfInBounds_toArray, List.set_cons_zero, List.set_cons_succ])
  refine wpAnyH_done (by kernel_rfl) ?_ _
  have HB5 := Lib.hid (HB4.out.trans (HB5x.out.mono HB4.out.size))
  clear z0 b0 b1 a0 a1 a2 a3 a4 a5 d0 d1 d2 d3 d4 d5 d6 d7 d8 d9 f0 f1 f2 f3 f4 f5 f6 f7 f8 f9
  obtain ⟨⟨b0, b1⟩, _⟩ := two (HQ.out _ HB5.out).1; obtain ⟨⟨a0, a1, a2, a3, a4, a5⟩, _⟩ := six (HQ.out _ HB5.out).2.1; obtain ⟨⟨d0, d1, d2, d3, d4, d5, d6, d7, d8, d9⟩, ⟨f0, f1, f2, f3, f4, f5, f6, f7, f8, f9⟩⟩ := ten (HQ.out _ HB5.out).2.2
  go_wp2_with (first | (go_at_call 40; (with_reducible refine (HM2.out _).mono ?_); rintro e w6 ⟨rfl, hb⟩; have HB6 := Lib.hid (HB5.out.trans (hb.mono HB5.out.size)); clear hb b0 b1 a0 a1 a2 a3 a4 a5 d0 d1 d2 d3 d4 d5 d6 d7 d8 d9 f0 f1 f2 f3 f4 f5 f6 f7 f8 f9; obtain ⟨⟨b0, b1⟩, _⟩ := two (HQ.out _ HB6.out).1; obtain ⟨⟨a0, a1, a2, a3, a4, a5⟩, _⟩ := six (HQ.out _ HB6.out).2.1; obtain ⟨⟨d0, d1, d2, d3, d4, d5, d6, d7, d8, d9⟩, ⟨f0, f1, f2, f3, f4, f5, f6, f7, f8, f9⟩⟩ := ten (HQ.out _ HB6.out).2.2) | (go_at_call 41; (with_reducible refine (HE.out _).mono ?_); rintro e w7 ⟨rfl, hb⟩; have HB7 := Lib.hid (HB6.out.trans (hb.mono HB6.out.size)); clear hb b0 b1 a0 a1 a2 a3 a4 a5 d0 d1 d2 d3 d4 d5 d6 d7 d8 d9 f0 f1 f2 f3 f4 f5 f6 f7 f8 f9; obtain ⟨⟨b0, b1⟩, _⟩ := two (HQ.out _ HB7.out).1; obtain ⟨⟨a0, a1, a2, a3, a4, a5⟩, _⟩ := six (HQ.out _ HB7.out).2.1; obtain ⟨⟨d0, d1, d2, d3, d4, d5, d6, d7, d8, d9⟩, ⟨f0, f1, f2, f3, f4, f5, f6, f7, f8, f9⟩⟩ := ten (HQ.out _ HB7.out).2.2))
  have ht0 := set10 (HQ.out _ HB7.out).2.2 (.int .i64 0) (.int .i64 0) (.int .i64 0) (.int .i64 0) (.int .i64 0) (.int .i64 0) (.int .i64 0) (.int .i64 0) (.int .i64 0) (.string ⟨#[]⟩)
  obtain ⟨⟨z0, z1, z2, z3, z4, z5, z6, z7, z8, z9⟩, _⟩ := ten ht0
  clear b0 b1 a0 a1 a2 a3 a4 a5 d0 d1 d2 d3 d4 d5 d6 d7 d8 d9 f0 f1 f2 f3 f4 f5 f6 f7 f8 f9 ht0
  refine bodyPost_ret (v := .tuple #[.agg #[.int .i64 0, .int .i64 0, .int .i64 0, .int .i64 0, .int .i64 0, .int .i64 0, .int .i64 0, .int .i64 0, .int .i64 0, .string ⟨#[]⟩], .int .i64 2]) (by simp only [results, Tryz.results21]; simp [go_sem, z0, z1, z2, z3, z4, z5, z6, z7, z8, z9]) rfl ⟨rfl, ?_⟩
  exact bset10 (HB3.out.trans (HB7.out.mono HB3.out.size)) (by omega) (.int .i64 0) (.int .i64 0) (.int .i64 0) (.int .i64 0) (.int .i64 0) (.int .i64 0) (.int .i64 0) (.int .i64 0) (.int .i64 0) (.string ⟨#[]⟩)
set_option maxRecDepth 100000 in
set_option maxHeartbeats 2000000 in
theorem Sm.rOf_bad3 (c s r q cr cq k m n : Int) (t : ByteArray) (w : World) (hc : chB c = true) (hs : slB s = true) (hm : mayB c s r q = true) (hn : ¬ (cr = -1 ∧ cq = 0)) (hm2 : mayB c s cr cq = true) (ht : t.size ≤ 1000000) (he : entB k m n t = true) (hl : lessB r q cr cq = true) : Calls Tryz.prog 21 #[.int .i64 c, .int .i64 s, .agg #[.int .i64 r, .int .i64 q], .agg #[.int .i64 cr, .int .i64 cq, .int .i64 k, .int .i64 m, .int .i64 n, .string t]] w fun e w' => e = .returned (.tuple #[.agg #[.int .i64 0, .int .i64 0, .int .i64 0, .int .i64 0, .int .i64 0, .int .i64 0, .int .i64 0, .int .i64 0, .int .i64 0, .string ⟨#[]⟩], .int .i64 2]) ∧ Below w.heap.size w w' := by
  obtain ⟨w3, hw3, k0, k1, k2, hb3, hz3⟩ := three_new w (.cells #[.int .i64 r, .int .i64 q] 31) (.cells #[.int .i64 cr, .int .i64 cq, .int .i64 k, .int .i64 m, .int .i64 n, .string t] 36) (.cells #[.int .i64 0, .int .i64 0, .int .i64 0, .int .i64 0, .int .i64 0, .int .i64 0, .int .i64 0, .int .i64 0, .int .i64 0, .string ⟨#[]⟩] 38)
  have HQ : Hid (∀ W, Below w3.heap.size w3 W → W.heap[w.heap.size]? = some (.cells #[.int .i64 r, .int .i64 q] 31 (0, 0)) ∧ W.heap[w.heap.size + 1]? = some (.cells #[.int .i64 cr, .int .i64 cq, .int .i64 k, .int .i64 m, .int .i64 n, .string t] 36 (0, 0)) ∧ W.heap[w.heap.size + 2]? = some (.cells #[.int .i64 0, .int .i64 0, .int .i64 0, .int .i64 0, .int .i64 0, .int .i64 0, .int .i64 0, .int .i64 0, .int .i64 0, .string ⟨#[]⟩] 38 (0, 0))) := Lib.hid fun W hb =>
    ⟨(hb.block _ (by omega)).trans k0, (hb.block _ (by omega)).trans k1, (hb.block _ (by omega)).trans k2⟩
  have HB3 := Lib.hid hb3
  have HBr : Hid (Below w3.heap.size w3 w3) := Lib.hid (Below.refl _ w3)
  obtain ⟨⟨b0, b1⟩, _⟩ := two (HQ.out _ HBr.out).1; obtain ⟨⟨a0, a1, a2, a3, a4, a5⟩, _⟩ := six (HQ.out _ HBr.out).2.1; obtain ⟨⟨d0, d1, d2, d3, d4, d5, d6, d7, d8, d9⟩, ⟨f0, f1, f2, f3, f4, f5, f6, f7, f8, f9⟩⟩ := ten (HQ.out _ HBr.out).2.2
  clear k0 k1 k2 hb3
  have H24 : Hid (∀ W, Calls Tryz.prog 24 #[.int .i64 c] W fun e w' => e = .returned (.bool true) ∧ W = w') := Lib.hid fun W => by
    have h := Right_any c W
    rw [hc] at h
    exact h
  have H25 : Hid (∀ W, Calls Tryz.prog 25 #[.int .i64 s] W fun e w' => e = .returned (.bool true) ∧ W = w') := Lib.hid fun W => by
    have h := rSlot_any s W
    rw [hs] at h
    exact h
  have HM1 : Hid (∀ W, Calls Tryz.prog 40 #[.int .i64 c, .int .i64 s, .agg #[.int .i64 r, .int .i64 q]] W fun e w' => e = .returned (.bool true) ∧ Below W.heap.size W w') := Lib.hid fun W => by
    have h := rMay_any c s r q W
    rw [hm] at h
    exact h
  have h27 := fun W => None27 W
  have heq : ∀ W, (binOp .eql 31 (.agg #[.int .i64 cr, .int .i64 cq]) (.agg #[.int .i64 (-1), .int .i64 0])).run Tryz.prog W = .ok (.bool false) W := fun W => by
    rw [eql31]; rw [decide_eq_false hn]
  have HM2 : Hid (∀ W, Calls Tryz.prog 40 #[.int .i64 c, .int .i64 s, .agg #[.int .i64 cr, .int .i64 cq]] W fun e w' => e = .returned (.bool true) ∧ Below W.heap.size W w') := Lib.hid fun W => by
    have h := rMay_any c s cr cq W
    rw [hm2] at h
    exact h
  have HE : Hid (∀ W, Calls Tryz.prog 41 #[.agg #[.int .i64 k, .int .i64 m, .int .i64 n, .string t]] W fun e w' => e = .returned (.bool true) ∧ Below W.heap.size W w') := Lib.hid fun W => by
    have h := entry_any k m n t W ht
    rw [he] at h
    exact h
  have HL : Hid (∀ W, Calls Tryz.prog 42 #[.agg #[.int .i64 r, .int .i64 q], .agg #[.int .i64 cr, .int .i64 cq]] W fun e w' => e = .returned (.bool true) ∧ Below W.heap.size W w') := Lib.hid fun W => by
    have h := Less_any r q cr cq W
    rw [hl] at h
    exact h
  clear hc hs hm hn
  go_enter Tryz.func21, Tryz.ntmps21
  go_upto_region 6 with (first | (go_at_call 24; (with_reducible refine (H24.out _).mono ?_); rintro e w' ⟨rfl, rfl⟩) | (go_at_call 25; (with_reducible refine (H25.out _).mono ?_); rintro e w' ⟨rfl, rfl⟩) | (go_at_call 40; (with_reducible refine (HM1.out _).mono ?_); rintro e w4 ⟨rfl, hb⟩; have HB4 := Lib.hid (HBr.out.trans (hb.mono HBr.out.size)); clear hb b0 b1 a0 a1 a2 a3 a4 a5 d0 d1 d2 d3 d4 d5 d6 d7 d8 d9 f0 f1 f2 f3 f4 f5 f6 f7 f8 f9; obtain ⟨⟨b0, b1⟩, _⟩ := two (HQ.out _ HB4.out).1; obtain ⟨⟨a0, a1, a2, a3, a4, a5⟩, _⟩ := six (HQ.out _ HB4.out).2.1; obtain ⟨⟨d0, d1, d2, d3, d4, d5, d6, d7, d8, d9⟩, ⟨f0, f1, f2, f3, f4, f5, f6, f7, f8, f9⟩⟩ := ten (HQ.out _ HB4.out).2.2))
  have HS4 : Hid (∀ W, Below w4.heap.size w4 W → W.cell? ⟨w.heap.size + 1, 0, none⟩ = some (.int .i64 cr) ∧ W.cell? ⟨w.heap.size + 1, 1, none⟩ = some (.int .i64 cq) ∧ W.cell? ⟨w.heap.size + 1, 2, none⟩ = some (.int .i64 k) ∧ W.cell? ⟨w.heap.size + 1, 3, none⟩ = some (.int .i64 m) ∧ W.cell? ⟨w.heap.size + 1, 4, none⟩ = some (.int .i64 n) ∧ W.cell? ⟨w.heap.size + 1, 5, none⟩ = some (.string t)) := Lib.hid fun W hb => (six (HQ.out _ (HB4.out.trans (hb.mono HB4.out.size))).2.1).1
  have z0 := HS4.out _ (Below.refl _ w4)
  have hS0 : (fun W => W.cell? ⟨w.heap.size + 1, 0, none⟩ = some (.int .i64 cr) ∧ W.cell? ⟨w.heap.size + 1, 1, none⟩ = some (.int .i64 cq) ∧ W.cell? ⟨w.heap.size + 1, 2, none⟩ = some (.int .i64 k) ∧ W.cell? ⟨w.heap.size + 1, 3, none⟩ = some (.int .i64 m) ∧ W.cell? ⟨w.heap.size + 1, 4, none⟩ = some (.int .i64 n) ∧ W.cell? ⟨w.heap.size + 1, 5, none⟩ = some (.string t)) w4.drew := z0
  refine wp_region_held_drew (S := fun W => W.cell? ⟨w.heap.size + 1, 0, none⟩ = some (.int .i64 cr) ∧ W.cell? ⟨w.heap.size + 1, 1, none⟩ = some (.int .i64 cq) ∧ W.cell? ⟨w.heap.size + 1, 2, none⟩ = some (.int .i64 k) ∧ W.cell? ⟨w.heap.size + 1, 3, none⟩ = some (.int .i64 m) ∧ W.cell? ⟨w.heap.size + 1, 4, none⟩ = some (.int .i64 n) ∧ W.cell? ⟨w.heap.size + 1, 5, none⟩ = some (.string t)) rfl hS0 (fun hHeld => ?_)
  simp only [List.size_toArray, List.length_cons, List.length_nil, Nat.reduceAdd]
  have HB0 : Hid (Below w4.heap.size w4 w4.drew) := Lib.hid (Below.refl _ _).drew
  obtain ⟨V0, hV0⟩ : ∃ V, w4.drew = V := ⟨_, rfl⟩
  rw [hV0] at hHeld hS0 HB0 ⊢
  clear hV0
  refine wpAnyH_take (i := 0) (v := .pointer (some ⟨w.heap.size + 1, 0, none⟩)) rfl (by kernel_rfl) (by kernel_rfl) (by kernel_rfl) (fun _ _ _ h => h) (Or.inl ⟨by rfl, ?_⟩) (by assumption) ?_
  · intro wx hs1; go_simp
  (try simp only [Act.put, List.getElem_toArray, List.getElem_cons_zero, List.setIfInBounds_toArray, List.set_cons_zero, List.set_cons_succ])
  refine wpAnyH_take (i := 1) (v := .agg #[.int .i64 cr, .int .i64 cq]) rfl (by kernel_rfl) (by kernel_rfl) (by kernel_rfl) (fun _ _ _ h => h) (Or.inl ⟨by rfl, ?_⟩) (by assumption) ?_
  · intro wx hs1; obtain ⟨s0, s1, _⟩ := hs1; go_simp
  (try simp only [Act.put, List.getElem_toArray, List.getElem_cons_succ, List.getElem_cons_zero, List.setIfInBounds_toArray, List.set_cons_zero, List.set_cons_succ])
  refine wpAnyH_ready (rs := [2]) (by kernel_rfl) (by simp) (AllReadyH.cons rfl (fun K hK => ?_) AllReadyH.nil)
  go_simp
  go_at_call 27
  (with_reducible refine (h27 _).mono ?_)
  rintro e w5 ⟨rfl, hb⟩
  try dsimp only
  have HB5x : Hid (Below w4.heap.size w4 w5) := Lib.hid (HB0.out.trans (hb.mono HB0.out.size)); clear hb; have hS := HS4.out _ HB5x.out
  refine hK.out _ _ hS (fun _ => ?_)
  clear hK K
  (try simp only [Act.put, List.getElem_toArray, List.getElem_cons_succ, List.getElem_cons_zero, List.setIfInBounds_toArray, List.set_cons_zero, List.set_cons_succ])
  refine wpAnyH_take (i := 3) (v := .bool false) rfl (by kernel_rfl) (by kernel_rfl) (by kernel_rfl) (fun _ _ _ h => h) (Or.inl ⟨by rfl, ?_⟩) (by assumption) ?_
  · intro wx hs1; clear hs1; have e3 := heq wx; go_simp
  (try simp only [Act.put, List.getElem_toArray, List.getElem_cons_succ, List.getElem_cons_zero, List.setIfInBounds_toArray, List.set_cons_zero, List.set_cons_succ])
  refine wpAnyH_done (by kernel_rfl) ?_ _
  have HB5 := Lib.hid (HB4.out.trans (HB5x.out.mono HB4.out.size))
  clear z0 b0 b1 a0 a1 a2 a3 a4 a5 d0 d1 d2 d3 d4 d5 d6 d7 d8 d9 f0 f1 f2 f3 f4 f5 f6 f7 f8 f9
  obtain ⟨⟨b0, b1⟩, _⟩ := two (HQ.out _ HB5.out).1; obtain ⟨⟨a0, a1, a2, a3, a4, a5⟩, _⟩ := six (HQ.out _ HB5.out).2.1; obtain ⟨⟨d0, d1, d2, d3, d4, d5, d6, d7, d8, d9⟩, ⟨f0, f1, f2, f3, f4, f5, f6, f7, f8, f9⟩⟩ := ten (HQ.out _ HB5.out).2.2
  go_wp2_with (first | (go_at_call 40; (with_reducible refine (HM2.out _).mono ?_); rintro e w6 ⟨rfl, hb⟩; have HB6 := Lib.hid (HB5.out.trans (hb.mono HB5.out.size)); clear hb b0 b1 a0 a1 a2 a3 a4 a5 d0 d1 d2 d3 d4 d5 d6 d7 d8 d9 f0 f1 f2 f3 f4 f5 f6 f7 f8 f9; obtain ⟨⟨b0, b1⟩, _⟩ := two (HQ.out _ HB6.out).1; obtain ⟨⟨a0, a1, a2, a3, a4, a5⟩, _⟩ := six (HQ.out _ HB6.out).2.1; obtain ⟨⟨d0, d1, d2, d3, d4, d5, d6, d7, d8, d9⟩, ⟨f0, f1, f2, f3, f4, f5, f6, f7, f8, f9⟩⟩ := ten (HQ.out _ HB6.out).2.2) | (go_at_call 41; (with_reducible refine (HE.out _).mono ?_); rintro e w7 ⟨rfl, hb⟩; have HB7 := Lib.hid (HB6.out.trans (hb.mono HB6.out.size)); clear hb b0 b1 a0 a1 a2 a3 a4 a5 d0 d1 d2 d3 d4 d5 d6 d7 d8 d9 f0 f1 f2 f3 f4 f5 f6 f7 f8 f9; obtain ⟨⟨b0, b1⟩, _⟩ := two (HQ.out _ HB7.out).1; obtain ⟨⟨a0, a1, a2, a3, a4, a5⟩, _⟩ := six (HQ.out _ HB7.out).2.1; obtain ⟨⟨d0, d1, d2, d3, d4, d5, d6, d7, d8, d9⟩, ⟨f0, f1, f2, f3, f4, f5, f6, f7, f8, f9⟩⟩ := ten (HQ.out _ HB7.out).2.2) | (go_at_call 42; (with_reducible refine (HL.out _).mono ?_); rintro e w8 ⟨rfl, hb⟩; have HB8 := Lib.hid (HB7.out.trans (hb.mono HB7.out.size)); clear hb b0 b1 a0 a1 a2 a3 a4 a5 d0 d1 d2 d3 d4 d5 d6 d7 d8 d9 f0 f1 f2 f3 f4 f5 f6 f7 f8 f9; obtain ⟨⟨b0, b1⟩, _⟩ := two (HQ.out _ HB8.out).1; obtain ⟨⟨a0, a1, a2, a3, a4, a5⟩, _⟩ := six (HQ.out _ HB8.out).2.1; obtain ⟨⟨d0, d1, d2, d3, d4, d5, d6, d7, d8, d9⟩, ⟨f0, f1, f2, f3, f4, f5, f6, f7, f8, f9⟩⟩ := ten (HQ.out _ HB8.out).2.2))
  have ht0 := set10 (HQ.out _ HB8.out).2.2 (.int .i64 0) (.int .i64 0) (.int .i64 0) (.int .i64 0) (.int .i64 0) (.int .i64 0) (.int .i64 0) (.int .i64 0) (.int .i64 0) (.string ⟨#[]⟩)
  obtain ⟨⟨z0, z1, z2, z3, z4, z5, z6, z7, z8, z9⟩, _⟩ := ten ht0
  clear b0 b1 a0 a1 a2 a3 a4 a5 d0 d1 d2 d3 d4 d5 d6 d7 d8 d9 f0 f1 f2 f3 f4 f5 f6 f7 f8 f9 ht0
  refine bodyPost_ret (v := .tuple #[.agg #[.int .i64 0, .int .i64 0, .int .i64 0, .int .i64 0, .int .i64 0, .int .i64 0, .int .i64 0, .int .i64 0, .int .i64 0, .string ⟨#[]⟩], .int .i64 2]) (by simp only [results, Tryz.results21]; simp [go_sem, z0, z1, z2, z3, z4, z5, z6, z7, z8, z9]) rfl ⟨rfl, ?_⟩
  exact bset10 (HB3.out.trans (HB8.out.mono HB3.out.size)) (by omega) (.int .i64 0) (.int .i64 0) (.int .i64 0) (.int .i64 0) (.int .i64 0) (.int .i64 0) (.int .i64 0) (.int .i64 0) (.int .i64 0) (.string ⟨#[]⟩)
set_option maxRecDepth 100000 in
set_option maxHeartbeats 2000000 in
theorem Sm.rOf_yes (c s r q cr cq k m n : Int) (t : ByteArray) (w : World) (hc : chB c = true) (hs : slB s = true) (hm : mayB c s r q = true) (hn : ¬ (cr = -1 ∧ cq = 0)) (hm2 : mayB c s cr cq = true) (ht : t.size ≤ 1000000) (he : entB k m n t = true) (hl : lessB r q cr cq = false) : Calls Tryz.prog 21 #[.int .i64 c, .int .i64 s, .agg #[.int .i64 r, .int .i64 q], .agg #[.int .i64 cr, .int .i64 cq, .int .i64 k, .int .i64 m, .int .i64 n, .string t]] w fun e w' => e = .returned (.tuple #[.agg #[.int .i64 c, .int .i64 s, .int .i64 r, .int .i64 q, .int .i64 cr, .int .i64 cq, .int .i64 k, .int .i64 m, .int .i64 n, .string t], .int .i64 0]) ∧ Below w.heap.size w w' := by
  obtain ⟨w3, hw3, k0, k1, k2, hb3, hz3⟩ := three_new w (.cells #[.int .i64 r, .int .i64 q] 31) (.cells #[.int .i64 cr, .int .i64 cq, .int .i64 k, .int .i64 m, .int .i64 n, .string t] 36) (.cells #[.int .i64 0, .int .i64 0, .int .i64 0, .int .i64 0, .int .i64 0, .int .i64 0, .int .i64 0, .int .i64 0, .int .i64 0, .string ⟨#[]⟩] 38)
  have HQ : Hid (∀ W, Below w3.heap.size w3 W → W.heap[w.heap.size]? = some (.cells #[.int .i64 r, .int .i64 q] 31 (0, 0)) ∧ W.heap[w.heap.size + 1]? = some (.cells #[.int .i64 cr, .int .i64 cq, .int .i64 k, .int .i64 m, .int .i64 n, .string t] 36 (0, 0)) ∧ W.heap[w.heap.size + 2]? = some (.cells #[.int .i64 0, .int .i64 0, .int .i64 0, .int .i64 0, .int .i64 0, .int .i64 0, .int .i64 0, .int .i64 0, .int .i64 0, .string ⟨#[]⟩] 38 (0, 0))) := Lib.hid fun W hb =>
    ⟨(hb.block _ (by omega)).trans k0, (hb.block _ (by omega)).trans k1, (hb.block _ (by omega)).trans k2⟩
  have HB3 := Lib.hid hb3
  have HBr : Hid (Below w3.heap.size w3 w3) := Lib.hid (Below.refl _ w3)
  obtain ⟨⟨b0, b1⟩, _⟩ := two (HQ.out _ HBr.out).1; obtain ⟨⟨a0, a1, a2, a3, a4, a5⟩, _⟩ := six (HQ.out _ HBr.out).2.1; obtain ⟨⟨d0, d1, d2, d3, d4, d5, d6, d7, d8, d9⟩, ⟨f0, f1, f2, f3, f4, f5, f6, f7, f8, f9⟩⟩ := ten (HQ.out _ HBr.out).2.2
  clear k0 k1 k2 hb3
  have H24 : Hid (∀ W, Calls Tryz.prog 24 #[.int .i64 c] W fun e w' => e = .returned (.bool true) ∧ W = w') := Lib.hid fun W => by
    have h := Right_any c W
    rw [hc] at h
    exact h
  have H25 : Hid (∀ W, Calls Tryz.prog 25 #[.int .i64 s] W fun e w' => e = .returned (.bool true) ∧ W = w') := Lib.hid fun W => by
    have h := rSlot_any s W
    rw [hs] at h
    exact h
  have HM1 : Hid (∀ W, Calls Tryz.prog 40 #[.int .i64 c, .int .i64 s, .agg #[.int .i64 r, .int .i64 q]] W fun e w' => e = .returned (.bool true) ∧ Below W.heap.size W w') := Lib.hid fun W => by
    have h := rMay_any c s r q W
    rw [hm] at h
    exact h
  have h27 := fun W => None27 W
  have heq : ∀ W, (binOp .eql 31 (.agg #[.int .i64 cr, .int .i64 cq]) (.agg #[.int .i64 (-1), .int .i64 0])).run Tryz.prog W = .ok (.bool false) W := fun W => by
    rw [eql31]; rw [decide_eq_false hn]
  have HM2 : Hid (∀ W, Calls Tryz.prog 40 #[.int .i64 c, .int .i64 s, .agg #[.int .i64 cr, .int .i64 cq]] W fun e w' => e = .returned (.bool true) ∧ Below W.heap.size W w') := Lib.hid fun W => by
    have h := rMay_any c s cr cq W
    rw [hm2] at h
    exact h
  have HE : Hid (∀ W, Calls Tryz.prog 41 #[.agg #[.int .i64 k, .int .i64 m, .int .i64 n, .string t]] W fun e w' => e = .returned (.bool true) ∧ Below W.heap.size W w') := Lib.hid fun W => by
    have h := entry_any k m n t W ht
    rw [he] at h
    exact h
  have HL : Hid (∀ W, Calls Tryz.prog 42 #[.agg #[.int .i64 r, .int .i64 q], .agg #[.int .i64 cr, .int .i64 cq]] W fun e w' => e = .returned (.bool false) ∧ Below W.heap.size W w') := Lib.hid fun W => by
    have h := Less_any r q cr cq W
    rw [hl] at h
    exact h
  clear hc hs hm hn
  go_enter Tryz.func21, Tryz.ntmps21
  go_upto_region 6 with (first | (go_at_call 24; (with_reducible refine (H24.out _).mono ?_); rintro e w' ⟨rfl, rfl⟩) | (go_at_call 25; (with_reducible refine (H25.out _).mono ?_); rintro e w' ⟨rfl, rfl⟩) | (go_at_call 40; (with_reducible refine (HM1.out _).mono ?_); rintro e w4 ⟨rfl, hb⟩; have HB4 := Lib.hid (HBr.out.trans (hb.mono HBr.out.size)); clear hb b0 b1 a0 a1 a2 a3 a4 a5 d0 d1 d2 d3 d4 d5 d6 d7 d8 d9 f0 f1 f2 f3 f4 f5 f6 f7 f8 f9; obtain ⟨⟨b0, b1⟩, _⟩ := two (HQ.out _ HB4.out).1; obtain ⟨⟨a0, a1, a2, a3, a4, a5⟩, _⟩ := six (HQ.out _ HB4.out).2.1; obtain ⟨⟨d0, d1, d2, d3, d4, d5, d6, d7, d8, d9⟩, ⟨f0, f1, f2, f3, f4, f5, f6, f7, f8, f9⟩⟩ := ten (HQ.out _ HB4.out).2.2))
  have HS4 : Hid (∀ W, Below w4.heap.size w4 W → W.cell? ⟨w.heap.size + 1, 0, none⟩ = some (.int .i64 cr) ∧ W.cell? ⟨w.heap.size + 1, 1, none⟩ = some (.int .i64 cq) ∧ W.cell? ⟨w.heap.size + 1, 2, none⟩ = some (.int .i64 k) ∧ W.cell? ⟨w.heap.size + 1, 3, none⟩ = some (.int .i64 m) ∧ W.cell? ⟨w.heap.size + 1, 4, none⟩ = some (.int .i64 n) ∧ W.cell? ⟨w.heap.size + 1, 5, none⟩ = some (.string t)) := Lib.hid fun W hb => (six (HQ.out _ (HB4.out.trans (hb.mono HB4.out.size))).2.1).1
  have z0 := HS4.out _ (Below.refl _ w4)
  have hS0 : (fun W => W.cell? ⟨w.heap.size + 1, 0, none⟩ = some (.int .i64 cr) ∧ W.cell? ⟨w.heap.size + 1, 1, none⟩ = some (.int .i64 cq) ∧ W.cell? ⟨w.heap.size + 1, 2, none⟩ = some (.int .i64 k) ∧ W.cell? ⟨w.heap.size + 1, 3, none⟩ = some (.int .i64 m) ∧ W.cell? ⟨w.heap.size + 1, 4, none⟩ = some (.int .i64 n) ∧ W.cell? ⟨w.heap.size + 1, 5, none⟩ = some (.string t)) w4.drew := z0
  refine wp_region_held_drew (S := fun W => W.cell? ⟨w.heap.size + 1, 0, none⟩ = some (.int .i64 cr) ∧ W.cell? ⟨w.heap.size + 1, 1, none⟩ = some (.int .i64 cq) ∧ W.cell? ⟨w.heap.size + 1, 2, none⟩ = some (.int .i64 k) ∧ W.cell? ⟨w.heap.size + 1, 3, none⟩ = some (.int .i64 m) ∧ W.cell? ⟨w.heap.size + 1, 4, none⟩ = some (.int .i64 n) ∧ W.cell? ⟨w.heap.size + 1, 5, none⟩ = some (.string t)) rfl hS0 (fun hHeld => ?_)
  simp only [List.size_toArray, List.length_cons, List.length_nil, Nat.reduceAdd]
  have HB0 : Hid (Below w4.heap.size w4 w4.drew) := Lib.hid (Below.refl _ _).drew
  obtain ⟨V0, hV0⟩ : ∃ V, w4.drew = V := ⟨_, rfl⟩
  rw [hV0] at hHeld hS0 HB0 ⊢
  clear hV0
  refine wpAnyH_take (i := 0) (v := .pointer (some ⟨w.heap.size + 1, 0, none⟩)) rfl (by kernel_rfl) (by kernel_rfl) (by kernel_rfl) (fun _ _ _ h => h) (Or.inl ⟨by rfl, ?_⟩) (by assumption) ?_
  · intro wx hs1; go_simp
  (try simp only [Act.put, List.getElem_toArray, List.getElem_cons_zero, List.setIfInBounds_toArray, List.set_cons_zero, List.set_cons_succ])
  refine wpAnyH_take (i := 1) (v := .agg #[.int .i64 cr, .int .i64 cq]) rfl (by kernel_rfl) (by kernel_rfl) (by kernel_rfl) (fun _ _ _ h => h) (Or.inl ⟨by rfl, ?_⟩) (by assumption) ?_
  · intro wx hs1; obtain ⟨s0, s1, _⟩ := hs1; go_simp
  (try simp only [Act.put, List.getElem_toArray, List.getElem_cons_succ, List.getElem_cons_zero, List.setIfInBounds_toArray, List.set_cons_zero, List.set_cons_succ])
  refine wpAnyH_ready (rs := [2]) (by kernel_rfl) (by simp) (AllReadyH.cons rfl (fun K hK => ?_) AllReadyH.nil)
  go_simp
  go_at_call 27
  (with_reducible refine (h27 _).mono ?_)
  rintro e w5 ⟨rfl, hb⟩
  try dsimp only
  have HB5x : Hid (Below w4.heap.size w4 w5) := Lib.hid (HB0.out.trans (hb.mono HB0.out.size)); clear hb; have hS := HS4.out _ HB5x.out
  refine hK.out _ _ hS (fun _ => ?_)
  clear hK K
  (try simp only [Act.put, List.getElem_toArray, List.getElem_cons_succ, List.getElem_cons_zero, List.setIfInBounds_toArray, List.set_cons_zero, List.set_cons_succ])
  refine wpAnyH_take (i := 3) (v := .bool false) rfl (by kernel_rfl) (by kernel_rfl) (by kernel_rfl) (fun _ _ _ h => h) (Or.inl ⟨by rfl, ?_⟩) (by assumption) ?_
  · intro wx hs1; clear hs1; have e3 := heq wx; go_simp
  (try simp only [Act.put, List.getElem_toArray, List.getElem_cons_succ, List.getElem_cons_zero, List.setIfInBounds_toArray, List.set_cons_zero, List.set_cons_succ])
  refine wpAnyH_done (by kernel_rfl) ?_ _
  have HB5 := Lib.hid (HB4.out.trans (HB5x.out.mono HB4.out.size))
  clear z0 b0 b1 a0 a1 a2 a3 a4 a5 d0 d1 d2 d3 d4 d5 d6 d7 d8 d9 f0 f1 f2 f3 f4 f5 f6 f7 f8 f9
  obtain ⟨⟨b0, b1⟩, _⟩ := two (HQ.out _ HB5.out).1; obtain ⟨⟨a0, a1, a2, a3, a4, a5⟩, _⟩ := six (HQ.out _ HB5.out).2.1; obtain ⟨⟨d0, d1, d2, d3, d4, d5, d6, d7, d8, d9⟩, ⟨f0, f1, f2, f3, f4, f5, f6, f7, f8, f9⟩⟩ := ten (HQ.out _ HB5.out).2.2
  go_wp2_with (first | (go_at_call 40; (with_reducible refine (HM2.out _).mono ?_); rintro e w6 ⟨rfl, hb⟩; have HB6 := Lib.hid (HB5.out.trans (hb.mono HB5.out.size)); clear hb b0 b1 a0 a1 a2 a3 a4 a5 d0 d1 d2 d3 d4 d5 d6 d7 d8 d9 f0 f1 f2 f3 f4 f5 f6 f7 f8 f9; obtain ⟨⟨b0, b1⟩, _⟩ := two (HQ.out _ HB6.out).1; obtain ⟨⟨a0, a1, a2, a3, a4, a5⟩, _⟩ := six (HQ.out _ HB6.out).2.1; obtain ⟨⟨d0, d1, d2, d3, d4, d5, d6, d7, d8, d9⟩, ⟨f0, f1, f2, f3, f4, f5, f6, f7, f8, f9⟩⟩ := ten (HQ.out _ HB6.out).2.2) | (go_at_call 41; (with_reducible refine (HE.out _).mono ?_); rintro e w7 ⟨rfl, hb⟩; have HB7 := Lib.hid (HB6.out.trans (hb.mono HB6.out.size)); clear hb b0 b1 a0 a1 a2 a3 a4 a5 d0 d1 d2 d3 d4 d5 d6 d7 d8 d9 f0 f1 f2 f3 f4 f5 f6 f7 f8 f9; obtain ⟨⟨b0, b1⟩, _⟩ := two (HQ.out _ HB7.out).1; obtain ⟨⟨a0, a1, a2, a3, a4, a5⟩, _⟩ := six (HQ.out _ HB7.out).2.1; obtain ⟨⟨d0, d1, d2, d3, d4, d5, d6, d7, d8, d9⟩, ⟨f0, f1, f2, f3, f4, f5, f6, f7, f8, f9⟩⟩ := ten (HQ.out _ HB7.out).2.2) | (go_at_call 42; (with_reducible refine (HL.out _).mono ?_); rintro e w8 ⟨rfl, hb⟩; have HB8 := Lib.hid (HB7.out.trans (hb.mono HB7.out.size)); clear hb b0 b1 a0 a1 a2 a3 a4 a5 d0 d1 d2 d3 d4 d5 d6 d7 d8 d9 f0 f1 f2 f3 f4 f5 f6 f7 f8 f9; obtain ⟨⟨b0, b1⟩, _⟩ := two (HQ.out _ HB8.out).1; obtain ⟨⟨a0, a1, a2, a3, a4, a5⟩, _⟩ := six (HQ.out _ HB8.out).2.1; obtain ⟨⟨d0, d1, d2, d3, d4, d5, d6, d7, d8, d9⟩, ⟨f0, f1, f2, f3, f4, f5, f6, f7, f8, f9⟩⟩ := ten (HQ.out _ HB8.out).2.2))
  have ht0 := set10 (HQ.out _ HB8.out).2.2 (.int .i64 c) (.int .i64 s) (.int .i64 r) (.int .i64 q) (.int .i64 cr) (.int .i64 cq) (.int .i64 k) (.int .i64 m) (.int .i64 n) (.string t)
  obtain ⟨⟨z0, z1, z2, z3, z4, z5, z6, z7, z8, z9⟩, _⟩ := ten ht0
  clear b0 b1 a0 a1 a2 a3 a4 a5 d0 d1 d2 d3 d4 d5 d6 d7 d8 d9 f0 f1 f2 f3 f4 f5 f6 f7 f8 f9 ht0
  refine bodyPost_ret (v := .tuple #[.agg #[.int .i64 c, .int .i64 s, .int .i64 r, .int .i64 q, .int .i64 cr, .int .i64 cq, .int .i64 k, .int .i64 m, .int .i64 n, .string t], .int .i64 0]) (by simp only [results, Tryz.results21]; simp [go_sem, z0, z1, z2, z3, z4, z5, z6, z7, z8, z9]) rfl ⟨rfl, ?_⟩
  exact bset10 (HB3.out.trans (HB8.out.mono HB3.out.size)) (by omega) (.int .i64 c) (.int .i64 s) (.int .i64 r) (.int .i64 q) (.int .i64 cr) (.int .i64 cq) (.int .i64 k) (.int .i64 m) (.int .i64 n) (.string t)
/-- the document's answer, put together -/
theorem Sm.rOf_good (c s r q cr cq k m n : Int) (t : ByteArray) (w : World) (hc : chB c = true) (hs : slB s = true) (ht : t.size ≤ 1000000) (hg : ofB c s r q cr cq k m n t = true) : Calls Tryz.prog 21 #[.int .i64 c, .int .i64 s, .agg #[.int .i64 r, .int .i64 q], .agg #[.int .i64 cr, .int .i64 cq, .int .i64 k, .int .i64 m, .int .i64 n, .string t]] w fun e w' => e = .returned (.tuple #[.agg #[.int .i64 c, .int .i64 s, .int .i64 r, .int .i64 q, .int .i64 cr, .int .i64 cq, .int .i64 k, .int .i64 m, .int .i64 n, .string t], .int .i64 0]) ∧ Below w.heap.size w w' := by
  unfold ofB at hg
  rw [Bool.and_eq_true] at hg
  obtain ⟨hm, hg⟩ := hg
  by_cases hn : cr = -1 ∧ cq = 0
  · rw [if_pos hn] at hg
    exact rOf_none_yes c s r q cr cq k m n t w hc hs hm hn (of_decide_eq_true hg)
  · rw [if_neg hn] at hg
    simp only [Bool.and_eq_true, Bool.not_eq_true'] at hg
    exact rOf_yes c s r q cr cq k m n t w hc hs hm hn hg.1.1 ht hg.1.2 hg.2
theorem Sm.rOf_wrong (c s r q cr cq k m n : Int) (t : ByteArray) (w : World) (hc : chB c = true) (hs : slB s = true) (ht : t.size ≤ 1000000) (hg : ofB c s r q cr cq k m n t = false) : Calls Tryz.prog 21 #[.int .i64 c, .int .i64 s, .agg #[.int .i64 r, .int .i64 q], .agg #[.int .i64 cr, .int .i64 cq, .int .i64 k, .int .i64 m, .int .i64 n, .string t]] w fun e w' => e = .returned (.tuple #[.agg #[.int .i64 0, .int .i64 0, .int .i64 0, .int .i64 0, .int .i64 0, .int .i64 0, .int .i64 0, .int .i64 0, .int .i64 0, .string ⟨#[]⟩], .int .i64 2]) ∧ Below w.heap.size w w' := by
  unfold ofB at hg
  cases hm : mayB c s r q with
  | false => exact rOf_may c s r q cr cq k m n t w hc hs hm
  | true =>
    rw [hm, Bool.true_and] at hg
    by_cases hn : cr = -1 ∧ cq = 0
    · rw [if_pos hn] at hg
      exact rOf_none_bad c s r q cr cq k m n t w hc hs hm hn (of_decide_eq_false hg)
    · rw [if_neg hn] at hg
      cases hm2 : mayB c s cr cq with
      | false => exact rOf_bad1 c s r q cr cq k m n t w hc hs hm hn hm2
      | true =>
        cases he : entB k m n t with
        | false => exact rOf_bad2 c s r q cr cq k m n t w hc hs hm hn hm2 ht he
        | true =>
          cases hl : lessB r q cr cq with
          | true => exact rOf_bad3 c s r q cr cq k m n t w hc hs hm hn hm2 ht he hl
          | false => rw [hm2, he, hl] at hg; simp at hg
end Go.Proofs
