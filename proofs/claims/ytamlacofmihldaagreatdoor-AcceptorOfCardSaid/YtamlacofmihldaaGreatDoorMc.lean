/-
  Ten cells of a block that are read and written. No condition. acceptor: the document's New, Entry, Promise, Accept. acceptor: the document's Entry. acceptor: the document's Promise and Accept. acceptor: the document's Accept. Conditions: as each theorem names them.
-/
import Derived.Test.YtamlacofmihldaaGreatDoorMb
import Derived.Test.YtamlacofmihldaaGreatDoorBaN
import Derived.Test.YtamlacofmihldaaGreatDoorMa
import Derived.Test.YtamlacofmihldaaGreatDoorTxCk
namespace Go.Proofs
open Go Go.RowKit Sm Go.Lib
theorem Sm.ten {w : World} {p : Nat} {a0 a1 a2 a3 a4 a5 a6 a7 a8 a9 : Value} {t : TypeId} (h : w.heap[p]? = some (.cells #[a0, a1, a2, a3, a4, a5, a6, a7, a8, a9] t (0, 0))) :
    (w.cell? ⟨p, 0, none⟩ = some a0 ∧ w.cell? ⟨p, 1, none⟩ = some a1 ∧ w.cell? ⟨p, 2, none⟩ = some a2 ∧ w.cell? ⟨p, 3, none⟩ = some a3 ∧ w.cell? ⟨p, 4, none⟩ = some a4 ∧ w.cell? ⟨p, 5, none⟩ = some a5 ∧ w.cell? ⟨p, 6, none⟩ = some a6 ∧ w.cell? ⟨p, 7, none⟩ = some a7 ∧ w.cell? ⟨p, 8, none⟩ = some a8 ∧ w.cell? ⟨p, 9, none⟩ = some a9)
    ∧ (w.frozen? ⟨p, 0, none⟩ = false ∧ w.frozen? ⟨p, 1, none⟩ = false ∧ w.frozen? ⟨p, 2, none⟩ = false ∧ w.frozen? ⟨p, 3, none⟩ = false ∧ w.frozen? ⟨p, 4, none⟩ = false ∧ w.frozen? ⟨p, 5, none⟩ = false ∧ w.frozen? ⟨p, 6, none⟩ = false ∧ w.frozen? ⟨p, 7, none⟩ = false ∧ w.frozen? ⟨p, 8, none⟩ = false ∧ w.frozen? ⟨p, 9, none⟩ = false) :=
  ⟨⟨cell_of_heap h 0, cell_of_heap h 1, cell_of_heap h 2, cell_of_heap h 3, cell_of_heap h 4, cell_of_heap h 5, cell_of_heap h 6, cell_of_heap h 7, cell_of_heap h 8, cell_of_heap h 9⟩, frozen_of_heap h 0, frozen_of_heap h 1, frozen_of_heap h 2, frozen_of_heap h 3, frozen_of_heap h 4, frozen_of_heap h 5, frozen_of_heap h 6, frozen_of_heap h 7, frozen_of_heap h 8, frozen_of_heap h 9⟩
theorem Sm.set10 {w : World} {p : Nat} {a0 a1 a2 a3 a4 a5 a6 a7 a8 a9 : Value} {t : TypeId} (h : w.heap[p]? = some (.cells #[a0, a1, a2, a3, a4, a5, a6, a7, a8, a9] t (0, 0))) (u0 u1 u2 u3 u4 u5 u6 u7 u8 u9 : Value) : ((((((((((w.setCell ⟨p, 0, none⟩ u0).setCell ⟨p, 1, none⟩ u1).setCell ⟨p, 2, none⟩ u2).setCell ⟨p, 3, none⟩ u3).setCell ⟨p, 4, none⟩ u4).setCell ⟨p, 5, none⟩ u5).setCell ⟨p, 6, none⟩ u6).setCell ⟨p, 7, none⟩ u7).setCell ⟨p, 8, none⟩ u8).setCell ⟨p, 9, none⟩ u9).heap[p]? = some (.cells #[u0, u1, u2, u3, u4, u5, u6, u7, u8, u9] t (0, 0)) := by
  have h10 := heap_setCells (i := 9) (u := u9) (heap_setCells (i := 8) (u := u8) (heap_setCells (i := 7) (u := u7) (heap_setCells (i := 6) (u := u6) (heap_setCells (i := 5) (u := u5) (heap_setCells (i := 4) (u := u4) (heap_setCells (i := 3) (u := u3) (heap_setCells (i := 2) (u := u2) (heap_setCells (i := 1) (u := u1) (heap_setCells (i := 0) (u := u0) (h))))))))))
  simpa only [List.setIfInBounds_toArray, List.set_cons_zero, List.set_cons_succ] using h10
theorem Sm.bset10 {N : Nat} {w w1 : World} {p : Nat} (h : Below N w w1) (hp : N ≤ p) (u0 u1 u2 u3 u4 u5 u6 u7 u8 u9 : Value) : Below N w ((((((((((w1.setCell ⟨p, 0, none⟩ u0).setCell ⟨p, 1, none⟩ u1).setCell ⟨p, 2, none⟩ u2).setCell ⟨p, 3, none⟩ u3).setCell ⟨p, 4, none⟩ u4).setCell ⟨p, 5, none⟩ u5).setCell ⟨p, 6, none⟩ u6).setCell ⟨p, 7, none⟩ u7).setCell ⟨p, 8, none⟩ u8).setCell ⟨p, 9, none⟩ u9) := ((((((((((h.setCell (p := ⟨p, 0, none⟩) hp u0).setCell (p := ⟨p, 1, none⟩) hp u1).setCell (p := ⟨p, 2, none⟩) hp u2).setCell (p := ⟨p, 3, none⟩) hp u3).setCell (p := ⟨p, 4, none⟩) hp u4).setCell (p := ⟨p, 5, none⟩) hp u5).setCell (p := ⟨p, 6, none⟩) hp u6).setCell (p := ⟨p, 7, none⟩) hp u7).setCell (p := ⟨p, 8, none⟩) hp u8).setCell (p := ⟨p, 9, none⟩) hp u9)
theorem Sm.other10 {w : World} {b q : Nat} {x : Option Obj} (h : w.heap[q]? = x) (hn : q ≠ b) (u0 u1 u2 u3 u4 u5 u6 u7 u8 u9 : Value) : ((((((((((w.setCell ⟨b, 0, none⟩ u0).setCell ⟨b, 1, none⟩ u1).setCell ⟨b, 2, none⟩ u2).setCell ⟨b, 3, none⟩ u3).setCell ⟨b, 4, none⟩ u4).setCell ⟨b, 5, none⟩ u5).setCell ⟨b, 6, none⟩ u6).setCell ⟨b, 7, none⟩ u7).setCell ⟨b, 8, none⟩ u8).setCell ⟨b, 9, none⟩ u9).heap[q]? = x := other (p := ⟨b, 9, none⟩) (u := u9) (other (p := ⟨b, 8, none⟩) (u := u8) (other (p := ⟨b, 7, none⟩) (u := u7) (other (p := ⟨b, 6, none⟩) (u := u6) (other (p := ⟨b, 5, none⟩) (u := u5) (other (p := ⟨b, 4, none⟩) (u := u4) (other (p := ⟨b, 3, none⟩) (u := u3) (other (p := ⟨b, 2, none⟩) (u := u2) (other (p := ⟨b, 1, none⟩) (u := u1) (other (p := ⟨b, 0, none⟩) (u := u0) (h) hn) hn) hn) hn) hn) hn) hn) hn) hn) hn
theorem Sm.buts10 {S : Nat → Prop} {w w1 : World} {b : Nat} (h : But S w w1) (hn : w.heap.size ≤ b) (u0 u1 u2 u3 u4 u5 u6 u7 u8 u9 : Value) : But S w ((((((((((w1.setCell ⟨b, 0, none⟩ u0).setCell ⟨b, 1, none⟩ u1).setCell ⟨b, 2, none⟩ u2).setCell ⟨b, 3, none⟩ u3).setCell ⟨b, 4, none⟩ u4).setCell ⟨b, 5, none⟩ u5).setCell ⟨b, 6, none⟩ u6).setCell ⟨b, 7, none⟩ u7).setCell ⟨b, 8, none⟩ u8).setCell ⟨b, 9, none⟩ u9) := ((((((((((h.set ⟨b, 0, none⟩ u0 (.inr hn)).set ⟨b, 1, none⟩ u1 (.inr hn)).set ⟨b, 2, none⟩ u2 (.inr hn)).set ⟨b, 3, none⟩ u3 (.inr hn)).set ⟨b, 4, none⟩ u4 (.inr hn)).set ⟨b, 5, none⟩ u5 (.inr hn)).set ⟨b, 6, none⟩ u6 (.inr hn)).set ⟨b, 7, none⟩ u7 (.inr hn)).set ⟨b, 8, none⟩ u8 (.inr hn)).set ⟨b, 9, none⟩ u9 (.inr hn))
end Go.Proofs
namespace Go.Proofs
open Go Go.RowKit Sm Go.Lib
attribute [local go_sem] Oper.semAt_some
theorem Sm.lt1_less (r q r2 q2 : Int) : decide (cmpB r q r2 q2 < 1) = !lessB r2 q2 r q := by
  rw [cmpB_less]
  have h : lessB r q r2 q2 = true → lessB r2 q2 r q = false := by
    unfold lessB
    simp only [Bool.or_eq_true, Bool.and_eq_true, decide_eq_true_eq, Bool.or_eq_false_iff, Bool.and_eq_false_iff, decide_eq_false_iff_not]
    omega
  cases h1 : lessB r q r2 q2 <;> cases h2 : lessB r2 q2 r q <;> simp_all
theorem Sm.lt0_less (r q r2 q2 : Int) : decide (cmpB r q r2 q2 < 0) = lessB r q r2 q2 := by
  rw [cmpB_less]
  cases h1 : lessB r q r2 q2 <;> cases h2 : lessB r2 q2 r q <;> simp
theorem Sm.may_round {c s r p : Int} (h : mayB c s r p = true) : 0 ≤ r := by
  unfold mayB ckB roB at h
  simp only [Bool.and_eq_true, decide_eq_true_eq] at h
  omega
theorem Sm.chB_pos {c : Int} (h : chB c = true) : 3 ≤ c := by rcases chB_iff.1 h with e | e | e | e <;> omega
/-- a result in a cell of ten -/
theorem Sm.res_box (w : World) : ∃ w1, w.alloc (.cells #[.int .i64 0, .int .i64 0, .int .i64 0, .int .i64 0, .int .i64 0, .int .i64 0, .int .i64 0, .int .i64 0, .int .i64 0, .string ⟨#[]⟩] 38) = w1 ∧ w1.heap[w.heap.size]? = some (.cells #[.int .i64 0, .int .i64 0, .int .i64 0, .int .i64 0, .int .i64 0, .int .i64 0, .int .i64 0, .int .i64 0, .int .i64 0, .string ⟨#[]⟩] 38 (0, 0)) ∧ Below w.heap.size w w1 := ⟨_, rfl, World.alloc_heap_new w _, (Below.refl _ w).alloc (Nat.le_refl _) _⟩
set_option maxRecDepth 100000 in
set_option maxHeartbeats 1000000 in
theorem Sm.rNew_arg (c s : Int) (w : World) (hc : chB c = false) : Calls Tryz.prog 9 #[.int .i64 c, .int .i64 s] w fun e w' => e = .returned (.tuple #[.agg #[.int .i64 0, .int .i64 0, .int .i64 0, .int .i64 0, .int .i64 0, .int .i64 0, .int .i64 0, .int .i64 0, .int .i64 0, .string ⟨#[]⟩], .int .i64 2]) ∧ Below w.heap.size w w' := by
  obtain ⟨w1, hw1, q1, hb1⟩ := res_box w
  have h1 : ∀ W, Calls Tryz.prog 24 #[.int .i64 c] W fun e w' => e = .returned (.bool (chB c)) ∧ W = w' := fun W => Right_any c W
  have h2 : ∀ W, Calls Tryz.prog 25 #[.int .i64 s] W fun e w' => e = .returned (.bool (slB s)) ∧ W = w' := fun W => rSlot_any s W
  obtain ⟨⟨d0, d1, d2, d3, d4, d5, d6, d7, d8, d9⟩, ⟨f0, f1, f2, f3, f4, f5, f6, f7, f8, f9⟩⟩ := ten q1
  have HQ : Hid (∀ W, Below w1.heap.size w1 W → W.heap[w.heap.size]? = some (.cells #[.int .i64 0, .int .i64 0, .int .i64 0, .int .i64 0, .int .i64 0, .int .i64 0, .int .i64 0, .int .i64 0, .int .i64 0, .string ⟨#[]⟩] 38 (0, 0))) := Lib.hid fun W hb => (hb.block _ (Array.getElem?_eq_some_iff.1 q1).1).trans q1
  have HB1 := Lib.hid hb1
  rw [hc] at h1
  clear hc
  clear q1 hb1
  go_enter Tryz.func9, Tryz.ntmps9
  go_wp2_with (first
    | (go_at_call 24; (with_reducible refine (h1 _).mono ?_); rintro e w' ⟨rfl, rfl⟩)
    | (go_at_call 25; (with_reducible refine (h2 _).mono ?_); rintro e w' ⟨rfl, rfl⟩))
  obtain ⟨⟨z0, z1, z2, z3, z4, z5, z6, z7, z8, z9⟩, _⟩ := ten (set10 (HQ.out _ (Below.refl _ _)) (.int .i64 0) (.int .i64 0) (.int .i64 0) (.int .i64 0) (.int .i64 0) (.int .i64 0) (.int .i64 0) (.int .i64 0) (.int .i64 0) (.string ⟨#[]⟩))
  clear d0 d1 d2 d3 d4 d5 d6 d7 d8 d9 f0 f1 f2 f3 f4 f5 f6 f7 f8 f9
  refine bodyPost_ret (v := .tuple #[.agg #[.int .i64 0, .int .i64 0, .int .i64 0, .int .i64 0, .int .i64 0, .int .i64 0, .int .i64 0, .int .i64 0, .int .i64 0, .string ⟨#[]⟩], .int .i64 2]) (by simp only [results, Tryz.results9]; simp [go_sem, z0, z1, z2, z3, z4, z5, z6, z7, z8, z9]) rfl ⟨rfl, ?_⟩
  exact bset10 HB1.out (Nat.le_refl _) (.int .i64 0) (.int .i64 0) (.int .i64 0) (.int .i64 0) (.int .i64 0) (.int .i64 0) (.int .i64 0) (.int .i64 0) (.int .i64 0) (.string ⟨#[]⟩)
set_option maxRecDepth 100000 in
set_option maxHeartbeats 1000000 in
theorem Sm.rNew_range (c s : Int) (w : World) (hc : chB c = true) (hs : slB s = false) : Calls Tryz.prog 9 #[.int .i64 c, .int .i64 s] w fun e w' => e = .returned (.tuple #[.agg #[.int .i64 0, .int .i64 0, .int .i64 0, .int .i64 0, .int .i64 0, .int .i64 0, .int .i64 0, .int .i64 0, .int .i64 0, .string ⟨#[]⟩], .int .i64 4]) ∧ Below w.heap.size w w' := by
  obtain ⟨w1, hw1, q1, hb1⟩ := res_box w
  have h1 : ∀ W, Calls Tryz.prog 24 #[.int .i64 c] W fun e w' => e = .returned (.bool (chB c)) ∧ W = w' := fun W => Right_any c W
  have h2 : ∀ W, Calls Tryz.prog 25 #[.int .i64 s] W fun e w' => e = .returned (.bool (slB s)) ∧ W = w' := fun W => rSlot_any s W
  obtain ⟨⟨d0, d1, d2, d3, d4, d5, d6, d7, d8, d9⟩, ⟨f0, f1, f2, f3, f4, f5, f6, f7, f8, f9⟩⟩ := ten q1
  have HQ : Hid (∀ W, Below w1.heap.size w1 W → W.heap[w.heap.size]? = some (.cells #[.int .i64 0, .int .i64 0, .int .i64 0, .int .i64 0, .int .i64 0, .int .i64 0, .int .i64 0, .int .i64 0, .int .i64 0, .string ⟨#[]⟩] 38 (0, 0))) := Lib.hid fun W hb => (hb.block _ (Array.getElem?_eq_some_iff.1 q1).1).trans q1
  have HB1 := Lib.hid hb1
  rw [hc] at h1
  rw [hs] at h2
  clear hc hs
  clear q1 hb1
  go_enter Tryz.func9, Tryz.ntmps9
  go_wp2_with (first
    | (go_at_call 24; (with_reducible refine (h1 _).mono ?_); rintro e w' ⟨rfl, rfl⟩)
    | (go_at_call 25; (with_reducible refine (h2 _).mono ?_); rintro e w' ⟨rfl, rfl⟩))
  obtain ⟨⟨z0, z1, z2, z3, z4, z5, z6, z7, z8, z9⟩, _⟩ := ten (set10 (HQ.out _ (Below.refl _ _)) (.int .i64 0) (.int .i64 0) (.int .i64 0) (.int .i64 0) (.int .i64 0) (.int .i64 0) (.int .i64 0) (.int .i64 0) (.int .i64 0) (.string ⟨#[]⟩))
  clear d0 d1 d2 d3 d4 d5 d6 d7 d8 d9 f0 f1 f2 f3 f4 f5 f6 f7 f8 f9
  refine bodyPost_ret (v := .tuple #[.agg #[.int .i64 0, .int .i64 0, .int .i64 0, .int .i64 0, .int .i64 0, .int .i64 0, .int .i64 0, .int .i64 0, .int .i64 0, .string ⟨#[]⟩], .int .i64 4]) (by simp only [results, Tryz.results9]; simp [go_sem, z0, z1, z2, z3, z4, z5, z6, z7, z8, z9]) rfl ⟨rfl, ?_⟩
  exact bset10 HB1.out (Nat.le_refl _) (.int .i64 0) (.int .i64 0) (.int .i64 0) (.int .i64 0) (.int .i64 0) (.int .i64 0) (.int .i64 0) (.int .i64 0) (.int .i64 0) (.string ⟨#[]⟩)
set_option maxRecDepth 100000 in
set_option maxHeartbeats 1000000 in
theorem Sm.rNew_yes (c s : Int) (w : World) (hc : chB c = true) (hs : slB s = true) : Calls Tryz.prog 9 #[.int .i64 c, .int .i64 s] w fun e w' => e = .returned (.tuple #[.agg #[.int .i64 c, .int .i64 s, .int .i64 0, .int .i64 (s % c), .int .i64 (-1), .int .i64 0, .int .i64 0, .int .i64 0, .int .i64 0, .string ⟨#[]⟩], .int .i64 0]) ∧ Below w.heap.size w w' := by
  obtain ⟨w1, hw1, q1, hb1⟩ := res_box w
  have h1 : ∀ W, Calls Tryz.prog 24 #[.int .i64 c] W fun e w' => e = .returned (.bool (chB c)) ∧ W = w' := fun W => Right_any c W
  have h2 : ∀ W, Calls Tryz.prog 25 #[.int .i64 s] W fun e w' => e = .returned (.bool (slB s)) ∧ W = w' := fun W => rSlot_any s W
  obtain ⟨⟨d0, d1, d2, d3, d4, d5, d6, d7, d8, d9⟩, ⟨f0, f1, f2, f3, f4, f5, f6, f7, f8, f9⟩⟩ := ten q1
  have HQ : Hid (∀ W, Below w1.heap.size w1 W → W.heap[w.heap.size]? = some (.cells #[.int .i64 0, .int .i64 0, .int .i64 0, .int .i64 0, .int .i64 0, .int .i64 0, .int .i64 0, .int .i64 0, .int .i64 0, .string ⟨#[]⟩] 38 (0, 0))) := Lib.hid fun W hb => (hb.block _ (Array.getElem?_eq_some_iff.1 q1).1).trans q1
  have HB1 := Lib.hid hb1
  rw [hc] at h1
  rw [hs] at h2
  have hs0 : 0 ≤ s := (slB_iff.1 hs).1
  have h3 := fun W => rFirst_any c s W hc hs0
  have h4 := fun W => None27 W
  obtain ⟨o, ho⟩ : ∃ o, s % c = o := ⟨_, rfl⟩
  rw [ho] at h3 ⊢
  clear hc hs ho hs0
  clear q1 hb1
  go_enter Tryz.func9, Tryz.ntmps9
  go_wp2_with (first
    | (go_at_call 24; (with_reducible refine (h1 _).mono ?_); rintro e w' ⟨rfl, rfl⟩)
    | (go_at_call 25; (with_reducible refine (h2 _).mono ?_); rintro e w' ⟨rfl, rfl⟩)
    | (go_at_call 26; (with_reducible refine (h3 _).mono ?_); rintro e w2 ⟨rfl, hb2⟩)
    | (go_at_call 27; (with_reducible refine (h4 _).mono ?_); rintro e w3 ⟨rfl, hb3⟩; have HB3 := Lib.hid (hb2.trans (hb3.mono hb2.size)); have HA := Lib.hid (HQ.out _ HB3.out); clear d0 d1 d2 d3 d4 d5 d6 d7 d8 d9 f0 f1 f2 f3 f4 f5 f6 f7 f8 f9; obtain ⟨⟨d0, d1, d2, d3, d4, d5, d6, d7, d8, d9⟩, ⟨f0, f1, f2, f3, f4, f5, f6, f7, f8, f9⟩⟩ := ten (HQ.out _ HB3.out)))
  obtain ⟨⟨z0, z1, z2, z3, z4, z5, z6, z7, z8, z9⟩, _⟩ := ten (set10 HA.out (.int .i64 c) (.int .i64 s) (.int .i64 0) (.int .i64 o) (.int .i64 (-1)) (.int .i64 0) (.int .i64 0) (.int .i64 0) (.int .i64 0) (.string ⟨#[]⟩))
  clear d0 d1 d2 d3 d4 d5 d6 d7 d8 d9 f0 f1 f2 f3 f4 f5 f6 f7 f8 f9
  refine bodyPost_ret (v := .tuple #[.agg #[.int .i64 c, .int .i64 s, .int .i64 0, .int .i64 o, .int .i64 (-1), .int .i64 0, .int .i64 0, .int .i64 0, .int .i64 0, .string ⟨#[]⟩], .int .i64 0]) (by simp only [results, Tryz.results9]; simp [go_sem, z0, z1, z2, z3, z4, z5, z6, z7, z8, z9]) rfl ⟨rfl, ?_⟩
  exact bset10 (HB1.out.trans (HB3.out.mono HB1.out.size)) (Nat.le_refl _) (.int .i64 c) (.int .i64 s) (.int .i64 0) (.int .i64 o) (.int .i64 (-1)) (.int .i64 0) (.int .i64 0) (.int .i64 0) (.int .i64 0) (.string ⟨#[]⟩)
end Go.Proofs
namespace Go.Proofs
open Go Go.RowKit Sm Go.Lib
attribute [local go_sem] Oper.semAt_some
set_option maxRecDepth 100000 in
set_option maxHeartbeats 2000000 in
theorem Sm.entry1 (m n : Int) (t : ByteArray) (w : World) : Calls Tryz.prog 41 #[.agg #[.int .i64 1, .int .i64 m, .int .i64 n, .string t]] w fun e w' => e = .returned (.bool (decide (m = 0 ∧ n = 0 ∧ t = ⟨#[]⟩))) ∧ Below w.heap.size w w' := by
  have hb1 : Below w.heap.size w (w.alloc (.cells #[.int .i64 1, .int .i64 m, .int .i64 n, .string t] 34)) := (Below.refl _ w).alloc (Nat.le_refl _) _
  have hS := ent_box w (.int .i64 1) (.int .i64 m) (.int .i64 n) (.string t) 34
  obtain ⟨w1, hw1⟩ : ∃ v, w.alloc (.cells #[.int .i64 1, .int .i64 m, .int .i64 n, .string t] 34) = v := ⟨_, rfl⟩
  have hz1 : w.heap.size + 1 = w1.heap.size := by rw [← hw1]; simp
  rw [hw1, hz1] at hS
  rw [hw1] at hb1
  obtain ⟨z0, z1, z2, z3⟩ := hS _ (Below.refl _ _)
  have HB1 := Lib.hid hb1
  clear hS hb1 hz1
  have h1 := fun W => eql34 W 1 1 m 0 n 0 t ⟨#[]⟩
  simp only [true_and] at h1
  obtain ⟨x, hx⟩ : ∃ x, decide (m = 0 ∧ n = 0 ∧ t = ⟨#[]⟩) = x := ⟨_, rfl⟩
  rw [hx] at h1 ⊢
  clear hx
  by_cases hm0 : 0 ≤ m
  · by_cases hm1 : m < 16
    · go_enter Tryz.func41, Tryz.ntmps41
      go_wp2
      go_ret
      exact ⟨rfl, HB1.out⟩
    · go_enter Tryz.func41, Tryz.ntmps41
      go_wp2
      go_ret
      exact ⟨rfl, HB1.out⟩
  · go_enter Tryz.func41, Tryz.ntmps41
    go_wp2
    go_ret
    exact ⟨rfl, HB1.out⟩
set_option maxRecDepth 100000 in
set_option maxHeartbeats 2000000 in
theorem Sm.entry2 (m n : Int) (t : ByteArray) (w : World) : Calls Tryz.prog 41 #[.agg #[.int .i64 2, .int .i64 m, .int .i64 n, .string t]] w fun e w' => e = .returned (.bool (mbB m && decide (n = 0 ∧ t = ⟨#[]⟩))) ∧ Below w.heap.size w w' := by
  have hb1 : Below w.heap.size w (w.alloc (.cells #[.int .i64 2, .int .i64 m, .int .i64 n, .string t] 34)) := (Below.refl _ w).alloc (Nat.le_refl _) _
  have hS := ent_box w (.int .i64 2) (.int .i64 m) (.int .i64 n) (.string t) 34
  obtain ⟨w1, hw1⟩ : ∃ v, w.alloc (.cells #[.int .i64 2, .int .i64 m, .int .i64 n, .string t] 34) = v := ⟨_, rfl⟩
  have hz1 : w.heap.size + 1 = w1.heap.size := by rw [← hw1]; simp
  rw [hw1, hz1] at hS
  rw [hw1] at hb1
  obtain ⟨z0, z1, z2, z3⟩ := hS _ (Below.refl _ _)
  have HB1 := Lib.hid hb1
  clear hS hb1 hz1
  have h1 := fun W => eql34 W 2 2 m m n 0 t ⟨#[]⟩
  simp only [true_and] at h1
  have hM : mbB m = (decide (0 ≤ m) && decide (m < 16)) := by unfold mbB; congr 1; exact decide_eq_decide.2 (by omega)
  rw [hM]
  obtain ⟨x, hx⟩ : ∃ x, decide (n = 0 ∧ t = ⟨#[]⟩) = x := ⟨_, rfl⟩
  rw [hx] at h1 ⊢
  clear hx hM
  by_cases hm0 : 0 ≤ m
  · by_cases hm1 : m < 16
    · go_enter Tryz.func41, Tryz.ntmps41
      go_wp2
      go_ret
      exact ⟨by simp [hm0, hm1], HB1.out⟩
    · go_enter Tryz.func41, Tryz.ntmps41
      go_wp2
      go_ret
      exact ⟨by simp; intros; omega, HB1.out⟩
  · go_enter Tryz.func41, Tryz.ntmps41
    go_wp2
    go_ret
    exact ⟨by simp; intros; omega, HB1.out⟩
set_option maxRecDepth 100000 in
set_option maxHeartbeats 2000000 in
theorem Sm.entry3 (m n : Int) (t : ByteArray) (w : World) : Calls Tryz.prog 41 #[.agg #[.int .i64 3, .int .i64 m, .int .i64 n, .string t]] w fun e w' => e = .returned (.bool (mbB m && decide (n = 0 ∧ t = ⟨#[]⟩))) ∧ Below w.heap.size w w' := by
  have hb1 : Below w.heap.size w (w.alloc (.cells #[.int .i64 3, .int .i64 m, .int .i64 n, .string t] 34)) := (Below.refl _ w).alloc (Nat.le_refl _) _
  have hS := ent_box w (.int .i64 3) (.int .i64 m) (.int .i64 n) (.string t) 34
  obtain ⟨w1, hw1⟩ : ∃ v, w.alloc (.cells #[.int .i64 3, .int .i64 m, .int .i64 n, .string t] 34) = v := ⟨_, rfl⟩
  have hz1 : w.heap.size + 1 = w1.heap.size := by rw [← hw1]; simp
  rw [hw1, hz1] at hS
  rw [hw1] at hb1
  obtain ⟨z0, z1, z2, z3⟩ := hS _ (Below.refl _ _)
  have HB1 := Lib.hid hb1
  clear hS hb1 hz1
  have h1 := fun W => eql34 W 3 3 m m n 0 t ⟨#[]⟩
  simp only [true_and] at h1
  have hM : mbB m = (decide (0 ≤ m) && decide (m < 16)) := by unfold mbB; congr 1; exact decide_eq_decide.2 (by omega)
  rw [hM]
  obtain ⟨x, hx⟩ : ∃ x, decide (n = 0 ∧ t = ⟨#[]⟩) = x := ⟨_, rfl⟩
  rw [hx] at h1 ⊢
  clear hx hM
  by_cases hm0 : 0 ≤ m
  · by_cases hm1 : m < 16
    · go_enter Tryz.func41, Tryz.ntmps41
      go_wp2
      go_ret
      exact ⟨by simp [hm0, hm1], HB1.out⟩
    · go_enter Tryz.func41, Tryz.ntmps41
      go_wp2
      go_ret
      exact ⟨by simp; intros; omega, HB1.out⟩
  · go_enter Tryz.func41, Tryz.ntmps41
    go_wp2
    go_ret
    exact ⟨by simp; intros; omega, HB1.out⟩
set_option maxRecDepth 100000 in
set_option maxHeartbeats 2000000 in
theorem Sm.entry4 (m n : Int) (t : ByteArray) (w : World) (ht : t.size ≤ 1000000) : Calls Tryz.prog 41 #[.agg #[.int .i64 4, .int .i64 m, .int .i64 n, .string t]] w fun e w' => e = .returned (.bool (mbB m && (decide (1 ≤ n) && decide (n ≤ 2147483647)) && decide (checkN t = 0))) ∧ Below w.heap.size w w' := by
  have hb1 : Below w.heap.size w (w.alloc (.cells #[.int .i64 4, .int .i64 m, .int .i64 n, .string t] 34)) := (Below.refl _ w).alloc (Nat.le_refl _) _
  have hS := ent_box w (.int .i64 4) (.int .i64 m) (.int .i64 n) (.string t) 34
  obtain ⟨w1, hw1⟩ : ∃ v, w.alloc (.cells #[.int .i64 4, .int .i64 m, .int .i64 n, .string t] 34) = v := ⟨_, rfl⟩
  have hz1 : w.heap.size + 1 = w1.heap.size := by rw [← hw1]; simp
  rw [hw1, hz1] at hS
  rw [hw1] at hb1
  obtain ⟨z0, z1, z2, z3⟩ := hS _ (Below.refl _ _)
  have HB1 := Lib.hid hb1
  clear hS hb1 hz1
  have hC := refCheck_any t w1 ht
  have hM : mbB m = (decide (0 ≤ m) && decide (m < 16)) := by unfold mbB; congr 1; exact decide_eq_decide.2 (by omega)
  rw [hM]
  obtain ⟨q, hq⟩ : ∃ x, checkN t = x := ⟨_, rfl⟩
  rw [hq] at hC ⊢
  clear hq hM
  by_cases hm0 : 0 ≤ m
  · by_cases hm1 : m < 16
    · by_cases hn0 : 1 ≤ n
      · by_cases hn1 : n ≤ 2147483647
        · go_enter Tryz.func41, Tryz.ntmps41
          go_wp2_with (go_at_call 53; (with_reducible refine hC.mono ?_); rintro e w2 ⟨rfl, hb2⟩)
          go_ret
          exact ⟨by simp [hm0, hm1, hn0, hn1]; rfl, HB1.out.trans (hb2.mono HB1.out.size)⟩
        · go_enter Tryz.func41, Tryz.ntmps41
          go_wp2
          go_ret
          exact ⟨by simp; intros; omega, HB1.out⟩
      · go_enter Tryz.func41, Tryz.ntmps41
        go_wp2
        go_ret
        exact ⟨by simp; intros; omega, HB1.out⟩
    · go_enter Tryz.func41, Tryz.ntmps41
      go_wp2
      go_ret
      exact ⟨by simp; intros; omega, HB1.out⟩
  · go_enter Tryz.func41, Tryz.ntmps41
    go_wp2
    go_ret
    exact ⟨by simp; intros; omega, HB1.out⟩
set_option maxRecDepth 100000 in
set_option maxHeartbeats 2000000 in
theorem Sm.entry0 (k m n : Int) (t : ByteArray) (w : World) (h1 : k ≠ 1) (h2 : k ≠ 2) (h3 : k ≠ 3) (h4 : k ≠ 4) : Calls Tryz.prog 41 #[.agg #[.int .i64 k, .int .i64 m, .int .i64 n, .string t]] w fun e w' => e = .returned (.bool (false)) ∧ Below w.heap.size w w' := by
  have hb1 : Below w.heap.size w (w.alloc (.cells #[.int .i64 k, .int .i64 m, .int .i64 n, .string t] 34)) := (Below.refl _ w).alloc (Nat.le_refl _) _
  have hS := ent_box w (.int .i64 k) (.int .i64 m) (.int .i64 n) (.string t) 34
  obtain ⟨w1, hw1⟩ : ∃ v, w.alloc (.cells #[.int .i64 k, .int .i64 m, .int .i64 n, .string t] 34) = v := ⟨_, rfl⟩
  have hz1 : w.heap.size + 1 = w1.heap.size := by rw [← hw1]; simp
  rw [hw1, hz1] at hS
  rw [hw1] at hb1
  obtain ⟨z0, z1, z2, z3⟩ := hS _ (Below.refl _ _)
  have HB1 := Lib.hid hb1
  clear hS hb1 hz1
  have e1 : (k == 1) = false := by simpa using h1
  have e2 : (k == 2) = false := by simpa using h2
  have e3 : (k == 3) = false := by simpa using h3
  have e4 : (k == 4) = false := by simpa using h4
  clear h1 h2 h3 h4
  by_cases hm0 : 0 ≤ m
  · by_cases hm1 : m < 16
    · go_enter Tryz.func41, Tryz.ntmps41
      go_wp2
      go_ret
      exact ⟨rfl, HB1.out⟩
    · go_enter Tryz.func41, Tryz.ntmps41
      go_wp2
      go_ret
      exact ⟨rfl, HB1.out⟩
  · go_enter Tryz.func41, Tryz.ntmps41
    go_wp2
    go_ret
    exact ⟨rfl, HB1.out⟩
theorem Sm.entry_any (k m n : Int) (t : ByteArray) (w : World) (ht : t.size ≤ 1000000) : Calls Tryz.prog 41 #[.agg #[.int .i64 k, .int .i64 m, .int .i64 n, .string t]] w fun e w' => e = .returned (.bool (entB k m n t)) ∧ Below w.heap.size w w' := by
  unfold entB
  by_cases h1 : k = 1
  · subst h1; exact entry1 m n t w
  · rw [if_neg h1]
    by_cases h2 : k = 2
    · subst h2; exact entry2 m n t w
    · by_cases h3 : k = 3
      · subst h3; exact entry3 m n t w
      · rw [if_neg (by omega)]
        by_cases h4 : k = 4
        · subst h4; exact entry4 m n t w ht
        · rw [if_neg h4]
          exact entry0 k m n t w h1 h2 h3 h4
end Go.Proofs
namespace Go.Proofs
open Go Go.RowKit Sm Go.Lib
attribute [local go_sem] Oper.semAt_some
set_option maxRecDepth 100000 in
set_option maxHeartbeats 2000000 in
theorem Sm.rPromise_arg1 (r q : Int) (M : AcM) (w : World) (hm : mayB M.c M.s r q = false) :
    Calls Tryz.prog 35 #[.agg #[.int .i64 M.c, .int .i64 M.s, .int .i64 M.pr, .int .i64 M.pp, .int .i64 M.ar, .int .i64 M.ap, .int .i64 M.k, .int .i64 M.m, .int .i64 M.n, .string M.t], .agg #[.int .i64 r, .int .i64 q]] w fun e w' => e = .returned (.tuple #[.agg #[.int .i64 M.c, .int .i64 M.s, .int .i64 M.pr, .int .i64 M.pp, .int .i64 M.ar, .int .i64 M.ap, .int .i64 M.k, .int .i64 M.m, .int .i64 M.n, .string M.t], .agg #[.int .i64 0, .int .i64 0, .int .i64 0, .int .i64 0, .int .i64 0, .string ⟨#[]⟩], .bool false, .int .i64 2]) ∧ Below w.heap.size w w' := by
  obtain ⟨w4, hw4, k2, k3, k4, k5, hb4, hz4⟩ := four_new w (.cells #[.int .i64 M.c, .int .i64 M.s, .int .i64 M.pr, .int .i64 M.pp, .int .i64 M.ar, .int .i64 M.ap, .int .i64 M.k, .int .i64 M.m, .int .i64 M.n, .string M.t] 38) (.cells #[.int .i64 r, .int .i64 q] 31) (.cells #[.int .i64 0, .int .i64 0, .int .i64 0, .int .i64 0, .int .i64 0, .int .i64 0, .int .i64 0, .int .i64 0, .int .i64 0, .string ⟨#[]⟩] 38) (.cells #[.int .i64 0, .int .i64 0, .int .i64 0, .int .i64 0, .int .i64 0, .string ⟨#[]⟩] 36)
  have HM := Lib.hid (fun W => rMay_any M.c M.s r q W)
  have HLs := Lib.hid (fun W => Less_any M.pr M.pp r q W)
  have HQ : Hid (∀ W, Below w4.heap.size w4 W → (W.heap[w.heap.size]? = some (.cells #[.int .i64 M.c, .int .i64 M.s, .int .i64 M.pr, .int .i64 M.pp, .int .i64 M.ar, .int .i64 M.ap, .int .i64 M.k, .int .i64 M.m, .int .i64 M.n, .string M.t] 38 (0, 0)) ∧ W.heap[w.heap.size + 1]? = some (.cells #[.int .i64 r, .int .i64 q] 31 (0, 0))) ∧ W.heap[w.heap.size + 2]? = some (.cells #[.int .i64 0, .int .i64 0, .int .i64 0, .int .i64 0, .int .i64 0, .int .i64 0, .int .i64 0, .int .i64 0, .int .i64 0, .string ⟨#[]⟩] 38 (0, 0)) ∧ W.heap[w.heap.size + 3]? = some (.cells #[.int .i64 0, .int .i64 0, .int .i64 0, .int .i64 0, .int .i64 0, .string ⟨#[]⟩] 36 (0, 0))) := Lib.hid fun W hb =>
    ⟨⟨(hb.block _ (by omega)).trans k2, (hb.block _ (by omega)).trans k3⟩, (hb.block _ (by omega)).trans k4, (hb.block _ (by omega)).trans k5⟩
  have HB4 := Lib.hid hb4
  obtain ⟨⟨d0, d1, d2, d3, d4, d5, d6, d7, d8, d9⟩, _⟩ := ten k2
  obtain ⟨⟨b0, b1⟩, _⟩ := two k3
  clear k2 k3 k4 k5 hb4
  rw [hm] at HM
  clear hm HLs
  go_enter Tryz.func35, Tryz.ntmps35
  go_wp2_with (go_at_call 40; (with_reducible refine (HM.out _).mono ?_); rintro e w5 ⟨rfl, hb5⟩; have HB5 := Lib.hid hb5; clear hb5 d0 d1 d2 d3 d4 d5 d6 d7 d8 d9 b0 b1; obtain ⟨⟨d0, d1, d2, d3, d4, d5, d6, d7, d8, d9⟩, _⟩ := ten (HQ.out _ HB5.out).1.1; obtain ⟨⟨b0, b1⟩, _⟩ := two (HQ.out _ HB5.out).1.2; obtain ⟨_, ⟨f0, f1, f2, f3, f4, f5, f6, f7, f8, f9⟩⟩ := ten (HQ.out _ HB5.out).2.1; obtain ⟨_, ⟨g0, g1, g2, g3, g4, g5⟩⟩ := six (HQ.out _ HB5.out).2.2)
  have hs := set6 (other10 (b := w.heap.size + 2) (HQ.out _ HB5.out).2.2 (by omega) (.int .i64 M.c) (.int .i64 M.s) (.int .i64 M.pr) (.int .i64 M.pp) (.int .i64 M.ar) (.int .i64 M.ap) (.int .i64 M.k) (.int .i64 M.m) (.int .i64 M.n) (.string M.t)) (.int .i64 0) (.int .i64 0) (.int .i64 0) (.int .i64 0) (.int .i64 0) (.string ⟨#[]⟩)
  have ht := other6 (b := w.heap.size + 3) (set10 (HQ.out _ HB5.out).2.1 (.int .i64 M.c) (.int .i64 M.s) (.int .i64 M.pr) (.int .i64 M.pp) (.int .i64 M.ar) (.int .i64 M.ap) (.int .i64 M.k) (.int .i64 M.m) (.int .i64 M.n) (.string M.t)) (by omega) (.int .i64 0) (.int .i64 0) (.int .i64 0) (.int .i64 0) (.int .i64 0) (.string ⟨#[]⟩)
  obtain ⟨⟨z0, z1, z2, z3, z4, z5, z6, z7, z8, z9⟩, _⟩ := ten ht
  obtain ⟨⟨y0, y1, y2, y3, y4, y5⟩, _⟩ := six hs
  clear d0 d1 d2 d3 d4 d5 d6 d7 d8 d9 b0 b1 f0 f1 f2 f3 f4 f5 f6 f7 f8 f9 g0 g1 g2 g3 g4 g5 hs ht
  refine bodyPost_ret (v := .tuple #[.agg #[.int .i64 M.c, .int .i64 M.s, .int .i64 M.pr, .int .i64 M.pp, .int .i64 M.ar, .int .i64 M.ap, .int .i64 M.k, .int .i64 M.m, .int .i64 M.n, .string M.t], .agg #[.int .i64 0, .int .i64 0, .int .i64 0, .int .i64 0, .int .i64 0, .string ⟨#[]⟩], .bool false, .int .i64 2]) (by simp only [results, Tryz.results35]; simp [go_sem, z0, z1, z2, z3, z4, z5, z6, z7, z8, z9, y0, y1, y2, y3, y4, y5]) rfl ⟨rfl, ?_⟩
  exact bset6 (bset10 (HB4.out.trans (HB5.out.mono HB4.out.size)) (by omega) (.int .i64 M.c) (.int .i64 M.s) (.int .i64 M.pr) (.int .i64 M.pp) (.int .i64 M.ar) (.int .i64 M.ap) (.int .i64 M.k) (.int .i64 M.m) (.int .i64 M.n) (.string M.t)) (by omega) (.int .i64 0) (.int .i64 0) (.int .i64 0) (.int .i64 0) (.int .i64 0) (.string ⟨#[]⟩)
set_option maxRecDepth 100000 in
set_option maxHeartbeats 2000000 in
theorem Sm.rPromise_arg2 (r q : Int) (M : AcM) (w : World) (hm : mayB M.c M.s r q = true) (hr : r = 0) :
    Calls Tryz.prog 35 #[.agg #[.int .i64 M.c, .int .i64 M.s, .int .i64 M.pr, .int .i64 M.pp, .int .i64 M.ar, .int .i64 M.ap, .int .i64 M.k, .int .i64 M.m, .int .i64 M.n, .string M.t], .agg #[.int .i64 r, .int .i64 q]] w fun e w' => e = .returned (.tuple #[.agg #[.int .i64 M.c, .int .i64 M.s, .int .i64 M.pr, .int .i64 M.pp, .int .i64 M.ar, .int .i64 M.ap, .int .i64 M.k, .int .i64 M.m, .int .i64 M.n, .string M.t], .agg #[.int .i64 0, .int .i64 0, .int .i64 0, .int .i64 0, .int .i64 0, .string ⟨#[]⟩], .bool false, .int .i64 2]) ∧ Below w.heap.size w w' := by
  obtain ⟨w4, hw4, k2, k3, k4, k5, hb4, hz4⟩ := four_new w (.cells #[.int .i64 M.c, .int .i64 M.s, .int .i64 M.pr, .int .i64 M.pp, .int .i64 M.ar, .int .i64 M.ap, .int .i64 M.k, .int .i64 M.m, .int .i64 M.n, .string M.t] 38) (.cells #[.int .i64 r, .int .i64 q] 31) (.cells #[.int .i64 0, .int .i64 0, .int .i64 0, .int .i64 0, .int .i64 0, .int .i64 0, .int .i64 0, .int .i64 0, .int .i64 0, .string ⟨#[]⟩] 38) (.cells #[.int .i64 0, .int .i64 0, .int .i64 0, .int .i64 0, .int .i64 0, .string ⟨#[]⟩] 36)
  have HM := Lib.hid (fun W => rMay_any M.c M.s r q W)
  have HLs := Lib.hid (fun W => Less_any M.pr M.pp r q W)
  have HQ : Hid (∀ W, Below w4.heap.size w4 W → (W.heap[w.heap.size]? = some (.cells #[.int .i64 M.c, .int .i64 M.s, .int .i64 M.pr, .int .i64 M.pp, .int .i64 M.ar, .int .i64 M.ap, .int .i64 M.k, .int .i64 M.m, .int .i64 M.n, .string M.t] 38 (0, 0)) ∧ W.heap[w.heap.size + 1]? = some (.cells #[.int .i64 r, .int .i64 q] 31 (0, 0))) ∧ W.heap[w.heap.size + 2]? = some (.cells #[.int .i64 0, .int .i64 0, .int .i64 0, .int .i64 0, .int .i64 0, .int .i64 0, .int .i64 0, .int .i64 0, .int .i64 0, .string ⟨#[]⟩] 38 (0, 0)) ∧ W.heap[w.heap.size + 3]? = some (.cells #[.int .i64 0, .int .i64 0, .int .i64 0, .int .i64 0, .int .i64 0, .string ⟨#[]⟩] 36 (0, 0))) := Lib.hid fun W hb =>
    ⟨⟨(hb.block _ (by omega)).trans k2, (hb.block _ (by omega)).trans k3⟩, (hb.block _ (by omega)).trans k4, (hb.block _ (by omega)).trans k5⟩
  have HB4 := Lib.hid hb4
  obtain ⟨⟨d0, d1, d2, d3, d4, d5, d6, d7, d8, d9⟩, _⟩ := ten k2
  obtain ⟨⟨b0, b1⟩, _⟩ := two k3
  clear k2 k3 k4 k5 hb4
  rw [hm] at HM
  subst hr
  clear hm HLs
  go_enter Tryz.func35, Tryz.ntmps35
  go_wp2_with (go_at_call 40; (with_reducible refine (HM.out _).mono ?_); rintro e w5 ⟨rfl, hb5⟩; have HB5 := Lib.hid hb5; clear hb5 d0 d1 d2 d3 d4 d5 d6 d7 d8 d9 b0 b1; obtain ⟨⟨d0, d1, d2, d3, d4, d5, d6, d7, d8, d9⟩, _⟩ := ten (HQ.out _ HB5.out).1.1; obtain ⟨⟨b0, b1⟩, _⟩ := two (HQ.out _ HB5.out).1.2; obtain ⟨_, ⟨f0, f1, f2, f3, f4, f5, f6, f7, f8, f9⟩⟩ := ten (HQ.out _ HB5.out).2.1; obtain ⟨_, ⟨g0, g1, g2, g3, g4, g5⟩⟩ := six (HQ.out _ HB5.out).2.2)
  have hs := set6 (other10 (b := w.heap.size + 2) (HQ.out _ HB5.out).2.2 (by omega) (.int .i64 M.c) (.int .i64 M.s) (.int .i64 M.pr) (.int .i64 M.pp) (.int .i64 M.ar) (.int .i64 M.ap) (.int .i64 M.k) (.int .i64 M.m) (.int .i64 M.n) (.string M.t)) (.int .i64 0) (.int .i64 0) (.int .i64 0) (.int .i64 0) (.int .i64 0) (.string ⟨#[]⟩)
  have ht := other6 (b := w.heap.size + 3) (set10 (HQ.out _ HB5.out).2.1 (.int .i64 M.c) (.int .i64 M.s) (.int .i64 M.pr) (.int .i64 M.pp) (.int .i64 M.ar) (.int .i64 M.ap) (.int .i64 M.k) (.int .i64 M.m) (.int .i64 M.n) (.string M.t)) (by omega) (.int .i64 0) (.int .i64 0) (.int .i64 0) (.int .i64 0) (.int .i64 0) (.string ⟨#[]⟩)
  obtain ⟨⟨z0, z1, z2, z3, z4, z5, z6, z7, z8, z9⟩, _⟩ := ten ht
  obtain ⟨⟨y0, y1, y2, y3, y4, y5⟩, _⟩ := six hs
  clear d0 d1 d2 d3 d4 d5 d6 d7 d8 d9 b0 b1 f0 f1 f2 f3 f4 f5 f6 f7 f8 f9 g0 g1 g2 g3 g4 g5 hs ht
  refine bodyPost_ret (v := .tuple #[.agg #[.int .i64 M.c, .int .i64 M.s, .int .i64 M.pr, .int .i64 M.pp, .int .i64 M.ar, .int .i64 M.ap, .int .i64 M.k, .int .i64 M.m, .int .i64 M.n, .string M.t], .agg #[.int .i64 0, .int .i64 0, .int .i64 0, .int .i64 0, .int .i64 0, .string ⟨#[]⟩], .bool false, .int .i64 2]) (by simp only [results, Tryz.results35]; simp [go_sem, z0, z1, z2, z3, z4, z5, z6, z7, z8, z9, y0, y1, y2, y3, y4, y5]) rfl ⟨rfl, ?_⟩
  exact bset6 (bset10 (HB4.out.trans (HB5.out.mono HB4.out.size)) (by omega) (.int .i64 M.c) (.int .i64 M.s) (.int .i64 M.pr) (.int .i64 M.pp) (.int .i64 M.ar) (.int .i64 M.ap) (.int .i64 M.k) (.int .i64 M.m) (.int .i64 M.n) (.string M.t)) (by omega) (.int .i64 0) (.int .i64 0) (.int .i64 0) (.int .i64 0) (.int .i64 0) (.string ⟨#[]⟩)
set_option maxRecDepth 100000 in
set_option maxHeartbeats 2000000 in
theorem Sm.rPromise_low (r q : Int) (M : AcM) (w : World) (hm : mayB M.c M.s r q = true) (hr : (r == 0) = false) (hl : lessB M.pr M.pp r q = false) :
    Calls Tryz.prog 35 #[.agg #[.int .i64 M.c, .int .i64 M.s, .int .i64 M.pr, .int .i64 M.pp, .int .i64 M.ar, .int .i64 M.ap, .int .i64 M.k, .int .i64 M.m, .int .i64 M.n, .string M.t], .agg #[.int .i64 r, .int .i64 q]] w fun e w' => e = .returned (.tuple #[.agg #[.int .i64 M.c, .int .i64 M.s, .int .i64 M.pr, .int .i64 M.pp, .int .i64 M.ar, .int .i64 M.ap, .int .i64 M.k, .int .i64 M.m, .int .i64 M.n, .string M.t], .agg #[.int .i64 0, .int .i64 0, .int .i64 0, .int .i64 0, .int .i64 0, .string ⟨#[]⟩], .bool false, .int .i64 0]) ∧ Below w.heap.size w w' := by
  obtain ⟨w4, hw4, k2, k3, k4, k5, hb4, hz4⟩ := four_new w (.cells #[.int .i64 M.c, .int .i64 M.s, .int .i64 M.pr, .int .i64 M.pp, .int .i64 M.ar, .int .i64 M.ap, .int .i64 M.k, .int .i64 M.m, .int .i64 M.n, .string M.t] 38) (.cells #[.int .i64 r, .int .i64 q] 31) (.cells #[.int .i64 0, .int .i64 0, .int .i64 0, .int .i64 0, .int .i64 0, .int .i64 0, .int .i64 0, .int .i64 0, .int .i64 0, .string ⟨#[]⟩] 38) (.cells #[.int .i64 0, .int .i64 0, .int .i64 0, .int .i64 0, .int .i64 0, .string ⟨#[]⟩] 36)
  have HM := Lib.hid (fun W => rMay_any M.c M.s r q W)
  have HLs := Lib.hid (fun W => Less_any M.pr M.pp r q W)
  have HQ : Hid (∀ W, Below w4.heap.size w4 W → (W.heap[w.heap.size]? = some (.cells #[.int .i64 M.c, .int .i64 M.s, .int .i64 M.pr, .int .i64 M.pp, .int .i64 M.ar, .int .i64 M.ap, .int .i64 M.k, .int .i64 M.m, .int .i64 M.n, .string M.t] 38 (0, 0)) ∧ W.heap[w.heap.size + 1]? = some (.cells #[.int .i64 r, .int .i64 q] 31 (0, 0))) ∧ W.heap[w.heap.size + 2]? = some (.cells #[.int .i64 0, .int .i64 0, .int .i64 0, .int .i64 0, .int .i64 0, .int .i64 0, .int .i64 0, .int .i64 0, .int .i64 0, .string ⟨#[]⟩] 38 (0, 0)) ∧ W.heap[w.heap.size + 3]? = some (.cells #[.int .i64 0, .int .i64 0, .int .i64 0, .int .i64 0, .int .i64 0, .string ⟨#[]⟩] 36 (0, 0))) := Lib.hid fun W hb =>
    ⟨⟨(hb.block _ (by omega)).trans k2, (hb.block _ (by omega)).trans k3⟩, (hb.block _ (by omega)).trans k4, (hb.block _ (by omega)).trans k5⟩
  have HB4 := Lib.hid hb4
  obtain ⟨⟨d0, d1, d2, d3, d4, d5, d6, d7, d8, d9⟩, _⟩ := ten k2
  obtain ⟨⟨b0, b1⟩, _⟩ := two k3
  clear k2 k3 k4 k5 hb4
  rw [hm] at HM
  rw [hl] at HLs
  clear hm hl
  go_enter Tryz.func35, Tryz.ntmps35
  go_wp2_with (first
    | (go_at_call 40; (with_reducible refine (HM.out _).mono ?_); rintro e w5 ⟨rfl, hb5⟩; have HB5 := Lib.hid hb5; clear hb5 d0 d1 d2 d3 d4 d5 d6 d7 d8 d9 b0 b1; obtain ⟨⟨d0, d1, d2, d3, d4, d5, d6, d7, d8, d9⟩, _⟩ := ten (HQ.out _ HB5.out).1.1; obtain ⟨⟨b0, b1⟩, _⟩ := two (HQ.out _ HB5.out).1.2; obtain ⟨_, ⟨f0, f1, f2, f3, f4, f5, f6, f7, f8, f9⟩⟩ := ten (HQ.out _ HB5.out).2.1; obtain ⟨_, ⟨g0, g1, g2, g3, g4, g5⟩⟩ := six (HQ.out _ HB5.out).2.2)
    | (go_at_call 42; (with_reducible refine (HLs.out _).mono ?_); rintro e w6 ⟨rfl, hb6⟩; have HB6 := Lib.hid (HB5.out.trans (hb6.mono HB5.out.size)); clear hb6 d0 d1 d2 d3 d4 d5 d6 d7 d8 d9 b0 b1 f0 f1 f2 f3 f4 f5 f6 f7 f8 f9 g0 g1 g2 g3 g4 g5; obtain ⟨⟨d0, d1, d2, d3, d4, d5, d6, d7, d8, d9⟩, _⟩ := ten (HQ.out _ HB6.out).1.1; obtain ⟨⟨b0, b1⟩, _⟩ := two (HQ.out _ HB6.out).1.2; obtain ⟨_, ⟨f0, f1, f2, f3, f4, f5, f6, f7, f8, f9⟩⟩ := ten (HQ.out _ HB6.out).2.1; obtain ⟨_, ⟨g0, g1, g2, g3, g4, g5⟩⟩ := six (HQ.out _ HB6.out).2.2))
  have hs := set6 (other10 (b := w.heap.size + 2) (HQ.out _ HB6.out).2.2 (by omega) (.int .i64 M.c) (.int .i64 M.s) (.int .i64 M.pr) (.int .i64 M.pp) (.int .i64 M.ar) (.int .i64 M.ap) (.int .i64 M.k) (.int .i64 M.m) (.int .i64 M.n) (.string M.t)) (.int .i64 0) (.int .i64 0) (.int .i64 0) (.int .i64 0) (.int .i64 0) (.string ⟨#[]⟩)
  have ht := other6 (b := w.heap.size + 3) (set10 (HQ.out _ HB6.out).2.1 (.int .i64 M.c) (.int .i64 M.s) (.int .i64 M.pr) (.int .i64 M.pp) (.int .i64 M.ar) (.int .i64 M.ap) (.int .i64 M.k) (.int .i64 M.m) (.int .i64 M.n) (.string M.t)) (by omega) (.int .i64 0) (.int .i64 0) (.int .i64 0) (.int .i64 0) (.int .i64 0) (.string ⟨#[]⟩)
  obtain ⟨⟨z0, z1, z2, z3, z4, z5, z6, z7, z8, z9⟩, _⟩ := ten ht
  obtain ⟨⟨y0, y1, y2, y3, y4, y5⟩, _⟩ := six hs
  clear d0 d1 d2 d3 d4 d5 d6 d7 d8 d9 b0 b1 f0 f1 f2 f3 f4 f5 f6 f7 f8 f9 g0 g1 g2 g3 g4 g5 hs ht
  refine bodyPost_ret (v := .tuple #[.agg #[.int .i64 M.c, .int .i64 M.s, .int .i64 M.pr, .int .i64 M.pp, .int .i64 M.ar, .int .i64 M.ap, .int .i64 M.k, .int .i64 M.m, .int .i64 M.n, .string M.t], .agg #[.int .i64 0, .int .i64 0, .int .i64 0, .int .i64 0, .int .i64 0, .string ⟨#[]⟩], .bool false, .int .i64 0]) (by simp only [results, Tryz.results35]; simp [go_sem, z0, z1, z2, z3, z4, z5, z6, z7, z8, z9, y0, y1, y2, y3, y4, y5]) rfl ⟨rfl, ?_⟩
  exact bset6 (bset10 (HB4.out.trans (HB6.out.mono HB4.out.size)) (by omega) (.int .i64 M.c) (.int .i64 M.s) (.int .i64 M.pr) (.int .i64 M.pp) (.int .i64 M.ar) (.int .i64 M.ap) (.int .i64 M.k) (.int .i64 M.m) (.int .i64 M.n) (.string M.t)) (by omega) (.int .i64 0) (.int .i64 0) (.int .i64 0) (.int .i64 0) (.int .i64 0) (.string ⟨#[]⟩)
theorem Sm.prom38 {w : World} {p : Nat} {a0 a1 a2 a3 a4 a5 a6 a7 a8 a9 : Value} {t : TypeId} (h : w.heap[p]? = some (.cells #[a0, a1, a2, a3, a4, a5, a6, a7, a8, a9] t (0, 0))) (u v : Value) : ((w.setCell ⟨p, 2, none⟩ u).setCell ⟨p, 3, none⟩ v).heap[p]? = some (.cells #[a0, a1, u, v, a4, a5, a6, a7, a8, a9] t (0, 0)) := by
  have h10 := heap_setCells (i := 3) (u := v) (heap_setCells (i := 2) (u := u) h)
  simpa only [List.setIfInBounds_toArray, List.set_cons_zero, List.set_cons_succ] using h10
set_option maxRecDepth 100000 in
set_option maxHeartbeats 2000000 in
theorem Sm.rPromise_yes (r q : Int) (M : AcM) (w : World) (hm : mayB M.c M.s r q = true) (hr : (r == 0) = false) (hl : lessB M.pr M.pp r q = true) :
    Calls Tryz.prog 35 #[.agg #[.int .i64 M.c, .int .i64 M.s, .int .i64 M.pr, .int .i64 M.pp, .int .i64 M.ar, .int .i64 M.ap, .int .i64 M.k, .int .i64 M.m, .int .i64 M.n, .string M.t], .agg #[.int .i64 r, .int .i64 q]] w fun e w' => e = .returned (.tuple #[.agg #[.int .i64 M.c, .int .i64 M.s, .int .i64 r, .int .i64 q, .int .i64 M.ar, .int .i64 M.ap, .int .i64 M.k, .int .i64 M.m, .int .i64 M.n, .string M.t], .agg #[.int .i64 M.ar, .int .i64 M.ap, .int .i64 M.k, .int .i64 M.m, .int .i64 M.n, .string M.t], .bool true, .int .i64 0]) ∧ Below w.heap.size w w' := by
  obtain ⟨w4, hw4, k2, k3, k4, k5, hb4, hz4⟩ := four_new w (.cells #[.int .i64 M.c, .int .i64 M.s, .int .i64 M.pr, .int .i64 M.pp, .int .i64 M.ar, .int .i64 M.ap, .int .i64 M.k, .int .i64 M.m, .int .i64 M.n, .string M.t] 38) (.cells #[.int .i64 r, .int .i64 q] 31) (.cells #[.int .i64 0, .int .i64 0, .int .i64 0, .int .i64 0, .int .i64 0, .int .i64 0, .int .i64 0, .int .i64 0, .int .i64 0, .string ⟨#[]⟩] 38) (.cells #[.int .i64 0, .int .i64 0, .int .i64 0, .int .i64 0, .int .i64 0, .string ⟨#[]⟩] 36)
  have HM := Lib.hid (fun W => rMay_any M.c M.s r q W)
  have HLs := Lib.hid (fun W => Less_any M.pr M.pp r q W)
  have HQ : Hid (∀ W, Below w4.heap.size w4 W → (W.heap[w.heap.size]? = some (.cells #[.int .i64 M.c, .int .i64 M.s, .int .i64 M.pr, .int .i64 M.pp, .int .i64 M.ar, .int .i64 M.ap, .int .i64 M.k, .int .i64 M.m, .int .i64 M.n, .string M.t] 38 (0, 0)) ∧ W.heap[w.heap.size + 1]? = some (.cells #[.int .i64 r, .int .i64 q] 31 (0, 0))) ∧ W.heap[w.heap.size + 2]? = some (.cells #[.int .i64 0, .int .i64 0, .int .i64 0, .int .i64 0, .int .i64 0, .int .i64 0, .int .i64 0, .int .i64 0, .int .i64 0, .string ⟨#[]⟩] 38 (0, 0)) ∧ W.heap[w.heap.size + 3]? = some (.cells #[.int .i64 0, .int .i64 0, .int .i64 0, .int .i64 0, .int .i64 0, .string ⟨#[]⟩] 36 (0, 0))) := Lib.hid fun W hb =>
    ⟨⟨(hb.block _ (by omega)).trans k2, (hb.block _ (by omega)).trans k3⟩, (hb.block _ (by omega)).trans k4, (hb.block _ (by omega)).trans k5⟩
  have HB4 := Lib.hid hb4
  obtain ⟨⟨d0, d1, d2, d3, d4, d5, d6, d7, d8, d9⟩, _⟩ := ten k2
  obtain ⟨⟨b0, b1⟩, _⟩ := two k3
  clear k2 k3 k4 k5 hb4
  rw [hm] at HM
  rw [hl] at HLs
  clear hm hl
  go_enter Tryz.func35, Tryz.ntmps35
  go_upto_region 6 with (first
    | (go_at_call 40; (with_reducible refine (HM.out _).mono ?_); rintro e w5 ⟨rfl, hb5⟩; have HB5 := Lib.hid hb5; clear hb5 d0 d1 d2 d3 d4 d5 d6 d7 d8 d9 b0 b1; obtain ⟨⟨d0, d1, d2, d3, d4, d5, d6, d7, d8, d9⟩, _⟩ := ten (HQ.out _ HB5.out).1.1; obtain ⟨⟨b0, b1⟩, _⟩ := two (HQ.out _ HB5.out).1.2; obtain ⟨_, ⟨f0, f1, f2, f3, f4, f5, f6, f7, f8, f9⟩⟩ := ten (HQ.out _ HB5.out).2.1; obtain ⟨_, ⟨g0, g1, g2, g3, g4, g5⟩⟩ := six (HQ.out _ HB5.out).2.2)
    | (go_at_call 42; (with_reducible refine (HLs.out _).mono ?_); rintro e w6 ⟨rfl, hb6⟩; have HB6 := Lib.hid (HB5.out.trans (hb6.mono HB5.out.size)); clear hb6 d0 d1 d2 d3 d4 d5 d6 d7 d8 d9 b0 b1 f0 f1 f2 f3 f4 f5 f6 f7 f8 f9 g0 g1 g2 g3 g4 g5; obtain ⟨⟨d0, d1, d2, d3, d4, d5, d6, d7, d8, d9⟩, ⟨_, _, h2, h3, _, _, _, _, _, _⟩⟩ := ten (HQ.out _ HB6.out).1.1; obtain ⟨⟨b0, b1⟩, _⟩ := two (HQ.out _ HB6.out).1.2; obtain ⟨_, ⟨f0, f1, f2, f3, f4, f5, f6, f7, f8, f9⟩⟩ := ten (HQ.out _ HB6.out).2.1; obtain ⟨_, ⟨g0, g1, g2, g3, g4, g5⟩⟩ := six (HQ.out _ HB6.out).2.2))
  have k6 := (HQ.out _ HB6.out)
  have a6 := prom38 k6.1.1 (.int .i64 r) (.int .i64 q)
  have a7 : ((w6.setCell ⟨w.heap.size, 2, none⟩ (.int .i64 r)).setCell ⟨w.heap.size, 3, none⟩ (.int .i64 q)).heap[w.heap.size + 2]? = some (.cells #[.int .i64 0, .int .i64 0, .int .i64 0, .int .i64 0, .int .i64 0, .int .i64 0, .int .i64 0, .int .i64 0, .int .i64 0, .string ⟨#[]⟩] 38 (0, 0)) := other (p := ⟨w.heap.size, 3, none⟩) (other (p := ⟨w.heap.size, 2, none⟩) k6.2.1 (by simp)) (by simp)
  have a8 : ((w6.setCell ⟨w.heap.size, 2, none⟩ (.int .i64 r)).setCell ⟨w.heap.size, 3, none⟩ (.int .i64 q)).heap[w.heap.size + 3]? = some (.cells #[.int .i64 0, .int .i64 0, .int .i64 0, .int .i64 0, .int .i64 0, .string ⟨#[]⟩] 36 (0, 0)) := other (p := ⟨w.heap.size, 3, none⟩) (other (p := ⟨w.heap.size, 2, none⟩) k6.2.2 (by simp)) (by simp)
  have hb6 := ((HB4.out.trans (HB6.out.mono HB4.out.size)).setCell (p := ⟨w.heap.size, 2, none⟩) (Nat.le_refl _) (.int .i64 r)).setCell (p := ⟨w.heap.size, 3, none⟩) (Nat.le_refl _) (.int .i64 q)
  obtain ⟨v6, hv6⟩ : ∃ v, (w6.setCell ⟨w.heap.size, 2, none⟩ (.int .i64 r)).setCell ⟨w.heap.size, 3, none⟩ (.int .i64 q) = v := ⟨_, rfl⟩
  rw [hv6] at a6 a7 a8 hb6 ⊢
  clear k6 hv6 h2 h3 d0 d1 d2 d3 d4 d5 d6 d7 d8 d9 b0 b1 f0 f1 f2 f3 f4 f5 f6 f7 f8 f9 g0 g1 g2 g3 g4 g5
  obtain ⟨HA7, HA8, HA6, HV6⟩ := And.intro (Lib.hid a7) (And.intro (Lib.hid a8) (And.intro (Lib.hid a6) (Lib.hid hb6)))
  obtain ⟨_, ⟨F0, F1, F2, F3, F4, F5, F6, F7, F8, F9⟩⟩ := ten a7
  obtain ⟨_, ⟨G0, G1, G2, G3, G4, G5⟩⟩ := six a8
  have z0 := (ten a6).1
  clear a6 a7 a8 hb6
  have x6 : v6.drew.heap[w.heap.size]? = _ := HA6.out
  have x7 : v6.drew.heap[w.heap.size + 2]? = _ := HA7.out
  have x8 : v6.drew.heap[w.heap.size + 3]? = _ := HA8.out
  have xb : Below w.heap.size w v6.drew := HV6.out.drew
  clear HA6 HA7 HA8 HV6 F0 F1 F2 F3 F4 F5 F6 F7 F8 F9 G0 G1 G2 G3 G4 G5
  have hS0 : (fun W => W.cell? ⟨w.heap.size, 0, none⟩ = some (.int .i64 M.c) ∧ W.cell? ⟨w.heap.size, 1, none⟩ = some (.int .i64 M.s) ∧ W.cell? ⟨w.heap.size, 2, none⟩ = some (.int .i64 r) ∧ W.cell? ⟨w.heap.size, 3, none⟩ = some (.int .i64 q) ∧ W.cell? ⟨w.heap.size, 4, none⟩ = some (.int .i64 M.ar) ∧ W.cell? ⟨w.heap.size, 5, none⟩ = some (.int .i64 M.ap) ∧ W.cell? ⟨w.heap.size, 6, none⟩ = some (.int .i64 M.k) ∧ W.cell? ⟨w.heap.size, 7, none⟩ = some (.int .i64 M.m) ∧ W.cell? ⟨w.heap.size, 8, none⟩ = some (.int .i64 M.n) ∧ W.cell? ⟨w.heap.size, 9, none⟩ = some (.string M.t)) v6.drew := z0
  refine wp_region_held_drew (S := fun W => W.cell? ⟨w.heap.size, 0, none⟩ = some (.int .i64 M.c) ∧ W.cell? ⟨w.heap.size, 1, none⟩ = some (.int .i64 M.s) ∧ W.cell? ⟨w.heap.size, 2, none⟩ = some (.int .i64 r) ∧ W.cell? ⟨w.heap.size, 3, none⟩ = some (.int .i64 q) ∧ W.cell? ⟨w.heap.size, 4, none⟩ = some (.int .i64 M.ar) ∧ W.cell? ⟨w.heap.size, 5, none⟩ = some (.int .i64 M.ap) ∧ W.cell? ⟨w.heap.size, 6, none⟩ = some (.int .i64 M.k) ∧ W.cell? ⟨w.heap.size, 7, none⟩ = some (.int .i64 M.m) ∧ W.cell? ⟨w.heap.size, 8, none⟩ = some (.int .i64 M.n) ∧ W.cell? ⟨w.heap.size, 9, none⟩ = some (.string M.t)) rfl hS0 (fun hHeld => ?_)
  simp only [List.size_toArray, List.length_cons, List.length_nil, Nat.reduceAdd]
  have HB0 : Hid (Below v6.heap.size v6 v6.drew) := Lib.hid (Below.refl _ _).drew
  obtain ⟨V0, hV0⟩ : ∃ V, v6.drew = V := ⟨_, rfl⟩
  rw [hV0] at hHeld hS0 HB0 x6 x7 x8 xb ⊢
  clear hV0
  refine wpAnyH_take (i := 0) (v := .agg #[.int .i64 M.c, .int .i64 M.s, .int .i64 r, .int .i64 q, .int .i64 M.ar, .int .i64 M.ap, .int .i64 M.k, .int .i64 M.m, .int .i64 M.n, .string M.t]) rfl (by kernel_rfl) (by kernel_rfl) (by kernel_rfl) (fun _ _ _ h => h) (Or.inl ⟨by rfl, ?_⟩) (by assumption) ?_
  · intro wx hs1; go_simp
  (try simp only [Act.put, List.getElem_toArray, List.getElem_cons_zero, List.setIfInBounds_toArray, List.set_cons_zero, List.set_cons_succ])
  refine wpAnyH_take (i := 1) (v := .pointer (some ⟨w.heap.size, 4, none⟩)) rfl (by kernel_rfl) (by kernel_rfl) (by kernel_rfl) (fun _ _ _ h => h) (Or.inl ⟨by rfl, ?_⟩) (by assumption) ?_
  · intro wx hs1; go_simp
  (try simp only [Act.put, List.getElem_toArray, List.getElem_cons_succ, List.getElem_cons_zero, List.setIfInBounds_toArray, List.set_cons_zero, List.set_cons_succ])
  refine wpAnyH_take (i := 2) (v := .agg #[.int .i64 M.ar, .int .i64 M.ap, .int .i64 M.k, .int .i64 M.m, .int .i64 M.n, .string M.t]) rfl (by kernel_rfl) (by kernel_rfl) (by kernel_rfl) (fun _ _ _ h => h) (Or.inl ⟨by rfl, ?_⟩) (by assumption) ?_
  · intro wx hs1; go_simp
  (try simp only [Act.put, List.getElem_toArray, List.getElem_cons_succ, List.getElem_cons_zero, List.setIfInBounds_toArray, List.set_cons_zero, List.set_cons_succ])
  obtain ⟨_, ⟨F0, F1, F2, F3, F4, F5, F6, F7, F8, F9⟩⟩ := ten x7
  have XB := Lib.hid (bset6 (p := w.heap.size + 3) (bset10 (p := w.heap.size + 2) xb (by omega) (.int .i64 M.c) (.int .i64 M.s) (.int .i64 r) (.int .i64 q) (.int .i64 M.ar) (.int .i64 M.ap) (.int .i64 M.k) (.int .i64 M.m) (.int .i64 M.n) (.string M.t)) (by omega) (.int .i64 M.ar) (.int .i64 M.ap) (.int .i64 M.k) (.int .i64 M.m) (.int .i64 M.n) (.string M.t))
  have HX6 := Lib.hid (And.intro x6 (And.intro x7 x8))
  clear x6 x7 x8 xb
  refine wpAnyH_ready (rs := [3]) (by kernel_rfl) (by simp) (AllReadyH.cons rfl (fun K hK => ?_) AllReadyH.nil)
  go_simp
  try dsimp only
  have hS : (fun W => W.cell? ⟨w.heap.size, 0, none⟩ = some (.int .i64 M.c) ∧ W.cell? ⟨w.heap.size, 1, none⟩ = some (.int .i64 M.s) ∧ W.cell? ⟨w.heap.size, 2, none⟩ = some (.int .i64 r) ∧ W.cell? ⟨w.heap.size, 3, none⟩ = some (.int .i64 q) ∧ W.cell? ⟨w.heap.size, 4, none⟩ = some (.int .i64 M.ar) ∧ W.cell? ⟨w.heap.size, 5, none⟩ = some (.int .i64 M.ap) ∧ W.cell? ⟨w.heap.size, 6, none⟩ = some (.int .i64 M.k) ∧ W.cell? ⟨w.heap.size, 7, none⟩ = some (.int .i64 M.m) ∧ W.cell? ⟨w.heap.size, 8, none⟩ = some (.int .i64 M.n) ∧ W.cell? ⟨w.heap.size, 9, none⟩ = some (.string M.t)) ((((((((((V0.setCell ⟨w.heap.size + 1 + 1, 0, none⟩ (.int .i64 M.c)).setCell ⟨w.heap.size + 1 + 1, 1, none⟩ (.int .i64 M.s)).setCell ⟨w.heap.size + 1 + 1, 2, none⟩ (.int .i64 r)).setCell ⟨w.heap.size + 1 + 1, 3, none⟩ (.int .i64 q)).setCell ⟨w.heap.size + 1 + 1, 4, none⟩ (.int .i64 M.ar)).setCell ⟨w.heap.size + 1 + 1, 5, none⟩ (.int .i64 M.ap)).setCell ⟨w.heap.size + 1 + 1, 6, none⟩ (.int .i64 M.k)).setCell ⟨w.heap.size + 1 + 1, 7, none⟩ (.int .i64 M.m)).setCell ⟨w.heap.size + 1 + 1, 8, none⟩ (.int .i64 M.n)).setCell ⟨w.heap.size + 1 + 1, 9, none⟩ (.string M.t)) := (ten (other10 (b := w.heap.size + 2) HX6.out.1 (by omega) (.int .i64 M.c) (.int .i64 M.s) (.int .i64 r) (.int .i64 q) (.int .i64 M.ar) (.int .i64 M.ap) (.int .i64 M.k) (.int .i64 M.m) (.int .i64 M.n) (.string M.t))).1
  refine hK.out _ _ hS (fun _ => ?_)
  clear hK K
  (try simp only [Act.put, List.getElem_toArray, List.getElem_cons_succ, List.getElem_cons_zero, List.setIfInBounds_toArray, List.set_cons_zero, List.set_cons_succ])
  clear F0 F1 F2 F3 F4 F5 F6 F7 F8 F9
  obtain ⟨_, ⟨G0, G1, G2, G3, G4, G5⟩⟩ := six (other10 (b := w.heap.size + 2) HX6.out.2.2 (by omega) (.int .i64 M.c) (.int .i64 M.s) (.int .i64 r) (.int .i64 q) (.int .i64 M.ar) (.int .i64 M.ap) (.int .i64 M.k) (.int .i64 M.m) (.int .i64 M.n) (.string M.t))
  refine wpAnyH_ready (rs := [4]) (by kernel_rfl) (by simp) (AllReadyH.cons rfl (fun K hK => ?_) AllReadyH.nil)
  go_simp
  try dsimp only
  have hS : (fun W => W.cell? ⟨w.heap.size, 0, none⟩ = some (.int .i64 M.c) ∧ W.cell? ⟨w.heap.size, 1, none⟩ = some (.int .i64 M.s) ∧ W.cell? ⟨w.heap.size, 2, none⟩ = some (.int .i64 r) ∧ W.cell? ⟨w.heap.size, 3, none⟩ = some (.int .i64 q) ∧ W.cell? ⟨w.heap.size, 4, none⟩ = some (.int .i64 M.ar) ∧ W.cell? ⟨w.heap.size, 5, none⟩ = some (.int .i64 M.ap) ∧ W.cell? ⟨w.heap.size, 6, none⟩ = some (.int .i64 M.k) ∧ W.cell? ⟨w.heap.size, 7, none⟩ = some (.int .i64 M.m) ∧ W.cell? ⟨w.heap.size, 8, none⟩ = some (.int .i64 M.n) ∧ W.cell? ⟨w.heap.size, 9, none⟩ = some (.string M.t)) ((((((((((((((((V0.setCell ⟨w.heap.size + 1 + 1, 0, none⟩ (.int .i64 M.c)).setCell ⟨w.heap.size + 1 + 1, 1, none⟩ (.int .i64 M.s)).setCell ⟨w.heap.size + 1 + 1, 2, none⟩ (.int .i64 r)).setCell ⟨w.heap.size + 1 + 1, 3, none⟩ (.int .i64 q)).setCell ⟨w.heap.size + 1 + 1, 4, none⟩ (.int .i64 M.ar)).setCell ⟨w.heap.size + 1 + 1, 5, none⟩ (.int .i64 M.ap)).setCell ⟨w.heap.size + 1 + 1, 6, none⟩ (.int .i64 M.k)).setCell ⟨w.heap.size + 1 + 1, 7, none⟩ (.int .i64 M.m)).setCell ⟨w.heap.size + 1 + 1, 8, none⟩ (.int .i64 M.n)).setCell ⟨w.heap.size + 1 + 1, 9, none⟩ (.string M.t)).setCell ⟨w.heap.size + 1 + 1 + 1, 0, none⟩ (.int .i64 M.ar)).setCell ⟨w.heap.size + 1 + 1 + 1, 1, none⟩ (.int .i64 M.ap)).setCell ⟨w.heap.size + 1 + 1 + 1, 2, none⟩ (.int .i64 M.k)).setCell ⟨w.heap.size + 1 + 1 + 1, 3, none⟩ (.int .i64 M.m)).setCell ⟨w.heap.size + 1 + 1 + 1, 4, none⟩ (.int .i64 M.n)).setCell ⟨w.heap.size + 1 + 1 + 1, 5, none⟩ (.string M.t)) := (ten (other6 (b := w.heap.size + 3) (other10 (b := w.heap.size + 2) HX6.out.1 (by omega) (.int .i64 M.c) (.int .i64 M.s) (.int .i64 r) (.int .i64 q) (.int .i64 M.ar) (.int .i64 M.ap) (.int .i64 M.k) (.int .i64 M.m) (.int .i64 M.n) (.string M.t)) (by omega) (.int .i64 M.ar) (.int .i64 M.ap) (.int .i64 M.k) (.int .i64 M.m) (.int .i64 M.n) (.string M.t))).1
  refine hK.out _ _ hS (fun _ => ?_)
  clear hK K
  (try simp only [Act.put, List.getElem_toArray, List.getElem_cons_succ, List.getElem_cons_zero, List.setIfInBounds_toArray, List.set_cons_zero, List.set_cons_succ])
  clear G0 G1 G2 G3 G4 G5
  refine wpAnyH_take (i := 5) (v := .bool true) rfl (by kernel_rfl) (by kernel_rfl) (by kernel_rfl) (fun _ _ _ h => h) (Or.inl ⟨by rfl, ?_⟩) (by assumption) ?_
  · intro wx hs1; go_simp
  (try simp only [Act.put, List.getElem_toArray, List.getElem_cons_succ, List.getElem_cons_zero, List.setIfInBounds_toArray, List.set_cons_zero, List.set_cons_succ])
  refine wpAnyH_take (i := 6) (v := .int .i64 0) rfl (by kernel_rfl) (by kernel_rfl) (by kernel_rfl) (fun _ _ _ h => h) (Or.inl ⟨by rfl, ?_⟩) (by assumption) ?_
  · intro wx hs1; go_simp
  (try simp only [Act.put, List.getElem_toArray, List.getElem_cons_succ, List.getElem_cons_zero, List.setIfInBounds_toArray, List.set_cons_zero, List.set_cons_succ])
  refine wpAnyH_done (by kernel_rfl) ?_ _
  go_wp2
  have hs := set6 (other10 (b := w.heap.size + 2) HX6.out.2.2 (by omega) (.int .i64 M.c) (.int .i64 M.s) (.int .i64 r) (.int .i64 q) (.int .i64 M.ar) (.int .i64 M.ap) (.int .i64 M.k) (.int .i64 M.m) (.int .i64 M.n) (.string M.t)) (.int .i64 M.ar) (.int .i64 M.ap) (.int .i64 M.k) (.int .i64 M.m) (.int .i64 M.n) (.string M.t)
  have ht := other6 (b := w.heap.size + 3) (set10 HX6.out.2.1 (.int .i64 M.c) (.int .i64 M.s) (.int .i64 r) (.int .i64 q) (.int .i64 M.ar) (.int .i64 M.ap) (.int .i64 M.k) (.int .i64 M.m) (.int .i64 M.n) (.string M.t)) (by omega) (.int .i64 M.ar) (.int .i64 M.ap) (.int .i64 M.k) (.int .i64 M.m) (.int .i64 M.n) (.string M.t)
  obtain ⟨⟨z0, z1, z2, z3, z4, z5, z6, z7, z8, z9⟩, _⟩ := ten ht
  obtain ⟨⟨y0, y1, y2, y3, y4, y5⟩, _⟩ := six hs
  clear hs ht
  refine bodyPost_ret (v := .tuple #[.agg #[.int .i64 M.c, .int .i64 M.s, .int .i64 r, .int .i64 q, .int .i64 M.ar, .int .i64 M.ap, .int .i64 M.k, .int .i64 M.m, .int .i64 M.n, .string M.t], .agg #[.int .i64 M.ar, .int .i64 M.ap, .int .i64 M.k, .int .i64 M.m, .int .i64 M.n, .string M.t], .bool true, .int .i64 0]) (by simp only [results, Tryz.results35]; simp [go_sem, z0, z1, z2, z3, z4, z5, z6, z7, z8, z9, y0, y1, y2, y3, y4, y5]) rfl ⟨rfl, XB.out⟩
end Go.Proofs
namespace Go.Proofs
open Go Go.RowKit Sm Go.Lib
attribute [local go_sem] Oper.semAt_some
theorem Sm.acc38 {w : World} {p : Nat} {a0 a1 a2 a3 a4 a5 a6 a7 a8 a9 : Value} {t : TypeId} (h : w.heap[p]? = some (.cells #[a0, a1, a2, a3, a4, a5, a6, a7, a8, a9] t (0, 0))) (u4 u5 u6 u7 u8 u9 : Value) :
    ((((((w.setCell ⟨p, 4, none⟩ u4).setCell ⟨p, 5, none⟩ u5).setCell ⟨p, 6, none⟩ u6).setCell ⟨p, 7, none⟩ u7).setCell ⟨p, 8, none⟩ u8).setCell ⟨p, 9, none⟩ u9).heap[p]? = some (.cells #[a0, a1, a2, a3, u4, u5, u6, u7, u8, u9] t (0, 0)) := by
  have h10 := heap_setCells (i := 9) (u := u9) (heap_setCells (i := 8) (u := u8) (heap_setCells (i := 7) (u := u7) (heap_setCells (i := 6) (u := u6) (heap_setCells (i := 5) (u := u5) (heap_setCells (i := 4) (u := u4) h)))))
  simpa only [List.setIfInBounds_toArray, List.set_cons_zero, List.set_cons_succ] using h10
theorem Sm.oth2 {w : World} {b q : Nat} {x : Option Obj} (h : w.heap[q]? = x) (hn : q ≠ b) (u v : Value) : ((w.setCell ⟨b, 2, none⟩ u).setCell ⟨b, 3, none⟩ v).heap[q]? = x := other (p := ⟨b, 3, none⟩) (other (p := ⟨b, 2, none⟩) h hn) hn
theorem Sm.oth6 {w : World} {b q : Nat} {x : Option Obj} (h : w.heap[q]? = x) (hn : q ≠ b) (u4 u5 u6 u7 u8 u9 : Value) :
    ((((((w.setCell ⟨b, 4, none⟩ u4).setCell ⟨b, 5, none⟩ u5).setCell ⟨b, 6, none⟩ u6).setCell ⟨b, 7, none⟩ u7).setCell ⟨b, 8, none⟩ u8).setCell ⟨b, 9, none⟩ u9).heap[q]? = x :=
  other (p := ⟨b, 9, none⟩) (other (p := ⟨b, 8, none⟩) (other (p := ⟨b, 7, none⟩) (other (p := ⟨b, 6, none⟩) (other (p := ⟨b, 5, none⟩) (other (p := ⟨b, 4, none⟩) h hn) hn) hn) hn) hn) hn
theorem Sm.bst8 {N : Nat} {w w1 : World} {p : Nat} (h : Below N w w1) (hp : N ≤ p) (u2 u3 u4 u5 u6 u7 u8 u9 : Value) :
    Below N w ((((((((w1.setCell ⟨p, 2, none⟩ u2).setCell ⟨p, 3, none⟩ u3).setCell ⟨p, 4, none⟩ u4).setCell ⟨p, 5, none⟩ u5).setCell ⟨p, 6, none⟩ u6).setCell ⟨p, 7, none⟩ u7).setCell ⟨p, 8, none⟩ u8).setCell ⟨p, 9, none⟩ u9) :=
  (((((((h.setCell (p := ⟨p, 2, none⟩) hp u2).setCell (p := ⟨p, 3, none⟩) hp u3).setCell (p := ⟨p, 4, none⟩) hp u4).setCell (p := ⟨p, 5, none⟩) hp u5).setCell (p := ⟨p, 6, none⟩) hp u6).setCell (p := ⟨p, 7, none⟩) hp u7).setCell (p := ⟨p, 8, none⟩) hp u8).setCell (p := ⟨p, 9, none⟩) hp u9
set_option maxRecDepth 100000 in
set_option maxHeartbeats 2000000 in
theorem Sm.rAccept_arg1 (r q k m n : Int) (t : ByteArray) (M : AcM) (w : World) (hsz : t.size ≤ 1000000) (hm : mayB M.c M.s r q = false) :
    Calls Tryz.prog 36 #[.agg #[.int .i64 M.c, .int .i64 M.s, .int .i64 M.pr, .int .i64 M.pp, .int .i64 M.ar, .int .i64 M.ap, .int .i64 M.k, .int .i64 M.m, .int .i64 M.n, .string M.t], .agg #[.int .i64 r, .int .i64 q], .agg #[.int .i64 k, .int .i64 m, .int .i64 n, .string t]] w fun e w' => e = .returned (.tuple #[.agg #[.int .i64 M.c, .int .i64 M.s, .int .i64 M.pr, .int .i64 M.pp, .int .i64 M.ar, .int .i64 M.ap, .int .i64 M.k, .int .i64 M.m, .int .i64 M.n, .string M.t], .bool false, .int .i64 2]) ∧ Below w.heap.size w w' := by
  obtain ⟨w4, hw4, k2, k3, k4, k5, hb4, hz4⟩ := four_new w (.cells #[.int .i64 M.c, .int .i64 M.s, .int .i64 M.pr, .int .i64 M.pp, .int .i64 M.ar, .int .i64 M.ap, .int .i64 M.k, .int .i64 M.m, .int .i64 M.n, .string M.t] 38) (.cells #[.int .i64 r, .int .i64 q] 31) (.cells #[.int .i64 k, .int .i64 m, .int .i64 n, .string t] 34) (.cells #[.int .i64 0, .int .i64 0, .int .i64 0, .int .i64 0, .int .i64 0, .int .i64 0, .int .i64 0, .int .i64 0, .int .i64 0, .string ⟨#[]⟩] 38)
  have HM := Lib.hid (fun W => rMay_any M.c M.s r q W)
  have HE := Lib.hid (fun W => entry_any k m n t W hsz)
  have HLs := Lib.hid (fun W => Less_any r q M.pr M.pp W)
  have HQ : Hid (∀ W, Below w4.heap.size w4 W → (W.heap[w.heap.size]? = some (.cells #[.int .i64 M.c, .int .i64 M.s, .int .i64 M.pr, .int .i64 M.pp, .int .i64 M.ar, .int .i64 M.ap, .int .i64 M.k, .int .i64 M.m, .int .i64 M.n, .string M.t] 38 (0, 0)) ∧ W.heap[w.heap.size + 1]? = some (.cells #[.int .i64 r, .int .i64 q] 31 (0, 0)) ∧ W.heap[w.heap.size + 2]? = some (.cells #[.int .i64 k, .int .i64 m, .int .i64 n, .string t] 34 (0, 0))) ∧ W.heap[w.heap.size + 3]? = some (.cells #[.int .i64 0, .int .i64 0, .int .i64 0, .int .i64 0, .int .i64 0, .int .i64 0, .int .i64 0, .int .i64 0, .int .i64 0, .string ⟨#[]⟩] 38 (0, 0))) := Lib.hid fun W hb =>
    ⟨⟨(hb.block _ (by omega)).trans k2, (hb.block _ (by omega)).trans k3, (hb.block _ (by omega)).trans k4⟩, (hb.block _ (by omega)).trans k5⟩
  have HB4 := Lib.hid hb4
  obtain ⟨⟨d0, d1, d2, d3, d4, d5, d6, d7, d8, d9⟩, _⟩ := ten k2
  obtain ⟨⟨b0, b1⟩, _⟩ := two k3
  obtain ⟨⟨e0, e1, e2, e3⟩, _⟩ := four k4
  clear k2 k3 k4 k5 hb4 hsz
  rw [hm] at HM
  clear hm HLs HE
  go_enter Tryz.func36, Tryz.ntmps36
  go_wp2_with (go_at_call 40; (with_reducible refine (HM.out _).mono ?_); rintro e w5 ⟨rfl, hb5⟩; have HB5 := Lib.hid hb5; clear hb5 d0 d1 d2 d3 d4 d5 d6 d7 d8 d9 b0 b1 e0 e1 e2 e3; obtain ⟨⟨d0, d1, d2, d3, d4, d5, d6, d7, d8, d9⟩, _⟩ := ten (HQ.out _ HB5.out).1.1; obtain ⟨⟨b0, b1⟩, _⟩ := two (HQ.out _ HB5.out).1.2.1; obtain ⟨⟨e0, e1, e2, e3⟩, _⟩ := four (HQ.out _ HB5.out).1.2.2; obtain ⟨_, ⟨f0, f1, f2, f3, f4, f5, f6, f7, f8, f9⟩⟩ := ten (HQ.out _ HB5.out).2)
  have ht := set10 (HQ.out _ HB5.out).2 (.int .i64 M.c) (.int .i64 M.s) (.int .i64 M.pr) (.int .i64 M.pp) (.int .i64 M.ar) (.int .i64 M.ap) (.int .i64 M.k) (.int .i64 M.m) (.int .i64 M.n) (.string M.t)
  obtain ⟨⟨z0, z1, z2, z3, z4, z5, z6, z7, z8, z9⟩, _⟩ := ten ht
  clear d0 d1 d2 d3 d4 d5 d6 d7 d8 d9 b0 b1 e0 e1 e2 e3 f0 f1 f2 f3 f4 f5 f6 f7 f8 f9 ht
  refine bodyPost_ret (v := .tuple #[.agg #[.int .i64 M.c, .int .i64 M.s, .int .i64 M.pr, .int .i64 M.pp, .int .i64 M.ar, .int .i64 M.ap, .int .i64 M.k, .int .i64 M.m, .int .i64 M.n, .string M.t], .bool false, .int .i64 2]) (by simp only [results, Tryz.results36]; simp [go_sem, z0, z1, z2, z3, z4, z5, z6, z7, z8, z9]) rfl ⟨rfl, ?_⟩
  exact bset10 (HB4.out.trans (HB5.out.mono HB4.out.size)) (by omega) (.int .i64 M.c) (.int .i64 M.s) (.int .i64 M.pr) (.int .i64 M.pp) (.int .i64 M.ar) (.int .i64 M.ap) (.int .i64 M.k) (.int .i64 M.m) (.int .i64 M.n) (.string M.t)
set_option maxRecDepth 100000 in
set_option maxHeartbeats 2000000 in
theorem Sm.rAccept_arg2 (r q k m n : Int) (t : ByteArray) (M : AcM) (w : World) (hsz : t.size ≤ 1000000) (hm : mayB M.c M.s r q = true) (he : entB k m n t = false) :
    Calls Tryz.prog 36 #[.agg #[.int .i64 M.c, .int .i64 M.s, .int .i64 M.pr, .int .i64 M.pp, .int .i64 M.ar, .int .i64 M.ap, .int .i64 M.k, .int .i64 M.m, .int .i64 M.n, .string M.t], .agg #[.int .i64 r, .int .i64 q], .agg #[.int .i64 k, .int .i64 m, .int .i64 n, .string t]] w fun e w' => e = .returned (.tuple #[.agg #[.int .i64 M.c, .int .i64 M.s, .int .i64 M.pr, .int .i64 M.pp, .int .i64 M.ar, .int .i64 M.ap, .int .i64 M.k, .int .i64 M.m, .int .i64 M.n, .string M.t], .bool false, .int .i64 2]) ∧ Below w.heap.size w w' := by
  obtain ⟨w4, hw4, k2, k3, k4, k5, hb4, hz4⟩ := four_new w (.cells #[.int .i64 M.c, .int .i64 M.s, .int .i64 M.pr, .int .i64 M.pp, .int .i64 M.ar, .int .i64 M.ap, .int .i64 M.k, .int .i64 M.m, .int .i64 M.n, .string M.t] 38) (.cells #[.int .i64 r, .int .i64 q] 31) (.cells #[.int .i64 k, .int .i64 m, .int .i64 n, .string t] 34) (.cells #[.int .i64 0, .int .i64 0, .int .i64 0, .int .i64 0, .int .i64 0, .int .i64 0, .int .i64 0, .int .i64 0, .int .i64 0, .string ⟨#[]⟩] 38)
  have HM := Lib.hid (fun W => rMay_any M.c M.s r q W)
  have HE := Lib.hid (fun W => entry_any k m n t W hsz)
  have HLs := Lib.hid (fun W => Less_any r q M.pr M.pp W)
  have HQ : Hid (∀ W, Below w4.heap.size w4 W → (W.heap[w.heap.size]? = some (.cells #[.int .i64 M.c, .int .i64 M.s, .int .i64 M.pr, .int .i64 M.pp, .int .i64 M.ar, .int .i64 M.ap, .int .i64 M.k, .int .i64 M.m, .int .i64 M.n, .string M.t] 38 (0, 0)) ∧ W.heap[w.heap.size + 1]? = some (.cells #[.int .i64 r, .int .i64 q] 31 (0, 0)) ∧ W.heap[w.heap.size + 2]? = some (.cells #[.int .i64 k, .int .i64 m, .int .i64 n, .string t] 34 (0, 0))) ∧ W.heap[w.heap.size + 3]? = some (.cells #[.int .i64 0, .int .i64 0, .int .i64 0, .int .i64 0, .int .i64 0, .int .i64 0, .int .i64 0, .int .i64 0, .int .i64 0, .string ⟨#[]⟩] 38 (0, 0))) := Lib.hid fun W hb =>
    ⟨⟨(hb.block _ (by omega)).trans k2, (hb.block _ (by omega)).trans k3, (hb.block _ (by omega)).trans k4⟩, (hb.block _ (by omega)).trans k5⟩
  have HB4 := Lib.hid hb4
  obtain ⟨⟨d0, d1, d2, d3, d4, d5, d6, d7, d8, d9⟩, _⟩ := ten k2
  obtain ⟨⟨b0, b1⟩, _⟩ := two k3
  obtain ⟨⟨e0, e1, e2, e3⟩, _⟩ := four k4
  clear k2 k3 k4 k5 hb4 hsz
  rw [hm] at HM
  rw [he] at HE
  clear hm HLs he
  go_enter Tryz.func36, Tryz.ntmps36
  go_wp2_with (first
    | (go_at_call 40; (with_reducible refine (HM.out _).mono ?_); rintro e w5 ⟨rfl, hb5⟩; have HB5 := Lib.hid hb5; clear hb5 d0 d1 d2 d3 d4 d5 d6 d7 d8 d9 b0 b1 e0 e1 e2 e3; obtain ⟨⟨d0, d1, d2, d3, d4, d5, d6, d7, d8, d9⟩, _⟩ := ten (HQ.out _ HB5.out).1.1; obtain ⟨⟨b0, b1⟩, _⟩ := two (HQ.out _ HB5.out).1.2.1; obtain ⟨⟨e0, e1, e2, e3⟩, _⟩ := four (HQ.out _ HB5.out).1.2.2; obtain ⟨_, ⟨f0, f1, f2, f3, f4, f5, f6, f7, f8, f9⟩⟩ := ten (HQ.out _ HB5.out).2)
    | (go_at_call 41; (with_reducible refine (HE.out _).mono ?_); rintro e w6 ⟨rfl, hb6⟩; have HB6 := Lib.hid (HB5.out.trans (hb6.mono HB5.out.size)); clear hb6 d0 d1 d2 d3 d4 d5 d6 d7 d8 d9 b0 b1 e0 e1 e2 e3 f0 f1 f2 f3 f4 f5 f6 f7 f8 f9; obtain ⟨⟨d0, d1, d2, d3, d4, d5, d6, d7, d8, d9⟩, _⟩ := ten (HQ.out _ HB6.out).1.1; obtain ⟨⟨b0, b1⟩, _⟩ := two (HQ.out _ HB6.out).1.2.1; obtain ⟨⟨e0, e1, e2, e3⟩, _⟩ := four (HQ.out _ HB6.out).1.2.2; obtain ⟨_, ⟨f0, f1, f2, f3, f4, f5, f6, f7, f8, f9⟩⟩ := ten (HQ.out _ HB6.out).2))
  have ht := set10 (HQ.out _ HB6.out).2 (.int .i64 M.c) (.int .i64 M.s) (.int .i64 M.pr) (.int .i64 M.pp) (.int .i64 M.ar) (.int .i64 M.ap) (.int .i64 M.k) (.int .i64 M.m) (.int .i64 M.n) (.string M.t)
  obtain ⟨⟨z0, z1, z2, z3, z4, z5, z6, z7, z8, z9⟩, _⟩ := ten ht
  clear d0 d1 d2 d3 d4 d5 d6 d7 d8 d9 b0 b1 e0 e1 e2 e3 f0 f1 f2 f3 f4 f5 f6 f7 f8 f9 ht
  refine bodyPost_ret (v := .tuple #[.agg #[.int .i64 M.c, .int .i64 M.s, .int .i64 M.pr, .int .i64 M.pp, .int .i64 M.ar, .int .i64 M.ap, .int .i64 M.k, .int .i64 M.m, .int .i64 M.n, .string M.t], .bool false, .int .i64 2]) (by simp only [results, Tryz.results36]; simp [go_sem, z0, z1, z2, z3, z4, z5, z6, z7, z8, z9]) rfl ⟨rfl, ?_⟩
  exact bset10 (HB4.out.trans (HB6.out.mono HB4.out.size)) (by omega) (.int .i64 M.c) (.int .i64 M.s) (.int .i64 M.pr) (.int .i64 M.pp) (.int .i64 M.ar) (.int .i64 M.ap) (.int .i64 M.k) (.int .i64 M.m) (.int .i64 M.n) (.string M.t)
set_option maxRecDepth 100000 in
set_option maxHeartbeats 2000000 in
theorem Sm.rAccept_low (r q k m n : Int) (t : ByteArray) (M : AcM) (w : World) (hsz : t.size ≤ 1000000) (hm : mayB M.c M.s r q = true) (he : entB k m n t = true) (hl : lessB r q M.pr M.pp = true) :
    Calls Tryz.prog 36 #[.agg #[.int .i64 M.c, .int .i64 M.s, .int .i64 M.pr, .int .i64 M.pp, .int .i64 M.ar, .int .i64 M.ap, .int .i64 M.k, .int .i64 M.m, .int .i64 M.n, .string M.t], .agg #[.int .i64 r, .int .i64 q], .agg #[.int .i64 k, .int .i64 m, .int .i64 n, .string t]] w fun e w' => e = .returned (.tuple #[.agg #[.int .i64 M.c, .int .i64 M.s, .int .i64 M.pr, .int .i64 M.pp, .int .i64 M.ar, .int .i64 M.ap, .int .i64 M.k, .int .i64 M.m, .int .i64 M.n, .string M.t], .bool false, .int .i64 0]) ∧ Below w.heap.size w w' := by
  obtain ⟨w4, hw4, k2, k3, k4, k5, hb4, hz4⟩ := four_new w (.cells #[.int .i64 M.c, .int .i64 M.s, .int .i64 M.pr, .int .i64 M.pp, .int .i64 M.ar, .int .i64 M.ap, .int .i64 M.k, .int .i64 M.m, .int .i64 M.n, .string M.t] 38) (.cells #[.int .i64 r, .int .i64 q] 31) (.cells #[.int .i64 k, .int .i64 m, .int .i64 n, .string t] 34) (.cells #[.int .i64 0, .int .i64 0, .int .i64 0, .int .i64 0, .int .i64 0, .int .i64 0, .int .i64 0, .int .i64 0, .int .i64 0, .string ⟨#[]⟩] 38)
  have HM := Lib.hid (fun W => rMay_any M.c M.s r q W)
  have HE := Lib.hid (fun W => entry_any k m n t W hsz)
  have HLs := Lib.hid (fun W => Less_any r q M.pr M.pp W)
  have HQ : Hid (∀ W, Below w4.heap.size w4 W → (W.heap[w.heap.size]? = some (.cells #[.int .i64 M.c, .int .i64 M.s, .int .i64 M.pr, .int .i64 M.pp, .int .i64 M.ar, .int .i64 M.ap, .int .i64 M.k, .int .i64 M.m, .int .i64 M.n, .string M.t] 38 (0, 0)) ∧ W.heap[w.heap.size + 1]? = some (.cells #[.int .i64 r, .int .i64 q] 31 (0, 0)) ∧ W.heap[w.heap.size + 2]? = some (.cells #[.int .i64 k, .int .i64 m, .int .i64 n, .string t] 34 (0, 0))) ∧ W.heap[w.heap.size + 3]? = some (.cells #[.int .i64 0, .int .i64 0, .int .i64 0, .int .i64 0, .int .i64 0, .int .i64 0, .int .i64 0, .int .i64 0, .int .i64 0, .string ⟨#[]⟩] 38 (0, 0))) := Lib.hid fun W hb =>
    ⟨⟨(hb.block _ (by omega)).trans k2, (hb.block _ (by omega)).trans k3, (hb.block _ (by omega)).trans k4⟩, (hb.block _ (by omega)).trans k5⟩
  have HB4 := Lib.hid hb4
  obtain ⟨⟨d0, d1, d2, d3, d4, d5, d6, d7, d8, d9⟩, _⟩ := ten k2
  obtain ⟨⟨b0, b1⟩, _⟩ := two k3
  obtain ⟨⟨e0, e1, e2, e3⟩, _⟩ := four k4
  clear k2 k3 k4 k5 hb4 hsz
  rw [hm] at HM
  rw [he] at HE
  rw [hl] at HLs
  clear hm he hl
  go_enter Tryz.func36, Tryz.ntmps36
  go_wp2_with (first
    | (go_at_call 40; (with_reducible refine (HM.out _).mono ?_); rintro e w5 ⟨rfl, hb5⟩; have HB5 := Lib.hid hb5; clear hb5 d0 d1 d2 d3 d4 d5 d6 d7 d8 d9 b0 b1 e0 e1 e2 e3; obtain ⟨⟨d0, d1, d2, d3, d4, d5, d6, d7, d8, d9⟩, _⟩ := ten (HQ.out _ HB5.out).1.1; obtain ⟨⟨b0, b1⟩, _⟩ := two (HQ.out _ HB5.out).1.2.1; obtain ⟨⟨e0, e1, e2, e3⟩, _⟩ := four (HQ.out _ HB5.out).1.2.2; obtain ⟨_, ⟨f0, f1, f2, f3, f4, f5, f6, f7, f8, f9⟩⟩ := ten (HQ.out _ HB5.out).2)
    | (go_at_call 41; (with_reducible refine (HE.out _).mono ?_); rintro e w6 ⟨rfl, hb6⟩; have HB6 := Lib.hid (HB5.out.trans (hb6.mono HB5.out.size)); clear hb6 d0 d1 d2 d3 d4 d5 d6 d7 d8 d9 b0 b1 e0 e1 e2 e3 f0 f1 f2 f3 f4 f5 f6 f7 f8 f9; obtain ⟨⟨d0, d1, d2, d3, d4, d5, d6, d7, d8, d9⟩, _⟩ := ten (HQ.out _ HB6.out).1.1; obtain ⟨⟨b0, b1⟩, _⟩ := two (HQ.out _ HB6.out).1.2.1; obtain ⟨⟨e0, e1, e2, e3⟩, _⟩ := four (HQ.out _ HB6.out).1.2.2; obtain ⟨_, ⟨f0, f1, f2, f3, f4, f5, f6, f7, f8, f9⟩⟩ := ten (HQ.out _ HB6.out).2)
    | (go_at_call 42; (with_reducible refine (HLs.out _).mono ?_); rintro e w7 ⟨rfl, hb7⟩; have HB7 := Lib.hid (HB6.out.trans (hb7.mono HB6.out.size)); clear hb7 d0 d1 d2 d3 d4 d5 d6 d7 d8 d9 b0 b1 e0 e1 e2 e3 f0 f1 f2 f3 f4 f5 f6 f7 f8 f9; obtain ⟨⟨d0, d1, d2, d3, d4, d5, d6, d7, d8, d9⟩, _⟩ := ten (HQ.out _ HB7.out).1.1; obtain ⟨⟨b0, b1⟩, _⟩ := two (HQ.out _ HB7.out).1.2.1; obtain ⟨⟨e0, e1, e2, e3⟩, _⟩ := four (HQ.out _ HB7.out).1.2.2; obtain ⟨_, ⟨f0, f1, f2, f3, f4, f5, f6, f7, f8, f9⟩⟩ := ten (HQ.out _ HB7.out).2))
  have ht := set10 (HQ.out _ HB7.out).2 (.int .i64 M.c) (.int .i64 M.s) (.int .i64 M.pr) (.int .i64 M.pp) (.int .i64 M.ar) (.int .i64 M.ap) (.int .i64 M.k) (.int .i64 M.m) (.int .i64 M.n) (.string M.t)
  obtain ⟨⟨z0, z1, z2, z3, z4, z5, z6, z7, z8, z9⟩, _⟩ := ten ht
  clear d0 d1 d2 d3 d4 d5 d6 d7 d8 d9 b0 b1 e0 e1 e2 e3 f0 f1 f2 f3 f4 f5 f6 f7 f8 f9 ht
  refine bodyPost_ret (v := .tuple #[.agg #[.int .i64 M.c, .int .i64 M.s, .int .i64 M.pr, .int .i64 M.pp, .int .i64 M.ar, .int .i64 M.ap, .int .i64 M.k, .int .i64 M.m, .int .i64 M.n, .string M.t], .bool false, .int .i64 0]) (by simp only [results, Tryz.results36]; simp [go_sem, z0, z1, z2, z3, z4, z5, z6, z7, z8, z9]) rfl ⟨rfl, ?_⟩
  exact bset10 (HB4.out.trans (HB7.out.mono HB4.out.size)) (by omega) (.int .i64 M.c) (.int .i64 M.s) (.int .i64 M.pr) (.int .i64 M.pp) (.int .i64 M.ar) (.int .i64 M.ap) (.int .i64 M.k) (.int .i64 M.m) (.int .i64 M.n) (.string M.t)
set_option maxRecDepth 100000 in
set_option maxHeartbeats 2000000 in
theorem Sm.rAccept_yes (r q k m n : Int) (t : ByteArray) (M : AcM) (w : World) (hsz : t.size ≤ 1000000) (hm : mayB M.c M.s r q = true) (he : entB k m n t = true) (hl : lessB r q M.pr M.pp = false) :
    Calls Tryz.prog 36 #[.agg #[.int .i64 M.c, .int .i64 M.s, .int .i64 M.pr, .int .i64 M.pp, .int .i64 M.ar, .int .i64 M.ap, .int .i64 M.k, .int .i64 M.m, .int .i64 M.n, .string M.t], .agg #[.int .i64 r, .int .i64 q], .agg #[.int .i64 k, .int .i64 m, .int .i64 n, .string t]] w fun e w' => e = .returned (.tuple #[.agg #[.int .i64 M.c, .int .i64 M.s, .int .i64 r, .int .i64 q, .int .i64 r, .int .i64 q, .int .i64 k, .int .i64 m, .int .i64 n, .string t], .bool true, .int .i64 0]) ∧ Below w.heap.size w w' := by
  obtain ⟨w4, hw4, k2, k3, k4, k5, hb4, hz4⟩ := four_new w (.cells #[.int .i64 M.c, .int .i64 M.s, .int .i64 M.pr, .int .i64 M.pp, .int .i64 M.ar, .int .i64 M.ap, .int .i64 M.k, .int .i64 M.m, .int .i64 M.n, .string M.t] 38) (.cells #[.int .i64 r, .int .i64 q] 31) (.cells #[.int .i64 k, .int .i64 m, .int .i64 n, .string t] 34) (.cells #[.int .i64 0, .int .i64 0, .int .i64 0, .int .i64 0, .int .i64 0, .int .i64 0, .int .i64 0, .int .i64 0, .int .i64 0, .string ⟨#[]⟩] 38)
  have HM := Lib.hid (fun W => rMay_any M.c M.s r q W)
  have HE := Lib.hid (fun W => entry_any k m n t W hsz)
  have HLs := Lib.hid (fun W => Less_any r q M.pr M.pp W)
  have HQ : Hid (∀ W, Below w4.heap.size w4 W → (W.heap[w.heap.size]? = some (.cells #[.int .i64 M.c, .int .i64 M.s, .int .i64 M.pr, .int .i64 M.pp, .int .i64 M.ar, .int .i64 M.ap, .int .i64 M.k, .int .i64 M.m, .int .i64 M.n, .string M.t] 38 (0, 0)) ∧ W.heap[w.heap.size + 1]? = some (.cells #[.int .i64 r, .int .i64 q] 31 (0, 0)) ∧ W.heap[w.heap.size + 2]? = some (.cells #[.int .i64 k, .int .i64 m, .int .i64 n, .string t] 34 (0, 0))) ∧ W.heap[w.heap.size + 3]? = some (.cells #[.int .i64 0, .int .i64 0, .int .i64 0, .int .i64 0, .int .i64 0, .int .i64 0, .int .i64 0, .int .i64 0, .int .i64 0, .string ⟨#[]⟩] 38 (0, 0))) := Lib.hid fun W hb =>
    ⟨⟨(hb.block _ (by omega)).trans k2, (hb.block _ (by omega)).trans k3, (hb.block _ (by omega)).trans k4⟩, (hb.block _ (by omega)).trans k5⟩
  have HB4 := Lib.hid hb4
  obtain ⟨⟨d0, d1, d2, d3, d4, d5, d6, d7, d8, d9⟩, _⟩ := ten k2
  obtain ⟨⟨b0, b1⟩, _⟩ := two k3
  obtain ⟨⟨e0, e1, e2, e3⟩, _⟩ := four k4
  clear k2 k3 k4 k5 hb4 hsz
  rw [hm] at HM
  rw [he] at HE
  rw [hl] at HLs
  clear hm he hl
  go_enter Tryz.func36, Tryz.ntmps36
  go_upto_region 5 with (first
    | (go_at_call 40; (with_reducible refine (HM.out _).mono ?_); rintro e w5 ⟨rfl, hb5⟩; have HB5 := Lib.hid hb5; clear hb5 d0 d1 d2 d3 d4 d5 d6 d7 d8 d9 b0 b1 e0 e1 e2 e3; obtain ⟨⟨d0, d1, d2, d3, d4, d5, d6, d7, d8, d9⟩, _⟩ := ten (HQ.out _ HB5.out).1.1; obtain ⟨⟨b0, b1⟩, _⟩ := two (HQ.out _ HB5.out).1.2.1; obtain ⟨⟨e0, e1, e2, e3⟩, _⟩ := four (HQ.out _ HB5.out).1.2.2; obtain ⟨_, ⟨f0, f1, f2, f3, f4, f5, f6, f7, f8, f9⟩⟩ := ten (HQ.out _ HB5.out).2)
    | (go_at_call 41; (with_reducible refine (HE.out _).mono ?_); rintro e w6 ⟨rfl, hb6⟩; have HB6 := Lib.hid (HB5.out.trans (hb6.mono HB5.out.size)); clear hb6 d0 d1 d2 d3 d4 d5 d6 d7 d8 d9 b0 b1 e0 e1 e2 e3 f0 f1 f2 f3 f4 f5 f6 f7 f8 f9; obtain ⟨⟨d0, d1, d2, d3, d4, d5, d6, d7, d8, d9⟩, _⟩ := ten (HQ.out _ HB6.out).1.1; obtain ⟨⟨b0, b1⟩, _⟩ := two (HQ.out _ HB6.out).1.2.1; obtain ⟨⟨e0, e1, e2, e3⟩, _⟩ := four (HQ.out _ HB6.out).1.2.2; obtain ⟨_, ⟨f0, f1, f2, f3, f4, f5, f6, f7, f8, f9⟩⟩ := ten (HQ.out _ HB6.out).2)
    | (go_at_call 42; (with_reducible refine (HLs.out _).mono ?_); rintro e w7 ⟨rfl, hb7⟩; have HB7 := Lib.hid (HB6.out.trans (hb7.mono HB6.out.size)); clear hb7 d0 d1 d2 d3 d4 d5 d6 d7 d8 d9 b0 b1 e0 e1 e2 e3 f0 f1 f2 f3 f4 f5 f6 f7 f8 f9; obtain ⟨⟨d0, d1, d2, d3, d4, d5, d6, d7, d8, d9⟩, _⟩ := ten (HQ.out _ HB7.out).1.1; obtain ⟨⟨b0, b1⟩, _⟩ := two (HQ.out _ HB7.out).1.2.1; obtain ⟨⟨e0, e1, e2, e3⟩, _⟩ := four (HQ.out _ HB7.out).1.2.2; obtain ⟨_, ⟨f0, f1, f2, f3, f4, f5, f6, f7, f8, f9⟩⟩ := ten (HQ.out _ HB7.out).2))
  have z0 : (fun W => W.cell? ⟨w.heap.size + 1, 0, none⟩ = some (.int .i64 r) ∧ W.cell? ⟨w.heap.size + 1, 1, none⟩ = some (.int .i64 q) ∧ W.cell? ⟨w.heap.size + 2, 0, none⟩ = some (.int .i64 k) ∧ W.cell? ⟨w.heap.size + 2, 1, none⟩ = some (.int .i64 m) ∧ W.cell? ⟨w.heap.size + 2, 2, none⟩ = some (.int .i64 n) ∧ W.cell? ⟨w.heap.size + 2, 3, none⟩ = some (.string t)) w7 := ⟨b0, b1, e0, e1, e2, e3⟩
  have x6 : w7.drew.heap[w.heap.size]? = _ := (HQ.out _ HB7.out).1.1
  have x7 : w7.drew.heap[w.heap.size + 1]? = _ := (HQ.out _ HB7.out).1.2.1
  have x8 : w7.drew.heap[w.heap.size + 2]? = _ := (HQ.out _ HB7.out).1.2.2
  have x9 : w7.drew.heap[w.heap.size + 3]? = _ := (HQ.out _ HB7.out).2
  have xb : Below w.heap.size w w7.drew := (HB4.out.trans (HB7.out.mono HB4.out.size)).drew
  clear d0 d1 d2 d3 d4 d5 d6 d7 d8 d9 b0 b1 e0 e1 e2 e3 f0 f1 f2 f3 f4 f5 f6 f7 f8 f9
  have hS0 : (fun W => W.cell? ⟨w.heap.size + 1, 0, none⟩ = some (.int .i64 r) ∧ W.cell? ⟨w.heap.size + 1, 1, none⟩ = some (.int .i64 q) ∧ W.cell? ⟨w.heap.size + 2, 0, none⟩ = some (.int .i64 k) ∧ W.cell? ⟨w.heap.size + 2, 1, none⟩ = some (.int .i64 m) ∧ W.cell? ⟨w.heap.size + 2, 2, none⟩ = some (.int .i64 n) ∧ W.cell? ⟨w.heap.size + 2, 3, none⟩ = some (.string t)) w7.drew := z0
  refine wp_region_held_drew (S := fun W => W.cell? ⟨w.heap.size + 1, 0, none⟩ = some (.int .i64 r) ∧ W.cell? ⟨w.heap.size + 1, 1, none⟩ = some (.int .i64 q) ∧ W.cell? ⟨w.heap.size + 2, 0, none⟩ = some (.int .i64 k) ∧ W.cell? ⟨w.heap.size + 2, 1, none⟩ = some (.int .i64 m) ∧ W.cell? ⟨w.heap.size + 2, 2, none⟩ = some (.int .i64 n) ∧ W.cell? ⟨w.heap.size + 2, 3, none⟩ = some (.string t)) rfl hS0 (fun hHeld => ?_)
  simp only [List.size_toArray, List.length_cons, List.length_nil, Nat.reduceAdd]
  have HB0 : Hid (Below w7.heap.size w7 w7.drew) := Lib.hid (Below.refl _ _).drew
  obtain ⟨V0, hV0⟩ : ∃ V, w7.drew = V := ⟨_, rfl⟩
  rw [hV0] at hHeld hS0 HB0 x6 x7 x8 x9 xb ⊢
  clear hV0
  refine wpAnyH_take (i := 0) (v := .agg #[.int .i64 r, .int .i64 q]) rfl (by kernel_rfl) (by kernel_rfl) (by kernel_rfl) (fun _ _ _ h => h) (Or.inl ⟨by rfl, ?_⟩) (by assumption) ?_
  · intro wx hs1; go_simp
  (try simp only [Act.put, List.getElem_toArray, List.getElem_cons_zero, List.setIfInBounds_toArray, List.set_cons_zero, List.set_cons_succ])
  refine wpAnyH_take (i := 1) (v := .agg #[.int .i64 r, .int .i64 q]) rfl (by kernel_rfl) (by kernel_rfl) (by kernel_rfl) (fun _ _ _ h => h) (Or.inl ⟨by rfl, ?_⟩) (by assumption) ?_
  · intro wx hs1; go_simp
  (try simp only [Act.put, List.getElem_toArray, List.getElem_cons_succ, List.getElem_cons_zero, List.setIfInBounds_toArray, List.set_cons_zero, List.set_cons_succ])
  refine wpAnyH_take (i := 2) (v := .agg #[.int .i64 k, .int .i64 m, .int .i64 n, .string t]) rfl (by kernel_rfl) (by kernel_rfl) (by kernel_rfl) (fun _ _ _ h => h) (Or.inl ⟨by rfl, ?_⟩) (by assumption) ?_
  · intro wx hs1; go_simp
  (try simp only [Act.put, List.getElem_toArray, List.getElem_cons_succ, List.getElem_cons_zero, List.setIfInBounds_toArray, List.set_cons_zero, List.set_cons_succ])
  refine wpAnyH_take (i := 3) (v := .agg #[.int .i64 r, .int .i64 q, .int .i64 k, .int .i64 m, .int .i64 n, .string t]) rfl (by kernel_rfl) (by kernel_rfl) (by kernel_rfl) (fun _ _ _ h => h) (Or.inl ⟨by rfl, ?_⟩) (by assumption) ?_
  · intro wx hs1; go_simp
  (try simp only [Act.put, List.getElem_toArray, List.getElem_cons_succ, List.getElem_cons_zero, List.setIfInBounds_toArray, List.set_cons_zero, List.set_cons_succ])
  refine wpAnyH_take (i := 4) (v := .pointer (some ⟨w.heap.size, 2, none⟩)) rfl (by kernel_rfl) (by kernel_rfl) (by kernel_rfl) (fun _ _ _ h => h) (Or.inl ⟨by rfl, ?_⟩) (by assumption) ?_
  · intro wx hs1; go_simp
  (try simp only [Act.put, List.getElem_toArray, List.getElem_cons_succ, List.getElem_cons_zero, List.setIfInBounds_toArray, List.set_cons_zero, List.set_cons_succ])
  obtain ⟨_, ⟨F0, F1, F2, F3, F4, F5, F6, F7, F8, F9⟩⟩ := ten x6
  have XB := Lib.hid (bst8 (p := w.heap.size) xb (Nat.le_refl _) (.int .i64 r) (.int .i64 q) (.int .i64 r) (.int .i64 q) (.int .i64 k) (.int .i64 m) (.int .i64 n) (.string t))
  have HX := Lib.hid (And.intro x6 (And.intro x7 (And.intro x8 x9)))
  clear x6 x7 x8 x9 xb
  refine wpAnyH_ready (rs := [5]) (by kernel_rfl) (by simp) (AllReadyH.cons rfl (fun K hK => ?_) AllReadyH.nil)
  go_simp
  try dsimp only
  have hS : (fun W => W.cell? ⟨w.heap.size + 1, 0, none⟩ = some (.int .i64 r) ∧ W.cell? ⟨w.heap.size + 1, 1, none⟩ = some (.int .i64 q) ∧ W.cell? ⟨w.heap.size + 2, 0, none⟩ = some (.int .i64 k) ∧ W.cell? ⟨w.heap.size + 2, 1, none⟩ = some (.int .i64 m) ∧ W.cell? ⟨w.heap.size + 2, 2, none⟩ = some (.int .i64 n) ∧ W.cell? ⟨w.heap.size + 2, 3, none⟩ = some (.string t)) ((V0.setCell ⟨w.heap.size, 2, none⟩ (.int .i64 r)).setCell ⟨w.heap.size, 3, none⟩ (.int .i64 q)) := ⟨(two (oth2 (b := w.heap.size) HX.out.2.1 (by omega) (.int .i64 r) (.int .i64 q))).1.1, (two (oth2 (b := w.heap.size) HX.out.2.1 (by omega) (.int .i64 r) (.int .i64 q))).1.2, (four (oth2 (b := w.heap.size) HX.out.2.2.1 (by omega) (.int .i64 r) (.int .i64 q))).1⟩
  refine hK.out _ _ hS (fun _ => ?_)
  clear hK K
  (try simp only [Act.put, List.getElem_toArray, List.getElem_cons_succ, List.getElem_cons_zero, List.setIfInBounds_toArray, List.set_cons_zero, List.set_cons_succ])
  clear F0 F1 F2 F3 F4 F5 F6 F7 F8 F9
  refine wpAnyH_take (i := 6) (v := .pointer (some ⟨w.heap.size, 4, none⟩)) rfl (by kernel_rfl) (by kernel_rfl) (by kernel_rfl) (fun _ _ _ h => h) (Or.inl ⟨by rfl, ?_⟩) (by assumption) ?_
  · intro wx hs1; go_simp
  (try simp only [Act.put, List.getElem_toArray, List.getElem_cons_succ, List.getElem_cons_zero, List.setIfInBounds_toArray, List.set_cons_zero, List.set_cons_succ])
  obtain ⟨_, ⟨F0, F1, F2, F3, F4, F5, F6, F7, F8, F9⟩⟩ := ten (prom38 HX.out.1 (.int .i64 r) (.int .i64 q))
  refine wpAnyH_ready (rs := [7]) (by kernel_rfl) (by simp) (AllReadyH.cons rfl (fun K hK => ?_) AllReadyH.nil)
  go_simp
  try dsimp only
  have hS : (fun W => W.cell? ⟨w.heap.size + 1, 0, none⟩ = some (.int .i64 r) ∧ W.cell? ⟨w.heap.size + 1, 1, none⟩ = some (.int .i64 q) ∧ W.cell? ⟨w.heap.size + 2, 0, none⟩ = some (.int .i64 k) ∧ W.cell? ⟨w.heap.size + 2, 1, none⟩ = some (.int .i64 m) ∧ W.cell? ⟨w.heap.size + 2, 2, none⟩ = some (.int .i64 n) ∧ W.cell? ⟨w.heap.size + 2, 3, none⟩ = some (.string t)) ((((((((V0.setCell ⟨w.heap.size, 2, none⟩ (.int .i64 r)).setCell ⟨w.heap.size, 3, none⟩ (.int .i64 q)).setCell ⟨w.heap.size, 4, none⟩ (.int .i64 r)).setCell ⟨w.heap.size, 5, none⟩ (.int .i64 q)).setCell ⟨w.heap.size, 6, none⟩ (.int .i64 k)).setCell ⟨w.heap.size, 7, none⟩ (.int .i64 m)).setCell ⟨w.heap.size, 8, none⟩ (.int .i64 n)).setCell ⟨w.heap.size, 9, none⟩ (.string t)) := ⟨(two (oth6 (b := w.heap.size) (oth2 (b := w.heap.size) HX.out.2.1 (by omega) (.int .i64 r) (.int .i64 q)) (by omega) (.int .i64 r) (.int .i64 q) (.int .i64 k) (.int .i64 m) (.int .i64 n) (.string t))).1.1, (two (oth6 (b := w.heap.size) (oth2 (b := w.heap.size) HX.out.2.1 (by omega) (.int .i64 r) (.int .i64 q)) (by omega) (.int .i64 r) (.int .i64 q) (.int .i64 k) (.int .i64 m) (.int .i64 n) (.string t))).1.2, (four (oth6 (b := w.heap.size) (oth2 (b := w.heap.size) HX.out.2.2.1 (by omega) (.int .i64 r) (.int .i64 q)) (by omega) (.int .i64 r) (.int .i64 q) (.int .i64 k) (.int .i64 m) (.int .i64 n) (.string t))).1⟩
  refine hK.out _ _ hS (fun _ => ?_)
  clear hK K
  (try simp only [Act.put, List.getElem_toArray, List.getElem_cons_succ, List.getElem_cons_zero, List.setIfInBounds_toArray, List.set_cons_zero, List.set_cons_succ])
  clear F0 F1 F2 F3 F4 F5 F6 F7 F8 F9
  refine wpAnyH_done (by kernel_rfl) ?_ _
  have y6 := acc38 (prom38 HX.out.1 (.int .i64 r) (.int .i64 q)) (.int .i64 r) (.int .i64 q) (.int .i64 k) (.int .i64 m) (.int .i64 n) (.string t)
  have y9 := oth6 (b := w.heap.size) (oth2 (b := w.heap.size) HX.out.2.2.2 (by omega) (.int .i64 r) (.int .i64 q)) (by omega) (.int .i64 r) (.int .i64 q) (.int .i64 k) (.int .i64 m) (.int .i64 n) (.string t)
  have XB2 := XB.out
  obtain ⟨v8, hv8⟩ : ∃ v, ((((((((V0.setCell ⟨w.heap.size, 2, none⟩ (.int .i64 r)).setCell ⟨w.heap.size, 3, none⟩ (.int .i64 q)).setCell ⟨w.heap.size, 4, none⟩ (.int .i64 r)).setCell ⟨w.heap.size, 5, none⟩ (.int .i64 q)).setCell ⟨w.heap.size, 6, none⟩ (.int .i64 k)).setCell ⟨w.heap.size, 7, none⟩ (.int .i64 m)).setCell ⟨w.heap.size, 8, none⟩ (.int .i64 n)).setCell ⟨w.heap.size, 9, none⟩ (.string t)) = v := ⟨_, rfl⟩
  rw [hv8] at y6 y9 XB2 ⊢
  clear hv8 XB
  have HY := Lib.hid (And.intro y9 XB2)
  obtain ⟨⟨d0, d1, d2, d3, d4, d5, d6, d7, d8, d9⟩, _⟩ := ten y6
  obtain ⟨_, ⟨F0, F1, F2, F3, F4, F5, F6, F7, F8, F9⟩⟩ := ten y9
  clear y6 y9 XB2
  go_wp2
  have ht := set10 HY.out.1 (.int .i64 M.c) (.int .i64 M.s) (.int .i64 r) (.int .i64 q) (.int .i64 r) (.int .i64 q) (.int .i64 k) (.int .i64 m) (.int .i64 n) (.string t)
  obtain ⟨⟨z0, z1, z2, z3, z4, z5, z6, z7, z8, z9⟩, _⟩ := ten ht
  clear ht d0 d1 d2 d3 d4 d5 d6 d7 d8 d9 F0 F1 F2 F3 F4 F5 F6 F7 F8 F9
  refine bodyPost_ret (v := .tuple #[.agg #[.int .i64 M.c, .int .i64 M.s, .int .i64 r, .int .i64 q, .int .i64 r, .int .i64 q, .int .i64 k, .int .i64 m, .int .i64 n, .string t], .bool true, .int .i64 0]) (by simp only [results, Tryz.results36]; simp [go_sem, z0, z1, z2, z3, z4, z5, z6, z7, z8, z9]) rfl ⟨rfl, ?_⟩
  exact bset10 HY.out.2 (by omega) (.int .i64 M.c) (.int .i64 M.s) (.int .i64 r) (.int .i64 q) (.int .i64 r) (.int .i64 q) (.int .i64 k) (.int .i64 m) (.int .i64 n) (.string t)
end Go.Proofs
