/-
  learner: Hear, Told, Skipped. Conditions: as each theorem names them.
-/
import Derived.Test.YtohidbkhccepnaaDoorLeG
import Derived.Test.YtohidbkhccepnaaDoorAcD
namespace Go.Proofs
open Go Go.RowKit Sm Go.Lib Go.Maps Go.WideMaps
attribute [local go_sem] Oper.semAt_some
/-- what Hear's closure leaves: state, what was heard, its answer -/
def Sm.hearD (s : LSt) (g : HrdM) (r q : Int) (pl : Nat) (e0 : EntM) : LSt × HrdM × Int :=
  match g r q with
  | some (e1, f) => if sameE e1 e0 = false then (s, g, 260) else if wonB s.c (setF f pl) = false then (s, putG g r q (e1, setF f pl), 0) else if fits s e0 = false then (s, g, 260) else (s.knows e0, putG g r q (e1, setF f pl), 0)
  | none => if wonB s.c (setF (fun _ => false) pl) = false then (s, putG g r q (e0, setF (fun _ => false) pl), 0) else if fits s e0 = false then (s, g, 260) else (s.knows e0, putG g r q (e0, setF (fun _ => false) pl), 0)
theorem Sm.LAt.more {w : World} {p Mb : Nat} {s : LSt} {g : HrdM} {n m : Nat} (h : LAt w p Mb s g n) (hm : n ≤ m) : LAt w p Mb s g m := by
  obtain ⟨M, K, q1, q2, q3⟩ := h.map
  exact ⟨h.blk, ⟨M, K, q1, q2, by omega⟩, h.ne, h.ch, h.ok⟩
theorem Sm.hear1_any {w : World} {p Mb b0 b1 b2 b3 : Nat} {s : LSt} {g : HrdM} {n : Nat} {r q : Int} {e0 : EntM} {pl : Nat} (hp : LAt w p Mb s g n) (hn : n < 1000000) (hh : HrAt w p b0 b1 b2 b3 r q e0 pl) (hM0 : b0 ≠ Mb) (hM1 : b1 ≠ Mb) (hpl : pl < 9) (hr : I64 r) (hq : I64 q) (he : e0.ok) :
    Calls Tryd.prog 16 #[.pointer (some ⟨b0, 0, none⟩), .pointer (some ⟨b1, 0, none⟩), .pointer (some ⟨b2, 0, none⟩), .pointer (some ⟨b3, 0, none⟩)] w fun e w' => e = .returned (.int .i64 (hearD s g r q pl e0).2.2) ∧ LAt w' p Mb (hearD s g r q pl e0).1 (hearD s g r q pl e0).2.1 (n + 1) ∧ But (SL p Mb) w w' := by
  unfold hearD
  have no : ∀ w', Below w.heap.size w w' → LAt w' p Mb s g (n + 1) ∧ But (SL p Mb) w w' := fun w' hb => ⟨(hp.keep hb).more (by omega), But.of_all hb _⟩
  cases hg : g r q with
  | some x =>
    obtain ⟨e1, f⟩ := x
    simp only
    cases hs : sameE e1 e0 with
    | false => exact (hear1_tA hp hn hh hpl hr hq he hg hs).mono fun e w' ⟨h1, h2⟩ => ⟨h1, no _ h2⟩
    | true =>
      cases hw : wonB s.c (setF f pl) with
      | false => exact hear1_tD hp hn hh hM0 hM1 hpl hr hq he hg hs hw
      | true =>
        cases hf : fits s e0 with
        | false => exact (hear1_tB hp hn hh hpl hr hq he hg hs hw hf).mono fun e w' ⟨h1, h2⟩ => ⟨h1, no _ h2⟩
        | true => exact hear1_tC hp hn hh hM0 hM1 hpl hr hq he hg hs hw hf
  | none =>
    simp only
    cases hw : wonB s.c (setF (fun _ => false) pl) with
    | false => exact hear1_nD hp hn hh hM0 hM1 hpl hr hq he hg hw
    | true =>
      cases hf : fits s e0 with
      | false => exact (hear1_nB hp hn hh hpl hr hq he hg hw hf).mono fun e w' ⟨h1, h2⟩ => ⟨h1, no _ h2⟩
      | true => exact hear1_nC hp hn hh hM0 hM1 hpl hr hq he hg hw hf
def Sm.EntM.right (e : EntM) : Bool := entB e.k e.m e.n e.t
set_option maxRecDepth 100000 in
set_option maxHeartbeats 2000000 in
theorem Sm.Hear_wrong {w : World} {p Mb : Nat} {s : LSt} {g : HrdM} {n : Nat} {r q pl : Int} {e0 : EntM} (hp : LAt w p Mb s g n) (_hn : n < 1000000) (_hr : I64 r) (_hq : I64 q) (he : e0.ok) (hL : LaysT w) (hx : (!ckB s.c 0 pl || !mayB s.c s.s r q || !e0.right) = true) :
    Calls Tryd.prog 9 #[.pointer (some ⟨p, 0, none⟩), .int .i64 pl, .agg #[.int .i64 r, .int .i64 q], .agg #[.int .i64 e0.k, .int .i64 e0.m, .int .i64 e0.n, .string e0.t]] w fun e w' => e = .returned (.tuple #[.bool false, .int .i64 2]) ∧ Below w.heap.size w w' := by
  obtain ⟨W1, hW1⟩ : ∃ v, (((w.alloc (.cells #[.pointer (some ⟨p, 0, none⟩)] 25)).alloc (.cells #[.int .i64 pl] 3)).alloc (.cells #[.int .i64 r, .int .i64 q] 37)).alloc (.cells #[.int .i64 e0.k, .int .i64 e0.m, .int .i64 e0.n, .string e0.t] 33) = v := ⟨_, rfl⟩
  have hb0 : Below w.heap.size w W1 := by rw [← hW1]; exact ((((Below.refl _ w).alloc (Nat.le_refl _) _).alloc (by simp) _).alloc (by simp only [World.size_alloc]; omega) _).alloc (by simp only [World.size_alloc]; omega) _
  have q0 : W1.heap[w.heap.size]? = some (.cells #[.pointer (some ⟨p, 0, none⟩)] 25 (0, 0)) := by rw [← hW1]; exact (Below.heap_alloc _ _ _ (by simp only [World.size_alloc]; omega)).trans ((Below.heap_alloc _ _ _ (by simp only [World.size_alloc]; omega)).trans ((Below.heap_alloc _ _ _ (by simp)).trans (World.alloc_heap_new w _)))
  have q1 : W1.heap[w.heap.size + 1]? = some (.cells #[.int .i64 pl] 3 (0, 0)) := by rw [← hW1]; exact (Below.heap_alloc _ _ _ (by simp only [World.size_alloc]; omega)).trans ((Below.heap_alloc _ _ _ (by simp)).trans (by have := World.alloc_heap_new (w.alloc (.cells #[.pointer (some ⟨p, 0, none⟩)] 25)) (.cells #[.int .i64 pl] 3); rwa [World.size_alloc] at this))
  have q2 : W1.heap[w.heap.size + 2]? = some (.cells #[.int .i64 r, .int .i64 q] 37 (0, 0)) := by rw [← hW1]; exact (Below.heap_alloc _ _ _ (by simp)).trans (by have := World.alloc_heap_new ((w.alloc (.cells #[.pointer (some ⟨p, 0, none⟩)] 25)).alloc (.cells #[.int .i64 pl] 3)) (.cells #[.int .i64 r, .int .i64 q] 37); rwa [World.size_alloc, World.size_alloc] at this)
  have q3 : W1.heap[w.heap.size + 3]? = some (.cells #[.int .i64 e0.k, .int .i64 e0.m, .int .i64 e0.n, .string e0.t] 33 (0, 0)) := by rw [← hW1]; have := World.alloc_heap_new (((w.alloc (.cells #[.pointer (some ⟨p, 0, none⟩)] 25)).alloc (.cells #[.int .i64 pl] 3)).alloc (.cells #[.int .i64 r, .int .i64 q] 37)) (.cells #[.int .i64 e0.k, .int .i64 e0.m, .int .i64 e0.n, .string e0.t] 33); rwa [World.size_alloc, World.size_alloc, World.size_alloc] at this
  have l3 := (Array.getElem?_eq_some_iff.1 q3).1
  have hpl := hp.lt
  have HF : Hid (∀ W, Below W1.heap.size W1 W → W.cell? ⟨w.heap.size, 0, none⟩ = some (.pointer (some ⟨p, 0, none⟩)) ∧ W.cell? ⟨w.heap.size + 1, 0, none⟩ = some (.int .i64 pl) ∧ (W.cell? ⟨w.heap.size + 2, 0, none⟩ = some (.int .i64 r) ∧ W.cell? ⟨w.heap.size + 2, 1, none⟩ = some (.int .i64 q)) ∧ (W.cell? ⟨w.heap.size + 3, 0, none⟩ = some (.int .i64 e0.k) ∧ W.cell? ⟨w.heap.size + 3, 1, none⟩ = some (.int .i64 e0.m) ∧ W.cell? ⟨w.heap.size + 3, 2, none⟩ = some (.int .i64 e0.n) ∧ W.cell? ⟨w.heap.size + 3, 3, none⟩ = some (.string e0.t))) := Lib.hid fun W hb =>
    ⟨cell_of_heap ((hb.block _ (by omega)).trans q0) 0, cell_of_heap ((hb.block _ (by omega)).trans q1) 0, (two ((hb.block _ (by omega)).trans q2)).1, (four ((hb.block _ (by omega)).trans q3)).1⟩
  have H20 : Hid (∀ W, Below W1.heap.size W1 W → Calls Tryd.prog 20 #[.pointer (some ⟨p, 0, none⟩), .int .i64 pl] W fun e w' => e = .returned (.bool (!ckB s.c 0 pl)) ∧ Below W1.heap.size W1 w') := Lib.hid fun W hb => (isNobody_any pl ((hp.keep hb0).keep hb)).mono fun e w' ⟨h1, h2⟩ => ⟨h1, hb.trans (h2.mono hb.size)⟩
  have H21 : Hid (∀ W, Below W1.heap.size W1 W → Calls Tryd.prog 21 #[.pointer (some ⟨p, 0, none⟩), .agg #[.int .i64 r, .int .i64 q]] W fun e w' => e = .returned (.bool (mayB s.c s.s r q)) ∧ Below W1.heap.size W1 w') := Lib.hid fun W hb => (may_any r q ((hp.keep hb0).keep hb)).mono fun e w' ⟨h1, h2⟩ => ⟨h1, hb.trans (h2.mono hb.size)⟩
  have H22 : Hid (∀ W, Below W1.heap.size W1 W → Calls Tryd.prog 22 #[.agg #[.int .i64 e0.k, .int .i64 e0.m, .int .i64 e0.n, .string e0.t]] W fun e w' => e = .returned (.bool e0.right) ∧ Below W1.heap.size W1 w') := Lib.hid fun W hb => (right_any e0.k e0.m e0.n e0.t W he.1 he.2.2.2 ((hL.keep hb0).keep hb)).mono fun e w' ⟨h1, h2⟩ => ⟨h1, hb.trans (h2.mono hb.size)⟩
  have H19 : Hid (∀ W A a b c, RowB W A 3 3 [a, b, c] → Below W1.heap.size W1 W → (a || b || c) = true → Calls Tryd.prog 19 #[.pointer (some ⟨p, 0, none⟩), .func (.func 16) #[] #[.pointer (some ⟨w.heap.size, 0, none⟩), .pointer (some ⟨w.heap.size + 2, 0, none⟩), .pointer (some ⟨w.heap.size + 3, 0, none⟩), .pointer (some ⟨w.heap.size + 1, 0, none⟩)], .slice A 3 3] W fun e w' => e = .returned (.tuple #[.bool false, .int .i64 2]) ∧ Below W1.heap.size W1 w') := Lib.hid fun W A a b c hr' hb hx => (tell_wrong _ A 3 3 _ ((hp.keep hb0).keep hb) hr' (by simpa [Bool.or_assoc] using hx)).mono fun e w' ⟨h1, h2⟩ => ⟨h1, hb.trans (h2.mono hb.size)⟩
  obtain ⟨a1, ha1⟩ : ∃ a1, ckB s.c 0 pl = a1 := ⟨_, rfl⟩
  obtain ⟨a2, ha2⟩ : ∃ a2, mayB s.c s.s r q = a2 := ⟨_, rfl⟩
  obtain ⟨a3, ha3⟩ : ∃ a3, e0.right = a3 := ⟨_, rfl⟩
  rw [ha1, ha2, ha3] at hx
  rw [ha1] at H20
  rw [ha2] at H21
  rw [ha3] at H22
  clear ha1 ha2 ha3
  have z0 := HF.out _ (Below.refl _ W1)
  have HB0 := Lib.hid hb0
  clear hp hL he q0 q1 q2 q3 hb0
  go_enter Tryd.func9, Tryd.ntmps9
  go_upto_region 2 with fail
  clear hW1
  go_region_held_law (fun W => W.cell? ⟨w.heap.size, 0, none⟩ = some (.pointer (some ⟨p, 0, none⟩)) ∧ W.cell? ⟨w.heap.size + 1, 0, none⟩ = some (.int .i64 pl) ∧ (W.cell? ⟨w.heap.size + 2, 0, none⟩ = some (.int .i64 r) ∧ W.cell? ⟨w.heap.size + 2, 1, none⟩ = some (.int .i64 q)) ∧ (W.cell? ⟨w.heap.size + 3, 0, none⟩ = some (.int .i64 e0.k) ∧ W.cell? ⟨w.heap.size + 3, 1, none⟩ = some (.int .i64 e0.m) ∧ W.cell? ⟨w.heap.size + 3, 2, none⟩ = some (.int .i64 e0.n) ∧ W.cell? ⟨w.heap.size + 3, 3, none⟩ = some (.string e0.t)))
    (first | with_reducible exact z0 | (refine HF.out _ ?_; (first | with_reducible assumption | with_reducible exact (Below.refl _ _).drew | with_reducible exact Below.refl _ _ | with_reducible exact Below.drew (by assumption) | exact hb4.alloc hb4.size _ | exact (hb4.alloc hb4.size _).drew)) | with_reducible exact zE)
    (first
      | (go_at_call 20; (with_reducible refine (H20.out _ (by first | with_reducible assumption | with_reducible exact (Below.refl _ _).drew | with_reducible exact Below.refl _ _)).mono ?_); rintro e w2 ⟨rfl, hb2⟩)
      | (go_at_call 21; (with_reducible refine (H21.out _ hb2).mono ?_); rintro e w3 ⟨rfl, hb3⟩)
      | (go_at_call 22; (with_reducible refine (H22.out _ hb3).mono ?_); rintro e w4 ⟨rfl, hb4⟩)
      | (go_at_call 19; (with_reducible refine (H19.out _ _ _ _ _ (by first | exact row3 _ _ _ _ _ | exact (row3 _ _ _ _ _).keep (Below.refl _ _).drew) (by first | exact hb4.alloc hb4.size _ | exact (hb4.alloc hb4.size _).drew | exact hb4.drew.alloc hb4.size _) hx).mono ?_); rintro e w5 ⟨rfl, HR⟩; have zE := HF.out _ HR))
  all_goals
    go_wp2
    go_ret2
    exact ⟨rfl, HB0.out.trans (HR.mono HB0.out.size)⟩
set_option maxRecDepth 100000 in
set_option maxHeartbeats 2000000 in
theorem Sm.Hear_do {w : World} {p Mb : Nat} {s : LSt} {g : HrdM} {n : Nat} {r q pl : Int} {e0 : EntM} (hp : LAt w p Mb s g n) (hn : n < 1000000) (hr : I64 r) (hq : I64 q) (he : e0.ok) (hL : LaysT w) (hx : (!ckB s.c 0 pl || !mayB s.c s.s r q || !e0.right) = false) :
    Calls Tryd.prog 9 #[.pointer (some ⟨p, 0, none⟩), .int .i64 pl, .agg #[.int .i64 r, .int .i64 q], .agg #[.int .i64 e0.k, .int .i64 e0.m, .int .i64 e0.n, .string e0.t]] w fun e w' => e = .returned (.tuple #[.bool ((hearD s g r q pl.toNat e0).1.kn != s.kn), .int .i64 (hearD s g r q pl.toNat e0).2.2]) ∧ LAt w' p Mb (hearD s g r q pl.toNat e0).1 (hearD s g r q pl.toNat e0).2.1 (n + 1) ∧ But (SL p Mb) w w' := by
  obtain ⟨W1, hW1⟩ : ∃ v, (((w.alloc (.cells #[.pointer (some ⟨p, 0, none⟩)] 25)).alloc (.cells #[.int .i64 pl] 3)).alloc (.cells #[.int .i64 r, .int .i64 q] 37)).alloc (.cells #[.int .i64 e0.k, .int .i64 e0.m, .int .i64 e0.n, .string e0.t] 33) = v := ⟨_, rfl⟩
  have hb0 : Below w.heap.size w W1 := by rw [← hW1]; exact ((((Below.refl _ w).alloc (Nat.le_refl _) _).alloc (by simp) _).alloc (by simp only [World.size_alloc]; omega) _).alloc (by simp only [World.size_alloc]; omega) _
  have q0 : W1.heap[w.heap.size]? = some (.cells #[.pointer (some ⟨p, 0, none⟩)] 25 (0, 0)) := by rw [← hW1]; exact (Below.heap_alloc _ _ _ (by simp only [World.size_alloc]; omega)).trans ((Below.heap_alloc _ _ _ (by simp only [World.size_alloc]; omega)).trans ((Below.heap_alloc _ _ _ (by simp)).trans (World.alloc_heap_new w _)))
  have q1 : W1.heap[w.heap.size + 1]? = some (.cells #[.int .i64 pl] 3 (0, 0)) := by rw [← hW1]; exact (Below.heap_alloc _ _ _ (by simp only [World.size_alloc]; omega)).trans ((Below.heap_alloc _ _ _ (by simp)).trans (by have := World.alloc_heap_new (w.alloc (.cells #[.pointer (some ⟨p, 0, none⟩)] 25)) (.cells #[.int .i64 pl] 3); rwa [World.size_alloc] at this))
  have q2 : W1.heap[w.heap.size + 2]? = some (.cells #[.int .i64 r, .int .i64 q] 37 (0, 0)) := by rw [← hW1]; exact (Below.heap_alloc _ _ _ (by simp)).trans (by have := World.alloc_heap_new ((w.alloc (.cells #[.pointer (some ⟨p, 0, none⟩)] 25)).alloc (.cells #[.int .i64 pl] 3)) (.cells #[.int .i64 r, .int .i64 q] 37); rwa [World.size_alloc, World.size_alloc] at this)
  have q3 : W1.heap[w.heap.size + 3]? = some (.cells #[.int .i64 e0.k, .int .i64 e0.m, .int .i64 e0.n, .string e0.t] 33 (0, 0)) := by rw [← hW1]; have := World.alloc_heap_new (((w.alloc (.cells #[.pointer (some ⟨p, 0, none⟩)] 25)).alloc (.cells #[.int .i64 pl] 3)).alloc (.cells #[.int .i64 r, .int .i64 q] 37)) (.cells #[.int .i64 e0.k, .int .i64 e0.m, .int .i64 e0.n, .string e0.t] 33); rwa [World.size_alloc, World.size_alloc, World.size_alloc] at this
  have l3 := (Array.getElem?_eq_some_iff.1 q3).1
  have hpl := hp.lt
  have HF : Hid (∀ W, Below W1.heap.size W1 W → W.cell? ⟨w.heap.size, 0, none⟩ = some (.pointer (some ⟨p, 0, none⟩)) ∧ W.cell? ⟨w.heap.size + 1, 0, none⟩ = some (.int .i64 pl) ∧ (W.cell? ⟨w.heap.size + 2, 0, none⟩ = some (.int .i64 r) ∧ W.cell? ⟨w.heap.size + 2, 1, none⟩ = some (.int .i64 q)) ∧ (W.cell? ⟨w.heap.size + 3, 0, none⟩ = some (.int .i64 e0.k) ∧ W.cell? ⟨w.heap.size + 3, 1, none⟩ = some (.int .i64 e0.m) ∧ W.cell? ⟨w.heap.size + 3, 2, none⟩ = some (.int .i64 e0.n) ∧ W.cell? ⟨w.heap.size + 3, 3, none⟩ = some (.string e0.t))) := Lib.hid fun W hb =>
    ⟨cell_of_heap ((hb.block _ (by omega)).trans q0) 0, cell_of_heap ((hb.block _ (by omega)).trans q1) 0, (two ((hb.block _ (by omega)).trans q2)).1, (four ((hb.block _ (by omega)).trans q3)).1⟩
  have H20 : Hid (∀ W, Below W1.heap.size W1 W → Calls Tryd.prog 20 #[.pointer (some ⟨p, 0, none⟩), .int .i64 pl] W fun e w' => e = .returned (.bool (!ckB s.c 0 pl)) ∧ Below W1.heap.size W1 w') := Lib.hid fun W hb => (isNobody_any pl ((hp.keep hb0).keep hb)).mono fun e w' ⟨h1, h2⟩ => ⟨h1, hb.trans (h2.mono hb.size)⟩
  have H21 : Hid (∀ W, Below W1.heap.size W1 W → Calls Tryd.prog 21 #[.pointer (some ⟨p, 0, none⟩), .agg #[.int .i64 r, .int .i64 q]] W fun e w' => e = .returned (.bool (mayB s.c s.s r q)) ∧ Below W1.heap.size W1 w') := Lib.hid fun W hb => (may_any r q ((hp.keep hb0).keep hb)).mono fun e w' ⟨h1, h2⟩ => ⟨h1, hb.trans (h2.mono hb.size)⟩
  have H22 : Hid (∀ W, Below W1.heap.size W1 W → Calls Tryd.prog 22 #[.agg #[.int .i64 e0.k, .int .i64 e0.m, .int .i64 e0.n, .string e0.t]] W fun e w' => e = .returned (.bool e0.right) ∧ Below W1.heap.size W1 w') := Lib.hid fun W hb => (right_any e0.k e0.m e0.n e0.t W he.1 he.2.2.2 ((hL.keep hb0).keep hb)).mono fun e w' ⟨h1, h2⟩ => ⟨h1, hb.trans (h2.mono hb.size)⟩
  simp only [Bool.or_eq_false_iff, Bool.not_eq_false'] at hx
  obtain ⟨⟨x1, x2⟩, x3⟩ := hx
  have hpn : ∃ pn : Nat, pn < 9 ∧ pl = (pn : Int) := by
    have h := x1
    unfold ckB bpB at h
    simp only [Bool.and_eq_true] at h
    have h2 := h.2.2
    have h3 := h.2.1
    simp only [rpB, Bool.and_eq_true, decide_eq_true_eq] at h2
    have h9 : s.c ≤ 9 := by rcases chB_iff.1 h3 with e | e | e | e <;> omega
    exact ⟨pl.toNat, by omega, by omega⟩
  obtain ⟨pn, hpn9, rfl⟩ := hpn
  simp only [Int.toNat_natCast] at *
  have HH : Hid (∀ W, Below W1.heap.size W1 W → HrAt W p w.heap.size (w.heap.size + 2) (w.heap.size + 3) (w.heap.size + 1) r q e0 pn) := Lib.hid fun W hb =>
    ⟨cell_of_heap ((hb.block _ (by omega)).trans q0) 0, (hb.block _ (by omega)).trans q2, (hb.block _ (by omega)).trans q3, cell_of_heap ((hb.block _ (by omega)).trans q1) 0, by omega, by omega, by omega, by omega⟩
  have H19 : Hid (∀ W A a b c, RowB W A 3 3 [a, b, c] → Below W1.heap.size W1 W → a = false → b = false → c = false → Calls Tryd.prog 19 #[.pointer (some ⟨p, 0, none⟩), .func (.func 16) #[] #[.pointer (some ⟨w.heap.size, 0, none⟩), .pointer (some ⟨w.heap.size + 2, 0, none⟩), .pointer (some ⟨w.heap.size + 3, 0, none⟩), .pointer (some ⟨w.heap.size + 1, 0, none⟩)], .slice A 3 3] W fun e w' => e = .returned (.tuple #[.bool ((hearD s g r q pn e0).1.kn != s.kn), .int .i64 (hearD s g r q pn e0).2.2]) ∧ Hid (LAt w' p Mb (hearD s g r q pn e0).1 (hearD s g r q pn e0).2.1 (n + 1) ∧ But (SL p Mb) w w') ∧ (w'.cell? ⟨w.heap.size, 0, none⟩ = some (.pointer (some ⟨p, 0, none⟩)) ∧ w'.cell? ⟨w.heap.size + 1, 0, none⟩ = some (.int .i64 (pn : Int)) ∧ (w'.cell? ⟨w.heap.size + 2, 0, none⟩ = some (.int .i64 r) ∧ w'.cell? ⟨w.heap.size + 2, 1, none⟩ = some (.int .i64 q)) ∧ (w'.cell? ⟨w.heap.size + 3, 0, none⟩ = some (.int .i64 e0.k) ∧ w'.cell? ⟨w.heap.size + 3, 1, none⟩ = some (.int .i64 e0.m) ∧ w'.cell? ⟨w.heap.size + 3, 2, none⟩ = some (.int .i64 e0.n) ∧ w'.cell? ⟨w.heap.size + 3, 3, none⟩ = some (.string e0.t)))) := Lib.hid fun W A a b c hr' hb ha hb' hc' => by
    subst ha hb' hc'
    have hpW := (hp.keep hb0).keep hb
    refine (tell_do 16 _ (enters_of Tryd.func16 (by kernel_rfl) rfl) A 3 3 _ hpW hr' rfl (fun W2 hb2 => hear1_any (hpW.keep hb2) hn ((HH.out W hb).keep hb2) (by omega) (by omega) hpn9 hr hq he)).mono fun e w' ⟨h1, h2, h3⟩ => ⟨h1, Lib.hid ⟨h2, (But.of_all (hb0.trans (hb.mono hb0.size)) _).trans h3 (fun _ _ e => e)⟩, ?_⟩
    have hq0 := h3.box ((hb.block _ (by omega)).trans q0) (by show ¬ (_ = _ ∨ _ = _); omega)
    have hq1 := h3.box ((hb.block _ (by omega)).trans q1) (by show ¬ (_ = _ ∨ _ = _); omega)
    have hq2 := h3.box ((hb.block _ (by omega)).trans q2) (by show ¬ (_ = _ ∨ _ = _); omega)
    have hq3 := h3.box ((hb.block _ (by omega)).trans q3) (by show ¬ (_ = _ ∨ _ = _); omega)
    exact ⟨cell_of_heap hq0 0, cell_of_heap hq1 0, (two hq2).1, (four hq3).1⟩
  rw [x1] at H20
  rw [x2] at H21
  rw [x3] at H22
  obtain ⟨kk, hkk⟩ : ∃ kk, ((hearD s g r q pn e0).1.kn != s.kn) = kk := ⟨_, rfl⟩
  obtain ⟨xx, hxx⟩ : ∃ xx, (hearD s g r q pn e0).2.2 = xx := ⟨_, rfl⟩
  rw [hkk, hxx] at H19 ⊢
  clear hkk hxx x1 x2 x3 HH
  have z0 := HF.out _ (Below.refl _ W1)
  have HB0 := Lib.hid hb0
  clear hp hL he hr hq q0 q1 q2 q3 hb0
  go_enter Tryd.func9, Tryd.ntmps9
  go_upto_region 2 with fail
  clear hW1
  go_region_held_law (fun W => W.cell? ⟨w.heap.size, 0, none⟩ = some (.pointer (some ⟨p, 0, none⟩)) ∧ W.cell? ⟨w.heap.size + 1, 0, none⟩ = some (.int .i64 (pn : Int)) ∧ (W.cell? ⟨w.heap.size + 2, 0, none⟩ = some (.int .i64 r) ∧ W.cell? ⟨w.heap.size + 2, 1, none⟩ = some (.int .i64 q)) ∧ (W.cell? ⟨w.heap.size + 3, 0, none⟩ = some (.int .i64 e0.k) ∧ W.cell? ⟨w.heap.size + 3, 1, none⟩ = some (.int .i64 e0.m) ∧ W.cell? ⟨w.heap.size + 3, 2, none⟩ = some (.int .i64 e0.n) ∧ W.cell? ⟨w.heap.size + 3, 3, none⟩ = some (.string e0.t)))
    (first | with_reducible exact z0 | (refine HF.out _ ?_; (first | with_reducible assumption | with_reducible exact (Below.refl _ _).drew | with_reducible exact Below.refl _ _ | with_reducible exact Below.drew (by assumption) | exact hb4.alloc hb4.size _ | exact (hb4.alloc hb4.size _).drew)) | with_reducible exact zE)
    (first
      | (go_at_call 20; (with_reducible refine (H20.out _ (by first | with_reducible assumption | with_reducible exact (Below.refl _ _).drew | with_reducible exact Below.refl _ _)).mono ?_); rintro e w2 ⟨rfl, hb2⟩)
      | (go_at_call 21; (with_reducible refine (H21.out _ hb2).mono ?_); rintro e w3 ⟨rfl, hb3⟩)
      | (go_at_call 22; (with_reducible refine (H22.out _ hb3).mono ?_); rintro e w4 ⟨rfl, hb4⟩)
      | (go_at_call 19; (with_reducible refine (H19.out _ _ _ _ _ (by first | exact row3 _ _ _ _ _ | exact (row3 _ _ _ _ _).keep (Below.refl _ _).drew) (by first | exact hb4.alloc hb4.size _ | exact (hb4.alloc hb4.size _).drew | exact hb4.drew.alloc hb4.size _) rfl rfl rfl).mono ?_); rintro e w5 ⟨rfl, HR, zE⟩))
  all_goals
    go_wp2
    go_ret2
    exact ⟨rfl, HR.out⟩
end Go.Proofs
