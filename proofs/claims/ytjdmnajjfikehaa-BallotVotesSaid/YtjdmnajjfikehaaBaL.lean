/-
  ballot: Add; the document's votes: Add, Many, Won. Conditions: as each theorem names them.
-/
import Derived.Test.YtjdmnajjfikehaaBaK
namespace Go.Proofs
open Go Go.RowKit Sm Go.Lib
attribute [local go_sem] Oper.semAt_some
/-- a place more is among them -/
def Sm.setF (f : Nat → Bool) (p : Nat) : Nat → Bool := fun i => if i = p then true else f i
/-- the votes behind an Add -/
def Sm.adF (c p : Int) (f : Nat → Bool) : Nat → Bool := if rpB c p = true then setF f p.toNat else f
def Sm.adB (c p : Int) (f : Nat → Bool) : Bool := if rpB c p = true then !f p.toNat else false
def Sm.adE (c p : Int) : Int := if rpB c p = true then 0 else 2
theorem Sm.set54 {W : World} {b : Nat} {c : Int} {f : Nat → Bool} (h : W.heap[b]? = some (.cells #[.int .i64 c, .bool (f 0), .bool (f 1), .bool (f 2), .bool (f 3), .bool (f 4), .bool (f 5), .bool (f 6), .bool (f 7), .bool (f 8)] 54 (0, 0))) (p : Nat) (hp : p < 9) : W.cell? ⟨b, 1 + p, none⟩ = some (.bool (f p)) ∧ W.frozen? ⟨b, 1 + p, none⟩ = false ∧ (W.setCell ⟨b, 1 + p, none⟩ (.bool true)).heap[b]? = some (.cells #[.int .i64 c, .bool ((setF f p) 0), .bool ((setF f p) 1), .bool ((setF f p) 2), .bool ((setF f p) 3), .bool ((setF f p) 4), .bool ((setF f p) 5), .bool ((setF f p) 6), .bool ((setF f p) 7), .bool ((setF f p) 8)] 54 (0, 0)) := by
  refine ⟨?_, frozen_of_heap h _, ?_⟩
  · rw [cell_of_heap h]
    obtain rfl | rfl | rfl | rfl | rfl | rfl | rfl | rfl | rfl : p = 0 ∨ p = 1 ∨ p = 2 ∨ p = 3 ∨ p = 4 ∨ p = 5 ∨ p = 6 ∨ p = 7 ∨ p = 8 := by omega
    all_goals rfl
  · rw [heap_setCells h]
    obtain rfl | rfl | rfl | rfl | rfl | rfl | rfl | rfl | rfl : p = 0 ∨ p = 1 ∨ p = 2 ∨ p = 3 ∨ p = 4 ∨ p = 5 ∨ p = 6 ∨ p = 7 ∨ p = 8 := by omega
    all_goals simp [setF]
theorem Sm.but_set (b i : Nat) (W : World) (v : Value) : But (fun q => q = b) W (W.setCell ⟨b, i, none⟩ v) := (But.refl _ _).set ⟨b, i, none⟩ _ (.inl rfl)
set_option maxRecDepth 100000 in
set_option maxHeartbeats 2000000 in
theorem Sm.Add_any (b : Nat) (c p : Int) (f : Nat → Bool) (w : World) (h : w.heap[b]? = some (.cells #[.int .i64 c, .bool (f 0), .bool (f 1), .bool (f 2), .bool (f 3), .bool (f 4), .bool (f 5), .bool (f 6), .bool (f 7), .bool (f 8)] 54 (0, 0))) (hc : chB c = true) : Calls Try.prog 24 #[.pointer (some ⟨b, 0, none⟩), .int .i64 p] w fun e w' =>
    e = .returned (.tuple #[.bool (adB c p f), .int .i64 (adE c p)]) ∧ w'.heap[b]? = some (.cells #[.int .i64 c, .bool ((adF c p f) 0), .bool ((adF c p f) 1), .bool ((adF c p f) 2), .bool ((adF c p f) 3), .bool ((adF c p f) 4), .bool ((adF c p f) 5), .bool ((adF c p f) 6), .bool ((adF c p f) 7), .bool ((adF c p f) 8)] 54 (0, 0)) ∧ But (fun q => q = b) w w' := by
  have hT := there_any _ c f w (.inr ⟨b, rfl, h⟩)
  have hl := (Array.getElem?_eq_some_iff.1 h).1
  have h9 : 3 ≤ c ∧ c ≤ 9 := by rcases chB_iff.1 hc with e | e | e | e <;> omega
  rw [show (c != 0) = true by simp; omega] at hT
  have hI := fun W => isPl_any c p W
  unfold adB adE adF
  unfold bpB at hI
  rw [hc] at hI
  simp only [Bool.true_and] at hI
  have HH := Lib.hid h
  clear h hc
  cases hr : rpB c p with
  | false =>
    rw [hr] at hI
    simp only [Bool.false_eq_true, if_false]
    clear hr
    go_enter Try.func24, Try.ntmps24
    go_wp2_with (first
      | (go_at_call 47; (with_reducible refine hT.mono ?_); clear hT; rintro e w1 ⟨rfl, hb1⟩; have HB1 := Lib.hid hb1; clear hb1; have c0 := cell_of_heap ((HB1.out.block _ hl).trans HH.out) 0; simp only [List.getElem?_toArray, List.getElem?_cons_zero] at c0)
      | (go_at_call 48; (with_reducible refine (hI _).mono ?_); rintro e w2 ⟨rfl, hb2⟩; have HB2 : Hid (Below w.heap.size w w2) := Lib.hid (HB1.out.trans (hb2.mono HB1.out.size)); clear hb2))
    go_ret2
    exact ⟨rfl, (HB2.out.block _ hl).trans HH.out, But.of_all HB2.out _⟩
  | true =>
    have hr2 := hr
    unfold rpB at hr2
    rw [Bool.and_eq_true, decide_eq_true_eq, decide_eq_true_eq] at hr2
    rw [hr] at hI
    simp only [if_true]
    obtain ⟨pn, rfl⟩ : ∃ pn : Nat, p = (pn : Int) := ⟨p.toNat, by omega⟩
    simp only [Int.toNat_natCast]
    have hp9 : pn < 9 := by omega
    have hpc : (pn : Int) < 9 := by omega
    clear hr hr2
    go_enter Try.func24, Try.ntmps24
    go_wp2_with (first
      | (go_at_call 47; (with_reducible refine hT.mono ?_); clear hT; rintro e w1 ⟨rfl, hb1⟩; have HB1 := Lib.hid hb1; clear hb1; have c0 := cell_of_heap ((HB1.out.block _ hl).trans HH.out) 0; simp only [List.getElem?_toArray, List.getElem?_cons_zero] at c0)
      | (go_at_call 48; (with_reducible refine (hI _).mono ?_); rintro e w2 ⟨rfl, hb2⟩; have HB2 : Hid (Below w.heap.size w w2) := Lib.hid (HB1.out.trans (hb2.mono HB1.out.size)); clear hb2; obtain ⟨d0, d1, d2⟩ := set54 ((HB2.out.block _ hl).trans HH.out) pn hp9; have HD := Lib.hid d2; clear d2))
    go_ret2
    exact ⟨rfl, HD.out, (But.of_all HB2.out _).trans (but_set _ _ _ _) (fun _ _ e => e)⟩
theorem Sm.Add_nil (v : Value) (p : Int) (f : Nat → Bool) (w : World) (h : VP w v 0 f) : Calls Try.prog 24 #[v, .int .i64 p] w fun e w' => e = .returned (.tuple #[.bool false, .int .i64 1]) ∧ Below w.heap.size w w' := by
  have hT := there_any v 0 f w h
  rw [show ((0 : Int) != 0) = false from rfl] at hT
  clear h
  go_enter Try.func24, Try.ntmps24
  go_wp2_with (go_at_call 47; (with_reducible refine hT.mono ?_); rintro e w1 ⟨rfl, hb⟩)
  go_ret2
  exact ⟨rfl, hb⟩
theorem Sm.set65 {W : World} {b : Nat} {c : Int} {f : Nat → Bool} (h : W.heap[b]? = some (.cells #[.int .i64 c, .bool (f 0), .bool (f 1), .bool (f 2), .bool (f 3), .bool (f 4), .bool (f 5), .bool (f 6), .bool (f 7), .bool (f 8)] 65 (0, 0))) (p : Nat) (hp : p < 9) : W.cell? ⟨b, 1 + p, none⟩ = some (.bool (f p)) ∧ W.frozen? ⟨b, 1 + p, none⟩ = false ∧ (W.setCell ⟨b, 1 + p, none⟩ (.bool true)).heap[b]? = some (.cells #[.int .i64 c, .bool ((setF f p) 0), .bool ((setF f p) 1), .bool ((setF f p) 2), .bool ((setF f p) 3), .bool ((setF f p) 4), .bool ((setF f p) 5), .bool ((setF f p) 6), .bool ((setF f p) 7), .bool ((setF f p) 8)] 65 (0, 0)) := by
  refine ⟨?_, frozen_of_heap h _, ?_⟩
  · rw [cell_of_heap h]
    obtain rfl | rfl | rfl | rfl | rfl | rfl | rfl | rfl | rfl : p = 0 ∨ p = 1 ∨ p = 2 ∨ p = 3 ∨ p = 4 ∨ p = 5 ∨ p = 6 ∨ p = 7 ∨ p = 8 := by omega
    all_goals rfl
  · rw [heap_setCells h]
    obtain rfl | rfl | rfl | rfl | rfl | rfl | rfl | rfl | rfl : p = 0 ∨ p = 1 ∨ p = 2 ∨ p = 3 ∨ p = 4 ∨ p = 5 ∨ p = 6 ∨ p = 7 ∨ p = 8 := by omega
    all_goals simp [setF]
theorem Sm.cells10r {W : World} {b : Nat} {c : Int} {f : Nat → Bool} (h : W.heap[b]? = some (.cells #[.int .i64 c, .bool (f 0), .bool (f 1), .bool (f 2), .bool (f 3), .bool (f 4), .bool (f 5), .bool (f 6), .bool (f 7), .bool (f 8)] 65 (0, 0))) :
    W.cell? ⟨b, 0, none⟩ = some (.int .i64 c) ∧ W.cell? ⟨b, 1, none⟩ = some (.bool (f 0)) ∧ W.cell? ⟨b, 2, none⟩ = some (.bool (f 1)) ∧ W.cell? ⟨b, 3, none⟩ = some (.bool (f 2)) ∧ W.cell? ⟨b, 4, none⟩ = some (.bool (f 3)) ∧ W.cell? ⟨b, 5, none⟩ = some (.bool (f 4)) ∧
    W.cell? ⟨b, 6, none⟩ = some (.bool (f 5)) ∧ W.cell? ⟨b, 7, none⟩ = some (.bool (f 6)) ∧ W.cell? ⟨b, 8, none⟩ = some (.bool (f 7)) ∧ W.cell? ⟨b, 9, none⟩ = some (.bool (f 8)) :=
  ⟨cell_of_heap h 0, cell_of_heap h 1, cell_of_heap h 2, cell_of_heap h 3, cell_of_heap h 4, cell_of_heap h 5, cell_of_heap h 6, cell_of_heap h 7, cell_of_heap h 8, cell_of_heap h 9⟩
set_option maxRecDepth 100000 in
set_option maxHeartbeats 2000000 in
theorem Sm.rMany_any (c : Int) (f : Nat → Bool) (w : World) : Calls Try.prog 33 #[.agg #[.int .i64 c, .bool (f 0), .bool (f 1), .bool (f 2), .bool (f 3), .bool (f 4), .bool (f 5), .bool (f 6), .bool (f 7), .bool (f 8)]] w fun e w' => e = .returned (.int .i64 (cntF f 9 : Int)) ∧ Below w.heap.size w w' := by
  have q0 := World.alloc_heap_new w (.cells #[.int .i64 c, .bool (f 0), .bool (f 1), .bool (f 2), .bool (f 3), .bool (f 4), .bool (f 5), .bool (f 6), .bool (f 7), .bool (f 8)] 65)
  have hb0 : Below w.heap.size w (w.alloc (.cells #[.int .i64 c, .bool (f 0), .bool (f 1), .bool (f 2), .bool (f 3), .bool (f 4), .bool (f 5), .bool (f 6), .bool (f 7), .bool (f 8)] 65)) := (Below.refl _ w).alloc (Nat.le_refl _) _
  obtain ⟨w1, hw1⟩ : ∃ v, w.alloc (.cells #[.int .i64 c, .bool (f 0), .bool (f 1), .bool (f 2), .bool (f 3), .bool (f 4), .bool (f 5), .bool (f 6), .bool (f 7), .bool (f 8)] 65) = v := ⟨_, rfl⟩
  rw [hw1] at q0 hb0
  have HQ := Lib.hid q0
  have HB := Lib.hid hb0
  clear q0 hb0
  go_enter Try.func33, Try.ntmps33
  go_wp2
  clear hw1
  go_loopw [3, 4] (fun v3 v4 wr => ∃ k : Nat, k ≤ 9 ∧ v3 = .int .i64 (cntF f k : Int) ∧ v4 = .int .i64 (k : Int) ∧ wr = w1) (fun _ v4 _ => 9 - (RowKit.intOf v4).toNat)
  case atStart => exact ⟨0, Nat.zero_le _, rfl, rfl, rfl⟩
  case round =>
    obtain ⟨k, hk, rfl, rfl, rfl⟩ := hrel
    by_cases hlt : k < 9
    · obtain ⟨c0, _, _⟩ := set65 HQ.out k hlt
      have hlI : (k : Int) < 9 := by omega
      have hcl := cntF_le f k
      have hcn : cntF f (k + 1) = cntF f k + (if f k = true then 1 else 0) := rfl
      cases hf : f k with
      | true =>
        rw [hf] at hcn c0
        have HN : Hid (cntF f (k + 1) = cntF f k + 1) := Lib.hid hcn
        obtain ⟨n, hn⟩ : ∃ n, cntF f k = n := ⟨_, rfl⟩
        rw [hn] at hcl HN ⊢
        clear hcn hn hf
        go_wp2
        go_roundw
        case rel => exact ⟨k + 1, by omega, by rw [HN.out]; go_num, by go_num, trivial⟩
        case measure => simp [RowKit.intOf]; omega
      | false =>
        rw [hf] at hcn c0
        have HN : Hid (cntF f (k + 1) = cntF f k) := Lib.hid hcn
        obtain ⟨n, hn⟩ : ∃ n, cntF f k = n := ⟨_, rfl⟩
        rw [hn] at hcl HN ⊢
        clear hcn hn hf
        go_wp2
        go_roundw
        case rel => exact ⟨k + 1, by omega, by rw [HN.out], by go_num, trivial⟩
        case measure => simp [RowKit.intOf]; omega
    · obtain rfl : k = 9 := by omega
      go_wp2
      go_ret
      exact ⟨rfl, HB.out⟩
end Go.Proofs
