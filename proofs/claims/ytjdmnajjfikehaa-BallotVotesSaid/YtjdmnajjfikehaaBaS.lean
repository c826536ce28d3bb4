/-
  The walk of BallotCopies. Conditions: as the theorem names them.
-/
import Derived.Test.YtjdmnajjfikehaaBaR
namespace Go.Proofs
open Go Go.RowKit Sm Go.Lib
attribute [local go_sem] Oper.semAt_some
theorem Sm.part65 (w : World) (c : Int) (f : Nat → Bool) : (part 3 #[.int .i64 c, .bool (f 0), .bool (f 1), .bool (f 2), .bool (f 3), .bool (f 4), .bool (f 5), .bool (f 6), .bool (f 7), .bool (f 8)] 0).run Try.prog w = .ok (.int .i64 c) w ∧ (part 51 #[.int .i64 c, .bool (f 0), .bool (f 1), .bool (f 2), .bool (f 3), .bool (f 4), .bool (f 5), .bool (f 6), .bool (f 7), .bool (f 8)] 1).run Try.prog w = .ok (.agg #[.bool (f 0), .bool (f 1), .bool (f 2), .bool (f 3), .bool (f 4), .bool (f 5), .bool (f 6), .bool (f 7), .bool (f 8)]) w := ⟨by kernel_rfl, by kernel_rfl⟩
theorem Sm.eql65 (w : World) (c d : Int) (f g : Nat → Bool) : (binOp .eql 65 (.agg #[.int .i64 c, .bool (f 0), .bool (f 1), .bool (f 2), .bool (f 3), .bool (f 4), .bool (f 5), .bool (f 6), .bool (f 7), .bool (f 8)]) (.agg #[.int .i64 d, .bool (g 0), .bool (g 1), .bool (g 2), .bool (g 3), .bool (g 4), .bool (g 5), .bool (g 6), .bool (g 7), .bool (g 8)])).run Try.prog w = .ok (.bool (c == d && eq9 f g)) w := by
  obtain ⟨a1, a2⟩ := part65 w c f
  obtain ⟨b1, b2⟩ := part65 w d g
  rw [run_eql_struct, show (10000 : Nat) = 9999 + 1 from rfl, run_equalIn_agg w 9999 65 _ _ (by kernel_rfl) (by kernel_rfl)]
  have he := run_equalIn_int (P := Try.prog) w 9998 3 .i64 .i64 c d Try.underlying3
  have h9 : (Op.equalIn 9999 51 (.agg #[.bool (f 0), .bool (f 1), .bool (f 2), .bool (f 3), .bool (f 4), .bool (f 5), .bool (f 6), .bool (f 7), .bool (f 8)]) (.agg #[.bool (g 0), .bool (g 1), .bool (g 2), .bool (g 3), .bool (g 4), .bool (g 5), .bool (g 6), .bool (g 7), .bool (g 8)])).run Try.prog w = .ok (eq9 f g) w := equal9 w 9997 51 f g Try.underlying51
  rw [show Try.prog.fieldsOf 65 = #[{ name := "N", type := 3, offset := 0, embedded := false, tag := "", pkgPath := "", byteOffset := 0 }, { name := "Has", type := 51, offset := 1, embedded := false, tag := "", pkgPath := "", byteOffset := 8 }] by kernel_rfl]
  simp only [Op.eqFields, Sem.run_bind, a1, b1, he, Result.andThen_ok, ne_eq, String.reduceEq, not_false_eq_true, if_true]
  cases c == d
  · simp
  · simp only [Bool.not_true, Bool.false_eq_true, if_false, Bool.true_and, Sem.run_bind, a2, b2, h9, Result.andThen_ok]
    cases eq9 f g <;> simp
theorem Sm.guard65 (w : World) (x y : Operand) (c d : Int) (f g : Nat → Bool) : (eqGuard .eql 65 x y (.agg #[.int .i64 c, .bool (f 0), .bool (f 1), .bool (f 2), .bool (f 3), .bool (f 4), .bool (f 5), .bool (f 6), .bool (f 7), .bool (f 8)]) (.agg #[.int .i64 d, .bool (g 0), .bool (g 1), .bool (g 2), .bool (g 3), .bool (g 4), .bool (g 5), .bool (g 6), .bool (g 7), .bool (g 8)])).run Try.prog w = .ok () w := run_eqGuard_agg w .eql 65 x y _ _ (by kernel_rfl)
/-- two votes in memory, and the document's -/
structure Sm.CoS (w W : World) (ba bo x14 : Nat) (c n : Int) (f : Nat → Bool) : Prop where
  va : W.heap[ba]? = some (.cells #[.int .i64 c, .bool (f 0), .bool (f 1), .bool (f 2), .bool (f 3), .bool (f 4), .bool (f 5), .bool (f 6), .bool (f 7), .bool (f 8)] 54 (0, 0))
  vo : W.heap[bo]? = some (.cells #[.int .i64 n, .bool false, .bool false, .bool false, .bool false, .bool false, .bool false, .bool false, .bool false, .bool false] 54 (0, 0))
  x : W.heap[x14]? = some (.cells #[.int .i64 c, .bool (f 0), .bool (f 1), .bool (f 2), .bool (f 3), .bool (f 4), .bool (f 5), .bool (f 6), .bool (f 7), .bool (f 8)] 65 (0, 0))
  ne : ba ≠ bo ∧ ba ≠ x14 ∧ bo ≠ x14
  l : Below w.heap.size w W
  lo : w.heap.size ≤ ba ∧ w.heap.size ≤ bo ∧ w.heap.size ≤ x14
theorem Sm.CoS.keep {w W W2 : World} {ba bo x14 : Nat} {c n : Int} {f : Nat → Bool} (h : CoS w W ba bo x14 c n f) (hb : Below W.heap.size W W2) : CoS w W2 ba bo x14 c n f :=
  ⟨(hb.block _ (Array.getElem?_eq_some_iff.1 h.va).1).trans h.va, (hb.block _ (Array.getElem?_eq_some_iff.1 h.vo).1).trans h.vo, (hb.block _ (Array.getElem?_eq_some_iff.1 h.x).1).trans h.x, h.ne, h.l.trans (hb.mono h.l.size), h.lo⟩
/-- the votes behind an Add, the document's not yet -/
structure Sm.CoM (w W : World) (ba bo x14 : Nat) (c n : Int) (f g : Nat → Bool) : Prop where
  va : W.heap[ba]? = some (.cells #[.int .i64 c, .bool (g 0), .bool (g 1), .bool (g 2), .bool (g 3), .bool (g 4), .bool (g 5), .bool (g 6), .bool (g 7), .bool (g 8)] 54 (0, 0))
  vo : W.heap[bo]? = some (.cells #[.int .i64 n, .bool false, .bool false, .bool false, .bool false, .bool false, .bool false, .bool false, .bool false, .bool false] 54 (0, 0))
  x : W.heap[x14]? = some (.cells #[.int .i64 c, .bool (f 0), .bool (f 1), .bool (f 2), .bool (f 3), .bool (f 4), .bool (f 5), .bool (f 6), .bool (f 7), .bool (f 8)] 65 (0, 0))
  ne : ba ≠ bo ∧ ba ≠ x14 ∧ bo ≠ x14
  l : Below w.heap.size w W
  lo : w.heap.size ≤ ba ∧ w.heap.size ≤ bo ∧ w.heap.size ≤ x14
theorem Sm.CoM.keep {w W W2 : World} {ba bo x14 : Nat} {c n : Int} {f g : Nat → Bool} (h : CoM w W ba bo x14 c n f g) (hb : Below W.heap.size W W2) : CoM w W2 ba bo x14 c n f g :=
  ⟨(hb.block _ (Array.getElem?_eq_some_iff.1 h.va).1).trans h.va, (hb.block _ (Array.getElem?_eq_some_iff.1 h.vo).1).trans h.vo, (hb.block _ (Array.getElem?_eq_some_iff.1 h.x).1).trans h.x, h.ne, h.l.trans (hb.mono h.l.size), h.lo⟩
theorem Sm.CoS.add {w W W2 : World} {ba bo x14 : Nat} {c n : Int} {f g : Nat → Bool} (h : CoS w W ba bo x14 c n f) (hb : But (fun q => q = ba) W W2) (hv : W2.heap[ba]? = some (.cells #[.int .i64 c, .bool (g 0), .bool (g 1), .bool (g 2), .bool (g 3), .bool (g 4), .bool (g 5), .bool (g 6), .bool (g 7), .bool (g 8)] 54 (0, 0))) : CoM w W2 ba bo x14 c n f g :=
  ⟨hv, hb.box h.vo (by have := h.ne; omega), hb.box h.x (by have := h.ne; omega), h.ne, h.l.trans (hb.to_below h.l.size (fun q e => by have := h.lo; omega)), h.lo⟩
theorem Sm.put10x {W : World} {b : Nat} {d : Int} {g : Nat → Bool} (h : W.heap[b]? = some (.cells #[.int .i64 d, .bool (g 0), .bool (g 1), .bool (g 2), .bool (g 3), .bool (g 4), .bool (g 5), .bool (g 6), .bool (g 7), .bool (g 8)] 65 (0, 0))) (c : Int) (f : Nat → Bool) : ((((((((((W.setCell ⟨b, 0, none⟩ (.int .i64 c)).setCell ⟨b, 1, none⟩ (.bool (f 0))).setCell ⟨b, 2, none⟩ (.bool (f 1))).setCell ⟨b, 3, none⟩ (.bool (f 2))).setCell ⟨b, 4, none⟩ (.bool (f 3))).setCell ⟨b, 5, none⟩ (.bool (f 4))).setCell ⟨b, 6, none⟩ (.bool (f 5))).setCell ⟨b, 7, none⟩ (.bool (f 6))).setCell ⟨b, 8, none⟩ (.bool (f 7))).setCell ⟨b, 9, none⟩ (.bool (f 8))).heap[b]? = some (.cells #[.int .i64 c, .bool (f 0), .bool (f 1), .bool (f 2), .bool (f 3), .bool (f 4), .bool (f 5), .bool (f 6), .bool (f 7), .bool (f 8)] 65 (0, 0)) := by
  have h0 := put1 h 0 (.int .i64 c)
  have h1 := put1 h0 1 (.bool (f 0))
  have h2 := put1 h1 2 (.bool (f 1))
  have h3 := put1 h2 3 (.bool (f 2))
  have h4 := put1 h3 4 (.bool (f 3))
  have h5 := put1 h4 5 (.bool (f 4))
  have h6 := put1 h5 6 (.bool (f 5))
  have h7 := put1 h6 7 (.bool (f 6))
  have h8 := put1 h7 8 (.bool (f 7))
  have h9 := put1 h8 9 (.bool (f 8))
  exact h9
theorem Sm.but10 (W : World) (b : Nat) (c : Int) (f : Nat → Bool) : But (fun q => q = b) W ((((((((((W.setCell ⟨b, 0, none⟩ (.int .i64 c)).setCell ⟨b, 1, none⟩ (.bool (f 0))).setCell ⟨b, 2, none⟩ (.bool (f 1))).setCell ⟨b, 3, none⟩ (.bool (f 2))).setCell ⟨b, 4, none⟩ (.bool (f 3))).setCell ⟨b, 5, none⟩ (.bool (f 4))).setCell ⟨b, 6, none⟩ (.bool (f 5))).setCell ⟨b, 7, none⟩ (.bool (f 6))).setCell ⟨b, 8, none⟩ (.bool (f 7))).setCell ⟨b, 9, none⟩ (.bool (f 8))) := by
  have h0 := but_set b 0 W (.int .i64 c)
  have h1 := h0.trans (but_set b 1 _ (.bool (f 0))) (fun _ _ e => e)
  have h2 := h1.trans (but_set b 2 _ (.bool (f 1))) (fun _ _ e => e)
  have h3 := h2.trans (but_set b 3 _ (.bool (f 2))) (fun _ _ e => e)
  have h4 := h3.trans (but_set b 4 _ (.bool (f 3))) (fun _ _ e => e)
  have h5 := h4.trans (but_set b 5 _ (.bool (f 4))) (fun _ _ e => e)
  have h6 := h5.trans (but_set b 6 _ (.bool (f 5))) (fun _ _ e => e)
  have h7 := h6.trans (but_set b 7 _ (.bool (f 6))) (fun _ _ e => e)
  have h8 := h7.trans (but_set b 8 _ (.bool (f 7))) (fun _ _ e => e)
  have h9 := h8.trans (but_set b 9 _ (.bool (f 8))) (fun _ _ e => e)
  exact h9
theorem Sm.CoM.put {w W W2 : World} {ba bo x14 : Nat} {c n : Int} {f g : Nat → Bool} (h : CoM w W ba bo x14 c n f g) (hb : But (fun q => q = x14) W W2) (hv : W2.heap[x14]? = some (.cells #[.int .i64 c, .bool (g 0), .bool (g 1), .bool (g 2), .bool (g 3), .bool (g 4), .bool (g 5), .bool (g 6), .bool (g 7), .bool (g 8)] 65 (0, 0))) : CoS w W2 ba bo x14 c n g :=
  ⟨hb.box h.va (by have := h.ne; omega), hb.box h.vo (by have := h.ne; omega), hv, h.ne, h.l.trans (hb.to_below h.l.size (fun q e => by have := h.lo; omega)), h.lo⟩
/-- two votes and the document's of both -/
structure Sm.CoT (w W : World) (ba bc x14 x17 : Nat) (c : Int) (f f1 f2 g : Nat → Bool) : Prop where
  va : W.heap[ba]? = some (.cells #[.int .i64 c, .bool (f1 0), .bool (f1 1), .bool (f1 2), .bool (f1 3), .bool (f1 4), .bool (f1 5), .bool (f1 6), .bool (f1 7), .bool (f1 8)] 54 (0, 0))
  vc : W.heap[bc]? = some (.cells #[.int .i64 c, .bool (f2 0), .bool (f2 1), .bool (f2 2), .bool (f2 3), .bool (f2 4), .bool (f2 5), .bool (f2 6), .bool (f2 7), .bool (f2 8)] 54 (0, 0))
  x : W.heap[x14]? = some (.cells #[.int .i64 c, .bool (f 0), .bool (f 1), .bool (f 2), .bool (f 3), .bool (f 4), .bool (f 5), .bool (f 6), .bool (f 7), .bool (f 8)] 65 (0, 0))
  y : W.heap[x17]? = some (.cells #[.int .i64 c, .bool (g 0), .bool (g 1), .bool (g 2), .bool (g 3), .bool (g 4), .bool (g 5), .bool (g 6), .bool (g 7), .bool (g 8)] 65 (0, 0))
  ne : ba ≠ bc ∧ ba ≠ x14 ∧ bc ≠ x14 ∧ ba ≠ x17 ∧ bc ≠ x17
  l : Below w.heap.size w W
  lo : w.heap.size ≤ ba ∧ w.heap.size ≤ bc
theorem Sm.CoT.keep {w W W2 : World} {ba bc x14 x17 : Nat} {c : Int} {f f1 f2 g : Nat → Bool} (h : CoT w W ba bc x14 x17 c f f1 f2 g) (hb : Below W.heap.size W W2) : CoT w W2 ba bc x14 x17 c f f1 f2 g :=
  ⟨(hb.block _ (Array.getElem?_eq_some_iff.1 h.va).1).trans h.va, (hb.block _ (Array.getElem?_eq_some_iff.1 h.vc).1).trans h.vc, (hb.block _ (Array.getElem?_eq_some_iff.1 h.x).1).trans h.x, (hb.block _ (Array.getElem?_eq_some_iff.1 h.y).1).trans h.y, h.ne, h.l.trans (hb.mono h.l.size), h.lo⟩
theorem Sm.CoT.addC {w W W2 : World} {ba bc x14 x17 : Nat} {c : Int} {f f1 f2 g h2 : Nat → Bool} (h : CoT w W ba bc x14 x17 c f f1 f2 g) (hb : But (fun q => q = bc) W W2) (hv : W2.heap[bc]? = some (.cells #[.int .i64 c, .bool (h2 0), .bool (h2 1), .bool (h2 2), .bool (h2 3), .bool (h2 4), .bool (h2 5), .bool (h2 6), .bool (h2 7), .bool (h2 8)] 54 (0, 0))) : CoT w W2 ba bc x14 x17 c f f1 h2 g :=
  ⟨hb.box h.va (by have := h.ne; omega), hv, hb.box h.x (by have := h.ne; omega), hb.box h.y (by have := h.ne; omega), h.ne, h.l.trans (hb.to_below h.l.size (fun q e => by have := h.lo; omega)), h.lo⟩
/-- two votes, and what the first row of the document's is -/
structure Sm.CoP (w W : World) (ba bc x14 : Nat) (c : Int) (f f1 f2 : Nat → Bool) : Prop where
  va : W.heap[ba]? = some (.cells #[.int .i64 c, .bool (f1 0), .bool (f1 1), .bool (f1 2), .bool (f1 3), .bool (f1 4), .bool (f1 5), .bool (f1 6), .bool (f1 7), .bool (f1 8)] 54 (0, 0))
  vc : W.heap[bc]? = some (.cells #[.int .i64 c, .bool (f2 0), .bool (f2 1), .bool (f2 2), .bool (f2 3), .bool (f2 4), .bool (f2 5), .bool (f2 6), .bool (f2 7), .bool (f2 8)] 54 (0, 0))
  x : W.heap[x14]? = some (.cells #[.int .i64 c, .bool (f 0), .bool (f 1), .bool (f 2), .bool (f 3), .bool (f 4), .bool (f 5), .bool (f 6), .bool (f 7), .bool (f 8)] 65 (0, 0))
  ne : ba ≠ bc ∧ ba ≠ x14 ∧ bc ≠ x14
  l : Below w.heap.size w W
  lo : w.heap.size ≤ ba ∧ w.heap.size ≤ bc
theorem Sm.CoP.keep {w W W2 : World} {ba bc x14 : Nat} {c : Int} {f f1 f2 : Nat → Bool} (h : CoP w W ba bc x14 c f f1 f2) (hb : Below W.heap.size W W2) : CoP w W2 ba bc x14 c f f1 f2 :=
  ⟨(hb.block _ (Array.getElem?_eq_some_iff.1 h.va).1).trans h.va, (hb.block _ (Array.getElem?_eq_some_iff.1 h.vc).1).trans h.vc, (hb.block _ (Array.getElem?_eq_some_iff.1 h.x).1).trans h.x, h.ne, h.l.trans (hb.mono h.l.size), h.lo⟩
theorem Sm.CoP.addA {w W W2 : World} {ba bc x14 : Nat} {c : Int} {f f1 f2 h2 : Nat → Bool} (h : CoP w W ba bc x14 c f f1 f2) (hb : But (fun q => q = ba) W W2) (hv : W2.heap[ba]? = some (.cells #[.int .i64 c, .bool (h2 0), .bool (h2 1), .bool (h2 2), .bool (h2 3), .bool (h2 4), .bool (h2 5), .bool (h2 6), .bool (h2 7), .bool (h2 8)] 54 (0, 0))) : CoP w W2 ba bc x14 c f h2 f2 :=
  ⟨hv, hb.box h.vc (by have := h.ne; omega), hb.box h.x (by have := h.ne; omega), h.ne, h.l.trans (hb.to_below h.l.size (fun q e => by have := h.lo; omega)), h.lo⟩
theorem Sm.CoP.more {w W : World} {ba bc x14 : Nat} {c : Int} {f f1 f2 : Nat → Bool} (h : CoP w W ba bc x14 c f f1 f2) (g : Nat → Bool) : CoT w (W.alloc (.cells #[.int .i64 c, .bool (g 0), .bool (g 1), .bool (g 2), .bool (g 3), .bool (g 4), .bool (g 5), .bool (g 6), .bool (g 7), .bool (g 8)] 65)) ba bc x14 W.heap.size c f f1 f2 g := by
  have h2 := h.keep ((Below.refl _ _).alloc (Nat.le_refl _) (.cells #[.int .i64 c, .bool (g 0), .bool (g 1), .bool (g 2), .bool (g 3), .bool (g 4), .bool (g 5), .bool (g 6), .bool (g 7), .bool (g 8)] 65))
  have la := (Array.getElem?_eq_some_iff.1 h.va).1
  have lc := (Array.getElem?_eq_some_iff.1 h.vc).1
  exact ⟨h2.va, h2.vc, h2.x, World.alloc_heap_new _ _, ⟨h.ne.1, h.ne.2.1, h.ne.2.2, by omega, by omega⟩, h2.l, h.lo⟩
set_option maxRecDepth 100000 in
set_option maxHeartbeats 8000000 in
theorem Sm.copies_law (c : Int) (A1 : Option Addr) (n1 c1 : Nat) (l1 : List Int) (one two : Int) (w : World)
    (e1 : l1.length = n1) (_g1 : n1 ≤ c1) (_m1 : c1 ≤ 9223372036854775807) (rd1 : Rds w (fun _ => False) A1 (l1.map fun k => .int .i64 k)) :
    Calls Try.prog 7 #[.int .i64 c, .slice A1 n1 c1, .int .i64 one, .int .i64 two] w fun e w' => e = .returned (.bool true) ∧ Below w.heap.size w w' := by
  have hw := fun W => works_any W
  have hR : ∀ W, Calls Try.prog 31 #[.int .i64 c] W fun e w' => e = .returned (.bool (chB c)) ∧ W = w' := fun W => Right_any c W
  have HR1 := Lib.hid (RowI.of rd1)
  have HE1 := Lib.hid e1
  clear rd1 e1
  by_cases h20 : 20 < n1
  · go_enter Try.func7, Try.ntmps7
    go_wp2_with (go_at_call 15; (with_reducible refine (hw _).mono ?_); rintro e w1 ⟨rfl, hb⟩)
    go_ret
    exact ⟨rfl, hb⟩
  cases hc : chB c with
  | false =>
    rw [hc] at hR
    clear hc
    go_enter Try.func7, Try.ntmps7
    go_wp2_with (first
      | (go_at_call 31; (with_reducible refine (hR _).mono ?_); rintro e w' ⟨rfl, rfl⟩)
      | (go_at_call 15; (with_reducible refine (hw _).mono ?_); rintro e w1 ⟨rfl, hb⟩))
    go_ret
    exact ⟨rfl, hb⟩
  | true =>
    rw [hc] at hR
    have hN := fun W => New_yes c W hc
    have HC := Lib.hid hc
    obtain ⟨n, hn⟩ : ∃ n : Int, (if c = 3 then (5 : Int) else 3) = n := ⟨_, rfl⟩
    have hnc : (c == n) = false ∧ (n == c) = false ∧ chB n = true ∧ ¬ c = n := by
      rw [← hn]
      split
      · rename_i e; rw [e]; decide
      · rename_i e; refine ⟨by simpa using e, by simpa using fun h => e h.symm, by decide, e⟩
    have hN2 := fun W => New_yes n W hnc.2.2.1
    have hA := fun (f : Nat → Bool) (b : Nat) (x : Int) (W : World) (hW : W.heap[b]? = some (.cells #[.int .i64 c, .bool (f 0), .bool (f 1), .bool (f 2), .bool (f 3), .bool (f 4), .bool (f 5), .bool (f 6), .bool (f 7), .bool (f 8)] 54 (0, 0))) => Add_any b c x f W hW hc
    have hrA := fun (x : Int) (f : Nat → Bool) (W : World) => rAdd_any c x f W hc
    have HA := Lib.hid hA
    have HNC := Lib.hid hnc
    have hi1 : (n1 : Int) ≤ 20 := by omega
    have hn5 : c = 3 → n = 5 := fun e => by rw [← hn, if_pos e]
    have hn3 : ¬ c = 3 → n = 3 := fun e => by rw [← hn, if_neg e]
    clear hc hA hn hnc
    go_enter Try.func7, Try.ntmps7
    go_upto_region 4 with (first
      | (go_at_call 31; (with_reducible refine (hR _).mono ?_); rintro e w' ⟨rfl, rfl⟩)
      | (go_at_call 23; (with_reducible refine (hN _).mono ?_); rintro e w5 ⟨ba, rfl, hbaz, hbac, hb5⟩; have HB5 := Lib.hid hb5; have HBA5 := Lib.hid hbac; have hla5 := (Array.getElem?_eq_some_iff.1 hbac).1; clear hb5 hbac))
    go_upto_if 39 with fail
    go_cut [11] from 39 to 39 (fun s11 wx => s11 = .int .i64 n ∧ wx = w5)
    case first =>
      by_cases h3 : c = 3
      · have h4 : (c == 3) = true := by simpa using h3
        obtain rfl := hn5 h3
        clear h3
        go_wp2
        go_meet
        exact ⟨rfl, rfl⟩
      · have h4 : (c == 3) = false := by simpa using h3
        obtain rfl := hn3 h3
        clear h3
        go_wp2
        go_meet
        exact ⟨rfl, rfl⟩
    case rest =>
      obtain ⟨rfl, rfl⟩ := hcut
      clear hn5 hn3 hR
      go_upto_region 9 with (go_at_call 23; (with_reducible refine (hN2 _).mono ?_); rintro e w6 ⟨bo, rfl, hboz, hboc, hb6⟩; have HB6 := Lib.hid hb6; have HBO6 := Lib.hid hboc; clear hb6 hboc)
      obtain ⟨w7, hw7⟩ : ∃ v, w6.alloc (.cells #[.int .i64 c, .bool false, .bool false, .bool false, .bool false, .bool false, .bool false, .bool false, .bool false, .bool false] 65) = v := ⟨_, rfl⟩
      have hb7 : Below w6.heap.size w6 w7 := by rw [← hw7]; exact (Below.refl _ _).alloc (Nat.le_refl _) _
      have hlb6 := (Array.getElem?_eq_some_iff.1 HBO6.out).1
      have hla6 := (HB6.out.block _ hla5).trans HBA5.out
      have hlz6 := (Array.getElem?_eq_some_iff.1 hla6).1
      have hz5 := HB5.out.size
      have hz6 := HB6.out.size
      have HM : Hid (CoS w w7 ba bo w6.heap.size c n (fun _ => false)) := Lib.hid ⟨(hb7.block _ hlz6).trans hla6, (hb7.block _ hlb6).trans HBO6.out, by rw [← hw7]; exact World.alloc_heap_new _ _, by omega, HB5.out.trans ((HB6.out.trans (hb7.mono hz6)).mono hz5), by omega⟩
      obtain ⟨x14, hx14⟩ : ∃ x, w6.heap.size = x := ⟨_, rfl⟩
      rw [hx14] at HM
      rw [hw7, hx14]
      clear hw7 hb7 hlb6 hla6 hlz6 hz5 hz6 hx14 HB5 HB6 HBA5 HBO6 hla5 hbaz hboz hN hN2
      go_upto_region 10 with fail
      go_loopw [15] (fun v15 wr => ∃ (i : Nat) (f : Nat → Bool), i ≤ n1 ∧ v15 = .int .i64 (i : Int) ∧ Hid (CoS w wr ba bo x14 c n f)) (fun v15 _ => n1 - (RowKit.intOf v15).toNat)
      case atStart => exact ⟨0, _, Nat.zero_le _, rfl, HM⟩
      case round =>
        obtain ⟨wo, rfl⟩ : ∃ wo : World, wo = wr := ⟨_, rfl⟩
        obtain ⟨i, f, hi, rfl, HI⟩ := hrel
        clear HM
        by_cases hlt : i < n1
        · have hkx : i < l1.length := by rw [HE1.out]; exact hlt
          rcases HR1.out with e | ⟨g, off, rfl, hg, hcl⟩
          · rw [e] at hkx; simp at hkx
          have c0 := (HI.out.l.cell (p := ⟨g, off + i, none⟩) hg).trans (hcl i hkx)
          obtain ⟨x, hx⟩ : ∃ x, l1[i] = x := ⟨_, rfl⟩
          rw [hx] at c0
          have hgl0 := Nat.lt_of_lt_of_le hg HI.out.l.size
          have had := HA.out f ba x wo HI.out.va
          clear hcl hx
          go_upto_region 13 with (go_at_call 24; refine had.mono ?_; clear had; rintro e w8 ⟨rfl, hv8, hb8⟩; have HM8 := Lib.hid (HI.out.add hb8 hv8); have z8 := (hb8.cell (p := ⟨g, off + i, none⟩) hgl0 (fun e => by have h1 := HI.out.lo; have e2 : g = ba := e; omega)).trans c0; have hgl := Nat.lt_of_lt_of_le hgl0 hb8.size; clear hv8 hb8)
          have HS : Hid (∀ W, Below w8.heap.size w8 W → W.cell? ⟨g, off + i, none⟩ = some (.int .i64 x)) := Lib.hid fun W hb => cell_keep hb hgl z8
          have hS0 : (fun W => W.cell? ⟨g, off + i, none⟩ = some (.int .i64 x)) w8.drew := z8
          refine wp_region_held_drew (S := fun W => W.cell? ⟨g, off + i, none⟩ = some (.int .i64 x)) rfl hS0 (fun hHeld => ?_)
          simp only [List.size_toArray, List.length_cons, List.length_nil, Nat.reduceAdd]
          have HB0 : Hid (Below w8.heap.size w8 w8.drew) := Lib.hid (Below.refl _ _).drew
          obtain ⟨V0, hV0⟩ : ∃ V, w8.drew = V := ⟨_, rfl⟩
          rw [hV0] at hHeld hS0 HB0 ⊢
          clear hV0
          refine wpAnyH_take (i := 1) (v := .slice (some ⟨g, off, none⟩) n1 c1) rfl (by kernel_rfl) (by kernel_rfl) (by kernel_rfl) (fun _ _ _ h => h) (Or.inl ⟨by rfl, ?_⟩) (by assumption) ?_
          · intro wx hs1; go_simp
          (try simp only [Act.put, List.getElem_toArray, List.setIfInBounds_toArray])
          refine wpAnyH_take (i := 2) (v := .int .i64 (i : Int)) rfl (by kernel_rfl) (by kernel_rfl) (by kernel_rfl) (fun _ _ _ h => h) (Or.inl ⟨by rfl, ?_⟩) (by assumption) ?_
          · intro wx hs1; go_simp
          (try simp only [Act.put, List.getElem_toArray, List.getElem_cons_succ, List.getElem_cons_zero, List.setIfInBounds_toArray, List.set_cons_zero, List.set_cons_succ])
          refine wpAnyH_take (i := 3) (v := .pointer (some ⟨g, off + i, none⟩)) rfl (by kernel_rfl) (by kernel_rfl) (by kernel_rfl) (fun _ _ _ h => h) (Or.inl ⟨by rfl, ?_⟩) (by assumption) ?_
          · intro wx hs1; go_simp
          (try simp only [Act.put, List.getElem_toArray, List.getElem_cons_succ, List.getElem_cons_zero, List.setIfInBounds_toArray, List.set_cons_zero, List.set_cons_succ])
          refine wpAnyH_take (i := 4) (v := .int .i64 x) rfl (by kernel_rfl) (by kernel_rfl) (by kernel_rfl) (fun _ _ _ h => h) (Or.inl ⟨by rfl, ?_⟩) (by assumption) ?_
          · intro wx hs1; go_simp
          (try simp only [Act.put, List.getElem_toArray, List.getElem_cons_succ, List.getElem_cons_zero, List.setIfInBounds_toArray, List.set_cons_zero, List.set_cons_succ])
          obtain ⟨a0, a1, a2, a3, a4, a5, a6, a7, a8, a9⟩ := cells10r (HM8.out.keep HB0.out).x
          refine wpAnyH_ready (rs := [0]) (by kernel_rfl) (by simp) (AllReadyH.cons rfl (fun K hK => ?_) AllReadyH.nil)
          go_simp
          try dsimp only
          have hS := hS0
          refine hK.out _ _ hS (fun _ => ?_)
          clear hK K
          (try simp only [Act.put, List.getElem_toArray, List.getElem_cons_succ, List.getElem_cons_zero, List.setIfInBounds_toArray, List.set_cons_zero, List.set_cons_succ])
          refine wpAnyH_ready (rs := [5]) (by kernel_rfl) (by simp) (AllReadyH.cons rfl (fun K hK => ?_) AllReadyH.nil)
          go_simp
          go_at_call 32
          (with_reducible refine (hrA _ _ _).mono ?_)
          rintro e w9 ⟨rfl, hb9⟩
          try dsimp only
          have HB9 : Hid (Below w8.heap.size w8 w9) := Lib.hid (HB0.out.trans (hb9.mono HB0.out.size)); clear hb9 a0 a1 a2 a3 a4 a5 a6 a7 a8 a9; have hS := HS.out w9 HB9.out
          refine hK.out _ _ hS (fun _ => ?_)
          clear hK K
          (try simp only [Act.put, List.getElem_toArray, List.getElem_cons_succ, List.getElem_cons_zero, List.setIfInBounds_toArray, List.set_cons_zero, List.set_cons_succ])
          refine wpAnyH_take (i := 6) (v := .tuple #[.agg #[.int .i64 c, .bool ((adF c x f) 0), .bool ((adF c x f) 1), .bool ((adF c x f) 2), .bool ((adF c x f) 3), .bool ((adF c x f) 4), .bool ((adF c x f) 5), .bool ((adF c x f) 6), .bool ((adF c x f) 7), .bool ((adF c x f) 8)], .bool (adB c x f), .int .i64 (adE c x)]) rfl (by kernel_rfl) (by kernel_rfl) (by kernel_rfl) (fun _ _ _ h => h) (Or.inl ⟨by rfl, ?_⟩) (by assumption) ?_
          · intro wx hs1; go_simp
          (try simp only [Act.put, List.getElem_toArray, List.getElem_cons_succ, List.getElem_cons_zero, List.setIfInBounds_toArray, List.set_cons_zero, List.set_cons_succ])
          refine wpAnyH_take (i := 7) (v := .agg #[.int .i64 c, .bool ((adF c x f) 0), .bool ((adF c x f) 1), .bool ((adF c x f) 2), .bool ((adF c x f) 3), .bool ((adF c x f) 4), .bool ((adF c x f) 5), .bool ((adF c x f) 6), .bool ((adF c x f) 7), .bool ((adF c x f) 8)]) rfl (by kernel_rfl) (by kernel_rfl) (by kernel_rfl) (fun _ _ _ h => h) (Or.inl ⟨by rfl, ?_⟩) (by assumption) ?_
          · intro wx hs1; go_simp
          (try simp only [Act.put, List.getElem_toArray, List.getElem_cons_succ, List.getElem_cons_zero, List.setIfInBounds_toArray, List.set_cons_zero, List.set_cons_succ])
          refine wpAnyH_take (i := 8) (v := .bool (adB c x f)) rfl (by kernel_rfl) (by kernel_rfl) (by kernel_rfl) (fun _ _ _ h => h) (Or.inl ⟨by rfl, ?_⟩) (by assumption) ?_
          · intro wx hs1; go_simp
          (try simp only [Act.put, List.getElem_toArray, List.getElem_cons_succ, List.getElem_cons_zero, List.setIfInBounds_toArray, List.set_cons_zero, List.set_cons_succ])
          refine wpAnyH_take (i := 9) (v := .int .i64 (adE c x)) rfl (by kernel_rfl) (by kernel_rfl) (by kernel_rfl) (fun _ _ _ h => h) (Or.inl ⟨by rfl, ?_⟩) (by assumption) ?_
          · intro wx hs1; go_simp
          (try simp only [Act.put, List.getElem_toArray, List.getElem_cons_succ, List.getElem_cons_zero, List.setIfInBounds_toArray, List.set_cons_zero, List.set_cons_succ])
          have hM9 := HM8.out.keep HB9.out
          have HM9 := Lib.hid hM9
          obtain ⟨a0, a1, a2, a3, a4, a5, a6, a7, a8, a9⟩ := cells10r hM9.x
          have f0 := frozen_of_heap hM9.x 0
          have f1 := frozen_of_heap hM9.x 1
          have f2 := frozen_of_heap hM9.x 2
          have f3 := frozen_of_heap hM9.x 3
          have f4 := frozen_of_heap hM9.x 4
          have f5 := frozen_of_heap hM9.x 5
          have f6 := frozen_of_heap hM9.x 6
          have f7 := frozen_of_heap hM9.x 7
          have f8 := frozen_of_heap hM9.x 8
          have f9 := frozen_of_heap hM9.x 9
          have HZ := Lib.hid (put10x hM9.x c (adF c x f))
          have HZB := Lib.hid (but10 w9 x14 c (adF c x f))
          have hS9 := HS.out w9 HB9.out
          obtain ⟨ff, hff⟩ : ∃ ff, adF c x f = ff := ⟨_, rfl⟩
          rw [hff] at HZ HZB HM9 ⊢
          have HFF := Lib.hid hff
          clear hM9 hff
          refine wpAnyH_ready (rs := [10]) (by kernel_rfl) (by simp) (AllReadyH.cons rfl (fun K hK => ?_) AllReadyH.nil)
          go_simp
          obtain ⟨w10, hw10⟩ : ∃ v, ((((((((((w9.setCell ⟨x14, 0, none⟩ (.int .i64 c)).setCell ⟨x14, 1, none⟩ (.bool (ff 0))).setCell ⟨x14, 2, none⟩ (.bool (ff 1))).setCell ⟨x14, 3, none⟩ (.bool (ff 2))).setCell ⟨x14, 4, none⟩ (.bool (ff 3))).setCell ⟨x14, 5, none⟩ (.bool (ff 4))).setCell ⟨x14, 6, none⟩ (.bool (ff 5))).setCell ⟨x14, 7, none⟩ (.bool (ff 6))).setCell ⟨x14, 8, none⟩ (.bool (ff 7))).setCell ⟨x14, 9, none⟩ (.bool (ff 8))) = v := ⟨_, rfl⟩
          rw [hw10] at HZ HZB ⊢
          have HM10 := Lib.hid (HM9.out.put HZB.out HZ.out)
          clear hw10
          try dsimp only
          have hS : (fun W => W.cell? ⟨g, off + i, none⟩ = some (.int .i64 x)) w10 := (HZB.out.cell (p := ⟨g, off + i, none⟩) (Nat.lt_of_lt_of_le hgl HB9.out.size) (fun e => by have h1 := HM9.out.lo; have e2 : g = x14 := e; omega)).trans hS9
          refine hK.out _ _ hS (fun _ => ?_)
          clear hK K
          (try simp only [Act.put, List.getElem_toArray, List.getElem_cons_succ, List.getElem_cons_zero, List.setIfInBounds_toArray, List.set_cons_zero, List.set_cons_succ])
          refine wpAnyH_done (by kernel_rfl) ?_ _
          go_wp2
          go_roundw
          case rel => exact ⟨i + 1, _, by omega, by go_num, HM10⟩
          case measure => simp [RowKit.intOf]; omega
        · obtain rfl : i = n1 := by omega
          have hc0 : (c != 0) = true := by have := chB_iff.1 HC.out; simp; omega
          have hCp := Copy_yes ba c f wo HI.out.va hc0
          have hSm : ∀ (a b : Nat) (g h : Nat → Bool) (W : World), W.heap[a]? = some (.cells #[.int .i64 c, .bool (g 0), .bool (g 1), .bool (g 2), .bool (g 3), .bool (g 4), .bool (g 5), .bool (g 6), .bool (g 7), .bool (g 8)] 54 (0, 0)) → W.heap[b]? = some (.cells #[.int .i64 c, .bool (h 0), .bool (h 1), .bool (h 2), .bool (h 3), .bool (h 4), .bool (h 5), .bool (h 6), .bool (h 7), .bool (h 8)] 54 (0, 0)) → Calls Try.prog 30 #[.pointer (some ⟨a, 0, none⟩), .pointer (some ⟨b, 0, none⟩)] W fun e w' => e = .returned (.bool (eq9 g h)) ∧ Below W.heap.size W w' := fun a b g h W h1 h2 => by
            have hh := Same_any _ _ c c g h W (.inr ⟨a, rfl, h1⟩) (.inr ⟨b, rfl, h2⟩)
            rw [decide_eq_true (rfl : c = c), Bool.true_and] at hh
            exact hh
          have heq : ∀ g : Nat → Bool, eq9 g g = true := fun g => (eq9_iff g g).2 (fun _ _ => rfl)
          have HSO : Hid (∀ W, Below wo.heap.size wo W → Calls Try.prog 30 #[.pointer (some ⟨ba, 0, none⟩), .pointer (some ⟨bo, 0, none⟩)] W fun e w' => e = .returned (.bool false) ∧ Below W.heap.size W w') := Lib.hid fun W hb => by
            have h2 := HI.out.keep hb
            have hh := Same_any _ _ c n f (fun _ => false) W (.inr ⟨ba, rfl, h2.va⟩) (.inr ⟨bo, rfl, h2.vo⟩)
            rw [decide_eq_false HNC.out.2.2.2, Bool.false_and] at hh
            exact hh
          have HSM := Lib.hid hSm
          have HEQ := Lib.hid heq
          have hlo := HI.out.lo
          have la := (Array.getElem?_eq_some_iff.1 HI.out.va).1
          have lx := (Array.getElem?_eq_some_iff.1 HI.out.x).1
          have hzo := HI.out.l.size
          clear hSm heq
          go_upto_region 18 with (first
            | (go_at_call 29; (with_reducible refine hCp.mono ?_); clear hCp; rintro e w1 ⟨bc, rfl, hbcz, hbcc, hb1⟩; have HP1 : Hid (CoP w w1 ba bc x14 c f f f) := Lib.hid ⟨(HI.out.keep hb1).va, hbcc, (HI.out.keep hb1).x, by have := HI.out.ne; omega, (HI.out.keep hb1).l, by omega⟩; have HBo1 := Lib.hid hb1; have hs1 := HSM.out ba bc f f w1 HP1.out.va HP1.out.vc; rw [HEQ.out] at hs1; clear hb1 hbcc hbcz)
            | (go_at_call 30; (with_reducible refine hs1.mono ?_); clear hs1; rintro e w2 ⟨rfl, hb2⟩; have HP2 := Lib.hid (HP1.out.keep hb2); have hs2 := HSO.out w2 (HBo1.out.trans (hb2.mono HBo1.out.size)); clear hb2)
            | (go_at_call 30; (with_reducible refine hs2.mono ?_); clear hs2; rintro e w3 ⟨rfl, hb3⟩; have HP3 := Lib.hid (HP2.out.keep hb3); have had := HA.out f ba one w3 HP3.out.va; clear hb3)
            | (go_at_call 24; refine had.mono ?_; clear had; rintro e w4 ⟨rfl, hv4, hb4⟩; have HP4 := Lib.hid (HP3.out.addA hb4 hv4); obtain ⟨d0, d1, d2, d3, d4, d5, d6, d7, d8, d9⟩ := cells10r HP4.out.x; clear hv4 hb4))
          have hrA1 := fun W => hrA one f W
          have hrA2 := fun W => hrA two f W
          obtain ⟨f1, hf1⟩ : ∃ g, adF c one f = g := ⟨_, rfl⟩
          obtain ⟨f2, hf2⟩ : ∃ g, adF c two f = g := ⟨_, rfl⟩
          have hA2 := fun W hW => HA.out f bc two W hW
          rw [hf1] at hrA1 HP4
          rw [hf2] at hrA2
          simp only [hf2] at hA2
          have HA2 := Lib.hid hA2
          clear HSO HBo1 HP1 HP2 HP3 hrA hf1 hf2 HA hA2
          go_upto_region 19 with (go_at_call 32; (with_reducible refine (hrA1 _).mono ?_); clear hrA1; rintro e w5 ⟨rfl, hb5⟩; have HP5 := Lib.hid (HP4.out.keep hb5); clear hb5)
          have HT0 := Lib.hid (HP5.out.more f1)
          obtain ⟨w6, hw6⟩ : ∃ v, w5.alloc (.cells #[.int .i64 c, .bool (f1 0), .bool (f1 1), .bool (f1 2), .bool (f1 3), .bool (f1 4), .bool (f1 5), .bool (f1 6), .bool (f1 7), .bool (f1 8)] 65) = v := ⟨_, rfl⟩
          obtain ⟨x17, hx17⟩ : ∃ x, w5.heap.size = x := ⟨_, rfl⟩
          rw [hw6, hx17] at HT0
          rw [hw6, hx17]
          clear hw6 hx17 d0 d1 d2 d3 d4 d5 d6 d7 d8 d9
          have HS19 : Hid (∀ W, Below w6.heap.size w6 W → (W.cell? ⟨x17, 0, none⟩ = some (.int .i64 c) ∧ W.cell? ⟨x17, 1, none⟩ = some (.bool (f1 0)) ∧ W.cell? ⟨x17, 2, none⟩ = some (.bool (f1 1)) ∧ W.cell? ⟨x17, 3, none⟩ = some (.bool (f1 2)) ∧ W.cell? ⟨x17, 4, none⟩ = some (.bool (f1 3)) ∧ W.cell? ⟨x17, 5, none⟩ = some (.bool (f1 4)) ∧ W.cell? ⟨x17, 6, none⟩ = some (.bool (f1 5)) ∧ W.cell? ⟨x17, 7, none⟩ = some (.bool (f1 6)) ∧ W.cell? ⟨x17, 8, none⟩ = some (.bool (f1 7)) ∧ W.cell? ⟨x17, 9, none⟩ = some (.bool (f1 8))) ∧ (W.cell? ⟨x14, 0, none⟩ = some (.int .i64 c) ∧ W.cell? ⟨x14, 1, none⟩ = some (.bool (f 0)) ∧ W.cell? ⟨x14, 2, none⟩ = some (.bool (f 1)) ∧ W.cell? ⟨x14, 3, none⟩ = some (.bool (f 2)) ∧ W.cell? ⟨x14, 4, none⟩ = some (.bool (f 3)) ∧ W.cell? ⟨x14, 5, none⟩ = some (.bool (f 4)) ∧ W.cell? ⟨x14, 6, none⟩ = some (.bool (f 5)) ∧ W.cell? ⟨x14, 7, none⟩ = some (.bool (f 6)) ∧ W.cell? ⟨x14, 8, none⟩ = some (.bool (f 7)) ∧ W.cell? ⟨x14, 9, none⟩ = some (.bool (f 8)))) := Lib.hid fun W hb => ⟨cells10r (HT0.out.keep hb).y, cells10r (HT0.out.keep hb).x⟩
          have z6 := HS19.out w6 (Below.refl _ _)
          obtain ⟨y, hy⟩ : ∃ y, eq9 f1 f = y := ⟨_, rfl⟩
          have h65 : ∀ W, (binOp .eql 65 (.agg #[.int .i64 c, .bool (f1 0), .bool (f1 1), .bool (f1 2), .bool (f1 3), .bool (f1 4), .bool (f1 5), .bool (f1 6), .bool (f1 7), .bool (f1 8)]) (.agg #[.int .i64 c, .bool (f 0), .bool (f 1), .bool (f 2), .bool (f 3), .bool (f 4), .bool (f 5), .bool (f 6), .bool (f 7), .bool (f 8)])).run Try.prog W = .ok (.bool y) W := fun W => by
            rw [eql65, hy]; simp
          have g65 := fun W a b => guard65 W a b c c f1 f
          have hsm := fun W (hb : Below w6.heap.size w6 W) => HSM.out ba bc f1 f W (HT0.out.keep hb).va (HT0.out.keep hb).vc
          rw [hy] at hsm
          have HSB := Lib.hid hsm
          clear hy hsm HP4 HP5
          have hS0 : (fun W => (W.cell? ⟨x17, 0, none⟩ = some (.int .i64 c) ∧ W.cell? ⟨x17, 1, none⟩ = some (.bool (f1 0)) ∧ W.cell? ⟨x17, 2, none⟩ = some (.bool (f1 1)) ∧ W.cell? ⟨x17, 3, none⟩ = some (.bool (f1 2)) ∧ W.cell? ⟨x17, 4, none⟩ = some (.bool (f1 3)) ∧ W.cell? ⟨x17, 5, none⟩ = some (.bool (f1 4)) ∧ W.cell? ⟨x17, 6, none⟩ = some (.bool (f1 5)) ∧ W.cell? ⟨x17, 7, none⟩ = some (.bool (f1 6)) ∧ W.cell? ⟨x17, 8, none⟩ = some (.bool (f1 7)) ∧ W.cell? ⟨x17, 9, none⟩ = some (.bool (f1 8))) ∧ (W.cell? ⟨x14, 0, none⟩ = some (.int .i64 c) ∧ W.cell? ⟨x14, 1, none⟩ = some (.bool (f 0)) ∧ W.cell? ⟨x14, 2, none⟩ = some (.bool (f 1)) ∧ W.cell? ⟨x14, 3, none⟩ = some (.bool (f 2)) ∧ W.cell? ⟨x14, 4, none⟩ = some (.bool (f 3)) ∧ W.cell? ⟨x14, 5, none⟩ = some (.bool (f 4)) ∧ W.cell? ⟨x14, 6, none⟩ = some (.bool (f 5)) ∧ W.cell? ⟨x14, 7, none⟩ = some (.bool (f 6)) ∧ W.cell? ⟨x14, 8, none⟩ = some (.bool (f 7)) ∧ W.cell? ⟨x14, 9, none⟩ = some (.bool (f 8)))) w6.drew := z6
          refine wp_region_held_drew (S := fun W => (W.cell? ⟨x17, 0, none⟩ = some (.int .i64 c) ∧ W.cell? ⟨x17, 1, none⟩ = some (.bool (f1 0)) ∧ W.cell? ⟨x17, 2, none⟩ = some (.bool (f1 1)) ∧ W.cell? ⟨x17, 3, none⟩ = some (.bool (f1 2)) ∧ W.cell? ⟨x17, 4, none⟩ = some (.bool (f1 3)) ∧ W.cell? ⟨x17, 5, none⟩ = some (.bool (f1 4)) ∧ W.cell? ⟨x17, 6, none⟩ = some (.bool (f1 5)) ∧ W.cell? ⟨x17, 7, none⟩ = some (.bool (f1 6)) ∧ W.cell? ⟨x17, 8, none⟩ = some (.bool (f1 7)) ∧ W.cell? ⟨x17, 9, none⟩ = some (.bool (f1 8))) ∧ (W.cell? ⟨x14, 0, none⟩ = some (.int .i64 c) ∧ W.cell? ⟨x14, 1, none⟩ = some (.bool (f 0)) ∧ W.cell? ⟨x14, 2, none⟩ = some (.bool (f 1)) ∧ W.cell? ⟨x14, 3, none⟩ = some (.bool (f 2)) ∧ W.cell? ⟨x14, 4, none⟩ = some (.bool (f 3)) ∧ W.cell? ⟨x14, 5, none⟩ = some (.bool (f 4)) ∧ W.cell? ⟨x14, 6, none⟩ = some (.bool (f 5)) ∧ W.cell? ⟨x14, 7, none⟩ = some (.bool (f 6)) ∧ W.cell? ⟨x14, 8, none⟩ = some (.bool (f 7)) ∧ W.cell? ⟨x14, 9, none⟩ = some (.bool (f 8)))) rfl hS0 (fun hHeld => ?_)
          simp only [List.size_toArray, List.length_cons, List.length_nil, Nat.reduceAdd]
          have HB0 : Hid (Below w6.heap.size w6 w6.drew) := Lib.hid (Below.refl _ _).drew
          obtain ⟨V0, hV0⟩ : ∃ V, w6.drew = V := ⟨_, rfl⟩
          rw [hV0] at hHeld hS0 HB0 ⊢
          clear hV0
          refine wpAnyH_take (i := 0) (v := .pointer (some ⟨ba, 0, none⟩)) rfl (by kernel_rfl) (by kernel_rfl) (by kernel_rfl) (fun _ _ _ h => h) (Or.inl ⟨by rfl, ?_⟩) (by assumption) ?_
          · intro wx hs1; go_simp
          (try simp only [Act.put, List.getElem_toArray, List.getElem_cons_zero, List.setIfInBounds_toArray, List.set_cons_zero, List.set_cons_succ])
          refine wpAnyH_take (i := 1) (v := .pointer (some ⟨bc, 0, none⟩)) rfl (by kernel_rfl) (by kernel_rfl) (by kernel_rfl) (fun _ _ _ h => h) (Or.inl ⟨by rfl, ?_⟩) (by assumption) ?_
          · intro wx hs1; go_simp
          (try simp only [Act.put, List.getElem_toArray, List.getElem_cons_succ, List.getElem_cons_zero, List.setIfInBounds_toArray, List.set_cons_zero, List.set_cons_succ])
          refine wpAnyH_take (i := 3) (v := .agg #[.int .i64 c, .bool (f1 0), .bool (f1 1), .bool (f1 2), .bool (f1 3), .bool (f1 4), .bool (f1 5), .bool (f1 6), .bool (f1 7), .bool (f1 8)]) rfl (by kernel_rfl) (by kernel_rfl) (by kernel_rfl) (fun _ _ _ h => h) (Or.inl ⟨by rfl, ?_⟩) (by assumption) ?_
          · intro wx hs1; obtain ⟨⟨s0, s1, s2, s3, s4, s5, s6, s7, s8, s9⟩, t0, t1, t2, t3, t4, t5, t6, t7, t8, t9⟩ := hs1; go_simp
          (try simp only [Act.put, List.getElem_toArray, List.getElem_cons_succ, List.getElem_cons_zero, List.setIfInBounds_toArray, List.set_cons_zero, List.set_cons_succ])
          refine wpAnyH_take (i := 4) (v := .agg #[.int .i64 c, .bool (f 0), .bool (f 1), .bool (f 2), .bool (f 3), .bool (f 4), .bool (f 5), .bool (f 6), .bool (f 7), .bool (f 8)]) rfl (by kernel_rfl) (by kernel_rfl) (by kernel_rfl) (fun _ _ _ h => h) (Or.inl ⟨by rfl, ?_⟩) (by assumption) ?_
          · intro wx hs1; obtain ⟨⟨s0, s1, s2, s3, s4, s5, s6, s7, s8, s9⟩, t0, t1, t2, t3, t4, t5, t6, t7, t8, t9⟩ := hs1; go_simp
          (try simp only [Act.put, List.getElem_toArray, List.getElem_cons_succ, List.getElem_cons_zero, List.setIfInBounds_toArray, List.set_cons_zero, List.set_cons_succ])
          refine wpAnyH_take (i := 5) (v := .bool y) rfl (by kernel_rfl) (by kernel_rfl) (by kernel_rfl) (fun _ _ _ h => h) (Or.inl ⟨by rfl, ?_⟩) (by assumption) ?_
          · intro wx hs1; clear hs1; go_simp
          (try simp only [Act.put, List.getElem_toArray, List.getElem_cons_succ, List.getElem_cons_zero, List.setIfInBounds_toArray, List.set_cons_zero, List.set_cons_succ])
          refine wpAnyH_ready (rs := [2]) (by kernel_rfl) (by simp) (AllReadyH.cons rfl (fun K hK => ?_) AllReadyH.nil)
          go_simp
          go_at_call 30
          refine (HSB.out _ HB0.out).mono ?_
          rintro e w7 ⟨rfl, hb⟩
          try dsimp only
          have HB7 : Hid (Below w6.heap.size w6 w7) := Lib.hid (HB0.out.trans (hb.mono HB0.out.size)); clear hb; have hS := HS19.out _ HB7.out
          refine hK.out _ _ hS (fun _ => ?_)
          clear hK K
          (try simp only [Act.put, List.getElem_toArray, List.getElem_cons_succ, List.getElem_cons_zero, List.setIfInBounds_toArray, List.set_cons_zero, List.set_cons_succ])
          refine wpAnyH_take (i := 6) (v := .bool false) rfl (by kernel_rfl) (by kernel_rfl) (by kernel_rfl) (fun _ _ _ h => h) (Or.inl ⟨by rfl, ?_⟩) (by assumption) ?_
          · intro wx hs1; go_simp
          (try simp only [Act.put, List.getElem_toArray, List.getElem_cons_succ, List.getElem_cons_zero, List.setIfInBounds_toArray, List.set_cons_zero, List.set_cons_succ])
          refine wpAnyH_done (by kernel_rfl) ?_ _
          clear h65 g65
          have HT7 := Lib.hid (HT0.out.keep HB7.out)
          have had := HA2.out w7 HT7.out.vc
          go_upto_region 23 with (first
            | (go_at_call 24; refine had.mono ?_; clear had; rintro e w8 ⟨rfl, hv8, hb8⟩; have HT8 := Lib.hid (HT7.out.addC hb8 hv8); obtain ⟨d0, d1, d2, d3, d4, d5, d6, d7, d8, d9⟩ := cells10r HT8.out.x; clear hv8 hb8)
            | (go_at_call 32; (with_reducible refine (hrA2 _).mono ?_); clear hrA2; rintro e w9 ⟨rfl, hb9⟩; have HT9 := Lib.hid (HT8.out.keep hb9); clear hb9))
          obtain ⟨w10, hw10⟩ : ∃ v, w9.alloc (.cells #[.int .i64 c, .bool (f2 0), .bool (f2 1), .bool (f2 2), .bool (f2 3), .bool (f2 4), .bool (f2 5), .bool (f2 6), .bool (f2 7), .bool (f2 8)] 65) = v := ⟨_, rfl⟩
          have hb10 : Below w9.heap.size w9 w10 := by rw [← hw10]; exact (Below.refl _ _).alloc (Nat.le_refl _) _
          have HT10 : Hid (CoT w w10 ba bc x14 x17 c f f1 f2 f1) := Lib.hid (HT9.out.keep hb10)
          obtain ⟨x20, hx20⟩ : ∃ x, w9.heap.size = x := ⟨_, rfl⟩
          have HZ10 : Hid (w10.heap[x20]? = some (.cells #[.int .i64 c, .bool (f2 0), .bool (f2 1), .bool (f2 2), .bool (f2 3), .bool (f2 4), .bool (f2 5), .bool (f2 6), .bool (f2 7), .bool (f2 8)] 65 (0, 0))) := Lib.hid (by rw [← hw10, ← hx20]; exact World.alloc_heap_new _ _)
          rw [hw10, hx20]
          clear hw10 hx20 hb10 d0 d1 d2 d3 d4 d5 d6 d7 d8 d9 z6 HT8 HT9 HT7 HT0 HB7 HSB HS19 HA2
          have hHa := fun (a : Nat) (h : Nat → Bool) (p : Nat) (hp : p < 9) (W : World) (hW : W.heap[a]? = some (.cells #[.int .i64 c, .bool (h 0), .bool (h 1), .bool (h 2), .bool (h 3), .bool (h 4), .bool (h 5), .bool (h 6), .bool (h 7), .bool (h 8)] 54 (0, 0))) => (show Calls Try.prog 26 #[.pointer (some ⟨a, 0, none⟩), .int .i64 (p : Int)] W fun e w' => e = .returned (.bool (h p)) ∧ Below W.heap.size W w' by
            have hh := Has_any (.pointer (some ⟨a, 0, none⟩)) c h (p : Int) W (.inr ⟨a, rfl, hW⟩)
            rw [show hasB h (p : Int) = h p by unfold hasB; simp; omega] at hh
            exact hh)
          have HHA := Lib.hid hHa
          clear hHa
          go_upto_region 24 with fail
          go_loopw [23] (fun v23 wr => ∃ q : Nat, q ≤ 9 ∧ v23 = .int .i64 (q : Int) ∧ Hid (Below w10.heap.size w10 wr)) (fun v23 _ => 9 - (RowKit.intOf v23).toNat)
          case atStart => exact ⟨0, Nat.zero_le _, rfl, Lib.hid (Below.refl _ _)⟩
          case round =>
            obtain ⟨wq, rfl⟩ : ∃ wq : World, wq = wr := ⟨_, rfl⟩
            obtain ⟨q, hq, rfl, HW⟩ := hrel
            by_cases hlt : q < 9
            · have hlI : (q : Int) < 9 := by omega
              have HSq : Hid (∀ W, Below wq.heap.size wq W → W.cell? ⟨x17, 1 + q, none⟩ = some (.bool (f1 q)) ∧ W.cell? ⟨x20, 1 + q, none⟩ = some (.bool (f2 q))) := Lib.hid fun W hb => by
                have h := HW.out.trans (hb.mono HW.out.size)
                exact ⟨(set65 (HT10.out.keep h).y q hlt).1, (set65 ((h.block _ (Array.getElem?_eq_some_iff.1 HZ10.out).1).trans HZ10.out) q hlt).1⟩
              have zq := HSq.out wq (Below.refl _ _)
              have hh1 := fun W (hb : Below wq.heap.size wq W) => HHA.out ba f1 q hlt W (HT10.out.keep (HW.out.trans (hb.mono HW.out.size))).va
              have hh2 := fun W (hb : Below wq.heap.size wq W) => HHA.out bc f2 q hlt W (HT10.out.keep (HW.out.trans (hb.mono HW.out.size))).vc
              obtain ⟨y1, hy1⟩ : ∃ y, f1 q = y := ⟨_, rfl⟩
              obtain ⟨y2, hy2⟩ : ∃ y, f2 q = y := ⟨_, rfl⟩
              rw [hy1] at hh1 HSq zq
              rw [hy2] at hh2 HSq zq
              have HH1 := Lib.hid hh1
              have HH2 := Lib.hid hh2
              have hyy1 : (y1 != y1) = false := by simp
              have hyy2 : (y2 != y2) = false := by simp
              clear hy1 hy2 hh1 hh2
              go_upto_region 26 with fail
              have hS0 : (fun W => W.cell? ⟨x17, 1 + q, none⟩ = some (.bool y1) ∧ W.cell? ⟨x20, 1 + q, none⟩ = some (.bool y2)) wq.drew := zq
              refine wp_region_held_drew (S := fun W => W.cell? ⟨x17, 1 + q, none⟩ = some (.bool y1) ∧ W.cell? ⟨x20, 1 + q, none⟩ = some (.bool y2)) rfl hS0 (fun hHeld => ?_)
              simp only [List.size_toArray, List.length_cons, List.length_nil, Nat.reduceAdd]
              have HB0 : Hid (Below wq.heap.size wq wq.drew) := Lib.hid (Below.refl _ _).drew
              obtain ⟨V0, hV0⟩ : ∃ V, wq.drew = V := ⟨_, rfl⟩
              rw [hV0] at hHeld hS0 HB0 ⊢
              clear hV0
              refine wpAnyH_take (i := 0) (v := .pointer (some ⟨ba, 0, none⟩)) rfl (by kernel_rfl) (by kernel_rfl) (by kernel_rfl) (fun _ _ _ h => h) (Or.inl ⟨by rfl, ?_⟩) (by assumption) ?_
              · intro wx hs1; go_simp
              (try simp only [Act.put, List.getElem_toArray, List.getElem_cons_zero, List.setIfInBounds_toArray, List.set_cons_zero, List.set_cons_succ])
              refine wpAnyH_take (i := 1) (v := .int .i64 (q : Int)) rfl (by kernel_rfl) (by kernel_rfl) (by kernel_rfl) (fun _ _ _ h => h) (Or.inl ⟨by rfl, ?_⟩) (by assumption) ?_
              · intro wx hs1; go_simp
              (try simp only [Act.put, List.getElem_toArray, List.getElem_cons_succ, List.getElem_cons_zero, List.setIfInBounds_toArray, List.set_cons_zero, List.set_cons_succ])
              refine wpAnyH_take (i := 3) (v := .int .i64 (q : Int)) rfl (by kernel_rfl) (by kernel_rfl) (by kernel_rfl) (fun _ _ _ h => h) (Or.inl ⟨by rfl, ?_⟩) (by assumption) ?_
              · intro wx hs1; go_simp
              (try simp only [Act.put, List.getElem_toArray, List.getElem_cons_succ, List.getElem_cons_zero, List.setIfInBounds_toArray, List.set_cons_zero, List.set_cons_succ])
              refine wpAnyH_take (i := 4) (v := .pointer (some ⟨x17, 1, none⟩)) rfl (by kernel_rfl) (by kernel_rfl) (by kernel_rfl) (fun _ _ _ h => h) (Or.inl ⟨by rfl, ?_⟩) (by assumption) ?_
              · intro wx hs1; go_simp
              (try simp only [Act.put, List.getElem_toArray, List.getElem_cons_succ, List.getElem_cons_zero, List.setIfInBounds_toArray, List.set_cons_zero, List.set_cons_succ])
              refine wpAnyH_take (i := 5) (v := .pointer (some ⟨x17, 1 + q, none⟩)) rfl (by kernel_rfl) (by kernel_rfl) (by kernel_rfl) (fun _ _ _ h => h) (Or.inl ⟨by rfl, ?_⟩) (by assumption) ?_
              · intro wx hs1; go_simp
              (try simp only [Act.put, List.getElem_toArray, List.getElem_cons_succ, List.getElem_cons_zero, List.setIfInBounds_toArray, List.set_cons_zero, List.set_cons_succ])
              refine wpAnyH_take (i := 6) (v := .bool y1) rfl (by kernel_rfl) (by kernel_rfl) (by kernel_rfl) (fun _ _ _ h => h) (Or.inl ⟨by rfl, ?_⟩) (by assumption) ?_
              · intro wx hs1; obtain ⟨s0, s1⟩ := hs1; go_simp
              (try simp only [Act.put, List.getElem_toArray, List.getElem_cons_succ, List.getElem_cons_zero, List.setIfInBounds_toArray, List.set_cons_zero, List.set_cons_succ])
              refine wpAnyH_ready (rs := [2]) (by kernel_rfl) (by simp) (AllReadyH.cons rfl (fun K hK => ?_) AllReadyH.nil)
              go_simp
              go_at_call 26
              refine (HH1.out _ HB0.out).mono ?_
              rintro e wr1 ⟨rfl, hb⟩
              try dsimp only
              have HB2 : Hid (Below wq.heap.size wq wr1) := Lib.hid (HB0.out.trans (hb.mono HB0.out.size)); clear hb; have hS := HSq.out _ HB2.out
              refine hK.out _ _ hS (fun _ => ?_)
              clear hK K
              (try simp only [Act.put, List.getElem_toArray, List.getElem_cons_succ, List.getElem_cons_zero, List.setIfInBounds_toArray, List.set_cons_zero, List.set_cons_succ])
              refine wpAnyH_take (i := 7) (v := .bool false) rfl (by kernel_rfl) (by kernel_rfl) (by kernel_rfl) (fun _ _ _ h => h) (Or.inl ⟨by rfl, ?_⟩) (by assumption) ?_
              · intro wx hs1; go_simp
              (try simp only [Act.put, List.getElem_toArray, List.getElem_cons_succ, List.getElem_cons_zero, List.setIfInBounds_toArray, List.set_cons_zero, List.set_cons_succ])
              refine wpAnyH_take (i := 8) (v := .bool false) rfl (by kernel_rfl) (by kernel_rfl) (by kernel_rfl) (fun _ _ _ h => h) (Or.inl ⟨by rfl, ?_⟩) (by assumption) ?_
              · intro wx hs1; go_simp
              (try simp only [Act.put, List.getElem_toArray, List.getElem_cons_succ, List.getElem_cons_zero, List.setIfInBounds_toArray, List.set_cons_zero, List.set_cons_succ])
              refine wpAnyH_take (i := 9) (v := .pointer (some ⟨bc, 0, none⟩)) rfl (by kernel_rfl) (by kernel_rfl) (by kernel_rfl) (fun _ _ _ h => h) (Or.inl ⟨by rfl, ?_⟩) (by assumption) ?_
              · intro wx hs1; go_simp
              (try simp only [Act.put, List.getElem_toArray, List.getElem_cons_succ, List.getElem_cons_zero, List.setIfInBounds_toArray, List.set_cons_zero, List.set_cons_succ])
              refine wpAnyH_take (i := 10) (v := .int .i64 (q : Int)) rfl (by kernel_rfl) (by kernel_rfl) (by kernel_rfl) (fun _ _ _ h => h) (Or.inl ⟨by rfl, ?_⟩) (by assumption) ?_
              · intro wx hs1; go_simp
              (try simp only [Act.put, List.getElem_toArray, List.getElem_cons_succ, List.getElem_cons_zero, List.setIfInBounds_toArray, List.set_cons_zero, List.set_cons_succ])
              refine wpAnyH_take (i := 12) (v := .int .i64 (q : Int)) rfl (by kernel_rfl) (by kernel_rfl) (by kernel_rfl) (fun _ _ _ h => h) (Or.inl ⟨by rfl, ?_⟩) (by assumption) ?_
              · intro wx hs1; go_simp
              (try simp only [Act.put, List.getElem_toArray, List.getElem_cons_succ, List.getElem_cons_zero, List.setIfInBounds_toArray, List.set_cons_zero, List.set_cons_succ])
              refine wpAnyH_take (i := 13) (v := .pointer (some ⟨x20, 1, none⟩)) rfl (by kernel_rfl) (by kernel_rfl) (by kernel_rfl) (fun _ _ _ h => h) (Or.inl ⟨by rfl, ?_⟩) (by assumption) ?_
              · intro wx hs1; go_simp
              (try simp only [Act.put, List.getElem_toArray, List.getElem_cons_succ, List.getElem_cons_zero, List.setIfInBounds_toArray, List.set_cons_zero, List.set_cons_succ])
              refine wpAnyH_take (i := 14) (v := .pointer (some ⟨x20, 1 + q, none⟩)) rfl (by kernel_rfl) (by kernel_rfl) (by kernel_rfl) (fun _ _ _ h => h) (Or.inl ⟨by rfl, ?_⟩) (by assumption) ?_
              · intro wx hs1; go_simp
              (try simp only [Act.put, List.getElem_toArray, List.getElem_cons_succ, List.getElem_cons_zero, List.setIfInBounds_toArray, List.set_cons_zero, List.set_cons_succ])
              refine wpAnyH_take (i := 15) (v := .bool y2) rfl (by kernel_rfl) (by kernel_rfl) (by kernel_rfl) (fun _ _ _ h => h) (Or.inl ⟨by rfl, ?_⟩) (by assumption) ?_
              · intro wx hs1; obtain ⟨s0, s1⟩ := hs1; go_simp
              (try simp only [Act.put, List.getElem_toArray, List.getElem_cons_succ, List.getElem_cons_zero, List.setIfInBounds_toArray, List.set_cons_zero, List.set_cons_succ])
              refine wpAnyH_ready (rs := [11]) (by kernel_rfl) (by simp) (AllReadyH.cons rfl (fun K hK => ?_) AllReadyH.nil)
              go_simp
              go_at_call 26
              refine (HH2.out _ HB2.out).mono ?_
              rintro e wr2 ⟨rfl, hb⟩
              try dsimp only
              have HB3 : Hid (Below wq.heap.size wq wr2) := Lib.hid (HB2.out.trans (hb.mono HB2.out.size)); clear hb; have hS := HSq.out _ HB3.out
              refine hK.out _ _ hS (fun _ => ?_)
              clear hK K
              (try simp only [Act.put, List.getElem_toArray, List.getElem_cons_succ, List.getElem_cons_zero, List.setIfInBounds_toArray, List.set_cons_zero, List.set_cons_succ])
              refine wpAnyH_take (i := 16) (v := .bool false) rfl (by kernel_rfl) (by kernel_rfl) (by kernel_rfl) (fun _ _ _ h => h) (Or.inl ⟨by rfl, ?_⟩) (by assumption) ?_
              · intro wx hs1; go_simp
              (try simp only [Act.put, List.getElem_toArray, List.getElem_cons_succ, List.getElem_cons_zero, List.setIfInBounds_toArray, List.set_cons_zero, List.set_cons_succ])
              refine wpAnyH_take (i := 17) (v := .bool false) rfl (by kernel_rfl) (by kernel_rfl) (by kernel_rfl) (fun _ _ _ h => h) (Or.inl ⟨by rfl, ?_⟩) (by assumption) ?_
              · intro wx hs1; go_simp
              (try simp only [Act.put, List.getElem_toArray, List.getElem_cons_succ, List.getElem_cons_zero, List.setIfInBounds_toArray, List.set_cons_zero, List.set_cons_succ])
              refine wpAnyH_done (by kernel_rfl) ?_ _
              have HE := Lib.hid (HW.out.trans (HB3.out.mono HW.out.size))
              go_wp2
              go_roundw
              case rel => exact ⟨q + 1, by omega, by go_num, HE⟩
              case measure => simp [RowKit.intOf]; omega
            · obtain rfl : q = 9 := by omega
              have hTq := HT10.out.keep HW.out
              have HSe : Hid (∀ W, Below wq.heap.size wq W → (W.cell? ⟨x17, 0, none⟩ = some (.int .i64 c) ∧ W.cell? ⟨x17, 1, none⟩ = some (.bool (f1 0)) ∧ W.cell? ⟨x17, 2, none⟩ = some (.bool (f1 1)) ∧ W.cell? ⟨x17, 3, none⟩ = some (.bool (f1 2)) ∧ W.cell? ⟨x17, 4, none⟩ = some (.bool (f1 3)) ∧ W.cell? ⟨x17, 5, none⟩ = some (.bool (f1 4)) ∧ W.cell? ⟨x17, 6, none⟩ = some (.bool (f1 5)) ∧ W.cell? ⟨x17, 7, none⟩ = some (.bool (f1 6)) ∧ W.cell? ⟨x17, 8, none⟩ = some (.bool (f1 7)) ∧ W.cell? ⟨x17, 9, none⟩ = some (.bool (f1 8))) ∧ (W.cell? ⟨x20, 0, none⟩ = some (.int .i64 c) ∧ W.cell? ⟨x20, 1, none⟩ = some (.bool (f2 0)) ∧ W.cell? ⟨x20, 2, none⟩ = some (.bool (f2 1)) ∧ W.cell? ⟨x20, 3, none⟩ = some (.bool (f2 2)) ∧ W.cell? ⟨x20, 4, none⟩ = some (.bool (f2 3)) ∧ W.cell? ⟨x20, 5, none⟩ = some (.bool (f2 4)) ∧ W.cell? ⟨x20, 6, none⟩ = some (.bool (f2 5)) ∧ W.cell? ⟨x20, 7, none⟩ = some (.bool (f2 6)) ∧ W.cell? ⟨x20, 8, none⟩ = some (.bool (f2 7)) ∧ W.cell? ⟨x20, 9, none⟩ = some (.bool (f2 8)))) := Lib.hid fun W hb => by
                have h := HW.out.trans (hb.mono HW.out.size)
                exact ⟨cells10r (HT10.out.keep h).y, cells10r ((h.block _ (Array.getElem?_eq_some_iff.1 HZ10.out).1).trans HZ10.out)⟩
              have zq := HSe.out wq (Below.refl _ _)
              obtain ⟨y, hy⟩ : ∃ y, eq9 f1 f2 = y := ⟨_, rfl⟩
              have h65 : ∀ W, (binOp .eql 65 (.agg #[.int .i64 c, .bool (f1 0), .bool (f1 1), .bool (f1 2), .bool (f1 3), .bool (f1 4), .bool (f1 5), .bool (f1 6), .bool (f1 7), .bool (f1 8)]) (.agg #[.int .i64 c, .bool (f2 0), .bool (f2 1), .bool (f2 2), .bool (f2 3), .bool (f2 4), .bool (f2 5), .bool (f2 6), .bool (f2 7), .bool (f2 8)])).run Try.prog W = .ok (.bool y) W := fun W => by
                rw [eql65, hy]; simp
              have g65 := fun W a b => guard65 W a b c c f1 f2
              have hsm := fun W (hb : Below wq.heap.size wq W) => HSM.out ba bc f1 f2 W (hTq.keep hb).va (hTq.keep hb).vc
              rw [hy] at hsm
              have HSB := Lib.hid hsm
              have hn : ∀ (x : Int) W, Calls Try.prog 13 #[.int .i64 x] W fun e w' => e = .returned (.int .i64 x) ∧ W = w' := fun x W => num_any x W
              have hn := hn 0
              have hyy : (y == y) = true := by simp
              have HL := Lib.hid hTq.l
              clear hy hsm hTq
              go_upto_region 28 with fail
              have hS0 : (fun W => (W.cell? ⟨x17, 0, none⟩ = some (.int .i64 c) ∧ W.cell? ⟨x17, 1, none⟩ = some (.bool (f1 0)) ∧ W.cell? ⟨x17, 2, none⟩ = some (.bool (f1 1)) ∧ W.cell? ⟨x17, 3, none⟩ = some (.bool (f1 2)) ∧ W.cell? ⟨x17, 4, none⟩ = some (.bool (f1 3)) ∧ W.cell? ⟨x17, 5, none⟩ = some (.bool (f1 4)) ∧ W.cell? ⟨x17, 6, none⟩ = some (.bool (f1 5)) ∧ W.cell? ⟨x17, 7, none⟩ = some (.bool (f1 6)) ∧ W.cell? ⟨x17, 8, none⟩ = some (.bool (f1 7)) ∧ W.cell? ⟨x17, 9, none⟩ = some (.bool (f1 8))) ∧ (W.cell? ⟨x20, 0, none⟩ = some (.int .i64 c) ∧ W.cell? ⟨x20, 1, none⟩ = some (.bool (f2 0)) ∧ W.cell? ⟨x20, 2, none⟩ = some (.bool (f2 1)) ∧ W.cell? ⟨x20, 3, none⟩ = some (.bool (f2 2)) ∧ W.cell? ⟨x20, 4, none⟩ = some (.bool (f2 3)) ∧ W.cell? ⟨x20, 5, none⟩ = some (.bool (f2 4)) ∧ W.cell? ⟨x20, 6, none⟩ = some (.bool (f2 5)) ∧ W.cell? ⟨x20, 7, none⟩ = some (.bool (f2 6)) ∧ W.cell? ⟨x20, 8, none⟩ = some (.bool (f2 7)) ∧ W.cell? ⟨x20, 9, none⟩ = some (.bool (f2 8)))) wq.drew := zq
              refine wp_region_held_drew (S := fun W => (W.cell? ⟨x17, 0, none⟩ = some (.int .i64 c) ∧ W.cell? ⟨x17, 1, none⟩ = some (.bool (f1 0)) ∧ W.cell? ⟨x17, 2, none⟩ = some (.bool (f1 1)) ∧ W.cell? ⟨x17, 3, none⟩ = some (.bool (f1 2)) ∧ W.cell? ⟨x17, 4, none⟩ = some (.bool (f1 3)) ∧ W.cell? ⟨x17, 5, none⟩ = some (.bool (f1 4)) ∧ W.cell? ⟨x17, 6, none⟩ = some (.bool (f1 5)) ∧ W.cell? ⟨x17, 7, none⟩ = some (.bool (f1 6)) ∧ W.cell? ⟨x17, 8, none⟩ = some (.bool (f1 7)) ∧ W.cell? ⟨x17, 9, none⟩ = some (.bool (f1 8))) ∧ (W.cell? ⟨x20, 0, none⟩ = some (.int .i64 c) ∧ W.cell? ⟨x20, 1, none⟩ = some (.bool (f2 0)) ∧ W.cell? ⟨x20, 2, none⟩ = some (.bool (f2 1)) ∧ W.cell? ⟨x20, 3, none⟩ = some (.bool (f2 2)) ∧ W.cell? ⟨x20, 4, none⟩ = some (.bool (f2 3)) ∧ W.cell? ⟨x20, 5, none⟩ = some (.bool (f2 4)) ∧ W.cell? ⟨x20, 6, none⟩ = some (.bool (f2 5)) ∧ W.cell? ⟨x20, 7, none⟩ = some (.bool (f2 6)) ∧ W.cell? ⟨x20, 8, none⟩ = some (.bool (f2 7)) ∧ W.cell? ⟨x20, 9, none⟩ = some (.bool (f2 8)))) rfl hS0 (fun hHeld => ?_)
              simp only [List.size_toArray, List.length_cons, List.length_nil, Nat.reduceAdd]
              have HB0 : Hid (Below wq.heap.size wq wq.drew) := Lib.hid (Below.refl _ _).drew
              obtain ⟨V0, hV0⟩ : ∃ V, wq.drew = V := ⟨_, rfl⟩
              rw [hV0] at hHeld hS0 HB0 ⊢
              clear hV0
              refine wpAnyH_take (i := 0) (v := .int .i64 0) rfl (by kernel_rfl) (by kernel_rfl) (by kernel_rfl) (fun _ _ _ h => h) (Or.inl ⟨by rfl, ?_⟩) (by assumption) ?_
              · intro wx hs1; go_simp
              (try simp only [Act.put, List.getElem_toArray, List.getElem_cons_zero, List.setIfInBounds_toArray, List.set_cons_zero, List.set_cons_succ])
              refine wpAnyH_take (i := 2) (v := .int .i64 0) rfl (by kernel_rfl) (by kernel_rfl) (by kernel_rfl) (fun _ _ _ h => h) (Or.inl ⟨by rfl, ?_⟩) (by assumption) ?_
              · intro wx hs1; go_simp
              (try simp only [Act.put, List.getElem_toArray, List.getElem_cons_succ, List.getElem_cons_zero, List.setIfInBounds_toArray, List.set_cons_zero, List.set_cons_succ])
              refine wpAnyH_ready (rs := [1]) (by kernel_rfl) (by simp) (AllReadyH.cons rfl (fun K hK => ?_) AllReadyH.nil)
              go_simp
              go_at_call 13
              (with_reducible refine (hn _).mono ?_)
              rintro e w' ⟨rfl, rfl⟩
              try dsimp only
              have hS := hS0
              refine hK.out _ _ hS (fun _ => ?_)
              clear hK K
              (try simp only [Act.put, List.getElem_toArray, List.getElem_cons_succ, List.getElem_cons_zero, List.setIfInBounds_toArray, List.set_cons_zero, List.set_cons_succ])
              refine wpAnyH_ready (rs := [3]) (by kernel_rfl) (by simp) (AllReadyH.cons rfl (fun K hK => ?_) AllReadyH.nil)
              go_simp
              go_at_call 13
              (with_reducible refine (hn _).mono ?_)
              rintro e w' ⟨rfl, rfl⟩
              try dsimp only
              have hS := hS0
              refine hK.out _ _ hS (fun _ => ?_)
              clear hK K
              (try simp only [Act.put, List.getElem_toArray, List.getElem_cons_succ, List.getElem_cons_zero, List.setIfInBounds_toArray, List.set_cons_zero, List.set_cons_succ])
              refine wpAnyH_take (i := 4) (v := .int .i64 0) rfl (by kernel_rfl) (by kernel_rfl) (by kernel_rfl) (fun _ _ _ h => h) (Or.inl ⟨by rfl, ?_⟩) (by assumption) ?_
              · intro wx hs1; go_simp; rfl
              (try simp only [Act.put, List.getElem_toArray, List.getElem_cons_succ, List.getElem_cons_zero, List.setIfInBounds_toArray, List.set_cons_zero, List.set_cons_succ])
              refine wpAnyH_take (i := 5) (v := .bool true) rfl (by kernel_rfl) (by kernel_rfl) (by kernel_rfl) (fun _ _ _ h => h) (Or.inl ⟨by rfl, ?_⟩) (by assumption) ?_
              · intro wx hs1; go_simp
              (try simp only [Act.put, List.getElem_toArray, List.getElem_cons_succ, List.getElem_cons_zero, List.setIfInBounds_toArray, List.set_cons_zero, List.set_cons_succ])
              refine wpAnyH_take (i := 6) (v := .bool true) rfl (by kernel_rfl) (by kernel_rfl) (by kernel_rfl) (fun _ _ _ h => h) (Or.inl ⟨by rfl, ?_⟩) (by assumption) ?_
              · intro wx hs1; go_simp
              (try simp only [Act.put, List.getElem_toArray, List.getElem_cons_succ, List.getElem_cons_zero, List.setIfInBounds_toArray, List.set_cons_zero, List.set_cons_succ])
              refine wpAnyH_take (i := 7) (v := .pointer (some ⟨ba, 0, none⟩)) rfl (by kernel_rfl) (by kernel_rfl) (by kernel_rfl) (fun _ _ _ h => h) (Or.inl ⟨by rfl, ?_⟩) (by assumption) ?_
              · intro wx hs1; go_simp
              (try simp only [Act.put, List.getElem_toArray, List.getElem_cons_succ, List.getElem_cons_zero, List.setIfInBounds_toArray, List.set_cons_zero, List.set_cons_succ])
              refine wpAnyH_take (i := 8) (v := .pointer (some ⟨bc, 0, none⟩)) rfl (by kernel_rfl) (by kernel_rfl) (by kernel_rfl) (fun _ _ _ h => h) (Or.inl ⟨by rfl, ?_⟩) (by assumption) ?_
              · intro wx hs1; go_simp
              (try simp only [Act.put, List.getElem_toArray, List.getElem_cons_succ, List.getElem_cons_zero, List.setIfInBounds_toArray, List.set_cons_zero, List.set_cons_succ])
              refine wpAnyH_take (i := 10) (v := .agg #[.int .i64 c, .bool (f1 0), .bool (f1 1), .bool (f1 2), .bool (f1 3), .bool (f1 4), .bool (f1 5), .bool (f1 6), .bool (f1 7), .bool (f1 8)]) rfl (by kernel_rfl) (by kernel_rfl) (by kernel_rfl) (fun _ _ _ h => h) (Or.inl ⟨by rfl, ?_⟩) (by assumption) ?_
              · intro wx hs1; obtain ⟨⟨s0, s1, s2, s3, s4, s5, s6, s7, s8, s9⟩, t0, t1, t2, t3, t4, t5, t6, t7, t8, t9⟩ := hs1; go_simp
              (try simp only [Act.put, List.getElem_toArray, List.getElem_cons_succ, List.getElem_cons_zero, List.setIfInBounds_toArray, List.set_cons_zero, List.set_cons_succ])
              refine wpAnyH_take (i := 11) (v := .agg #[.int .i64 c, .bool (f2 0), .bool (f2 1), .bool (f2 2), .bool (f2 3), .bool (f2 4), .bool (f2 5), .bool (f2 6), .bool (f2 7), .bool (f2 8)]) rfl (by kernel_rfl) (by kernel_rfl) (by kernel_rfl) (fun _ _ _ h => h) (Or.inl ⟨by rfl, ?_⟩) (by assumption) ?_
              · intro wx hs1; obtain ⟨⟨s0, s1, s2, s3, s4, s5, s6, s7, s8, s9⟩, t0, t1, t2, t3, t4, t5, t6, t7, t8, t9⟩ := hs1; go_simp
              (try simp only [Act.put, List.getElem_toArray, List.getElem_cons_succ, List.getElem_cons_zero, List.setIfInBounds_toArray, List.set_cons_zero, List.set_cons_succ])
              refine wpAnyH_take (i := 12) (v := .bool y) rfl (by kernel_rfl) (by kernel_rfl) (by kernel_rfl) (fun _ _ _ h => h) (Or.inl ⟨by rfl, ?_⟩) (by assumption) ?_
              · intro wx hs1; clear hs1; go_simp
              (try simp only [Act.put, List.getElem_toArray, List.getElem_cons_succ, List.getElem_cons_zero, List.setIfInBounds_toArray, List.set_cons_zero, List.set_cons_succ])
              refine wpAnyH_ready (rs := [9]) (by kernel_rfl) (by simp) (AllReadyH.cons rfl (fun K hK => ?_) AllReadyH.nil)
              go_simp
              go_at_call 30
              refine (HSB.out _ HB0.out).mono ?_
              rintro e wr1 ⟨rfl, hb⟩
              try dsimp only
              have HB3 : Hid (Below wq.heap.size wq wr1) := Lib.hid (HB0.out.trans (hb.mono HB0.out.size)); clear hb; have hS := HSe.out _ HB3.out
              refine hK.out _ _ hS (fun _ => ?_)
              clear hK K
              (try simp only [Act.put, List.getElem_toArray, List.getElem_cons_succ, List.getElem_cons_zero, List.setIfInBounds_toArray, List.set_cons_zero, List.set_cons_succ])
              refine wpAnyH_take (i := 13) (v := .bool true) rfl (by kernel_rfl) (by kernel_rfl) (by kernel_rfl) (fun _ _ _ h => h) (Or.inl ⟨by rfl, ?_⟩) (by assumption) ?_
              · intro wx hs1; go_simp
              (try simp only [Act.put, List.getElem_toArray, List.getElem_cons_succ, List.getElem_cons_zero, List.setIfInBounds_toArray, List.set_cons_zero, List.set_cons_succ])
              refine wpAnyH_take (i := 14) (v := .bool true) rfl (by kernel_rfl) (by kernel_rfl) (by kernel_rfl) (fun _ _ _ h => h) (Or.inl ⟨by rfl, ?_⟩) (by assumption) ?_
              · intro wx hs1; go_simp
              (try simp only [Act.put, List.getElem_toArray, List.getElem_cons_succ, List.getElem_cons_zero, List.setIfInBounds_toArray, List.set_cons_zero, List.set_cons_succ])
              refine wpAnyH_take (i := 15) (v := .bool true) rfl (by kernel_rfl) (by kernel_rfl) (by kernel_rfl) (fun _ _ _ h => h) (Or.inl ⟨by rfl, ?_⟩) (by assumption) ?_
              · intro wx hs1; go_simp
              (try simp only [Act.put, List.getElem_toArray, List.getElem_cons_succ, List.getElem_cons_zero, List.setIfInBounds_toArray, List.set_cons_zero, List.set_cons_succ])
              refine wpAnyH_ready (rs := [16]) (by kernel_rfl) (by simp) (AllReadyH.cons rfl (fun K hK => ?_) AllReadyH.nil)
              go_simp
              go_at_call 15
              (with_reducible refine (hw _).mono ?_)
              rintro e wr2 ⟨rfl, hb⟩
              try dsimp only
              have HB4 : Hid (Below wq.heap.size wq wr2) := Lib.hid (HB3.out.trans (hb.mono HB3.out.size)); clear hb; have hS := HSe.out _ HB4.out
              refine hK.out _ _ hS (fun _ => ?_)
              clear hK K
              (try simp only [Act.put, List.getElem_toArray, List.getElem_cons_succ, List.getElem_cons_zero, List.setIfInBounds_toArray, List.set_cons_zero, List.set_cons_succ])
              refine wpAnyH_take (i := 17) (v := .bool true) rfl (by kernel_rfl) (by kernel_rfl) (by kernel_rfl) (fun _ _ _ h => h) (Or.inl ⟨by rfl, ?_⟩) (by assumption) ?_
              · intro wx hs1; go_simp
              (try simp only [Act.put, List.getElem_toArray, List.getElem_cons_succ, List.getElem_cons_zero, List.setIfInBounds_toArray, List.set_cons_zero, List.set_cons_succ])
              refine wpAnyH_take (i := 18) (v := .bool true) rfl (by kernel_rfl) (by kernel_rfl) (by kernel_rfl) (fun _ _ _ h => h) (Or.inl ⟨by rfl, ?_⟩) (by assumption) ?_
              · intro wx hs1; go_simp
              (try simp only [Act.put, List.getElem_toArray, List.getElem_cons_succ, List.getElem_cons_zero, List.setIfInBounds_toArray, List.set_cons_zero, List.set_cons_succ])
              refine wpAnyH_done (by kernel_rfl) ?_ _
              go_wp2
              go_ret
              exact ⟨rfl, HL.out.trans (HB4.out.mono HL.out.size)⟩
end Go.Proofs
