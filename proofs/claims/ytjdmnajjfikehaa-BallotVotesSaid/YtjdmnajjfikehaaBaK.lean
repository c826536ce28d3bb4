/-
  ballot: nine truths that are the same; Won, Copy, Same, Add. Conditions: as each theorem names them.
-/
import Derived.ChangeKeysEq
import Derived.Test.YtjdmnajjfikehaaBaJ
namespace Go.Proofs
open Go Go.RowKit Sm Go.Lib
attribute [local go_sem] Oper.semAt_some
def Sm.bvF (f : Nat → Bool) : Array Value := ((List.range 9).map fun i => Value.bool (f i)).toArray
theorem Sm.bvF_eq (f : Nat → Bool) : bvF f = #[.bool (f 0), .bool (f 1), .bool (f 2), .bool (f 3), .bool (f 4), .bool (f 5), .bool (f 6), .bool (f 7), .bool (f 8)] := rfl
/-- are nine truths the same -/
def Sm.eq9 (f g : Nat → Bool) : Bool := (List.range 9).all fun i => f i == g i
theorem Sm.eq9_iff (f g : Nat → Bool) : eq9 f g = true ↔ ∀ i, i < 9 → f i = g i := by
  unfold eq9
  simp only [List.all_eq_true, List.mem_range, beq_iff_eq]
theorem Sm.plain4 : Try.prog.plainKey 4 = true := by kernel_rfl
theorem Sm.items_b (w : World) (d : Nat) (f g : Nat → Bool) : ∀ is : List Nat, (∀ i ∈ is, i < 9) → (Op.eqItems (d + 1) 4 1 (bvF f) (bvF g) is).run Try.prog w = .ok (is.all fun i => f i == g i) w
  | [], _ => by simp [Op.eqItems]
  | i :: is, h => by
    have hi := h i (by simp)
    have hx : (bvF f)[i * 1]? = some (.bool (f i)) := by simp [bvF, hi]
    have hy : (bvF g)[i * 1]? = some (.bool (g i)) := by simp [bvF, hi]
    have hp := run_part_plain (P := Try.prog) w plain4 hx
    have hq := run_part_plain (P := Try.prog) w plain4 hy
    have he := run_equalIn_bool (P := Try.prog) w d 4 (f i) (g i) Try.underlying4
    have hr := items_b w d f g is (fun j hj => h j (by simp [hj]))
    simp only [Op.eqItems, Sem.run_bind, hp, hq, he, Result.andThen_ok, List.all_cons]
    cases f i == g i
    · simp
    · simp only [Bool.not_true, Bool.false_eq_true, if_false, Bool.true_and]
      exact hr
theorem Sm.info4 : ∃ i, Try.prog.info? 4 = some i := ⟨_, rfl⟩
theorem Sm.equal9 (w : World) (d t : Nat) (f g : Nat → Bool) (hu : Try.prog.underlying t = some (.array 9 4)) : (Op.equalIn (d + 2) t (.agg #[.bool (f 0), .bool (f 1), .bool (f 2), .bool (f 3), .bool (f 4), .bool (f 5), .bool (f 6), .bool (f 7), .bool (f 8)]) (.agg #[.bool (g 0), .bool (g 1), .bool (g 2), .bool (g 3), .bool (g 4), .bool (g 5), .bool (g 6), .bool (g 7), .bool (g 8)])).run Try.prog w = .ok (eq9 f g) w := by
  obtain ⟨i, hi⟩ := info4
  have hc : Try.prog.cellsOf 4 = 1 := by kernel_rfl
  rw [← bvF_eq, ← bvF_eq, run_equalIn_array w (d + 1) (bvF f) (bvF g) hu hi, hc]
  exact items_b w d f g _ (fun j hj => by simpa using hj)
theorem Sm.eql52 (w : World) (f g : Nat → Bool) : (binOp .eql 52 (.agg #[.bool (f 0), .bool (f 1), .bool (f 2), .bool (f 3), .bool (f 4), .bool (f 5), .bool (f 6), .bool (f 7), .bool (f 8)]) (.agg #[.bool (g 0), .bool (g 1), .bool (g 2), .bool (g 3), .bool (g 4), .bool (g 5), .bool (g 6), .bool (g 7), .bool (g 8)])).run Try.prog w = .ok (.bool (eq9 f g)) w := by
  rw [run_eql_struct, show (10000 : Nat) = 9998 + 2 from rfl, equal9 w 9998 52 f g Try.underlying52]
  rfl
theorem Sm.guard52 (w : World) (x y : Operand) (f g : Nat → Bool) : (eqGuard .eql 52 x y (.agg #[.bool (f 0), .bool (f 1), .bool (f 2), .bool (f 3), .bool (f 4), .bool (f 5), .bool (f 6), .bool (f 7), .bool (f 8)]) (.agg #[.bool (g 0), .bool (g 1), .bool (g 2), .bool (g 3), .bool (g 4), .bool (g 5), .bool (g 6), .bool (g 7), .bool (g 8)])).run Try.prog w = .ok () w := run_eqGuard_agg w .eql 52 x y _ _ (by kernel_rfl)
/-- does a choir's votes win -/
def Sm.wonB (c : Int) (f : Nat → Bool) : Bool := chB c && decide (c / 2 + 1 ≤ (cntF f 9 : Int))
theorem Sm.Won_any (v : Value) (c : Int) (f : Nat → Bool) (w : World) (h : VP w v c f) : Calls Try.prog 28 #[v] w fun e w' => e = .returned (.bool (wonB c f)) ∧ Below w.heap.size w w' := by
  have hW := whole_any v c f w h
  have g0 := fun W => fld0 c f W
  have g2 := fun W => fld2 c W
  have hMj := fun W => Majority_any c W
  have HMn := Lib.hid (fun W hb => Many_any v c f W (h.keep hb))
  unfold majV at hMj
  unfold wonB
  obtain ⟨n, hn⟩ : ∃ n, cntF f 9 = n := ⟨_, rfl⟩
  rw [hn] at HMn ⊢
  clear h hn
  cases hc : chB c with
  | false =>
    rw [hc] at hMj
    simp only [Bool.false_eq_true, if_false] at hMj
    go_enter Try.func28, Try.ntmps28
    go_wp2_with (first
      | (go_at_call 49; (with_reducible refine hW.mono ?_); clear hW; rintro e w1 ⟨rfl, hb1⟩; have HB1 := Lib.hid hb1; clear hb1)
      | (go_at_call 51; (with_reducible refine (hMj _).mono ?_); rintro e w2 ⟨rfl, hb2⟩; have HB2 : Hid (Below w.heap.size w w2) := Lib.hid (HB1.out.trans (hb2.mono HB1.out.size)); clear hb2))
    go_ret
    exact ⟨rfl, HB2.out⟩
  | true =>
    rw [hc] at hMj
    simp only [if_true] at hMj
    obtain ⟨m, hm⟩ : ∃ m, c / 2 + 1 = m := ⟨_, rfl⟩
    rw [hm] at hMj ⊢
    clear hc hm
    go_enter Try.func28, Try.ntmps28
    go_wp2_with (first
      | (go_at_call 49; (with_reducible refine hW.mono ?_); clear hW; rintro e w1 ⟨rfl, hb1⟩; have HB1 := Lib.hid hb1; clear hb1)
      | (go_at_call 51; (with_reducible refine (hMj _).mono ?_); rintro e w2 ⟨rfl, hb2⟩; have HB2 : Hid (Below w.heap.size w w2) := Lib.hid (HB1.out.trans (hb2.mono HB1.out.size)); clear hb2; have hmn := HMn.out w2 HB2.out)
      | (go_at_call 27; (with_reducible refine hmn.mono ?_); clear hmn; rintro e w3 ⟨rfl, hb3⟩; have HB3 : Hid (Below w.heap.size w w3) := Lib.hid (HB2.out.trans (hb3.mono HB2.out.size)); clear hb3))
    go_ret
    exact ⟨by simp, HB3.out⟩
theorem Sm.Copy_yes (b : Nat) (c : Int) (f : Nat → Bool) (w : World) (h : w.heap[b]? = some (.cells #[.int .i64 c, .bool (f 0), .bool (f 1), .bool (f 2), .bool (f 3), .bool (f 4), .bool (f 5), .bool (f 6), .bool (f 7), .bool (f 8)] 54 (0, 0))) (hc : (c != 0) = true) : Calls Try.prog 29 #[.pointer (some ⟨b, 0, none⟩)] w fun e w' => ∃ b2, e = .returned (.pointer (some ⟨b2, 0, none⟩)) ∧ w.heap.size ≤ b2 ∧ w'.heap[b2]? = some (.cells #[.int .i64 c, .bool (f 0), .bool (f 1), .bool (f 2), .bool (f 3), .bool (f 4), .bool (f 5), .bool (f 6), .bool (f 7), .bool (f 8)] 54 (0, 0)) ∧ Below w.heap.size w w' := by
  have hT := there_any _ c f w (.inr ⟨b, rfl, h⟩)
  have hl := (Array.getElem?_eq_some_iff.1 h).1
  rw [hc] at hT
  have HH := Lib.hid h
  clear hc h
  go_enter Try.func29, Try.ntmps29
  go_wp2_with (go_at_call 47; (with_reducible refine hT.mono ?_); rintro e w1 ⟨rfl, hb⟩; obtain ⟨c0, c1, c2, c3, c4, c5, c6, c7, c8, c9⟩ := cells10 ((hb.block _ hl).trans HH.out); have hl1 := Nat.lt_of_lt_of_le hl hb.size)
  go_ret
  exact ⟨_, rfl, hb.size, World.alloc_heap_new w1 _, hb.trans (((Below.refl _ _).alloc (Nat.le_refl _) _).mono hb.size)⟩
theorem Sm.Copy_no (v : Value) (f : Nat → Bool) (w : World) (h : VP w v 0 f) : Calls Try.prog 29 #[v] w fun e w' => e = .returned (.pointer none) ∧ Below w.heap.size w w' := by
  have hT := there_any v 0 f w h
  rw [show ((0 : Int) != 0) = false from rfl] at hT
  clear h
  go_enter Try.func29, Try.ntmps29
  go_wp2_with (go_at_call 47; (with_reducible refine hT.mono ?_); rintro e w1 ⟨rfl, hb⟩)
  go_ret
  exact ⟨rfl, hb⟩
set_option maxRecDepth 100000 in
theorem Sm.Same_any (v u : Value) (c d : Int) (f g : Nat → Bool) (w : World) (h : VP w v c f) (h2 : VP w u d g) : Calls Try.prog 30 #[v, u] w fun e w' => e = .returned (.bool (decide (c = d) && eq9 f g)) ∧ Below w.heap.size w w' := by
  have HV := Lib.hid (fun W hb => whole_any v c f W (h.keep hb))
  have HU := Lib.hid (fun W hb => whole_any u d g W (h2.keep hb))
  have g0 := fun W => fld0 c f W
  have g1 := fun W => fld1 c f W
  have g2 := fun W => fld2 c W
  have k0 := fun W => fld0 d g W
  have k1 := fun W => fld1 d g W
  have k2 := fun W => fld2 d W
  have e1 := fun W => eql52 W f g
  have e2 := fun W x y => guard52 W x y f g
  have hv := HV.out w (Below.refl _ _)
  obtain ⟨x, hx⟩ : ∃ x, eq9 f g = x := ⟨_, rfl⟩
  rw [hx] at e1 ⊢
  clear h h2 hx
  by_cases hcd : c = d
  · have hcb : (c == d) = true := by simpa using hcd
    rw [show decide (c = d) = true from decide_eq_true hcd]
    clear hcd
    go_enter Try.func30, Try.ntmps30
    go_wp2_with (first
      | (go_at_call 49; (with_reducible refine hv.mono ?_); clear hv; rintro e w1 ⟨rfl, hb1⟩; have HB1 := Lib.hid hb1; clear hb1; have hu := HU.out w1 HB1.out)
      | (go_at_call 49; (with_reducible refine hu.mono ?_); clear hu; rintro e w2 ⟨rfl, hb2⟩; have HB2 : Hid (Below w.heap.size w w2) := Lib.hid (HB1.out.trans (hb2.mono HB1.out.size)); clear hb2; have hv3 := HV.out w2 HB2.out)
      | (go_at_call 49; (with_reducible refine hv3.mono ?_); clear hv3; rintro e w3 ⟨rfl, hb3⟩; have HB3 : Hid (Below w.heap.size w w3) := Lib.hid (HB2.out.trans (hb3.mono HB2.out.size)); clear hb3; have hu4 := HU.out w3 HB3.out)
      | (go_at_call 49; (with_reducible refine hu4.mono ?_); clear hu4; rintro e w4 ⟨rfl, hb4⟩; have HB4 : Hid (Below w.heap.size w w4) := Lib.hid (HB3.out.trans (hb4.mono HB3.out.size)); clear hb4))
    go_ret
    exact ⟨rfl, HB4.out⟩
  · have hcb : (c == d) = false := by simpa using hcd
    rw [show decide (c = d) = false from decide_eq_false hcd]
    clear hcd
    go_enter Try.func30, Try.ntmps30
    go_wp2_with (first
      | (go_at_call 49; (with_reducible refine hv.mono ?_); clear hv; rintro e w1 ⟨rfl, hb1⟩; have HB1 := Lib.hid hb1; clear hb1; have hu := HU.out w1 HB1.out)
      | (go_at_call 49; (with_reducible refine hu.mono ?_); clear hu; rintro e w2 ⟨rfl, hb2⟩; have HB2 : Hid (Below w.heap.size w w2) := Lib.hid (HB1.out.trans (hb2.mono HB1.out.size)); clear hb2))
    go_ret
    exact ⟨rfl, HB2.out⟩
end Go.Proofs
