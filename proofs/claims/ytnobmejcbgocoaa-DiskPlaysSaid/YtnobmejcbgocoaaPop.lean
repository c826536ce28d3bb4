/-
  A region that draws its order and ends with one operation that waits for all others: it is enough to walk through the others and that one behind them. Conditions: no guard; each operation waits for earlier ones alone.
-/
import Derived.OrdersHeld
import Derived.Shelf.Abstract
import Derived.Test.YtnobmejcbgocoaaProg
namespace Go.Proofs
open Go
theorem Sm.operWp_mono {P : Program} {o : Oper} {a : Act} {w : World} {K K' : Act → World → Prop} {R Q : Exit → Act → World → Prop} (hK : ∀ a w, K a w → K' a w) (hR : ∀ e a w, e ≠ .normal → R e a w → Q e a w) (hL : ¬ LetsOut R)
    (h : o.wp P a w K R) : o.wp P a w K' Q := by
  unfold Oper.wp at *
  generalize (execOp a.eval o).run P w = r at *
  cases r with
  | ok n w' =>
    cases n <;> simp only [Oper.upon] at h ⊢ <;>
      first
        | exact hK _ _ h
        | exact Calls.mono h (fun e w'' he => by
            cases e with
            | returned v => exact hK _ _ he
            | panicked c => exact hR _ _ _ (by simp) he
            | outgrown => exact absurd he hL)
        | exact Rows.mono h (fun _ _ he => hK _ _ he)
  | halt x w' =>
    cases x <;> simp only [Oper.upon] at h ⊢ <;> first | exact hR _ _ _ (by simp) h | exact h
/-- what is asked ahead of the last operation -/
def Sm.tailQ (P : Program) (ops : Array Oper) (Q : Exit → Act → World → Prop) (n : Nat) : Exit → Act → World → Prop
  | .normal, a, w => wpOp P ops Q n (fun a' w' => Q .normal a' w') a w
  | _, _, _ => False
theorem Sm.tailQ_out (P : Program) (ops : Array Oper) (Q : Exit → Act → World → Prop) (n : Nat) : ¬ LetsOut (tailQ P ops Q n) := fun ⟨_, _, h⟩ => h
/-- the shape that is asked, as the kernel looks at it -/
def Sm.popB (md : Region.Mode) (ops : Array Oper) (o : Oper) : Bool :=
  ((List.range ops.size).all fun i => match ops[i]? with
    | some x => x.guard.isNone && x.after.all fun e => decide (e.on < i)
    | none => false) &&
  (o.after.all fun e => decide (e.on < ops.size)) && ((List.range ops.size).all fun i => (o.after.any fun e => Region.binds md e && e.on == i) || (List.range ops.size).any fun k => decide (i < k) && match ops[k]? with
    | some x => x.after.any fun e => Region.binds md e && e.on == i
    | none => false)
section
variable {P : Program} {md : Region.Mode} {ops : Array Oper} {o : Oper} {Q : Exit → Act → World → Prop}
theorem Sm.popB_at (h : popB md ops o = true) {i : Nat} {x : Oper} (hx : ops[i]? = some x) : x.guard = none ∧ ∀ e ∈ x.after, e.on < i := by
  unfold popB at h
  simp only [Bool.and_eq_true, List.all_eq_true, List.mem_range] at h
  have h1 := h.1.1 i (Array.getElem?_eq_some_iff.1 hx).1
  rw [hx] at h1
  simp only [Bool.and_eq_true, Option.isNone_iff_eq_none] at h1
  refine ⟨h1.1, fun e he => ?_⟩
  have := (Array.all_eq_true_iff_forall_mem.1 h1.2) e he
  simpa using this
theorem Sm.popB_last (h : popB md ops o = true) : ∀ e ∈ o.after, e.on < ops.size := by
  unfold popB at h
  simp only [Bool.and_eq_true] at h
  intro e he
  have := (Array.all_eq_true_iff_forall_mem.1 h.1.2) e he
  simpa using this
theorem Sm.popB_waits (h : popB md ops o = true) {i : Nat} (hi : i < ops.size) : (∃ e ∈ o.after, Region.binds md e = true ∧ e.on = i) ∨ ∃ k x, i < k ∧ ops[k]? = some x ∧ ∃ e ∈ x.after, Region.binds md e = true ∧ e.on = i := by
  unfold popB at h
  simp only [Bool.and_eq_true, List.all_eq_true, List.mem_range, Bool.or_eq_true, List.any_eq_true] at h
  rcases h.2 i hi with h | ⟨k, _, hik, h⟩
  · obtain ⟨e, he, hb⟩ := Array.any_eq_true'.1 h
    simp only [Bool.and_eq_true, beq_iff_eq] at hb
    exact .inl ⟨e, he, hb.1, hb.2⟩
  · cases hx : ops[k]? with
    | none => rw [hx] at h; cases h
    | some x =>
      rw [hx] at h
      obtain ⟨e, he, hb⟩ := Array.any_eq_true'.1 h
      simp only [Bool.and_eq_true, beq_iff_eq] at hb
      exact .inr ⟨k, x, by simpa using hik, hx, e, he, hb.1, hb.2⟩
/-- what has come up, what it waits for has -/
def Sm.ClosedL (md : Region.Mode) (ops : Array Oper) (l : Array Bool) : Prop := ∀ (j : Nat) x, ops[j]? = some x → l.getD j false = true → ∀ e ∈ x.after, Region.binds md e = true → l.getD e.on false = true
theorem Sm.all_listed (h : popB md ops o = true) {l : Array Bool} (hc : ClosedL md ops l) (hw : ∀ e ∈ o.after, Region.binds md e = true → l.getD e.on false = true) : ∀ n i, i < ops.size → ops.size - i = n → l.getD i false = true := by
  intro n
  induction n using Nat.strongRecOn with
  | _ n ih =>
    intro i hi hn
    rcases popB_waits h hi with ⟨e, he, hb, rfl⟩ | ⟨k, x, hik, hx, e, he, hb, rfl⟩
    · exact hw e he hb
    · have hk := (Array.getElem?_eq_some_iff.1 hx).1
      exact hc k x hx (ih (ops.size - k) (by omega) k hk rfl) e he hb
theorem Sm.ClosedL.step {l : Array Bool} (hc : ClosedL md ops l) {i : Nat} (hi : i ∈ Region.ready md ops l) (hs : i < l.size) : ClosedL md ops (l.setIfInBounds i true) := by
  obtain ⟨_, x, hx, hall⟩ := mem_ready.1 hi
  have keep : ∀ k, l.getD k false = true → (l.setIfInBounds i true).getD k false = true := fun k hk => by
    by_cases e : i = k
    · subst e; simp [Array.getD, hs]
    · rw [getD_set_ne false e]; exact hk
  intro j y hy hj e he hb
  by_cases e2 : i = j
  · subst e2
    have : y = x := Option.some.inj (hy.symm.trans hx)
    subst this
    exact keep _ (hall e he hb)
  · rw [getD_set_ne false e2] at hj
    exact keep _ (hc j y hy hj e he hb)
theorem Sm.push_getD {l : Array Bool} {i : Nat} (hi : i < l.size) (b d d' : Bool) : (l.push b).getD i d = l.getD i d' := by
  simp [Array.getD, Array.getElem_push, hi, Nat.lt_succ_of_lt hi]
/-- nothing may come up: all has come up -/
theorem Sm.ready_nil (h : popB md ops o = true) {l : Array Bool} (hs : l.size = ops.size) (hr : Region.ready md ops l = []) : ∀ i, i < ops.size → l.getD i false = true := by
  intro i
  induction i using Nat.strongRecOn with
  | _ i ih =>
    intro hi
    cases hb : l.getD i false with
    | true => rfl
    | false =>
      have hx : ops[i]? = some ops[i] := Array.getElem?_eq_getElem hi
      have : i ∈ Region.ready md ops l := by
        rw [mem_ready]
        refine ⟨by simp [Array.getD, hs, hi] at hb ⊢; exact hb, _, hx, fun e he _ => ?_⟩
        have hlt := (popB_at h hx).2 e he
        exact ih e.on hlt (by omega)
      rw [hr] at this
      cases this
theorem Sm.wpAny_pop (h : popB md ops o = true) : ∀ (fuel : Nat) (l : Array Bool) (a : Act) (w : World), l.size = ops.size → ClosedL md ops l → wpAny P md ops (tailQ P (ops.push o) Q ops.size) fuel l a w → wpAny P md (ops.push o) Q (fuel + 1) (l.push false) a w := by
  -- the last one's turn
  have last : ∀ (fuel : Nat) (l : Array Bool) (a : Act) (w : World), l.size = ops.size → Region.ready md ops l = [] → tailQ P (ops.push o) Q ops.size .normal a w → wpAny P md (ops.push o) Q (fuel + 1) (l.push false) a w := by
    intro fuel l a w hs hr ht
    have hall := ready_nil h hs hr
    have hrd : ∀ i, i ∈ Region.ready md (ops.push o) (l.push false) ↔ i = ops.size := by
      intro i
      rw [mem_ready]
      constructor
      · rintro ⟨h0, x, hx, _⟩
        rcases Nat.lt_trichotomy i ops.size with hi | hi | hi
        · rw [push_getD (by omega) false true false, hall i hi] at h0; cases h0
        · exact hi
        · rw [Array.getElem?_eq_none (by simp; omega)] at hx; cases hx
      · rintro rfl
        refine ⟨by simp [Array.getD, hs, Array.getElem_push], o, by simp, fun e he _ => ?_⟩
        have := popB_last h e he
        rw [push_getD (by omega) false false false]
        exact hall _ this
    refine ⟨fun h0 => ?_, fun i hi => ?_⟩
    · have := (hrd ops.size).2 rfl
      rw [h0] at this; cases this
    · obtain rfl := (hrd i).1 hi
      refine wpOp_mono (fun a' w' hq => ?_) ht
      have hnil : Region.ready md (ops.push o) ((l.push false).setIfInBounds ops.size true) = [] := by
        apply List.eq_nil_iff_forall_not_mem.2
        intro i hi
        rw [mem_ready] at hi
        obtain ⟨h0, x, hx, _⟩ := hi
        have hlt : i < (ops.push o).size := (Array.getElem?_eq_some_iff.1 hx).1
        simp only [Array.size_push] at hlt
        by_cases e : i = ops.size
        · subst e; simp [Array.getD, hs] at h0
        · rw [getD_set_ne true (fun e' => e e'.symm), push_getD (by omega) false true false, hall i (by omega)] at h0; cases h0
      exact wpAny_done hnil hq fuel
  intro fuel
  induction fuel with
  | zero =>
    intro l a w hs _ hw
    exact last 0 l a w hs hw.1 hw.2
  | succ fuel ih =>
    intro l a w hs hc hw
    by_cases hr : Region.ready md ops l = []
    · exact last (fuel + 1) l a w hs hr (hw.1 hr)
    · have hrd : ∀ i, i ∈ Region.ready md (ops.push o) (l.push false) → i ∈ Region.ready md ops l ∧ i < ops.size := by
        intro i hi
        rw [mem_ready] at hi
        obtain ⟨h0, x, hx, hall⟩ := hi
        have hlt : i < (ops.push o).size := (Array.getElem?_eq_some_iff.1 hx).1
        simp only [Array.size_push] at hlt
        by_cases e : i = ops.size
        · exfalso
          subst e
          have hxo : x = o := by simpa using hx.symm
          subst hxo
          obtain ⟨j, hj⟩ := List.exists_mem_of_ne_nil _ hr
          obtain ⟨hj0, y, hy, _⟩ := mem_ready.1 hj
          have hjl := (Array.getElem?_eq_some_iff.1 hy).1
          have := all_listed h hc (fun e he hb => by
            have h1 := hall e he hb
            rwa [push_getD (by rw [hs]; exact popB_last h e he) false false false] at h1) _ j hjl rfl
          have hjs : j < l.size := by omega
          simp [Array.getD, hjs] at hj0 this
          rw [hj0] at this; cases this
        · have hi' : i < ops.size := by omega
          have hx' : ops[i]? = some x := by rw [Array.getElem?_push, if_neg (by omega)] at hx; exact hx
          refine ⟨mem_ready.2 ⟨by rw [← push_getD (by omega) false true true]; exact h0, x, hx', fun e he hb => ?_⟩, hi'⟩
          have := (popB_at h hx').2 e he
          rw [← push_getD (by omega) false false false]
          exact hall e he hb
      refine ⟨fun h0 => ?_, fun i hi => ?_⟩
      · exfalso
        obtain ⟨j, hj⟩ := List.exists_mem_of_ne_nil _ hr
        obtain ⟨hj0, y, hy, hya⟩ := mem_ready.1 hj
        have hjl := (Array.getElem?_eq_some_iff.1 hy).1
        have : j ∈ Region.ready md (ops.push o) (l.push false) := by
          refine mem_ready.2 ⟨by rw [push_getD (by omega) false true true]; exact hj0, y, by rw [Array.getElem?_push, if_neg (by omega)]; exact hy, fun e he hb => ?_⟩
          have := (popB_at h hy).2 e he
          rw [push_getD (by omega) false false false]
          exact hya e he hb
        rw [h0] at this; cases this
      · obtain ⟨hir, hlt⟩ := hrd i hi
        have h1 := hw.2 i hir
        have hx : ops[i]? = some ops[i] := Array.getElem?_eq_getElem hlt
        have hx' : (ops.push o)[i]? = some ops[i] := by rw [Array.getElem?_push, if_neg (by omega)]; exact hx
        have hg := (popB_at h hx).1
        have hset : (l.push false).setIfInBounds i true = (l.setIfInBounds i true).push false := by
          have hil : i < l.size := by omega
          cases l with
          | mk l =>
            have hil' : i < l.length := by simpa using hil
            simp [hil']
        unfold wpOp at h1 ⊢
        simp only [hx, hx'] at h1 ⊢
        have hwant : ∀ t, Region.wanted ops[i] t = true := fun t => by simp [Region.wanted, hg]
        rw [if_pos (hwant _)] at h1 ⊢
        refine .inl ?_
        rcases h1 with h1 | ⟨_, h1⟩
        · refine operWp_mono (fun a' w' hh => ?_) (fun e a w hne hq => by cases e <;> first | exact absurd rfl hne | exact hq.elim) (tailQ_out _ _ _ _) h1
          rw [hset]
          exact ih _ a' w' (by simp [hs]) (hc.step hir (by omega)) hh
        · exact absurd h1 (tailQ_out _ _ _ _)
/-- **the law** -/
theorem Sm.wp_region_pop {id : Nat} {a : Act} {w : World} (h : popB .any ops o = true) (hm : P.follows .mixedOrders = true)
    (hw : wpAny P .any ops (tailQ P (ops.push o) Q ops.size) ops.size (Array.replicate ops.size false) a { w with drawn := w.drawn + 1 }) : (Code.region id (ops.push o) true).wp P Q a w := by
  refine wp_region_any hm ?_
  have := wpAny_pop (Q := Q) h ops.size _ a _ (by simp) (fun j x _ hj => by simp [Array.getD] at hj) hw
  have e : (Array.replicate ops.size false).push false = Array.replicate (ops.push o).size false := by
    rw [Array.size_push, Array.replicate_succ]
  rw [e] at this
  rw [Array.size_push]
  rw [Array.size_push] at this
  exact this
theorem Sm.wp_region_popL {id : Nat} {a : Act} {w : World} {l : List Oper} (n : Nat) (hd : l.drop n = [o]) (hn : (l.take n).length = n) (h : popB .any (l.take n).toArray o = true) (hm : P.follows .mixedOrders = true) {S : World → Prop} (hS : S w.drew)
    (hw : S w.drew → wpAnyH P .any (l.take n).toArray (tailQ P l.toArray Q n) S n (Array.replicate n false) a w.drew) : (Code.region id l.toArray true).wp P Q a w := by
  have e : l.toArray = (l.take n).toArray.push o := by
    rw [List.push_toArray, ← hd, List.take_append_drop]
  have hs : (l.take n).toArray.size = n := by simpa using hn
  have h1 := wpAny_of_held _ _ _ _ (hw hS)
  rw [e] at h1 ⊢
  refine wp_region_pop h hm ?_
  rw [hs]
  exact h1
end
end Go.Proofs
