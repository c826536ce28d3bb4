/-
  The contract of ask, whole. Conditions: what the theorem names.
-/
import Derived.Deep.RegionWith
import Derived.Test.YteeponciegmlcaaDoorLawQ
namespace Go.Proofs
open Go.RowKit Go.Shelf Sm
attribute [local go_sem ↓] Go.wp_at_zero Go.wp_at_succ
theorem Sm.askFinN {w w5 : World} {R : Nat} {u v : Value} (h : w5.heap[w.heap.size + 1 + 1]? = some (.cells #[.slice none 0 0, .int .i64 0] 47 (0, 0))) (hb : But (fun b => b = R) w w5) :
    ∃ W', W' = (w5.setCell ⟨w.heap.size + 1 + 1, 0, none⟩ u).setCell ⟨w.heap.size + 1 + 1, 1, none⟩ v ∧ W'.cell? ⟨w.heap.size + 1 + 1, 0, none⟩ = some u ∧ W'.cell? ⟨w.heap.size + 1 + 1, 1, none⟩ = some v ∧ But (fun b => b = R) w W' ∧ But (fun b => b = w.heap.size + 1 + 1) w5 W' := by
  have h5 := heap_setCells (i := 1) (u := v) (heap_setCells (i := 0) (u := u) h)
  refine ⟨_, rfl, cell_of_heap h5 0, cell_of_heap h5 1, ?_, ?_⟩
  · exact (hb.set ⟨w.heap.size + 1 + 1, 0, none⟩ u (.inr (by simp; omega))).set ⟨w.heap.size + 1 + 1, 1, none⟩ v (.inr (by simp; omega))
  · have h0 : But (fun b => b = w.heap.size + 1 + 1) w5 w5 := But.refl _ _
    exact (h0.set ⟨w.heap.size + 1 + 1, 0, none⟩ u (.inl rfl)).set ⟨w.heap.size + 1 + 1, 1, none⟩ v (.inl rfl)
set_option maxRecDepth 100000 in
set_option maxHeartbeats 4000000 in
theorem Sm.ask_end (w : World) (R : Nat) (A : Option Addr) (n c : Nat) (l : List (BitVec 8)) (e most : Int) (h : Rdr w R l e) (hra : RefAt w A n c l) (hlo : -9223372036854775808 ≤ most) (hhi : most ≤ 9223372036854775807) :
    Calls Tryd.prog 25 #[.pointer (some ⟨R, 0, none⟩), rdV A n c e, .agg #[.int .i64 3, .int .i64 most]] w (AskPost w R (endS l e).1 (endS l e).2.1) := by
  have hR := h.lt
  have hb := askB_below w A n c e 3 most
  have he0 : e ≠ 0 → (endS l e).1 = [] := fun he => by
    rcases h with ⟨h0, _⟩ | ⟨h1, h2, _⟩
    · exact absurd h0 he
    · unfold endS; rw [if_pos he]; exact h2
  have h1 := refEnd_any A n c l e _ (hra.below hb) h.code
  obtain ⟨l', e', no, hS⟩ : ∃ l' e' no, endS l e = (l', e', no) := ⟨_, _, _, rfl⟩
  rw [hS] at h1 he0 ⊢
  have h3 : Calls Tryd.prog 52 #[.agg #[.slice A n c, .int .i64 e]] (askB w A n c e 3 most) fun x w4 => ∃ A' n' c', x = .returned (.tuple #[.agg #[.slice A' n' c', .int .i64 e'], .int .i64 no]) ∧ RefAt w4 A' n' c' l' ∧ AskMid w w4 3 most ∧ Rdr w4 R l e := h1.mono fun x w4 ⟨⟨A', n', c', hx, hr⟩, hb4⟩ => ⟨A', n', c', hx, hr, askMid hb4, (h.below hb).below hb4⟩
  have h4 : ∀ (w4 : World) (A' : Option Addr) (n' c' : Nat), RefAt w4 A' n' c' l' → AskMid w w4 3 most → Rdr w4 R l e → Calls Tryd.prog 28 #[.pointer (some ⟨R, 0, none⟩)] (w4.alloc (.cells #[.slice A' n' c', .int .i64 e'] 47)).drew fun x w5 => x = .returned (.int .i64 no) ∧ AskEnd w w4 w5 R (.slice A' n' c') (.int .i64 e') ∧ Rdr w5 R l' e' ∧ RefAt w5 A' n' c' l' := fun w4 A' n' c' hr hmid hrd => by
    have hbo : Below w4.heap.size w4 (w4.alloc (.cells #[.slice A' n' c', .int .i64 e'] 47)).drew := ((Below.refl _ _).alloc (Nat.le_refl _) _).drew
    have hrd' := hrd.below hbo
    refine (End_any hrd').mono ?_
    rintro x w5 ⟨hx, h5, h6⟩
    rw [hS] at hx h5
    exact ⟨hx, askEnd hmid hR ⟨h6.os, h6.tape, h6.output, h6.size, h6.block⟩, h5, RefAt.over hrd' he0 (hr.below hbo) h6⟩
  clear h1 hra hb hS h he0
  unfold askB at h3
  unfold rdV
  go_enter Tryd.func25, Tryd.ntmps25
  go_wp2_with (go_at_call 52; (with_reducible refine h3.mono ?_); clear h3; rintro x w4 ⟨A', n', c', rfl, hr4, hmid, hrd4⟩; have m0 := hmid.m0; have m1 := hmid.m1; have h5 := h4 w4 A' n' c' hr4 hmid hrd4)
  all_goals have hlt4 := hmid.lt
  all_goals have ne := Nat.ne_of_gt hlt4
  all_goals have q0 := fun o : Obj => ((Below.refl _ w4).alloc (Nat.le_refl _) o).cell (p := ⟨w.heap.size + 1 + 1, 0, none⟩) hlt4 |>.trans (cell_of_heap hmid.last 0)
  all_goals clear h4 hmid hrd4 hr4 m0 m1 hlt4
  all_goals go_region_with (first
    | (go_at_call 28; (with_reducible refine h5.mono ?_); clear h5; rintro x w5 ⟨rfl, hend, hrd5, hr5⟩; have p0 := hend.p0; have p1 := hend.p1; have q0 := hend.q0; have q1 := hend.q1; have q2 := hend.q2; have q3 := hend.q3; have ne := hend.ne)
    | (go_at_call 15; (with_reducible refine (num_any _ _).mono ?_); rintro e w' ⟨rfl, rfl⟩))
  all_goals obtain ⟨W', hW', z0, z1, zb, z5⟩ := askFinN (u := .slice A' n' c') (v := .int .i64 e') hend.last hend.but
  all_goals have hpost := ask_leave hrd5 hr5 hR hend.last zb z5
  all_goals clear hend hrd5 hr5 zb z5
  all_goals go_wp2
  all_goals rw [← hW']
  all_goals exact bodyPost_ret (v := .tuple #[.agg #[.slice A' n' c', .int .i64 e'], .bool true]) (by simp [results, Tryd.results25, go_sem, z0, z1]) rfl hpost
end Go.Proofs
