/-
  acceptor: New, Promised, Accepted, Copy, Same. Conditions: as each theorem names them.
-/
import Derived.Test.YtamlacofmihldaaDoorAcF
import Derived.Test.YtamlacofmihldaaDoorAcE
namespace Go.Proofs
open Go Go.RowKit Sm Go.Lib
attribute [local go_sem] Oper.semAt_some
/-- a new acceptor -/
def Sm.newM (c s : Int) : AcM := ⟨c, s, 0, s % c, -1, 0, 0, 0, 0, ⟨#[]⟩⟩
set_option maxRecDepth 100000 in
set_option maxHeartbeats 1000000 in
theorem Sm.new_no (c s : Int) (w : World) (hn : ¬ (chB c = true ∧ slB s = true)) : Calls Tryd.prog 10 #[.int .i64 c, .int .i64 s] w fun e w' => e = .returned (.tuple #[.pointer none, .int .i64 (slotV c s (s % c)).2]) ∧ Below w.heap.size w w' := by
  have h1 := First_any c s w
  have h2 : ((slotV c s (s % c)).2 != 0) = true := by
    simp only [bne_iff_ne, ne_eq, slotV_e]
    exact hn
  obtain ⟨x, hx⟩ : ∃ x, (slotV c s (s % c)).1 = x := ⟨_, rfl⟩
  obtain ⟨y, hy⟩ : ∃ x, (slotV c s (s % c)).2 = x := ⟨_, rfl⟩
  rw [hx, hy] at h1
  rw [hy] at h2 ⊢
  clear hx hy hn
  go_enter Tryd.func10, Tryd.ntmps10
  go_wp2_with (go_at_call 19; (with_reducible refine h1.mono ?_); rintro e w1 ⟨rfl, hb1⟩; have hs1 := hb1.size)
  go_ret2
  exact ⟨rfl, hb1.alloc hs1 _⟩
set_option maxRecDepth 100000 in
set_option maxHeartbeats 1000000 in
theorem Sm.new_yes (c s : Int) (w : World) (hc : chB c = true) (hs : slB s = true) : Calls Tryd.prog 10 #[.int .i64 c, .int .i64 s] w fun e w' => ∃ p, e = .returned (.tuple #[.pointer (some ⟨p, 0, none⟩), .int .i64 0]) ∧ w.heap.size ≤ p ∧ AAt w' p (newM c s) ∧ Below w.heap.size w w' := by
  have h1 := First_any c s w
  rw [slotV_v c s _ hc hs] at h1
  obtain ⟨o, ho⟩ : ∃ o, s % c = o := ⟨_, rfl⟩
  unfold newM
  rw [ho] at h1 ⊢
  have h2 := fun W => nothing_any W
  clear hc hs ho
  go_enter Tryd.func10, Tryd.ntmps10
  go_upto_region 4 with (go_at_call 19; (with_reducible refine h1.mono ?_); rintro e w1 ⟨rfl, hb1⟩; have hs1 := hb1.size)
  have hb2 := hb1.alloc hs1 (.cells #[.int .i64 0, .int .i64 o] 36)
  have q2 := World.alloc_heap_new w1 (.cells #[.int .i64 0, .int .i64 o] 36)
  obtain ⟨w2, hw2⟩ : ∃ v, w1.alloc (.cells #[.int .i64 0, .int .i64 o] 36) = v := ⟨_, rfl⟩
  rw [hw2] at q2 hb2 ⊢
  have z0 := (two q2).1
  have HS : Hid (∀ W, Below w2.heap.size w2 W → W.cell? ⟨w1.heap.size, 0, none⟩ = some (.int .i64 0) ∧ W.cell? ⟨w1.heap.size, 1, none⟩ = some (.int .i64 o)) := Lib.hid fun W hb => (two ((hb.block _ (Array.getElem?_eq_some_iff.1 q2).1).trans q2)).1
  have HB2 := Lib.hid hb2
  clear hw2 q2 hb2 h1
  go_region_held_law (fun W => W.cell? ⟨w1.heap.size, 0, none⟩ = some (.int .i64 0) ∧ W.cell? ⟨w1.heap.size, 1, none⟩ = some (.int .i64 o))
    (first | with_reducible exact z0 | (refine HS.out _ ?_; (first | with_reducible exact (Below.refl _ _).drew | with_reducible assumption | with_reducible exact Below.alloc (by assumption) hs3 _)))
    ((go_at_call 20; (with_reducible refine (h2 _).mono ?_); rintro e w3 ⟨rfl, hb3⟩; have hb3 : Below w2.heap.size w2 w3 := (Below.refl _ w2).drew.trans hb3; have hs3 := hb3.size))
  all_goals
    go_wp2
    go_ret2
    exact ⟨w3.heap.size, rfl, (HB2.out.trans (hb3.mono HB2.out.size)).size, World.alloc_heap_new w3 _, HB2.out.trans ((hb3.alloc hs3 _).mono HB2.out.size)⟩
/-- an acceptor, or none -/
def Sm.pV : Option Nat → Value
  | none => .pointer none
  | some p => .pointer (some ⟨p, 0, none⟩)
def Sm.zeroM : AcM := ⟨0, 0, 0, 0, 0, 0, 0, 0, 0, ⟨#[]⟩⟩
/-- an acceptor in memory, or none, which is as a zero one -/
def Sm.OAt (w : World) (P : Option Nat) (M : AcM) : Prop := match P with | none => M = zeroM | some p => AAt w p M
theorem Sm.OAt.keep {w w' : World} {P : Option Nat} {M : AcM} (h : OAt w P M) (hb : Below w.heap.size w w') : OAt w' P M := by
  cases P with
  | none => exact h
  | some p => exact AAt.keep h hb
theorem Sm.wholeO (w : World) (P : Option Nat) (M : AcM) (h : OAt w P M) : Calls Tryd.prog 21 #[pV P] w fun e w' => e = .returned (.agg #[.int .i64 M.c, .int .i64 M.s, .int .i64 M.pr, .int .i64 M.pp, .int .i64 M.ar, .int .i64 M.ap, .int .i64 M.k, .int .i64 M.m, .int .i64 M.n, .string M.t]) ∧ Below w.heap.size w w' := by
  cases P with
  | none => rw [show M = zeroM from h]; exact whole_no w
  | some p => exact whole_any w p M h
theorem Sm.thereO (w : World) (P : Option Nat) (M : AcM) (h : OAt w P M) : Calls Tryd.prog 22 #[pV P] w fun e w' => e = .returned (.bool (M.c != 0)) ∧ Below w.heap.size w w' := by
  cases P with
  | none => rw [show M = zeroM from h]; exact there_no w
  | some p => exact there_any w p M h
set_option maxRecDepth 100000 in
set_option maxHeartbeats 1000000 in
theorem Sm.Promised_any (w : World) (P : Option Nat) (M : AcM) (h : OAt w P M) : Calls Tryd.prog 12 #[pV P] w fun e w' => e = .returned (.agg #[.int .i64 M.pr, .int .i64 M.pp]) ∧ Below w.heap.size w w' := by
  have hb1 : Below w.heap.size w (w.alloc (.cells #[.int .i64 0, .int .i64 0] 36)) := (Below.refl _ w).alloc (Nat.le_refl _) _
  have h1 := wholeO _ P M (h.keep hb1)
  have q1 := World.alloc_heap_new w (.cells #[.int .i64 0, .int .i64 0] 36)
  have f1 : ∀ w, (Instr.field 60 (.agg #[.int .i64 M.c, .int .i64 M.s, .int .i64 M.pr, .int .i64 M.pp, .int .i64 M.ar, .int .i64 M.ap, .int .i64 M.k, .int .i64 M.m, .int .i64 M.n, .string M.t]) 2).run Tryd.prog w = .ok (.agg #[.int .i64 M.pr, .int .i64 M.pp, .int .i64 M.ar, .int .i64 M.ap, .int .i64 M.k, .int .i64 M.m, .int .i64 M.n, .string M.t]) w := fun _ => by kernel_rfl
  have f2 : ∀ w, (Instr.field 58 (.agg #[.int .i64 M.pr, .int .i64 M.pp, .int .i64 M.ar, .int .i64 M.ap, .int .i64 M.k, .int .i64 M.m, .int .i64 M.n, .string M.t]) 0).run Tryd.prog w = .ok (.agg #[.int .i64 M.pr, .int .i64 M.pp]) w := fun _ => by kernel_rfl
  have HQ : Hid (∀ W, Below (w.alloc (.cells #[.int .i64 0, .int .i64 0] 36)).heap.size (w.alloc (.cells #[.int .i64 0, .int .i64 0] 36)) W → W.heap[w.heap.size]? = some (.cells #[.int .i64 0, .int .i64 0] 36 (0, 0))) := Lib.hid fun W hb => (hb.block _ (by simp)).trans q1
  have HB1 := Lib.hid hb1
  generalize pV P = v at h1 ⊢
  clear hb1 q1 h
  go_enter Tryd.func12, Tryd.ntmps12
  go_wp2_with (go_at_call 21; (with_reducible refine h1.mono ?_); rintro e w2 ⟨rfl, hb2⟩; have HA := Lib.hid (HQ.out _ hb2); obtain ⟨⟨d0, d1⟩, ⟨g0, g1⟩⟩ := two (HQ.out _ hb2); have HB2 := Lib.hid (HB1.out.trans (hb2.mono HB1.out.size)); clear hb2)
  obtain ⟨⟨z0, z1⟩, _⟩ := two (set2 HA.out (.int .i64 M.pr) (.int .i64 M.pp))
  clear d0 d1 g0 g1
  refine bodyPost_ret (v := .agg #[.int .i64 M.pr, .int .i64 M.pp]) (by simp only [results, Tryd.results12]; simp [go_sem, z0, z1]) rfl ⟨rfl, ?_⟩
  exact bset2 HB2.out (Nat.le_refl _) _ _
def Sm.sameM (M M' : AcM) : Bool := decide (M.c = M'.c ∧ M.s = M'.s ∧ M.pr = M'.pr ∧ M.pp = M'.pp ∧ M.ar = M'.ar ∧ M.ap = M'.ap ∧ M.k = M'.k ∧ M.m = M'.m ∧ M.n = M'.n ∧ M.t = M'.t)
theorem Sm.sameM_eq {M M' : AcM} : sameM M M' = true ↔ M = M' := by
  unfold sameM
  rw [decide_eq_true_eq]
  constructor
  · rintro ⟨h0, h1, h2, h3, h4, h5, h6, h7, h8, h9⟩
    cases M; cases M'
    simp only at h0 h1 h2 h3 h4 h5 h6 h7 h8 h9
    subst h0 h1 h2 h3 h4 h5 h6 h7 h8 h9
    rfl
  · rintro rfl
    exact ⟨rfl, rfl, rfl, rfl, rfl, rfl, rfl, rfl, rfl, rfl⟩
end Go.Proofs
