/-
  ballot: which of two numbers, of two ballots is less; the document's answer. Conditions: as each theorem names them.
-/
import Derived.Deep.RegionWith
import Derived.Deep.RegionHeldLaw
import Derived.Deep.CutRange
import Derived.Deep.DeepCutAuto
import Derived.Deep.QuietTactic
import Derived.BigQuiet
import Derived.Test.YtamlacofmihldaaDoorSlK
namespace Go.Proofs
open Go Go.RowKit Sm Go.Lib
attribute [local go_sem] Oper.semAt_some
theorem Sm.nan56 (x : Int) (w : World) : Calls Tryd.prog 68 #[.int .i64 x] w fun e w' => e = .returned (.bool false) ∧ w = w' := by
  have h : (x != x) = false := by simp
  go_enter Tryd.func68, Tryd.ntmps68
  go_wp2
  go_ret
  exact ⟨rfl, rfl⟩
theorem Sm.nan57 (x : Int) (w : World) : Calls Tryd.prog 69 #[.int .i64 x] w fun e w' => e = .returned (.bool false) ∧ w = w' := by
  have h : (x != x) = false := by simp
  go_enter Tryd.func69, Tryd.ntmps69
  go_wp2
  go_ret
  exact ⟨rfl, rfl⟩
/-- which of two numbers is less -/
def Sm.cmpI (x y : Int) : Int := if x < y then -1 else if y < x then 1 else 0
theorem Sm.cmp37 (x y : Int) (w : World) : Calls Tryd.prog 49 #[.int .i64 x, .int .i64 y] w fun e w' => e = .returned (.int .i64 (cmpI x y)) ∧ w = w' := by
  have h1 := fun z W => nan56 z W
  unfold cmpI
  by_cases h : x < y
  · go_enter Tryd.func49, Tryd.ntmps49
    go_wp2_with (go_at_call 68; (with_reducible refine (h1 _ _).mono ?_); rintro e w' ⟨rfl, rfl⟩)
    go_ret
    exact ⟨by simp, rfl⟩
  · by_cases h2 : y < x
    · go_enter Tryd.func49, Tryd.ntmps49
      go_wp2_with (go_at_call 68; (with_reducible refine (h1 _ _).mono ?_); rintro e w' ⟨rfl, rfl⟩)
      go_ret
      exact ⟨by simp, rfl⟩
    · go_enter Tryd.func49, Tryd.ntmps49
      go_wp2_with (go_at_call 68; (with_reducible refine (h1 _ _).mono ?_); rintro e w' ⟨rfl, rfl⟩)
      go_ret
      exact ⟨by simp, rfl⟩
theorem Sm.cmp38 (x y : Int) (w : World) : Calls Tryd.prog 50 #[.int .i64 x, .int .i64 y] w fun e w' => e = .returned (.int .i64 (cmpI x y)) ∧ w = w' := by
  have h1 := fun z W => nan57 z W
  unfold cmpI
  by_cases h : x < y
  · go_enter Tryd.func50, Tryd.ntmps50
    go_wp2_with (go_at_call 69; (with_reducible refine (h1 _ _).mono ?_); rintro e w' ⟨rfl, rfl⟩)
    go_ret
    exact ⟨by simp, rfl⟩
  · by_cases h2 : y < x
    · go_enter Tryd.func50, Tryd.ntmps50
      go_wp2_with (go_at_call 69; (with_reducible refine (h1 _ _).mono ?_); rintro e w' ⟨rfl, rfl⟩)
      go_ret
      exact ⟨by simp, rfl⟩
    · go_enter Tryd.func50, Tryd.ntmps50
      go_wp2_with (go_at_call 69; (with_reducible refine (h1 _ _).mono ?_); rintro e w' ⟨rfl, rfl⟩)
      go_ret
      exact ⟨by simp, rfl⟩
/-- the first of two numbers that is not nought -/
def Sm.orI (x y : Int) : Int := if x = 0 then y else x
theorem Sm.or36 (g : Nat) (x y : Int) (w : World) (h : w.heap[g]? = some (.cells #[.int .i64 x, .int .i64 y] 3 (0, 0))) : Calls Tryd.prog 48 #[.slice (some ⟨g, 0, none⟩) 2 2] w fun e w' => e = .returned (.int .i64 (orI x y)) ∧ w = w' := by
  have c0 := cell_of_heap h 0
  have c1 := cell_of_heap h 1
  simp only [List.getElem?_toArray, List.getElem?_cons_zero, List.getElem?_cons_succ] at c0 c1
  unfold orI
  clear h
  by_cases hx : x = 0
  · subst hx
    by_cases hy : y = 0
    · subst hy
      go_enter Tryd.func48, Tryd.ntmps48
      go_wp2
      go_loopw [8] (fun v8 wr => (v8 = .int .i64 0 ∨ v8 = .int .i64 1 ∨ v8 = .int .i64 2) ∧ wr = w) (fun v8 _ => 2 - (RowKit.intOf v8).toNat)
      case atStart => exact ⟨.inl rfl, rfl⟩
      case round =>
        obtain ⟨hk, rfl⟩ := hrel
        rcases hk with rfl | rfl | rfl
        · go_wp2
          go_roundw
          case rel => exact ⟨.inr (.inl rfl), trivial⟩
          case measure => simp [RowKit.intOf]
        · go_wp2
          go_roundw
          case rel => exact ⟨.inr (.inr rfl), trivial⟩
          case measure => simp [RowKit.intOf]
        · go_wp2
          go_ret
          exact ⟨rfl, rfl⟩
    · have hy2 : (y != 0) = true := by simpa using hy
      clear hy
      go_enter Tryd.func48, Tryd.ntmps48
      go_wp2
      go_loopw [8] (fun v8 wr => (v8 = .int .i64 0 ∨ v8 = .int .i64 1) ∧ wr = w) (fun v8 _ => 2 - (RowKit.intOf v8).toNat)
      case atStart => exact ⟨.inl rfl, rfl⟩
      case round =>
        obtain ⟨hk, rfl⟩ := hrel
        rcases hk with rfl | rfl
        · go_wp2
          go_roundw
          case rel => exact ⟨.inr rfl, trivial⟩
          case measure => simp [RowKit.intOf]
        · go_wp2
          go_ret
          exact ⟨rfl, rfl⟩
  · have hx2 : (x != 0) = true := by simpa using hx
    rw [if_neg hx]
    clear hx
    go_enter Tryd.func48, Tryd.ntmps48
    go_wp2
    go_loopw [8] (fun v8 wr => (v8 = .int .i64 0) ∧ wr = w) (fun v8 _ => 2 - (RowKit.intOf v8).toNat)
    case atStart => exact ⟨rfl, rfl⟩
    case round =>
      obtain ⟨rfl, rfl⟩ := hrel
      go_wp2
      go_ret
      exact ⟨rfl, rfl⟩
/-- which of two ballots is less -/
def Sm.cmpB (r p r2 p2 : Int) : Int := orI (cmpI r r2) (cmpI p p2)
set_option maxHeartbeats 2000000 in
theorem Sm.Compare_any (r p r2 p2 : Int) (w : World) : Calls Tryd.prog 36 #[.agg #[.int .i64 r, .int .i64 p], .agg #[.int .i64 r2, .int .i64 p2]] w fun e w' => e = .returned (.int .i64 (cmpB r p r2 p2)) ∧ Below w.heap.size w w' := by
  have h1 := fun W => cmp37 r r2 W
  have h2 := fun W => cmp38 p p2 W
  have h3 := fun (W : World) (x y : Int) => or36 W.heap.size x y (W.alloc (.cells #[.int .i64 x, .int .i64 y] 3)).drew (World.alloc_heap_new W _)
  unfold cmpB
  obtain ⟨x, hx⟩ : ∃ x, cmpI r r2 = x := ⟨_, rfl⟩
  obtain ⟨y, hy⟩ : ∃ x, cmpI p p2 = x := ⟨_, rfl⟩
  rw [hx] at h1 ⊢
  rw [hy] at h2 ⊢
  clear hx hy
  obtain ⟨w1, hw1⟩ : ∃ v, (w.alloc (.cells #[.int .i64 r, .int .i64 p] 36)).alloc (.cells #[.int .i64 r2, .int .i64 p2] 36) = v := ⟨_, rfl⟩
  have hb1 : Below w.heap.size w w1 := by rw [← hw1]; exact ((Below.refl _ w).alloc (Nat.le_refl _) _).alloc (by simp) _
  have q0 : w1.heap[w.heap.size]? = some (.cells #[.int .i64 r, .int .i64 p] 36 (0, 0)) := by
    rw [← hw1]; exact (Below.heap_alloc _ _ _ (by simp)).trans (World.alloc_heap_new w _)
  have q1 : w1.heap[w.heap.size + 1]? = some (.cells #[.int .i64 r2, .int .i64 p2] 36 (0, 0)) := by
    rw [← hw1]; have := World.alloc_heap_new (w.alloc (.cells #[.int .i64 r, .int .i64 p] 36)) (.cells #[.int .i64 r2, .int .i64 p2] 36); rwa [World.size_alloc] at this
  have HS : Hid (∀ W, Below w1.heap.size w1 W → W.cell? ⟨w.heap.size, 0, none⟩ = some (.int .i64 r) ∧ W.cell? ⟨w.heap.size, 1, none⟩ = some (.int .i64 p) ∧ W.cell? ⟨w.heap.size + 1, 0, none⟩ = some (.int .i64 r2) ∧ W.cell? ⟨w.heap.size + 1, 1, none⟩ = some (.int .i64 p2)) := Lib.hid fun W hb => by
    have hl0 := (Array.getElem?_eq_some_iff.1 q0).1
    have hl1 := (Array.getElem?_eq_some_iff.1 q1).1
    exact ⟨cell_keep hb hl0 (cell_of_heap q0 0), cell_keep hb hl0 (cell_of_heap q0 1), cell_keep hb hl1 (cell_of_heap q1 0), cell_keep hb hl1 (cell_of_heap q1 1)⟩
  have z0 := HS.out w1 (Below.refl _ _)
  have HB1 := Lib.hid hb1
  clear hb1 q0 q1
  go_enter Tryd.func36, Tryd.ntmps36
  go_upto_region 1 with fail
  clear hw1
  go_region_held_law (fun W => W.cell? ⟨w.heap.size, 0, none⟩ = some (.int .i64 r) ∧ W.cell? ⟨w.heap.size, 1, none⟩ = some (.int .i64 p) ∧ W.cell? ⟨w.heap.size + 1, 0, none⟩ = some (.int .i64 r2) ∧ W.cell? ⟨w.heap.size + 1, 1, none⟩ = some (.int .i64 p2))
    (first | exact z0 | (refine HS.out _ ?_; repeat' (first | exact Below.refl _ _ | refine Below.drew ?_ | refine Below.alloc ?_ ?_ _ | (simp; done) | (simp; omega) | omega)))
    (first
      | (go_at_call 49; (with_reducible refine (h1 _).mono ?_); rintro e w' ⟨rfl, rfl⟩)
      | (go_at_call 50; (with_reducible refine (h2 _).mono ?_); rintro e w' ⟨rfl, rfl⟩)
      | (go_at_call 48; (with_reducible refine (h3 _ _ _).mono ?_); rintro e w' ⟨rfl, rfl⟩))
  all_goals
    go_wp2
    go_ret
    exact ⟨rfl, HB1.out.trans ((((Below.refl _ _).alloc (Nat.le_refl _) _).drew).mono HB1.out.size)⟩
end Go.Proofs
