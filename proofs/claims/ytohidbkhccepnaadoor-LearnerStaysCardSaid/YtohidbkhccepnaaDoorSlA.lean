/-
  slots: numbers that are bounded, truths of which one holds. Conditions: as each theorem names them.
-/
import Derived.LoopTactic
import Derived.Deep.CutRange
import Derived.Deep.DeepCutAuto
import Derived.Deep.RegionHeldLaw
import Derived.Deep.RegionWith
import Derived.Lib.MinMax
import Derived.Test.YtohidbkhccepnaaDoorProg
import Derived.Test.YtohidbkhccepnaaDoorWBut
import Derived.Test.YtohidbkhccepnaaDoorItr1
namespace Go.Proofs
open Go Go.RowKit Sm Go.Lib
attribute [local go_sem] Oper.semAt_some
/-- a number, or the bound that is nearest -/
def Sm.bndI (a x b : Int) : Int := min (max x a) b
theorem Sm.bnd54 (a x b : Int) (w : World) : Calls Tryd.prog 60 #[.int .i64 a, .int .i64 x, .int .i64 b] w fun e w' => e = .returned (.int .i64 (bndI a x b)) ∧ w = w' := by
  go_enter Tryd.func60, Tryd.ntmps60
  go_wp2
  go_ret
  exact ⟨rfl, rfl⟩
theorem Sm.bnd39 (a x b : Int) (w : World) : Calls Tryd.prog 51 #[.int .i64 a, .int .i64 x, .int .i64 b] w fun e w' => e = .returned (.int .i64 (bndI a x b)) ∧ w = w' := by
  go_enter Tryd.func51, Tryd.ntmps51
  go_wp2
  go_ret
  exact ⟨rfl, rfl⟩
def Sm.wiI (a x b : Int) : Bool := bndI a x b == x
theorem Sm.wi52 (a x b : Int) (w : World) : Calls Tryd.prog 50 #[.int .i64 a, .int .i64 x, .int .i64 b] w fun e w' => e = .returned (.bool (wiI a x b)) ∧ w = w' := by
  have h := bnd54 a x b w
  unfold wiI
  obtain ⟨m, hm⟩ : ∃ m, bndI a x b = m := ⟨_, rfl⟩
  rw [hm] at h ⊢
  clear hm
  go_enter Tryd.func50, Tryd.ntmps50
  go_wp2_with (go_at_call 60; (with_reducible refine h.mono ?_); rintro e w' ⟨rfl, rfl⟩)
  go_ret
  exact ⟨by simp, rfl⟩
theorem Sm.wi50 (a x b : Int) (w : World) : Calls Tryd.prog 39 #[.int .i64 a, .int .i64 x, .int .i64 b] w fun e w' => e = .returned (.bool (wiI a x b)) ∧ w = w' := by
  have h := bnd39 a x b w
  unfold wiI
  obtain ⟨m, hm⟩ : ∃ m, bndI a x b = m := ⟨_, rfl⟩
  rw [hm] at h ⊢
  clear hm
  go_enter Tryd.func39, Tryd.ntmps39
  go_wp2_with (go_at_call 51; (with_reducible refine h.mono ?_); rintro e w' ⟨rfl, rfl⟩)
  go_ret
  exact ⟨by simp, rfl⟩
/-- may a choir be -/
def Sm.chB (c : Int) : Bool := decide (c = 3) || decide (c = 5) || decide (c = 7) || decide (c = 9)
theorem Sm.chB_iff {c : Int} : chB c = true ↔ c = 3 ∨ c = 5 ∨ c = 7 ∨ c = 9 := by
  unfold chB
  simp only [Bool.or_eq_true, decide_eq_true_eq, or_assoc]
theorem Sm.wiI_iff {a x b : Int} (h : a ≤ b) : wiI a x b = true ↔ a ≤ x ∧ x ≤ b := by
  unfold wiI bndI
  simp only [beq_iff_eq]
  omega
theorem Sm.isChoir (c : Int) (w : World) : Calls Tryd.prog 37 #[.int .i64 c] w fun e w' => e = .returned (.bool (chB c)) ∧ w = w' := by
  have h := wi52 3 c 9 w
  have hw := wiI_iff (a := 3) (x := c) (b := 9) (by decide)
  by_cases h1 : 3 ≤ c ∧ c ≤ 9
  · rw [hw.2 h1] at h
    clear hw
    have hc : c = 3 ∨ c = 4 ∨ c = 5 ∨ c = 6 ∨ c = 7 ∨ c = 8 ∨ c = 9 := by omega
    rcases hc with rfl | rfl | rfl | rfl | rfl | rfl | rfl
    all_goals
      go_enter Tryd.func37, Tryd.ntmps37
      go_wp2_with (go_at_call 50; (with_reducible refine h.mono ?_); rintro e w' ⟨rfl, rfl⟩)
      go_ret
      exact ⟨rfl, rfl⟩
  · rw [show wiI 3 c 9 = false by rw [Bool.eq_false_iff]; exact fun e => h1 (hw.1 e)] at h
    have hc : chB c = false := by
      rw [Bool.eq_false_iff]
      intro e
      have := chB_iff.1 e
      omega
    rw [hc]
    clear hw h1 hc
    go_enter Tryd.func37, Tryd.ntmps37
    go_wp2_with (go_at_call 50; (with_reducible refine h.mono ?_); rintro e w' ⟨rfl, rfl⟩)
    go_ret
    exact ⟨rfl, rfl⟩
def Sm.slB (s : Int) : Bool := wiI 0 s 4095
theorem Sm.slB_iff {s : Int} : slB s = true ↔ 0 ≤ s ∧ s ≤ 4095 := wiI_iff (by decide)
theorem Sm.isSlot (s : Int) (w : World) : Calls Tryd.prog 26 #[.int .i64 s] w fun e w' => e = .returned (.bool (slB s)) ∧ w = w' := by
  have h := wi50 0 s 4095 w
  unfold slB
  obtain ⟨m, hm⟩ : ∃ m, wiI 0 s 4095 = m := ⟨_, rfl⟩
  rw [hm] at h ⊢
  clear hm
  go_enter Tryd.func26, Tryd.ntmps26
  go_wp2_with (go_at_call 39; (with_reducible refine h.mono ?_); rintro e w' ⟨rfl, rfl⟩)
  go_ret
  exact ⟨rfl, rfl⟩
def Sm.plB (c p : Int) : Bool := wiI 0 p (wrap64 (c - 1))
end Go.Proofs
