/-
  slots: what is asked for; Check, Majority. Conditions: as each theorem names them.
-/
import Derived.Test.YtohidbkhccepnaaDoorSlB
namespace Go.Proofs
open Go Go.RowKit Sm Go.Lib
attribute [local go_sem] Oper.semAt_some
theorem Sm.answer_no (x : Int) (v : Value) (w : World) (h : x ≠ 0) : Calls Tryd.prog 24 #[.int .i64 x, v] w fun e w' => e = .returned (.tuple #[.int .i64 0, .int .i64 x]) ∧ w = w' := by
  have h2 : (x != 0) = true := by simpa using h
  clear h
  go_enter Tryd.func24, Tryd.ntmps24
  go_wp2
  go_ret2
  exact ⟨rfl, rfl⟩
theorem Sm.answer_ok (f : Nat) (lb : Array Value) (eg : ∀ args w, (callFunc f args).run Tryd.prog w = .ok (.enter f args) w) (v : Int) (w : World) (h : Calls Tryd.prog f lb w fun e w' => e = .returned (.int .i64 v) ∧ w = w') :
    Calls Tryd.prog 24 #[.int .i64 0, .func (.func f) #[] lb] w fun e w' => e = .returned (.tuple #[.int .i64 v, .int .i64 0]) ∧ w = w' := by
  go_enter Tryd.func24, Tryd.ntmps24
  go_wp2_with fail
  refine h.mono ?_
  rintro e w' ⟨rfl, rfl⟩
  go_wp2
  go_ret2
  exact ⟨rfl, rfl⟩
theorem Sm.answer_ok2 (f : Nat) (lb : Array Value) (eg : ∀ args w, (callFunc f args).run Tryd.prog w = .ok (.enter f args) w) (v : Int) (w : World) (h : Calls Tryd.prog f lb w fun e w' => e = .returned (.int .i64 v) ∧ Below w.heap.size w w') :
    Calls Tryd.prog 24 #[.int .i64 0, .func (.func f) #[] lb] w fun e w' => e = .returned (.tuple #[.int .i64 v, .int .i64 0]) ∧ Below w.heap.size w w' := by
  go_enter Tryd.func24, Tryd.ntmps24
  go_wp2_with fail
  refine h.mono ?_
  rintro e w' ⟨rfl, hb⟩
  go_wp2
  go_ret2
  exact ⟨rfl, hb⟩
theorem Sm.refM_nil (c : Int) : refM c [] [] = if chB c = true then 0 else 2 := by
  unfold refM
  cases h : chB c <;> rfl
theorem Sm.Check_any (c : Int) (w : World) : Calls Tryd.prog 41 #[.int .i64 c] w fun e w' => e = .returned (.int .i64 (if chB c = true then 0 else 2)) ∧ Below w.heap.size w w' := by
  have h1 := refusal_any c none 0 0 [] w (RowB.nil w)
  have h2 : ∀ (a b : Nat) W, RefAt W a b c [] → _ := fun a b W h => told_any c [] [] a b 0 0 none W h (RowB.nil W)
  rw [refM_nil] at h2
  obtain ⟨m, hm⟩ : ∃ m : Int, (if chB c = true then (0 : Int) else 2) = m := ⟨_, rfl⟩
  rw [hm] at h2 ⊢
  have H2 := Lib.hid h2
  clear hm h2
  go_enter Tryd.func41, Tryd.ntmps41
  go_wp2_with (first | (go_at_call 25; (with_reducible refine h1.mono ?_); rintro e w' ⟨a, b, rfl, hr, hb⟩) | (go_at_call 36; refine (H2.out _ _ _ hr).mono ?_; rintro e w' ⟨rfl, rfl⟩))
  go_ret
  exact ⟨rfl, hb⟩
end Go.Proofs
