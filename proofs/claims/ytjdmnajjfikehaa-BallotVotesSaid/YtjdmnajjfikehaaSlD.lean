/-
  slots: Majority, Owner, Turn. Conditions: as each theorem names them.
-/
import Derived.Test.YtjdmnajjfikehaaSlC
namespace Go.Proofs
open Go Go.RowKit Sm Go.Lib
attribute [local go_sem] Oper.semAt_some
theorem Sm.box_cell (w : World) (v : Value) (t : TypeId) : (w.alloc (.cells #[v] t)).cell? ⟨w.heap.size, 0, none⟩ = some v := cell_of_heap (World.alloc_heap_new w _) 0
theorem Sm.cell_keep {w W : World} {b i : Nat} {v : Value} (hb : Below w.heap.size w W) (hl : b < w.heap.size) (h : w.cell? ⟨b, i, none⟩ = some v) : W.cell? ⟨b, i, none⟩ = some v := (hb.cell (p := ⟨b, i, none⟩) hl).trans h
theorem Sm.f30_any (b : Nat) (c : Int) (w : World) (hc : w.cell? ⟨b, 0, none⟩ = some (.int .i64 c)) (h : chB c = true) : Calls Try.prog 63 #[.pointer (some ⟨b, 0, none⟩)] w fun e w' => e = .returned (.int .i64 (c / 2 + 1)) ∧ w = w' := by
  rcases chB_iff.1 h with rfl | rfl | rfl | rfl
  all_goals
    go_enter Try.func63, Try.ntmps63
    go_wp2
    go_ret
    exact ⟨rfl, rfl⟩
theorem Sm.f33_any (b d : Nat) (s c : Int) (w : World) (hs : w.cell? ⟨b, 0, none⟩ = some (.int .i64 s)) (hc : w.cell? ⟨d, 0, none⟩ = some (.int .i64 c)) (h : chB c = true) (h0 : 0 ≤ s) (h1 : s ≤ 4095) : Calls Try.prog 61 #[.pointer (some ⟨b, 0, none⟩), .pointer (some ⟨d, 0, none⟩)] w fun e w' => e = .returned (.int .i64 (s % c)) ∧ w = w' := by
  rcases chB_iff.1 h with rfl | rfl | rfl | rfl
  all_goals
    go_enter Try.func61, Try.ntmps61
    go_wp2
    go_ret
    exact ⟨by rfl, rfl⟩
/-- the majority of a choir -/
def Sm.majV (c : Int) : Int := if chB c = true then c / 2 + 1 else 0
theorem Sm.Majority_any (c : Int) (w : World) : Calls Try.prog 51 #[.int .i64 c] w fun e w' => e = .returned (.tuple #[.int .i64 (majV c), .int .i64 (if chB c = true then 0 else 2)]) ∧ Below w.heap.size w w' := by
  have h1 := fun W => Check_any c W
  have hb0 : Below w.heap.size w (w.alloc (.cells #[.int .i64 c] 0x1b)) := (Below.refl _ w).alloc (Nat.le_refl _) _
  have h2 := fun W (hw : W.cell? ⟨w.heap.size, 0, none⟩ = some (.int .i64 c)) => f30_any w.heap.size c W hw
  have c0 := box_cell w (.int .i64 c) 0x1b
  have HK : ∀ W, Below (w.alloc (.cells #[.int .i64 c] 0x1b)).heap.size (w.alloc (.cells #[.int .i64 c] 0x1b)) W → W.cell? ⟨w.heap.size, 0, none⟩ = some (.int .i64 c) := fun W hb => cell_keep hb (by simp) c0
  unfold majV
  cases hc : chB c with
  | true =>
    have h3 : ∀ W, W.cell? ⟨w.heap.size, 0, none⟩ = some (.int .i64 c) → Calls Try.prog 58 #[.int .i64 0, .func (.func 63) #[] #[.pointer (some ⟨w.heap.size, 0, none⟩)]] W fun e w' => e = .returned (.tuple #[.int .i64 (c / 2 + 1), .int .i64 0]) ∧ W = w' :=
      fun W hw => answer_ok 63 _ (enters_of Try.func63 (by kernel_rfl) rfl) _ W (h2 W hw hc)
    have H3 := Lib.hid h3
    have HK := Lib.hid HK
    rw [hc] at h1
    simp only [if_true] at h1 ⊢
    clear h2 h3 hc
    go_enter Try.func51, Try.ntmps51
    go_wp2_with (first | (go_at_call 46; (with_reducible refine (h1 _).mono ?_); rintro e w1 ⟨rfl, hb1⟩; have c1 := HK.out w1 hb1) | (go_at_call 58; refine (H3.out _ c1).mono ?_; rintro e w' ⟨rfl, rfl⟩))
    go_ret2
    exact ⟨rfl, hb0.trans (hb1.mono hb0.size)⟩
  | false =>
    have h3 : ∀ v W, Calls Try.prog 58 #[.int .i64 2, v] W fun e w' => e = .returned (.tuple #[.int .i64 0, .int .i64 2]) ∧ W = w' := fun v W => answer_no 2 v W (by decide)
    have H3 := Lib.hid h3
    rw [hc] at h1
    simp only [if_neg Bool.false_ne_true] at h1 ⊢
    clear h2 h3 hc HK c0
    go_enter Try.func51, Try.ntmps51
    go_wp2_with (first | (go_at_call 46; (with_reducible refine (h1 _).mono ?_); rintro e w1 ⟨rfl, hb1⟩) | (go_at_call 58; refine (H3.out _ _).mono ?_; rintro e w' ⟨rfl, rfl⟩))
    go_ret2
    exact ⟨rfl, hb0.trans (hb1.mono hb0.size)⟩
end Go.Proofs
