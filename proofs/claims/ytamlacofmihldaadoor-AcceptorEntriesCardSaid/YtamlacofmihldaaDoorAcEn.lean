/-
  acceptor: the walk of AcceptorEntries. Conditions: as the theorem names them.
-/
import Derived.Test.YtamlacofmihldaaDoorMe
import Derived.Test.YtamlacofmihldaaDoorAcP
namespace Go.Proofs
open Go Go.RowKit Sm Go.Lib
attribute [local go_sem] Oper.semAt_some
set_option maxRecDepth 100000 in
set_option maxHeartbeats 2000000 in
theorem Sm.entries_law (k m n : Int) (t : ByteArray) (w : World) (hk : I64 k) (ht : t.size ≤ 9223372036854775807) (hL : LaysT w) : Calls Tryd.prog 3 #[.agg #[.int .i64 k, .int .i64 m, .int .i64 n, .string t]] w fun e w' => e = .returned (.bool true) ∧ Below w.heap.size w w' := by
  have hb1 : Below w.heap.size w (w.alloc (.cells #[.int .i64 k, .int .i64 m, .int .i64 n, .string t] 24)) := (Below.refl _ w).alloc (Nat.le_refl _) _
  have hS := ent_box w (.int .i64 k) (.int .i64 m) (.int .i64 n) (.string t) 24
  obtain ⟨w1, hw1⟩ : ∃ v, w.alloc (.cells #[.int .i64 k, .int .i64 m, .int .i64 n, .string t] 24) = v := ⟨_, rfl⟩
  have hz1 : w.heap.size + 1 = w1.heap.size := by rw [← hw1]; simp
  rw [hw1, hz1] at hS
  rw [hw1] at hb1
  have hL1 := hL.keep hb1
  have HW : Hid (∀ W, Below w1.heap.size w1 W → Calls Tryd.prog 6 #[] W fun e w' => e = .returned (.bool true) ∧ Below w1.heap.size w1 w') := Lib.hid fun W hb => (works_any W (hL1.keep hb)).mono fun e w' ⟨h1, h2⟩ => ⟨h1, hb.trans (h2.mono hb.size)⟩
  have hlg := elong_any k m n t w1 ht
  have HS := Lib.hid hS
  have HB1 := Lib.hid hb1
  have z0 := HS.out _ (Below.refl _ _)
  by_cases hlong : 300 < t.size
  · rw [decide_eq_true hlong] at hlg
    obtain ⟨y0, y1, y2, y3⟩ := z0
    clear hS hb1 hz1 hL hL1 hlong
    go_enter Tryd.func3, Tryd.ntmps3
    go_wp2_with (first
      | (go_at_call 5; (with_reducible refine hlg.mono ?_); clear hlg; rintro e w2 ⟨rfl, hb2⟩)
      | (go_at_call 6; (with_reducible refine (HW.out _ hb2).mono ?_); clear HW; rintro e w3 ⟨rfl, hb3⟩))
    go_ret
    exact ⟨rfl, HB1.out.trans (hb3.mono HB1.out.size)⟩
  · rw [decide_eq_false hlong] at hlg
    have H7 : Hid (∀ W, Below w1.heap.size w1 W → Calls Tryd.prog 7 #[.agg #[.int .i64 k, .int .i64 m, .int .i64 n, .string t]] W fun e w' => e = .returned (.bool (entB k m n t)) ∧ Below w1.heap.size w1 w') := Lib.hid fun W hb => (right_any k m n t W hk (by omega) (hL1.keep hb)).mono fun e w' ⟨h1, h2⟩ => ⟨h1, hb.trans (h2.mono hb.size)⟩
    have H8 : Hid (∀ W, Below w1.heap.size w1 W → Calls Tryd.prog 8 #[.agg #[.int .i64 k, .int .i64 m, .int .i64 n, .string t]] W fun e w' => e = .returned (.bool (entB k m n t)) ∧ Below w1.heap.size w1 w') := Lib.hid fun W hb => (entry_any k m n t W (by omega)).mono fun e w' ⟨h1, h2⟩ => ⟨h1, hb.trans (h2.mono hb.size)⟩
    obtain ⟨b, hb⟩ : ∃ b, entB k m n t = b := ⟨_, rfl⟩
    rw [hb] at H7 H8
    obtain ⟨y0, y1, y2, y3⟩ := z0
    clear hS hb1 hz1 hL hL1 hlong hb
    cases b
    all_goals
      go_enter Tryd.func3, Tryd.ntmps3
      go_upto_region 3 with (go_at_call 5; (with_reducible refine hlg.mono ?_); clear hlg; rintro e w2 ⟨rfl, hb2⟩; have z2 := HS.out _ hb2)
      clear hw1 y0 y1 y2 y3
      go_region_held_law (fun W => W.cell? ⟨w.heap.size, 0, none⟩ = some (.int .i64 k) ∧ W.cell? ⟨w.heap.size, 1, none⟩ = some (.int .i64 m) ∧ W.cell? ⟨w.heap.size, 2, none⟩ = some (.int .i64 n) ∧ W.cell? ⟨w.heap.size, 3, none⟩ = some (.string t))
        (first | with_reducible exact z2 | (refine HS.out _ ?_; (first | with_reducible assumption | with_reducible exact Below.drew (by assumption))))
        (first
          | (go_at_call 7; (with_reducible refine (H7.out _ (by with_reducible exact Below.drew (by assumption))).mono ?_); clear H7; rintro e w3 ⟨rfl, hb3⟩)
          | (go_at_call 8; (with_reducible refine (H8.out _ hb3).mono ?_); clear H8; rintro e w4 ⟨rfl, hb4⟩)
          | (go_at_call 6; (with_reducible refine (HW.out _ hb4).mono ?_); clear HW; rintro e w5 ⟨rfl, hb5⟩))
      all_goals
        go_wp2
        go_ret
        exact ⟨rfl, HB1.out.trans (hb5.mono HB1.out.size)⟩
end Go.Proofs
