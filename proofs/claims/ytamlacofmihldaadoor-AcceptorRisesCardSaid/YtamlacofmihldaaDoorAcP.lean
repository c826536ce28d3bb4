/-
  acceptor: the document's Entry. Conditions: as each theorem names them.
-/
import Derived.Test.YtamlacofmihldaaDoorAcD
import Derived.Test.YtamlacofmihldaaDoorAcE
import Derived.Test.YtamlacofmihldaaDoorTxCk
namespace Go.Proofs
open Go Go.RowKit Sm Go.Lib
attribute [local go_sem] Oper.semAt_some
set_option maxRecDepth 100000 in
set_option maxHeartbeats 2000000 in
theorem Sm.entry1 (m n : Int) (t : ByteArray) (w : World) : Calls Tryd.prog 8 #[.agg #[.int .i64 1, .int .i64 m, .int .i64 n, .string t]] w fun e w' => e = .returned (.bool (decide (m = 0 ∧ n = 0 ∧ t = ⟨#[]⟩))) ∧ Below w.heap.size w w' := by
  have hb1 : Below w.heap.size w (w.alloc (.cells #[.int .i64 1, .int .i64 m, .int .i64 n, .string t] 24)) := (Below.refl _ w).alloc (Nat.le_refl _) _
  have hS := ent_box w (.int .i64 1) (.int .i64 m) (.int .i64 n) (.string t) 24
  obtain ⟨w1, hw1⟩ : ∃ v, w.alloc (.cells #[.int .i64 1, .int .i64 m, .int .i64 n, .string t] 24) = v := ⟨_, rfl⟩
  have hz1 : w.heap.size + 1 = w1.heap.size := by rw [← hw1]; simp
  rw [hw1, hz1] at hS
  rw [hw1] at hb1
  obtain ⟨z0, z1, z2, z3⟩ := hS _ (Below.refl _ _)
  have HB1 := Lib.hid hb1
  clear hS hb1 hz1
  have h1 := fun W => eql34 W 1 1 m 0 n 0 t ⟨#[]⟩
  simp only [true_and] at h1
  obtain ⟨x, hx⟩ : ∃ x, decide (m = 0 ∧ n = 0 ∧ t = ⟨#[]⟩) = x := ⟨_, rfl⟩
  rw [hx] at h1 ⊢
  clear hx
  by_cases hm0 : 0 ≤ m
  · by_cases hm1 : m < 16
    · go_enter Tryd.func8, Tryd.ntmps8
      go_wp2
      go_ret
      exact ⟨rfl, HB1.out⟩
    · go_enter Tryd.func8, Tryd.ntmps8
      go_wp2
      go_ret
      exact ⟨rfl, HB1.out⟩
  · go_enter Tryd.func8, Tryd.ntmps8
    go_wp2
    go_ret
    exact ⟨rfl, HB1.out⟩
set_option maxRecDepth 100000 in
set_option maxHeartbeats 2000000 in
theorem Sm.entry2 (m n : Int) (t : ByteArray) (w : World) : Calls Tryd.prog 8 #[.agg #[.int .i64 2, .int .i64 m, .int .i64 n, .string t]] w fun e w' => e = .returned (.bool (mbB m && decide (n = 0 ∧ t = ⟨#[]⟩))) ∧ Below w.heap.size w w' := by
  have hb1 : Below w.heap.size w (w.alloc (.cells #[.int .i64 2, .int .i64 m, .int .i64 n, .string t] 24)) := (Below.refl _ w).alloc (Nat.le_refl _) _
  have hS := ent_box w (.int .i64 2) (.int .i64 m) (.int .i64 n) (.string t) 24
  obtain ⟨w1, hw1⟩ : ∃ v, w.alloc (.cells #[.int .i64 2, .int .i64 m, .int .i64 n, .string t] 24) = v := ⟨_, rfl⟩
  have hz1 : w.heap.size + 1 = w1.heap.size := by rw [← hw1]; simp
  rw [hw1, hz1] at hS
  rw [hw1] at hb1
  obtain ⟨z0, z1, z2, z3⟩ := hS _ (Below.refl _ _)
  have HB1 := Lib.hid hb1
  clear hS hb1 hz1
  have h1 := fun W => eql34 W 2 2 m m n 0 t ⟨#[]⟩
  simp only [true_and] at h1
  have hM : mbB m = (decide (0 ≤ m) && decide (m < 16)) := by unfold mbB; congr 1; exact decide_eq_decide.2 (by omega)
  rw [hM]
  obtain ⟨x, hx⟩ : ∃ x, decide (n = 0 ∧ t = ⟨#[]⟩) = x := ⟨_, rfl⟩
  rw [hx] at h1 ⊢
  clear hx hM
  by_cases hm0 : 0 ≤ m
  · by_cases hm1 : m < 16
    · go_enter Tryd.func8, Tryd.ntmps8
      go_wp2
      go_ret
      exact ⟨by simp [hm0, hm1], HB1.out⟩
    · go_enter Tryd.func8, Tryd.ntmps8
      go_wp2
      go_ret
      exact ⟨by simp; intros; omega, HB1.out⟩
  · go_enter Tryd.func8, Tryd.ntmps8
    go_wp2
    go_ret
    exact ⟨by simp; intros; omega, HB1.out⟩
set_option maxRecDepth 100000 in
set_option maxHeartbeats 2000000 in
theorem Sm.entry3 (m n : Int) (t : ByteArray) (w : World) : Calls Tryd.prog 8 #[.agg #[.int .i64 3, .int .i64 m, .int .i64 n, .string t]] w fun e w' => e = .returned (.bool (mbB m && decide (n = 0 ∧ t = ⟨#[]⟩))) ∧ Below w.heap.size w w' := by
  have hb1 : Below w.heap.size w (w.alloc (.cells #[.int .i64 3, .int .i64 m, .int .i64 n, .string t] 24)) := (Below.refl _ w).alloc (Nat.le_refl _) _
  have hS := ent_box w (.int .i64 3) (.int .i64 m) (.int .i64 n) (.string t) 24
  obtain ⟨w1, hw1⟩ : ∃ v, w.alloc (.cells #[.int .i64 3, .int .i64 m, .int .i64 n, .string t] 24) = v := ⟨_, rfl⟩
  have hz1 : w.heap.size + 1 = w1.heap.size := by rw [← hw1]; simp
  rw [hw1, hz1] at hS
  rw [hw1] at hb1
  obtain ⟨z0, z1, z2, z3⟩ := hS _ (Below.refl _ _)
  have HB1 := Lib.hid hb1
  clear hS hb1 hz1
  have h1 := fun W => eql34 W 3 3 m m n 0 t ⟨#[]⟩
  simp only [true_and] at h1
  have hM : mbB m = (decide (0 ≤ m) && decide (m < 16)) := by unfold mbB; congr 1; exact decide_eq_decide.2 (by omega)
  rw [hM]
  obtain ⟨x, hx⟩ : ∃ x, decide (n = 0 ∧ t = ⟨#[]⟩) = x := ⟨_, rfl⟩
  rw [hx] at h1 ⊢
  clear hx hM
  by_cases hm0 : 0 ≤ m
  · by_cases hm1 : m < 16
    · go_enter Tryd.func8, Tryd.ntmps8
      go_wp2
      go_ret
      exact ⟨by simp [hm0, hm1], HB1.out⟩
    · go_enter Tryd.func8, Tryd.ntmps8
      go_wp2
      go_ret
      exact ⟨by simp; intros; omega, HB1.out⟩
  · go_enter Tryd.func8, Tryd.ntmps8
    go_wp2
    go_ret
    exact ⟨by simp; intros; omega, HB1.out⟩
set_option maxRecDepth 100000 in
set_option maxHeartbeats 2000000 in
theorem Sm.entry4 (m n : Int) (t : ByteArray) (w : World) (ht : t.size ≤ 1000000) : Calls Tryd.prog 8 #[.agg #[.int .i64 4, .int .i64 m, .int .i64 n, .string t]] w fun e w' => e = .returned (.bool (mbB m && (decide (1 ≤ n) && decide (n ≤ 2147483647)) && decide (checkN t = 0))) ∧ Below w.heap.size w w' := by
  have hb1 : Below w.heap.size w (w.alloc (.cells #[.int .i64 4, .int .i64 m, .int .i64 n, .string t] 24)) := (Below.refl _ w).alloc (Nat.le_refl _) _
  have hS := ent_box w (.int .i64 4) (.int .i64 m) (.int .i64 n) (.string t) 24
  obtain ⟨w1, hw1⟩ : ∃ v, w.alloc (.cells #[.int .i64 4, .int .i64 m, .int .i64 n, .string t] 24) = v := ⟨_, rfl⟩
  have hz1 : w.heap.size + 1 = w1.heap.size := by rw [← hw1]; simp
  rw [hw1, hz1] at hS
  rw [hw1] at hb1
  obtain ⟨z0, z1, z2, z3⟩ := hS _ (Below.refl _ _)
  have HB1 := Lib.hid hb1
  clear hS hb1 hz1
  have hC := refCheck_any t w1 ht
  have hM : mbB m = (decide (0 ≤ m) && decide (m < 16)) := by unfold mbB; congr 1; exact decide_eq_decide.2 (by omega)
  rw [hM]
  obtain ⟨q, hq⟩ : ∃ x, checkN t = x := ⟨_, rfl⟩
  rw [hq] at hC ⊢
  clear hq hM
  by_cases hm0 : 0 ≤ m
  · by_cases hm1 : m < 16
    · by_cases hn0 : 1 ≤ n
      · by_cases hn1 : n ≤ 2147483647
        · go_enter Tryd.func8, Tryd.ntmps8
          go_wp2_with (go_at_call 18; (with_reducible refine hC.mono ?_); rintro e w2 ⟨rfl, hb2⟩)
          go_ret
          exact ⟨by simp [hm0, hm1, hn0, hn1]; rfl, HB1.out.trans (hb2.mono HB1.out.size)⟩
        · go_enter Tryd.func8, Tryd.ntmps8
          go_wp2
          go_ret
          exact ⟨by simp; intros; omega, HB1.out⟩
      · go_enter Tryd.func8, Tryd.ntmps8
        go_wp2
        go_ret
        exact ⟨by simp; intros; omega, HB1.out⟩
    · go_enter Tryd.func8, Tryd.ntmps8
      go_wp2
      go_ret
      exact ⟨by simp; intros; omega, HB1.out⟩
  · go_enter Tryd.func8, Tryd.ntmps8
    go_wp2
    go_ret
    exact ⟨by simp; intros; omega, HB1.out⟩
set_option maxRecDepth 100000 in
set_option maxHeartbeats 2000000 in
theorem Sm.entry0 (k m n : Int) (t : ByteArray) (w : World) (h1 : k ≠ 1) (h2 : k ≠ 2) (h3 : k ≠ 3) (h4 : k ≠ 4) : Calls Tryd.prog 8 #[.agg #[.int .i64 k, .int .i64 m, .int .i64 n, .string t]] w fun e w' => e = .returned (.bool (false)) ∧ Below w.heap.size w w' := by
  have hb1 : Below w.heap.size w (w.alloc (.cells #[.int .i64 k, .int .i64 m, .int .i64 n, .string t] 24)) := (Below.refl _ w).alloc (Nat.le_refl _) _
  have hS := ent_box w (.int .i64 k) (.int .i64 m) (.int .i64 n) (.string t) 24
  obtain ⟨w1, hw1⟩ : ∃ v, w.alloc (.cells #[.int .i64 k, .int .i64 m, .int .i64 n, .string t] 24) = v := ⟨_, rfl⟩
  have hz1 : w.heap.size + 1 = w1.heap.size := by rw [← hw1]; simp
  rw [hw1, hz1] at hS
  rw [hw1] at hb1
  obtain ⟨z0, z1, z2, z3⟩ := hS _ (Below.refl _ _)
  have HB1 := Lib.hid hb1
  clear hS hb1 hz1
  have e1 : (k == 1) = false := by simpa using h1
  have e2 : (k == 2) = false := by simpa using h2
  have e3 : (k == 3) = false := by simpa using h3
  have e4 : (k == 4) = false := by simpa using h4
  clear h1 h2 h3 h4
  by_cases hm0 : 0 ≤ m
  · by_cases hm1 : m < 16
    · go_enter Tryd.func8, Tryd.ntmps8
      go_wp2
      go_ret
      exact ⟨rfl, HB1.out⟩
    · go_enter Tryd.func8, Tryd.ntmps8
      go_wp2
      go_ret
      exact ⟨rfl, HB1.out⟩
  · go_enter Tryd.func8, Tryd.ntmps8
    go_wp2
    go_ret
    exact ⟨rfl, HB1.out⟩
theorem Sm.entry_any (k m n : Int) (t : ByteArray) (w : World) (ht : t.size ≤ 1000000) : Calls Tryd.prog 8 #[.agg #[.int .i64 k, .int .i64 m, .int .i64 n, .string t]] w fun e w' => e = .returned (.bool (entB k m n t)) ∧ Below w.heap.size w w' := by
  unfold entB
  by_cases h1 : k = 1
  · subst h1; exact entry1 m n t w
  · rw [if_neg h1]
    by_cases h2 : k = 2
    · subst h2; exact entry2 m n t w
    · by_cases h3 : k = 3
      · subst h3; exact entry3 m n t w
      · rw [if_neg (by omega)]
        by_cases h4 : k = 4
        · subst h4; exact entry4 m n t w ht
        · rw [if_neg h4]
          exact entry0 k m n t w h1 h2 h3 h4
end Go.Proofs
