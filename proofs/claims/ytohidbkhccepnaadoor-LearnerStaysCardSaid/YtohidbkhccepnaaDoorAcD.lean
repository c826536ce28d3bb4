/-
  acceptor: which entries may be. Conditions: as each theorem names them.
-/
import Derived.Maps.OwnSet
import Derived.Carry
import Derived.Test.YtohidbkhccepnaaDoorMf
namespace Go.Proofs
open Go Go.RowKit Sm Go.Lib Go.Maps Go.WideMaps
attribute [local go_sem] Oper.semAt_some
/-- may an entry be -/
def Sm.entB (k m n : Int) (t : ByteArray) : Bool :=
  if k = 1 then decide (m = 0 ∧ n = 0 ∧ t = ⟨#[]⟩) else if k = 2 ∨ k = 3 then mbB m && decide (n = 0 ∧ t = ⟨#[]⟩) else if k = 4 then mbB m && (decide (1 ≤ n) && decide (n ≤ 2147483647)) && decide (checkN t = 0) else false
set_option maxRecDepth 100000 in
set_option maxHeartbeats 2000000 in
theorem Sm.right1 (m n : Int) (t : ByteArray) (w : World) : Calls Tryd.prog 22 #[.agg #[.int .i64 1, .int .i64 m, .int .i64 n, .string t]] w fun e w' => e = .returned (.bool (decide (m = 0 ∧ n = 0 ∧ t = ⟨#[]⟩))) ∧ Below w.heap.size w w' := by
  have hb1 : Below w.heap.size w (w.alloc (.cells #[.int .i64 1, .int .i64 m, .int .i64 n, .string t] 33)) := (Below.refl _ w).alloc (Nat.le_refl _) _
  have hS := ent_box w (.int .i64 1) (.int .i64 m) (.int .i64 n) (.string t) 33
  obtain ⟨w1, hw1⟩ : ∃ v, w.alloc (.cells #[.int .i64 1, .int .i64 m, .int .i64 n, .string t] 33) = v := ⟨_, rfl⟩
  have hz1 : w.heap.size + 1 = w1.heap.size := by rw [← hw1]; simp
  rw [hw1, hz1] at hS
  rw [hw1] at hb1
  have kq : Calls Tryd.prog 35 #[] w1.drew (fun e w' => ∃ b, e = .returned (.map (some b)) ∧ Below w1.heap.size w1 w' ∧ (Instr.lookup 81 (.map (some b)) (.int .i64 1) true).run Tryd.prog w' = .ok (.tuple #[.func (.func 47) #[] #[], .bool true]) w') :=
    (makings_any w1.drew).mono fun e w' ⟨b, he, ho, hb⟩ => by
      obtain ⟨v, h1, h2⟩ := mk_look w' b ho 1 (by unfold I64; omega)
      obtain rfl := h2.1 rfl
      exact ⟨b, he, (Below.refl _ w1).drew.trans hb, h1⟩
  have HC : Hid (∀ W, Below w1.heap.size w1 W → Calls Tryd.prog 47 #[.agg #[.int .i64 1, .int .i64 m, .int .i64 n, .string t]] W fun e w' => e = .returned (.bool (decide (m = 0 ∧ n = 0 ∧ t = ⟨#[]⟩))) ∧ Below w.heap.size w w') := Lib.hid fun W hW => (kind_any 1 m n t W).mono fun e w' ⟨e1, e2⟩ => ⟨e1, hb1.trans ((hW.trans (e2.mono hW.size)).mono hb1.size)⟩
  obtain ⟨x, hx⟩ : ∃ x, (decide (m = 0 ∧ n = 0 ∧ t = ⟨#[]⟩)) = x := ⟨_, rfl⟩
  rw [hx] at HC ⊢
  clear hx
  have HS := Lib.hid hS
  have HB1 := Lib.hid hb1
  have z0 := HS.out _ (Below.refl _ _)
  clear hS hb1 hz1
  go_enter Tryd.func22, Tryd.ntmps22
  go_upto_region 1 with fail
  clear hw1
  go_region_held_law (fun W => W.cell? ⟨w.heap.size, 0, none⟩ = some (.int .i64 1) ∧ W.cell? ⟨w.heap.size, 1, none⟩ = some (.int .i64 m) ∧ W.cell? ⟨w.heap.size, 2, none⟩ = some (.int .i64 n) ∧ W.cell? ⟨w.heap.size, 3, none⟩ = some (.string t))
    (first | exact z0 | (refine HS.out _ ?_; repeat' (first | assumption | exact Below.refl _ _ | refine Below.drew ?_ | (simp; done) | (simp; omega) | omega)))
    ((go_at_call 35; (with_reducible refine kq.mono ?_); clear kq; rintro e w2 ⟨b, rfl, hb2, hlk⟩; have hs2 := hb2.size; obtain ⟨y0, y1, y2, y3⟩ := HS.out _ hb2))
  all_goals
    go_wp2_with (go_at_call 47; (with_reducible refine (HC.out _ (by assumption)).mono ?_); rintro e w3 ⟨rfl, hb3⟩)
    go_ret
    exact ⟨rfl, hb3⟩
set_option maxRecDepth 100000 in
set_option maxHeartbeats 2000000 in
theorem Sm.right2 (m n : Int) (t : ByteArray) (w : World) : Calls Tryd.prog 22 #[.agg #[.int .i64 2, .int .i64 m, .int .i64 n, .string t]] w fun e w' => e = .returned (.bool (mbB m && decide (n = 0 ∧ t = ⟨#[]⟩))) ∧ Below w.heap.size w w' := by
  have hb1 : Below w.heap.size w (w.alloc (.cells #[.int .i64 2, .int .i64 m, .int .i64 n, .string t] 33)) := (Below.refl _ w).alloc (Nat.le_refl _) _
  have hS := ent_box w (.int .i64 2) (.int .i64 m) (.int .i64 n) (.string t) 33
  obtain ⟨w1, hw1⟩ : ∃ v, w.alloc (.cells #[.int .i64 2, .int .i64 m, .int .i64 n, .string t] 33) = v := ⟨_, rfl⟩
  have hz1 : w.heap.size + 1 = w1.heap.size := by rw [← hw1]; simp
  rw [hw1, hz1] at hS
  rw [hw1] at hb1
  have kq : Calls Tryd.prog 35 #[] w1.drew (fun e w' => ∃ b, e = .returned (.map (some b)) ∧ Below w1.heap.size w1 w' ∧ (Instr.lookup 81 (.map (some b)) (.int .i64 2) true).run Tryd.prog w' = .ok (.tuple #[.func (.func 48) #[] #[], .bool true]) w') :=
    (makings_any w1.drew).mono fun e w' ⟨b, he, ho, hb⟩ => by
      obtain ⟨v, h1, h2⟩ := mk_look w' b ho 2 (by unfold I64; omega)
      obtain rfl := h2.2.1 rfl
      exact ⟨b, he, (Below.refl _ w1).drew.trans hb, h1⟩
  have HC : Hid (∀ W, Below w1.heap.size w1 W → Calls Tryd.prog 48 #[.agg #[.int .i64 2, .int .i64 m, .int .i64 n, .string t]] W fun e w' => e = .returned (.bool (mbB m && decide (n = 0 ∧ t = ⟨#[]⟩))) ∧ Below w.heap.size w w') := Lib.hid fun W hW => (member_any 2 m n t W).mono fun e w' ⟨e1, e2⟩ => ⟨e1, hb1.trans ((hW.trans (e2.mono hW.size)).mono hb1.size)⟩
  obtain ⟨x, hx⟩ : ∃ x, (mbB m && decide (n = 0 ∧ t = ⟨#[]⟩)) = x := ⟨_, rfl⟩
  rw [hx] at HC ⊢
  clear hx
  have HS := Lib.hid hS
  have HB1 := Lib.hid hb1
  have z0 := HS.out _ (Below.refl _ _)
  clear hS hb1 hz1
  go_enter Tryd.func22, Tryd.ntmps22
  go_upto_region 1 with fail
  clear hw1
  go_region_held_law (fun W => W.cell? ⟨w.heap.size, 0, none⟩ = some (.int .i64 2) ∧ W.cell? ⟨w.heap.size, 1, none⟩ = some (.int .i64 m) ∧ W.cell? ⟨w.heap.size, 2, none⟩ = some (.int .i64 n) ∧ W.cell? ⟨w.heap.size, 3, none⟩ = some (.string t))
    (first | exact z0 | (refine HS.out _ ?_; repeat' (first | assumption | exact Below.refl _ _ | refine Below.drew ?_ | (simp; done) | (simp; omega) | omega)))
    ((go_at_call 35; (with_reducible refine kq.mono ?_); clear kq; rintro e w2 ⟨b, rfl, hb2, hlk⟩; have hs2 := hb2.size; obtain ⟨y0, y1, y2, y3⟩ := HS.out _ hb2))
  all_goals
    go_wp2_with (go_at_call 48; (with_reducible refine (HC.out _ (by assumption)).mono ?_); rintro e w3 ⟨rfl, hb3⟩)
    go_ret
    exact ⟨rfl, hb3⟩
set_option maxRecDepth 100000 in
set_option maxHeartbeats 2000000 in
theorem Sm.right3 (m n : Int) (t : ByteArray) (w : World) : Calls Tryd.prog 22 #[.agg #[.int .i64 3, .int .i64 m, .int .i64 n, .string t]] w fun e w' => e = .returned (.bool (mbB m && decide (n = 0 ∧ t = ⟨#[]⟩))) ∧ Below w.heap.size w w' := by
  have hb1 : Below w.heap.size w (w.alloc (.cells #[.int .i64 3, .int .i64 m, .int .i64 n, .string t] 33)) := (Below.refl _ w).alloc (Nat.le_refl _) _
  have hS := ent_box w (.int .i64 3) (.int .i64 m) (.int .i64 n) (.string t) 33
  obtain ⟨w1, hw1⟩ : ∃ v, w.alloc (.cells #[.int .i64 3, .int .i64 m, .int .i64 n, .string t] 33) = v := ⟨_, rfl⟩
  have hz1 : w.heap.size + 1 = w1.heap.size := by rw [← hw1]; simp
  rw [hw1, hz1] at hS
  rw [hw1] at hb1
  have kq : Calls Tryd.prog 35 #[] w1.drew (fun e w' => ∃ b, e = .returned (.map (some b)) ∧ Below w1.heap.size w1 w' ∧ (Instr.lookup 81 (.map (some b)) (.int .i64 3) true).run Tryd.prog w' = .ok (.tuple #[.func (.func 48) #[] #[], .bool true]) w') :=
    (makings_any w1.drew).mono fun e w' ⟨b, he, ho, hb⟩ => by
      obtain ⟨v, h1, h2⟩ := mk_look w' b ho 3 (by unfold I64; omega)
      obtain rfl := h2.2.2.1 rfl
      exact ⟨b, he, (Below.refl _ w1).drew.trans hb, h1⟩
  have HC : Hid (∀ W, Below w1.heap.size w1 W → Calls Tryd.prog 48 #[.agg #[.int .i64 3, .int .i64 m, .int .i64 n, .string t]] W fun e w' => e = .returned (.bool (mbB m && decide (n = 0 ∧ t = ⟨#[]⟩))) ∧ Below w.heap.size w w') := Lib.hid fun W hW => (member_any 3 m n t W).mono fun e w' ⟨e1, e2⟩ => ⟨e1, hb1.trans ((hW.trans (e2.mono hW.size)).mono hb1.size)⟩
  obtain ⟨x, hx⟩ : ∃ x, (mbB m && decide (n = 0 ∧ t = ⟨#[]⟩)) = x := ⟨_, rfl⟩
  rw [hx] at HC ⊢
  clear hx
  have HS := Lib.hid hS
  have HB1 := Lib.hid hb1
  have z0 := HS.out _ (Below.refl _ _)
  clear hS hb1 hz1
  go_enter Tryd.func22, Tryd.ntmps22
  go_upto_region 1 with fail
  clear hw1
  go_region_held_law (fun W => W.cell? ⟨w.heap.size, 0, none⟩ = some (.int .i64 3) ∧ W.cell? ⟨w.heap.size, 1, none⟩ = some (.int .i64 m) ∧ W.cell? ⟨w.heap.size, 2, none⟩ = some (.int .i64 n) ∧ W.cell? ⟨w.heap.size, 3, none⟩ = some (.string t))
    (first | exact z0 | (refine HS.out _ ?_; repeat' (first | assumption | exact Below.refl _ _ | refine Below.drew ?_ | (simp; done) | (simp; omega) | omega)))
    ((go_at_call 35; (with_reducible refine kq.mono ?_); clear kq; rintro e w2 ⟨b, rfl, hb2, hlk⟩; have hs2 := hb2.size; obtain ⟨y0, y1, y2, y3⟩ := HS.out _ hb2))
  all_goals
    go_wp2_with (go_at_call 48; (with_reducible refine (HC.out _ (by assumption)).mono ?_); rintro e w3 ⟨rfl, hb3⟩)
    go_ret
    exact ⟨rfl, hb3⟩
set_option maxRecDepth 100000 in
set_option maxHeartbeats 2000000 in
theorem Sm.right4 (m n : Int) (t : ByteArray) (w : World) (ht : t.size ≤ 1000000) (hL : LaysT w) : Calls Tryd.prog 22 #[.agg #[.int .i64 4, .int .i64 m, .int .i64 n, .string t]] w fun e w' => e = .returned (.bool (mbB m && (decide (1 ≤ n) && decide (n ≤ 2147483647)) && decide (checkN t = 0))) ∧ Below w.heap.size w w' := by
  have hb1 : Below w.heap.size w (w.alloc (.cells #[.int .i64 4, .int .i64 m, .int .i64 n, .string t] 33)) := (Below.refl _ w).alloc (Nat.le_refl _) _
  have hS := ent_box w (.int .i64 4) (.int .i64 m) (.int .i64 n) (.string t) 33
  obtain ⟨w1, hw1⟩ : ∃ v, w.alloc (.cells #[.int .i64 4, .int .i64 m, .int .i64 n, .string t] 33) = v := ⟨_, rfl⟩
  have hz1 : w.heap.size + 1 = w1.heap.size := by rw [← hw1]; simp
  rw [hw1, hz1] at hS
  rw [hw1] at hb1
  have kq : Calls Tryd.prog 35 #[] w1.drew (fun e w' => ∃ b, e = .returned (.map (some b)) ∧ Below w1.heap.size w1 w' ∧ (Instr.lookup 81 (.map (some b)) (.int .i64 4) true).run Tryd.prog w' = .ok (.tuple #[.func (.func 49) #[] #[], .bool true]) w') :=
    (makings_any w1.drew).mono fun e w' ⟨b, he, ho, hb⟩ => by
      obtain ⟨v, h1, h2⟩ := mk_look w' b ho 4 (by unfold I64; omega)
      obtain rfl := h2.2.2.2 rfl
      exact ⟨b, he, (Below.refl _ w1).drew.trans hb, h1⟩
  have HC : Hid (∀ W, Below w1.heap.size w1 W → Calls Tryd.prog 49 #[.agg #[.int .i64 4, .int .i64 m, .int .i64 n, .string t]] W fun e w' => e = .returned (.bool (mbB m && (decide (1 ≤ n) && decide (n ≤ 2147483647)) && decide (checkN t = 0))) ∧ Below w.heap.size w w') := Lib.hid fun W hW => (saying_any 4 m n t W ht (hL.keep (hb1.trans (hW.mono hb1.size)))).mono fun e w' ⟨e1, e2⟩ => ⟨e1, hb1.trans ((hW.trans (e2.mono hW.size)).mono hb1.size)⟩
  obtain ⟨x, hx⟩ : ∃ x, (mbB m && (decide (1 ≤ n) && decide (n ≤ 2147483647)) && decide (checkN t = 0)) = x := ⟨_, rfl⟩
  rw [hx] at HC ⊢
  clear hx
  have HS := Lib.hid hS
  have HB1 := Lib.hid hb1
  have z0 := HS.out _ (Below.refl _ _)
  clear hS hb1 hz1 hL
  go_enter Tryd.func22, Tryd.ntmps22
  go_upto_region 1 with fail
  clear hw1
  go_region_held_law (fun W => W.cell? ⟨w.heap.size, 0, none⟩ = some (.int .i64 4) ∧ W.cell? ⟨w.heap.size, 1, none⟩ = some (.int .i64 m) ∧ W.cell? ⟨w.heap.size, 2, none⟩ = some (.int .i64 n) ∧ W.cell? ⟨w.heap.size, 3, none⟩ = some (.string t))
    (first | exact z0 | (refine HS.out _ ?_; repeat' (first | assumption | exact Below.refl _ _ | refine Below.drew ?_ | (simp; done) | (simp; omega) | omega)))
    ((go_at_call 35; (with_reducible refine kq.mono ?_); clear kq; rintro e w2 ⟨b, rfl, hb2, hlk⟩; have hs2 := hb2.size; obtain ⟨y0, y1, y2, y3⟩ := HS.out _ hb2))
  all_goals
    go_wp2_with (go_at_call 49; (with_reducible refine (HC.out _ (by assumption)).mono ?_); rintro e w3 ⟨rfl, hb3⟩)
    go_ret
    exact ⟨rfl, hb3⟩
set_option maxRecDepth 100000 in
set_option maxHeartbeats 2000000 in
theorem Sm.right0 (k m n : Int) (t : ByteArray) (w : World) (hk : I64 k) (h1 : mkB k = false) : Calls Tryd.prog 22 #[.agg #[.int .i64 k, .int .i64 m, .int .i64 n, .string t]] w fun e w' => e = .returned (.bool false) ∧ Below w.heap.size w w' := by
  have hb1 : Below w.heap.size w (w.alloc (.cells #[.int .i64 k, .int .i64 m, .int .i64 n, .string t] 33)) := (Below.refl _ w).alloc (Nat.le_refl _) _
  have hS := ent_box w (.int .i64 k) (.int .i64 m) (.int .i64 n) (.string t) 33
  obtain ⟨w1, hw1⟩ : ∃ v, w.alloc (.cells #[.int .i64 k, .int .i64 m, .int .i64 n, .string t] 33) = v := ⟨_, rfl⟩
  have hz1 : w.heap.size + 1 = w1.heap.size := by rw [← hw1]; simp
  rw [hw1, hz1] at hS
  rw [hw1] at hb1
  have kq : Calls Tryd.prog 35 #[] w1.drew (fun e w' => ∃ b v, e = .returned (.map (some b)) ∧ Below w1.heap.size w1 w' ∧ (Instr.lookup 81 (.map (some b)) (.int .i64 k) true).run Tryd.prog w' = .ok (.tuple #[v, .bool false]) w') :=
    (makings_any w1.drew).mono fun e w' ⟨b, he, ho, hb⟩ => by
      obtain ⟨v, h1, h2⟩ := mk_look w' b ho k hk
      rw [‹mkB k = false›] at h1
      exact ⟨b, v, he, (Below.refl _ w1).drew.trans hb, h1⟩
  have HS := Lib.hid hS
  have HB1 := Lib.hid hb1
  have z0 := HS.out _ (Below.refl _ _)
  clear hS hb1 hz1
  go_enter Tryd.func22, Tryd.ntmps22
  go_upto_region 1 with fail
  clear hw1
  go_region_held_law (fun W => W.cell? ⟨w.heap.size, 0, none⟩ = some (.int .i64 k) ∧ W.cell? ⟨w.heap.size, 1, none⟩ = some (.int .i64 m) ∧ W.cell? ⟨w.heap.size, 2, none⟩ = some (.int .i64 n) ∧ W.cell? ⟨w.heap.size, 3, none⟩ = some (.string t))
    (first | exact z0 | (refine HS.out _ ?_; repeat' (first | assumption | exact Below.refl _ _ | refine Below.drew ?_ | (simp; done) | (simp; omega) | omega)))
    ((go_at_call 35; (with_reducible refine kq.mono ?_); clear kq; rintro e w2 ⟨b, v, rfl, hb2, hlk⟩; have hs2 := hb2.size; obtain ⟨y0, y1, y2, y3⟩ := HS.out _ hb2))
  all_goals
    go_wp2
    go_ret
    exact ⟨rfl, HB1.out.trans (hb2.mono HB1.out.size)⟩
theorem Sm.right_any (k m n : Int) (t : ByteArray) (w : World) (hk : I64 k) (ht : t.size ≤ 1000000) (hL : LaysT w) : Calls Tryd.prog 22 #[.agg #[.int .i64 k, .int .i64 m, .int .i64 n, .string t]] w fun e w' => e = .returned (.bool (entB k m n t)) ∧ Below w.heap.size w w' := by
  unfold entB
  by_cases h1 : k = 1
  · subst h1; exact right1 m n t w
  · rw [if_neg h1]
    by_cases h2 : k = 2
    · subst h2; exact right2 m n t w
    · by_cases h3 : k = 3
      · subst h3; exact right3 m n t w
      · rw [if_neg (by omega)]
        by_cases h4 : k = 4
        · subst h4; exact right4 m n t w ht hL
        · rw [if_neg h4]
          exact right0 k m n t w hk (by unfold mkB; simp; omega)
end Go.Proofs
