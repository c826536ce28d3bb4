/-
  The contract of the reference reader's truth, at every reader.
-/
import Derived.Test.YteeponciegmlcaaDoorRefT
namespace Go.Proofs
open Go.RowKit Go.Shelf Sm
set_option maxRecDepth 100000 in
set_option maxHeartbeats 8000000 in
theorem Sm.refTru_ok (A : Option Addr) (n c : Nat) (x : BitVec 8) (r : List (BitVec 8)) (w : World) (h : RefAt w A n c (x :: r)) (hm : n ≤ 9223372036854775807) (hx : x.toNat ≤ 1) : Calls Tryd.prog 51 #[rdV A n c 0] w fun y w' => (∃ A', y = .returned (.tuple #[rdV A' (n - 1) (c - 1) 0, .bool (decide (x.toNat = 1)), .int .i64 0]) ∧ RefAt w' A' (n - 1) (c - 1) r) ∧ Below w.heap.size w w' := by
  have hlen := h.len
  have hroom := h.room
  have hn : 0 < n := by simp at hlen; omega
  have hx1 : ib x ≤ (1 : Int) := by unfold ib; omega
  have hx2 : decide (x.toNat = 1) = (ib x == 1) := by unfold ib; rw [Bool.eq_iff_iff]; simp; omega
  have hx3 : ¬ (1 : Int) < ib x := by omega
  obtain ⟨b, off, rfl, hlt0, _⟩ := first_cell h (Below.refl _ w)
  have hc : ∀ v : Value, ((w.alloc (.cells #[.slice (some ⟨b, off, none⟩) n c, .int .i64 0] 47)).alloc (.cells #[v, .int .i64 0] 47)).cell? ⟨b, off, none⟩ = some (.int .u8 (ib x)) ∧ ((w.alloc (.cells #[.slice (some ⟨b, off, none⟩) n c, .int .i64 0] 47)).alloc (.cells #[v, .int .i64 0] 47)).drew.cell? ⟨b, off, none⟩ = some (.int .u8 (ib x)) := fun v => by
    obtain ⟨b', off', e, _, hcc⟩ := first_cell h (alloc2 w (.cells #[.slice (some ⟨b, off, none⟩) n c, .int .i64 0] 47) (.cells #[v, .int .i64 0] 47))
    cases e
    exact ⟨hcc, hcc⟩
  obtain ⟨hc0, hc1⟩ := hc (.slice none 0 0)
  obtain ⟨hc2, hc3⟩ := hc (.slice (some ⟨b, off, none⟩) 0 0)
  obtain ⟨hc4, hc5⟩ := hc (.slice (some ⟨b, off + 1, none⟩) (n - 1) (c - 1))
  clear hc
  have hb3 : ∀ v : Value, Below w.heap.size w ((w.alloc (.cells #[.slice (some ⟨b, off, none⟩) n c, .int .i64 0] 47)).alloc (.cells #[v, .int .i64 0] 47)) := fun v => alloc2 _ _ _
  have y1 : (0 : Int) ≤ 1 := by omega
  have y2 : (1 : Int) ≤ (n : Int) := by omega
  have y3 : (n : Int) ≤ (c : Int) := by omega
  rw [hx2]
  have yb : ¬ w.heap.size + 1 = b := by omega
  have yb2 : ¬ b = w.heap.size + 1 := by omega
  unfold rdV
  by_cases hkc : 1 = c
  · subst hkc
    have hkn : n = 1 := by omega
    subst hkn
    have hr0 : r = [] := List.length_eq_zero_iff.1 (by simpa using hlen)
    go_enter Tryd.func51, Tryd.ntmps51
    go_wp2
    go_region
    all_goals go_wp2
    all_goals refine bodyPost_ret (v := .tuple #[.agg #[.slice (some ⟨b, off, none⟩) 0 0, .int .i64 0], .bool (ib x == 1), .int .i64 0]) (by simp [results, Tryd.results51, go_sem]) rfl ⟨⟨some ⟨b, off, none⟩, rfl, ?_⟩, (hb3 _).drew⟩
    all_goals (rw [hr0]; exact ⟨rfl, Nat.le_refl _, Rd.nil⟩)
  · go_enter Tryd.func51, Tryd.ntmps51
    go_wp2
    go_region
    all_goals go_wp2
    all_goals refine bodyPost_ret (v := .tuple #[.agg #[.slice (some ⟨b, off + 1, none⟩) (n - 1) (c - 1), .int .i64 0], .bool (ib x == 1), .int .i64 0]) (by simp [results, Tryd.results51, go_sem]) rfl ⟨⟨some ⟨b, off + 1, none⟩, rfl, ?_⟩, (hb3 _).drew⟩
    all_goals exact ⟨by simp at hlen; omega, by omega, ((h.rd.drop 1).below (hb3 _).drew).more (hb3 _).drew.size⟩
/-- the truth that is asked for -/
theorem Sm.refTru_any (A : Option Addr) (n c : Nat) (l : List (BitVec 8)) (e : Int) (w : World) (h : RefAt w A n c l) (hm : n ≤ 9223372036854775807) (he : e = 0 ∨ e = 120) : Calls Tryd.prog 51 #[rdV A n c e] w fun x w' =>
    (∃ A' n' c', x = .returned (.tuple #[rdV A' n' c' (truthS l e).2.1, .bool (truthS l e).2.2.1, .int .i64 (truthS l e).2.2.2]) ∧ RefAt w' A' n' c' (truthS l e).1) ∧ Below w.heap.size w w' := by
  rcases he with rfl | rfl
  · cases l with
    | nil =>
      have hn : n = 0 := by rw [← h.len]; rfl
      rw [truthS_bad tru_none]
      subst hn
      refine (refTru_none A c w).mono ?_
      rintro x w' ⟨rfl, hb⟩
      exact ⟨⟨none, 0, 0, rfl, RefAt.nil _⟩, hb⟩
    | cons y r =>
      by_cases hy : y.toNat ≤ 1
      · rw [truthS_ok (tru_first r hy) (by omega)]
        refine (refTru_ok A n c y r w h hm hy).mono ?_
        rintro x w' ⟨⟨A', rfl, hr⟩, hb⟩
        exact ⟨⟨A', _, _, rfl, hr⟩, hb⟩
      · rw [truthS_bad (tru_other r hy)]
        refine (refTru_bad A n c y r w h hm hy).mono ?_
        rintro x w' ⟨rfl, hb⟩
        exact ⟨⟨none, 0, 0, rfl, RefAt.nil _⟩, hb⟩
  · have e1 : truthS l 120 = (l, 120, false, 120) := by unfold truthS; rw [if_pos (by simp)]
    rw [e1]
    refine (refTru_err A n c w).mono ?_
    rintro x w' ⟨rfl, hb⟩
    exact ⟨⟨A, n, c, rfl, h.below hb⟩, hb⟩
