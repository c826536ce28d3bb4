/-
  The contract of the reference reader's text, whole.
-/
import Derived.Test.YteeponciegmlcaaDoorRefX
import Derived.Test.YteeponciegmlcaaDoorRefU
namespace Go.Proofs
open Go.RowKit Go.Shelf Sm
attribute [local go_sem ↓] Go.wp_at_zero Go.wp_at_succ
set_option maxRecDepth 100000 in
set_option maxHeartbeats 8000000 in
theorem Sm.refNum_some (b off : Nat) (n c : Nat) (l : List (BitVec 8)) (most : Int) (m k : Nat) (w : World) (h : RefAt w (some ⟨b, off, none⟩) n c l) (hm : n ≤ 9223372036854775807) (h0 : ¬ most < 0) (hg : getN l = .num m k) (hmo : (m : Int) ≤ most) : Calls Tryd.prog 23 #[rdV (some ⟨b, off, none⟩) n c 0, .int .i64 most] w fun x w' => (∃ off', x = .returned (.tuple #[rdV (some ⟨b, off', none⟩) (n - k) (c - k) 0, .int .i64 (m : Int), .int .i64 0]) ∧ RefAt w' (some ⟨b, off', none⟩) (n - k) (c - k) (l.drop k)) ∧ Below w.heap.size w w' := by
  have hb2 := alloc2 w (.cells #[.slice (some ⟨b, off, none⟩) n c, .int .i64 0] 47) (.cells #[.slice none 0 0, .int .i64 0] 47)
  have hct := refTake_any l n c w.heap.size (some ⟨b, off, none⟩) _ (Lib.hid h.len) hm (h.rd.below hb2)
  have hT : takeV l = ((m : Int), (k : Int)) := by unfold takeV; rw [hg]
  rw [hT] at hct
  obtain ⟨_, hk0, hk9, hkl⟩ := getN_form hg
  have hlen := h.len
  have hroom := h.room
  rw [hlen] at hkl
  have hb3 : ∀ x : Value, Below w.heap.size w ((w.alloc (.cells #[.slice (some ⟨b, off, none⟩) n c, .int .i64 0] 47)).alloc (.cells #[x, .int .i64 0] 47)) := fun x => alloc2 _ _ _
  have x1 : (0 : Int) ≤ (k : Int) := by omega
  have x2 : (k : Int) ≤ (n : Int) := by omega
  have x3 : (n : Int) ≤ (c : Int) := by omega
  unfold rdV
  by_cases hkc : k = c
  · have hkn : k = n := by omega
    subst hkc
    subst hkn
    have hdrop : l.drop k = [] := List.drop_eq_nil_of_le (by omega)
    go_enter Tryd.func23, Tryd.ntmps23
    go_wp2_with (go_at_call 48; (with_reducible refine hct.mono ?_); rintro e w2 ⟨rfl, rfl⟩)
    refine bodyPost_ret (v := .tuple #[.agg #[.slice (some ⟨b, off, none⟩) 0 0, .int .i64 0], .int .i64 (m : Int), .int .i64 0]) (by simp [results, Tryd.results23, go_sem]) rfl ⟨⟨off, by rw [Nat.sub_self], ?_⟩, hb3 _⟩
    rw [hdrop, Nat.sub_self]
    exact ⟨rfl, Nat.le_refl _, Rd.nil⟩
  · go_enter Tryd.func23, Tryd.ntmps23
    go_wp2_with (go_at_call 48; (with_reducible refine hct.mono ?_); rintro e w2 ⟨rfl, rfl⟩)
    refine bodyPost_ret (v := .tuple #[.agg #[.slice (some ⟨b, off + k, none⟩) (n - k) (c - k), .int .i64 0], .int .i64 (m : Int), .int .i64 0]) (by simp [results, Tryd.results23, go_sem]) rfl ⟨⟨off + k, rfl, ?_⟩, hb3 _⟩
    exact ⟨by rw [List.length_drop, hlen], by omega, ((h.rd.drop k).below (hb3 _)).more (hb3 _).size⟩
/-- .. and the first block -/
theorem Sm.two_first {w w3 : World} {x y : Value} (hb3 : Below ((w.alloc (.cells #[x, y] 47)).alloc (.cells #[.slice none 0 0, .int .i64 0] 47)).heap.size ((w.alloc (.cells #[x, y] 47)).alloc (.cells #[.slice none 0 0, .int .i64 0] 47)) w3) : w3.cell? ⟨w.heap.size, 0, none⟩ = some x ∧ w3.cell? ⟨w.heap.size, 1, none⟩ = some y := by
  have hnew : ((w.alloc (.cells #[x, y] 47)).alloc (.cells #[.slice none 0 0, .int .i64 0] 47)).heap[w.heap.size]? = some (.cells #[x, y] 47 (0, 0)) :=
    (Below.heap_alloc _ _ _ (by simp)).trans (World.alloc_heap_new w _)
  have h3 := (hb3.block w.heap.size (by simp; omega)).trans hnew
  exact ⟨cell_of_heap h3 0, cell_of_heap h3 1⟩
set_option maxRecDepth 100000 in
set_option maxHeartbeats 8000000 in
theorem Sm.refTxt_ok (A : Option Addr) (n c : Nat) (l : List (BitVec 8)) (most : Int) (m k : Nat) (w : World) (h : RefAt w A n c l) (hm : n ≤ 9223372036854775807) (h0 : ¬ most < 0) (hg : getN l = .num m k) (hmo : (m : Int) ≤ most) (hl : m ≤ n - k) :
    Calls Tryd.prog 50 #[rdV A n c 0, .int .i64 most] w fun x w' => (∃ A', x = .returned (.tuple #[rdV A' (n - k - m) (c - k - m) 0, .string (strB ((l.drop k).take m)), .int .i64 0]) ∧ RefAt w' A' (n - k - m) (c - k - m) ((l.drop k).drop m)) ∧ Below w.heap.size w w' := by
  obtain ⟨_, hk0, hk9, hkl⟩ := getN_form hg
  obtain ⟨b, off0, rfl, hbw, _⟩ := h.rd (by omega)
  have hb2 := alloc2 w (.cells #[.slice (some ⟨b, off0, none⟩) n c, .int .i64 0] 47) (.cells #[.slice none 0 0, .int .i64 0] 47)
  have hf := refNum_some b off0 n c l most m k _ (h.below hb2) hm h0 hg hmo
  have hf2 := hf.mono (R' := fun x w3 => ∃ off, x = .returned (.tuple #[.agg #[.slice (some ⟨b, off, none⟩) (n - k) (c - k), .int .i64 0], .int .i64 (m : Int), .int .i64 0]) ∧ RefAt w3 (some ⟨b, off, none⟩) (n - k) (c - k) (l.drop k) ∧ _) (fun x w3 ⟨⟨off, hx, hr⟩, hb3⟩ => ⟨off, hx, hr, two_keep _ hb3⟩)
  have hlen := h.len
  have hroom := h.room
  obtain ⟨N, hN⟩ : ∃ N, n - k = N := ⟨_, rfl⟩
  obtain ⟨C, hC⟩ : ∃ C, c - k = C := ⟨_, rfl⟩
  obtain ⟨R, hR⟩ : ∃ R, l.drop k = R := ⟨_, rfl⟩
  have hNC : N ≤ C := by omega
  have hN63 : N ≤ 9223372036854775807 := by omega
  rw [hN] at hl
  rw [hN, hC, hR] at hf2
  rw [hN, hC, hR]
  clear hf hN hC hR hlen hroom hkl hk9 hk0 hg h hb2
  unfold rdV at hf2 ⊢
  go_enter Tryd.func50, Tryd.ntmps50
  have x1 : (0 : Int) ≤ (m : Int) := by omega
  have x2 : (m : Int) ≤ (N : Int) := by omega
  have x3 : (N : Int) ≤ (C : Int) := by omega
  have x4 : (m : Int) ≤ (C : Int) := by omega
  go_wp2_with (go_at_call 23; (with_reducible refine hf2.mono ?_); clear hf2; rintro x w3 ⟨off, rfl, hr3, hb3, h3, hlt, c0, c1, f0, f1⟩; have hg0 := Nat.ne_of_gt hlt)
  have hW : Below w3.heap.size w3 (w3.alloc (.cells #[.slice (some ⟨b, off, none⟩) N C, .int .i64 0] 47)) := (Below.refl _ _).alloc (Nat.le_refl _) _
  have hc0 : (w3.alloc (.cells #[.slice (some ⟨b, off, none⟩) N C, .int .i64 0] 47)).cell? ⟨w3.heap.size, 0, none⟩ = some (.slice (some ⟨b, off, none⟩) N C) := World.cell?_alloc_new (w := w3) #[.slice (some ⟨b, off, none⟩) N C, .int .i64 0] 47 0
  have d0 : (w3.alloc (.cells #[.slice (some ⟨b, off, none⟩) N C, .int .i64 0] 47)).cell? ⟨w.heap.size + 1, 0, none⟩ = some (.slice none 0 0) := (hW.cell (p := ⟨w.heap.size + 1, 0, none⟩) hlt).trans c0
  have d1 : (w3.alloc (.cells #[.slice (some ⟨b, off, none⟩) N C, .int .i64 0] 47)).cell? ⟨w.heap.size + 1, 1, none⟩ = some (.int .i64 0) := (hW.cell (p := ⟨w.heap.size + 1, 1, none⟩) hlt).trans c1
  have g0 : (w3.alloc (.cells #[.slice (some ⟨b, off, none⟩) N C, .int .i64 0] 47)).frozen? ⟨w.heap.size + 1, 0, none⟩ = false := (hW.frozen (p := ⟨w.heap.size + 1, 0, none⟩) hlt).trans f0
  have g1 : (w3.alloc (.cells #[.slice (some ⟨b, off, none⟩) N C, .int .i64 0] 47)).frozen? ⟨w.heap.size + 1, 1, none⟩ = false := (hW.frozen (p := ⟨w.heap.size + 1, 1, none⟩) hlt).trans f1
  have h4 : (w3.alloc (.cells #[.slice (some ⟨b, off, none⟩) N C, .int .i64 0] 47)).heap[w.heap.size + 1]? = some (.cells #[.slice none 0 0, .int .i64 0] 47 (0, 0)) := (hW.block _ hlt).trans h3
  have hlt4 : w.heap.size + 1 < (w3.alloc (.cells #[.slice (some ⟨b, off, none⟩) N C, .int .i64 0] 47)).heap.size := by simp; omega
  have hb4 : Below w.heap.size w (w3.alloc (.cells #[.slice (some ⟨b, off, none⟩) N C, .int .i64 0] 47)) := hb3.trans (hW.mono hb3.size)
  have hr4 := hr3.below hW
  obtain ⟨w4, hw4⟩ : ∃ w4, w3.alloc (.cells #[.slice (some ⟨b, off, none⟩) N C, .int .i64 0] 47) = w4 := ⟨_, rfl⟩
  obtain ⟨P, hP⟩ : ∃ P, w3.heap.size = P := ⟨_, rfl⟩
  have hne : ¬ w.heap.size + 1 = P := by omega
  have hne2 : ¬ P = w.heap.size + 1 := by omega
  rw [hw4] at hc0 d0 d1 g0 g1 h4 hlt4 hb4 hr4 ⊢
  rw [hP] at hc0 ⊢
  clear hw4 hP hW h3 hlt hb3 c0 c1 f0 f1 hr3 hg0
  have hfin : ∀ (A' : Option Addr) , ∃ W', W' = ((w4.setCell ⟨w.heap.size + 1, 0, none⟩ (.slice A' (N - m) (C - m))).setCell ⟨w.heap.size + 1, 1, none⟩ (.int .i64 0)).drew ∧ W'.cell? ⟨w.heap.size + 1, 0, none⟩ = some (.slice A' (N - m) (C - m)) ∧ W'.cell? ⟨w.heap.size + 1, 1, none⟩ = some (.int .i64 0) ∧ Below w.heap.size w W' := fun A' => by
    have h5 := heap_setCells (i := 1) (u := .int .i64 0) (heap_setCells (i := 0) (u := .slice A' (N - m) (C - m)) h4)
    refine ⟨_, rfl, cell_of_heap h5 0, cell_of_heap h5 1, ?_⟩
    exact ((hb4.setCell (p := ⟨w.heap.size + 1, 0, none⟩) (by simp) _).setCell (p := ⟨w.heap.size + 1, 1, none⟩) (by simp) _).drew
  have hst1 := run_str (P := Tryd.prog) w4.drew 27 5 Tryd.underlying27 Tryd.underlying5 (R.take m) m C w4.heap.size (some ⟨b, off, none⟩) (by rw [List.length_take, hr4.len]; omega) (hr4.rd.take m) 9 Tryd.underlying9
  have hrw : ∀ A', Rd (((w4.setCell ⟨w.heap.size + 1, 0, none⟩ (.slice A' (N - m) (C - m))).setCell ⟨w.heap.size + 1, 1, none⟩ (.int .i64 0)).drew) (w.heap.size + 1) (some ⟨b, off, none⟩) R := fun A' => by
    have hlo : Rd w4 (w.heap.size + 1) (some ⟨b, off, none⟩) R := fun h => by
      obtain ⟨b', off', e, _, hc⟩ := hr4.rd h
      cases e
      exact ⟨b, off, rfl, by omega, hc⟩
    exact (hlo.setCell (p := ⟨w.heap.size + 1, 0, none⟩) (Nat.le_refl _) _).setCell (p := ⟨w.heap.size + 1, 1, none⟩) (Nat.le_refl _) _
  have hRl : R.length = N := hr4.len
  by_cases hmc : m = C
  · obtain ⟨W', hW', z0, z1, zb⟩ := hfin (some ⟨b, off, none⟩)
    have hrz := hrw (some ⟨b, off, none⟩)
    have hmN : m = N := by omega
    subst hmc
    subst hmN
    simp only [Nat.sub_self] at *
    have hst2 := run_str (P := Tryd.prog) W' 27 5 Tryd.underlying27 Tryd.underlying5 (R.take m) m m (w.heap.size + 1) (some ⟨b, off, none⟩) (by rw [List.length_take]; omega) (by rw [hW']; exact hrz.take m) 9 Tryd.underlying9
    rw [hW'] at hst2
    clear hfin hrw
    go_region
    all_goals go_wp2
    all_goals rw [← hW']
    all_goals refine bodyPost_ret (v := .tuple #[.agg #[.slice (some ⟨b, off, none⟩) 0 0, .int .i64 0], .string (strB (R.take m)), .int .i64 0]) (by simp [results, Tryd.results50, go_sem, z0, z1]) rfl ⟨⟨some ⟨b, off, none⟩, by rw [Nat.sub_self], ?_⟩, zb⟩
    all_goals (rw [List.drop_eq_nil_of_le (by omega), Nat.sub_self]; exact ⟨rfl, Nat.le_refl _, Rd.nil⟩)
  · obtain ⟨W', hW', z0, z1, zb⟩ := hfin (some ⟨b, off + m, none⟩)
    have hrz := hrw (some ⟨b, off + m, none⟩)
    have hst2 := run_str (P := Tryd.prog) W' 27 5 Tryd.underlying27 Tryd.underlying5 (R.take m) m C (w.heap.size + 1) (some ⟨b, off, none⟩) (by rw [List.length_take]; omega) (by rw [hW']; exact hrz.take m) 9 Tryd.underlying9
    rw [hW'] at hst2
    clear hfin hrw
    go_region
    all_goals go_wp2
    all_goals rw [← hW']
    all_goals refine bodyPost_ret (v := .tuple #[.agg #[.slice (some ⟨b, off + m, none⟩) (N - m) (C - m), .int .i64 0], .string (strB (R.take m)), .int .i64 0]) (by simp [results, Tryd.results50, go_sem, z0, z1]) rfl ⟨⟨some ⟨b, off + m, none⟩, rfl, ?_⟩, zb⟩
    all_goals exact ⟨by rw [List.length_drop, hRl], by omega, (by rw [hW']; exact (hrz.drop m).more (by simp; omega))⟩
/-- a text that is cut off -/
theorem Sm.refTxt_long (A : Option Addr) (n c : Nat) (l : List (BitVec 8)) (most : Int) (m k : Nat) (w : World) (h : RefAt w A n c l) (hm : n ≤ 9223372036854775807) (h0 : ¬ most < 0) (hg : getN l = .num m k) (hmo : (m : Int) ≤ most) (hl : n - k < m) :
    Calls Tryd.prog 50 #[rdV A n c 0, .int .i64 most] w fun x w' => x = .returned (.tuple #[rdV none 0 0 120, .string ⟨#[]⟩, .int .i64 120]) ∧ Below w.heap.size w w' := by
  obtain ⟨_, hk0, hk9, hkl⟩ := getN_form hg
  obtain ⟨b, off0, rfl, hbw, _⟩ := h.rd (by omega)
  have hb2 := alloc2 w (.cells #[.slice (some ⟨b, off0, none⟩) n c, .int .i64 0] 47) (.cells #[.slice none 0 0, .int .i64 0] 47)
  have hf := refNum_some b off0 n c l most m k _ (h.below hb2) hm h0 hg hmo
  have hf2 := hf.mono (R' := fun x w3 => ∃ off, x = .returned (.tuple #[.agg #[.slice (some ⟨b, off, none⟩) (n - k) (c - k), .int .i64 0], .int .i64 (m : Int), .int .i64 0]) ∧ (w3.cell? ⟨w.heap.size, 0, none⟩ = some (.slice (some ⟨b, off0, none⟩) n c) ∧ w3.cell? ⟨w.heap.size, 1, none⟩ = some (.int .i64 0)) ∧ _) (fun x w3 ⟨⟨off, hx, hr⟩, hb3⟩ => ⟨off, hx, two_first hb3, two_keep _ hb3⟩)
  have hlen := h.len
  have hroom := h.room
  obtain ⟨N, hN⟩ : ∃ N, n - k = N := ⟨_, rfl⟩
  obtain ⟨C, hC⟩ : ∃ C, c - k = C := ⟨_, rfl⟩
  have hNC : N ≤ C := by omega
  have hN63 : N ≤ 9223372036854775807 := by omega
  rw [hN] at hl
  rw [hN, hC] at hf2
  have hlI : (N : Int) < (m : Int) := by omega
  clear hf hN hC hlen hroom hkl hk9 hk0 hg h hb2
  unfold rdV at hf2 ⊢
  have hfail : ∀ w3 : World, w3.heap[w.heap.size + 1]? = some (.cells #[.slice none 0 0, .int .i64 0] 47 (0, 0)) → w.heap.size + 1 < w3.heap.size → Below w.heap.size w w3 → ∀ u : Value, Calls Tryd.prog 49 #[.agg #[.slice (some ⟨b, off0, none⟩) n c, .int .i64 0]] (w3.alloc (.cells #[u, .int .i64 0] 47)) fun x w5 => x = .returned (.tuple #[.agg #[.slice none 0 0, .int .i64 120], .int .i64 120]) ∧
      (w5.cell? ⟨w3.heap.size, 0, none⟩ = some u ∧ w5.cell? ⟨w3.heap.size, 1, none⟩ = some (.int .i64 0) ∧ w5.frozen? ⟨w3.heap.size, 0, none⟩ = false ∧ w5.frozen? ⟨w3.heap.size, 1, none⟩ = false) ∧
      (w5.cell? ⟨w.heap.size + 1, 0, none⟩ = some (.slice none 0 0) ∧ w5.cell? ⟨w.heap.size + 1, 1, none⟩ = some (.int .i64 0) ∧ w5.frozen? ⟨w.heap.size + 1, 0, none⟩ = false ∧ w5.frozen? ⟨w.heap.size + 1, 1, none⟩ = false) ∧
      w5.heap[w.heap.size + 1]? = some (.cells #[.slice none 0 0, .int .i64 0] 47 (0, 0)) ∧ w5.heap[w3.heap.size]? = some (.cells #[u, .int .i64 0] 47 (0, 0)) ∧ w3.heap.size < w5.heap.size ∧ Below w.heap.size w w5 := fun w3 h3 hlt hb3 u => by
    have hW : Below w3.heap.size w3 (w3.alloc (.cells #[u, .int .i64 0] 47)) := (Below.refl _ _).alloc (Nat.le_refl _) _
    refine (refFail_any (some ⟨b, off0, none⟩) n c 0 (w3.alloc (.cells #[u, .int .i64 0] 47))).mono ?_
    rintro x w5 ⟨hx, hb⟩
    have h5 : w5.heap[w3.heap.size]? = some (.cells #[u, .int .i64 0] 47 (0, 0)) := (hb.block _ (by simp)).trans (World.alloc_heap_new w3 _)
    have hb35 : Below w3.heap.size w3 w5 := hW.trans (hb.mono hW.size)
    have h6 : w5.heap[w.heap.size + 1]? = some (.cells #[.slice none 0 0, .int .i64 0] 47 (0, 0)) := (hb35.block _ hlt).trans h3
    exact ⟨hx, ⟨cell_of_heap h5 0, cell_of_heap h5 1, frozen_of_heap h5 0, frozen_of_heap h5 1⟩, ⟨cell_of_heap h6 0, cell_of_heap h6 1, frozen_of_heap h6 0, frozen_of_heap h6 1⟩, h6, h5, (Array.getElem?_eq_some_iff.1 h5).1, hb3.trans (hb35.mono hb3.size)⟩
  go_enter Tryd.func50, Tryd.ntmps50
  go_wp2_with (first
    | (go_at_call 23; (with_reducible refine hf2.mono ?_); clear hf2; rintro x w3 ⟨off, rfl, ⟨a0, a1⟩, hb3, h3, hlt, c0, c1, f0, f1⟩; have hg0 := Nat.ne_of_gt hlt; have a2 := fun o : Obj => ((Below.refl _ w3).alloc (Nat.le_refl _) o).cell (p := ⟨w.heap.size, 0, none⟩) (show w.heap.size < w3.heap.size by omega) |>.trans a0; have a3 := fun o : Obj => ((Below.refl _ w3).alloc (Nat.le_refl _) o).cell (p := ⟨w.heap.size, 1, none⟩) (show w.heap.size < w3.heap.size by omega) |>.trans a1; have hff := hfail w3 h3 hlt hb3 (.slice (some ⟨b, off, none⟩) N C); clear hfail)
    | (go_at_call 49; (with_reducible refine hff.mono ?_); clear hff; rintro x w5 ⟨rfl, ⟨p0, p1, p2, p3⟩, ⟨q0, q1, q2, q3⟩, q6, p5, hP, hb5⟩; have hg1 := hg0))
  have h7 : ((w5.setCell ⟨w3.heap.size, 0, none⟩ (.slice none 0 0)).setCell ⟨w3.heap.size, 1, none⟩ (.int .i64 120)).heap[w.heap.size + 1]? = some (.cells #[.slice none 0 0, .int .i64 0] 47 (0, 0)) :=
    (Below.heap_setCell _ ⟨w3.heap.size, 1, none⟩ _ _ (by simp; omega)).trans ((Below.heap_setCell _ ⟨w3.heap.size, 0, none⟩ _ _ (by simp; omega)).trans q6)
  have h8 := heap_setCells (i := 1) (u := .int .i64 120) (heap_setCells (i := 0) (u := .slice none 0 0) h7)
  have z0 := cell_of_heap h8 0
  have z1 := cell_of_heap h8 1
  have hz := (((hb5.setCell (p := ⟨w3.heap.size, 0, none⟩) (by simp; omega) (.slice none 0 0)).setCell (p := ⟨w3.heap.size, 1, none⟩) (by simp; omega) (.int .i64 120)).setCell (p := ⟨w.heap.size + 1, 0, none⟩) (by simp) (.slice none 0 0)).setCell (p := ⟨w.heap.size + 1, 1, none⟩) (by simp) (.int .i64 120)
  exact bodyPost_ret (v := .tuple #[.agg #[.slice none 0 0, .int .i64 120], .string ⟨#[]⟩, .int .i64 120]) (by simp [results, Tryd.results50, go_sem, z0, z1]) rfl ⟨rfl, hz⟩
/-- the text that is asked for -/
theorem Sm.refTxt_any (A : Option Addr) (n c : Nat) (l : List (BitVec 8)) (e most : Int) (w : World) (h : RefAt w A n c l) (hm : n ≤ 9223372036854775807) (he : e = 0 ∨ e = 120) : Calls Tryd.prog 50 #[rdV A n c e, .int .i64 most] w fun x w' =>
    (∃ A' n' c', x = .returned (.tuple #[rdV A' n' c' (textS l e most).2.1, .string (strB (textS l e most).2.2.1), .int .i64 (textS l e most).2.2.2]) ∧ RefAt w' A' n' c' (textS l e most).1) ∧ Below w.heap.size w w' := by
  have hb2 := alloc2 w (.cells #[.slice A n c, .int .i64 e] 47) (.cells #[.slice none 0 0, .int .i64 0] 47)
  rcases he with rfl | rfl
  · by_cases h0 : most < 0
    · have e1 : textS l 0 most = (l, 0, [], 2) := by unfold textS; rw [if_neg (by simp), if_pos h0]
      rw [e1]
      refine (refTxt_not A A n c n c 0 0 0 2 most w rfl (refNum_arg A n c most _ h0)).mono ?_
      rintro x w' ⟨rfl, hb⟩
      exact ⟨⟨A, n, c, rfl, h.below hb⟩, hb⟩
    · rcases num_ways l most with ⟨m, k, hg, hmo⟩ | hbad
      · have hlen := h.len
        by_cases hl : m ≤ n - k
        · rw [textS_ok h0 hg hmo (by rw [hlen]; exact hl)]
          refine (refTxt_ok A n c l most m k w h hm h0 hg hmo hl).mono ?_
          rintro x w' ⟨⟨A', rfl, hr⟩, hb⟩
          exact ⟨⟨A', _, _, rfl, hr⟩, hb⟩
        · rw [textS_long h0 hg (by rw [hlen]; omega)]
          refine (refTxt_long A n c l most m k w h hm h0 hg hmo (by omega)).mono ?_
          rintro x w' ⟨rfl, hb⟩
          exact ⟨⟨none, 0, 0, rfl, RefAt.nil _⟩, hb⟩
      · rw [textS_bad h0 hbad]
        refine (refTxt_not A none n c 0 0 0 120 0 120 most w rfl (refNum_bad A n c l most _ (h.below hb2) hm h0 hbad)).mono ?_
        rintro x w' ⟨rfl, hb⟩
        exact ⟨⟨none, 0, 0, rfl, RefAt.nil _⟩, hb⟩
  · have e1 : textS l 120 most = (l, 120, [], 120) := by unfold textS; rw [if_pos (by simp)]
    rw [e1]
    refine (refTxt_not A A n c n c 120 120 0 120 most w rfl (refNum_err A n c most _)).mono ?_
    rintro x w' ⟨rfl, hb⟩
    exact ⟨⟨A, n, c, rfl, h.below hb⟩, hb⟩
/-- the number that is asked for, of a reader with an error too -/
theorem Sm.refNumE_any (A : Option Addr) (n c : Nat) (l : List (BitVec 8)) (e most : Int) (w : World) (h : RefAt w A n c l) (hm : n ≤ 9223372036854775807) (he : e = 0 ∨ e = 120) : Calls Tryd.prog 23 #[rdV A n c e, .int .i64 most] w fun x w' =>
    (∃ A' n' c', x = .returned (.tuple #[rdV A' n' c' (numS l e most).2.1, .int .i64 (numS l e most).2.2.1, .int .i64 (numS l e most).2.2.2]) ∧ RefAt w' A' n' c' (numS l e most).1) ∧ Below w.heap.size w w' := by
  rcases he with rfl | rfl
  · exact refNum_any A n c l most w h hm
  · have e1 : numS l 120 most = (l, 120, 0, 120) := by unfold numS; rw [if_pos (by simp)]
    rw [e1]
    refine (refNum_err A n c most w).mono ?_
    rintro x w' ⟨rfl, hb⟩
    exact ⟨⟨A, n, c, rfl, h.below hb⟩, hb⟩
end Go.Proofs
