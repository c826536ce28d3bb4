/-
  The walk of BallotMeets. Conditions: as the theorem names them.
-/
import Derived.Test.YtjdmnajjfikehaaBaO
namespace Go.Proofs
open Go Go.RowKit Sm Go.Lib
attribute [local go_sem] Oper.semAt_some
theorem Sm.wp_alive {P : Program} {c : Code} {Q : Exit → Act → World → Prop} {a : Act} {w : World} (h : c.wp P (fun e a w => (∀ ch, e ≠ .panic ch) ∧ Q e a w) a w) : c.wp P Q a w := wp_mono h (fun _ _ _ h => h.2)
/-- numbers in a row -/
def Sm.RowI (W : World) (A : Option Addr) (xs : List Int) : Prop :=
  xs = [] ∨ ∃ g off, A = some ⟨g, off, none⟩ ∧ g < W.heap.size ∧ ∀ j (h : j < xs.length), W.cell? ⟨g, off + j, none⟩ = some (.int .i64 xs[j])
theorem Sm.RowI.of {W : World} {A : Option Addr} {xs : List Int} (h : Rds W (fun _ => False) A (xs.map fun k => .int .i64 k)) : RowI W A xs := by
  by_cases h0 : 0 < xs.length
  · obtain ⟨b, off, e, hb, _, hc⟩ := h (by simpa using h0)
    exact .inr ⟨b, off, e, hb, fun j hj => hc j _ (by simp [hj])⟩
  · exact .inl (List.eq_nil_of_length_eq_zero (by omega))
theorem Sm.RowI.keep {W W' : World} {A : Option Addr} {xs : List Int} (h : RowI W A xs) (hb : Below W.heap.size W W') : RowI W' A xs :=
  h.imp id fun ⟨g, off, e, hg, hc⟩ => ⟨g, off, e, Nat.lt_of_lt_of_le hg hb.size, fun j hj => (hb.cell (p := ⟨g, off + j, none⟩) hg).trans (hc j hj)⟩
/-- what the order of ballots says of three -/
theorem Sm.cmpB_cases (r p r2 p2 : Int) : (cmpB r p r2 p2 = -1 ∧ (r < r2 ∨ r = r2 ∧ p < p2)) ∨ (cmpB r p r2 p2 = 0 ∧ r = r2 ∧ p = p2) ∨ (cmpB r p r2 p2 = 1 ∧ (r2 < r ∨ r2 = r ∧ p2 < p)) := by
  unfold cmpB orI cmpI
  repeat' split
  all_goals omega
theorem Sm.cmp_three (r p r2 p2 r3 p3 : Int) : (cmpB r p r2 p2 = -1 ∧ cmpB r2 p2 r p = 1 ∧ ¬ (r = r2 ∧ p = p2) ∧ (cmpB r2 p2 r3 p3 < 0 → cmpB r p r3 p3 < 0)) ∨ (cmpB r p r2 p2 = 0 ∧ cmpB r2 p2 r p = 0 ∧ r = r2 ∧ p = p2) ∨ (cmpB r p r2 p2 = 1 ∧ cmpB r2 p2 r p = -1 ∧ ¬ (r = r2 ∧ p = p2)) := by
  rcases cmpB_cases r p r2 p2 with ⟨h1, a⟩ | ⟨h1, a⟩ | ⟨h1, a⟩
  · left
    refine ⟨h1, ?_, by omega, ?_⟩
    · rcases cmpB_cases r2 p2 r p with ⟨h2, b⟩ | ⟨h2, b⟩ | ⟨h2, b⟩ <;> omega
    · intro h3
      rcases cmpB_cases r2 p2 r3 p3 with ⟨h4, b⟩ | ⟨h4, b⟩ | ⟨h4, b⟩
      · rcases cmpB_cases r p r3 p3 with ⟨h5, d⟩ | ⟨h5, d⟩ | ⟨h5, d⟩ <;> omega
      · omega
      · omega
  · right; left
    refine ⟨h1, ?_, a.1, a.2⟩
    rcases cmpB_cases r2 p2 r p with ⟨h2, b⟩ | ⟨h2, b⟩ | ⟨h2, b⟩ <;> omega
  · right; right
    refine ⟨h1, ?_, by omega⟩
    rcases cmpB_cases r2 p2 r p with ⟨h2, b⟩ | ⟨h2, b⟩ | ⟨h2, b⟩ <;> omega
theorem Sm.cntF_and (f g : Nat → Bool) (n : Nat) : cntF f n + cntF g n ≤ n + cntF (fun i => f i && g i) n := by
  induction n with
  | zero => exact Nat.le_refl _
  | succ n ih =>
    show cntF f n + (if f n = true then 1 else 0) + (cntF g n + (if g n = true then 1 else 0)) ≤ n + 1 + (cntF (fun i => f i && g i) n + (if (f n && g n) = true then 1 else 0))
    cases f n <;> cases g n <;> simp <;> omega
theorem Sm.cntF_pos (f : Nat → Bool) (n : Nat) (h : 0 < cntF f n) : ∃ q, q < n ∧ f q = true := by
  induction n with
  | zero => cases h
  | succ n ih =>
    by_cases e : f n = true
    · exact ⟨n, by omega, e⟩
    · have h2 : cntF f (n + 1) = cntF f n := by
        show cntF f n + (if f n = true then 1 else 0) = _
        rw [if_neg e]
        rfl
      rw [h2] at h
      obtain ⟨q, h3, h4⟩ := ih h
      exact ⟨q, by omega, h4⟩
theorem Sm.cntF_end (f : Nat → Bool) (c : Nat) (hf : ∀ i : Nat, f i = true → i < c) (n : Nat) : cntF f (c + n) = cntF f c := by
  induction n with
  | zero => rfl
  | succ n ih =>
    have h : ¬ f (c + n) = true := fun e => by have := hf _ e; omega
    show cntF f (c + n) + (if f (c + n) = true then 1 else 0) = _
    rw [if_neg h, ih]
    rfl
/-- two votes of one choir that won have a place in common -/
theorem Sm.won_meet {c : Int} {f g : Nat → Bool} (hc : chB c = true) (hf : ∀ i : Nat, f i = true → (i : Int) < c) (hg : ∀ i : Nat, g i = true → (i : Int) < c) (h1 : wonB c f = true) (h2 : wonB c g = true) : ∃ q : Nat, q < 9 ∧ f q = true ∧ g q = true := by
  unfold wonB at h1 h2
  rw [Bool.and_eq_true, decide_eq_true_eq] at h1 h2
  have h9 : 3 ≤ c ∧ c ≤ 9 := by rcases chB_iff.1 hc with e | e | e | e <;> omega
  obtain ⟨n, rfl⟩ : ∃ n : Nat, c = (n : Int) := ⟨c.toNat, by omega⟩
  have e1 := cntF_end f n (fun i h => by have := hf i h; omega) (9 - n)
  have e2 := cntF_end g n (fun i h => by have := hg i h; omega) (9 - n)
  rw [show n + (9 - n) = 9 by omega] at e1 e2
  have h3 := cntF_and f g n
  obtain ⟨q, h4, h5⟩ := cntF_pos (fun i => f i && g i) n (by have := h1.2; have := h2.2; omega)
  simp only [Bool.and_eq_true] at h5
  exact ⟨q, by omega, h5.1, h5.2⟩
/-- two votes in memory, one of them behind a box -/
structure Sm.MeS (w W : World) (ba bb xb : Nat) (c : Int) (f g : Nat → Bool) : Prop where
  va : W.heap[ba]? = some (.cells #[.int .i64 c, .bool (f 0), .bool (f 1), .bool (f 2), .bool (f 3), .bool (f 4), .bool (f 5), .bool (f 6), .bool (f 7), .bool (f 8)] 54 (0, 0))
  vb : W.heap[bb]? = some (.cells #[.int .i64 c, .bool (g 0), .bool (g 1), .bool (g 2), .bool (g 3), .bool (g 4), .bool (g 5), .bool (g 6), .bool (g 7), .bool (g 8)] 54 (0, 0))
  px : W.heap[xb]? = some (.cells #[.pointer (some ⟨bb, 0, none⟩)] 46 (0, 0))
  ne : ba ≠ bb ∧ ba ≠ xb ∧ bb ≠ xb
  l : Below w.heap.size w W
  lo : w.heap.size ≤ ba ∧ w.heap.size ≤ bb ∧ w.heap.size ≤ xb
  fc : ∀ i : Nat, f i = true → (i : Int) < c
  gc : ∀ i : Nat, g i = true → (i : Int) < c
theorem Sm.MeS.keep {w W W2 : World} {ba bb xb : Nat} {c : Int} {f g : Nat → Bool} (h : MeS w W ba bb xb c f g) (hb : Below W.heap.size W W2) : MeS w W2 ba bb xb c f g :=
  ⟨(hb.block _ (Array.getElem?_eq_some_iff.1 h.va).1).trans h.va, (hb.block _ (Array.getElem?_eq_some_iff.1 h.vb).1).trans h.vb, (hb.block _ (Array.getElem?_eq_some_iff.1 h.px).1).trans h.px, h.ne, h.l.trans (hb.mono h.l.size), h.lo, h.fc, h.gc⟩
theorem Sm.adF_lt {c p : Int} {f : Nat → Bool} (h : ∀ i : Nat, f i = true → (i : Int) < c) : ∀ i : Nat, adF c p f i = true → (i : Int) < c := by
  intro i hi
  unfold adF at hi
  split at hi
  · rename_i hr
    unfold rpB at hr
    rw [Bool.and_eq_true, decide_eq_true_eq, decide_eq_true_eq] at hr
    unfold setF at hi
    split at hi
    · omega
    · exact h i hi
  · exact h i hi
theorem Sm.MeS.addA {w W W2 : World} {ba bb xb : Nat} {c p : Int} {f g : Nat → Bool} (h : MeS w W ba bb xb c f g) (hb : But (fun q => q = ba) W W2) (hv : W2.heap[ba]? = some (.cells #[.int .i64 c, .bool ((adF c p f) 0), .bool ((adF c p f) 1), .bool ((adF c p f) 2), .bool ((adF c p f) 3), .bool ((adF c p f) 4), .bool ((adF c p f) 5), .bool ((adF c p f) 6), .bool ((adF c p f) 7), .bool ((adF c p f) 8)] 54 (0, 0))) : MeS w W2 ba bb xb c (adF c p f) g :=
  ⟨hv, hb.box h.vb (by have := h.ne; omega), hb.box h.px (by have := h.ne; omega), h.ne, h.l.trans (hb.to_below h.l.size (fun q e => by have := h.lo; omega)), h.lo, adF_lt h.fc, h.gc⟩
theorem Sm.MeS.addB {w W W2 : World} {ba bb xb : Nat} {c p : Int} {f g : Nat → Bool} (h : MeS w W ba bb xb c f g) (hb : But (fun q => q = bb) W W2) (hv : W2.heap[bb]? = some (.cells #[.int .i64 c, .bool ((adF c p g) 0), .bool ((adF c p g) 1), .bool ((adF c p g) 2), .bool ((adF c p g) 3), .bool ((adF c p g) 4), .bool ((adF c p g) 5), .bool ((adF c p g) 6), .bool ((adF c p g) 7), .bool ((adF c p g) 8)] 54 (0, 0))) : MeS w W2 ba bb xb c f (adF c p g) :=
  ⟨hb.box h.va (by have := h.ne; omega), hv, hb.box h.px (by have := h.ne; omega), h.ne, h.l.trans (hb.to_below h.l.size (fun q e => by have := h.lo; omega)), h.lo, h.fc, adF_lt h.gc⟩
set_option maxRecDepth 100000 in
set_option maxHeartbeats 8000000 in
theorem Sm.meets_law (c r p r2 p2 r3 p3 : Int) (A4 : Option Addr) (n4 c4 : Nat) (l4 : List Int) (A5 : Option Addr) (n5 c5 : Nat) (l5 : List Int) (w : World)
    (e4 : l4.length = n4) (_g4 : n4 ≤ c4) (_m4 : c4 ≤ 9223372036854775807) (rd4 : Rds w (fun _ => False) A4 (l4.map fun k => .int .i64 k))
    (e5 : l5.length = n5) (_g5 : n5 ≤ c5) (_m5 : c5 ≤ 9223372036854775807) (rd5 : Rds w (fun _ => False) A5 (l5.map fun k => .int .i64 k)) :
    Calls Try.prog 8 #[.int .i64 c, .agg #[.int .i64 r, .int .i64 p], .agg #[.int .i64 r2, .int .i64 p2], .agg #[.int .i64 r3, .int .i64 p3], .slice A4 n4 c4, .slice A5 n5 c5] w fun e w' => e = .returned (.bool true) ∧ Below w.heap.size w w' := by
  obtain ⟨wA, hwA⟩ : ∃ v, ((w.alloc (.cells #[.int .i64 r, .int .i64 p] 23)).alloc (.cells #[.int .i64 r2, .int .i64 p2] 23)).alloc (.cells #[.int .i64 r3, .int .i64 p3] 23) = v := ⟨_, rfl⟩
  have hbA : Below w.heap.size w wA := by rw [← hwA]; exact (((Below.refl _ w).alloc (Nat.le_refl _) _).alloc (by simp) _).alloc (by simp; omega) _
  have q0 : wA.heap[w.heap.size]? = some (.cells #[.int .i64 r, .int .i64 p] 23 (0, 0)) := by
    rw [← hwA]; exact (Below.heap_alloc _ _ _ (by simp; omega)).trans ((Below.heap_alloc _ _ _ (by simp)).trans (World.alloc_heap_new w _))
  have q1 : wA.heap[w.heap.size + 1]? = some (.cells #[.int .i64 r2, .int .i64 p2] 23 (0, 0)) := by
    rw [← hwA]; refine (Below.heap_alloc _ _ _ (by simp)).trans ?_; have := World.alloc_heap_new (w.alloc (.cells #[.int .i64 r, .int .i64 p] 23)) (.cells #[.int .i64 r2, .int .i64 p2] 23); rwa [World.size_alloc] at this
  have q2 : wA.heap[w.heap.size + 1 + 1]? = some (.cells #[.int .i64 r3, .int .i64 p3] 23 (0, 0)) := by
    rw [← hwA]; have := World.alloc_heap_new ((w.alloc (.cells #[.int .i64 r, .int .i64 p] 23)).alloc (.cells #[.int .i64 r2, .int .i64 p2] 23)) (.cells #[.int .i64 r3, .int .i64 p3] 23); rwa [World.size_alloc, World.size_alloc] at this
  have HS : Hid (∀ W, Below wA.heap.size wA W → W.cell? ⟨w.heap.size, 0, none⟩ = some (.int .i64 r) ∧ W.cell? ⟨w.heap.size, 1, none⟩ = some (.int .i64 p) ∧ W.cell? ⟨w.heap.size + 1, 0, none⟩ = some (.int .i64 r2) ∧ W.cell? ⟨w.heap.size + 1, 1, none⟩ = some (.int .i64 p2) ∧ W.cell? ⟨w.heap.size + 1 + 1, 0, none⟩ = some (.int .i64 r3) ∧ W.cell? ⟨w.heap.size + 1 + 1, 1, none⟩ = some (.int .i64 p3)) := Lib.hid fun W hb => by
    have hl0 := (Array.getElem?_eq_some_iff.1 q0).1
    have hl1 := (Array.getElem?_eq_some_iff.1 q1).1
    have hl2 := (Array.getElem?_eq_some_iff.1 q2).1
    exact ⟨cell_keep hb hl0 (cell_of_heap q0 0), cell_keep hb hl0 (cell_of_heap q0 1), cell_keep hb hl1 (cell_of_heap q1 0), cell_keep hb hl1 (cell_of_heap q1 1), cell_keep hb hl2 (cell_of_heap q2 0), cell_keep hb hl2 (cell_of_heap q2 1)⟩
  have zA := HS.out wA (Below.refl _ _)
  have HBA := Lib.hid hbA
  have h1 := fun W => Compare_any r p r2 p2 W
  have h2 := fun W => Compare_any r2 p2 r p W
  have h3 := fun W => Compare_any r2 p2 r3 p3 W
  have h4 := fun W => Compare_any r p r3 p3 W
  have hcmp := cmp_three r p r2 p2 r3 p3
  obtain ⟨m1, hq1⟩ : ∃ q, cmpB r p r2 p2 = q := ⟨_, rfl⟩
  obtain ⟨m2, hq2⟩ : ∃ q, cmpB r2 p2 r p = q := ⟨_, rfl⟩
  obtain ⟨m3, hq3⟩ : ∃ q, cmpB r2 p2 r3 p3 = q := ⟨_, rfl⟩
  obtain ⟨m4, hq4⟩ : ∃ q, cmpB r p r3 p3 = q := ⟨_, rfl⟩
  rw [hq1] at h1 hcmp
  rw [hq2] at h2 hcmp
  rw [hq3] at h3 hcmp
  rw [hq4] at h4 hcmp
  have HCMP := Lib.hid hcmp
  have hw := fun W => works_any W
  have hn : ∀ (x : Int) W, Calls Try.prog 13 #[.int .i64 x] W fun e w' => e = .returned (.int .i64 x) ∧ W = w' := fun x W => num_any x W
  have HR4 := Lib.hid (RowI.of rd4)
  have HR5 := Lib.hid (RowI.of rd5)
  have HE4 := Lib.hid e4
  have HE5 := Lib.hid e5
  clear q0 q1 q2 hbA hq1 hq2 hq3 hq4 hcmp rd4 rd5 e4 e5 zA
  refine (callsIn_wide (n := 3)).1 (callsIn_of_wp_marks Try.func8 rfl trivial ?_ rfl)
  refine wpIn_wide.2 ?_
  simp only [Try.ntmps8, List.size_toArray, List.length_cons, List.length_nil, Nat.reduceAdd, Nat.reduceSub, Array.replicate_succ, Array.replicate_zero, List.push_toArray, List.append_toArray, List.nil_append, List.cons_append]
  by_cases h20 : n4 ≤ 20 ∧ n5 ≤ 20
  case neg =>
    have h20' : 20 < n4 ∨ (n4 ≤ 20 ∧ 20 < n5) := by omega
    clear h20
    rcases h20' with h20 | ⟨h20, h21⟩
    all_goals
      go_wp2_with (go_at_call 15; (with_reducible refine (hw _).mono ?_); rintro e w1 ⟨rfl, hb⟩)
      refine retM (v := .bool true) (by simp [results, Try.results8, go_sem]) rfl ⟨rfl, HBA.out.trans (hb.mono HBA.out.size)⟩
  obtain ⟨h20, h21⟩ := h20
  have zA := HS.out wA (Below.refl _ _)
  go_upto_region 3 with fail
  clear hwA
  refine wp_dead ?_

  have hS0 : (fun W => W.cell? ⟨w.heap.size, 0, none⟩ = some (.int .i64 r) ∧ W.cell? ⟨w.heap.size, 1, none⟩ = some (.int .i64 p) ∧ W.cell? ⟨w.heap.size + 1, 0, none⟩ = some (.int .i64 r2) ∧ W.cell? ⟨w.heap.size + 1, 1, none⟩ = some (.int .i64 p2) ∧ W.cell? ⟨w.heap.size + 1 + 1, 0, none⟩ = some (.int .i64 r3) ∧ W.cell? ⟨w.heap.size + 1 + 1, 1, none⟩ = some (.int .i64 p3)) wA.drew := zA
  refine wp_region_held_drew (S := fun W => W.cell? ⟨w.heap.size, 0, none⟩ = some (.int .i64 r) ∧ W.cell? ⟨w.heap.size, 1, none⟩ = some (.int .i64 p) ∧ W.cell? ⟨w.heap.size + 1, 0, none⟩ = some (.int .i64 r2) ∧ W.cell? ⟨w.heap.size + 1, 1, none⟩ = some (.int .i64 p2) ∧ W.cell? ⟨w.heap.size + 1 + 1, 0, none⟩ = some (.int .i64 r3) ∧ W.cell? ⟨w.heap.size + 1 + 1, 1, none⟩ = some (.int .i64 p3)) rfl hS0 (fun hHeld => ?_)
  simp only [List.size_toArray, List.length_cons, List.length_nil, Nat.reduceAdd]
  have HB0 : Hid (Below wA.heap.size wA wA.drew) := Lib.hid (Below.refl _ _).drew
  obtain ⟨V0, hV0⟩ : ∃ V, wA.drew = V := ⟨_, rfl⟩
  rw [hV0] at hHeld hS0 HB0 ⊢
  clear hV0
  refine wpAnyH_take (i := 0) (v := .agg #[.int .i64 r, .int .i64 p]) rfl (by kernel_rfl) (by kernel_rfl) (by kernel_rfl) (fun _ _ _ h => h) (Or.inl ⟨by rfl, ?_⟩) (by assumption) ?_
  · intro wx hs1; obtain ⟨s0, s1, s2, s3, s4, s5⟩ := hs1; go_simp
  (try simp only [Act.put, List.getElem_toArray, List.getElem_cons_zero, List.setIfInBounds_toArray, List.set_cons_zero, List.set_cons_succ])
  refine wpAnyH_take (i := 1) (v := .agg #[.int .i64 r2, .int .i64 p2]) rfl (by kernel_rfl) (by kernel_rfl) (by kernel_rfl) (fun _ _ _ h => h) (Or.inl ⟨by rfl, ?_⟩) (by assumption) ?_
  · intro wx hs1; obtain ⟨s0, s1, s2, s3, s4, s5⟩ := hs1; go_simp
  (try simp only [Act.put, List.getElem_toArray, List.getElem_cons_succ, List.getElem_cons_zero, List.setIfInBounds_toArray, List.set_cons_zero, List.set_cons_succ])
  refine wpAnyH_take (i := 3) (v := .agg #[.int .i64 r2, .int .i64 p2]) rfl (by kernel_rfl) (by kernel_rfl) (by kernel_rfl) (fun _ _ _ h => h) (Or.inl ⟨by rfl, ?_⟩) (by assumption) ?_
  · intro wx hs1; obtain ⟨s0, s1, s2, s3, s4, s5⟩ := hs1; go_simp
  (try simp only [Act.put, List.getElem_toArray, List.getElem_cons_succ, List.getElem_cons_zero, List.setIfInBounds_toArray, List.set_cons_zero, List.set_cons_succ])
  refine wpAnyH_take (i := 4) (v := .agg #[.int .i64 r, .int .i64 p]) rfl (by kernel_rfl) (by kernel_rfl) (by kernel_rfl) (fun _ _ _ h => h) (Or.inl ⟨by rfl, ?_⟩) (by assumption) ?_
  · intro wx hs1; obtain ⟨s0, s1, s2, s3, s4, s5⟩ := hs1; go_simp
  (try simp only [Act.put, List.getElem_toArray, List.getElem_cons_succ, List.getElem_cons_zero, List.setIfInBounds_toArray, List.set_cons_zero, List.set_cons_succ])
  refine wpAnyH_take (i := 6) (v := .agg #[.int .i64 r2, .int .i64 p2]) rfl (by kernel_rfl) (by kernel_rfl) (by kernel_rfl) (fun _ _ _ h => h) (Or.inl ⟨by rfl, ?_⟩) (by assumption) ?_
  · intro wx hs1; obtain ⟨s0, s1, s2, s3, s4, s5⟩ := hs1; go_simp
  (try simp only [Act.put, List.getElem_toArray, List.getElem_cons_succ, List.getElem_cons_zero, List.setIfInBounds_toArray, List.set_cons_zero, List.set_cons_succ])
  refine wpAnyH_take (i := 7) (v := .agg #[.int .i64 r3, .int .i64 p3]) rfl (by kernel_rfl) (by kernel_rfl) (by kernel_rfl) (fun _ _ _ h => h) (Or.inl ⟨by rfl, ?_⟩) (by assumption) ?_
  · intro wx hs1; obtain ⟨s0, s1, s2, s3, s4, s5⟩ := hs1; go_simp
  (try simp only [Act.put, List.getElem_toArray, List.getElem_cons_succ, List.getElem_cons_zero, List.setIfInBounds_toArray, List.set_cons_zero, List.set_cons_succ])
  refine wpAnyH_take (i := 9) (v := .agg #[.int .i64 r, .int .i64 p]) rfl (by kernel_rfl) (by kernel_rfl) (by kernel_rfl) (fun _ _ _ h => h) (Or.inl ⟨by rfl, ?_⟩) (by assumption) ?_
  · intro wx hs1; obtain ⟨s0, s1, s2, s3, s4, s5⟩ := hs1; go_simp
  (try simp only [Act.put, List.getElem_toArray, List.getElem_cons_succ, List.getElem_cons_zero, List.setIfInBounds_toArray, List.set_cons_zero, List.set_cons_succ])
  refine wpAnyH_take (i := 10) (v := .agg #[.int .i64 r3, .int .i64 p3]) rfl (by kernel_rfl) (by kernel_rfl) (by kernel_rfl) (fun _ _ _ h => h) (Or.inl ⟨by rfl, ?_⟩) (by assumption) ?_
  · intro wx hs1; obtain ⟨s0, s1, s2, s3, s4, s5⟩ := hs1; go_simp
  (try simp only [Act.put, List.getElem_toArray, List.getElem_cons_succ, List.getElem_cons_zero, List.setIfInBounds_toArray, List.set_cons_zero, List.set_cons_succ])
  refine wpAnyH_ready (rs := [2]) (by kernel_rfl) (by simp) (AllReadyH.cons rfl (fun K hK => ?_) AllReadyH.nil)
  go_simp
  go_at_call 11
  (with_reducible refine (h1 _).mono ?_)
  rintro e w1 ⟨rfl, hb⟩
  dsimp only
  have HB1 : Hid (Below wA.heap.size wA w1) := Lib.hid (HB0.out.trans (hb.mono HB0.out.size)); clear hb; have hS := HS.out _ HB1.out
  refine hK.out _ _ hS (fun _ => ?_)
  clear hK K
  (try simp only [Act.put, List.getElem_toArray, List.getElem_cons_succ, List.getElem_cons_zero, List.setIfInBounds_toArray, List.set_cons_zero, List.set_cons_succ])
  refine wpAnyH_ready (rs := [5]) (by kernel_rfl) (by simp) (AllReadyH.cons rfl (fun K hK => ?_) AllReadyH.nil)
  go_simp
  go_at_call 11
  (with_reducible refine (h2 _).mono ?_)
  rintro e w2 ⟨rfl, hb⟩
  dsimp only
  have HB2 : Hid (Below wA.heap.size wA w2) := Lib.hid (HB1.out.trans (hb.mono HB1.out.size)); clear hb; have hS := HS.out _ HB2.out
  refine hK.out _ _ hS (fun _ => ?_)
  clear hK K
  (try simp only [Act.put, List.getElem_toArray, List.getElem_cons_succ, List.getElem_cons_zero, List.setIfInBounds_toArray, List.set_cons_zero, List.set_cons_succ])
  refine wpAnyH_ready (rs := [8]) (by kernel_rfl) (by simp) (AllReadyH.cons rfl (fun K hK => ?_) AllReadyH.nil)
  go_simp
  go_at_call 11
  (with_reducible refine (h3 _).mono ?_)
  rintro e w3 ⟨rfl, hb⟩
  dsimp only
  have HB3 : Hid (Below wA.heap.size wA w3) := Lib.hid (HB2.out.trans (hb.mono HB2.out.size)); clear hb; have hS := HS.out _ HB3.out
  refine hK.out _ _ hS (fun _ => ?_)
  clear hK K
  (try simp only [Act.put, List.getElem_toArray, List.getElem_cons_succ, List.getElem_cons_zero, List.setIfInBounds_toArray, List.set_cons_zero, List.set_cons_succ])
  refine wpAnyH_ready (rs := [11]) (by kernel_rfl) (by simp) (AllReadyH.cons rfl (fun K hK => ?_) AllReadyH.nil)
  go_simp
  go_at_call 11
  (with_reducible refine (h4 _).mono ?_)
  rintro e w4 ⟨rfl, hb⟩
  dsimp only
  have HB4 : Hid (Below wA.heap.size wA w4) := Lib.hid (HB3.out.trans (hb.mono HB3.out.size)); clear hb; have hS := HS.out _ HB4.out
  refine hK.out _ _ hS (fun _ => ?_)
  clear hK K
  (try simp only [Act.put, List.getElem_toArray, List.getElem_cons_succ, List.getElem_cons_zero, List.setIfInBounds_toArray, List.set_cons_zero, List.set_cons_succ])
  refine wpAnyH_take (i := 12) (v := .int .i64 m1) rfl (by kernel_rfl) (by kernel_rfl) (by kernel_rfl) (fun _ _ _ h => h) (Or.inl ⟨by rfl, ?_⟩) (by assumption) ?_
  · intro wx hs1; go_simp
  (try simp only [Act.put, List.getElem_toArray, List.getElem_cons_succ, List.getElem_cons_zero, List.setIfInBounds_toArray, List.set_cons_zero, List.set_cons_succ])
  refine wpAnyH_take (i := 13) (v := .int .i64 m2) rfl (by kernel_rfl) (by kernel_rfl) (by kernel_rfl) (fun _ _ _ h => h) (Or.inl ⟨by rfl, ?_⟩) (by assumption) ?_
  · intro wx hs1; go_simp
  (try simp only [Act.put, List.getElem_toArray, List.getElem_cons_succ, List.getElem_cons_zero, List.setIfInBounds_toArray, List.set_cons_zero, List.set_cons_succ])
  refine wpAnyH_take (i := 14) (v := .int .i64 m3) rfl (by kernel_rfl) (by kernel_rfl) (by kernel_rfl) (fun _ _ _ h => h) (Or.inl ⟨by rfl, ?_⟩) (by assumption) ?_
  · intro wx hs1; go_simp
  (try simp only [Act.put, List.getElem_toArray, List.getElem_cons_succ, List.getElem_cons_zero, List.setIfInBounds_toArray, List.set_cons_zero, List.set_cons_succ])
  refine wpAnyH_take (i := 15) (v := .int .i64 m4) rfl (by kernel_rfl) (by kernel_rfl) (by kernel_rfl) (fun _ _ _ h => h) (Or.inl ⟨by rfl, ?_⟩) (by assumption) ?_
  · intro wx hs1; go_simp
  (try simp only [Act.put, List.getElem_toArray, List.getElem_cons_succ, List.getElem_cons_zero, List.setIfInBounds_toArray, List.set_cons_zero, List.set_cons_succ])
  refine wpAnyH_done (by kernel_rfl) ?_ _
  obtain ⟨k0, k1, k2, k3, k4, k5⟩ := HS.out w4 HB4.out
  have HB4w : Hid (Below w.heap.size w w4) := Lib.hid (HBA.out.trans (HB4.out.mono HBA.out.size))
  go_upto_region 4 with fail
  go_cut [80] from 46 to 80 (fun s80 wx => s80 = .bool false ∧ wx = w4)
  case first =>
    clear hw h1 h2 h3 h4 hn
    have hcm := HCMP.out
    rcases hcm with ⟨rfl, rfl, hxy, htr⟩ | ⟨rfl, rfl, rfl, rfl⟩ | ⟨rfl, rfl, hxy⟩
    · have hd : ((r == r2) = false) ∨ ((r == r2) = true ∧ (p == p2) = false ∧ (p != p2) = true) := by
        by_cases e : r = r2
        · have : ¬ p = p2 := fun e2 => hxy ⟨e, e2⟩
          exact .inr ⟨by simpa using e, by simpa using this, by simpa using this⟩
        · exact .inl (by simpa using e)
      clear hxy
      by_cases h3 : m3 < 0
      · have h4 := htr h3
        clear htr HCMP
        rcases hd with hd | ⟨hd, he, hf⟩
        · by_cases hp : (p != p2) = true
          · go_wp2
            go_meet
            exact ⟨by simp; omega, rfl⟩
          · have hp : (p != p2) = false := by simpa using hp
            go_wp2
            go_meet
            exact ⟨by simp; omega, rfl⟩
        · go_wp2
          go_meet
          exact ⟨by simp; omega, rfl⟩
      · clear htr HCMP
        rcases hd with hd | ⟨hd, he, hf⟩
        · by_cases hp : (p != p2) = true
          · go_wp2
            go_meet
            exact ⟨rfl, rfl⟩
          · have hp : (p != p2) = false := by simpa using hp
            go_wp2
            go_meet
            exact ⟨rfl, rfl⟩
        · go_wp2
          go_meet
          exact ⟨rfl, rfl⟩
    · have hd : (r == r) = true := by simp
      have he : (p == p) = true := by simp
      have hf : (p != p) = false := by simp
      clear HCMP
      go_wp2
      go_meet
      exact ⟨rfl, rfl⟩
    · have hd : ((r == r2) = false) ∨ ((r == r2) = true ∧ (p == p2) = false ∧ (p != p2) = true) := by
        by_cases e : r = r2
        · have : ¬ p = p2 := fun e2 => hxy ⟨e, e2⟩
          exact .inr ⟨by simpa using e, by simpa using this, by simpa using this⟩
        · exact .inl (by simpa using e)
      clear hxy HCMP
      rcases hd with hd | ⟨hd, he, hf⟩
      · by_cases hp : (p != p2) = true
        · go_wp2
          go_meet
          exact ⟨rfl, rfl⟩
        · have hp : (p != p2) = false := by simpa using hp
          go_wp2
          go_meet
          exact ⟨rfl, rfl⟩
      · go_wp2
        go_meet
        exact ⟨rfl, rfl⟩
  case rest =>
    obtain ⟨rfl, rfl⟩ := hcut
    clear HCMP h1 h2 h3 h4 k0 k1 k2 k3 k4 k5 HB4 HS zA HBA
    cases hc : chB c with
    | false =>
      have hN := fun W => New_no c W hc
      have hn0 := hn 2
      go_wp2_with (first
        | (go_at_call 23; (with_reducible refine (hN wc).mono ?_); rintro e w5 ⟨rfl, hb5⟩; have HB5 : Hid (Below w.heap.size w w5) := Lib.hid (HB4w.out.trans (hb5.mono HB4w.out.size)); clear hb5)
        | (go_at_call 23; (with_reducible refine (hN _).mono ?_); rintro e w6 ⟨rfl, hb6⟩; have HB6 : Hid (Below w.heap.size w w6) := Lib.hid (HB5.out.trans (hb6.mono HB5.out.size)); clear hb6)
        | (go_at_call 13; (with_reducible refine (hn0 _).mono ?_); rintro e w' ⟨rfl, rfl⟩)
        | (go_at_call 15; (with_reducible refine (hw _).mono ?_); rintro e w7 ⟨rfl, hb7⟩; have HB7 : Hid (Below w.heap.size w w7) := Lib.hid (bel1 HB6.out HB6.out.size hb7); clear hb7))
      exact retM (v := .bool true) (by simp [results, Try.results8, go_sem]) rfl ⟨rfl, HB7.out⟩
    | true =>
    have hN := fun W => New_yes c W hc
    have hn0 := hn 0
    have HC := Lib.hid hc
    clear hc
    go_upto_region 10 with (first
      | (go_at_call 23; (with_reducible refine (hN wc).mono ?_); rintro e w5 ⟨ba, rfl, hbaz, hbac, hb5⟩; have HB5 : Hid (Below w.heap.size w w5) := Lib.hid (HB4w.out.trans (hb5.mono HB4w.out.size)); have HBA5 := Lib.hid hbac; have hlaz := Nat.le_trans HB4w.out.size hbaz; clear hb5 hbac hbaz)
      | (go_at_call 23; (with_reducible refine (hN _).mono ?_); rintro e w6 ⟨bb, rfl, hbbz, hbbc, hb6⟩; have HB6 : Hid (Below w.heap.size w w6) := Lib.hid (HB5.out.trans (hb6.mono HB5.out.size)); have HBB6 := Lib.hid hbbc; have HBA6 := Lib.hid ((hb6.block _ (Array.getElem?_eq_some_iff.1 HBA5.out).1).trans HBA5.out); have hla5 := (Array.getElem?_eq_some_iff.1 HBA5.out).1; clear hb6 hbbc)
      | (go_at_call 13; (with_reducible refine (hn0 _).mono ?_); rintro e w' ⟨rfl, rfl⟩))
    obtain ⟨w7, hw7⟩ : ∃ v, w6.alloc (.cells #[.pointer (some ⟨bb, 0, none⟩)] 46) = v := ⟨_, rfl⟩
    have hb7 : Below w6.heap.size w6 w7 := by rw [← hw7]; exact (Below.refl _ _).alloc (Nat.le_refl _) _
    have hlb6 := (Array.getElem?_eq_some_iff.1 HBB6.out).1
    have hz5 := HB5.out.size
    have HM : Hid (MeS w w7 ba bb w6.heap.size c (fun _ => false) (fun _ => false)) := Lib.hid ⟨(hb7.block _ (by have := (Array.getElem?_eq_some_iff.1 HBA6.out).1; omega)).trans HBA6.out, (hb7.block _ hlb6).trans HBB6.out, by rw [← hw7]; exact World.alloc_heap_new _ _, by omega, HB6.out.trans (hb7.mono HB6.out.size), by omega, (fun i h => by cases h), (fun i h => by cases h)⟩
    obtain ⟨xb, hxb⟩ : ∃ xb, w6.heap.size = xb := ⟨_, rfl⟩
    rw [hxb] at HM
    rw [hw7, hxb]
    clear hw7 hb7 hlb6 hz5 hxb HB5 HB6 HBA5 HBA6 HBB6 hbbz hla5 hlaz hN
    have hAd := fun (f : Nat → Bool) (x : Int) (W : World) (hW : W.heap[ba]? = some (.cells #[.int .i64 c, .bool (f 0), .bool (f 1), .bool (f 2), .bool (f 3), .bool (f 4), .bool (f 5), .bool (f 6), .bool (f 7), .bool (f 8)] 54 (0, 0))) => Add_any ba c x f W hW HC.out
    have hAe := fun (f : Nat → Bool) (x : Int) (W : World) (hW : W.heap[bb]? = some (.cells #[.int .i64 c, .bool (f 0), .bool (f 1), .bool (f 2), .bool (f 3), .bool (f 4), .bool (f 5), .bool (f 6), .bool (f 7), .bool (f 8)] 54 (0, 0))) => Add_any bb c x f W hW HC.out
    have HAD := Lib.hid hAd
    have HAE := Lib.hid hAe
    have hi4 : (n4 : Int) ≤ 20 := by omega
    have hi5 : (n5 : Int) ≤ 20 := by omega
    clear hAd hAe HB4w
    go_upto_region 11 with fail
    go_loopw [21] (fun v21 wr => ∃ (i : Nat) (f : Nat → Bool), i ≤ n4 ∧ v21 = .int .i64 (i : Int) ∧ Hid (MeS w wr ba bb xb c f (fun _ => false))) (fun v21 _ => n4 - (RowKit.intOf v21).toNat)
    case atStart => exact ⟨0, _, Nat.zero_le _, rfl, HM⟩
    case round =>
      obtain ⟨wo, rfl⟩ : ∃ wo : World, wo = wr := ⟨_, rfl⟩
      obtain ⟨i, f, hi, rfl, HI⟩ := hrel
      clear HM
      by_cases hlt : i < n4
      · have hkx : i < l4.length := by rw [HE4.out]; exact hlt
        rcases HR4.out with e | ⟨g, off, rfl, hg, hcl⟩
        · rw [e] at hkx; simp at hkx
        · have c0 := (HI.out.l.cell (p := ⟨g, off + i, none⟩) hg).trans (hcl i hkx)
          obtain ⟨x, hx⟩ : ∃ x, l4[i] = x := ⟨_, rfl⟩
          rw [hx] at c0
          have hgl := Nat.lt_of_lt_of_le hg HI.out.l.size
          have had := HAD.out f x wo HI.out.va
          clear hcl hx
          go_wp2_with (go_at_call 24; refine had.mono ?_; clear had; rintro e w8 ⟨rfl, hv8, hb8⟩; have HM8 := Lib.hid (HI.out.addA hb8 hv8); clear hv8 hb8)
          go_roundw
          case rel => exact ⟨i + 1, _, by omega, by go_num, HM8⟩
          case measure => simp [RowKit.intOf]; omega
      · obtain rfl : i = n4 := by omega
        go_upto_region 15 with fail
        go_loopw [22] (fun v22 wr => ∃ (i : Nat) (g : Nat → Bool), i ≤ n5 ∧ v22 = .int .i64 (i : Int) ∧ Hid (MeS w wr ba bb xb c f g)) (fun v22 _ => n5 - (RowKit.intOf v22).toNat)
        case atStart => exact ⟨0, _, Nat.zero_le _, rfl, HI⟩
        case round =>
          clear HI HAD
          obtain ⟨w1, rfl⟩ : ∃ w1 : World, w1 = wr := ⟨_, rfl⟩
          obtain ⟨j, g, hj, rfl, HI⟩ := hrel
          by_cases hlt5 : j < n5
          · have hkx : j < l5.length := by rw [HE5.out]; exact hlt5
            rcases HR5.out with e | ⟨gb, off, rfl, hg, hcl⟩
            · rw [e] at hkx; simp at hkx
            · obtain ⟨x, hx⟩ : ∃ x, l5[j] = x := ⟨_, rfl⟩
              have z0 : w1.cell? ⟨xb, 0, none⟩ = some (.pointer (some ⟨bb, 0, none⟩)) ∧ w1.cell? ⟨gb, off + j, none⟩ = some (.int .i64 x) := ⟨cell_of_heap HI.out.px 0, by rw [← hx]; exact (HI.out.l.cell (p := ⟨gb, off + j, none⟩) hg).trans (hcl j hkx)⟩
              have hgl := Nat.lt_of_lt_of_le hg HI.out.l.size
              have had := fun W (hb : Below w1.heap.size w1 W) => HAE.out g x W (HI.out.keep hb).vb
              have HAD := Lib.hid had
              clear hcl hx had
              go_upto_region 17 with fail
              refine wp_alive ?_
              have hS0 : (fun W => W.cell? ⟨xb, 0, none⟩ = some (.pointer (some ⟨bb, 0, none⟩)) ∧ W.cell? ⟨gb, off + j, none⟩ = some (.int .i64 x)) w1.drew := z0
              refine wp_region_held_drew (S := fun W => W.cell? ⟨xb, 0, none⟩ = some (.pointer (some ⟨bb, 0, none⟩)) ∧ W.cell? ⟨gb, off + j, none⟩ = some (.int .i64 x)) rfl hS0 (fun hHeld => ?_)
              simp only [List.size_toArray, List.length_cons, List.length_nil, Nat.reduceAdd]
              have HB0 : Hid (Below w1.heap.size w1 w1.drew) := Lib.hid (Below.refl _ _).drew
              obtain ⟨V0, hV0⟩ : ∃ V, w1.drew = V := ⟨_, rfl⟩
              rw [hV0] at hHeld hS0 HB0 ⊢
              clear hV0
              refine wpAnyH_take (i := 0) (v := .pointer (some ⟨bb, 0, none⟩)) rfl (by kernel_rfl) (by kernel_rfl) (by kernel_rfl) (fun _ _ _ h => (h.1 _ rfl).elim) (Or.inl ⟨by rfl, ?_⟩) (by assumption) ?_
              · intro wx hs1; obtain ⟨s0, s1⟩ := hs1; go_simp
              (try simp only [Act.put, List.getElem_toArray, List.getElem_cons_zero, List.setIfInBounds_toArray, List.set_cons_zero, List.set_cons_succ])
              refine wpAnyH_take (i := 1) (v := .slice (some ⟨gb, off, none⟩) n5 c5) rfl (by kernel_rfl) (by kernel_rfl) (by kernel_rfl) (fun _ _ _ h => (h.1 _ rfl).elim) (Or.inl ⟨by rfl, ?_⟩) (by assumption) ?_
              · intro wx hs1; go_simp
              (try simp only [Act.put, List.getElem_toArray, List.getElem_cons_succ, List.getElem_cons_zero, List.setIfInBounds_toArray, List.set_cons_zero, List.set_cons_succ])
              refine wpAnyH_take (i := 2) (v := .int .i64 (j : Int)) rfl (by kernel_rfl) (by kernel_rfl) (by kernel_rfl) (fun _ _ _ h => (h.1 _ rfl).elim) (Or.inl ⟨by rfl, ?_⟩) (by assumption) ?_
              · intro wx hs1; go_simp
              (try simp only [Act.put, List.getElem_toArray, List.getElem_cons_succ, List.getElem_cons_zero, List.setIfInBounds_toArray, List.set_cons_zero, List.set_cons_succ])
              refine wpAnyH_take (i := 3) (v := .pointer (some ⟨gb, off + j, none⟩)) rfl (by kernel_rfl) (by kernel_rfl) (by kernel_rfl) (fun _ _ _ h => (h.1 _ rfl).elim) (Or.inl ⟨by rfl, ?_⟩) (by assumption) ?_
              · intro wx hs1; go_simp
              (try simp only [Act.put, List.getElem_toArray, List.getElem_cons_succ, List.getElem_cons_zero, List.setIfInBounds_toArray, List.set_cons_zero, List.set_cons_succ])
              refine wpAnyH_take (i := 4) (v := .int .i64 x) rfl (by kernel_rfl) (by kernel_rfl) (by kernel_rfl) (fun _ _ _ h => (h.1 _ rfl).elim) (Or.inl ⟨by rfl, ?_⟩) (by assumption) ?_
              · intro wx hs1; obtain ⟨s0, s1⟩ := hs1; go_simp
              (try simp only [Act.put, List.getElem_toArray, List.getElem_cons_succ, List.getElem_cons_zero, List.setIfInBounds_toArray, List.set_cons_zero, List.set_cons_succ])
              refine wpAnyH_ready (rs := [5]) (by kernel_rfl) (by simp) (AllReadyH.cons rfl (fun K hK => ?_) AllReadyH.nil)
              go_simp
              go_at_call 24
              refine (HAD.out V0 HB0.out).mono ?_
              rintro e w9 ⟨rfl, hv9, hb9⟩
              dsimp only
              have HM9 := Lib.hid ((HI.out.keep HB0.out).addB hb9 hv9); have hS : (fun W => W.cell? ⟨xb, 0, none⟩ = some (.pointer (some ⟨bb, 0, none⟩)) ∧ W.cell? ⟨gb, off + j, none⟩ = some (.int .i64 x)) w9 := ⟨cell_of_heap HM9.out.px 0, ((hb9.cell (p := ⟨gb, off + j, none⟩) (Nat.lt_of_lt_of_le hgl HB0.out.size) (fun e => by have h1 := HM9.out.lo; have e2 : gb = bb := e; omega))).trans hS0.2⟩; clear hb9 hv9
              refine hK.out _ _ hS (fun _ => ?_)
              clear hK K
              (try simp only [Act.put, List.getElem_toArray, List.getElem_cons_succ, List.getElem_cons_zero, List.setIfInBounds_toArray, List.set_cons_zero, List.set_cons_succ])
              refine wpAnyH_done (by kernel_rfl) ⟨(fun _ h => by cases h), ?_⟩ _
              go_wp2
              go_roundw
              case rel => exact ⟨j + 1, _, by omega, by go_num, HM9⟩
              case measure => simp [RowKit.intOf]; omega
          · obtain rfl : j = n5 := by omega
            have hfn : ∀ (b : Nat) (wx : World), (binOp .eql 58 (.func (.func 50) #[] #[.pointer (some ⟨b, 0, none⟩)]) .nilFunc).run Try.prog wx = .ok (.bool false) wx := fun _ _ => by kernel_rfl
            obtain ⟨xm, hxm⟩ : ∃ xm, w1.heap.size = xm := ⟨_, rfl⟩
            have hbM : Below w1.heap.size w1 (w1.alloc (.cells #[.bool false] 4)) := (Below.refl _ _).alloc (Nat.le_refl _) _
            have HMM : Hid (MeS w (w1.alloc (.cells #[.bool false] 4)) ba bb xb c f g) := Lib.hid (HI.out.keep hbM)
            have hxm0 : (w1.alloc (.cells #[.bool false] 4)).heap[xm]? = some (.cells #[.bool false] 4 (0, 0)) := by rw [← hxm]; exact World.alloc_heap_new w1 _
            have HXM := Lib.hid hxm0
            have hlow : w.heap.size ≤ xm := by rw [← hxm]; exact HI.out.l.size
            have hne : ba ≠ xm ∧ bb ≠ xm ∧ xb ≠ xm := by
              have l1 := (Array.getElem?_eq_some_iff.1 HI.out.va).1
              have l2 := (Array.getElem?_eq_some_iff.1 HI.out.vb).1
              have l3 := (Array.getElem?_eq_some_iff.1 HI.out.px).1
              omega
            have hp1 := Places_any (.pointer (some ⟨ba, 0, none⟩)) c f (w1.alloc (.cells #[.bool false] 4)) (.inr ⟨ba, rfl, HMM.out.va⟩)
            have HP2 : Hid (∀ W, Below (w1.alloc (.cells #[.bool false] 4)).heap.size (w1.alloc (.cells #[.bool false] 4)) W → Calls Try.prog 25 #[.pointer (some ⟨ba, 0, none⟩)] W fun e w' => ∃ b, e = .returned (.func (.func 50) #[] #[.pointer (some ⟨b, 0, none⟩)]) ∧ W.heap.size ≤ b ∧ w'.heap[b]? = some (.cells #[.bool (f 0), .bool (f 1), .bool (f 2), .bool (f 3), .bool (f 4), .bool (f 5), .bool (f 6), .bool (f 7), .bool (f 8)] 52 (0, 0)) ∧ Below W.heap.size W w') := Lib.hid fun W hb => Places_any _ c f W (.inr ⟨ba, rfl, (HMM.out.keep hb).va⟩)
            have HX := Lib.hid hxm
            clear hxm hbM hxm0 HI HAE
            go_wp2_with (first
              | (go_at_call 25; (with_reducible refine hp1.mono ?_); clear hp1; rintro e w10 ⟨b0, rfl, _, _, hb10⟩; have HB10 := Lib.hid hb10; have hp2 := HP2.out w10 hb10; clear hb10)
              | (go_at_call 25; (with_reducible refine hp2.mono ?_); clear hp2; rintro e w11 ⟨b, rfl, hbz, hbc, hb11⟩; have HB11 := Lib.hid (HB10.out.trans (hb11.mono HB10.out.size)); clear hb11))
            rename_i K hK
            have HM11 : Hid (MeS w w11 ba bb xb c f g) := Lib.hid (HMM.out.keep HB11.out)
            have hx11 : w11.heap[xm]? = some (.cells #[.bool false] 4 (0, 0)) := (HB11.out.block _ (Array.getElem?_eq_some_iff.1 HXM.out).1).trans HXM.out
            have hlx := (Array.getElem?_eq_some_iff.1 hx11).1
            rw [HX.out] at *
            clear hfn HP2 HMM HXM HB10 HB11 HX
            refine (wpIn_wide (n := 3)).1 ?_
            refine wpIn_range1 (gf := 50) (lb := #[.pointer (some ⟨b, 0, none⟩)]) rfl (enters_of Try.func50 (by kernel_rfl) rfl)
              (places_seq w11 hbc (fun q => q = xm)) (fun q e => by have e2 : q = xm := e; omega) ?hH ?hrow 136 24 rfl ?hargs
              (fun k W => ∃ m : Bool, W.heap[xm]? = some (.cells #[.bool m] 4 (0, 0)) ∧ (m = true ↔ ∃ q : Nat, q < 9 ∧ f q = true ∧ g q = true ∧ cntF f q < k) ∧ But (fun q => q = xm) w11 W) (fun _ _ _ => False) ?hI (fun _ _ _ _ h _ => h)
              ⟨false, hx11, ⟨(fun h => by cases h), (fun ⟨q, _, _, _, h⟩ => by omega)⟩, But.refl _ _⟩ ?assign ?body ?done (fun _ _ _ _ h _ => h.elim)
            case hH => exact fun k args W W' hh _ => hh
            case hrow => exact fun k args W b _ e => e.elim
            case hargs =>
              rintro k args W ⟨p, _, _, _, rfl⟩
              exact ⟨_, rfl⟩
            case hI => exact fun k W W' ⟨m, i1, i2, i3⟩ hb => ⟨m, (hb.block _ hlx).trans i1, i2, i3.trans (But.of_below hb) (fun b hb' e => absurd hb' (Nat.not_lt.2 e))⟩
            case assign =>
              intro l0 y W K2 hK2
              simp only [List.setIfInBounds_toArray, List.set_cons_zero, List.set_cons_succ] at hK2 ⊢
              gi_wp2
              exact hK2
            case body =>
              rintro l0 k y W hsz ⟨m, i1, i2, i3⟩ ⟨q, hq, hf, hk, e⟩
              simp only [Array.mk.injEq, List.cons.injEq, and_true] at e
              obtain rfl := e
              simp only [List.setIfInBounds_toArray, List.set_cons_zero, List.set_cons_succ]
              have k1 := cell_of_heap i1 0
              have k2 := frozen_of_heap i1 0
              simp only [List.getElem?_toArray, List.getElem?_cons_zero] at k1
              have HI3 := Lib.hid i3
              have HI2 := Lib.hid i2
              have HI1 := Lib.hid i1
              have HF := Lib.hid (And.intro hf hk)
              clear i1 i2 i3 hf hk
              cases m with
              | true =>
                have hbx := heap_setCells (i := 0) (u := .bool true) HI1.out
                have HQ := Lib.hid (but_set xm 0 W (.bool true))
                have HBX := Lib.hid hbx
                have HN : Hid (true = true ↔ ∃ q : Nat, q < 9 ∧ f q = true ∧ g q = true ∧ cntF f q < k + 1) := Lib.hid ⟨fun _ => by obtain ⟨z, z1, z2, z3, z4⟩ := HI2.out.1 rfl; exact ⟨z, z1, z2, z3, by omega⟩, fun _ => rfl⟩
                clear hbx
                gi_wp2
                refine ⟨trivial, ?_⟩
                gi_wp2
                exact ⟨trivial, HQ.out.mono (fun b _ e => .inl e), true, HBX.out, ⟨fun _ => HN.out.1 trivial, fun _ => rfl⟩, HI3.out.trans HQ.out (fun _ _ e => e)⟩
              | false =>
                have hvb := HI3.out.box HM11.out.vb (by have := hne; omega)
                have hpx := cell_of_heap (HI3.out.box HM11.out.px (by have := hne; omega)) 0
                simp only [List.getElem?_toArray, List.getElem?_cons_zero] at hpx
                have hH := Has_any (.pointer (some ⟨bb, 0, none⟩)) c g (q : Int) W (.inr ⟨bb, rfl, hvb⟩)
                have hgq : hasB g (q : Int) = g q := by unfold hasB; simp; omega
                rw [hgq] at hH
                obtain ⟨m2, hm2⟩ : ∃ m2, g q = m2 := ⟨_, rfl⟩
                rw [hm2] at hH
                have HN : Hid (m2 = true ↔ ∃ q : Nat, q < 9 ∧ f q = true ∧ g q = true ∧ cntF f q < k + 1) := Lib.hid (by
                  rw [← hm2]
                  constructor
                  · intro h
                    exact ⟨q, hq, HF.out.1, h, by have := HF.out.2; omega⟩
                  · rintro ⟨z, z1, z2, z3, z4⟩
                    by_cases e : cntF f z < k
                    · exact absurd (HI2.out.2 ⟨z, z1, z2, z3, e⟩) (by decide)
                    · have : z = q := cntF_inj f z2 HF.out.1 (by have := HF.out.2; omega)
                      rw [← this]; exact z3)
                clear hvb hgq hm2
                gi_wp2_with ((try refine ⟨trivial, ?_⟩); gi_at_call 26; refine (callsIn_wide.2 hH).mono ?_; clear hH; rintro e W2 ⟨rfl, hb2⟩; have hx2 := (hb2.block _ (Array.getElem?_eq_some_iff.1 HI1.out).1).trans HI1.out; have k3 := frozen_of_heap hx2 0; have k4 := cell_of_heap hx2 0; simp only [List.getElem?_toArray, List.getElem?_cons_zero] at k4; have HX2 := Lib.hid (heap_setCells (i := 0) (u := .bool m2) hx2); have HQ : Hid (But (fun q => q = xm) W (W2.setCell ⟨xm, 0, none⟩ (.bool m2))) := Lib.hid ((But.of_all hb2 _).trans (but_set xm 0 W2 (.bool m2)) (fun _ _ e => e)); clear hx2 hb2)
                exact ⟨trivial, HQ.out.mono (fun b _ e => .inl e), m2, HX2.out, HN.out, HI3.out.trans HQ.out (fun _ _ e => e)⟩
            case done =>
              rintro k W hkk ⟨m, i1, i2, i3⟩ hD
              show K _ _
              refine hK _ _ ?_
              clear hK
              have hmm : m = true ↔ ∃ q : Nat, q < 9 ∧ f q = true ∧ g q = true := by
                rw [i2]
                constructor
                · rintro ⟨q, h1, h2, h3, _⟩
                  exact ⟨q, h1, h2, h3⟩
                · rintro ⟨q, h1, h2, h3⟩
                  exact ⟨q, h1, h2, h3, by rw [hkk]; exact cntF_lt f h1 h2⟩
              have hwin : wonB c f = true → wonB c g = true → m = true := fun h1 h2 => hmm.2 (won_meet HC.out HM11.out.fc HM11.out.gc h1 h2)
              have hbW : Below w.heap.size w W := HM11.out.l.trans (i3.to_below HM11.out.l.size (fun q e => by have e2 : q = xm := e; omega))
              have hMW : MeS w W ba bb xb c f g := ⟨i3.box HM11.out.va (fun e => hne.1 e), i3.box HM11.out.vb (fun e => hne.2.1 e), i3.box HM11.out.px (fun e => hne.2.2 e), HM11.out.ne, hbW, HM11.out.lo, HM11.out.fc, HM11.out.gc⟩
              have k1 := cell_of_heap i1 0
              simp only [List.getElem?_toArray, List.getElem?_cons_zero] at k1
              have HMW := Lib.hid hMW
              have HI1 := Lib.hid i1
              have HD := Lib.hid hD
              have HZ := Lib.hid (Nat.le_trans HM11.out.l.size (Nat.le_refl _))
              have hWa := Won_any (.pointer (some ⟨ba, 0, none⟩)) c f W (.inr ⟨ba, rfl, hMW.va⟩)
              have HWb : Hid (∀ V, Below W.heap.size W V → Calls Try.prog 28 #[.pointer (some ⟨bb, 0, none⟩)] V fun e w' => e = .returned (.bool (wonB c g)) ∧ Below V.heap.size V w') := Lib.hid fun V hb => Won_any (.pointer (some ⟨bb, 0, none⟩)) c g V (.inr ⟨bb, rfl, (hMW.keep hb).vb⟩)
              have HXM : Hid (∀ V, Below W.heap.size W V → V.cell? ⟨xm, 0, none⟩ = some (.bool m) ∧ V.cell? ⟨xb, 0, none⟩ = some (.pointer (some ⟨bb, 0, none⟩))) := Lib.hid fun V hb => ⟨cell_keep hb (Array.getElem?_eq_some_iff.1 i1).1 (cell_of_heap i1 0), cell_of_heap (hMW.keep hb).px 0⟩
              obtain ⟨wa, hwa⟩ : ∃ x, wonB c f = x := ⟨_, rfl⟩
              obtain ⟨wb, hwb⟩ : ∃ x, wonB c g = x := ⟨_, rfl⟩
              rw [hwa] at hWa hwin
              rw [hwb] at HWb hwin
              have HWIN := Lib.hid hwin
              clear i1 i2 i3 hD hmm hwin hbW hMW hwa hwb hkk
              cases wa with
              | false =>
                go_wp2_with (first
                  | (go_at_call 28; (with_reducible refine hWa.mono ?_); clear hWa; rintro e V1 ⟨rfl, hb1⟩; have HV1 := Lib.hid hb1; clear hb1)
                  | (go_at_call 15; (with_reducible refine (hw _).mono ?_); rintro e V2 ⟨rfl, hb2⟩; have HV2 := Lib.hid (HV1.out.trans (hb2.mono HV1.out.size)); clear hb2))
                exact retM1 (D := w11.heap.size) (v := .bool true) rfl ((HV2.out.block _ (Array.getElem?_eq_some_iff.1 HD.out).1).trans HD.out) (by simp [results, Try.results8, go_sem]) ⟨rfl, But.below (HMW.out.l.trans (HV2.out.mono HMW.out.l.size)) (put_but _ _ _) (fun b e => by have := HZ.out; omega)⟩
              | true =>
                cases wb with
                | false =>
                  go_wp2_with (first
                    | (go_at_call 28; (with_reducible refine hWa.mono ?_); clear hWa; rintro e V1 ⟨rfl, hb1⟩; have HV1 := Lib.hid hb1; obtain ⟨g0, g1⟩ := HXM.out V1 hb1; have hWb := HWb.out V1 hb1; clear hb1)
                    | (go_at_call 28; (with_reducible refine hWb.mono ?_); clear hWb; rintro e V3 ⟨rfl, hb3⟩; have HV3 := Lib.hid (HV1.out.trans (hb3.mono HV1.out.size)); clear hb3)
                    | (go_at_call 15; (with_reducible refine (hw _).mono ?_); rintro e V2 ⟨rfl, hb2⟩; have HV2 := Lib.hid (HV3.out.trans (hb2.mono HV3.out.size)); clear hb2))
                  exact retM1 (D := w11.heap.size) (v := .bool true) rfl ((HV2.out.block _ (Array.getElem?_eq_some_iff.1 HD.out).1).trans HD.out) (by simp [results, Try.results8, go_sem]) ⟨rfl, But.below (HMW.out.l.trans (HV2.out.mono HMW.out.l.size)) (put_but _ _ _) (fun b e => by have := HZ.out; omega)⟩
                | true =>
                  obtain rfl : m = true := HWIN.out rfl rfl
                  go_wp2_with (first
                    | (go_at_call 28; (with_reducible refine hWa.mono ?_); clear hWa; rintro e V1 ⟨rfl, hb1⟩; have HV1 := Lib.hid hb1; obtain ⟨g0, g1⟩ := HXM.out V1 hb1; have hWb := HWb.out V1 hb1; clear hb1)
                    | (go_at_call 28; (with_reducible refine hWb.mono ?_); clear hWb; rintro e V3 ⟨rfl, hb3⟩; have HV3 := Lib.hid (HV1.out.trans (hb3.mono HV1.out.size)); clear hb3; obtain ⟨g2, g3⟩ := HXM.out V3 HV3.out)
                    | (go_at_call 15; (with_reducible refine (hw _).mono ?_); rintro e V2 ⟨rfl, hb2⟩; have HV2 := Lib.hid (HV3.out.trans (hb2.mono HV3.out.size)); clear hb2))
                  exact retM1 (D := w11.heap.size) (v := .bool true) rfl ((HV2.out.block _ (Array.getElem?_eq_some_iff.1 HD.out).1).trans HD.out) (by simp [results, Try.results8, go_sem]) ⟨rfl, But.below (HMW.out.l.trans (HV2.out.mono HMW.out.l.size)) (put_but _ _ _) (fun b e => by have := HZ.out; omega)⟩
end Go.Proofs
