/-
  How often slots are seen while the slots of all places are gone over; the end of a function that went over many. Pure but for its last theorems. Conditions: as each theorem names them.
-/
import Derived.Test.YtdiidiaipfkmlaaSlQ
import Derived.Test.YtdiidiaipfkmlaaSlR
namespace Go.Proofs
open Go Go.RowKit Sm Go.Lib
/-- how often slot f + i was seen, behind p places and k slots of the next one -/
def Sm.seB (c p f : Int) (k i : Nat) : Int := if (f + i) % c < p ∨ ((f + i) % c = p ∧ (f + i) / c < ahV c p f + k) then 1 else 0
theorem Sm.se_start {c f : Int} (i : Nat) (h : chB c = true) (hf : 0 ≤ f) : seB c 0 f 0 i = 0 := by
  have := hf
  unfold seB ahV
  rw [if_neg]
  rcases chB_iff.1 h with rfl | rfl | rfl | rfl <;> omega
theorem Sm.se_hit {c p f : Int} {k i : Nat} (h : chB c = true) (hp : 0 ≤ p) (hp2 : p < c) (hf : 0 ≤ f) (hi : f + i = atV c p f k) : seB c p f k i = 0 := by
  have := hp
  have := hp2
  have := hf
  unfold atV at hi
  unfold seB
  rw [if_neg]
  rw [hi]
  generalize ahV c p f + (k : Int) = x
  rcases chB_iff.1 h with rfl | rfl | rfl | rfl <;> omega
theorem Sm.se_next {c p f : Int} {k i0 : Nat} (i : Nat) (h : chB c = true) (hp : 0 ≤ p) (hp2 : p < c) (hi : f + i0 = atV c p f k) : seB c p f (k + 1) i = if i = i0 then 1 else seB c p f k i := by
  have := hp
  have := hp2
  unfold atV at hi
  unfold seB
  revert hi
  rw [show (((k + 1 : Nat) : Int)) = (k : Int) + 1 by omega, show ahV c p f + ((k : Int) + 1) = ahV c p f + (k : Int) + 1 by omega]
  generalize ahV c p f + (k : Int) = x
  intro hi
  rcases chB_iff.1 h with rfl | rfl | rfl | rfl
  all_goals
    split <;> split <;> first | rfl | skip
    all_goals
      first
        | omega
        | (split <;> omega)
theorem Sm.se_turn {c p f t : Int} {m : Nat} (i : Nat) (h : chB c = true) (hp : 0 ≤ p) (hp2 : p < c) (hm : (m : Int) = ahV c p t - ahV c p f) (hf : 0 ≤ f) (hi : f + i < t) : seB c (p + 1) f 0 i = seB c p f m i := by
  have := hp
  have := hp2
  have := hf
  unfold seB
  rw [hm, show ahV c p f + (ahV c p t - ahV c p f) = ahV c p t by omega]
  unfold ahV
  rcases chB_iff.1 h with rfl | rfl | rfl | rfl
  all_goals
    split <;> split <;> first | rfl | omega
theorem Sm.se_end {c f : Int} (i : Nat) (h : chB c = true) (hf : 0 ≤ f) : seB c c f 0 i = 1 := by
  have := hf
  unfold seB
  rw [if_pos]
  rcases chB_iff.1 h with rfl | rfl | rfl | rfl <;> omega
def Sm.rowS (c p f : Int) (k N : Nat) : List Value := (List.range N).map fun i => .int .i64 (seB c p f k i)
theorem Sm.rowS_len (c p f : Int) (k N : Nat) : (rowS c p f k N).length = N := by unfold rowS; simp
theorem Sm.rowS_get (c p f : Int) (k : Nat) {N i : Nat} (h : i < N) : (rowS c p f k N)[i]? = some (.int .i64 (seB c p f k i)) := by
  unfold rowS
  rw [List.getElem?_map, List.getElem?_range h]
  rfl
theorem Sm.rowS_start {c f : Int} (N : Nat) (h : chB c = true) (hf : 0 ≤ f) : rowS c 0 f 0 N = List.replicate N (.int .i64 0) := by
  refine List.ext_getElem? fun i => ?_
  by_cases hi : i < N
  · rw [rowS_get c 0 f 0 hi, se_start i h hf, List.getElem?_replicate, if_pos hi]
  · rw [List.getElem?_eq_none (by rw [rowS_len]; omega), List.getElem?_eq_none (by simp; omega)]
theorem Sm.rowS_next {c p f : Int} {k i0 N : Nat} (h : chB c = true) (hp : 0 ≤ p) (hp2 : p < c) (hi : f + i0 = atV c p f k) (hN : i0 < N) : (rowS c p f k N).set i0 (.int .i64 1) = rowS c p f (k + 1) N := by
  refine List.ext_getElem? fun i => ?_
  rw [List.getElem?_set]
  by_cases hiN : i < N
  · rw [rowS_get c p f (k + 1) hiN, se_next i h hp hp2 hi]
    by_cases e : i0 = i
    · subst e
      rw [if_pos rfl, rowS_len, if_pos hN, if_pos rfl]
    · rw [if_neg e, rowS_get c p f k hiN, if_neg (fun e2 => e e2.symm)]
  · rw [if_neg (by omega), List.getElem?_eq_none (by rw [rowS_len]; omega), List.getElem?_eq_none (by rw [rowS_len]; omega)]
theorem Sm.rowS_turn {c p f t : Int} {m N : Nat} (h : chB c = true) (hp : 0 ≤ p) (hp2 : p < c) (hm : (m : Int) = ahV c p t - ahV c p f) (hf : 0 ≤ f) (hN : f + N = t) : rowS c (p + 1) f 0 N = rowS c p f m N := by
  unfold rowS
  refine List.map_congr_left fun i hi => ?_
  rw [se_turn i h hp hp2 hm hf (by have := List.mem_range.1 hi; omega)]
/-- how many slots were seen behind p places -/
def Sm.nV (c f t : Int) : Nat → Int
  | 0 => 0
  | p + 1 => nV c f t p + (ahV c p t - ahV c p f)
theorem Sm.ah_sum3 (s : Int) : ahV 3 0 s + ahV 3 1 s + ahV 3 2 s = s := by unfold ahV; omega
theorem Sm.ah_sum5 (s : Int) : ahV 5 0 s + ahV 5 1 s + ahV 5 2 s + ahV 5 3 s + ahV 5 4 s = s := by
  obtain ⟨a, b, h, h0, h5⟩ : ∃ a b : Int, s = 5 * a + b ∧ 0 ≤ b ∧ b < 5 := ⟨s / 5, s % 5, by omega, by omega, by omega⟩
  subst h
  unfold ahV
  obtain rfl | rfl | rfl | rfl | rfl : b = 0 ∨ b = 1 ∨ b = 2 ∨ b = 3 ∨ b = 4 := by omega
  all_goals omega
theorem Sm.ah_sum7 (s : Int) : ahV 7 0 s + ahV 7 1 s + ahV 7 2 s + ahV 7 3 s + ahV 7 4 s + ahV 7 5 s + ahV 7 6 s = s := by
  obtain ⟨a, b, h, h0, h5⟩ : ∃ a b : Int, s = 7 * a + b ∧ 0 ≤ b ∧ b < 7 := ⟨s / 7, s % 7, by omega, by omega, by omega⟩
  subst h
  unfold ahV
  obtain rfl | rfl | rfl | rfl | rfl | rfl | rfl : b = 0 ∨ b = 1 ∨ b = 2 ∨ b = 3 ∨ b = 4 ∨ b = 5 ∨ b = 6 := by omega
  all_goals omega
theorem Sm.ah_nine (a b q : Int) : ahV 9 q (9 * a + b) = a + (b + 8 - q) / 9 := by unfold ahV; omega
theorem Sm.ah_sum9 (s : Int) : ahV 9 0 s + ahV 9 1 s + ahV 9 2 s + ahV 9 3 s + ahV 9 4 s + ahV 9 5 s + ahV 9 6 s + ahV 9 7 s + ahV 9 8 s = s := by
  obtain ⟨a, b, h, h0, h5⟩ : ∃ a b : Int, s = 9 * a + b ∧ 0 ≤ b ∧ b < 9 := ⟨s / 9, s % 9, by omega, by omega, by omega⟩
  subst h
  rw [ah_nine, ah_nine, ah_nine, ah_nine, ah_nine, ah_nine, ah_nine, ah_nine, ah_nine]
  obtain rfl | rfl | rfl | rfl | rfl | rfl | rfl | rfl | rfl : b = 0 ∨ b = 1 ∨ b = 2 ∨ b = 3 ∨ b = 4 ∨ b = 5 ∨ b = 6 ∨ b = 7 ∨ b = 8 := by omega
  all_goals omega
theorem Sm.nV_end {c : Nat} {f t : Int} (h : chB (c : Int) = true) : nV (c : Int) f t c = t - f := by
  have h2 := chB_iff.1 h
  obtain rfl | rfl | rfl | rfl : c = 3 ∨ c = 5 ∨ c = 7 ∨ c = 9 := by omega
  · have a := ah_sum3 f; have b := ah_sum3 t
    simp only [nV]
    simp only [Int.cast_ofNat_Int] at *
    omega
  · have a := ah_sum5 f; have b := ah_sum5 t
    simp only [nV]
    simp only [Int.cast_ofNat_Int] at *
    omega
  · have a := ah_sum7 f; have b := ah_sum7 t
    simp only [nV]
    simp only [Int.cast_ofNat_Int] at *
    omega
  · have a := ah_sum9 f; have b := ah_sum9 t
    simp only [nV]
    simp only [Int.cast_ofNat_Int] at *
    omega
theorem Sm.nV_nn {c f t : Int} (h : chB c = true) (hf : 0 ≤ f) (hft : f ≤ t) (ht : t ≤ 4096) : ∀ p : Nat, (p : Int) ≤ c → 0 ≤ nV c f t p ∧ nV c f t p ≤ 4096 * p
  | 0, _ => ⟨Int.le_refl _, by simp [nV]⟩
  | p + 1, hp => by
    have ih := nV_nn h hf hft ht p (by omega)
    have h1 := ahV_nn h (p := (p : Int)) (by omega) (by omega) (s := t) (by omega) ht
    have h2 := ahV_nn h (p := (p : Int)) (by omega) (by omega) hf (by omega)
    have h3 : ahV c p f ≤ ahV c p t := by
      unfold ahV
      rcases chB_iff.1 h with rfl | rfl | rfl | rfl <;> omega
    unfold nV
    omega
/-- the world in which marks are taken -/
def Sm.unmark : List Nat → World → World
  | [], w => w
  | D :: Ds, w => unmark Ds (w.putObj D (.deferred none))
theorem Sm.unmark_but (L : Nat) : ∀ (Ds : List Nat) (w : World), (∀ D ∈ Ds, L ≤ D) → But (fun b => L ≤ b) w (unmark Ds w)
  | [], w, _ => But.refl _ _
  | D :: Ds, w, h => ((put_but w D (.deferred none)).mono fun b _ e => by subst e; exact h _ (List.mem_cons_self ..)).trans (unmark_but L Ds _ fun D hD => h D (List.mem_cons_of_mem _ hD)) fun _ _ e => e
theorem Sm.retMs {n : Nat} {P : Program} {fn : Func} {R : Ending → World → Prop} {tmps : Array Value} {v : Value} : ∀ (Ds : List Nat) (w : World), Ds.Nodup → (∀ D ∈ Ds, w.heap[D]? = some (.deferred (some []))) →
    (results fn tmps).run P (unmark Ds w) = .ok v (unmark Ds w) → R (.returned v) (unmark Ds w) → LeavesInM Fence.wide n P fn tmps R (Ds.map markOf) .returning w
  | [], w, _, _, hr, hR => ⟨v, hr, hR⟩
  | D :: Ds, w, hn, hD, hr, hR => by
    obtain ⟨h1, h2⟩ := List.nodup_cons.1 hn
    exact ⟨by simp, .inl ⟨_, _, rfl, run_takeDeferred (hD D (List.mem_cons_self ..)), retMs Ds _ h2 (fun E hE => (World.putObj_heap_other (by intro e; subst e; exact h1 hE)).trans (hD E (List.mem_cons_of_mem _ hE))) hr hR⟩⟩
end Go.Proofs
