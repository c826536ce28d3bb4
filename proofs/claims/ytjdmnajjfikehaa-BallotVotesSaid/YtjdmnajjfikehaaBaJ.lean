/-
  ballot: Many, Has. Conditions: as each theorem names them.
-/
import Derived.Test.YtjdmnajjfikehaaBaI
namespace Go.Proofs
open Go Go.RowKit Sm Go.Lib
attribute [local go_sem] Oper.semAt_some
set_option maxRecDepth 100000 in
set_option maxHeartbeats 4000000 in
theorem Sm.Many_any (v : Value) (c : Int) (f : Nat → Bool) (w : World) (h : VP w v c f) : Calls Try.prog 27 #[v] w fun e w' => e = .returned (.int .i64 (cntF f 9 : Int)) ∧ Below w.heap.size w w' := by
  obtain ⟨wA, hwA⟩ : ∃ wA, w.alloc (.cells #[.int .i64 0] 3) = wA := ⟨_, rfl⟩
  have hbA : Below w.heap.size w wA := by rw [← hwA]; exact (Below.refl _ w).alloc (Nat.le_refl _) _
  have hm0 : wA.heap[w.heap.size]? = some (.cells #[.int .i64 0] 3 (0, 0)) := by rw [← hwA]; exact World.alloc_heap_new w _
  have hP := Places_any v c f wA (h.keep hbA)
  have hl := (Array.getElem?_eq_some_iff.1 hm0).1
  have h9 := cntF_le f 9
  refine (callsIn_wide (n := 3)).1 (callsIn_of_wp_marks Try.func27 rfl trivial ?_ rfl)
  refine wpIn_wide.2 ?_
  simp only [Try.ntmps27, List.size_toArray, List.length_cons, List.length_nil, Nat.reduceAdd, Nat.reduceSub, Array.replicate_succ, Array.replicate_zero, List.push_toArray, List.append_toArray, List.nil_append, List.cons_append]
  subst hwA
  clear h
  go_wp2_with (go_at_call 25; (with_reducible refine hP.mono ?_); clear hP; rintro e w1 ⟨b, rfl, hbz, hbc, hb1⟩)
  rename_i K hK
  have hm1 := (hb1.block _ hl).trans hm0
  have hs1 := hb1.size
  refine (wpIn_wide (n := 3)).1 ?_
  refine wpIn_range (gf := 50) (lb := #[.pointer (some ⟨b, 0, none⟩)]) rfl (enters_of Try.func50 (by kernel_rfl) rfl)
    (places_seq w1 hbc (fun q => q = w.heap.size)) (fun q e => by omega) ?hH ?hrow ?hps
    (fun k W => k ≤ 9 ∧ W.heap[w.heap.size]? = some (.cells #[.int .i64 (k : Int)] 3 (0, 0)) ∧ But (fun q => q = w.heap.size) w1 W) (fun _ _ _ => False) ?hI (fun _ _ _ _ h _ => h) ⟨by omega, hm1, But.refl _ _⟩
    (fun args a' _ => ∃ x, a' = { tmps := #[v, undef, .int .i64 0, .pointer (some ⟨w.heap.size, 0, none⟩), v, .func (.func 50) #[] #[.pointer (some ⟨b, 0, none⟩)], x, undef, undef, undef], defers := [] }) (fun _ _ _ _ h _ => h) ?assign ?body ?done (fun _ _ _ _ h _ => h.elim)
  case hH => exact fun k args W W' hh _ => hh
  case hrow => exact fun k args W b _ e => e.elim
  case hps =>
    rintro k args W ⟨p, _, _, _, rfl⟩
    rfl
  case hI => exact fun k W W' ⟨i0, i1, i2⟩ hb => ⟨i0, (hb.block _ (by omega)).trans i1, i2.trans (But.of_below hb) (fun b hb' e => absurd hb' (Nat.not_lt.2 e))⟩
  case assign =>
    rintro l0 k args W K2 hsz hi ⟨p, _, _, _, rfl⟩ hK2
    gi_wp2
    exact hK2 _ _ (Below.refl _ _) ⟨.int .i64 (p : Int), by simp⟩
  case body =>
    rintro l0 k args a' W hsz ⟨i0, i1, i2⟩ ⟨p, hp, hf, hk, rfl⟩ ⟨x, rfl⟩
    have k1 := cell_of_heap i1 0
    have k2 := frozen_of_heap i1 0
    simp only [List.getElem?_toArray, List.getElem?_cons_zero] at k1
    have hk9 : k + 1 ≤ 9 := by have := cntF_lt f hp hf; omega
    have hbx := heap_setCells (i := 0) (u := .int .i64 ((k : Int) + 1)) i1
    have hbq : But (fun q => q = w.heap.size) W (W.setCell ⟨w.heap.size, 0, none⟩ (.int .i64 ((k : Int) + 1))) := (But.refl _ _).set ⟨w.heap.size, 0, none⟩ _ (.inl rfl)
    have HB := Lib.hid hbx
    have HQ := Lib.hid hbq
    have HI := Lib.hid (i2.trans hbq (fun _ _ e => e))
    clear hbx hbq i1 i2 hk hf hp
    gi_wp2
    exact ⟨trivial, HQ.out.mono (fun b _ e => .inl e), hk9, by rw [show ((k + 1 : Nat) : Int) = (k : Int) + 1 by omega]; exact HB.out, HI.out⟩
  case done =>
    rintro k W rfl ⟨_, i1, i2⟩ hD
    have k1 := cell_of_heap i1 0
    simp only [List.getElem?_toArray, List.getElem?_cons_zero] at k1
    have HI := Lib.hid i2
    have HD := Lib.hid hD
    obtain ⟨n, hn⟩ : ∃ n, (cntF f 9 : Int) = n := ⟨_, rfl⟩
    rw [hn] at k1
    have HN := Lib.hid hn
    clear i1 i2 hD hn
    refine hK _ _ ?_
    clear hK
    go_wp2
    refine retM1 (D := w1.heap.size) (v := .int .i64 n) rfl HD.out ?_ ⟨by rw [HN.out], ?_⟩
    · simp [results, Try.results27, go_sem]
    · exact But.below ((hbA.trans (hb1.mono hbA.size)).trans (HI.out.to_below (by have := hbA.size; omega) (fun b e => by omega))) (put_but _ _ _) (fun b e => by have := hbA.size; omega)
/-- is a number one of the places -/
def Sm.hasB (f : Nat → Bool) (x : Int) : Bool := decide (0 ≤ x) && decide (x < 9) && f x.toNat
theorem Sm.hasB_iff (f : Nat → Bool) (x : Int) : hasB f x = true ↔ ∃ q : Nat, q < 9 ∧ f q = true ∧ (q : Int) = x := by
  unfold hasB
  rw [Bool.and_eq_true, Bool.and_eq_true, decide_eq_true_eq, decide_eq_true_eq]
  constructor
  · rintro ⟨⟨h1, h2⟩, h3⟩
    exact ⟨x.toNat, by omega, h3, by omega⟩
  · rintro ⟨q, h1, h2, rfl⟩
    exact ⟨⟨by omega, by omega⟩, by simpa using h2⟩
theorem Sm.cntF_inj (f : Nat → Bool) {p q : Nat} (hp : f p = true) (hq : f q = true) (h : cntF f p = cntF f q) : p = q := by
  rcases Nat.lt_trichotomy p q with e | e | e
  · have := cntF_lt f e hp; omega
  · exact e
  · have := cntF_lt f e hq; omega
/-- the frame of Has -/
def Sm.HaF (v : Value) (x : Int) (N b : Nat) (y : Value) (df : List Deferred) : Act :=
  { tmps := #[v, .int .i64 x, undef, .pointer (some ⟨N, 0, none⟩), .bool false, .pointer (some ⟨N + 1, 0, none⟩), y, v, .func (.func 50) #[] #[.pointer (some ⟨b, 0, none⟩)], undef, undef, undef, undef, undef, undef, undef, undef, undef, undef], defers := df }
set_option maxRecDepth 100000 in
set_option maxHeartbeats 4000000 in
theorem Sm.Has_any (v : Value) (c : Int) (f : Nat → Bool) (x : Int) (w : World) (h : VP w v c f) : Calls Try.prog 26 #[v, .int .i64 x] w fun e w' => e = .returned (.bool (hasB f x)) ∧ Below w.heap.size w w' := by
  obtain ⟨wA, hwA⟩ : ∃ wA, (w.alloc (.cells #[.int .i64 x] 3)).alloc (.cells #[.bool false] 4) = wA := ⟨_, rfl⟩
  have hbA : Below w.heap.size w wA := by rw [← hwA]; exact ((Below.refl _ w).alloc (Nat.le_refl _) _).alloc (by simp) _
  have hm0 : wA.heap[w.heap.size]? = some (.cells #[.int .i64 x] 3 (0, 0)) := by rw [← hwA]; exact (Below.heap_alloc _ _ _ (by simp)).trans (World.alloc_heap_new w _)
  have hr0 : wA.heap[w.heap.size + 1]? = some (.cells #[.bool false] 4 (0, 0)) := by
    rw [← hwA]; have := World.alloc_heap_new (w.alloc (.cells #[.int .i64 x] 3)) (.cells #[.bool false] 4); rwa [World.size_alloc] at this
  have hP := Places_any v c f wA (h.keep hbA)
  have hl := (Array.getElem?_eq_some_iff.1 hr0).1
  have hl0 := (Array.getElem?_eq_some_iff.1 hm0).1
  refine (callsIn_wide (n := 3)).1 (callsIn_of_wp_marks Try.func26 rfl trivial ?_ rfl)
  simp only [Try.ntmps26, List.size_toArray, List.length_cons, List.length_nil, Nat.reduceAdd, Nat.reduceSub, Array.replicate_succ, Array.replicate_zero, List.push_toArray, List.append_toArray, List.nil_append, List.cons_append]
  subst hwA
  clear h
  gi_wp2
  refine wpIn_wide.2 (wp_scope_straight ((wpIn_wide (n := 3)).1 ?_))
  gi_wp2
  refine wpIn_label ?_
  gi_wp2_with ((try refine ⟨trivial, ?_⟩); gi_at_call 25; refine (callsIn_wide.2 hP).mono ?_; clear hP; rintro e w1 ⟨b, rfl, hbz, hbc, hb1⟩)
  rename_i K hK
  have hm1 := (hb1.block _ hl0).trans hm0
  have hr1 := (hb1.block _ hl).trans hr0
  have hs1 := hb1.size
  have hbw1 : Below w.heap.size w w1 := hbA.trans (hb1.mono hbA.size)
  have HK : Hid (∀ (y : Value) W, W.heap[w.heap.size + 1]? = some (.cells #[.bool (hasB f x)] 4 (0, 0)) → But (fun q => q = w.heap.size + 1) w1 W → W.heap[w1.heap.size]? = some (.deferred (some [])) → K (HaF v x w.heap.size b y [{ target := .collected w1.heap.size, args := #[] }]) W) := Lib.hid fun y W i1 i2 hD => by
    have k1 := cell_of_heap i1 0
    simp only [List.getElem?_toArray, List.getElem?_cons_zero] at k1
    have HI := Lib.hid i2
    have HD := Lib.hid hD
    obtain ⟨n, hn⟩ : ∃ n, hasB f x = n := ⟨_, rfl⟩
    rw [hn] at k1
    have HN := Lib.hid hn
    clear i1 i2 hD hn
    refine hK _ _ ?_
    clear hK
    unfold HaF
    gi_wp2
    simp only [Exit.noGoto]
    refine retM1 (D := w1.heap.size) (v := .bool n) rfl HD.out ?_ ⟨by rw [HN.out], ?_⟩
    · simp [results, Try.results26, go_sem]
    · exact But.below (hbw1.trans (HI.out.to_below (by omega) (fun b e => by omega))) (put_but _ _ _) (fun b e => by omega)
  clear hK
  show Code.wpIn Fence.wide 3 Try.prog _ _ (HaF v x w.heap.size b undef []) w1
  refine wpIn_range1b (gf := 50) (lb := #[.pointer (some ⟨b, 0, none⟩)]) rfl (enters_of Try.func50 (by kernel_rfl) rfl)
    (places_seq w1 hbc (fun q => q = w.heap.size + 1)) (fun q e => by omega) ?hH ?hrow 9 6 rfl ?hargs
    (fun k W => W.heap[w.heap.size + 1]? = some (.cells #[.bool false] 4 (0, 0)) ∧ But (fun q => q = w.heap.size + 1) w1 W ∧ ∀ q : Nat, q < 9 → f q = true → cntF f q < k → (q : Int) ≠ x)
    (fun k W => W.heap[w.heap.size + 1]? = some (.cells #[.bool (hasB f x)] 4 (0, 0)) ∧ But (fun q => q = w.heap.size + 1) w1 W)
    0 ?hI ?hIx ⟨hr1, But.refl _ _, fun q _ _ h => by omega⟩ ?assign ?body _ (fun _ _ h => h) (fun _ _ h => h) ?rest
  case hH => exact fun k args W W' hh _ => hh
  case hrow => exact fun k args W b _ e => e.elim
  case hargs =>
    rintro k args W ⟨p, _, _, _, rfl⟩
    exact ⟨_, rfl⟩
  case hI => exact fun k W W' ⟨i1, i2, i3⟩ hb => ⟨(hb.block _ (by omega)).trans i1, i2.trans (But.of_below hb) (fun b hb' e => absurd hb' (Nat.not_lt.2 e)), i3⟩
  case hIx => exact fun k W W' ⟨i1, i2⟩ hb => ⟨(hb.block _ (by omega)).trans i1, i2.trans (But.of_below hb) (fun b hb' e => absurd hb' (Nat.not_lt.2 e))⟩
  case assign =>
    intro l0 y W K2 hK2
    unfold HaF at hK2 ⊢
    simp only [List.setIfInBounds_toArray, List.set_cons_zero, List.set_cons_succ] at hK2 ⊢
    gi_wp2
    exact hK2
  case body =>
    rintro l0 k y W hsz ⟨i1, i2, i3⟩ ⟨p, hp, hf, hk, e⟩
    simp only [Array.mk.injEq, List.cons.injEq, and_true] at e
    obtain rfl := e
    unfold HaF
    simp only [List.setIfInBounds_toArray, List.set_cons_zero, List.set_cons_succ]
    have k1 := cell_of_heap i1 0
    have k2 := frozen_of_heap i1 0
    have k3 := cell_of_heap ((i2.block _ (by omega) (by omega)).trans hm1) 0
    simp only [List.getElem?_toArray, List.getElem?_cons_zero] at k1 k3
    have HI2 := Lib.hid i2
    have HI3 := Lib.hid i3
    have HI1 := Lib.hid i1
    have HF := Lib.hid hf
    have HKE := Lib.hid hk
    clear i1 i2 i3 hf hk
    by_cases h1 : (p : Int) = x
    · have hh : hasB f x = true := (hasB_iff f x).2 ⟨p, hp, HF.out, h1⟩
      have h2 : ((p : Int) == x) = true := by simpa using h1
      have hbx := heap_setCells (i := 0) (u := .bool true) HI1.out
      have hbq : But (fun q => q = w.heap.size + 1) W (W.setCell ⟨w.heap.size + 1, 0, none⟩ (.bool true)) := (But.refl _ _).set ⟨w.heap.size + 1, 0, none⟩ _ (.inl rfl)
      have HQ := Lib.hid hbq
      have HX : Hid ((W.setCell ⟨w.heap.size + 1, 0, none⟩ (.bool true)).heap[w.heap.size + 1]? = some (.cells #[.bool (hasB f x)] 4 (0, 0))) := Lib.hid (by rw [hh]; exact hbx)
      clear hbx hbq hh h1
      gi_wp2
      exact ⟨HQ.out.mono (fun b _ e => .inl e), rfl, HX.out, HI2.out.trans HQ.out (fun _ _ e => e)⟩
    · have h2 : ((p : Int) == x) = false := by simpa using h1
      by_cases h3 : x < (p : Int)
      · have hh : hasB f x = false := by
          rw [Bool.eq_false_iff]
          intro e
          obtain ⟨q, hq, hfq, hqx⟩ := (hasB_iff f x).1 e
          exact HI3.out q hq hfq (by rw [HKE.out]; exact cntF_lt f (by omega) hfq) hqx
        have HX : Hid (W.heap[w.heap.size + 1]? = some (.cells #[.bool (hasB f x)] 4 (0, 0))) := Lib.hid (by rw [hh]; exact HI1.out)
        clear hh h1
        gi_wp2
        exact ⟨But.refl _ _, rfl, HX.out, HI2.out⟩
      · have HN : Hid (∀ q : Nat, q < 9 → f q = true → cntF f q < k + 1 → (q : Int) ≠ x) := Lib.hid fun q hq hfq hlt => by
          by_cases e : cntF f q < k
          · exact HI3.out q hq hfq e
          · have : q = p := cntF_inj f hfq HF.out (by have := HKE.out; omega)
            rw [this]
            exact h1
        clear h1
        gi_wp2
        exact ⟨trivial, But.refl _ _, HI1.out, HI2.out, HN.out⟩
  case rest =>
    intro W hor hD
    rcases hor with ⟨k, hk, i1, i2, i3⟩ | ⟨k, _, i1, i2⟩
    · have hh : hasB f x = false := by
        rw [Bool.eq_false_iff]
        intro e
        obtain ⟨q, hq, hfq, hqx⟩ := (hasB_iff f x).1 e
        exact i3 q hq hfq (by rw [hk]; exact cntF_lt f hq hfq) hqx
      exact HK.out undef W (by rw [hh]; exact i1) i2 hD
    · exact HK.out undef W i1 i2 hD
end Go.Proofs
