/-
  slots: the document's answers: a place's slots between two. Conditions: as each theorem names them.
-/
import Derived.Maps.AppendAt
import Derived.Test.YtdiidiaipfkmlaaApp
import Derived.Test.YtdiidiaipfkmlaaSlN
namespace Go.Proofs
open Go Go.RowKit Sm Go.Lib
attribute [local go_sem] Oper.semAt_some
theorem Sm.cell_row_new (w : World) (cs : List Value) (t : TypeId) : ∀ (j : Nat) (u : Value), cs[j]? = some u → (w.alloc (.cells cs.toArray t)).cell? ((⟨w.heap.size, 0, none⟩ : Addr).add j) = some u := fun j u hj => by
  have h := cell_of_heap (World.alloc_heap_new w (.cells cs.toArray t)) j
  rw [List.getElem?_toArray, hj] at h
  have e : ((⟨w.heap.size, 0, none⟩ : Addr).add j) = ⟨w.heap.size, j, none⟩ := by rw [Go.WideShapes.add_plain, Nat.zero_add]
  rw [e]
  exact h
theorem Sm.refInfo3 : (Try.prog.info? 3).map (fun i => (i.zero, i.size, i.bytes)) = some (some (.int .i64 0), 1, 8) := by kernel_rfl
/-- a place's slots in a row -/
def Sm.rowI (c p f : Int) (m : Nat) : List Value := (List.range m).map fun k => .int .i64 (atV c p f k)
theorem Sm.rowI_succ (c p f : Int) (m : Nat) : rowI c p f (m + 1) = rowI c p f m ++ [.int .i64 (atV c p f m)] := by
  unfold rowI
  rw [List.range_succ, List.map_append]
  rfl
theorem Sm.mx_no {c p f t : Int} (h : chB c = false ∨ rpB c p = false ∨ f < 0 ∨ t < f ∨ 4096 < t) : mxV c p f t = 2 := by
  unfold mxV refM
  rw [if_pos]
  cases hc : chB c with
  | false => exact .inl rfl
  | true =>
    right
    rw [hc] at h
    rw [← rpB_pl hc]
    rcases h with h | h | h | h | h
    · cases h
    · simp [h]
    · simp [h]
    · simp [h]
    · simp [h]
theorem Sm.many_no {c p f t : Int} (h : mxV c p f t = 2) : manyV c p f t = 0 := by
  unfold manyV
  rw [h]
  rfl
set_option maxRecDepth 100000 in
set_option maxHeartbeats 4000000 in
theorem Sm.rOwn_3 (p : Int) (f t : Nat) (w : World) (hp0 : 0 ≤ p) (hp1 : p < 3) (hft : f ≤ t) (ht : t ≤ 4096) : Calls Try.prog 24 #[.int .i64 3, .int .i64 p, .int .i64 (f : Int), .int .i64 (t : Int)] w fun e w' => ∃ v, e = .returned (.tuple #[v, .int .i64 0]) ∧ w'.ownsRow w.heap.size 3 1 v (maV 3 p f t).toNat (rowI 3 p f (maV 3 p f t).toNat) ∧ Below w.heap.size w w' := by
  have hc : chB 3 = true := by decide
  have hR := Right_any 3 w
  have hP := Place_any 3 p w
  rw [hc] at hR
  rw [show rpB 3 p = true by unfold rpB; simp; omega] at hP
  obtain ⟨i0, hi, hz⟩ : ∃ i, Try.prog.info? 3 = some i ∧ (i.zero, i.size, i.bytes) = (some (.int .i64 0), 1, 8) := by
    have := refInfo3
    obtain ⟨i, h1, h2⟩ := Option.map_eq_some_iff.1 this
    exact ⟨i, h1, h2⟩
  simp only [Prod.mk.injEq] at hz
  obtain ⟨hz0, hz1, hz2⟩ := hz
  have HST := Lib.hid fun s => ah_step (p := p) s hc hp1 hp0
  have HHI : Hid (∀ (s m : Nat), (m : Int) = ahV 3 p (s : Int) - ahV 3 p (f : Int) → (s : Int) % 3 = p → atV 3 p (f : Int) m = (s : Int)) := Lib.hid fun s m hm hs => by
    obtain ⟨h1, _⟩ := ah_hit s hc hp0 hp1 hs
    unfold atV
    rw [hm]
    rw [show ahV 3 p (f : Int) + (ahV 3 p (s : Int) - ahV 3 p (f : Int)) = ahV 3 p (s : Int) by omega]
    exact h1.symm
  have HMA : Hid (∀ m : Nat, (m : Int) = ahV 3 p (t : Int) - ahV 3 p (f : Int) → (maV 3 p f t).toNat = m) := Lib.hid fun m hm => by
    unfold maV
    omega
  have n0 : decide ((f : Int) < 0) = false := decide_eq_false (by omega)
  have n1 : decide (t < f) = false := decide_eq_false (by omega)
  have n2 : decide (4096 < (t : Int)) = false := decide_eq_false (by omega)
  clear hc
  go_enter Try.func24, Try.ntmps24
  go_wp2_with (first | (go_at_call 11; (with_reducible refine hR.mono ?_); rintro e w' ⟨rfl, rfl⟩) | (go_at_call 41; (with_reducible refine hP.mono ?_); rintro e w' ⟨rfl, rfl⟩))
  clear hR hP
  go_loopw [10, 11] (fun v10 v11 wr => ∃ (s m : Nat) (vd : Value), f ≤ s ∧ s ≤ t ∧ v10 = vd ∧ v11 = .int .i64 (s : Int) ∧ Hid ((m : Int) = ahV 3 p (s : Int) - ahV 3 p (f : Int)) ∧ m ≤ s ∧ Hid (wr.ownsRow w.heap.size 3 1 vd m (rowI 3 p (f : Int) m)) ∧ Hid (Below w.heap.size w wr)) (fun _ v11 _ => t - (RowKit.intOf v11).toNat)
  case atStart => exact ⟨f, 0, _, Nat.le_refl _, hft, rfl, rfl, Lib.hid (by omega), by omega, Lib.hid (World.ownsRow_nil _ _ _ _), Lib.hid (Below.refl _ _)⟩
  case round =>
    obtain ⟨wo, rfl⟩ : ∃ wo : World, wo = wr := ⟨_, rfl⟩
    obtain ⟨s, m, vd, hs0, hs1, e5, rfl, HM, hms, HO, HB⟩ := hrel
    obtain ⟨Ao, co, rfl⟩ := own_slice HO.out
    subst e5
    by_cases hlt : s < t
    · have hst := HST.out s
      have hm := HM.out
      have hbs := HB.out.size
      by_cases hmod : (s : Int) % 3 = p
      · rw [if_pos hmod] at hst
        have HM2 : Hid (((m + 1 : Nat) : Int) = ahV 3 p ((s + 1 : Nat) : Int) - ahV 3 p (f : Int)) := Lib.hid (by omega)
        have HAT : Hid (atV 3 p (f : Int) m = (s : Int)) := Lib.hid (HHI.out s m hm hmod)
        have hmb : ((s : Int) % 3 == p) = true := by simpa using hmod
        have hown := HO.out
        clear hmod hst hm
        go_wp2_with (at_builtin; refine wpList_append_own_at _ rfl (.tmp 45) (.tmp 47) 38 rfl w.heap.size 3 i0 _ 1 8 Try.underlying38 hi hz0 hz1 hz2 rfl (by decide) _ m _ rfl (hown.alloc _) ⟨wo.heap.size, 0, none⟩ 1 1 [.int .i64 (s : Int)] rfl rfl (cell_row_new _ _ _) (by simp [Value.oneCell']) (by unfold maxLen; omega) (by omega) (by simp; omega) ?_; intro v3 w3 hown3 hg3 _ _)
        have HO3 : Hid (w3.ownsRow w.heap.size 3 1 v3 (m + 1) (rowI 3 p (f : Int) (m + 1))) := Lib.hid (by
          rw [rowI_succ, HAT.out]
          exact hown3)
        have HB3 : Hid (Below w.heap.size w w3) := Lib.hid (HB.out.trans ((((Below.refl _ wo).alloc (Nat.le_refl _) _).mono hbs).trans ((But.grown hg3).to_below (by simp; omega) (fun b e => (hown.lt b e).1))))
        clear hown hown3 hg3 HO HAT
        go_roundw
        case rel => exact ⟨s + 1, m + 1, _, by omega, by omega, rfl, by go_num, HM2, by omega, HO3, HB3⟩
        case measure => simp [RowKit.intOf]; omega
      · rw [if_neg hmod] at hst
        have HM2 : Hid ((m : Int) = ahV 3 p ((s + 1 : Nat) : Int) - ahV 3 p (f : Int)) := Lib.hid (by omega)
        have hmb : ((s : Int) % 3 == p) = false := by simpa using hmod
        clear hmod hst hm
        go_wp2
        go_roundw
        case rel => exact ⟨s + 1, m, _, by omega, by omega, rfl, by go_num, HM2, by omega, HO, HB⟩
        case measure => simp [RowKit.intOf]; omega
    · obtain rfl : s = t := by omega
      have HMM := Lib.hid (HMA.out m HM.out)
      clear HM
      go_wp2
      go_ret2
      refine ⟨_, rfl, ?_, HB.out⟩
      rw [HMM.out]
      exact HO.out
set_option maxRecDepth 100000 in
set_option maxHeartbeats 4000000 in
theorem Sm.rOwn_5 (p : Int) (f t : Nat) (w : World) (hp0 : 0 ≤ p) (hp1 : p < 5) (hft : f ≤ t) (ht : t ≤ 4096) : Calls Try.prog 24 #[.int .i64 5, .int .i64 p, .int .i64 (f : Int), .int .i64 (t : Int)] w fun e w' => ∃ v, e = .returned (.tuple #[v, .int .i64 0]) ∧ w'.ownsRow w.heap.size 3 1 v (maV 5 p f t).toNat (rowI 5 p f (maV 5 p f t).toNat) ∧ Below w.heap.size w w' := by
  have hc : chB 5 = true := by decide
  have hR := Right_any 5 w
  have hP := Place_any 5 p w
  rw [hc] at hR
  rw [show rpB 5 p = true by unfold rpB; simp; omega] at hP
  obtain ⟨i0, hi, hz⟩ : ∃ i, Try.prog.info? 3 = some i ∧ (i.zero, i.size, i.bytes) = (some (.int .i64 0), 1, 8) := by
    have := refInfo3
    obtain ⟨i, h1, h2⟩ := Option.map_eq_some_iff.1 this
    exact ⟨i, h1, h2⟩
  simp only [Prod.mk.injEq] at hz
  obtain ⟨hz0, hz1, hz2⟩ := hz
  have HST := Lib.hid fun s => ah_step (p := p) s hc hp1 hp0
  have HHI : Hid (∀ (s m : Nat), (m : Int) = ahV 5 p (s : Int) - ahV 5 p (f : Int) → (s : Int) % 5 = p → atV 5 p (f : Int) m = (s : Int)) := Lib.hid fun s m hm hs => by
    obtain ⟨h1, _⟩ := ah_hit s hc hp0 hp1 hs
    unfold atV
    rw [hm]
    rw [show ahV 5 p (f : Int) + (ahV 5 p (s : Int) - ahV 5 p (f : Int)) = ahV 5 p (s : Int) by omega]
    exact h1.symm
  have HMA : Hid (∀ m : Nat, (m : Int) = ahV 5 p (t : Int) - ahV 5 p (f : Int) → (maV 5 p f t).toNat = m) := Lib.hid fun m hm => by
    unfold maV
    omega
  have n0 : decide ((f : Int) < 0) = false := decide_eq_false (by omega)
  have n1 : decide (t < f) = false := decide_eq_false (by omega)
  have n2 : decide (4096 < (t : Int)) = false := decide_eq_false (by omega)
  clear hc
  go_enter Try.func24, Try.ntmps24
  go_wp2_with (first | (go_at_call 11; (with_reducible refine hR.mono ?_); rintro e w' ⟨rfl, rfl⟩) | (go_at_call 41; (with_reducible refine hP.mono ?_); rintro e w' ⟨rfl, rfl⟩))
  clear hR hP
  go_loopw [10, 11] (fun v10 v11 wr => ∃ (s m : Nat) (vd : Value), f ≤ s ∧ s ≤ t ∧ v10 = vd ∧ v11 = .int .i64 (s : Int) ∧ Hid ((m : Int) = ahV 5 p (s : Int) - ahV 5 p (f : Int)) ∧ m ≤ s ∧ Hid (wr.ownsRow w.heap.size 3 1 vd m (rowI 5 p (f : Int) m)) ∧ Hid (Below w.heap.size w wr)) (fun _ v11 _ => t - (RowKit.intOf v11).toNat)
  case atStart => exact ⟨f, 0, _, Nat.le_refl _, hft, rfl, rfl, Lib.hid (by omega), by omega, Lib.hid (World.ownsRow_nil _ _ _ _), Lib.hid (Below.refl _ _)⟩
  case round =>
    obtain ⟨wo, rfl⟩ : ∃ wo : World, wo = wr := ⟨_, rfl⟩
    obtain ⟨s, m, vd, hs0, hs1, e5, rfl, HM, hms, HO, HB⟩ := hrel
    obtain ⟨Ao, co, rfl⟩ := own_slice HO.out
    subst e5
    by_cases hlt : s < t
    · have hst := HST.out s
      have hm := HM.out
      have hbs := HB.out.size
      by_cases hmod : (s : Int) % 5 = p
      · rw [if_pos hmod] at hst
        have HM2 : Hid (((m + 1 : Nat) : Int) = ahV 5 p ((s + 1 : Nat) : Int) - ahV 5 p (f : Int)) := Lib.hid (by omega)
        have HAT : Hid (atV 5 p (f : Int) m = (s : Int)) := Lib.hid (HHI.out s m hm hmod)
        have hmb : ((s : Int) % 5 == p) = true := by simpa using hmod
        have hown := HO.out
        clear hmod hst hm
        go_wp2_with (at_builtin; refine wpList_append_own_at _ rfl (.tmp 45) (.tmp 47) 38 rfl w.heap.size 3 i0 _ 1 8 Try.underlying38 hi hz0 hz1 hz2 rfl (by decide) _ m _ rfl (hown.alloc _) ⟨wo.heap.size, 0, none⟩ 1 1 [.int .i64 (s : Int)] rfl rfl (cell_row_new _ _ _) (by simp [Value.oneCell']) (by unfold maxLen; omega) (by omega) (by simp; omega) ?_; intro v3 w3 hown3 hg3 _ _)
        have HO3 : Hid (w3.ownsRow w.heap.size 3 1 v3 (m + 1) (rowI 5 p (f : Int) (m + 1))) := Lib.hid (by
          rw [rowI_succ, HAT.out]
          exact hown3)
        have HB3 : Hid (Below w.heap.size w w3) := Lib.hid (HB.out.trans ((((Below.refl _ wo).alloc (Nat.le_refl _) _).mono hbs).trans ((But.grown hg3).to_below (by simp; omega) (fun b e => (hown.lt b e).1))))
        clear hown hown3 hg3 HO HAT
        go_roundw
        case rel => exact ⟨s + 1, m + 1, _, by omega, by omega, rfl, by go_num, HM2, by omega, HO3, HB3⟩
        case measure => simp [RowKit.intOf]; omega
      · rw [if_neg hmod] at hst
        have HM2 : Hid ((m : Int) = ahV 5 p ((s + 1 : Nat) : Int) - ahV 5 p (f : Int)) := Lib.hid (by omega)
        have hmb : ((s : Int) % 5 == p) = false := by simpa using hmod
        clear hmod hst hm
        go_wp2
        go_roundw
        case rel => exact ⟨s + 1, m, _, by omega, by omega, rfl, by go_num, HM2, by omega, HO, HB⟩
        case measure => simp [RowKit.intOf]; omega
    · obtain rfl : s = t := by omega
      have HMM := Lib.hid (HMA.out m HM.out)
      clear HM
      go_wp2
      go_ret2
      refine ⟨_, rfl, ?_, HB.out⟩
      rw [HMM.out]
      exact HO.out
set_option maxRecDepth 100000 in
set_option maxHeartbeats 4000000 in
theorem Sm.rOwn_7 (p : Int) (f t : Nat) (w : World) (hp0 : 0 ≤ p) (hp1 : p < 7) (hft : f ≤ t) (ht : t ≤ 4096) : Calls Try.prog 24 #[.int .i64 7, .int .i64 p, .int .i64 (f : Int), .int .i64 (t : Int)] w fun e w' => ∃ v, e = .returned (.tuple #[v, .int .i64 0]) ∧ w'.ownsRow w.heap.size 3 1 v (maV 7 p f t).toNat (rowI 7 p f (maV 7 p f t).toNat) ∧ Below w.heap.size w w' := by
  have hc : chB 7 = true := by decide
  have hR := Right_any 7 w
  have hP := Place_any 7 p w
  rw [hc] at hR
  rw [show rpB 7 p = true by unfold rpB; simp; omega] at hP
  obtain ⟨i0, hi, hz⟩ : ∃ i, Try.prog.info? 3 = some i ∧ (i.zero, i.size, i.bytes) = (some (.int .i64 0), 1, 8) := by
    have := refInfo3
    obtain ⟨i, h1, h2⟩ := Option.map_eq_some_iff.1 this
    exact ⟨i, h1, h2⟩
  simp only [Prod.mk.injEq] at hz
  obtain ⟨hz0, hz1, hz2⟩ := hz
  have HST := Lib.hid fun s => ah_step (p := p) s hc hp1 hp0
  have HHI : Hid (∀ (s m : Nat), (m : Int) = ahV 7 p (s : Int) - ahV 7 p (f : Int) → (s : Int) % 7 = p → atV 7 p (f : Int) m = (s : Int)) := Lib.hid fun s m hm hs => by
    obtain ⟨h1, _⟩ := ah_hit s hc hp0 hp1 hs
    unfold atV
    rw [hm]
    rw [show ahV 7 p (f : Int) + (ahV 7 p (s : Int) - ahV 7 p (f : Int)) = ahV 7 p (s : Int) by omega]
    exact h1.symm
  have HMA : Hid (∀ m : Nat, (m : Int) = ahV 7 p (t : Int) - ahV 7 p (f : Int) → (maV 7 p f t).toNat = m) := Lib.hid fun m hm => by
    unfold maV
    omega
  have n0 : decide ((f : Int) < 0) = false := decide_eq_false (by omega)
  have n1 : decide (t < f) = false := decide_eq_false (by omega)
  have n2 : decide (4096 < (t : Int)) = false := decide_eq_false (by omega)
  clear hc
  go_enter Try.func24, Try.ntmps24
  go_wp2_with (first | (go_at_call 11; (with_reducible refine hR.mono ?_); rintro e w' ⟨rfl, rfl⟩) | (go_at_call 41; (with_reducible refine hP.mono ?_); rintro e w' ⟨rfl, rfl⟩))
  clear hR hP
  go_loopw [10, 11] (fun v10 v11 wr => ∃ (s m : Nat) (vd : Value), f ≤ s ∧ s ≤ t ∧ v10 = vd ∧ v11 = .int .i64 (s : Int) ∧ Hid ((m : Int) = ahV 7 p (s : Int) - ahV 7 p (f : Int)) ∧ m ≤ s ∧ Hid (wr.ownsRow w.heap.size 3 1 vd m (rowI 7 p (f : Int) m)) ∧ Hid (Below w.heap.size w wr)) (fun _ v11 _ => t - (RowKit.intOf v11).toNat)
  case atStart => exact ⟨f, 0, _, Nat.le_refl _, hft, rfl, rfl, Lib.hid (by omega), by omega, Lib.hid (World.ownsRow_nil _ _ _ _), Lib.hid (Below.refl _ _)⟩
  case round =>
    obtain ⟨wo, rfl⟩ : ∃ wo : World, wo = wr := ⟨_, rfl⟩
    obtain ⟨s, m, vd, hs0, hs1, e5, rfl, HM, hms, HO, HB⟩ := hrel
    obtain ⟨Ao, co, rfl⟩ := own_slice HO.out
    subst e5
    by_cases hlt : s < t
    · have hst := HST.out s
      have hm := HM.out
      have hbs := HB.out.size
      by_cases hmod : (s : Int) % 7 = p
      · rw [if_pos hmod] at hst
        have HM2 : Hid (((m + 1 : Nat) : Int) = ahV 7 p ((s + 1 : Nat) : Int) - ahV 7 p (f : Int)) := Lib.hid (by omega)
        have HAT : Hid (atV 7 p (f : Int) m = (s : Int)) := Lib.hid (HHI.out s m hm hmod)
        have hmb : ((s : Int) % 7 == p) = true := by simpa using hmod
        have hown := HO.out
        clear hmod hst hm
        go_wp2_with (at_builtin; refine wpList_append_own_at _ rfl (.tmp 45) (.tmp 47) 38 rfl w.heap.size 3 i0 _ 1 8 Try.underlying38 hi hz0 hz1 hz2 rfl (by decide) _ m _ rfl (hown.alloc _) ⟨wo.heap.size, 0, none⟩ 1 1 [.int .i64 (s : Int)] rfl rfl (cell_row_new _ _ _) (by simp [Value.oneCell']) (by unfold maxLen; omega) (by omega) (by simp; omega) ?_; intro v3 w3 hown3 hg3 _ _)
        have HO3 : Hid (w3.ownsRow w.heap.size 3 1 v3 (m + 1) (rowI 7 p (f : Int) (m + 1))) := Lib.hid (by
          rw [rowI_succ, HAT.out]
          exact hown3)
        have HB3 : Hid (Below w.heap.size w w3) := Lib.hid (HB.out.trans ((((Below.refl _ wo).alloc (Nat.le_refl _) _).mono hbs).trans ((But.grown hg3).to_below (by simp; omega) (fun b e => (hown.lt b e).1))))
        clear hown hown3 hg3 HO HAT
        go_roundw
        case rel => exact ⟨s + 1, m + 1, _, by omega, by omega, rfl, by go_num, HM2, by omega, HO3, HB3⟩
        case measure => simp [RowKit.intOf]; omega
      · rw [if_neg hmod] at hst
        have HM2 : Hid ((m : Int) = ahV 7 p ((s + 1 : Nat) : Int) - ahV 7 p (f : Int)) := Lib.hid (by omega)
        have hmb : ((s : Int) % 7 == p) = false := by simpa using hmod
        clear hmod hst hm
        go_wp2
        go_roundw
        case rel => exact ⟨s + 1, m, _, by omega, by omega, rfl, by go_num, HM2, by omega, HO, HB⟩
        case measure => simp [RowKit.intOf]; omega
    · obtain rfl : s = t := by omega
      have HMM := Lib.hid (HMA.out m HM.out)
      clear HM
      go_wp2
      go_ret2
      refine ⟨_, rfl, ?_, HB.out⟩
      rw [HMM.out]
      exact HO.out
set_option maxRecDepth 100000 in
set_option maxHeartbeats 4000000 in
theorem Sm.rOwn_9 (p : Int) (f t : Nat) (w : World) (hp0 : 0 ≤ p) (hp1 : p < 9) (hft : f ≤ t) (ht : t ≤ 4096) : Calls Try.prog 24 #[.int .i64 9, .int .i64 p, .int .i64 (f : Int), .int .i64 (t : Int)] w fun e w' => ∃ v, e = .returned (.tuple #[v, .int .i64 0]) ∧ w'.ownsRow w.heap.size 3 1 v (maV 9 p f t).toNat (rowI 9 p f (maV 9 p f t).toNat) ∧ Below w.heap.size w w' := by
  have hc : chB 9 = true := by decide
  have hR := Right_any 9 w
  have hP := Place_any 9 p w
  rw [hc] at hR
  rw [show rpB 9 p = true by unfold rpB; simp; omega] at hP
  obtain ⟨i0, hi, hz⟩ : ∃ i, Try.prog.info? 3 = some i ∧ (i.zero, i.size, i.bytes) = (some (.int .i64 0), 1, 8) := by
    have := refInfo3
    obtain ⟨i, h1, h2⟩ := Option.map_eq_some_iff.1 this
    exact ⟨i, h1, h2⟩
  simp only [Prod.mk.injEq] at hz
  obtain ⟨hz0, hz1, hz2⟩ := hz
  have HST := Lib.hid fun s => ah_step (p := p) s hc hp1 hp0
  have HHI : Hid (∀ (s m : Nat), (m : Int) = ahV 9 p (s : Int) - ahV 9 p (f : Int) → (s : Int) % 9 = p → atV 9 p (f : Int) m = (s : Int)) := Lib.hid fun s m hm hs => by
    obtain ⟨h1, _⟩ := ah_hit s hc hp0 hp1 hs
    unfold atV
    rw [hm]
    rw [show ahV 9 p (f : Int) + (ahV 9 p (s : Int) - ahV 9 p (f : Int)) = ahV 9 p (s : Int) by omega]
    exact h1.symm
  have HMA : Hid (∀ m : Nat, (m : Int) = ahV 9 p (t : Int) - ahV 9 p (f : Int) → (maV 9 p f t).toNat = m) := Lib.hid fun m hm => by
    unfold maV
    omega
  have n0 : decide ((f : Int) < 0) = false := decide_eq_false (by omega)
  have n1 : decide (t < f) = false := decide_eq_false (by omega)
  have n2 : decide (4096 < (t : Int)) = false := decide_eq_false (by omega)
  clear hc
  go_enter Try.func24, Try.ntmps24
  go_wp2_with (first | (go_at_call 11; (with_reducible refine hR.mono ?_); rintro e w' ⟨rfl, rfl⟩) | (go_at_call 41; (with_reducible refine hP.mono ?_); rintro e w' ⟨rfl, rfl⟩))
  clear hR hP
  go_loopw [10, 11] (fun v10 v11 wr => ∃ (s m : Nat) (vd : Value), f ≤ s ∧ s ≤ t ∧ v10 = vd ∧ v11 = .int .i64 (s : Int) ∧ Hid ((m : Int) = ahV 9 p (s : Int) - ahV 9 p (f : Int)) ∧ m ≤ s ∧ Hid (wr.ownsRow w.heap.size 3 1 vd m (rowI 9 p (f : Int) m)) ∧ Hid (Below w.heap.size w wr)) (fun _ v11 _ => t - (RowKit.intOf v11).toNat)
  case atStart => exact ⟨f, 0, _, Nat.le_refl _, hft, rfl, rfl, Lib.hid (by omega), by omega, Lib.hid (World.ownsRow_nil _ _ _ _), Lib.hid (Below.refl _ _)⟩
  case round =>
    obtain ⟨wo, rfl⟩ : ∃ wo : World, wo = wr := ⟨_, rfl⟩
    obtain ⟨s, m, vd, hs0, hs1, e5, rfl, HM, hms, HO, HB⟩ := hrel
    obtain ⟨Ao, co, rfl⟩ := own_slice HO.out
    subst e5
    by_cases hlt : s < t
    · have hst := HST.out s
      have hm := HM.out
      have hbs := HB.out.size
      by_cases hmod : (s : Int) % 9 = p
      · rw [if_pos hmod] at hst
        have HM2 : Hid (((m + 1 : Nat) : Int) = ahV 9 p ((s + 1 : Nat) : Int) - ahV 9 p (f : Int)) := Lib.hid (by omega)
        have HAT : Hid (atV 9 p (f : Int) m = (s : Int)) := Lib.hid (HHI.out s m hm hmod)
        have hmb : ((s : Int) % 9 == p) = true := by simpa using hmod
        have hown := HO.out
        clear hmod hst hm
        go_wp2_with (at_builtin; refine wpList_append_own_at _ rfl (.tmp 45) (.tmp 47) 38 rfl w.heap.size 3 i0 _ 1 8 Try.underlying38 hi hz0 hz1 hz2 rfl (by decide) _ m _ rfl (hown.alloc _) ⟨wo.heap.size, 0, none⟩ 1 1 [.int .i64 (s : Int)] rfl rfl (cell_row_new _ _ _) (by simp [Value.oneCell']) (by unfold maxLen; omega) (by omega) (by simp; omega) ?_; intro v3 w3 hown3 hg3 _ _)
        have HO3 : Hid (w3.ownsRow w.heap.size 3 1 v3 (m + 1) (rowI 9 p (f : Int) (m + 1))) := Lib.hid (by
          rw [rowI_succ, HAT.out]
          exact hown3)
        have HB3 : Hid (Below w.heap.size w w3) := Lib.hid (HB.out.trans ((((Below.refl _ wo).alloc (Nat.le_refl _) _).mono hbs).trans ((But.grown hg3).to_below (by simp; omega) (fun b e => (hown.lt b e).1))))
        clear hown hown3 hg3 HO HAT
        go_roundw
        case rel => exact ⟨s + 1, m + 1, _, by omega, by omega, rfl, by go_num, HM2, by omega, HO3, HB3⟩
        case measure => simp [RowKit.intOf]; omega
      · rw [if_neg hmod] at hst
        have HM2 : Hid ((m : Int) = ahV 9 p ((s + 1 : Nat) : Int) - ahV 9 p (f : Int)) := Lib.hid (by omega)
        have hmb : ((s : Int) % 9 == p) = false := by simpa using hmod
        clear hmod hst hm
        go_wp2
        go_roundw
        case rel => exact ⟨s + 1, m, _, by omega, by omega, rfl, by go_num, HM2, by omega, HO, HB⟩
        case measure => simp [RowKit.intOf]; omega
    · obtain rfl : s = t := by omega
      have HMM := Lib.hid (HMA.out m HM.out)
      clear HM
      go_wp2
      go_ret2
      refine ⟨_, rfl, ?_, HB.out⟩
      rw [HMM.out]
      exact HO.out
set_option maxRecDepth 100000 in
set_option maxHeartbeats 4000000 in
theorem Sm.rOwn_any (c p f t : Int) (w : World) : Calls Try.prog 24 #[.int .i64 c, .int .i64 p, .int .i64 f, .int .i64 t] w fun e w' => ∃ v, e = .returned (.tuple #[v, .int .i64 (mxV c p f t)]) ∧ w'.ownsRow w.heap.size 3 1 v (manyV c p f t).toNat (rowI c p f (manyV c p f t).toNat) ∧ Below w.heap.size w w' := by
  by_cases hx : mxV c p f t = 0
  · obtain ⟨hc, ⟨h0, h1⟩, h2, h3, h4⟩ := mxV_zero hx
    have hm : manyV c p f t = maV c p f t := by unfold manyV; rw [if_pos hx]
    rw [hm, hx]
    obtain ⟨fn, rfl⟩ : ∃ fn : Nat, f = (fn : Int) := ⟨f.toNat, by omega⟩
    obtain ⟨tn, rfl⟩ : ∃ tn : Nat, t = (tn : Int) := ⟨t.toNat, by omega⟩
    rcases chB_iff.1 hc with rfl | rfl | rfl | rfl
    · exact rOwn_3 p fn tn w h0 h1 (by omega) (by omega)
    · exact rOwn_5 p fn tn w h0 h1 (by omega) (by omega)
    · exact rOwn_7 p fn tn w h0 h1 (by omega) (by omega)
    · exact rOwn_9 p fn tn w h0 h1 (by omega) (by omega)
  · have hno : chB c = false ∨ rpB c p = false ∨ f < 0 ∨ t < f ∨ 4096 < t := by
      cases hc : chB c with
      | false => exact .inl rfl
      | true =>
        cases hp : rpB c p with
        | false => exact .inr (.inl rfl)
        | true =>
          obtain ⟨h0, h1⟩ := pl_parts hp
          by_cases hf : 0 ≤ f ∧ f ≤ t ∧ t ≤ 4096
          · exact absurd (mxV_iff hc h0 h1 hf.1 hf.2.1 hf.2.2) hx
          · omega
    have h2 := mx_no hno
    have hm := many_no h2
    rw [h2, hm]
    have hR := Right_any c w
    have hP := Place_any c p w
    have HW : Hid (w.ownsRow w.heap.size 3 1 (.slice none 0 0) (0 : Int).toNat (rowI c p f (0 : Int).toNat)) := Lib.hid (World.ownsRow_nil _ _ _ _)
    clear hx h2 hm
    cases hc : chB c with
    | false =>
      rw [hc] at hR
      clear hno hc
      go_enter Try.func24, Try.ntmps24
      go_wp2_with (first | (go_at_call 11; (with_reducible refine hR.mono ?_); rintro e w' ⟨rfl, rfl⟩) | (go_at_call 41; (with_reducible refine hP.mono ?_); rintro e w' ⟨rfl, rfl⟩))
      go_ret2
      exact ⟨_, rfl, HW.out, Below.refl _ _⟩
    | true =>
      rw [hc] at hR hno
      cases hp : rpB c p with
      | false =>
        rw [hp] at hP
        clear hno hc hp
        go_enter Try.func24, Try.ntmps24
        go_wp2_with (first | (go_at_call 11; (with_reducible refine hR.mono ?_); rintro e w' ⟨rfl, rfl⟩) | (go_at_call 41; (with_reducible refine hP.mono ?_); rintro e w' ⟨rfl, rfl⟩))
        go_ret2
        exact ⟨_, rfl, HW.out, Below.refl _ _⟩
      | true =>
        rw [hp] at hP hno
        have hno2 : f < 0 ∨ t < f ∨ 4096 < t := by simpa using hno
        clear hno hc hp
        by_cases hf : f < 0
        · clear hno2
          go_enter Try.func24, Try.ntmps24
          go_wp2_with (first | (go_at_call 11; (with_reducible refine hR.mono ?_); rintro e w' ⟨rfl, rfl⟩) | (go_at_call 41; (with_reducible refine hP.mono ?_); rintro e w' ⟨rfl, rfl⟩))
          go_ret2
          exact ⟨_, rfl, HW.out, Below.refl _ _⟩
        · by_cases htf : t < f
          · clear hno2
            go_enter Try.func24, Try.ntmps24
            go_wp2_with (first | (go_at_call 11; (with_reducible refine hR.mono ?_); rintro e w' ⟨rfl, rfl⟩) | (go_at_call 41; (with_reducible refine hP.mono ?_); rintro e w' ⟨rfl, rfl⟩))
            go_ret2
            exact ⟨_, rfl, HW.out, Below.refl _ _⟩
          · have h4 : 4096 < t := by omega
            clear hno2
            go_enter Try.func24, Try.ntmps24
            go_wp2_with (first | (go_at_call 11; (with_reducible refine hR.mono ?_); rintro e w' ⟨rfl, rfl⟩) | (go_at_call 41; (with_reducible refine hP.mono ?_); rintro e w' ⟨rfl, rfl⟩))
            go_ret2
            exact ⟨_, rfl, HW.out, Below.refl _ _⟩
end Go.Proofs
