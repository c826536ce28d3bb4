/-
  slots: the document's answers: the slot of a place's turn, a place's next slot. Conditions: as each theorem names them.
-/
import Derived.Test.YtdiidiaipfkmlaaSlL
namespace Go.Proofs
open Go Go.RowKit Sm Go.Lib
attribute [local go_sem] Oper.semAt_some
theorem Sm.ah_step {c p : Int} (s : Nat) (h : chB c = true) (hp2 : p < c) (hp : 0 ≤ p) : ahV c p ((s + 1 : Nat) : Int) = ahV c p (s : Int) + (if (s : Int) % c = p then 1 else 0) := by
  have := hp
  unfold ahV
  rcases chB_iff.1 h with rfl | rfl | rfl | rfl
  all_goals
    split <;> omega
theorem Sm.ah_hit {c p : Int} (s : Nat) (h : chB c = true) (hp : 0 ≤ p) (hp2 : p < c) (hs : (s : Int) % c = p) : (s : Int) = ahV c p (s : Int) * c + p ∧ (s < 4096 → ahV c p (s : Int) < ahV c p 4096) := by
  have := hp
  have := hp2
  unfold ahV
  rcases chB_iff.1 h with rfl | rfl | rfl | rfl <;> omega
theorem Sm.sx_no {c p t : Int} (h : chB c = false ∨ rpB c p = false) : sxV c p t = 2 := by
  unfold sxV refM
  rw [if_pos]
  cases hc : chB c with
  | false => exact .inl rfl
  | true =>
    right
    rw [hc] at h
    have h2 : rpB c p = false := by simpa using h
    rw [rpB_pl hc] at h2
    simp [h2]
theorem Sm.pl_parts {c p : Int} (h : rpB c p = true) : 0 ≤ p ∧ p < c := by
  unfold rpB at h
  simpa using h
theorem Sm.sx_yes {c p t : Int} (h : chB c = true) (hp : 0 ≤ p) (hp2 : p < c) : sxV c p t = if 0 ≤ t ∧ t < ahV c p 4096 then 0 else 4 := by
  have hpl := (plB_iff h).2 ⟨hp, hp2⟩
  unfold sxV refM
  rw [if_neg (by rw [h, hpl]; simp)]
  have hc9 : 0 ≤ c ∧ c ≤ 9 := by rcases chB_iff.1 h with e | e | e | e <;> omega
  by_cases ht : slB t = true
  · obtain ⟨t0, t1⟩ := slB_iff.1 ht
    have hsv := slV_eq (c := c) (p := p) t0 (by omega) hc9.1 hc9.2 hp hp2
    rw [hsv, ht]
    have hb := slB_iff (s := t * c + p)
    have hi : (0 ≤ t * c + p ∧ t * c + p ≤ 4095) ↔ (0 ≤ t ∧ t < ahV c p 4096) := by
      unfold ahV
      rcases chB_iff.1 h with rfl | rfl | rfl | rfl <;> omega
    rw [hi] at hb
    by_cases h2 : 0 ≤ t ∧ t < ahV c p 4096
    · rw [if_pos h2, hb.2 h2]
      rfl
    · rw [if_neg h2, show slB (t * c + p) = false by rw [Bool.eq_false_iff]; exact fun e => h2 (hb.1 e)]
      rfl
  · have hf : slB t = false := by simpa using ht
    have hn : ¬ (0 ≤ t ∧ t ≤ 4095) := fun e => ht (slB_iff.2 e)
    have hah2 : ahV c p 4096 ≤ 4095 := by
      unfold ahV
      rcases chB_iff.1 h with rfl | rfl | rfl | rfl <;> omega
    rw [hf, if_neg (show ¬ (0 ≤ t ∧ t < ahV c p 4096) by omega)]
    rfl
set_option maxRecDepth 100000 in
set_option maxHeartbeats 4000000 in
theorem Sm.rOf_3 (p t : Int) (w : World) (hp0 : 0 ≤ p) (hp1 : p < 3) : Calls Try.prog 22 #[.int .i64 3, .int .i64 p, .int .i64 t] w fun e w' => e = .returned (.tuple #[.int .i64 (if sxV 3 p t = 0 then slV 3 p t else 0), .int .i64 (sxV 3 p t)]) ∧ w = w' := by
  have hc : chB 3 = true := by decide
  have hR := Right_any 3 w
  have hP := Place_any 3 p w
  rw [hc] at hR
  rw [show rpB 3 p = true by unfold rpB; simp; omega] at hP
  have hsx := sx_yes (t := t) hc hp0 hp1
  have hsl : ∀ t : Int, 0 ≤ t → t ≤ 4096 → slV 3 p t = t * 3 + p := fun t t0 t1 => slV_eq t0 t1 (by omega) (by omega) hp0 hp1
  obtain ⟨x, hx⟩ : ∃ x, sxV 3 p t = x := ⟨_, rfl⟩
  obtain ⟨y, hy⟩ : ∃ y, (if x = 0 then slV 3 p t else 0) = y := ⟨_, rfl⟩
  rw [hx, hy]
  rw [hx] at hsx
  have HX : Hid (∀ s : Nat, s < 4096 → ahV 3 p (s : Int) = t → (s : Int) % 3 = p → 0 = x ∧ (s : Int) = y) := Lib.hid fun s hs ha hm => by
    obtain ⟨h1, h2⟩ := ah_hit s hc hp0 hp1 hm
    have h3 := ahV_nn hc hp0 hp1 (s := (s : Int)) (by omega) (by omega)
    rw [if_pos ⟨by omega, by rw [← ha]; exact h2 hs⟩] at hsx
    refine ⟨hsx.symm, ?_⟩
    rw [← hy, if_pos hsx, hsl t (by omega) (by omega), ← ha]
    exact h1
  have HN : Hid (¬ (0 ≤ t ∧ t < ahV 3 p 4096) → 4 = x ∧ 0 = y) := Lib.hid fun h => by
    rw [if_neg h] at hsx
    subst hsx
    exact ⟨rfl, hy⟩
  have HST := Lib.hid fun s => ah_step (p := p) s hc hp1 hp0
  have HNN : Hid (∀ s : Nat, s ≤ 4096 → 0 ≤ ahV 3 p (s : Int) ∧ ahV 3 p (s : Int) ≤ 4096) := Lib.hid fun s hs => ahV_nn hc hp0 hp1 (by omega) (by omega)
  have H0 : Hid (ahV 3 p ((0 : Nat) : Int) = 0) := Lib.hid (by unfold ahV; omega)
  clear hx hy hsx hc hsl
  go_enter Try.func22, Try.ntmps22
  go_wp2_with (first | (go_at_call 11; (with_reducible refine hR.mono ?_); rintro e w' ⟨rfl, rfl⟩) | (go_at_call 41; (with_reducible refine hP.mono ?_); rintro e w' ⟨rfl, rfl⟩))
  go_loopw [8, 9] (fun v8 v9 wr => ∃ s : Nat, ∃ a : Int, s ≤ 4096 ∧ v8 = .int .i64 a ∧ v9 = .int .i64 (s : Int) ∧ Hid (ahV 3 p (s : Int) = a ∧ ¬ (0 ≤ t ∧ t < a)) ∧ 0 ≤ a ∧ a ≤ 4096 ∧ wr = w) (fun _ v9 _ => 4096 - (RowKit.intOf v9).toNat)
  case atStart => exact ⟨0, 0, by omega, rfl, rfl, Lib.hid ⟨H0.out, by omega⟩, by omega, by omega, rfl⟩
  case round =>
    obtain ⟨s, a, hs, rfl, rfl, HA, ha0, ha1, rfl⟩ := hrel
    by_cases hlt : s < 4096
    · have hst := HST.out s
      have hnn := HNN.out (s + 1) (by omega)
      rw [HA.out.1] at hst
      by_cases hm : (s : Int) % 3 = p
      · rw [if_pos hm] at hst
        by_cases hat : a = t
        · obtain ⟨e1, e2⟩ := HX.out s hlt (HA.out.1.trans hat) hm
          have E1 := Lib.hid e1
          have E2 := Lib.hid e2
          have hmb : ((s : Int) % 3 == p) = true := by simpa using hm
          have hab : (a == t) = true := by simpa using hat
          clear e1 e2 hm hat hst hnn
          go_wp2
          go_ret2
          exact ⟨by rw [← E1.out, ← E2.out]; rfl, rfl⟩
        · have HA2 : Hid (ahV 3 p ((s + 1 : Nat) : Int) = a + 1 ∧ ¬ (0 ≤ t ∧ t < a + 1)) := Lib.hid ⟨hst, fun e => by have := HA.out.2; omega⟩
          have hmb : ((s : Int) % 3 == p) = true := by simpa using hm
          have hab : (a == t) = false := by simpa using hat
          have ha2 : a + 1 ≤ 4096 := by omega
          clear hm hat hst hnn
          go_wp2
          go_roundw
          case rel => exact ⟨s + 1, a + 1, by omega, rfl, by go_num, HA2, by omega, by omega, trivial⟩
          case measure => simp [RowKit.intOf]; omega
      · rw [if_neg hm] at hst
        have HA2 : Hid (ahV 3 p ((s + 1 : Nat) : Int) = a ∧ ¬ (0 ≤ t ∧ t < a)) := Lib.hid ⟨by omega, HA.out.2⟩
        have hmb : ((s : Int) % 3 == p) = false := by simpa using hm
        clear hm hst hnn
        go_wp2
        go_roundw
        case rel => exact ⟨s + 1, a, by omega, rfl, by go_num, HA2, by omega, by omega, trivial⟩
        case measure => simp [RowKit.intOf]; omega
    · obtain rfl : s = 4096 := by omega
      obtain ⟨e1, e2⟩ := HN.out (by have := HA.out; rw [← this.1] at this; exact this.2)
      have E1 := Lib.hid e1
      have E2 := Lib.hid e2
      clear e1 e2
      go_wp2
      go_ret2
      exact ⟨by rw [← E1.out, ← E2.out]; rfl, rfl⟩
set_option maxRecDepth 100000 in
set_option maxHeartbeats 4000000 in
theorem Sm.rOf_5 (p t : Int) (w : World) (hp0 : 0 ≤ p) (hp1 : p < 5) : Calls Try.prog 22 #[.int .i64 5, .int .i64 p, .int .i64 t] w fun e w' => e = .returned (.tuple #[.int .i64 (if sxV 5 p t = 0 then slV 5 p t else 0), .int .i64 (sxV 5 p t)]) ∧ w = w' := by
  have hc : chB 5 = true := by decide
  have hR := Right_any 5 w
  have hP := Place_any 5 p w
  rw [hc] at hR
  rw [show rpB 5 p = true by unfold rpB; simp; omega] at hP
  have hsx := sx_yes (t := t) hc hp0 hp1
  have hsl : ∀ t : Int, 0 ≤ t → t ≤ 4096 → slV 5 p t = t * 5 + p := fun t t0 t1 => slV_eq t0 t1 (by omega) (by omega) hp0 hp1
  obtain ⟨x, hx⟩ : ∃ x, sxV 5 p t = x := ⟨_, rfl⟩
  obtain ⟨y, hy⟩ : ∃ y, (if x = 0 then slV 5 p t else 0) = y := ⟨_, rfl⟩
  rw [hx, hy]
  rw [hx] at hsx
  have HX : Hid (∀ s : Nat, s < 4096 → ahV 5 p (s : Int) = t → (s : Int) % 5 = p → 0 = x ∧ (s : Int) = y) := Lib.hid fun s hs ha hm => by
    obtain ⟨h1, h2⟩ := ah_hit s hc hp0 hp1 hm
    have h3 := ahV_nn hc hp0 hp1 (s := (s : Int)) (by omega) (by omega)
    rw [if_pos ⟨by omega, by rw [← ha]; exact h2 hs⟩] at hsx
    refine ⟨hsx.symm, ?_⟩
    rw [← hy, if_pos hsx, hsl t (by omega) (by omega), ← ha]
    exact h1
  have HN : Hid (¬ (0 ≤ t ∧ t < ahV 5 p 4096) → 4 = x ∧ 0 = y) := Lib.hid fun h => by
    rw [if_neg h] at hsx
    subst hsx
    exact ⟨rfl, hy⟩
  have HST := Lib.hid fun s => ah_step (p := p) s hc hp1 hp0
  have HNN : Hid (∀ s : Nat, s ≤ 4096 → 0 ≤ ahV 5 p (s : Int) ∧ ahV 5 p (s : Int) ≤ 4096) := Lib.hid fun s hs => ahV_nn hc hp0 hp1 (by omega) (by omega)
  have H0 : Hid (ahV 5 p ((0 : Nat) : Int) = 0) := Lib.hid (by unfold ahV; omega)
  clear hx hy hsx hc hsl
  go_enter Try.func22, Try.ntmps22
  go_wp2_with (first | (go_at_call 11; (with_reducible refine hR.mono ?_); rintro e w' ⟨rfl, rfl⟩) | (go_at_call 41; (with_reducible refine hP.mono ?_); rintro e w' ⟨rfl, rfl⟩))
  go_loopw [8, 9] (fun v8 v9 wr => ∃ s : Nat, ∃ a : Int, s ≤ 4096 ∧ v8 = .int .i64 a ∧ v9 = .int .i64 (s : Int) ∧ Hid (ahV 5 p (s : Int) = a ∧ ¬ (0 ≤ t ∧ t < a)) ∧ 0 ≤ a ∧ a ≤ 4096 ∧ wr = w) (fun _ v9 _ => 4096 - (RowKit.intOf v9).toNat)
  case atStart => exact ⟨0, 0, by omega, rfl, rfl, Lib.hid ⟨H0.out, by omega⟩, by omega, by omega, rfl⟩
  case round =>
    obtain ⟨s, a, hs, rfl, rfl, HA, ha0, ha1, rfl⟩ := hrel
    by_cases hlt : s < 4096
    · have hst := HST.out s
      have hnn := HNN.out (s + 1) (by omega)
      rw [HA.out.1] at hst
      by_cases hm : (s : Int) % 5 = p
      · rw [if_pos hm] at hst
        by_cases hat : a = t
        · obtain ⟨e1, e2⟩ := HX.out s hlt (HA.out.1.trans hat) hm
          have E1 := Lib.hid e1
          have E2 := Lib.hid e2
          have hmb : ((s : Int) % 5 == p) = true := by simpa using hm
          have hab : (a == t) = true := by simpa using hat
          clear e1 e2 hm hat hst hnn
          go_wp2
          go_ret2
          exact ⟨by rw [← E1.out, ← E2.out]; rfl, rfl⟩
        · have HA2 : Hid (ahV 5 p ((s + 1 : Nat) : Int) = a + 1 ∧ ¬ (0 ≤ t ∧ t < a + 1)) := Lib.hid ⟨hst, fun e => by have := HA.out.2; omega⟩
          have hmb : ((s : Int) % 5 == p) = true := by simpa using hm
          have hab : (a == t) = false := by simpa using hat
          have ha2 : a + 1 ≤ 4096 := by omega
          clear hm hat hst hnn
          go_wp2
          go_roundw
          case rel => exact ⟨s + 1, a + 1, by omega, rfl, by go_num, HA2, by omega, by omega, trivial⟩
          case measure => simp [RowKit.intOf]; omega
      · rw [if_neg hm] at hst
        have HA2 : Hid (ahV 5 p ((s + 1 : Nat) : Int) = a ∧ ¬ (0 ≤ t ∧ t < a)) := Lib.hid ⟨by omega, HA.out.2⟩
        have hmb : ((s : Int) % 5 == p) = false := by simpa using hm
        clear hm hst hnn
        go_wp2
        go_roundw
        case rel => exact ⟨s + 1, a, by omega, rfl, by go_num, HA2, by omega, by omega, trivial⟩
        case measure => simp [RowKit.intOf]; omega
    · obtain rfl : s = 4096 := by omega
      obtain ⟨e1, e2⟩ := HN.out (by have := HA.out; rw [← this.1] at this; exact this.2)
      have E1 := Lib.hid e1
      have E2 := Lib.hid e2
      clear e1 e2
      go_wp2
      go_ret2
      exact ⟨by rw [← E1.out, ← E2.out]; rfl, rfl⟩
set_option maxRecDepth 100000 in
set_option maxHeartbeats 4000000 in
theorem Sm.rOf_7 (p t : Int) (w : World) (hp0 : 0 ≤ p) (hp1 : p < 7) : Calls Try.prog 22 #[.int .i64 7, .int .i64 p, .int .i64 t] w fun e w' => e = .returned (.tuple #[.int .i64 (if sxV 7 p t = 0 then slV 7 p t else 0), .int .i64 (sxV 7 p t)]) ∧ w = w' := by
  have hc : chB 7 = true := by decide
  have hR := Right_any 7 w
  have hP := Place_any 7 p w
  rw [hc] at hR
  rw [show rpB 7 p = true by unfold rpB; simp; omega] at hP
  have hsx := sx_yes (t := t) hc hp0 hp1
  have hsl : ∀ t : Int, 0 ≤ t → t ≤ 4096 → slV 7 p t = t * 7 + p := fun t t0 t1 => slV_eq t0 t1 (by omega) (by omega) hp0 hp1
  obtain ⟨x, hx⟩ : ∃ x, sxV 7 p t = x := ⟨_, rfl⟩
  obtain ⟨y, hy⟩ : ∃ y, (if x = 0 then slV 7 p t else 0) = y := ⟨_, rfl⟩
  rw [hx, hy]
  rw [hx] at hsx
  have HX : Hid (∀ s : Nat, s < 4096 → ahV 7 p (s : Int) = t → (s : Int) % 7 = p → 0 = x ∧ (s : Int) = y) := Lib.hid fun s hs ha hm => by
    obtain ⟨h1, h2⟩ := ah_hit s hc hp0 hp1 hm
    have h3 := ahV_nn hc hp0 hp1 (s := (s : Int)) (by omega) (by omega)
    rw [if_pos ⟨by omega, by rw [← ha]; exact h2 hs⟩] at hsx
    refine ⟨hsx.symm, ?_⟩
    rw [← hy, if_pos hsx, hsl t (by omega) (by omega), ← ha]
    exact h1
  have HN : Hid (¬ (0 ≤ t ∧ t < ahV 7 p 4096) → 4 = x ∧ 0 = y) := Lib.hid fun h => by
    rw [if_neg h] at hsx
    subst hsx
    exact ⟨rfl, hy⟩
  have HST := Lib.hid fun s => ah_step (p := p) s hc hp1 hp0
  have HNN : Hid (∀ s : Nat, s ≤ 4096 → 0 ≤ ahV 7 p (s : Int) ∧ ahV 7 p (s : Int) ≤ 4096) := Lib.hid fun s hs => ahV_nn hc hp0 hp1 (by omega) (by omega)
  have H0 : Hid (ahV 7 p ((0 : Nat) : Int) = 0) := Lib.hid (by unfold ahV; omega)
  clear hx hy hsx hc hsl
  go_enter Try.func22, Try.ntmps22
  go_wp2_with (first | (go_at_call 11; (with_reducible refine hR.mono ?_); rintro e w' ⟨rfl, rfl⟩) | (go_at_call 41; (with_reducible refine hP.mono ?_); rintro e w' ⟨rfl, rfl⟩))
  go_loopw [8, 9] (fun v8 v9 wr => ∃ s : Nat, ∃ a : Int, s ≤ 4096 ∧ v8 = .int .i64 a ∧ v9 = .int .i64 (s : Int) ∧ Hid (ahV 7 p (s : Int) = a ∧ ¬ (0 ≤ t ∧ t < a)) ∧ 0 ≤ a ∧ a ≤ 4096 ∧ wr = w) (fun _ v9 _ => 4096 - (RowKit.intOf v9).toNat)
  case atStart => exact ⟨0, 0, by omega, rfl, rfl, Lib.hid ⟨H0.out, by omega⟩, by omega, by omega, rfl⟩
  case round =>
    obtain ⟨s, a, hs, rfl, rfl, HA, ha0, ha1, rfl⟩ := hrel
    by_cases hlt : s < 4096
    · have hst := HST.out s
      have hnn := HNN.out (s + 1) (by omega)
      rw [HA.out.1] at hst
      by_cases hm : (s : Int) % 7 = p
      · rw [if_pos hm] at hst
        by_cases hat : a = t
        · obtain ⟨e1, e2⟩ := HX.out s hlt (HA.out.1.trans hat) hm
          have E1 := Lib.hid e1
          have E2 := Lib.hid e2
          have hmb : ((s : Int) % 7 == p) = true := by simpa using hm
          have hab : (a == t) = true := by simpa using hat
          clear e1 e2 hm hat hst hnn
          go_wp2
          go_ret2
          exact ⟨by rw [← E1.out, ← E2.out]; rfl, rfl⟩
        · have HA2 : Hid (ahV 7 p ((s + 1 : Nat) : Int) = a + 1 ∧ ¬ (0 ≤ t ∧ t < a + 1)) := Lib.hid ⟨hst, fun e => by have := HA.out.2; omega⟩
          have hmb : ((s : Int) % 7 == p) = true := by simpa using hm
          have hab : (a == t) = false := by simpa using hat
          have ha2 : a + 1 ≤ 4096 := by omega
          clear hm hat hst hnn
          go_wp2
          go_roundw
          case rel => exact ⟨s + 1, a + 1, by omega, rfl, by go_num, HA2, by omega, by omega, trivial⟩
          case measure => simp [RowKit.intOf]; omega
      · rw [if_neg hm] at hst
        have HA2 : Hid (ahV 7 p ((s + 1 : Nat) : Int) = a ∧ ¬ (0 ≤ t ∧ t < a)) := Lib.hid ⟨by omega, HA.out.2⟩
        have hmb : ((s : Int) % 7 == p) = false := by simpa using hm
        clear hm hst hnn
        go_wp2
        go_roundw
        case rel => exact ⟨s + 1, a, by omega, rfl, by go_num, HA2, by omega, by omega, trivial⟩
        case measure => simp [RowKit.intOf]; omega
    · obtain rfl : s = 4096 := by omega
      obtain ⟨e1, e2⟩ := HN.out (by have := HA.out; rw [← this.1] at this; exact this.2)
      have E1 := Lib.hid e1
      have E2 := Lib.hid e2
      clear e1 e2
      go_wp2
      go_ret2
      exact ⟨by rw [← E1.out, ← E2.out]; rfl, rfl⟩
set_option maxRecDepth 100000 in
set_option maxHeartbeats 4000000 in
theorem Sm.rOf_9 (p t : Int) (w : World) (hp0 : 0 ≤ p) (hp1 : p < 9) : Calls Try.prog 22 #[.int .i64 9, .int .i64 p, .int .i64 t] w fun e w' => e = .returned (.tuple #[.int .i64 (if sxV 9 p t = 0 then slV 9 p t else 0), .int .i64 (sxV 9 p t)]) ∧ w = w' := by
  have hc : chB 9 = true := by decide
  have hR := Right_any 9 w
  have hP := Place_any 9 p w
  rw [hc] at hR
  rw [show rpB 9 p = true by unfold rpB; simp; omega] at hP
  have hsx := sx_yes (t := t) hc hp0 hp1
  have hsl : ∀ t : Int, 0 ≤ t → t ≤ 4096 → slV 9 p t = t * 9 + p := fun t t0 t1 => slV_eq t0 t1 (by omega) (by omega) hp0 hp1
  obtain ⟨x, hx⟩ : ∃ x, sxV 9 p t = x := ⟨_, rfl⟩
  obtain ⟨y, hy⟩ : ∃ y, (if x = 0 then slV 9 p t else 0) = y := ⟨_, rfl⟩
  rw [hx, hy]
  rw [hx] at hsx
  have HX : Hid (∀ s : Nat, s < 4096 → ahV 9 p (s : Int) = t → (s : Int) % 9 = p → 0 = x ∧ (s : Int) = y) := Lib.hid fun s hs ha hm => by
    obtain ⟨h1, h2⟩ := ah_hit s hc hp0 hp1 hm
    have h3 := ahV_nn hc hp0 hp1 (s := (s : Int)) (by omega) (by omega)
    rw [if_pos ⟨by omega, by rw [← ha]; exact h2 hs⟩] at hsx
    refine ⟨hsx.symm, ?_⟩
    rw [← hy, if_pos hsx, hsl t (by omega) (by omega), ← ha]
    exact h1
  have HN : Hid (¬ (0 ≤ t ∧ t < ahV 9 p 4096) → 4 = x ∧ 0 = y) := Lib.hid fun h => by
    rw [if_neg h] at hsx
    subst hsx
    exact ⟨rfl, hy⟩
  have HST := Lib.hid fun s => ah_step (p := p) s hc hp1 hp0
  have HNN : Hid (∀ s : Nat, s ≤ 4096 → 0 ≤ ahV 9 p (s : Int) ∧ ahV 9 p (s : Int) ≤ 4096) := Lib.hid fun s hs => ahV_nn hc hp0 hp1 (by omega) (by omega)
  have H0 : Hid (ahV 9 p ((0 : Nat) : Int) = 0) := Lib.hid (by unfold ahV; omega)
  clear hx hy hsx hc hsl
  go_enter Try.func22, Try.ntmps22
  go_wp2_with (first | (go_at_call 11; (with_reducible refine hR.mono ?_); rintro e w' ⟨rfl, rfl⟩) | (go_at_call 41; (with_reducible refine hP.mono ?_); rintro e w' ⟨rfl, rfl⟩))
  go_loopw [8, 9] (fun v8 v9 wr => ∃ s : Nat, ∃ a : Int, s ≤ 4096 ∧ v8 = .int .i64 a ∧ v9 = .int .i64 (s : Int) ∧ Hid (ahV 9 p (s : Int) = a ∧ ¬ (0 ≤ t ∧ t < a)) ∧ 0 ≤ a ∧ a ≤ 4096 ∧ wr = w) (fun _ v9 _ => 4096 - (RowKit.intOf v9).toNat)
  case atStart => exact ⟨0, 0, by omega, rfl, rfl, Lib.hid ⟨H0.out, by omega⟩, by omega, by omega, rfl⟩
  case round =>
    obtain ⟨s, a, hs, rfl, rfl, HA, ha0, ha1, rfl⟩ := hrel
    by_cases hlt : s < 4096
    · have hst := HST.out s
      have hnn := HNN.out (s + 1) (by omega)
      rw [HA.out.1] at hst
      by_cases hm : (s : Int) % 9 = p
      · rw [if_pos hm] at hst
        by_cases hat : a = t
        · obtain ⟨e1, e2⟩ := HX.out s hlt (HA.out.1.trans hat) hm
          have E1 := Lib.hid e1
          have E2 := Lib.hid e2
          have hmb : ((s : Int) % 9 == p) = true := by simpa using hm
          have hab : (a == t) = true := by simpa using hat
          clear e1 e2 hm hat hst hnn
          go_wp2
          go_ret2
          exact ⟨by rw [← E1.out, ← E2.out]; rfl, rfl⟩
        · have HA2 : Hid (ahV 9 p ((s + 1 : Nat) : Int) = a + 1 ∧ ¬ (0 ≤ t ∧ t < a + 1)) := Lib.hid ⟨hst, fun e => by have := HA.out.2; omega⟩
          have hmb : ((s : Int) % 9 == p) = true := by simpa using hm
          have hab : (a == t) = false := by simpa using hat
          have ha2 : a + 1 ≤ 4096 := by omega
          clear hm hat hst hnn
          go_wp2
          go_roundw
          case rel => exact ⟨s + 1, a + 1, by omega, rfl, by go_num, HA2, by omega, by omega, trivial⟩
          case measure => simp [RowKit.intOf]; omega
      · rw [if_neg hm] at hst
        have HA2 : Hid (ahV 9 p ((s + 1 : Nat) : Int) = a ∧ ¬ (0 ≤ t ∧ t < a)) := Lib.hid ⟨by omega, HA.out.2⟩
        have hmb : ((s : Int) % 9 == p) = false := by simpa using hm
        clear hm hst hnn
        go_wp2
        go_roundw
        case rel => exact ⟨s + 1, a, by omega, rfl, by go_num, HA2, by omega, by omega, trivial⟩
        case measure => simp [RowKit.intOf]; omega
    · obtain rfl : s = 4096 := by omega
      obtain ⟨e1, e2⟩ := HN.out (by have := HA.out; rw [← this.1] at this; exact this.2)
      have E1 := Lib.hid e1
      have E2 := Lib.hid e2
      clear e1 e2
      go_wp2
      go_ret2
      exact ⟨by rw [← E1.out, ← E2.out]; rfl, rfl⟩
theorem Sm.rOf_any (c p t : Int) (w : World) : Calls Try.prog 22 #[.int .i64 c, .int .i64 p, .int .i64 t] w fun e w' => e = .returned (.tuple #[.int .i64 (if sxV c p t = 0 then slV c p t else 0), .int .i64 (sxV c p t)]) ∧ w = w' := by
  have hR := Right_any c w
  have hP := Place_any c p w
  cases hc : chB c with
  | false =>
    rw [hc] at hR
    rw [sx_no (.inl hc)]
    clear hc
    go_enter Try.func22, Try.ntmps22
    go_wp2_with (first | (go_at_call 11; (with_reducible refine hR.mono ?_); rintro e w' ⟨rfl, rfl⟩) | (go_at_call 41; (with_reducible refine hP.mono ?_); rintro e w' ⟨rfl, rfl⟩))
    go_ret2
    exact ⟨rfl, rfl⟩
  | true =>
    rw [hc] at hR
    cases hp : rpB c p with
    | false =>
      rw [hp] at hP
      rw [sx_no (.inr hp)]
      clear hc hp
      go_enter Try.func22, Try.ntmps22
      go_wp2_with (first | (go_at_call 11; (with_reducible refine hR.mono ?_); rintro e w' ⟨rfl, rfl⟩) | (go_at_call 41; (with_reducible refine hP.mono ?_); rintro e w' ⟨rfl, rfl⟩))
      go_ret2
      exact ⟨rfl, rfl⟩
    | true =>
      obtain ⟨h0, h1⟩ := pl_parts hp
      rcases chB_iff.1 hc with rfl | rfl | rfl | rfl
      · exact rOf_3 p t w h0 h1
      · exact rOf_5 p t w h0 h1
      · exact rOf_7 p t w h0 h1
      · exact rOf_9 p t w h0 h1
/-- why there is no next slot -/
theorem Sm.nx_no {c p f : Int} (h : chB c = false ∨ rpB c p = false) : nxE c p f = 2 := by
  unfold nxE refM
  rw [if_pos]
  cases hc : chB c with
  | false => exact .inl rfl
  | true =>
    right
    rw [hc] at h
    have h2 : rpB c p = false := by simpa using h
    rw [rpB_pl hc] at h2
    simp [h2]
theorem Sm.nx_yes {c p f : Int} (h : chB c = true) (hp : 0 ≤ p) (hp2 : p < c) : (ahV c p (bndI 0 f 4096) < ahV c p 4096 → nxV c p f = ahV c p (bndI 0 f 4096) * c + p ∧ nxE c p f = 0) ∧ (¬ ahV c p (bndI 0 f 4096) < ahV c p 4096 → nxE c p f = 4) := by
  have hpl := (plB_iff h).2 ⟨hp, hp2⟩
  have hb : 0 ≤ bndI 0 f 4096 ∧ bndI 0 f 4096 ≤ 4096 := by unfold bndI; omega
  have hm0 : mxV c p (bndI 0 f 4096) 4096 = 0 := mxV_iff h hp hp2 hb.1 hb.2 (by decide)
  have hmv : manyV c p (bndI 0 f 4096) 4096 = ahV c p 4096 - ahV c p (bndI 0 f 4096) := by
    unfold manyV
    rw [if_pos hm0]
    rfl
  have hE : nxE c p f = if slB (nxV c p f) = true then 0 else 4 := by
    unfold nxE refM
    rw [if_neg (by rw [h, hpl]; simp)]
    cases slB (nxV c p f) <;> rfl
  rw [hE]
  have hV : nxV c p f = if 0 < ahV c p 4096 - ahV c p (bndI 0 f 4096) then ahV c p (bndI 0 f 4096) * c + p else 4096 := by
    unfold nxV
    rw [hmv]
    unfold atV
    simp
  rw [hV]
  refine ⟨fun h1 => ?_, fun h1 => ?_⟩
  · rw [if_pos (show 0 < ahV c p 4096 - ahV c p (bndI 0 f 4096) by omega)]
    refine ⟨rfl, ?_⟩
    rw [if_pos]
    refine slB_iff.2 ?_
    have h0 := ahV_nn h hp hp2 hb.1 hb.2
    revert h1 h0
    generalize ahV c p (bndI 0 f 4096) = a
    intro h1 h0
    unfold ahV at h1
    rcases chB_iff.1 h with rfl | rfl | rfl | rfl <;> omega
  · rw [if_neg (show ¬ 0 < ahV c p 4096 - ahV c p (bndI 0 f 4096) by omega)]
    decide
set_option maxRecDepth 100000 in
set_option maxHeartbeats 4000000 in
theorem Sm.rNext_3 (p f : Int) (w : World) (hp0 : 0 ≤ p) (hp1 : p < 3) : Calls Try.prog 23 #[.int .i64 3, .int .i64 p, .int .i64 f] w fun e w' => e = .returned (.tuple #[.int .i64 (if nxE 3 p f = 0 then nxV 3 p f else 0), .int .i64 (nxE 3 p f)]) ∧ w = w' := by
  have hc : chB 3 = true := by decide
  have hR := Right_any 3 w
  have hP := Place_any 3 p w
  rw [hc] at hR
  rw [show rpB 3 p = true by unfold rpB; simp; omega] at hP
  obtain ⟨hy1, hy2⟩ := nx_yes (f := f) hc hp0 hp1
  obtain ⟨x, hx⟩ : ∃ x, nxE 3 p f = x := ⟨_, rfl⟩
  obtain ⟨y, hy⟩ : ∃ y, (if x = 0 then nxV 3 p f else 0) = y := ⟨_, rfl⟩
  rw [hx, hy]
  rw [hx] at hy1 hy2
  obtain ⟨s0, hs0⟩ : ∃ s0 : Nat, max 0 f = (s0 : Int) := ⟨(max 0 f).toNat, by omega⟩
  have hbn : bndI 0 f 4096 = ((min s0 4096 : Nat) : Int) := by unfold bndI; omega
  rw [hbn] at hy1 hy2
  have HX : Hid (∀ s : Nat, s < 4096 → ahV 3 p (s : Int) = ahV 3 p ((min s0 4096 : Nat) : Int) → (s : Int) % 3 = p → 0 = x ∧ (s : Int) = y) := Lib.hid fun s hs ha hm => by
    obtain ⟨h1, h2⟩ := ah_hit s hc hp0 hp1 hm
    have h3 := h2 hs
    rw [ha] at h3 h1
    obtain ⟨h4, h5⟩ := hy1 h3
    refine ⟨h5.symm, ?_⟩
    rw [← hy, if_pos h5, h4]
    exact h1
  have HN : Hid (ahV 3 p 4096 = ahV 3 p ((min s0 4096 : Nat) : Int) → 4 = x ∧ 0 = y) := Lib.hid fun h => by
    have h1 := hy2 (by omega)
    subst h1
    exact ⟨rfl, hy⟩
  have HST := Lib.hid fun s => ah_step (p := p) s hc hp1 hp0
  have HM : Hid (∀ k k' : IntKind, ∀ ts t (W : World), (Builtin.max_ ts t #[.int k 0, .int k' f]).run Try.prog W = .ok (.int k (s0 : Int)) W) := Lib.hid fun k k' ts t W => by rw [Lib.run_max_ints, hs0]
  have hm := HM.out .i64 .i64
  clear hx hy hy1 hy2 hc hbn
  go_enter Try.func23, Try.ntmps23
  go_wp2_with (first | (go_at_call 11; (with_reducible refine hR.mono ?_); rintro e w' ⟨rfl, rfl⟩) | (go_at_call 41; (with_reducible refine hP.mono ?_); rintro e w' ⟨rfl, rfl⟩))
  clear hs0
  by_cases hbig : 4096 ≤ s0
  · obtain ⟨e1, e2⟩ := HN.out (by rw [show min s0 4096 = 4096 by omega]; rfl)
    have E1 := Lib.hid e1
    have E2 := Lib.hid e2
    have hbi : ¬ (s0 : Int) < 4096 := by omega
    clear e1 e2
    go_loopw [8] (fun v8 wr => v8 = .int .i64 (s0 : Int) ∧ wr = w) (fun _ _ => 0)
    case atStart => exact ⟨rfl, rfl⟩
    case round =>
      obtain ⟨rfl, rfl⟩ := hrel
      go_wp2
      go_ret2
      exact ⟨by rw [← E1.out, ← E2.out]; rfl, rfl⟩
  · go_loopw [8] (fun v8 wr => ∃ s : Nat, s ≤ 4096 ∧ v8 = .int .i64 (s : Int) ∧ Hid (ahV 3 p (s : Int) = ahV 3 p ((min s0 4096 : Nat) : Int)) ∧ wr = w) (fun v8 _ => 4096 - (RowKit.intOf v8).toNat)
    case atStart => exact ⟨s0, by omega, rfl, Lib.hid (by rw [show min s0 4096 = s0 by omega]), rfl⟩
    case round =>
      obtain ⟨s, hs, rfl, HA, rfl⟩ := hrel
      by_cases hlt : s < 4096
      · have hst := HST.out s
        by_cases hm : (s : Int) % 3 = p
        · obtain ⟨e1, e2⟩ := HX.out s hlt HA.out hm
          have E1 := Lib.hid e1
          have E2 := Lib.hid e2
          have hmb : ((s : Int) % 3 == p) = true := by simpa using hm
          clear e1 e2 hm hst
          go_wp2
          go_ret2
          exact ⟨by rw [← E1.out, ← E2.out]; rfl, rfl⟩
        · rw [if_neg hm] at hst
          have HA2 : Hid (ahV 3 p ((s + 1 : Nat) : Int) = ahV 3 p ((min s0 4096 : Nat) : Int)) := Lib.hid (by have := HA.out; omega)
          have hmb : ((s : Int) % 3 == p) = false := by simpa using hm
          clear hm hst
          go_wp2
          go_roundw
          case rel => exact ⟨s + 1, by omega, by go_num, HA2, trivial⟩
          case measure => simp [RowKit.intOf]; omega
      · obtain rfl : s = 4096 := by omega
        obtain ⟨e1, e2⟩ := HN.out HA.out
        have E1 := Lib.hid e1
        have E2 := Lib.hid e2
        clear e1 e2
        go_wp2
        go_ret2
        exact ⟨by rw [← E1.out, ← E2.out]; rfl, rfl⟩
set_option maxRecDepth 100000 in
set_option maxHeartbeats 4000000 in
theorem Sm.rNext_5 (p f : Int) (w : World) (hp0 : 0 ≤ p) (hp1 : p < 5) : Calls Try.prog 23 #[.int .i64 5, .int .i64 p, .int .i64 f] w fun e w' => e = .returned (.tuple #[.int .i64 (if nxE 5 p f = 0 then nxV 5 p f else 0), .int .i64 (nxE 5 p f)]) ∧ w = w' := by
  have hc : chB 5 = true := by decide
  have hR := Right_any 5 w
  have hP := Place_any 5 p w
  rw [hc] at hR
  rw [show rpB 5 p = true by unfold rpB; simp; omega] at hP
  obtain ⟨hy1, hy2⟩ := nx_yes (f := f) hc hp0 hp1
  obtain ⟨x, hx⟩ : ∃ x, nxE 5 p f = x := ⟨_, rfl⟩
  obtain ⟨y, hy⟩ : ∃ y, (if x = 0 then nxV 5 p f else 0) = y := ⟨_, rfl⟩
  rw [hx, hy]
  rw [hx] at hy1 hy2
  obtain ⟨s0, hs0⟩ : ∃ s0 : Nat, max 0 f = (s0 : Int) := ⟨(max 0 f).toNat, by omega⟩
  have hbn : bndI 0 f 4096 = ((min s0 4096 : Nat) : Int) := by unfold bndI; omega
  rw [hbn] at hy1 hy2
  have HX : Hid (∀ s : Nat, s < 4096 → ahV 5 p (s : Int) = ahV 5 p ((min s0 4096 : Nat) : Int) → (s : Int) % 5 = p → 0 = x ∧ (s : Int) = y) := Lib.hid fun s hs ha hm => by
    obtain ⟨h1, h2⟩ := ah_hit s hc hp0 hp1 hm
    have h3 := h2 hs
    rw [ha] at h3 h1
    obtain ⟨h4, h5⟩ := hy1 h3
    refine ⟨h5.symm, ?_⟩
    rw [← hy, if_pos h5, h4]
    exact h1
  have HN : Hid (ahV 5 p 4096 = ahV 5 p ((min s0 4096 : Nat) : Int) → 4 = x ∧ 0 = y) := Lib.hid fun h => by
    have h1 := hy2 (by omega)
    subst h1
    exact ⟨rfl, hy⟩
  have HST := Lib.hid fun s => ah_step (p := p) s hc hp1 hp0
  have HM : Hid (∀ k k' : IntKind, ∀ ts t (W : World), (Builtin.max_ ts t #[.int k 0, .int k' f]).run Try.prog W = .ok (.int k (s0 : Int)) W) := Lib.hid fun k k' ts t W => by rw [Lib.run_max_ints, hs0]
  have hm := HM.out .i64 .i64
  clear hx hy hy1 hy2 hc hbn
  go_enter Try.func23, Try.ntmps23
  go_wp2_with (first | (go_at_call 11; (with_reducible refine hR.mono ?_); rintro e w' ⟨rfl, rfl⟩) | (go_at_call 41; (with_reducible refine hP.mono ?_); rintro e w' ⟨rfl, rfl⟩))
  clear hs0
  by_cases hbig : 4096 ≤ s0
  · obtain ⟨e1, e2⟩ := HN.out (by rw [show min s0 4096 = 4096 by omega]; rfl)
    have E1 := Lib.hid e1
    have E2 := Lib.hid e2
    have hbi : ¬ (s0 : Int) < 4096 := by omega
    clear e1 e2
    go_loopw [8] (fun v8 wr => v8 = .int .i64 (s0 : Int) ∧ wr = w) (fun _ _ => 0)
    case atStart => exact ⟨rfl, rfl⟩
    case round =>
      obtain ⟨rfl, rfl⟩ := hrel
      go_wp2
      go_ret2
      exact ⟨by rw [← E1.out, ← E2.out]; rfl, rfl⟩
  · go_loopw [8] (fun v8 wr => ∃ s : Nat, s ≤ 4096 ∧ v8 = .int .i64 (s : Int) ∧ Hid (ahV 5 p (s : Int) = ahV 5 p ((min s0 4096 : Nat) : Int)) ∧ wr = w) (fun v8 _ => 4096 - (RowKit.intOf v8).toNat)
    case atStart => exact ⟨s0, by omega, rfl, Lib.hid (by rw [show min s0 4096 = s0 by omega]), rfl⟩
    case round =>
      obtain ⟨s, hs, rfl, HA, rfl⟩ := hrel
      by_cases hlt : s < 4096
      · have hst := HST.out s
        by_cases hm : (s : Int) % 5 = p
        · obtain ⟨e1, e2⟩ := HX.out s hlt HA.out hm
          have E1 := Lib.hid e1
          have E2 := Lib.hid e2
          have hmb : ((s : Int) % 5 == p) = true := by simpa using hm
          clear e1 e2 hm hst
          go_wp2
          go_ret2
          exact ⟨by rw [← E1.out, ← E2.out]; rfl, rfl⟩
        · rw [if_neg hm] at hst
          have HA2 : Hid (ahV 5 p ((s + 1 : Nat) : Int) = ahV 5 p ((min s0 4096 : Nat) : Int)) := Lib.hid (by have := HA.out; omega)
          have hmb : ((s : Int) % 5 == p) = false := by simpa using hm
          clear hm hst
          go_wp2
          go_roundw
          case rel => exact ⟨s + 1, by omega, by go_num, HA2, trivial⟩
          case measure => simp [RowKit.intOf]; omega
      · obtain rfl : s = 4096 := by omega
        obtain ⟨e1, e2⟩ := HN.out HA.out
        have E1 := Lib.hid e1
        have E2 := Lib.hid e2
        clear e1 e2
        go_wp2
        go_ret2
        exact ⟨by rw [← E1.out, ← E2.out]; rfl, rfl⟩
set_option maxRecDepth 100000 in
set_option maxHeartbeats 4000000 in
theorem Sm.rNext_7 (p f : Int) (w : World) (hp0 : 0 ≤ p) (hp1 : p < 7) : Calls Try.prog 23 #[.int .i64 7, .int .i64 p, .int .i64 f] w fun e w' => e = .returned (.tuple #[.int .i64 (if nxE 7 p f = 0 then nxV 7 p f else 0), .int .i64 (nxE 7 p f)]) ∧ w = w' := by
  have hc : chB 7 = true := by decide
  have hR := Right_any 7 w
  have hP := Place_any 7 p w
  rw [hc] at hR
  rw [show rpB 7 p = true by unfold rpB; simp; omega] at hP
  obtain ⟨hy1, hy2⟩ := nx_yes (f := f) hc hp0 hp1
  obtain ⟨x, hx⟩ : ∃ x, nxE 7 p f = x := ⟨_, rfl⟩
  obtain ⟨y, hy⟩ : ∃ y, (if x = 0 then nxV 7 p f else 0) = y := ⟨_, rfl⟩
  rw [hx, hy]
  rw [hx] at hy1 hy2
  obtain ⟨s0, hs0⟩ : ∃ s0 : Nat, max 0 f = (s0 : Int) := ⟨(max 0 f).toNat, by omega⟩
  have hbn : bndI 0 f 4096 = ((min s0 4096 : Nat) : Int) := by unfold bndI; omega
  rw [hbn] at hy1 hy2
  have HX : Hid (∀ s : Nat, s < 4096 → ahV 7 p (s : Int) = ahV 7 p ((min s0 4096 : Nat) : Int) → (s : Int) % 7 = p → 0 = x ∧ (s : Int) = y) := Lib.hid fun s hs ha hm => by
    obtain ⟨h1, h2⟩ := ah_hit s hc hp0 hp1 hm
    have h3 := h2 hs
    rw [ha] at h3 h1
    obtain ⟨h4, h5⟩ := hy1 h3
    refine ⟨h5.symm, ?_⟩
    rw [← hy, if_pos h5, h4]
    exact h1
  have HN : Hid (ahV 7 p 4096 = ahV 7 p ((min s0 4096 : Nat) : Int) → 4 = x ∧ 0 = y) := Lib.hid fun h => by
    have h1 := hy2 (by omega)
    subst h1
    exact ⟨rfl, hy⟩
  have HST := Lib.hid fun s => ah_step (p := p) s hc hp1 hp0
  have HM : Hid (∀ k k' : IntKind, ∀ ts t (W : World), (Builtin.max_ ts t #[.int k 0, .int k' f]).run Try.prog W = .ok (.int k (s0 : Int)) W) := Lib.hid fun k k' ts t W => by rw [Lib.run_max_ints, hs0]
  have hm := HM.out .i64 .i64
  clear hx hy hy1 hy2 hc hbn
  go_enter Try.func23, Try.ntmps23
  go_wp2_with (first | (go_at_call 11; (with_reducible refine hR.mono ?_); rintro e w' ⟨rfl, rfl⟩) | (go_at_call 41; (with_reducible refine hP.mono ?_); rintro e w' ⟨rfl, rfl⟩))
  clear hs0
  by_cases hbig : 4096 ≤ s0
  · obtain ⟨e1, e2⟩ := HN.out (by rw [show min s0 4096 = 4096 by omega]; rfl)
    have E1 := Lib.hid e1
    have E2 := Lib.hid e2
    have hbi : ¬ (s0 : Int) < 4096 := by omega
    clear e1 e2
    go_loopw [8] (fun v8 wr => v8 = .int .i64 (s0 : Int) ∧ wr = w) (fun _ _ => 0)
    case atStart => exact ⟨rfl, rfl⟩
    case round =>
      obtain ⟨rfl, rfl⟩ := hrel
      go_wp2
      go_ret2
      exact ⟨by rw [← E1.out, ← E2.out]; rfl, rfl⟩
  · go_loopw [8] (fun v8 wr => ∃ s : Nat, s ≤ 4096 ∧ v8 = .int .i64 (s : Int) ∧ Hid (ahV 7 p (s : Int) = ahV 7 p ((min s0 4096 : Nat) : Int)) ∧ wr = w) (fun v8 _ => 4096 - (RowKit.intOf v8).toNat)
    case atStart => exact ⟨s0, by omega, rfl, Lib.hid (by rw [show min s0 4096 = s0 by omega]), rfl⟩
    case round =>
      obtain ⟨s, hs, rfl, HA, rfl⟩ := hrel
      by_cases hlt : s < 4096
      · have hst := HST.out s
        by_cases hm : (s : Int) % 7 = p
        · obtain ⟨e1, e2⟩ := HX.out s hlt HA.out hm
          have E1 := Lib.hid e1
          have E2 := Lib.hid e2
          have hmb : ((s : Int) % 7 == p) = true := by simpa using hm
          clear e1 e2 hm hst
          go_wp2
          go_ret2
          exact ⟨by rw [← E1.out, ← E2.out]; rfl, rfl⟩
        · rw [if_neg hm] at hst
          have HA2 : Hid (ahV 7 p ((s + 1 : Nat) : Int) = ahV 7 p ((min s0 4096 : Nat) : Int)) := Lib.hid (by have := HA.out; omega)
          have hmb : ((s : Int) % 7 == p) = false := by simpa using hm
          clear hm hst
          go_wp2
          go_roundw
          case rel => exact ⟨s + 1, by omega, by go_num, HA2, trivial⟩
          case measure => simp [RowKit.intOf]; omega
      · obtain rfl : s = 4096 := by omega
        obtain ⟨e1, e2⟩ := HN.out HA.out
        have E1 := Lib.hid e1
        have E2 := Lib.hid e2
        clear e1 e2
        go_wp2
        go_ret2
        exact ⟨by rw [← E1.out, ← E2.out]; rfl, rfl⟩
set_option maxRecDepth 100000 in
set_option maxHeartbeats 4000000 in
theorem Sm.rNext_9 (p f : Int) (w : World) (hp0 : 0 ≤ p) (hp1 : p < 9) : Calls Try.prog 23 #[.int .i64 9, .int .i64 p, .int .i64 f] w fun e w' => e = .returned (.tuple #[.int .i64 (if nxE 9 p f = 0 then nxV 9 p f else 0), .int .i64 (nxE 9 p f)]) ∧ w = w' := by
  have hc : chB 9 = true := by decide
  have hR := Right_any 9 w
  have hP := Place_any 9 p w
  rw [hc] at hR
  rw [show rpB 9 p = true by unfold rpB; simp; omega] at hP
  obtain ⟨hy1, hy2⟩ := nx_yes (f := f) hc hp0 hp1
  obtain ⟨x, hx⟩ : ∃ x, nxE 9 p f = x := ⟨_, rfl⟩
  obtain ⟨y, hy⟩ : ∃ y, (if x = 0 then nxV 9 p f else 0) = y := ⟨_, rfl⟩
  rw [hx, hy]
  rw [hx] at hy1 hy2
  obtain ⟨s0, hs0⟩ : ∃ s0 : Nat, max 0 f = (s0 : Int) := ⟨(max 0 f).toNat, by omega⟩
  have hbn : bndI 0 f 4096 = ((min s0 4096 : Nat) : Int) := by unfold bndI; omega
  rw [hbn] at hy1 hy2
  have HX : Hid (∀ s : Nat, s < 4096 → ahV 9 p (s : Int) = ahV 9 p ((min s0 4096 : Nat) : Int) → (s : Int) % 9 = p → 0 = x ∧ (s : Int) = y) := Lib.hid fun s hs ha hm => by
    obtain ⟨h1, h2⟩ := ah_hit s hc hp0 hp1 hm
    have h3 := h2 hs
    rw [ha] at h3 h1
    obtain ⟨h4, h5⟩ := hy1 h3
    refine ⟨h5.symm, ?_⟩
    rw [← hy, if_pos h5, h4]
    exact h1
  have HN : Hid (ahV 9 p 4096 = ahV 9 p ((min s0 4096 : Nat) : Int) → 4 = x ∧ 0 = y) := Lib.hid fun h => by
    have h1 := hy2 (by omega)
    subst h1
    exact ⟨rfl, hy⟩
  have HST := Lib.hid fun s => ah_step (p := p) s hc hp1 hp0
  have HM : Hid (∀ k k' : IntKind, ∀ ts t (W : World), (Builtin.max_ ts t #[.int k 0, .int k' f]).run Try.prog W = .ok (.int k (s0 : Int)) W) := Lib.hid fun k k' ts t W => by rw [Lib.run_max_ints, hs0]
  have hm := HM.out .i64 .i64
  clear hx hy hy1 hy2 hc hbn
  go_enter Try.func23, Try.ntmps23
  go_wp2_with (first | (go_at_call 11; (with_reducible refine hR.mono ?_); rintro e w' ⟨rfl, rfl⟩) | (go_at_call 41; (with_reducible refine hP.mono ?_); rintro e w' ⟨rfl, rfl⟩))
  clear hs0
  by_cases hbig : 4096 ≤ s0
  · obtain ⟨e1, e2⟩ := HN.out (by rw [show min s0 4096 = 4096 by omega]; rfl)
    have E1 := Lib.hid e1
    have E2 := Lib.hid e2
    have hbi : ¬ (s0 : Int) < 4096 := by omega
    clear e1 e2
    go_loopw [8] (fun v8 wr => v8 = .int .i64 (s0 : Int) ∧ wr = w) (fun _ _ => 0)
    case atStart => exact ⟨rfl, rfl⟩
    case round =>
      obtain ⟨rfl, rfl⟩ := hrel
      go_wp2
      go_ret2
      exact ⟨by rw [← E1.out, ← E2.out]; rfl, rfl⟩
  · go_loopw [8] (fun v8 wr => ∃ s : Nat, s ≤ 4096 ∧ v8 = .int .i64 (s : Int) ∧ Hid (ahV 9 p (s : Int) = ahV 9 p ((min s0 4096 : Nat) : Int)) ∧ wr = w) (fun v8 _ => 4096 - (RowKit.intOf v8).toNat)
    case atStart => exact ⟨s0, by omega, rfl, Lib.hid (by rw [show min s0 4096 = s0 by omega]), rfl⟩
    case round =>
      obtain ⟨s, hs, rfl, HA, rfl⟩ := hrel
      by_cases hlt : s < 4096
      · have hst := HST.out s
        by_cases hm : (s : Int) % 9 = p
        · obtain ⟨e1, e2⟩ := HX.out s hlt HA.out hm
          have E1 := Lib.hid e1
          have E2 := Lib.hid e2
          have hmb : ((s : Int) % 9 == p) = true := by simpa using hm
          clear e1 e2 hm hst
          go_wp2
          go_ret2
          exact ⟨by rw [← E1.out, ← E2.out]; rfl, rfl⟩
        · rw [if_neg hm] at hst
          have HA2 : Hid (ahV 9 p ((s + 1 : Nat) : Int) = ahV 9 p ((min s0 4096 : Nat) : Int)) := Lib.hid (by have := HA.out; omega)
          have hmb : ((s : Int) % 9 == p) = false := by simpa using hm
          clear hm hst
          go_wp2
          go_roundw
          case rel => exact ⟨s + 1, by omega, by go_num, HA2, trivial⟩
          case measure => simp [RowKit.intOf]; omega
      · obtain rfl : s = 4096 := by omega
        obtain ⟨e1, e2⟩ := HN.out HA.out
        have E1 := Lib.hid e1
        have E2 := Lib.hid e2
        clear e1 e2
        go_wp2
        go_ret2
        exact ⟨by rw [← E1.out, ← E2.out]; rfl, rfl⟩
theorem Sm.rNext_any (c p f : Int) (w : World) : Calls Try.prog 23 #[.int .i64 c, .int .i64 p, .int .i64 f] w fun e w' => e = .returned (.tuple #[.int .i64 (if nxE c p f = 0 then nxV c p f else 0), .int .i64 (nxE c p f)]) ∧ w = w' := by
  have hR := Right_any c w
  have hP := Place_any c p w
  cases hc : chB c with
  | false =>
    rw [hc] at hR
    rw [nx_no (.inl hc)]
    clear hc
    go_enter Try.func23, Try.ntmps23
    go_wp2_with (first | (go_at_call 11; (with_reducible refine hR.mono ?_); rintro e w' ⟨rfl, rfl⟩) | (go_at_call 41; (with_reducible refine hP.mono ?_); rintro e w' ⟨rfl, rfl⟩))
    go_ret2
    exact ⟨rfl, rfl⟩
  | true =>
    rw [hc] at hR
    cases hp : rpB c p with
    | false =>
      rw [hp] at hP
      rw [nx_no (.inr hp)]
      clear hc hp
      go_enter Try.func23, Try.ntmps23
      go_wp2_with (first | (go_at_call 11; (with_reducible refine hR.mono ?_); rintro e w' ⟨rfl, rfl⟩) | (go_at_call 41; (with_reducible refine hP.mono ?_); rintro e w' ⟨rfl, rfl⟩))
      go_ret2
      exact ⟨rfl, rfl⟩
    | true =>
      obtain ⟨h0, h1⟩ := pl_parts hp
      rcases chB_iff.1 hc with rfl | rfl | rfl | rfl
      · exact rNext_3 p f w h0 h1
      · exact rNext_5 p f w h0 h1
      · exact rNext_7 p f w h0 h1
      · exact rNext_9 p f w h0 h1
end Go.Proofs
