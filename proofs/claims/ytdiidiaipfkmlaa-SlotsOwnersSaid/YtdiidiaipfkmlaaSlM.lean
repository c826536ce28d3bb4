/-
  The walks of SlotsChoirs and SlotsOwners. No condition.
-/
import Derived.Test.YtdiidiaipfkmlaaSlL
namespace Go.Proofs
open Go Go.RowKit Sm Go.Lib
attribute [local go_sem] Oper.semAt_some
set_option maxRecDepth 100000 in
set_option maxHeartbeats 4000000 in
theorem Sm.choirs_law (c : Int) (w : World) : Calls Try.prog 3 #[.int .i64 c] w fun e w' => e = .returned (.bool true) ∧ Below w.heap.size w w' := by
  have hM := fun W => Majority_any c W
  have hC := fun W => Check_any c W
  have hR := fun W => Right_any c W
  have hw := fun W => works_any W
  have hn := fun x W => num_any x W
  have HB : Hid (Below w.heap.size w w) := Lib.hid (Below.refl _ _)
  unfold majV at hM
  cases h : chB c with
  | false =>
    rw [h] at hM hC hR
    simp only [Bool.false_eq_true, if_false] at hM hC hR
    go_enter Try.func3, Try.ntmps3
    go_wp2_with (first
      | (go_at_call 12; (with_reducible refine (hn _ _).mono ?_); rintro e w' ⟨rfl, rfl⟩)
      | (go_at_call 11; (with_reducible refine (hR _).mono ?_); rintro e w' ⟨rfl, rfl⟩)
      | (go_at_call 10; (with_reducible refine (hM _).mono ?_); rintro e wn ⟨rfl, hb⟩; replace HB := Lib.hid (HB.out.trans (hb.mono HB.out.size)); clear hb)
      | (go_at_call 13; (with_reducible refine (hC _).mono ?_); rintro e wn ⟨rfl, hb⟩; replace HB := Lib.hid (HB.out.trans (hb.mono HB.out.size)); clear hb)
      | (go_at_call 14; (with_reducible refine (hw _).mono ?_); rintro e wn ⟨rfl, hb⟩; replace HB := Lib.hid (HB.out.trans (hb.mono HB.out.size)); clear hb))
    go_ret
    exact ⟨rfl, HB.out⟩
  | true =>
    have hJ := fun W => rMaj_any c W h
    rw [h] at hM hC hR
    simp only [if_true] at hM hC hR
    obtain ⟨m, hm⟩ : ∃ m, c / 2 + 1 = m := ⟨_, rfl⟩
    rw [hm] at hM hJ
    clear hm
    go_enter Try.func3, Try.ntmps3
    go_wp2_with (first
      | (go_at_call 12; (with_reducible refine (hn _ _).mono ?_); rintro e w' ⟨rfl, rfl⟩)
      | (go_at_call 11; (with_reducible refine (hR _).mono ?_); rintro e w' ⟨rfl, rfl⟩)
      | (go_at_call 15; (with_reducible refine (hJ _).mono ?_); rintro e w' ⟨rfl, rfl⟩)
      | (go_at_call 10; (with_reducible refine (hM _).mono ?_); rintro e wn ⟨rfl, hb⟩; replace HB := Lib.hid (HB.out.trans (hb.mono HB.out.size)); clear hb)
      | (go_at_call 13; (with_reducible refine (hC _).mono ?_); rintro e wn ⟨rfl, hb⟩; replace HB := Lib.hid (HB.out.trans (hb.mono HB.out.size)); clear hb)
      | (go_at_call 14; (with_reducible refine (hw _).mono ?_); rintro e wn ⟨rfl, hb⟩; replace HB := Lib.hid (HB.out.trans (hb.mono HB.out.size)); clear hb))
    go_ret
    exact ⟨rfl, HB.out⟩
set_option maxRecDepth 100000 in
set_option maxHeartbeats 4000000 in
theorem Sm.owners_law (c s : Int) (w : World) : Calls Try.prog 4 #[.int .i64 c, .int .i64 s] w fun e w' => e = .returned (.bool true) ∧ Below w.heap.size w w' := by
  have hO := fun W => Owner_any c s W
  have hT := fun W => Turn_any c s W
  have hP := fun W => rOwner_any c s W
  have hQ := fun W => rTurn_any c s W
  have hw := fun W => works_any W
  have hn := fun x W => num_any x W
  have HB : Hid (Below w.heap.size w w) := Lib.hid (Below.refl _ _)
  obtain ⟨a, ha⟩ : ∃ a, (slotV c s (s % c)).1 = a := ⟨_, rfl⟩
  obtain ⟨b, hb⟩ : ∃ a, (slotV c s (s % c)).2 = a := ⟨_, rfl⟩
  obtain ⟨d, hd⟩ : ∃ a, (slotV c s (s / c)).1 = a := ⟨_, rfl⟩
  obtain ⟨f, hf⟩ : ∃ a, (slotV c s (s / c)).2 = a := ⟨_, rfl⟩
  rw [ha, hb] at hO hP
  rw [hd, hf] at hT hQ
  clear ha hb hd hf
  go_enter Try.func4, Try.ntmps4
  go_wp2_with (first
    | (go_at_call 12; (with_reducible refine (hn _ _).mono ?_); rintro e w' ⟨rfl, rfl⟩)
    | (go_at_call 18; (with_reducible refine (hP _).mono ?_); rintro e w' ⟨rfl, rfl⟩)
    | (go_at_call 19; (with_reducible refine (hQ _).mono ?_); rintro e w' ⟨rfl, rfl⟩)
    | (go_at_call 16; (with_reducible refine (hO _).mono ?_); rintro e wn ⟨rfl, hb⟩; replace HB := Lib.hid (HB.out.trans (hb.mono HB.out.size)); clear hb)
    | (go_at_call 17; (with_reducible refine (hT _).mono ?_); rintro e wn ⟨rfl, hb⟩; replace HB := Lib.hid (HB.out.trans (hb.mono HB.out.size)); clear hb)
    | (go_at_call 14; (with_reducible refine (hw _).mono ?_); rintro e wn ⟨rfl, hb⟩; replace HB := Lib.hid (HB.out.trans (hb.mono HB.out.size)); clear hb))
  go_ret
  exact ⟨rfl, HB.out⟩
end Go.Proofs
