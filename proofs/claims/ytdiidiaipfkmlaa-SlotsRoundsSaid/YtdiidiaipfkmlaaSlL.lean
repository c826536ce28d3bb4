/-
  slots: the chapter's rows: works. No condition.
-/
import Derived.Test.YtdiidiaipfkmlaaSlJ
import Derived.Test.YtdiidiaipfkmlaaSlK
namespace Go.Proofs
open Go Go.RowKit Sm Go.Lib
attribute [local go_sem] Oper.semAt_some
set_option maxRecDepth 100000 in
set_option maxHeartbeats 4000000 in
theorem Sm.works_any (w : World) : Calls Try.prog 14 #[] w fun e w' => e = .returned (.bool true) ∧ Below w.heap.size w w' := by
  have h1 : ∀ W, Calls Try.prog 16 #[.int .i64 3, .int .i64 7] W fun e w' => e = .returned (.tuple #[.int .i64 1, .int .i64 0]) ∧ Below W.heap.size W w' := fun W => by
    have h := Owner_any 3 7 W
    rw [show slotV 3 7 (7 % 3) = (1, 0) by decide +kernel] at h
    exact h
  have h2 : ∀ W, Calls Try.prog 17 #[.int .i64 3, .int .i64 7] W fun e w' => e = .returned (.tuple #[.int .i64 2, .int .i64 0]) ∧ Below W.heap.size W w' := fun W => by
    have h := Turn_any 3 7 W
    rw [show slotV 3 7 (7 / 3) = (2, 0) by decide +kernel] at h
    exact h
  have h3 : ∀ W, Calls Try.prog 20 #[.int .i64 3, .int .i64 1, .int .i64 2] W fun e w' => e = .returned (.tuple #[.int .i64 7, .int .i64 0]) ∧ Below W.heap.size W w' := fun W => by
    have h := Slot_any 3 1 2 W
    rw [show sxV 3 1 2 = 0 by decide +kernel, show slV 3 1 2 = 7 by decide +kernel] at h
    exact h
  have h4 : ∀ W, Calls Try.prog 10 #[.int .i64 5] W fun e w' => e = .returned (.tuple #[.int .i64 3, .int .i64 0]) ∧ Below W.heap.size W w' := fun W => by
    have h := Majority_any 5 W
    rw [show majV 5 = 3 by decide +kernel, show chB 5 = true by decide +kernel] at h
    exact h
  have h5 : ∀ W, Calls Try.prog 21 #[.int .i64 3, .int .i64 0, .int .i64 4] W fun e w' => e = .returned (.tuple #[.int .i64 6, .int .i64 0]) ∧ Below W.heap.size W w' := fun W => by
    have h := Next_any 3 0 4 W
    rw [show nxE 3 0 4 = 0 by decide +kernel, show nxV 3 0 4 = 6 by decide +kernel] at h
    exact h
  have h6 : ∀ W, Calls Try.prog 21 #[.int .i64 3, .int .i64 0, .int .i64 4095] W fun e w' => e = .returned (.tuple #[.int .i64 4095, .int .i64 0]) ∧ Below W.heap.size W w' := fun W => by
    have h := Next_any 3 0 4095 W
    rw [show nxE 3 0 4095 = 0 by decide +kernel, show nxV 3 0 4095 = 4095 by decide +kernel] at h
    exact h
  have h7 : ∀ W, Calls Try.prog 25 #[.int .i64 3, .int .i64 2, .int .i64 0, .int .i64 9] W fun e w' => e = .returned (.tuple #[.int .i64 3, .int .i64 0]) ∧ Below W.heap.size W w' := fun W => by
    have h := Many_any 3 2 0 9 W
    rw [show mxV 3 2 0 9 = 0 by decide +kernel, show maV 3 2 0 9 = 3 by decide +kernel] at h
    exact h
  have h8 : ∀ W, Calls Try.prog 20 #[.int .i64 3, .int .i64 0, .int .i64 1365] W fun e w' => e = .returned (.tuple #[.int .i64 4095, .int .i64 0]) ∧ Below W.heap.size W w' := fun W => by
    have h := Slot_any 3 0 1365 W
    rw [show sxV 3 0 1365 = 0 by decide +kernel, show slV 3 0 1365 = 4095 by decide +kernel] at h
    exact h
  have h9 : ∀ W, Calls Try.prog 20 #[.int .i64 3, .int .i64 1, .int .i64 1365] W fun e w' => e = .returned (.tuple #[.int .i64 0, .int .i64 4]) ∧ Below W.heap.size W w' := fun W => by
    have h := Slot_any 3 1 1365 W
    rw [show sxV 3 1 1365 = 4 by decide +kernel] at h
    exact h
  have h10 : ∀ W, Calls Try.prog 16 #[.int .i64 3, .int .i64 4096] W fun e w' => e = .returned (.tuple #[.int .i64 0, .int .i64 4]) ∧ Below W.heap.size W w' := fun W => by
    have h := Owner_any 3 4096 W
    rw [show slotV 3 4096 (4096 % 3) = (0, 4) by decide +kernel] at h
    exact h
  have h11 : ∀ W, Calls Try.prog 13 #[.int .i64 4] W fun e w' => e = .returned (.int .i64 2) ∧ Below W.heap.size W w' := fun W => by
    have h := Check_any 4 W
    rw [show chB 4 = false by decide +kernel] at h
    exact h
  have hn := fun x W => num_any x W
  have HB : Hid (Below w.heap.size w w) := Lib.hid (Below.refl _ _)
  go_enter Try.func14, Try.ntmps14
  go_wp2_with (first
    | (go_at_call 12; (with_reducible refine (hn _ _).mono ?_); rintro e w' ⟨rfl, rfl⟩)
    | (go_at_call 16; (with_reducible refine (h1 _).mono ?_); rintro e wn ⟨rfl, hb⟩; replace HB := Lib.hid (HB.out.trans (hb.mono HB.out.size)); clear hb)
    | (go_at_call 16; (with_reducible refine (h10 _).mono ?_); rintro e wn ⟨rfl, hb⟩; replace HB := Lib.hid (HB.out.trans (hb.mono HB.out.size)); clear hb)
    | (go_at_call 17; (with_reducible refine (h2 _).mono ?_); rintro e wn ⟨rfl, hb⟩; replace HB := Lib.hid (HB.out.trans (hb.mono HB.out.size)); clear hb)
    | (go_at_call 20; (with_reducible refine (h3 _).mono ?_); rintro e wn ⟨rfl, hb⟩; replace HB := Lib.hid (HB.out.trans (hb.mono HB.out.size)); clear hb)
    | (go_at_call 20; (with_reducible refine (h8 _).mono ?_); rintro e wn ⟨rfl, hb⟩; replace HB := Lib.hid (HB.out.trans (hb.mono HB.out.size)); clear hb)
    | (go_at_call 20; (with_reducible refine (h9 _).mono ?_); rintro e wn ⟨rfl, hb⟩; replace HB := Lib.hid (HB.out.trans (hb.mono HB.out.size)); clear hb)
    | (go_at_call 10; (with_reducible refine (h4 _).mono ?_); rintro e wn ⟨rfl, hb⟩; replace HB := Lib.hid (HB.out.trans (hb.mono HB.out.size)); clear hb)
    | (go_at_call 21; (with_reducible refine (h5 _).mono ?_); rintro e wn ⟨rfl, hb⟩; replace HB := Lib.hid (HB.out.trans (hb.mono HB.out.size)); clear hb)
    | (go_at_call 21; (with_reducible refine (h6 _).mono ?_); rintro e wn ⟨rfl, hb⟩; replace HB := Lib.hid (HB.out.trans (hb.mono HB.out.size)); clear hb)
    | (go_at_call 25; (with_reducible refine (h7 _).mono ?_); rintro e wn ⟨rfl, hb⟩; replace HB := Lib.hid (HB.out.trans (hb.mono HB.out.size)); clear hb)
    | (go_at_call 13; (with_reducible refine (h11 _).mono ?_); rintro e wn ⟨rfl, hb⟩; replace HB := Lib.hid (HB.out.trans (hb.mono HB.out.size)); clear hb))
  go_ret
  exact ⟨rfl, HB.out⟩
end Go.Proofs
