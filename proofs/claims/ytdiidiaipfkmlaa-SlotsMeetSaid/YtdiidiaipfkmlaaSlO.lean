/-
  The walk of SlotsTurns. No condition.
-/
import Derived.Test.YtdiidiaipfkmlaaSlN
namespace Go.Proofs
open Go Go.RowKit Sm Go.Lib
attribute [local go_sem] Oper.semAt_some
set_option maxRecDepth 100000 in
set_option maxHeartbeats 4000000 in
theorem Sm.turns_law (c p n : Int) (w : World) : Calls Try.prog 5 #[.int .i64 c, .int .i64 p, .int .i64 n] w fun e w' => e = .returned (.bool true) ∧ Below w.heap.size w w' := by
  have hO := fun W => Slot_any c p n W
  have hT := fun W => Next_any c p n W
  have hP := fun W => rOf_any c p n W
  have hQ := fun W => rNext_any c p n W
  have hw := fun W => works_any W
  have hn := fun x W => num_any x W
  have HB : Hid (Below w.heap.size w w) := Lib.hid (Below.refl _ _)
  obtain ⟨a, ha⟩ : ∃ a, (if sxV c p n = 0 then slV c p n else 0) = a := ⟨_, rfl⟩
  obtain ⟨b, hb⟩ : ∃ a, sxV c p n = a := ⟨_, rfl⟩
  obtain ⟨d, hd⟩ : ∃ a, (if nxE c p n = 0 then nxV c p n else 0) = a := ⟨_, rfl⟩
  obtain ⟨f, hf⟩ : ∃ a, nxE c p n = a := ⟨_, rfl⟩
  rw [ha, hb] at hO hP
  rw [hd, hf] at hT hQ
  clear ha hb hd hf
  go_enter Try.func5, Try.ntmps5
  go_wp2_with (first
    | (go_at_call 12; (with_reducible refine (hn _ _).mono ?_); rintro e w' ⟨rfl, rfl⟩)
    | (go_at_call 22; (with_reducible refine (hP _).mono ?_); rintro e w' ⟨rfl, rfl⟩)
    | (go_at_call 23; (with_reducible refine (hQ _).mono ?_); rintro e w' ⟨rfl, rfl⟩)
    | (go_at_call 20; (with_reducible refine (hO _).mono ?_); rintro e wn ⟨rfl, hb⟩; replace HB := Lib.hid (HB.out.trans (hb.mono HB.out.size)); clear hb)
    | (go_at_call 21; (with_reducible refine (hT _).mono ?_); rintro e wn ⟨rfl, hb⟩; replace HB := Lib.hid (HB.out.trans (hb.mono HB.out.size)); clear hb)
    | (go_at_call 14; (with_reducible refine (hw _).mono ?_); rintro e wn ⟨rfl, hb⟩; replace HB := Lib.hid (HB.out.trans (hb.mono HB.out.size)); clear hb))
  go_ret
  exact ⟨rfl, HB.out⟩
end Go.Proofs
