/-
  slots: Slot. Conditions: as each theorem names them.
-/
import Derived.Test.YtdiidiaipfkmlaaSlF
import Derived.Test.YtdiidiaipfkmlaaSlE
namespace Go.Proofs
open Go Go.RowKit Sm Go.Lib
attribute [local go_sem] Oper.semAt_some
/-- why there is no such slot -/
def Sm.sxV (c p t : Int) : Int := refM c [!plB c p] [!slB t, !slB (slV c p t)]
set_option maxRecDepth 100000 in
set_option maxHeartbeats 8000000 in
theorem Sm.Slot_any (c p t : Int) (w : World) : Calls Try.prog 20 #[.int .i64 c, .int .i64 p, .int .i64 t] w fun e w' => e = .returned (.tuple #[.int .i64 (if sxV c p t = 0 then slV c p t else 0), .int .i64 (sxV c p t)]) ∧ Below w.heap.size w w' := by
  have hso := slotOf_any c p t w
  obtain ⟨s, hs⟩ : ∃ s, slV c p t = s := ⟨_, rfl⟩
  unfold sxV
  rw [hs] at hso ⊢
  obtain ⟨x, hx⟩ : ∃ x, refM c [!plB c p] [!slB t, !slB s] = x := ⟨_, rfl⟩
  obtain ⟨y, hy⟩ : ∃ y, (if x = 0 then s else 0) = y := ⟨_, rfl⟩
  obtain ⟨w1, hw1⟩ : ∃ v, w.alloc (.cells #[.int .i64 s] 3) = v := ⟨_, rfl⟩
  have hb1 : Below w.heap.size w w1 := by rw [← hw1]; exact (Below.refl _ w).alloc (Nat.le_refl _) _
  have hs1 : w.heap.size < w1.heap.size := by rw [← hw1]; simp
  have c0 : w1.cell? ⟨w.heap.size, 0, none⟩ = some (.int .i64 s) := by rw [← hw1]; exact box_cell w (.int .i64 s) 3
  have HS : Hid (∀ W, Below w1.heap.size w1 W → W.cell? ⟨w.heap.size, 0, none⟩ = some (.int .i64 s)) := Lib.hid fun W hb => cell_keep hb hs1 c0
  have HA : Hid (∀ W, Below w1.heap.size w1 W → Calls Try.prog 29 #[.int .i64 x, .func (.func 38) #[] #[.pointer (some ⟨w.heap.size, 0, none⟩)]] W fun e w' => e = .returned (.tuple #[.int .i64 y, .int .i64 x]) ∧ W = w') :=
    Lib.hid fun W hb => by rw [← hy]; exact ans_gen 38 _ (enters_of Try.func38 (by kernel_rfl) rfl) x s W fun _ => f38_any _ s W (HS.out W hb)
  have HR : Hid (∀ (n k : Nat) (A : Option Addr) W, RowB W A n k [!plB c p] → Calls Try.prog 31 #[.int .i64 c, .slice A n k] W fun e w' => ∃ a b, e = .returned (.func (.func 47) #[] #[.pointer (some ⟨a, 0, none⟩), .pointer (some ⟨b, 0, none⟩)]) ∧ RefAt w' a b c [!plB c p] ∧ Below W.heap.size W w') := Lib.hid fun n k A W h => refusal_any c A n k _ W h
  have HP : Hid (∀ W, Calls Try.prog 37 #[.int .i64 c, .int .i64 p] W fun e w' => e = .returned (.bool (plB c p)) ∧ W = w') := Lib.hid fun W => isPlace c p W
  have HL1 : Hid (∀ W, Calls Try.prog 32 #[.int .i64 t] W fun e w' => e = .returned (.bool (slB t)) ∧ W = w') := Lib.hid fun W => isSlot t W
  have HL2 : Hid (∀ W, Calls Try.prog 32 #[.int .i64 s] W fun e w' => e = .returned (.bool (slB s)) ∧ W = w') := Lib.hid fun W => isSlot s W
  have HT : Hid (∀ (a b n k : Nat) (A : Option Addr) W, RefAt W a b c [!plB c p] → RowB W A n k [!slB t, !slB s] → Calls Try.prog 47 #[.slice A n k, .pointer (some ⟨a, 0, none⟩), .pointer (some ⟨b, 0, none⟩)] W fun e w' => e = .returned (.int .i64 x) ∧ W = w') :=
    Lib.hid fun a b n k A W h1 h2 => by rw [← hx]; exact told_any c _ _ a b n k A W h1 h2
  have HB1 := Lib.hid hb1
  obtain ⟨m1, hm1⟩ : ∃ m, plB c p = m := ⟨_, rfl⟩
  obtain ⟨m2, hm2⟩ : ∃ m, slB t = m := ⟨_, rfl⟩
  obtain ⟨m3, hm3⟩ : ∃ m, slB s = m := ⟨_, rfl⟩
  rw [hx, hy]
  rw [hm1] at HR HP HT
  rw [hm2] at HL1 HT
  rw [hm3] at HL2 HT
  have q0 := HS.out w1 (Below.refl _ _)
  clear hx hy hm1 hm2 hm3 c0 hb1 hs
  go_enter Try.func20, Try.ntmps20
  go_upto_region 2 with (go_at_call 36; (with_reducible refine hso.mono ?_); rintro e w' ⟨rfl, rfl⟩)
  clear hw1
  go_region_held_law (fun W => W.cell? ⟨w.heap.size, 0, none⟩ = some (.int .i64 s))
    (first | exact q0 | (refine HS.out _ ?_; repeat' (first | exact HB3.out | exact HB2.out | exact Below.refl _ _ | refine Below.drew ?_ | refine Below.alloc ?_ ?_ _ | (simp; done) | (simp; omega) | omega)))
    (first
      | (go_at_call 37; refine (HP.out _).mono ?_; rintro e w' ⟨rfl, rfl⟩)
      | (go_at_call 31; refine (HR.out _ _ _ _ (row_new w1.drew [!m1] 4 (by simp))).mono ?_; rintro e w2 ⟨a, b, rfl, hr, hb2⟩; have HB2 : Hid (Below w1.heap.size w1 w2) := Lib.hid (((Below.refl _ w1).drew.alloc (Nat.le_refl _) _).trans (hb2.mono (by simp))); have hz := HB2.out.size)
      | (go_at_call 32; (with_reducible refine (HL1.out _).mono ?_); rintro e w' ⟨rfl, rfl⟩)
      | (go_at_call 32; (with_reducible refine (HL2.out _).mono ?_); rintro e w' ⟨rfl, rfl⟩)
      | (go_at_call 47; refine (HT.out _ _ _ _ _ _ (hr.keep ((Below.refl _ w2).alloc (Nat.le_refl _) _)) (row_new w2 [!m2, !m3] 4 (by simp))).mono ?_; rintro e w' ⟨rfl, rfl⟩)
      | (go_at_call 29; refine (HA.out _ (HB2.out.alloc hz _)).mono ?_; rintro e w' ⟨rfl, rfl⟩))
  all_goals
    go_wp2
    go_ret2
    exact ⟨rfl, HB1.out.trans ((HB2.out.alloc hz _).mono HB1.out.size)⟩
end Go.Proofs
