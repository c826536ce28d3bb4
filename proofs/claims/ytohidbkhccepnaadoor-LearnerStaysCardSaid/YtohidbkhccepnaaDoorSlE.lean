/-
  slots: Owner, Turn. Conditions: as each theorem names them.
-/
import Derived.Test.YtohidbkhccepnaaDoorSlD
namespace Go.Proofs
open Go Go.RowKit Sm Go.Lib
attribute [local go_sem] Oper.semAt_some
/-- an answer, or why there is none -/
def Sm.slotV (c s v : Int) : Int × Int := if chB c = false then (0, 2) else if slB s = false then (0, 4) else (v, 0)
theorem Sm.refM_slot (c s : Int) : refM c [] [!slB s] = (slotV c s 0).2 := by
  unfold refM slotV
  cases chB c <;> cases slB s <;> rfl
theorem Sm.ans_slot (f : Nat) (lb : Array Value) (eg : ∀ args w, (callFunc f args).run Tryd.prog w = .ok (.enter f args) w) (c s v : Int) (w : World)
    (h : chB c = true → slB s = true → Calls Tryd.prog f lb w fun e w' => e = .returned (.int .i64 v) ∧ w = w') :
    Calls Tryd.prog 24 #[.int .i64 (slotV c s 0).2, .func (.func f) #[] lb] w fun e w' => e = .returned (.tuple #[.int .i64 (slotV c s v).1, .int .i64 (slotV c s v).2]) ∧ w = w' := by
  unfold slotV
  cases hc : chB c with
  | false => exact answer_no 2 _ w (by decide)
  | true =>
    cases hs : slB s with
    | false => exact answer_no 4 _ w (by decide)
    | true => exact answer_ok f lb eg v w (h hc hs)
theorem Sm.row_new (w : World) (cs : List Bool) (t : TypeId) (hn : cs.length ≤ 1000) : RowB (w.alloc (.cells (cs.map Value.bool).toArray t)) (some ⟨w.heap.size, 0, none⟩) cs.length cs.length cs :=
  ⟨rfl, Nat.le_refl _, hn, .inr ⟨w.heap.size, rfl, by simp, fun j hj => by
    rw [cell_of_heap (World.alloc_heap_new w _) j]
    simp [List.getElem?_eq_getElem hj]⟩⟩
set_option maxRecDepth 100000 in
set_option maxHeartbeats 2000000 in
theorem Sm.Owner_any (c s : Int) (w : World) : Calls Tryd.prog 13 #[.int .i64 c, .int .i64 s] w fun e w' => e = .returned (.tuple #[.int .i64 (slotV c s (s % c)).1, .int .i64 (slotV c s (s % c)).2]) ∧ Below w.heap.size w w' := by
  obtain ⟨w1, hw1⟩ : ∃ v, (w.alloc (.cells #[.int .i64 c] 29)).alloc (.cells #[.int .i64 s] 3) = v := ⟨_, rfl⟩
  have hb1 : Below w.heap.size w w1 := by rw [← hw1]; exact ((Below.refl _ w).alloc (Nat.le_refl _) _).alloc (by simp) _
  have hs1 : w.heap.size + 1 < w1.heap.size := by rw [← hw1]; simp
  have c0 : w1.cell? ⟨w.heap.size, 0, none⟩ = some (.int .i64 c) := by
    rw [← hw1]
    exact cell_keep ((Below.refl _ _).alloc (Nat.le_refl _) _) (by simp) (box_cell w (.int .i64 c) 29)
  have c1 : w1.cell? ⟨w.heap.size + 1, 0, none⟩ = some (.int .i64 s) := by
    have := box_cell (w.alloc (.cells #[.int .i64 c] 29)) (.int .i64 s) 3
    rw [World.size_alloc, hw1] at this
    exact this
  have HS : Hid (∀ W, Below w1.heap.size w1 W → W.cell? ⟨w.heap.size, 0, none⟩ = some (.int .i64 c) ∧ W.cell? ⟨w.heap.size + 1, 0, none⟩ = some (.int .i64 s)) := Lib.hid fun W hb => ⟨cell_keep hb (by omega) c0, cell_keep hb hs1 c1⟩
  have HA : Hid (∀ W, Below w1.heap.size w1 W → Calls Tryd.prog 24 #[.int .i64 (slotV c s 0).2, .func (.func 27) #[] #[.pointer (some ⟨w.heap.size + 1, 0, none⟩), .pointer (some ⟨w.heap.size, 0, none⟩)]] W fun e w' => e = .returned (.tuple #[.int .i64 (slotV c s (s % c)).1, .int .i64 (slotV c s (s % c)).2]) ∧ W = w') :=
    Lib.hid fun W hb => ans_slot 27 _ (enters_of Tryd.func27 (by kernel_rfl) rfl) c s _ W fun h1 h2 => f33_any _ _ s c W (HS.out W hb).2 (HS.out W hb).1 h1 (slB_iff.1 h2).1 (slB_iff.1 h2).2
  have HR : Hid (∀ W, Calls Tryd.prog 25 #[.int .i64 c, .slice none 0 0] W fun e w' => ∃ a b, e = .returned (.func (.func 36) #[] #[.pointer (some ⟨a, 0, none⟩), .pointer (some ⟨b, 0, none⟩)]) ∧ RefAt w' a b c [] ∧ Below W.heap.size W w') := Lib.hid fun W => refusal_any c none 0 0 [] W (RowB.nil W)
  have HL : Hid (∀ W, Calls Tryd.prog 26 #[.int .i64 s] W fun e w' => e = .returned (.bool (slB s)) ∧ W = w') := Lib.hid fun W => isSlot s W
  have HT : Hid (∀ (a b n k : Nat) (A : Option Addr) W, RefAt W a b c [] → RowB W A n k [!slB s] → Calls Tryd.prog 36 #[.slice A n k, .pointer (some ⟨a, 0, none⟩), .pointer (some ⟨b, 0, none⟩)] W fun e w' => e = .returned (.int .i64 (slotV c s 0).2) ∧ W = w') :=
    Lib.hid fun a b n k A W h1 h2 => by rw [← refM_slot]; exact told_any c [] _ a b n k A W h1 h2
  have q0 := HS.out w1 (Below.refl _ _)
  have HB1 := Lib.hid hb1
  obtain ⟨x, hx⟩ : ∃ x, (slotV c s 0).2 = x := ⟨_, rfl⟩
  obtain ⟨r1, hr1⟩ : ∃ x, (slotV c s (s % c)).1 = x := ⟨_, rfl⟩
  obtain ⟨r2, hr2⟩ : ∃ x, (slotV c s (s % c)).2 = x := ⟨_, rfl⟩
  obtain ⟨m, hm⟩ : ∃ m, slB s = m := ⟨_, rfl⟩
  rw [hx] at HA HT
  rw [hr1, hr2] at HA ⊢
  rw [hm] at HL HT
  clear hx hr1 hr2 hm c0 c1 hb1
  go_enter Tryd.func13, Tryd.ntmps13
  go_upto_region 1 with fail
  clear hw1
  go_region_held_law (fun W => W.cell? ⟨w.heap.size, 0, none⟩ = some (.int .i64 c) ∧ W.cell? ⟨w.heap.size + 1, 0, none⟩ = some (.int .i64 s))
    (first | exact q0 | (refine HS.out _ ?_; repeat' (first | exact HB2.out | exact Below.refl _ _ | refine Below.drew ?_ | refine Below.alloc ?_ ?_ _ | (simp; done) | (simp; omega) | omega)))
    (first
      | (go_at_call 25; refine (HR.out _).mono ?_; rintro e w2 ⟨a, b, rfl, hr, hb2⟩; have HB2 : Hid (Below w1.heap.size w1 w2) := Lib.hid ((Below.refl _ w1).drew.trans hb2); have hz := HB2.out.size)
      | (go_at_call 26; refine (HL.out _).mono ?_; rintro e w' ⟨rfl, rfl⟩)
      | (go_at_call 36; refine (HT.out _ _ _ _ _ _ (hr.keep ((Below.refl _ w2).alloc (Nat.le_refl _) _)) (row_new w2 [!m] 4 (by simp))).mono ?_; rintro e w' ⟨rfl, rfl⟩)
      | (go_at_call 24; refine (HA.out _ (HB2.out.alloc hz _)).mono ?_; rintro e w' ⟨rfl, rfl⟩))
  all_goals
    go_wp2
    go_ret2
    exact ⟨rfl, HB1.out.trans ((HB2.out.alloc hz _).mono HB1.out.size)⟩
end Go.Proofs
