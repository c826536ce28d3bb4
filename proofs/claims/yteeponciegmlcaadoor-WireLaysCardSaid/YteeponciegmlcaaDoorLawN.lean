/-
  The walk of the law WireNumber: at every readable bytes and numbers it returns true and nothing that lay has turned, where the table lies in memory.
-/
import Derived.Deep.RegionHeldLaw
import Derived.Deep.DrawnRows
import Derived.Test.YteeponciegmlcaaDoorLawL
import Derived.Test.YteeponciegmlcaaDoorRefR
namespace Go.Proofs
open Go.RowKit Go.Shelf Sm
attribute [local go_sem ↓] Go.wp_at_zero Go.wp_at_succ
def Sm.oneAct (a : Int) (N : Nat) : ActD := ⟨0, [a], 1, 1, some ⟨N, 0, none⟩, ⟨#[]⟩, false⟩
theorem Sm.oneAct_ok (a : Int) (w : World) : (oneAct a w.heap.size).ok (w.alloc (.cells #[.int .i64 a] 2)) :=
  { len := rfl, max := (by show 1 ≤ 20; omega), text := (by show 0 ≤ 200; omega), rd := fun _ => by
      refine ⟨w.heap.size, 0, rfl, by simp, id, fun j c hj => ?_⟩
      match j, hj with
      | 0, hj => simp [oneAct, intC] at hj; subst hj; simp [World.cell?_alloc_new] }
theorem Sm.laid1_ok {a : Int} {A : Option Addr} {s : ByteArray} {b : Bool} (h : okN a) : ActD.laid ⟨0, [a], 1, 1, A, s, b⟩ = (numsB [a], 0) := by
  have h2 : allOk [a] := fun z hz => by simp at hz; subst hz; exact h
  unfold ActD.laid
  rw [if_pos rfl]
  exact if_pos h2
theorem Sm.laid1_bad {a : Int} {A : Option Addr} {s : ByteArray} {b : Bool} (h : ¬ okN a) : ActD.laid ⟨0, [a], 1, 1, A, s, b⟩ = ([], 2) := by
  have h2 : ¬ allOk [a] := fun h3 => h (h3 a (by simp))
  unfold ActD.laid
  rw [if_pos rfl]
  exact if_neg h2
set_option maxRecDepth 100000 in
set_option maxHeartbeats 8000000 in
theorem Sm.number_walk (a most : Int) (l : List (BitVec 8)) (n c : Nat) (A : Option Addr) (w : World) (hn : l.length = n) (hm : n ≤ 9223372036854775807) (hc : n ≤ c) (hr : Rd w w.heap.size A l) (ht : Tab w) :
    Calls Tryd.prog 4 #[.int .i64 a, .slice A n c, .int .i64 most] w fun e w' => e = .returned (.bool true) ∧ Below w.heap.size w w' := by
  have hb := Below.refl w.heap.size w
  by_cases h1 : 100 < n
  · go_enter Tryd.func4, Tryd.ntmps4
    go_wp2_with (go_at_call 12; (with_reducible refine (works_from hb ht).mono ?_); clear hb; rintro e w1 ⟨rfl, hb⟩)
    go_ret
    exact ⟨rfl, hb⟩
  · have hb0 : Below w.heap.size w (w.alloc (.cells #[.slice none 0 0, .bool true] 38)) := (Below.refl _ _).alloc (Nat.le_refl _) _
    have hw0 := Wr.new w
    obtain ⟨B, hB⟩ : ∃ B, w.heap.size = B := ⟨_, rfl⟩
    rw [hB] at hw0
    go_enter Tryd.func4, Tryd.ntmps4
    go_wp2_with (go_at_call 13; (with_reducible refine (New_any _).mono ?_); rintro e w1 ⟨rfl, rfl⟩)
    have hs1 : (w.alloc (.cells #[.slice none 0 0, .bool true] 38)).heap.size = B + 1 := by simp [hB]
    obtain ⟨W1, hW1⟩ : ∃ W1, w.alloc (.cells #[.slice none 0 0, .bool true] 38) = W1 := ⟨_, rfl⟩
    rw [hW1] at hb0 hw0 hs1 ⊢
    have hok := oneAct_ok a W1
    have hlaid := laid_any (oneAct a W1.heap.size) _ hok
    unfold ActD.val oneAct at hlaid
    rw [hs1] at hlaid
    obtain ⟨L, no, hL⟩ : ∃ L no, ActD.laid ⟨0, [a], 1, 1, some ⟨B + 1, 0, none⟩, ⟨#[]⟩, false⟩ = (L, no) := ⟨_, _, rfl⟩
    have hbn : Below W1.heap.size W1 (W1.alloc (.cells #[.int .i64 a] 2)) := (Below.refl _ _).alloc (Nat.le_refl _) _
    refine hlaid.mono ?_
    rintro e w2 ⟨⟨v2, rfl, hown2⟩, hb2⟩
    rw [hL] at hown2 ⊢
    obtain ⟨A2, c2, rfl⟩ := own_slice hown2
    have hb12 : Below W1.heap.size W1 w2 := hbn.trans (hb2.mono hbn.size)
    have hw2 := hw0.below hb12
    have hbw2 := hb0.trans (hb12.mono hb0.size)
    have hn2 : w.heap.size + 1 ≤ w2.heap.size := by have := hb12.size; omega
    clear hlaid hok hbn hb2 hb12
    have hA : Below w2.heap.size w2 (w2.alloc (.cells #[.int .i64 a] 2)).drew := ((Below.refl _ w2).alloc (Nat.le_refl _) _).drew
    have hD : Below w2.heap.size w2 w2.drew := (Below.refl _ w2).drew
    have hconv : ∀ wx : World, wx.ownsRow (W1.alloc (.cells #[.int .i64 a] 2)).heap.size 5 1 (.slice A2 L.length c2) L.length (L.map byteCell) → (convert 27 9 (.slice A2 L.length c2)).run Tryd.prog wx = .ok (.string (strB L)) wx := fun wx hx =>
      run_str wx 27 5 Tryd.underlying27 Tryd.underlying5 L L.length c2 wx.heap.size A2 rfl (Rd.of_own hx (Nat.le_refl _)) 9 Tryd.underlying9
    have K1 := hconv _ (own_below hown2 hD)
    have K2 := hconv _ (own_below hown2 hA)
    have hwA := hw2.below hA
    have hbA := hbw2.trans (hA.mono hbw2.size)
    have hone : Rds (w2.alloc (.cells #[.int .i64 a] 2)).drew (fun b => b = B ∨ (Value.slice none 0 0).ownBlock = some b) (some ⟨w2.heap.size, 0, none⟩) [.int .i64 a] := Rds.one w2 (.int .i64 a) 2 hw2
    have hrowB : ∀ q, (Value.slice A2 L.length c2).ownBlock = some q → q ≠ B := fun q hq e => by
      have := (hown2.lt q hq).1
      simp at this
      omega
    have hnum : Calls Tryd.prog 18 #[.pointer (some ⟨B, 0, none⟩), .slice (some ⟨w2.heap.size, 0, none⟩) 1 1] (w2.alloc (.cells #[.int .i64 a] 2)).drew fun e w' => e = .returned (.int .i64 no) ∧ (∃ v', Wr w' B v' L) ∧ w'.ownsRow (W1.alloc (.cells #[.int .i64 a] 2)).heap.size 5 1 (.slice A2 L.length c2) L.length (L.map byteCell) ∧ Below w.heap.size w w' ∧ (convert 27 9 (.slice A2 L.length c2)).run Tryd.prog w' = .ok (.string (strB L)) w' := by
      by_cases hk : okN a
      · have hlo : (numsB [a], (0 : Int)) = (L, no) := by
          rw [← hL, laid1_ok hk]
        injection hlo with e1 e2
        subst e1 e2
        refine (WNumber_ok _ hwA [a] 1 1 _ (Lib.hid rfl) (by omega) (by simp) hone (Lib.hid (fun z hz => by simp at hz; subst hz; exact hk))).mono ?_
        rintro e w' ⟨rfl, v', hw', hg⟩
        rw [List.nil_append] at hw'
        have hrow := hg.but.row (own_below hown2 hA) (fun q hq e => by
          rcases e with e | e
          · exact hrowB q hq e
          · simp [Value.ownBlock] at e)
        refine ⟨rfl, ⟨v', hw'⟩, hrow, hbA.trans (hg.but.to_below (n := w.heap.size) hbA.size (fun b e => by
          rcases e with e | e
          · omega
          · simp [Value.ownBlock] at e)), hconv _ hrow⟩
      · have hlo : (([] : List (BitVec 8)), (2 : Int)) = (L, no) := by
          rw [← hL, laid1_bad hk]
        injection hlo with e1 e2
        subst e1 e2
        refine (WNumber_bad _ hwA [a] 1 1 _ _ (Lib.hid rfl) (by omega) hone (Lib.hid ⟨a, by simp, hk⟩)).mono ?_
        rintro e w' ⟨rfl, rfl⟩
        exact ⟨rfl, ⟨_, hwA⟩, own_below hown2 hA, hbA, K2⟩
    have hLl : L.length ≤ 1000000 := by
      by_cases hk : okN a
      · have hlo : (numsB [a], (0 : Int)) = (L, no) := by
          rw [← hL, laid1_ok hk]
        injection hlo with e1 e2
        have := numsB_len [a] (fun z hz => by simp at hz; subst hz; exact hk)
        rw [← e1]
        simp at this
        omega
      · have hlo : (([] : List (BitVec 8)), (2 : Int)) = (L, no) := by
          rw [← hL, laid1_bad hk]
        injection hlo with e1 e2
        rw [← e1]
        simp
    have hall : ∀ w5 : World, (∃ v', Wr w5 B v' L) → w5.ownsRow (W1.alloc (.cells #[.int .i64 a] 2)).heap.size 5 1 (.slice A2 L.length c2) L.length (L.map byteCell) → Below w.heap.size w w5 → Calls Tryd.prog 17 #[.pointer (some ⟨B, 0, none⟩)] w5 fun e w' => ∃ A6 c6, e = .returned (.slice A6 L.length c6) ∧ (convert 27 9 (.slice A6 L.length c6)).run Tryd.prog w' = .ok (.string (strB L)) w' ∧ (convert 27 9 (.slice A2 L.length c2)).run Tryd.prog w' = .ok (.string (strB L)) w' ∧ Below w.heap.size w w' := fun w5 hw5 hr5 hb5 => by
      obtain ⟨v', hw5⟩ := hw5
      refine (All_any w5 hw5 hLl).mono ?_
      rintro e w' ⟨u, rfl, hu, hbu⟩
      obtain ⟨A6, c6, rfl⟩ := own_slice hu
      exact ⟨A6, c6, rfl, run_str w' 27 5 Tryd.underlying27 Tryd.underlying5 L L.length c6 w'.heap.size A6 rfl (Rd.of_own hu (Nat.le_refl _)) 9 Tryd.underlying9, hconv _ (own_below hr5 hbu), hb5.trans (hbu.mono hb5.size)⟩
    have HR := Lib.hid hr
    clear hconv hrowB hone hwA hbA hw2 hbw2 hown2 hA hD hb0 hw0 hr hL
    go_wp2_with fail
    go_region_held_law (fun wx => (convert 27 9 (.slice A2 L.length c2)).run Tryd.prog wx = .ok (.string (strB L)) wx) (first | exact s6 | exact k5 | exact K2 | exact K1) (first
      | (go_at_call 18; (with_reducible refine hnum.mono ?_); rintro e w5 ⟨rfl, hw5, hr5, hb5, k5⟩)
      | (go_at_call 15; (with_reducible refine (num_any _ _).mono ?_); rintro e w' ⟨rfl, rfl⟩)
      | (go_at_call 17; (with_reducible refine (hall w5 hw5 hr5 hb5).mono ?_); rintro e w6 ⟨A6, c6, rfl, t6, s6, hb6⟩))
    clear hnum hall K1 K2 t6 s6 k5 hw5 hr5 hb5 hLl
    have hr6 : Rd w6 w6.heap.size A l := (HR.out.below hb6).more hb6.size
    have hread := Read_any l n c w6.heap.size A w6 (Lib.hid hn) (by omega) (Nat.le_refl _) hr6
    obtain ⟨S, hS⟩ : ∃ S, numS l 0 most = S := ⟨_, rfl⟩
    have hnum : ∀ (w7 : World) (R : Nat), Rdr w7 R l 0 → w.heap.size ≤ R → Below w.heap.size w w7 → Calls Tryd.prog 22 #[.pointer (some ⟨R, 0, none⟩), .int .i64 most] w7 fun x w' => x = .returned (.tuple #[.int .i64 S.2.2.1, .int .i64 S.2.2.2]) ∧ Rdr w' R S.1 S.2.1 ∧ Below w.heap.size w w' := fun w7 R h hR hb => by
      rw [← hS]
      refine (Number_any h most).mono ?_
      rintro x w' ⟨rfl, h2, hbut⟩
      exact ⟨rfl, h2, hb.trans (hbut.to_below (n := w.heap.size) hb.size (fun b e => by omega))⟩
    have href : ∀ (w8 : World) (R : Nat), Rdr w8 R S.1 S.2.1 → Below w.heap.size w w8 → Calls Tryd.prog 23 #[.agg #[.slice A n c, .int .i64 0], .int .i64 most] w8 fun x w' => (∃ A' c', x = .returned (.tuple #[.agg #[.slice A' S.1.length c', .int .i64 S.2.1], .int .i64 S.2.2.1, .int .i64 S.2.2.2])) ∧ Rdr w' R S.1 S.2.1 ∧ Below w.heap.size w w' := fun w8 R h hb => by
      rw [← hS] at h ⊢
      refine (refNum_any A n c l most w8 ⟨hn, hc, (HR.out.below hb).more hb.size⟩ (by omega)).mono ?_
      rintro x w' ⟨⟨A', n', c', rfl, hra⟩, hb2⟩
      exact ⟨⟨A', c', by unfold rdV; rw [hra.len]⟩, h.below hb2, hb.trans (hb2.mono hb.size)⟩
    clear hr6
    go_wp2_with (first
      | (go_at_call 21; (with_reducible refine hread.mono ?_); rintro e w7 ⟨R, rfl, hR, hRb, hb7⟩; have hb7w := hb6.trans (hb7.mono hb6.size); have hRw := Nat.le_trans hb6.size hRb)
      | (go_at_call 22; (with_reducible refine (hnum w7 R hR hRw hb7w).mono ?_); rintro e w8 ⟨rfl, hR8, hb8⟩)
      | (go_at_call 23; (with_reducible refine (href w8 R hR8 hb8).mono ?_); rintro e w9 ⟨⟨A9, c9, rfl⟩, hR9, hb9⟩))
    have hz9 : Below w9.heap.size w9 (w9.alloc (.cells #[.slice A9 S.1.length c9, .int .i64 S.2.1] 47)).drew := ((Below.refl _ w9).alloc (Nat.le_refl _) _).drew
    have hZ : Below w.heap.size w (w9.alloc (.cells #[.slice A9 S.1.length c9, .int .i64 S.2.1] 47)).drew := hb9.trans (hz9.mono hb9.size)
    have zc : (w9.alloc (.cells #[.slice A9 S.1.length c9, .int .i64 S.2.1] 47)).drew.cell? ⟨w9.heap.size, 0, none⟩ = some (.slice A9 S.1.length c9) := (show _ = _ from World.cell?_alloc_new (w := w9) #[.slice A9 S.1.length c9, .int .i64 S.2.1] 47 0)
    have hRz := hR9.below hz9
    have hlz : w9.heap.size < (w9.alloc (.cells #[.slice A9 S.1.length c9, .int .i64 S.2.1] 47)).drew.heap.size := by simp
    clear hread hnum href hR8 hb8 hR hb7 hb7w hRw hRb hR9 hb9 hz9
    have hwk := (works_from hZ ht).mono (R' := fun e w' => e = .returned (.bool true) ∧ Below w.heap.size w w') (fun _ _ h => h)
    have hwk2 : Calls Tryd.prog 12 #[] (w9.alloc (.cells #[.slice A9 S.1.length c9, .int .i64 S.2.1] 47)).drew fun e w' => e = .returned (.bool true) ∧ Below w.heap.size w w' ∧ w'.cell? ⟨w9.heap.size, 0, none⟩ = some (.slice A9 S.1.length c9) := (works_any (w9.alloc (.cells #[.slice A9 S.1.length c9, .int .i64 S.2.1] 47)).drew (ht.belowTo hZ ht.1)).mono (fun e w' ⟨h1, h2⟩ => ⟨h1, hZ.trans (h2.mono hZ.size), (h2.cell (p := ⟨w9.heap.size, 0, none⟩) hlz).trans zc⟩)
    clear hwk
    go_wp2_with fail
    go_region_held_law (fun wx => wx.cell? ⟨w9.heap.size, 0, none⟩ = some (.slice A9 S.1.length c9)) (first | exact zc | exact k9) (first
      | (go_at_call 15; (with_reducible refine (num_any _ _).mono ?_); rintro e w' ⟨rfl, rfl⟩)
      | (go_at_call 24; (with_reducible refine (Left_any hRz).mono ?_); rintro e w' ⟨rfl, rfl⟩)
      | (go_at_call 12; (with_reducible refine hwk2.mono ?_); rintro e wz ⟨rfl, hbz, k9⟩))
    go_wp2
    go_ret
    exact ⟨rfl, hbz⟩
