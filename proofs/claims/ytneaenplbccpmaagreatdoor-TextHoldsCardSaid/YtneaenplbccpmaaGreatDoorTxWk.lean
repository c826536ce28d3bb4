/-
  The law's works: it returns true. Condition: the package variables lie as they are laid.
-/
import Derived.Test.YtneaenplbccpmaaGreatDoorTxSm
import Derived.Test.YtneaenplbccpmaaGreatDoorTxG
namespace Go.Proofs
open Go Go.RowKit Sm Go.Lib
attribute [local go_sem] Oper.semAt_some
def Sm.wkA : List (BitVec 8) := [64, 97, 110, 110, 32, 104, 105, 32, 64, 98, 111, 44, 32, 120, 64, 99, 121, 32, 64, 97, 110, 110]
def Sm.wkB : List (BitVec 8) := [111, 110, 101, 32, 116, 119, 111, 32, 116, 104, 114, 101, 101]
def Sm.wkC : List (BitVec 8) := [97, 98, 99, 100, 101, 102, 103, 104, 32, 105, 106]
theorem Sm.wk_named : namedS (strB wkA) = [[97#8, 110#8, 110#8], [98#8, 111#8]] := by decide +kernel
theorem Sm.wk_lines7 : linesS 7 wkB = [[111#8, 110#8, 101#8, 32#8, 116#8, 119#8, 111#8], [116#8, 104#8, 114#8, 101#8, 101#8]] := by decide +kernel
theorem Sm.wk_lines3 : linesS 3 wkC = [[97#8, 98#8, 99#8], [100#8, 101#8, 102#8], [103#8, 104#8], [105#8, 106#8]] := by decide +kernel
theorem Sm.wk_quote : strB (quoteS (strL ⟨#[97, 34, 7]⟩)) = ⟨#[34, 97, 92, 34, 92, 120, 48, 55, 34]⟩ := by decide +kernel
theorem Sm.wk_c1 : checkN ⟨#[104, 105, 32, 116, 104, 101, 114, 101]⟩ = 0 := by decide +kernel
theorem Sm.wk_c2 : checkN ⟨#[]⟩ = 132 := by decide +kernel
theorem Sm.wk_c3 : checkN ⟨#[255]⟩ = 130 := by decide +kernel
theorem Sm.wk_c4 : checkN ⟨#[97, 9, 98]⟩ = 131 := by decide +kernel
theorem Sm.wk_eqA : strB wkA = ⟨#[64, 97, 110, 110, 32, 104, 105, 32, 64, 98, 111, 44, 32, 120, 64, 99, 121, 32, 64, 97, 110, 110]⟩ := by decide +kernel
theorem Sm.wk_eqB : strB wkB = ⟨#[111, 110, 101, 32, 116, 119, 111, 32, 116, 104, 114, 101, 101]⟩ := by decide +kernel
theorem Sm.wk_eqC : strB wkC = ⟨#[97, 98, 99, 100, 101, 102, 103, 104, 32, 105, 106]⟩ := by decide +kernel
theorem Sm.wk_eqX : strB [120#8] = ⟨#[120]⟩ := by decide +kernel
theorem Sm.same_true (v : Value) (xs : List (List (BitVec 8))) (w1 W : World) (cs : Array Value) (n : Nat) (hr : RowS w1 v xs) (hb : Below w1.heap.size w1 W) (hc : (strC xs).toArray = cs) (h0 : 0 < xs.length) (hx : xs.length ≤ 1000000) (hn : xs.length = n) :
    Calls Tryz.prog 24 #[v, .slice (some ⟨W.heap.size, 0, none⟩) n n] (W.alloc (.cells cs 9)) fun e w' => e = .returned (.bool true) ∧ Below W.heap.size W w' := by
  subst hc hn
  have hb2 : Below W.heap.size W (W.alloc (.cells (strC xs).toArray 9)) := (Below.refl _ W).alloc (Nat.le_refl _) _
  refine (same_any v _ xs xs _ ((hr.keep hb).keep hb2) (RowS.new W xs h0) hx hx).mono ?_
  rintro e w' ⟨rfl, h⟩
  exact ⟨by simp, hb2.trans (h.mono hb2.size)⟩
set_option maxRecDepth 100000 in
set_option maxHeartbeats 2000000 in
theorem Sm.works_any (w : World) (hL : LaysT w) : Calls Tryz.prog 12 #[] w fun e w' => e = .returned (.bool true) ∧ Below w.heap.size w w' := by
  have hnm : ∀ W, Calls Tryz.prog 23 #[.string ⟨#[64, 97, 110, 110, 32, 104, 105, 32, 64, 98, 111, 44, 32, 120, 64, 99, 121, 32, 64, 97, 110, 110]⟩] W fun e w' => ∃ A c, e = .returned (.tuple #[.slice A 2 c, .int .i64 0]) ∧ RowS w' (.slice A 2 c) [[97#8, 110#8, 110#8], [98#8, 111#8]] ∧ Below W.heap.size W w' := fun W => by
    have h := Named_any (strB wkA) W (by rw [wk_eqA]; decide)
    rw [wk_named, wk_eqA] at h
    refine h.mono ?_
    rintro e w' ⟨A, c, rfl, hr, hb⟩
    exact ⟨A, c, rfl, RowS.of (xs := [[97#8, 110#8, 110#8], [98#8, 111#8]]) hr, hb⟩
  have hl7 : ∀ W, LaysT W → Calls Tryz.prog 26 #[.string ⟨#[111, 110, 101, 32, 116, 119, 111, 32, 116, 104, 114, 101, 101]⟩, .int .i64 7] W fun e w' => ∃ A c, e = .returned (.tuple #[.slice A 2 c, .int .i64 0]) ∧ RowS w' (.slice A 2 c) [[111#8, 110#8, 101#8, 32#8, 116#8, 119#8, 111#8], [116#8, 104#8, 114#8, 101#8, 101#8]] ∧ Below W.heap.size W w' := fun W hW => by
    have h := Lines_any wkB 7 W (by decide) (by decide) (by decide) hW
    rw [wk_lines7, wk_eqB] at h
    refine h.mono ?_
    rintro e w' ⟨A, c, rfl, hr, hb⟩
    exact ⟨A, c, rfl, RowS.of (xs := [[111#8, 110#8, 101#8, 32#8, 116#8, 119#8, 111#8], [116#8, 104#8, 114#8, 101#8, 101#8]]) hr, hb⟩
  have hl3 : ∀ W, LaysT W → Calls Tryz.prog 26 #[.string ⟨#[97, 98, 99, 100, 101, 102, 103, 104, 32, 105, 106]⟩, .int .i64 3] W fun e w' => ∃ A c, e = .returned (.tuple #[.slice A 4 c, .int .i64 0]) ∧ RowS w' (.slice A 4 c) [[97#8, 98#8, 99#8], [100#8, 101#8, 102#8], [103#8, 104#8], [105#8, 106#8]] ∧ Below W.heap.size W w' := fun W hW => by
    have h := Lines_any wkC 3 W (by decide) (by decide) (by decide) hW
    rw [wk_lines3, wk_eqC] at h
    refine h.mono ?_
    rintro e w' ⟨A, c, rfl, hr, hb⟩
    exact ⟨A, c, rfl, RowS.of (xs := [[97#8, 98#8, 99#8], [100#8, 101#8, 102#8], [103#8, 104#8], [105#8, 106#8]]) hr, hb⟩
  have hux : ∀ W, LaysT W → Calls Tryz.prog 29 #[.string ⟨#[120]⟩] W fun e w' => e = .returned (.tuple #[.string ⟨#[]⟩, .int .i64 133]) ∧ Below W.heap.size W w' := fun W hW => by
    have h := Unq_no [120#8] W (fun t e => by unfold quoteS quoteL at e; simp at e) (by decide) hW
    rw [wk_eqX] at h
    exact h
  have hq : ∀ W, Calls Tryz.prog 28 #[.string ⟨#[97, 34, 7]⟩] W fun e w' => e = .returned (.string ⟨#[34, 97, 92, 34, 92, 120, 48, 55, 34]⟩) ∧ Below W.heap.size W w' := fun W => by
    have h := Quote_any ⟨#[97, 34, 7]⟩ W (by decide)
    rw [wk_quote] at h
    exact h
  have hc1 : ∀ W, LaysT W → Calls Tryz.prog 21 #[.string ⟨#[104, 105, 32, 116, 104, 101, 114, 101]⟩] W fun e w' => e = .returned (.int .i64 0) ∧ Below W.heap.size W w' := fun W hW => by
    have h := Check_any ⟨#[104, 105, 32, 116, 104, 101, 114, 101]⟩ W (by decide) hW
    rwa [wk_c1] at h
  have hc2 : ∀ W, LaysT W → Calls Tryz.prog 21 #[.string ⟨#[]⟩] W fun e w' => e = .returned (.int .i64 132) ∧ Below W.heap.size W w' := fun W hW => by
    have h := Check_any ⟨#[]⟩ W (by decide) hW
    rwa [wk_c2] at h
  have hc3 : ∀ W, LaysT W → Calls Tryz.prog 21 #[.string ⟨#[255]⟩] W fun e w' => e = .returned (.int .i64 130) ∧ Below W.heap.size W w' := fun W hW => by
    have h := Check_any ⟨#[255]⟩ W (by decide) hW
    rwa [wk_c3] at h
  have hc4 : ∀ W, LaysT W → Calls Tryz.prog 21 #[.string ⟨#[97, 9, 98]⟩] W fun e w' => e = .returned (.int .i64 131) ∧ Below W.heap.size W w' := fun W hW => by
    have h := Check_any ⟨#[97, 9, 98]⟩ W (by decide) hW
    rwa [wk_c4] at h
  have HNM := Lib.hid hnm
  have HL7 := Lib.hid hl7
  have HL3 := Lib.hid hl3
  have HUX := Lib.hid hux
  have HQ := Lib.hid hq
  have HC1 := Lib.hid hc1
  have HC2 := Lib.hid hc2
  have HC3 := Lib.hid hc3
  have HC4 := Lib.hid hc4
  have HB : Hid (Below w.heap.size w w) := Lib.hid (Below.refl _ w)
  clear hnm hl7 hl3 hux hq hc1 hc2 hc3 hc4
  go_enter Tryz.func12, Tryz.ntmps12
  go_wp2_with (first
    | (go_at_call 20; (with_reducible refine (num_any _ _).mono ?_); rintro e w' ⟨rfl, rfl⟩)
    | (go_at_call 23; (with_reducible refine (HNM.out _).mono ?_); rintro e w1 ⟨A1, k1, rfl, hr, hb⟩; have HB := Lib.hid (HB.out.trans (hb.mono HB.out.size)); have R1 := Lib.hid hr; have B1 := Lib.hid (Below.refl w1.heap.size w1); clear hr hb)
    | (go_at_call 26; (with_reducible refine (HL7.out _ (hL.keep HB.out)).mono ?_); rintro e w2 ⟨A2, k2, rfl, hr, hb⟩; have HB := Lib.hid (HB.out.trans (hb.mono HB.out.size)); have R2 := Lib.hid hr; have B1 := Lib.hid (B1.out.trans (hb.mono B1.out.size)); have B2 := Lib.hid (Below.refl w2.heap.size w2); clear hr hb)
    | (go_at_call 26; (with_reducible refine (HL3.out _ (hL.keep HB.out)).mono ?_); rintro e w3 ⟨A3, k3, rfl, hr, hb⟩; have HB := Lib.hid (HB.out.trans (hb.mono HB.out.size)); have R3 := Lib.hid hr; have B1 := Lib.hid (B1.out.trans (hb.mono B1.out.size)); have B2 := Lib.hid (B2.out.trans (hb.mono B2.out.size)); have B3 := Lib.hid (Below.refl w3.heap.size w3); clear hr hb)
    | (go_at_call 29; (with_reducible refine (HUX.out _ (hL.keep HB.out)).mono ?_); rintro e w4 ⟨rfl, hb⟩; have HB := Lib.hid (HB.out.trans (hb.mono HB.out.size)); have B1 := Lib.hid (B1.out.trans (hb.mono B1.out.size)); have B2 := Lib.hid (B2.out.trans (hb.mono B2.out.size)); have B3 := Lib.hid (B3.out.trans (hb.mono B3.out.size)); clear hb
       have hs1 := same_true _ _ w1 w4 #[.string ⟨#[97, 110, 110]⟩, .string ⟨#[98, 111]⟩] 2 R1.out B1.out (by kernel_rfl) (by decide) (by decide) rfl)
    | (go_at_call 24; (with_reducible refine hs1.mono ?_); clear hs1; rintro e w5 ⟨rfl, hb⟩; have HB := Lib.hid (HB.out.trans (hb.mono HB.out.size)); have B2 := Lib.hid (B2.out.trans (hb.mono B2.out.size)); have B3 := Lib.hid (B3.out.trans (hb.mono B3.out.size)); clear hb
       have hs2 := same_true _ _ w2 w5 #[.string ⟨#[111, 110, 101, 32, 116, 119, 111]⟩, .string ⟨#[116, 104, 114, 101, 101]⟩] 2 R2.out B2.out (by kernel_rfl) (by decide) (by decide) rfl)
    | (go_at_call 24; (with_reducible refine hs2.mono ?_); clear hs2; rintro e w6 ⟨rfl, hb⟩; have HB := Lib.hid (HB.out.trans (hb.mono HB.out.size)); have B3 := Lib.hid (B3.out.trans (hb.mono B3.out.size)); clear hb
       have hs3 := same_true _ _ w3 w6 #[.string ⟨#[97, 98, 99]⟩, .string ⟨#[100, 101, 102]⟩, .string ⟨#[103, 104]⟩, .string ⟨#[105, 106]⟩] 4 R3.out B3.out (by kernel_rfl) (by decide) (by decide) rfl)
    | (go_at_call 24; (with_reducible refine hs3.mono ?_); clear hs3; rintro e w7 ⟨rfl, hb⟩; have HB := Lib.hid (HB.out.trans (hb.mono HB.out.size)); clear hb)
    | (go_at_call 28; (with_reducible refine (HQ.out _).mono ?_); rintro e w8 ⟨rfl, hb⟩; have HB := Lib.hid (HB.out.trans (hb.mono HB.out.size)); clear hb)
    | (go_at_call 21; (with_reducible refine (HC1.out _ (hL.keep HB.out)).mono ?_); rintro e w9 ⟨rfl, hb⟩; have HB := Lib.hid (HB.out.trans (hb.mono HB.out.size)); clear hb)
    | (go_at_call 21; (with_reducible refine (HC2.out _ (hL.keep HB.out)).mono ?_); rintro e w9 ⟨rfl, hb⟩; have HB := Lib.hid (HB.out.trans (hb.mono HB.out.size)); clear hb)
    | (go_at_call 21; (with_reducible refine (HC3.out _ (hL.keep HB.out)).mono ?_); rintro e w9 ⟨rfl, hb⟩; have HB := Lib.hid (HB.out.trans (hb.mono HB.out.size)); clear hb)
    | (go_at_call 21; (with_reducible refine (HC4.out _ (hL.keep HB.out)).mono ?_); rintro e w9 ⟨rfl, hb⟩; have HB := Lib.hid (HB.out.trans (hb.mono HB.out.size)); clear hb))
  go_ret
  exact ⟨rfl, HB.out⟩
end Go.Proofs
