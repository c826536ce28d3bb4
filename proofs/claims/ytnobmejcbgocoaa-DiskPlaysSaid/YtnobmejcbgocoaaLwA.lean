/-
  few: are there few calls, and small ones? step: a step by its number. Conditions: as each theorem names them.
-/
import Derived.Deep.CutRange
import Derived.Deep.DeepCutAuto
import Derived.Test.YtnobmejcbgocoaaOpenP
import Derived.Test.YtnobmejcbgocoaaDkX
namespace Go.Proofs
open Go Go.RowKit Sm Go.Lib Go.Maps Go.WideMaps
attribute [local go_sem] Oper.semAt_some
def Sm.smallA (x : ActV) : Bool := decide (x.n ≤ 100) && decide (x.name.size ≤ 30) && decide (x.to_.size ≤ 30) && decide (x.np ≤ 20)
def Sm.fewM (xs : List ActV) (m : Int) : Bool := xs.all smallA && decide ((xs.length : Int) ≤ m)
theorem Sm.RdActs.keep {w W : World} {A : Option Addr} {xs : List ActV} (h : RdActs w A xs) (hb : Below w.heap.size w W) : RdActs W A xs := fun h0 => by
  obtain ⟨b, off, e, hlt, hc⟩ := h h0
  exact ⟨b, off, e, Nat.lt_of_lt_of_le hlt hb.size, fun j x hj i v hi => (hb.cell (p := ⟨b, off + j * 8 + i, none⟩) hlt).trans (hc j x hj i v hi)⟩
theorem Sm.ActV.came.keep {x : ActV} {w W : World} (h : x.came w) (hb : Below w.heap.size w W) : x.came W :=
  ⟨h.len, h.room, (h.rd.belowTo hb (Nat.le_refl _)).more hb.size, h.plen, h.proom, h.prd.but (But.of_all hb (fun _ => False)) (fun _ e => e), h.bd, h.wd⟩
theorem Sm.small_parts {x : ActV} (h : smallA x = true) : x.n ≤ 100 ∧ x.name.size ≤ 30 ∧ x.to_.size ≤ 30 ∧ x.np ≤ 20 := by
  unfold smallA at h
  simp only [Bool.and_eq_true, decide_eq_true_eq] at h
  omega
set_option maxRecDepth 100000 in
set_option maxHeartbeats 2000000 in
theorem Sm.few_any (A : Option Addr) (n c : Nat) (xs : List ActV) (m : Int) (w : World) (hR : RdActs w A xs) (hn : xs.length = n) (hc : n ≤ c) (hc2 : c ≤ 9223372036854775807) (hcame : ∀ x ∈ xs, x.came w) :
    Calls Try.prog 9 #[.slice A n c, .int .i64 m] w fun e w' => e = .returned (.bool (fewM xs m)) ∧ w = w' := by
  have HR := Lib.hid hR
  have HN := Lib.hid hn
  have HC := Lib.hid hcame
  have hnI : (n : Int) ≤ 9223372036854775807 := by omega
  clear hR hn hcame
  go_enter Try.func9, Try.ntmps9
  go_wp2
  go_loopw [5] (fun v5 wr => ∃ k : Nat, k ≤ n ∧ v5 = .int .i64 (k : Int) ∧ Hid ((xs.take k).all smallA = true) ∧ wr = w) (fun v5 _ => n - (RowKit.intOf v5).toNat)
  case atStart => exact ⟨0, Nat.zero_le _, rfl, Lib.hid rfl, rfl⟩
  case round =>
    obtain ⟨k, hk, rfl, HA, rfl⟩ := hrel
    by_cases hlt : k < n
    · have hkx : k < xs.length := by rw [HN.out]; exact hlt
      obtain ⟨b, off, rfl, hb, hcl⟩ := HR.out (by omega)
      obtain ⟨X, hX⟩ : ∃ X, xs[k] = X := ⟨_, rfl⟩
      have hXm : X ∈ xs := by rw [← hX]; exact List.getElem_mem hkx
      have hcl2 := hcl k X (by rw [List.getElem?_eq_getElem hkx, hX])
      have q3 := hcl2 3 _ rfl
      have q1 := hcl2 1 _ rfl
      have q2 := hcl2 2 _ rfl
      have q7 := hcl2 7 _ rfl
      have hcame := HC.out X hXm
      have i1 : (X.n : Int) ≤ 9223372036854775807 := by have := hcame.room; omega
      have i7 : (X.np : Int) ≤ 9223372036854775807 := by have := hcame.proom; omega
      have htk : xs.take (k + 1) = xs.take k ++ [X] := by rw [← hX]; exact List.take_succ_eq_append_getElem hkx
      have HALL : Hid (smallA X = true → (xs.take (k + 1)).all smallA = true) := Lib.hid fun e => by
        rw [htk, List.all_append, HA.out]
        simp [e]
      have HNO : Hid (smallA X = false → fewM xs m = false) := Lib.hid fun e => by
        unfold fewM
        rw [Bool.and_eq_false_iff]
        left
        cases h : xs.all smallA with
        | false => rfl
        | true =>
          have := List.all_eq_true.1 h X hXm
          rw [e] at this
          cases this
      obtain ⟨Xn, hXn⟩ : ∃ Xn, X.n = Xn := ⟨_, rfl⟩
      obtain ⟨Xs, hXs⟩ : ∃ Xs, X.name = Xs := ⟨_, rfl⟩
      obtain ⟨Xt, hXt⟩ : ∃ Xt, X.to_ = Xt := ⟨_, rfl⟩
      obtain ⟨Xp, hXp⟩ : ∃ Xp, X.np = Xp := ⟨_, rfl⟩
      have hsm : smallA X = (decide (Xn ≤ 100) && decide (Xs.size ≤ 30) && decide (Xt.size ≤ 30) && decide (Xp ≤ 20)) := by
        unfold smallA
        rw [hXn, hXs, hXt, hXp]
      rw [hXn] at q3 i1
      rw [hXs] at q1
      rw [hXt] at q2
      rw [hXp] at q7 i7
      rw [hsm] at HALL HNO
      clear hcl hcl2 hX htk hsm hXn hXs hXt hXp hcame
      by_cases g1 : Xn ≤ 100
      · have g1I : ¬ (100 : Int) < (Xn : Int) := by omega
        by_cases g2 : Xs.size ≤ 30
        · have g2I : ¬ (30 : Int) < (Xs.size : Int) := by omega
          by_cases g3 : Xt.size ≤ 30
          · have g3I : ¬ (30 : Int) < (Xt.size : Int) := by omega
            by_cases g4 : Xp ≤ 20
            · have g4I : ¬ (20 : Int) < (Xp : Int) := by omega
              have HA2 := Lib.hid (HALL.out (by simp [g1, g2, g3, g4]))
              go_wp2
              go_roundw
              case rel => exact ⟨k + 1, by omega, by go_num, HA2, by first | rfl | trivial⟩
              case measure => simp [RowKit.intOf]; omega
            · have g4I : (20 : Int) < (Xp : Int) := by omega
              go_wp2
              go_ret
              exact ⟨by rw [HNO.out (by rw [Bool.and_eq_false_iff, Bool.and_eq_false_iff, Bool.and_eq_false_iff, decide_eq_false_iff_not, decide_eq_false_iff_not, decide_eq_false_iff_not, decide_eq_false_iff_not]; omega)]; rfl, rfl⟩
          · have g3I : (30 : Int) < (Xt.size : Int) := by omega
            go_wp2
            go_ret
            exact ⟨by rw [HNO.out (by rw [Bool.and_eq_false_iff, Bool.and_eq_false_iff, Bool.and_eq_false_iff, decide_eq_false_iff_not, decide_eq_false_iff_not, decide_eq_false_iff_not, decide_eq_false_iff_not]; omega)]; rfl, rfl⟩
        · have g2I : (30 : Int) < (Xs.size : Int) := by omega
          go_wp2
          go_ret
          exact ⟨by rw [HNO.out (by rw [Bool.and_eq_false_iff, Bool.and_eq_false_iff, Bool.and_eq_false_iff, decide_eq_false_iff_not, decide_eq_false_iff_not, decide_eq_false_iff_not, decide_eq_false_iff_not]; omega)]; rfl, rfl⟩
      · have g1I : (100 : Int) < (Xn : Int) := by omega
        go_wp2
        go_ret
        exact ⟨by rw [HNO.out (by rw [Bool.and_eq_false_iff, Bool.and_eq_false_iff, Bool.and_eq_false_iff, decide_eq_false_iff_not, decide_eq_false_iff_not, decide_eq_false_iff_not, decide_eq_false_iff_not]; omega)]; rfl, rfl⟩
    · obtain rfl : k = n := by omega
      have HF : Hid (fewM xs m = decide ((k : Int) ≤ m)) := Lib.hid (by
        have h1 := HA.out
        rw [List.take_of_length_le (by rw [HN.out]; exact Nat.le_refl _)] at h1
        unfold fewM
        rw [h1, HN.out]
        rfl)
      go_wp2
      go_ret
      exact ⟨by rw [HF.out]; rfl, rfl⟩
def Sm.stepM (s : DSt) (L : List (List (BitVec 8) × List (BitVec 8) × Nat)) (y : ActV) : DSt × List (List (BitVec 8) × List (BitVec 8) × Nat) × Int :=
  if y.what = 0 then appM s L (strL y.name) y.bytes else if y.what = 1 then synM s L (strL y.name) else if y.what = 2 then cutM s L (strL y.name) y.N else if y.what = 3 then remM s L (strL y.name) else renM s L (strL y.name) (strL y.to_)
/-- a step's value -/
def Sm.ActV.stepV (y : ActV) : Value := .agg #[.int .i64 y.what, .string y.name, .string y.to_, .slice y.A y.n y.c, .int .i64 y.N]
theorem Sm.StepM.ahead {B : Nat → Prop} {w w1 w' : World} {p : Nat} {r : DSt × List (List (BitVec 8) × List (BitVec 8) × Nat) × Int} (hb : Below w.heap.size w w1) (h : StepM B w1 w' p r) : StepM B w w' p r :=
  ⟨h.1.mono (fun b _ e => e.imp id (fun e => by have := hb.size; omega)), (But.of_all hb _).trans h.2 (fun _ _ e => e)⟩
set_option maxRecDepth 100000 in
set_option maxHeartbeats 2000000 in
theorem Sm.step_any {B : Nat → Prop} {p : Nat} {s : DSt} {L : List (List (BitVec 8) × List (BitVec 8) × Nat)} (y : ActV) (N : Nat) (w : World) (h : Dk B w p s L) (hl : L.length ≤ 1000000) (hs : smallA y = true) (hlen : y.bytes.length = y.n) (hN : N ≤ w.heap.size) (hrd : ∀ W, But B w W → Rd W N y.A y.bytes) :
    Calls Try.prog 33 #[.pointer (some ⟨p, 0, none⟩), y.stepV] w fun e w' => e = .returned (.int .i64 (stepM s L y).2.2) ∧ StepM B w w' p (stepM s L y) := by
  obtain ⟨hy1, hy2, hy3, _⟩ := small_parts hs
  obtain ⟨what, name, to_, A, n, c, bytes, NN, stop, crash, Ap, np, cp, picks⟩ := y
  unfold ActV.stepV stepM
  dsimp only at hlen hrd hy1 hy2 hy3 ⊢
  obtain ⟨w1, hw1⟩ : ∃ w1, w.alloc (.cells #[.int .i64 what, .string name, .string to_, .slice A n c, .int .i64 NN] 66) = w1 := ⟨_, rfl⟩
  have hb1 : Below w.heap.size w w1 := by rw [← hw1]; exact (Below.refl _ w).alloc (Nat.le_refl _) _
  have hx1 : w1.heap[w.heap.size]? = some (.cells #[.int .i64 what, .string name, .string to_, .slice A n c, .int .i64 NN] 66 (0, 0)) := by rw [← hw1]; exact World.alloc_heap_new w _
  have q0 := cell_of_heap hx1 0
  have q1 := cell_of_heap hx1 1
  have q2 := cell_of_heap hx1 2
  have q3 := cell_of_heap hx1 3
  have q4 := cell_of_heap hx1 4
  simp only [List.getElem?_toArray, List.getElem?_cons_succ, List.getElem?_cons_zero] at q0 q1 q2 q3 q4
  have h1 := h.keep hb1
  have k0 := append_M name N A n c bytes w1 h1 (by omega) hl (Nat.le_trans hN hb1.size) (fun W hb => hrd W ((But.of_all hb1 _).trans hb (fun _ _ e => e))) hlen (by omega)
  have k1 := sync_M name w1 h1 (by omega) hl
  have k2 := cut_M name NN w1 h1 (by omega) hl
  have k3 := remove_M name w1 h1 (by omega)
  have k4 := rename_M name to_ w1 h1 (by omega) (by omega) hl
  have HB1 := Lib.hid hb1
  have HW1 := Lib.hid hw1
  clear h h1 hx1 hb1 hrd
  by_cases e0 : what = 0
  · subst e0
    rw [if_pos rfl]
    go_enter Try.func33, Try.ntmps33
    go_wp2_with (go_at_call 16; (with_reducible refine k0.mono ?_); rintro e w2 ⟨rfl, hst⟩)
    go_ret
    exact ⟨rfl, hst.ahead HB1.out⟩
  rw [if_neg e0]
  have e0f : (what == 0) = false := by simpa using e0
  by_cases e1 : what = 1
  · subst e1
    rw [if_pos rfl]
    go_enter Try.func33, Try.ntmps33
    go_wp2_with (go_at_call 17; (with_reducible refine k1.mono ?_); rintro e w2 ⟨rfl, hst⟩)
    go_ret
    exact ⟨rfl, hst.ahead HB1.out⟩
  rw [if_neg e1]
  have e1f : (what == 1) = false := by simpa using e1
  by_cases e2 : what = 2
  · subst e2
    rw [if_pos rfl]
    go_enter Try.func33, Try.ntmps33
    go_wp2_with (go_at_call 18; (with_reducible refine k2.mono ?_); rintro e w2 ⟨rfl, hst⟩)
    go_ret
    exact ⟨rfl, hst.ahead HB1.out⟩
  rw [if_neg e2]
  have e2f : (what == 2) = false := by simpa using e2
  by_cases e3 : what = 3
  · subst e3
    rw [if_pos rfl]
    go_enter Try.func33, Try.ntmps33
    go_wp2_with (go_at_call 19; (with_reducible refine k3.mono ?_); rintro e w2 ⟨rfl, hst⟩)
    go_ret
    exact ⟨rfl, hst.ahead HB1.out⟩
  rw [if_neg e3]
  have e3f : (what == 3) = false := by simpa using e3
  go_enter Try.func33, Try.ntmps33
  go_wp2_with (go_at_call 20; (with_reducible refine k4.mono ?_); rintro e w2 ⟨rfl, hst⟩)
  go_ret
  exact ⟨rfl, hst.ahead HB1.out⟩
end Go.Proofs
