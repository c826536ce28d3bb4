/-
  few: are there few calls, and small ones? Conditions: as each theorem names them.
-/
import Derived.Deep.CutRange
import Derived.Deep.DeepCutAuto
import Derived.Test.YtkipjlcbmiagcaaNtOp
import Derived.Test.YtkipjlcbmiagcaaNtWk
namespace Go.Proofs
open Go Go.RowKit Sm Go.Lib Go.Maps Go.WideMaps
attribute [local go_sem] Oper.semAt_some
def Sm.smallA (x : ActV) : Bool := decide (x.n ≤ 200)
def Sm.fewM (xs : List ActV) (m : Int) : Bool := xs.all smallA && decide ((xs.length : Int) ≤ m)
theorem Sm.RdActs.keep {w W : World} {A : Option Addr} {xs : List ActV} (h : RdActs w A xs) (hb : Below w.heap.size w W) : RdActs W A xs := fun h0 => by
  obtain ⟨b, off, e, hlt, hc⟩ := h h0
  exact ⟨b, off, e, Nat.lt_of_lt_of_le hlt hb.size, fun j x hj i v hi => (hb.cell (p := ⟨b, off + j * 6 + i, none⟩) hlt).trans (hc j x hj i v hi)⟩
theorem Sm.ActV.came.keep {x : ActV} {w W : World} (h : x.came w) (hb : Below w.heap.size w W) : x.came W :=
  ⟨h.len, h.room, (h.rd.belowTo hb (Nat.le_refl _)).more hb.size, h.ws, h.wd, h.ww⟩
set_option maxRecDepth 100000 in
set_option maxHeartbeats 2000000 in
theorem Sm.few_any (A : Option Addr) (n c : Nat) (xs : List ActV) (m : Int) (w : World) (hR : RdActs w A xs) (hn : xs.length = n) (hc : n ≤ c) (hc2 : c ≤ 9223372036854775807) (hcame : ∀ x ∈ xs, x.came w) :
    Calls Try.prog 9 #[.slice A n c, .int .i64 m] w fun e w' => e = .returned (.bool (fewM xs m)) ∧ w = w' := by
  have HR := Lib.hid hR
  have HN := Lib.hid hn
  have HC := Lib.hid hcame
  have hnI : (n : Int) ≤ 9223372036854775807 := by omega
  clear hR hn hcame
  go_enter Try.func9, Try.ntmps9
  go_wp2
  go_loopw [5] (fun v5 wr => ∃ k : Nat, k ≤ n ∧ v5 = .int .i64 (k : Int) ∧ Hid ((xs.take k).all smallA = true) ∧ wr = w) (fun v5 _ => n - (RowKit.intOf v5).toNat)
  case atStart => exact ⟨0, Nat.zero_le _, rfl, Lib.hid rfl, rfl⟩
  case round =>
    obtain ⟨k, hk, rfl, HA, rfl⟩ := hrel
    by_cases hlt : k < n
    · have hkx : k < xs.length := by rw [HN.out]; exact hlt
      obtain ⟨b, off, rfl, hb, hcl⟩ := HR.out (by omega)
      obtain ⟨X, hX⟩ : ∃ X, xs[k] = X := ⟨_, rfl⟩
      have hXm : X ∈ xs := by rw [← hX]; exact List.getElem_mem hkx
      have q3 := hcl k X (by rw [List.getElem?_eq_getElem hkx, hX]) 4 _ rfl
      have hcame := HC.out X hXm
      have i1 : (X.n : Int) ≤ 9223372036854775807 := by have := hcame.room; omega
      have htk : xs.take (k + 1) = xs.take k ++ [X] := by rw [← hX]; exact List.take_succ_eq_append_getElem hkx
      have HALL : Hid (smallA X = true → (xs.take (k + 1)).all smallA = true) := Lib.hid fun e => by
        rw [htk, List.all_append, HA.out]
        simp [e]
      have HNO : Hid (smallA X = false → fewM xs m = false) := Lib.hid fun e => by
        unfold fewM
        rw [Bool.and_eq_false_iff]
        left
        cases h : xs.all smallA with
        | false => rfl
        | true =>
          have := List.all_eq_true.1 h X hXm
          rw [e] at this
          cases this
      obtain ⟨Xn, hXn⟩ : ∃ Xn, X.n = Xn := ⟨_, rfl⟩
      have hsm : smallA X = decide (Xn ≤ 200) := by
        unfold smallA
        rw [hXn]
      rw [hXn] at q3 i1
      rw [hsm] at HALL HNO
      clear hcl hX htk hsm hXn hcame
      by_cases g1 : Xn ≤ 200
      · have g1I : ¬ (200 : Int) < (Xn : Int) := by omega
        have HA2 := Lib.hid (HALL.out (by simp [g1]))
        go_wp2
        go_roundw
        case rel => exact ⟨k + 1, by omega, by go_num, HA2, by first | rfl | trivial⟩
        case measure => simp [RowKit.intOf]; omega
      · have g1I : (200 : Int) < (Xn : Int) := by omega
        go_wp2
        go_ret
        exact ⟨by rw [HNO.out (by rw [decide_eq_false_iff_not]; omega)]; rfl, rfl⟩
    · obtain rfl : k = n := by omega
      have HF : Hid (fewM xs m = decide ((k : Int) ≤ m)) := Lib.hid (by
        have h1 := HA.out
        rw [List.take_of_length_le (by rw [HN.out]; exact Nat.le_refl _)] at h1
        unfold fewM
        rw [h1, HN.out]
        rfl)
      go_wp2
      go_ret
      exact ⟨by rw [HF.out]; rfl, rfl⟩
theorem Sm.few_small {xs : List ActV} {m : Int} (h : fewM xs m = true) : (∀ x ∈ xs, x.n ≤ 200) ∧ (xs.length : Int) ≤ m := by
  unfold fewM at h
  rw [Bool.and_eq_true] at h
  refine ⟨fun x hx => ?_, of_decide_eq_true h.2⟩
  have := List.all_eq_true.1 h.1 x hx
  exact of_decide_eq_true this
end Go.Proofs
