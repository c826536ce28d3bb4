/-
  The contracts of the numbers that are asked for where a token is opened.
-/
import Derived.Test.YtbojnblececnhaaGreatDoorQ24
namespace Go.Proofs
open Go.RowKit Go.Shelf Sm
/-- a number ahead, and what is behind it -/
def Sm.numO (l : List (BitVec 8)) (most : Int) : Option (List (BitVec 8) × Int) := match getN l with
  | .num m k => if (m : Int) ≤ most then some (l.drop k, (m : Int)) else none
  | _ => none
theorem Sm.numS_some {l l' : List (BitVec 8)} {most n : Int} (hm : 0 ≤ most) (h : numO l most = some (l', n)) : numS l 0 most = (l', 0, n, 0) := by
  unfold numO at h
  unfold numS
  rw [if_neg (by simp), if_neg (by omega)]
  cases hg : getN l with
  | num m k =>
    rw [hg] at h
    simp only at h ⊢
    by_cases hle : (m : Int) ≤ most
    · rw [if_pos hle] at h ⊢
      injection h with h
      injection h with h1 h2
      rw [h1, h2]
    · rw [if_neg hle] at h
      cases h
  | cut => rw [hg] at h; cases h
  | bad => rw [hg] at h; cases h
theorem Sm.numS_none {l : List (BitVec 8)} {most : Int} (hm : 0 ≤ most) (h : numO l most = none) : numS l 0 most = ([], 120, 0, 120) := by
  unfold numO at h
  unfold numS
  rw [if_neg (by simp), if_neg (by omega)]
  cases hg : getN l with
  | num m k =>
    rw [hg] at h
    simp only at h ⊢
    by_cases hle : (m : Int) ≤ most
    · rw [if_pos hle] at h
      cases h
    · rw [if_neg hle]
  | cut => rfl
  | bad => rfl
theorem Sm.numO_bound {l l' : List (BitVec 8)} {most n : Int} (h : numO l most = some (l', n)) : 0 ≤ n ∧ n ≤ most ∧ ∃ k, k ≤ l.length ∧ l' = l.drop k := by
  unfold numO at h
  cases hg : getN l with
  | num m k =>
    rw [hg] at h
    simp only at h
    by_cases hle : (m : Int) ≤ most
    · rw [if_pos hle] at h
      injection h with h
      injection h with h1 h2
      subst h1 h2
      exact ⟨by omega, hle, k, (getN_form hg).2.2.2, rfl⟩
    · rw [if_neg hle] at h
      cases h
  | cut => rw [hg] at h; cases h
  | bad => rw [hg] at h; cases h
set_option maxRecDepth 100000 in
set_option maxHeartbeats 1000000 in
theorem Sm.ask_yes (Br R : Nat) (l l' : List (BitVec 8)) (most n : Int) (w : World) (hr : Rdr w R l 0) (hc : w.cell? ⟨Br, 0, none⟩ = some (.pointer (some ⟨R, 0, none⟩))) (hm : 0 ≤ most) (hn : numO l most = some (l', n)) :
    Calls Tryz.prog 60 #[.int .i64 most, .pointer (some ⟨Br, 0, none⟩)] w fun e w' => e = .returned (.int .i64 n) ∧ Rdr w' R l' 0 ∧ But (fun b => b = R) w w' := by
  have hN := Number_any hr most
  rw [numS_some hm hn] at hN
  have HN := Lib.hid hN
  clear hN hn hr
  go_enter Tryz.func60, Tryz.ntmps60
  go_wp2_with (first
    | (go_at_call 61; (with_reducible refine HN.out.mono ?_); rintro e w1 ⟨rfl, hr1, hb1⟩)
    | (go_at_call 31; (with_reducible refine (must_oneY _ _ _ _ (by first | rfl | (simp; done)) (by first | rfl | (simp; done))).mono ?_); rintro e w4 ⟨⟨v4, rfl⟩, rfl⟩))
  go_ret
  have hba : Below w1.heap.size w1 (w1.alloc (.cells #[.bool true] 4)) := (Below.refl _ _).alloc (Nat.le_refl _) _
  exact ⟨rfl, hr1.but (But.of_all hba (fun _ => False)) (fun _ _ h => h), hb1.trans (But.of_all hba (fun b => b = R)) (fun _ _ h => h)⟩
set_option maxRecDepth 100000 in
set_option maxHeartbeats 1000000 in
theorem Sm.ask_no (Br R : Nat) (l : List (BitVec 8)) (most : Int) (w : World) (hr : Rdr w R l 0) (hc : w.cell? ⟨Br, 0, none⟩ = some (.pointer (some ⟨R, 0, none⟩))) (hm : 0 ≤ most) (hn : numO l most = none) :
    Calls Tryz.prog 60 #[.int .i64 most, .pointer (some ⟨Br, 0, none⟩)] w fun e w' => e = .panicked [pE 161] ∧ But (fun b => b = R) w w' := by
  have hN := Number_any hr most
  rw [numS_none hm hn] at hN
  have HN := Lib.hid hN
  clear hN hn hr
  go_enter Tryz.func60, Tryz.ntmps60
  go_wp2_with (first
    | (go_at_call 61; (with_reducible refine HN.out.mono ?_); rintro e w1 ⟨rfl, hr1, hb1⟩)
    | (go_at_call 31; (with_reducible refine (must_oneN _ _ _ _ (by first | rfl | (simp; done)) (by first | rfl | (simp; done))).mono ?_); rintro e w4 ⟨rfl, rfl⟩))
  have hba : Below w1.heap.size w1 (w1.alloc (.cells #[.bool false] 4)) := (Below.refl _ _).alloc (Nat.le_refl _) _
  exact ⟨rfl, rfl, hb1.trans (But.of_all hba (fun b => b = R)) (fun _ _ h => h)⟩
end Go.Proofs
