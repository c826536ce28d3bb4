/-
  The contract of the reference reader's truth.
-/
import Derived.Test.YteeponciegmlcaaDoorRefE
namespace Go.Proofs
open Go.RowKit Go.Shelf Sm
set_option maxRecDepth 100000 in
set_option maxHeartbeats 4000000 in
theorem Sm.refTru_err (A : Option Addr) (n c : Nat) (w : World) : Calls Tryd.prog 51 #[rdV A n c 120] w fun x w' => x = .returned (.tuple #[rdV A n c 120, .bool false, .int .i64 120]) ∧ Below w.heap.size w w' := by
  unfold rdV
  go_enter Tryd.func51, Tryd.ntmps51
  go_wp2
  go_region
  all_goals go_wp2
  all_goals exact bodyPost_ret (v := .tuple #[.agg #[.slice A n c, .int .i64 120], .bool false, .int .i64 120]) (by simp [results, Tryd.results51, go_sem]) rfl ⟨rfl, (alloc2 _ _ _).drew⟩
/-- a truth is told by the first byte -/
theorem Sm.tru_first {c : BitVec 8} (r : List (BitVec 8)) (h : c.toNat ≤ 1) : getN (c :: r) = .num c.toNat 1 := by
  have e : numB c.toNat = [c] := by
    rw [numB_small (by omega), BitVec.ofNat_toNat, BitVec.setWidth_eq]
  have := getN_numB (n := c.toNat) (by unfold top; omega) r
  rw [e] at this
  exact this
theorem Sm.tru_other {c : BitVec 8} (r : List (BitVec 8)) (h : ¬ c.toNat ≤ 1) : NoNum (c :: r) 1 := by
  intro m k hg hm
  by_cases h7 : c.toNat < 128
  · have e : numB c.toNat = [c] := by
      rw [numB_small h7, BitVec.ofNat_toNat, BitVec.setWidth_eq]
    have := getN_numB (n := c.toNat) (by unfold top; omega) r
    rw [e] at this
    have h2 : getN (c :: r) = .num c.toNat 1 := this
    rw [h2] at hg
    cases hg
    omega
  · have hl : 1 ≤ lead (c :: r) := lead_more _ 0 c (Nat.zero_le _) rfl (by omega)
    unfold getN at hg
    split at hg
    · cases hg
    · split at hg
      · cases hg
      · rename_i d hd
        split at hg
        · cases hg
        · rename_i hnz
          cases hg
          have hge := take_succ_get hd
          have hlt := lead_end _ d hd
          have hd0 : 0 < d.toNat % 128 := by omega
          have h128 : 128 ≤ 128 ^ lead (c :: r) := Nat.le_self_pow (by omega) 128
          have := Nat.mul_le_mul h128 hd0
          omega
theorem Sm.tru_none : NoNum [] 1 := by
  intro m k hg _
  have := getN_form hg
  simp at this
  omega
set_option maxRecDepth 100000 in
set_option maxHeartbeats 4000000 in
theorem Sm.refTru_none (A : Option Addr) (c : Nat) (w : World) : Calls Tryd.prog 51 #[rdV A 0 c 0] w fun x w' => x = .returned (.tuple #[rdV none 0 0 120, .bool false, .int .i64 120]) ∧ Below w.heap.size w w' := by
  have hf := refFail_two A 0 c w
  unfold rdV
  go_enter Tryd.func51, Tryd.ntmps51
  go_wp2_with (go_at_call 49; (with_reducible refine hf.mono ?_); rintro e w3 ⟨rfl, hb3, h3, hlt, c0, c1, f0, f1⟩; have hg0 := Nat.ne_of_gt hlt)
  obtain ⟨z0, z1, z2⟩ := fail_fin h3 hlt hb3 (.cells #[.slice none 0 0, .int .i64 120] 47)
  exact bodyPost_ret (v := .tuple #[.agg #[.slice none 0 0, .int .i64 120], .bool false, .int .i64 120]) (by simp [results, Tryd.results51, go_sem, z0, z1]) rfl ⟨rfl, z2⟩
theorem Sm.first_cell {w w' : World} {A : Option Addr} {n c : Nat} {x : BitVec 8} {r : List (BitVec 8)} (h : RefAt w A n c (x :: r)) (hb : Below w.heap.size w w') : ∃ b off, A = some ⟨b, off, none⟩ ∧ b < w.heap.size ∧ w'.cell? ⟨b, off, none⟩ = some (.int .u8 (ib x)) := by
  obtain ⟨b, off, rfl, hlt, hc⟩ := h.rd (by simp)
  have := hc 0 x rfl
  exact ⟨b, off, rfl, hlt, (hb.cell (p := ⟨b, off, none⟩) hlt).trans this⟩
set_option maxRecDepth 100000 in
set_option maxHeartbeats 4000000 in
theorem Sm.refTru_bad (A : Option Addr) (n c : Nat) (x : BitVec 8) (r : List (BitVec 8)) (w : World) (h : RefAt w A n c (x :: r)) (hm : n ≤ 9223372036854775807) (hx : ¬ x.toNat ≤ 1) : Calls Tryd.prog 51 #[rdV A n c 0] w fun x w' => x = .returned (.tuple #[rdV none 0 0 120, .bool false, .int .i64 120]) ∧ Below w.heap.size w w' := by
  have hn : 0 < n := by have := h.len; simp at this; omega
  have hx1 : (1 : Int) < ib x := by unfold ib; omega
  obtain ⟨b, off, rfl, hlt0, hc0⟩ := first_cell h (alloc2 w (.cells #[.slice A n c, .int .i64 0] 47) (.cells #[.slice none 0 0, .int .i64 0] 47))
  have hf := refFail_two (some ⟨b, off, none⟩) n c w
  unfold rdV
  go_enter Tryd.func51, Tryd.ntmps51
  go_wp2_with (go_at_call 49; (with_reducible refine hf.mono ?_); rintro e w3 ⟨rfl, hb3, h3, hlt, c0, c1, f0, f1⟩; have hg0 := Nat.ne_of_gt hlt)
  obtain ⟨z0, z1, z2⟩ := fail_fin h3 hlt hb3 (.cells #[.slice none 0 0, .int .i64 120] 47)
  exact bodyPost_ret (v := .tuple #[.agg #[.slice none 0 0, .int .i64 120], .bool false, .int .i64 120]) (by simp [results, Tryd.results51, go_sem, z0, z1]) rfl ⟨rfl, z2⟩
