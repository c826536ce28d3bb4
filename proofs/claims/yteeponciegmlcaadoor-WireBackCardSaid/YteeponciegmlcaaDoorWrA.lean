/-
  The contracts of within and lay, and of a writer's small calls.
-/
import Derived.Test.YteeponciegmlcaaDoorBut
namespace Go.Proofs
open Go.RowKit Go.Shelf Sm
set_option maxHeartbeats 400000 in
theorem Sm.within_yes (a n b : Int) (h1 : a ≤ n) (h2 : n ≤ b) (w : World) : Calls Tryd.prog 41 #[.int .i64 a, .int .i64 n, .int .i64 b] w fun e w' => e = .returned (.bool true) ∧ w = w' := by
  go_enter Tryd.func41, Tryd.ntmps41
  go_wp2
  go_ret
  exact ⟨rfl, rfl⟩
set_option maxHeartbeats 400000 in
theorem Sm.within_no (a n b : Int) (h : ¬ (a ≤ n ∧ n ≤ b)) (w : World) : Calls Tryd.prog 41 #[.int .i64 a, .int .i64 n, .int .i64 b] w fun e w' => e = .returned (.bool false) ∧ w = w' := by
  by_cases h1 : a ≤ n
  · have h2 : ¬ n ≤ b := fun h2 => h ⟨h1, h2⟩
    clear h
    go_enter Tryd.func41, Tryd.ntmps41
    go_wp2
    go_ret
    exact ⟨rfl, rfl⟩
  · clear h
    go_enter Tryd.func41, Tryd.ntmps41
    go_wp2
    go_ret
    refine ⟨?_, rfl⟩
    show Ending.returned (Value.bool _) = _
    simp
set_option maxHeartbeats 400000 in
theorem Sm.withinI_yes (a n b : Int) (h1 : a ≤ n) (h2 : n ≤ b) (w : World) : Calls Tryd.prog 43 #[.int .i64 a, .int .i64 n, .int .i64 b] w fun e w' => e = .returned (.bool true) ∧ w = w' := by
  go_enter Tryd.func43, Tryd.ntmps43
  go_wp2
  go_ret
  exact ⟨rfl, rfl⟩
set_option maxHeartbeats 400000 in
theorem Sm.withinI_no (a n b : Int) (h : ¬ (a ≤ n ∧ n ≤ b)) (w : World) : Calls Tryd.prog 43 #[.int .i64 a, .int .i64 n, .int .i64 b] w fun e w' => e = .returned (.bool false) ∧ w = w' := by
  by_cases h1 : a ≤ n
  · have h2 : ¬ n ≤ b := fun h2 => h ⟨h1, h2⟩
    clear h
    go_enter Tryd.func43, Tryd.ntmps43
    go_wp2
    go_ret
    exact ⟨rfl, rfl⟩
  · clear h
    go_enter Tryd.func43, Tryd.ntmps43
    go_wp2
    go_ret
    refine ⟨?_, rfl⟩
    show Ending.returned (Value.bool _) = _
    simp
theorem Sm.or128 (n : Nat) : bits .or .u8 ((n : Int) % (256 : Int)) 128 = ib (BitVec.ofNat 8 (128 + n % 128)) := by
  have h : ∀ r : Fin 256, bits .or .u8 ((r.val : Nat) : Int) 128 = ib (BitVec.ofNat 8 (128 + r.val % 128)) := by decide +kernel
  have e : (n : Int) % (256 : Int) = (((⟨n % 256, Nat.mod_lt _ (by decide)⟩ : Fin 256).val : Nat) : Int) := by simp
  rw [e, h]
  simp only
  rw [Nat.mod_mod_of_dvd _ (by decide : 128 ∣ 256)]
theorem Sm.low_num (n : Nat) : (n : Int) % (256 : Int) = ib (BitVec.ofNat 8 n) := by
  unfold ib
  simp
set_option maxRecDepth 100000 in
set_option maxHeartbeats 2000000 in
theorem Sm.layN_any (base : Nat) (v : Value) (n0 : Nat) (xs : List (BitVec 8)) (m : Nat) (w : World) (hown : w.ownsRow base 5 1 v n0 (xs.map byteCell)) (hbase : base ≤ w.heap.size) (hm : m ≤ top) (hn0 : n0 ≤ 100000000) :
    Calls Tryd.prog 42 #[v, .int .i64 (m : Int)] w fun e w' => ∃ v', e = .returned v' ∧ w'.ownsRow base 5 1 v' (n0 + (numB m).length) ((xs ++ numB m).map byteCell) ∧ But (fun b => v.ownBlock = some b) w w' ∧ Stays w v v' := by
  obtain ⟨i0, hi, hz0, hz1, hz2⟩ := info_parts info5
  go_enter Tryd.func42, Tryd.ntmps42
  go_wp2
  go_loopw [0, 1] (fun vv vm wr => ∃ (ys : List (BitVec 8)) (k : Nat), vm = .int .i64 (k : Int) ∧ k ≤ m ∧ ys ++ numB k = numB m ∧ wr.ownsRow base 5 1 vv (n0 + ys.length) ((xs ++ ys).map byteCell) ∧ ys.length + (numB k).length ≤ 9 ∧ But (fun b => v.ownBlock = some b) w wr ∧ Stays w v vv)
    (fun _ vm _ => (intOf vm).toNat)
  case atStart => exact ⟨[], m, rfl, by omega, rfl, by simpa using hown, by simpa using numB_len9 hm, But.refl _ _, Stays.refl _ _⟩
  case round =>
    obtain ⟨ys, k, rfl, hk, hy, hown, hlen, hb, hs⟩ := hrel
    have hsz := hb.size
    by_cases hlt : 128 ≤ k
    · have hlo := or128 k
      have hbig := numB_big hlt
      have hlb : (numB k).length = (numB (k / 128)).length + 1 := by rw [hbig, List.length_cons]
      clear hbig
      go_wp2_with (at_builtin; refine wpList_append_own_at _ rfl _ _ 27 rfl base 5 i0 _ 1 1 Tryd.underlying27 hi hz0 hz1 hz2 rfl (by decide) _ _ _ rfl (hown.alloc _) ⟨wr.heap.size, 0, none⟩ 1 1 [byteCell (BitVec.ofNat 8 (128 + k % 128))] rfl rfl ?_ (by simp [Value.oneCell', byteCell]) (by unfold maxLen; omega) (by omega) (by simp; omega) ?_; (exact cell_one_new _ _ _); intro v3 w3 hown3 hg3 _ hat3)
      have hb3 : But (fun b => v.ownBlock = some b) w w3 := (hb.alloc _).rows (hs.after (Nat.le_refl _)) (But.grown hg3)
      have hs3 : Stays w v v3 := hs.trans (Stays.of hat3) (by simp; omega)
      have e1 : n0 + (ys ++ [BitVec.ofNat 8 (128 + k % 128)]).length = n0 + ys.length + 1 := by simp; omega
      have hr3 : w3.ownsRow base 5 1 v3 (n0 + (ys ++ [BitVec.ofNat 8 (128 + k % 128)]).length) ((xs ++ (ys ++ [BitVec.ofNat 8 (128 + k % 128)])).map byteCell) := by
        rw [e1, ← List.append_assoc, List.map_append]; exact hown3
      go_roundw
      case rel => exact ⟨ys ++ [BitVec.ofNat 8 (128 + k % 128)], k / 128, by simp, by omega, by rw [← hy, numB_big hlt, List.append_assoc]; rfl, hr3, by simp; omega, hb3, hs3⟩
      case measure => simp [intOf]; omega
    · have hln : byteCell (BitVec.ofNat 8 k) = .int .u8 (k : Int) := by unfold byteCell; rw [← low_num, Int.emod_eq_of_lt (by omega) (by omega)]
      have hsm := numB_small (n := k) (by omega)
      rw [hsm] at hy
      have hl9 : ys.length ≤ 9 := by omega
      clear hsm hlen
      go_wp2_with (at_builtin; refine wpList_append_own_at _ rfl _ _ 27 rfl base 5 i0 _ 1 1 Tryd.underlying27 hi hz0 hz1 hz2 rfl (by decide) _ _ _ rfl (hown.alloc _) ⟨wr.heap.size, 0, none⟩ 1 1 [.int .u8 (k : Int)] rfl rfl ?_ (by simp [Value.oneCell']) (by unfold maxLen; omega) (by omega) (by simp; omega) ?_; (exact cell_one_new _ _ _); intro v3 w3 hown3 hg3 _ hat3)
      have hb3 : But (fun b => v.ownBlock = some b) w w3 := (hb.alloc _).rows (hs.after (Nat.le_refl _)) (But.grown hg3)
      have hs3 : Stays w v v3 := hs.trans (Stays.of hat3) (by simp; omega)
      go_ret
      refine ⟨v3, rfl, ?_, hb3, hs3⟩
      rw [← hy, ← List.append_assoc, List.map_append]
      have e1 : n0 + (ys ++ [BitVec.ofNat 8 k]).length = n0 + ys.length + 1 := by simp; omega
      rw [e1]
      show w3.ownsRow base 5 1 v3 _ (_ ++ [byteCell (BitVec.ofNat 8 k)])
      rw [hln]
      exact hown3
