/-
  slots: a round, and the document's. Conditions: as each theorem names them.
-/
import Derived.Test.YtdiidiaipfkmlaaSlU
namespace Go.Proofs
open Go Go.RowKit Sm Go.Lib
attribute [local go_sem] Oper.semAt_some
/-- numbers in a row, from one on -/
def Sm.rowB (b : Int) (m : Nat) : List Value := (List.range m).map fun (j : Nat) => .int .i64 (b + (j : Int))
theorem Sm.rowB_succ (b : Int) (m : Nat) : rowB b (m + 1) = rowB b m ++ [.int .i64 (b + (m : Int))] := by
  unfold rowB
  rw [List.range_succ, List.map_append]
  rfl
theorem Sm.rowB_len (b : Int) (m : Nat) : (rowB b m).length = m := by unfold rowB; simp
theorem Sm.rowB_get (b : Int) {m j : Nat} (h : j < m) : (rowB b m)[j]? = some (.int .i64 (b + (j : Int))) := by
  unfold rowB
  rw [List.getElem?_map, List.getElem?_range h]
  rfl
theorem Sm.rowB_take (b : Int) {m n : Nat} (h : m ≤ n) : (rowB b n).take m = rowB b m := by
  refine List.ext_getElem? fun i => ?_
  rw [List.getElem?_take]
  by_cases hi : i < m
  · rw [if_pos hi, rowB_get b (show i < n by omega), rowB_get b hi]
  · rw [if_neg hi, List.getElem?_eq_none (by rw [rowB_len]; omega)]
/-- a row that is cut where it ends -/
def Sm.RowG (W : World) (L : Nat) (v : Value) (n : Nat) (xs : List Value) : Prop :=
  xs.length = n ∧ ∃ g cur, v = .slice (some ⟨g, 0, none⟩) n n ∧ L ≤ g ∧ W.heap[g]? = some (.cells cur 3 (0, 0)) ∧ cur.toList.take n = xs
theorem Sm.refInfo3p : ∃ i, Try.prog.info? 3 = some i ∧ i.zero = some (.int .i64 0) ∧ i.size = 1 ∧ i.bytes = 8 := by
  have := refInfo3
  obtain ⟨i, h1, h2⟩ := Option.map_eq_some_iff.1 this
  simp only [Prod.mk.injEq] at h2
  exact ⟨i, h1, h2⟩
set_option maxRecDepth 100000 in
set_option maxHeartbeats 4000000 in
theorem Sm.round_any (c b : Nat) (w : World) (hc : 1 ≤ c) (hc9 : c ≤ 9) (hb : b ≤ 4095) : Calls Try.prog 46 #[.int .i64 (c : Int), .int .i64 (b : Int)] w fun e w' => ∃ v, e = .returned v ∧ RowG w' w.heap.size v (min c (4096 - b)) (rowB b (min c (4096 - b))) ∧ Below w.heap.size w w' := by
  obtain ⟨i0, hi, hz0, hz1, hz2⟩ := refInfo3p
  have hbn := fun W => bnd39 0 (4096 - (b : Int)) (c : Int) W
  have hbe : bndI 0 (4096 - (b : Int)) (c : Int) = ((min c (4096 - b) : Nat) : Int) := by unfold bndI; omega
  rw [hbe] at hbn
  obtain ⟨m, hm⟩ : ∃ m, min c (4096 - b) = m := ⟨_, rfl⟩
  rw [hm] at hbn ⊢
  have hm0 : 1 ≤ m := by omega
  have hmc : m ≤ c := by omega
  clear hbe hm
  go_enter Try.func46, Try.ntmps46
  go_wp2_with (at_make; refine wpList_make_own _ rfl _ _ 38 rfl w.heap.size 3 i0 (.int .i64 0) 1 Try.underlying38 hi hz0 hz1 .i64 .i64 _ c rfl rfl rfl (by rw [hz2]; omega) (by unfold maxLen; omega) (Nat.le_refl _) ?_; intro w2 hown2 hg2)
  have HB2 : Hid (Below w.heap.size w w2) := Lib.hid ((Below.refl _ w).grown hg2 (Nat.le_refl _) (fun g e => by cases e))
  have HO2 : Hid (w2.ownsRow w.heap.size 3 1 (.slice (some ⟨w.heap.size, 0, none⟩) 0 c) 0 (rowB (b : Int) 0)) := Lib.hid hown2
  clear hown2 hg2
  go_wp2
  go_loopw [5, 11] (fun v5 v11 wr => ∃ (k : Nat) (vd : Value), k ≤ c ∧ v5 = vd ∧ v11 = .int .i64 (k : Int) ∧ Hid (wr.ownsRow w.heap.size 3 1 vd k (rowB (b : Int) k)) ∧ Hid (Below w.heap.size w wr)) (fun _ v11 _ => c - (RowKit.intOf v11).toNat)
  case atStart => exact ⟨0, _, Nat.zero_le _, rfl, rfl, HO2, HB2⟩
  case round =>
    obtain ⟨wo, rfl⟩ : ∃ wo : World, wo = wr := ⟨_, rfl⟩
    obtain ⟨k, vd, hk, e5, rfl, HO, HB⟩ := hrel
    obtain ⟨Ao, co, rfl⟩ := own_slice HO.out
    subst e5
    clear HO2 HB2
    have hbs := HB.out.size
    have hown := HO.out
    by_cases hlt : k < c
    · go_wp2_with (at_builtin; refine wpList_append_own_at _ rfl (.tmp 14) (.tmp 18) 38 rfl w.heap.size 3 i0 _ 1 8 Try.underlying38 hi hz0 hz1 hz2 rfl (by decide) _ k _ rfl (hown.alloc _) ⟨wo.heap.size, 0, none⟩ 1 1 [.int .i64 ((b : Int) + (k : Int))] rfl rfl (cell_row_new _ _ _) (by simp [Value.oneCell']) (by unfold maxLen; omega) (by omega) (by simp; omega) ?_; intro v3 w3 hown3 hg3 _ _)
      have HO3 : Hid (w3.ownsRow w.heap.size 3 1 v3 (k + 1) (rowB (b : Int) (k + 1))) := Lib.hid (by
        rw [rowB_succ]
        exact hown3)
      have HB3 : Hid (Below w.heap.size w w3) := Lib.hid (HB.out.trans ((((Below.refl _ wo).alloc (Nat.le_refl _) _).mono hbs).trans ((But.grown hg3).to_below (by simp; omega) (fun b e => (hown.lt b e).1))))
      clear hown hown3 hg3 HO
      go_roundw
      case rel => exact ⟨k + 1, _, by omega, rfl, by go_num, HO3, HB3⟩
      case measure => simp [RowKit.intOf]; omega
    · obtain rfl : k = c := by omega
      obtain ⟨g, cap, cur, e1, h1, h2, h3, h4, h5, h6⟩ : ∃ g cap cur, (Value.slice Ao k co) = .slice (some ⟨g, 0, none⟩) k cap ∧ w.heap.size ≤ g ∧ wo.heap[g]? = some (.cells cur 3 (0, 0)) ∧ k ≤ cap ∧ cap ≤ maxLen ∧ cur.size = cap * 1 ∧ cur.toList.take (k * 1) = rowB (b : Int) k := by
        rcases hown.2 with ⟨_, e⟩ | h
        · omega
        · exact h
      injection e1 with e1 _ e3
      subst e1 e3
      have HG : Hid (RowG wo w.heap.size (.slice (some ⟨g, 0, none⟩) m m) m (rowB (b : Int) m)) := Lib.hid ⟨rowB_len _ _, g, cur, rfl, h1, h2, by
        rw [← rowB_take (b : Int) hmc, ← h6, List.take_take]
        congr 1
        omega⟩
      have hmi : (m : Int) ≤ (co : Int) := by omega
      have hci : (co : Int) ≤ 9223372036854775807 := by unfold maxLen at h4; omega
      clear hown HO h6 h5 h4 h2
      go_wp2_with (go_at_call 39; refine (hbn _).mono ?_; rintro e w' ⟨rfl, rfl⟩)
      go_ret
      exact ⟨_, rfl, HG.out, HB.out⟩
set_option maxRecDepth 100000 in
set_option maxHeartbeats 4000000 in
theorem Sm.rRound_any (c k b : Nat) (w : World) (_hc : 1 ≤ c) (hc9 : c ≤ 9) (hb : b ≤ 4095) (hkb : k * c = b) (hk : k ≤ 4096) : Calls Try.prog 28 #[.int .i64 (c : Int), .int .i64 (k : Int)] w fun e w' => ∃ v, e = .returned v ∧ w'.ownsRow w.heap.size 3 1 v (min c (4096 - b)) (rowB (b : Int) (min c (4096 - b))) ∧ Below w.heap.size w w' := by
  obtain ⟨i0, hi, hz0, hz1, hz2⟩ := refInfo3p
  have e1 : (k : Int) * (c : Int) = (b : Int) := by rw [← hkb, Int.natCast_mul]
  have e2 : ((k : Int) + 1) * (c : Int) = ((b + c : Nat) : Int) := by rw [Int.add_mul, e1, Int.one_mul, Int.natCast_add]
  obtain ⟨en, hen⟩ : ∃ en, b + c = en := ⟨_, rfl⟩
  rw [hen] at e2
  obtain ⟨m, hm⟩ : ∃ m, min c (4096 - b) = m := ⟨_, rfl⟩
  rw [hm]
  have hmb : Hid (∀ j, j < m ↔ b + j < en ∧ b + j < 4096) := Lib.hid fun j => by omega
  have hml : m ≤ 9 := by omega
  have hen9 : en ≤ 4104 := by omega
  clear hm hen hkb
  go_enter Try.func28, Try.ntmps28
  go_wp2
  go_loopw [5, 6] (fun v5 v6 wr => ∃ (j : Nat) (vd : Value), j ≤ m ∧ v5 = vd ∧ v6 = .int .i64 ((b + j : Nat) : Int) ∧ Hid (wr.ownsRow w.heap.size 3 1 vd j (rowB (b : Int) j)) ∧ Hid (Below w.heap.size w wr)) (fun _ v6 _ => b + m - (RowKit.intOf v6).toNat)
  case atStart => exact ⟨0, _, Nat.zero_le _, rfl, rfl, Lib.hid (World.ownsRow_nil _ _ _ _), Lib.hid (Below.refl _ _)⟩
  case round =>
    obtain ⟨wo, rfl⟩ : ∃ wo : World, wo = wr := ⟨_, rfl⟩
    obtain ⟨j, vd, hj, e5, rfl, HO, HB⟩ := hrel
    obtain ⟨Ao, co, rfl⟩ := own_slice HO.out
    subst e5
    have hbs := HB.out.size
    have hown := HO.out
    obtain ⟨s, hs⟩ : ∃ s, b + j = s := ⟨_, rfl⟩
    have hit := hmb.out j
    rw [hs] at hit ⊢
    have HS := Lib.hid hs
    clear hs
    by_cases hlt : j < m
    · obtain ⟨h1, h2⟩ := hit.1 hlt
      clear hit
      go_wp2_with (at_builtin; refine wpList_append_own_at _ rfl (.tmp 22) (.tmp 24) 38 rfl w.heap.size 3 i0 _ 1 8 Try.underlying38 hi hz0 hz1 hz2 rfl (by decide) _ j _ rfl (hown.alloc _) ⟨wo.heap.size, 0, none⟩ 1 1 [.int .i64 (s : Int)] rfl rfl (cell_row_new _ _ _) (by simp [Value.oneCell']) (by unfold maxLen; omega) (by omega) (by simp; omega) ?_; intro v3 w3 hown3 hg3 _ _)
      have HO3 : Hid (w3.ownsRow w.heap.size 3 1 v3 (j + 1) (rowB (b : Int) (j + 1))) := Lib.hid (by
        rw [rowB_succ, show (b : Int) + (j : Int) = (s : Int) by have := HS.out; omega]
        exact hown3)
      have HB3 : Hid (Below w.heap.size w w3) := Lib.hid (HB.out.trans ((((Below.refl _ wo).alloc (Nat.le_refl _) _).mono hbs).trans ((But.grown hg3).to_below (by simp; omega) (fun b e => (hown.lt b e).1))))
      have hsn : ((b + (j + 1) : Nat) : Int) = (s : Int) + 1 := by have := HS.out; omega
      have HSN := Lib.hid hsn
      clear hown hown3 hg3 HO hsn
      go_roundw
      case rel => exact ⟨j + 1, _, by omega, rfl, by rw [HSN.out], HO3, HB3⟩
      case measure => simp [RowKit.intOf]; have := HS.out; omega
    · obtain rfl : j = m := by omega
      have HO2 := HO
      by_cases h1 : s < en
      · have h2 : ¬ s < 4096 := fun e => hlt (hit.2 ⟨h1, e⟩)
        clear hit hown
        go_wp2
        go_ret
        exact ⟨_, rfl, HO2.out, HB.out⟩
      · clear hit hown
        go_wp2
        go_ret
        exact ⟨_, rfl, HO2.out, HB.out⟩
end Go.Proofs
