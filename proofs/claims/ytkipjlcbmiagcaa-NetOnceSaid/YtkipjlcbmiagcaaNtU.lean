/-
  without: a row of messages but for one. Conditions: as each theorem names them.
-/
import Derived.Deep.RegionLaw
import Derived.Lib.SliceRun
import Derived.Test.YtkipjlcbmiagcaaNtT
namespace Go.Proofs
open Go Go.RowKit Sm Go.Lib Go.Maps Go.WideMaps
attribute [local go_sem] Oper.semAt_some
/-- an array behind stores in a row -/
def Sm.setL : Array Value → Nat → List Value → Array Value
  | c, _, [] => c
  | c, o, v :: r => setL (c.setIfInBounds o v) (o + 1) r
theorem Sm.heap_setL {g : Nat} {t : TypeId} {fr : Nat × Nat} : ∀ (vs : List Value) (o : Nat) (w : World) (cur : Array Value), w.heap[g]? = some (.cells cur t fr) → (w.setCells g o vs).heap[g]? = some (.cells (setL cur o vs) t fr)
  | [], _, _, _, h => h
  | v :: r, o, w, cur, h => by
    rw [World.setCells, setL]
    exact heap_setL r (o + 1) _ _ (heap_setCells h)
theorem Sm.setL_size : ∀ (vs : List Value) (o : Nat) (cur : Array Value), (setL cur o vs).size = cur.size
  | [], _, _ => rfl
  | v :: r, o, cur => by rw [setL, setL_size r]; simp
theorem Sm.setL_list : ∀ (vs : List Value) (o : Nat) (cur : Array Value), o + vs.length ≤ cur.size → (setL cur o vs).toList = cur.toList.take o ++ vs ++ cur.toList.drop (o + vs.length)
  | [], o, cur, _ => by simp [setL]
  | v :: r, o, cur, h => by
    simp only [List.length_cons] at h
    rw [setL, setL_list r (o + 1) _ (by simp; omega)]
    have ho : o < cur.toList.length := by simp; omega
    rw [Array.toList_setIfInBounds, List.take_set, List.drop_set_of_lt (by omega)]
    have e1 : (cur.toList.take (o + 1)).set o v = cur.toList.take o ++ [v] := by
      rw [List.take_succ_eq_append_getElem ho, List.set_append_right _ _ (by simp; omega)]
      have : min o cur.size = o := Nat.min_eq_left (by simpa using Nat.le_of_lt ho)
      simp [this]
    rw [e1]
    simp [List.append_assoc, Nat.add_assoc, Nat.add_comm 1]
theorem Sm.butCells (g : Nat) : ∀ (vs : List Value) (o : Nat) (w w1 : World), But (fun b => b = g) w w1 → But (fun b => b = g) w (w1.setCells g o vs)
  | [], _, _, _, h => h
  | v :: r, o, w, w1, h => by
    rw [World.setCells]
    exact butCells g r (o + 1) w _ (h.set ⟨g, o, none⟩ v (.inl rfl))
theorem Sm.take_cells (L : List MsgM) : ∀ i, (cellsM L).take (i * 4) = cellsM (L.take i) := by
  induction L with
  | nil => intro i; simp [cellsM]
  | cons m r ih =>
    intro i
    cases i with
    | zero => simp [cellsM]
    | succ i =>
      have e : cellsM (m :: r) = .int .i64 m.num :: .int .i64 m.src :: .int .i64 m.dst :: m.sl :: cellsM r := rfl
      rw [e, show (i + 1) * 4 = i * 4 + 1 + 1 + 1 + 1 by omega]
      simp only [List.take_succ_cons, ih i]
      rfl
theorem Sm.drop_cells (L : List MsgM) : ∀ i, (cellsM L).drop (i * 4) = cellsM (L.drop i) := by
  induction L with
  | nil => intro i; simp [cellsM]
  | cons m r ih =>
    intro i
    cases i with
    | zero => simp [cellsM]
    | succ i =>
      have e : cellsM (m :: r) = .int .i64 m.num :: .int .i64 m.src :: .int .i64 m.dst :: m.sl :: cellsM r := rfl
      rw [e, show (i + 1) * 4 = i * 4 + 1 + 1 + 1 + 1 by omega]
      simp only [List.drop_succ_cons, ih i]
theorem Sm.cells_erase (L : List MsgM) (i : Nat) : (cellsM L).take (i * 4) ++ (cellsM L).drop ((i + 1) * 4) = cellsM (L.eraseIdx i) := by
  rw [take_cells, drop_cells, List.eraseIdx_eq_take_drop_succ]
  unfold cellsM
  rw [List.flatMap_append]
theorem Sm.run_clear_msg (w : World) (ty : TypeId) (g o c : Nat) (hc : ∀ j, j < 4 → (w.cell? ⟨g, o + j, none⟩).isSome = true) (hf : ∀ j, j < 4 → w.frozen? ⟨g, o + j, none⟩ = false) :
    (Builtin.clear_ #[33] ty #[.slice (some ⟨g, o, none⟩) 1 c]).run Try.prog w = .ok (.tuple #[]) (w.setCells g o [.int .i64 0, .int .i64 0, .int .i64 0, .slice none 0 0]) := by
  have hz : ∀ w, (zeroValue 83).run Try.prog w = .ok (.agg #[.int .i64 0, .int .i64 0, .int .i64 0, .slice none 0 0]) w := fun w => by kernel_rfl
  have hst := run_storeCells_cells (P := Try.prog) g o [.int .i64 0, .int .i64 0, .int .i64 0, .slice none 0 0] 0 w (by simpa using hc) (by simpa using hf) (by
    intro v hv
    simp only [List.mem_cons, List.mem_nil_iff, or_false] at hv
    rcases hv with rfl | rfl | rfl | rfl <;> rfl)
  simp only [Nat.add_zero] at hst
  have hzc : (Builtin.zeroCells (Value.agg #[.int .i64 0, .int .i64 0, .int .i64 0, .slice none 0 0]).cells 1).toList = [.int .i64 0, .int .i64 0, .int .i64 0, .slice none 0 0] := by kernel_rfl
  have ht : Try.prog.underlying 33 = some (.slice 83) := Try.underlying33
  simp [Builtin.clear_, run_underlying ht, hz, hzc, hst]
set_option maxRecDepth 100000 in
set_option maxHeartbeats 4000000 in
theorem Sm.without_any (g i m cap base : Nat) (xs : List Value) (w : World) (h : w.ownsRow base 83 4 (.slice (some ⟨g, 0, none⟩) (i + 1 + m) cap) (i + 1 + m) xs) (hn : i + 1 + m ≤ 4096) (h1 : ∀ u ∈ xs, u.oneCell' = true) :
    Calls Try.prog 40 #[.slice (some ⟨g, 0, none⟩) (i + 1 + m) cap, .int .i64 (i : Int)] w fun e w' => e = .returned (.slice (some ⟨g, 0, none⟩) (i + m) cap) ∧ w'.ownsRow base 83 4 (.slice (some ⟨g, 0, none⟩) (i + m) cap) (i + m) (xs.take (i * 4) ++ xs.drop ((i + 1) * 4)) ∧ But (fun b => b = g) w w' := by
  obtain ⟨hxl, h2 | ⟨g', cap', cur, hv, hbg, hg, hnc, hcm, hcs, htk⟩⟩ := h
  · simp at h2
  simp only [Value.slice.injEq, Option.some.injEq, Addr.mk.injEq, and_true, true_and] at hv
  obtain ⟨rfl, rfl⟩ := hv
  have hcl : cur.toList.length = cap * 4 := by rw [Array.length_toList, hcs]
  obtain ⟨news, hnews⟩ : ∃ news, xs.drop ((i + 1) * 4) = news := ⟨_, rfl⟩
  have hnl : news.length = m * 4 := by rw [← hnews, List.length_drop, hxl]; omega
  have hcell : ∀ W : World, W.heap[g]? = some (.cells cur 83 (0, 0)) → ∀ j, j < cap * 4 → (W.cell? ⟨g, j, none⟩).isSome = true ∧ W.frozen? ⟨g, j, none⟩ = false := fun W hW j hj => by
    refine ⟨?_, frozen_of_heap hW j⟩
    rw [cell_of_heap hW j, Array.getElem?_eq_getElem (by omega)]
    rfl
  have hgd : w.drew.heap[g]? = some (.cells cur 83 (0, 0)) := hg
  have hga : ∀ j u, news[j]? = some u → w.drew.cell? ⟨g, (i + 1) * 4 + j, none⟩ = some u := fun j u hu => by
    rw [cell_of_heap hgd]
    have hj := (List.getElem?_eq_some_iff.1 hu).1
    rw [← hnews, List.getElem?_drop, ← htk, List.getElem?_take_of_lt (by omega)] at hu
    rw [← Array.getElem?_toList]
    exact hu
  obtain ⟨A, hA, hAn⟩ : ∃ A, (if cap = i + 1 then some (⟨g, 0, none⟩ : Addr) else some ⟨g, (i + 1) * 4, none⟩) = some A ∧ Hid (∀ j u, news[j]? = some u → w.drew.cell? (A.add j) = some u) := by
    by_cases e : cap = i + 1
    · refine ⟨⟨g, 0, none⟩, by rw [if_pos e], Lib.hid fun j u hu => ?_⟩
      have := (List.getElem?_eq_some_iff.1 hu).1
      omega
    · exact ⟨⟨g, (i + 1) * 4, none⟩, by rw [if_neg e], Lib.hid fun j u hu => by rw [Addr.add_lit]; exact hga j u hu⟩
  have s1 : Hid (news.length = m * 4) := Lib.hid hnl
  have s2 : Hid (∀ u ∈ news, u.oneCell' = true) := Lib.hid fun u hu => h1 u (List.mem_of_mem_drop (by rw [hnews]; exact hu))
  have s3 : Hid (∀ t, t < news.length → (w.drew.cell? ⟨g, 0 + i * 4 + t, none⟩).isSome = true ∧ w.drew.frozen? ⟨g, 0 + i * 4 + t, none⟩ = false) := Lib.hid fun t ht => hcell _ hgd _ (by omega)
  obtain ⟨i0, hi0, hz1⟩ : ∃ i0, Try.prog.info? 83 = some i0 ∧ i0.size = 4 := by
    obtain ⟨i0, a1, _, a3, _⟩ := info83
    exact ⟨i0, a1, a3⟩
  obtain ⟨W1, hW1⟩ : ∃ W1, W1 = w.drew.setCells g (0 + i * 4) news := ⟨_, rfl⟩
  have hg1 : W1.heap[g]? = some (.cells (setL cur (i * 4) news) 83 (0, 0)) := by rw [hW1, Nat.zero_add]; exact heap_setL news (i * 4) _ cur hgd
  have hb1 : But (fun b => b = g) w W1 := by rw [hW1]; exact butCells g news _ w _ (But.refl _ w).drew
  have hs1 : (setL cur (i * 4) news).size = cap * 4 := by rw [setL_size, hcs]
  have hcl1 : ∀ ty, (Builtin.clear_ #[33] ty #[.slice (some ⟨g, (i + m) * 4, none⟩) 1 (cap - (i + m))]).run Try.prog W1 = .ok (.tuple #[]) (W1.setCells g ((i + m) * 4) [.int .i64 0, .int .i64 0, .int .i64 0, .slice none 0 0]) := fun ty =>
    run_clear_msg W1 ty g ((i + m) * 4) (cap - (i + m)) (fun j hj => by rw [cell_of_heap hg1, Array.getElem?_eq_getElem (by omega)]; rfl) (fun j hj => frozen_of_heap hg1 _)
  have hfin : Hid ((W1.setCells g ((i + m) * 4) [.int .i64 0, .int .i64 0, .int .i64 0, .slice none 0 0]).ownsRow base 83 4 (.slice (some ⟨g, 0, none⟩) (i + m) cap) (i + m) (xs.take (i * 4) ++ xs.drop ((i + 1) * 4)) ∧ But (fun b => b = g) w (W1.setCells g ((i + m) * 4) [.int .i64 0, .int .i64 0, .int .i64 0, .slice none 0 0])) := Lib.hid (by
    refine ⟨⟨by rw [hnews, List.length_append, hnl, List.length_take, hxl]; omega, .inr ⟨g, cap, _, rfl, hbg, heap_setL _ _ _ _ hg1, by omega, hcm, by rw [setL_size, hs1], ?_⟩⟩, butCells g _ _ w _ hb1⟩
    rw [setL_list _ _ _ (by rw [hs1]; simp; omega), setL_list _ _ _ (by rw [hnl, hcs]; omega), hnews]
    rw [List.append_assoc, List.take_append_of_le_length (by simp only [List.length_take, List.length_append, List.length_drop, hcl, hnl]; omega)]
    rw [List.take_take, Nat.min_self, List.append_assoc]
    have e1 : (cur.toList.take (i * 4)) = xs.take (i * 4) := by rw [← htk, List.take_take, Nat.min_eq_left (by omega)]
    rw [e1, ← List.append_assoc, List.take_append_of_le_length (by simp only [List.length_take, List.length_append, hxl, hnl]; omega)]
    exact List.take_of_length_le (by simp only [List.length_take, List.length_append, hxl, hnl]; omega))
  have hW : Hid (W1 = w.drew.setCells g (0 + i * 4) news) := Lib.hid hW1
  have hwr : IntKind.i64.wrap ((i : Int) + 1) = (i : Int) + 1 := by rw [IntKind.wrap_i64]; omega
  have hp0 : (0 : Int) ≤ (i : Int) + 1 := by omega
  have hp1 : (i : Int) + 1 ≤ (i : Int) + 1 + (m : Int) := by omega
  have hp2 : ((i : Int) + 1).toNat = i + 1 := by omega
  have hic : i ≤ cap := by omega
  have hcne : ¬ cap = i + m := by omega
  have hq0 : (0 : Int) ≤ (i : Int) + (m : Int) := by omega
  have hq1 : (i : Int) + (m : Int) ≤ (i : Int) + 1 + (m : Int) := by omega
  have hq2 : ((i : Int) + (m : Int)).toNat = i + m := by omega
  have hq3 : i + 1 + m - (i + m) = 1 := by omega
  have hcm2 : i + m ≤ cap := by omega
  have hcapI : (cap : Int) ≤ 9223372036854775807 := by unfold maxLen at hcm; omega
  clear hW1 hg hgd hga hcell hnews hnl hxl htk hcl hg1 hb1 hs1 hcs hbg hcm h1
  go_enter Try.func40, Try.ntmps40
  go_wp2_with fail
  go_region_law (refine step_append_room rfl (.tmp 8) (.tmp 12) 33 rfl 83 i0 4 Try.underlying33 hi0 hz1 g 0 i cap (by simp [Act.eval, Act.put]) A m (cap - (i + 1)) news (by simp [Act.eval, Act.put]) s1.out hAn.out s2.out (by omega) s3.out ?_; rw [← hW.out])
  all_goals
    go_wp2
    go_ret
    exact ⟨rfl, hfin.out⟩
end Go.Proofs
