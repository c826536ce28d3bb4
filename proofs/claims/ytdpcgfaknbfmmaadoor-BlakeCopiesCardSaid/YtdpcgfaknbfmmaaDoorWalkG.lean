/-
  The contract of the state's press.
-/
import Derived.Deep.QuietTactic
import Derived.BigQuiet
import Derived.IntWalk
import Derived.Deep.CutRange
import Derived.StillTailTactics
import Derived.Deep.RegionHeld3
import Derived.Test.YtdpcgfaknbfmmaaDoorSte
import Derived.Test.YtdpcgfaknbfmmaaDoorPop
import Derived.Test.YtdpcgfaknbfmmaaDoorWalkF
namespace Go.Proofs
open Go.RowKit Sm
theorem Sm.i27 (l : List (BitVec 32)) (h : l.length = 8) : (Tryd.prog.info? 0x17).map (·.size) = some (wl l).length := by rw [wl_length, h]; kernel_rfl
theorem Sm.i28 (l : List (BitVec 8)) (h : l.length = 64) : (Tryd.prog.info? 0x18).map (·.size) = some (l.map byteCell).length := by rw [List.length_map, h]; kernel_rfl
set_option maxRecDepth 100000 in
set_option maxHeartbeats 2000000 in
theorem Sm.pressM_any (g : Nat) (t : TypeId) (ws : List (BitVec 32)) (p : Nat) (b0 : List (BitVec 8)) (s0 : Nat) (tail : List Value) (bl : List (BitVec 8)) (sz : Nat) (last : Bool) (w : World)
    (h : St w g t ws p b0 s0 tail) (hb : bl.length = 64) (hs : sz ≤ 64) (hp : p ≤ 1000000000) (hg : 3 ≤ g) (ht : Tabs w) :
    Calls Tryd.prog 63 #[.pointer (some ⟨g, 0, none⟩), .agg (blc bl sz).toArray, .bool last] w fun e w' => (∃ v, e = .returned v) ∧ St w' g t (pressS ws bl (p + sz) last) (p + sz) b0 s0 tail ∧ But (fun b => b = g) w w' := by
  have hlt := h.blk.lt
  have q0 := Blk.new w 0x2f (blc bl sz).toArray
  have hk := h.keep ((Below.refl _ w).alloc (Nat.le_refl _) (.cells (blc bl sz).toArray 0x2f))
  have hbt : But (fun b => b = g) w (w.alloc (.cells (blc bl sz).toArray 0x2f)) := (But.refl _ w).alloc _
  have ht1 := ht.keep ((Below.refl _ w).alloc (Nat.le_refl _) (.cells (blc bl sz).toArray 0x2f))
  have hg2 : g ≠ w.heap.size := by omega
  go_enter Tryd.func63, Tryd.ntmps63
  go_upto_region 1 with fail
  obtain ⟨W1, hW1⟩ : ∃ W1, w.alloc (.cells (blc bl sz).toArray 0x2f) = W1 := ⟨_, rfl⟩
  obtain ⟨Q, hQ⟩ : ∃ Q, w.heap.size = Q := ⟨_, rfl⟩
  rw [hW1, hQ] at q0
  rw [hW1] at hk hbt ht1
  rw [hQ] at hg2
  rw [hW1, hQ]
  have HQ := Lib.hid hQ
  clear hW1 hQ
  have cp := hk.cellP
  have cs := blc_size q0 hb
  have fp := hk.frozen 8
  have n1 : IntKind.u64.wrap (sz : Int) = (sz : Int) := by simp [IntKind.wrap, IntKind.signed, IntKind.bits]; omega
  have n2 : IntKind.u64.wrap ((p : Int) + (sz : Int)) = ((p + sz : Nat) : Int) := by simp [IntKind.wrap, IntKind.signed, IntKind.bits]; omega
  have n3 : (0 : Int) ≤ (sz : Int) := by omega
  have n4 : (0 : Int) ≤ (p : Int) := by omega
  go_still_tail 10, (by kernel_rfl)
  change wpList _ _ _ _ _ W1.drew
  obtain ⟨W2, hW2⟩ : ∃ W2, W1.drew = W2 := ⟨_, rfl⟩
  have hk2 : St W2 g t ws p b0 s0 tail := by rw [← hW2]; exact hk.drew
  have q2 : Blk W2 Q 0x2f (blc bl sz).toArray := by rw [← hW2]; exact q0
  have hb2 : But (fun b => b = g) w W2 := by rw [← hW2]; exact hbt.drew
  have ht2 : Tabs W2 := by rw [← hW2]; exact ⟨ht1.size, fun j v hv => ht1.first j v hv, fun j v hv => ht1.order j v hv, fun j v hv => ht1.mixed j v hv⟩
  rw [hW2]
  clear hW2 hk q0 hbt ht1 cp cs fp n1 n2 n3 n4
  have cp := hk2.cellP
  have fp := hk2.frozen 8
  have cp2 : (p : Int) + (sz : Int) = ((p + sz : Nat) : Int) := rfl
  rw [cp2]
  obtain ⟨ps, hps⟩ : ∃ ps, p + sz = ps := ⟨_, rfl⟩
  rw [hps]
  have HPS := Lib.hid hps
  clear cp2 hps
  go_upto_region 2 with fail
  obtain ⟨W3, hW3⟩ : ∃ W3, W2.setCell ⟨g, 8, none⟩ (.int .u64 (ps : Int)) = W3 := ⟨_, rfl⟩
  have hk3 : St W3 g t ws ps b0 s0 tail := by rw [← hW3]; exact hk2.setP ps
  have q3 : Blk W3 Q 0x2f (blc bl sz).toArray := by rw [← hW3]; exact q2.other (by show Q ≠ g; omega) _
  have hb3 : But (fun b => b = g) w W3 := by rw [← hW3]; exact hb2.set _ _ (.inl rfl)
  have ht3 : Tabs W3 := by
    have : Below g W2 W3 := by rw [← hW3]; exact (Below.refl _ W2).setCell (p := ⟨g, 8, none⟩) (Nat.le_refl _) _
    exact ht2.below this hg
  rw [hW3]
  clear hW3 hk2 q2 hb2 ht2 cp fp
  have cp := hk3.cellP
  have hS0 : W3.drew.rangeAt g 0 (wl ws) ∧ W3.drew.rangeAt Q 0 (bl.map byteCell) ∧ W3.drew.cell? ⟨g, 8, none⟩ = some (.int .u64 (ps : Int)) := ⟨fun j v hv => hk3.rangeW j v hv, fun j v hv => blc_range q3 j v hv, cp⟩
  clear cp
  obtain ⟨ws', hws⟩ : ∃ ws', pressS ws bl ps last = ws' := ⟨_, rfl⟩
  have hwl : ws'.length = 8 := by rw [← hws, pressS_length, hk3.wlen]
  have hcl : Calls Tryd.prog 15 #[.agg (wl ws).toArray, .agg (bl.map byteCell).toArray, .int .u64 (ps : Int), .bool last] W3.drew fun e w' => e = .returned (.agg (wl ws').toArray) ∧ Below W3.drew.heap.size W3.drew w' := by
    rw [← hws]
    exact press_any ws bl ps last hk3.wlen hb (by have := HPS.out; omega) W3.drew ⟨ht3.size, fun j v hv => ht3.first j v hv, fun j v hv => ht3.order j v hv, fun j v hv => ht3.mixed j v hv⟩
  have HWS := Lib.hid hws
  clear hws
  refine wp_region_popL 15 rfl rfl (by kernel_rfl) (by kernel_rfl) (S := fun wx => wx.rangeAt g 0 (wl ws) ∧ wx.rangeAt Q 0 (bl.map byteCell) ∧ wx.cell? ⟨g, 8, none⟩ = some (.int .u64 (ps : Int))) hS0 (fun hHeld => ?_)
  simp only [List.take_succ_cons, List.take_zero]
  refine wpAnyH_take (i := 0) (v := (.pointer (some ⟨g, 0, none⟩))) rfl (by kernel_rfl) (by kernel_rfl) (by kernel_rfl) (fun _ _ _ h => h) (Or.inl ⟨by rfl, ?_⟩) (by assumption) ?_
  · intro wx hSw
    obtain ⟨hs1, hs2, hs3⟩ := hSw
    go_simp
  try simp only [Act.put]
  refine wpAnyH_take (i := 1) (v := (.pointer (some ⟨g, 0, none⟩))) rfl (by kernel_rfl) (by kernel_rfl) (by kernel_rfl) (fun _ _ _ h => h) (Or.inl ⟨by rfl, ?_⟩) (by assumption) ?_
  · intro wx hSw
    obtain ⟨hs1, hs2, hs3⟩ := hSw
    go_simp
  try simp only [Act.put]
  refine wpAnyH_take (i := 2) (v := (.pointer (some ⟨g, 0, none⟩))) rfl (by kernel_rfl) (by kernel_rfl) (by kernel_rfl) (fun _ _ _ h => h) (Or.inl ⟨by rfl, ?_⟩) (by assumption) ?_
  · intro wx hSw
    obtain ⟨hs1, hs2, hs3⟩ := hSw
    go_simp
  try simp only [Act.put]
  refine wpAnyH_take (i := 3) (v := (.pointer (some ⟨g, 0, none⟩))) rfl (by kernel_rfl) (by kernel_rfl) (by kernel_rfl) (fun _ _ _ h => h) (Or.inl ⟨by rfl, ?_⟩) (by assumption) ?_
  · intro wx hSw
    obtain ⟨hs1, hs2, hs3⟩ := hSw
    go_simp
  try simp only [Act.put]
  refine wpAnyH_take (i := 4) (v := .agg (wl ws).toArray) rfl (by kernel_rfl) (by kernel_rfl) (by kernel_rfl) (fun _ _ _ h => h) (yieldsIf_load_mid (by rfl) 0x17 _ rfl g 0 rfl (wl ws) _ (fun wx hSw => hSw.1) Tryd.underlying23 rfl (i27 ws hk3.wlen)) (by assumption) ?_
  try simp only [Act.put]
  refine wpAnyH_take (i := 5) (v := (.pointer (some ⟨Q, 0, none⟩))) rfl (by kernel_rfl) (by kernel_rfl) (by kernel_rfl) (fun _ _ _ h => h) (Or.inl ⟨by rfl, ?_⟩) (by assumption) ?_
  · intro wx hSw
    obtain ⟨hs1, hs2, hs3⟩ := hSw
    go_simp
  try simp only [Act.put]
  refine wpAnyH_take (i := 6) (v := .agg (bl.map byteCell).toArray) rfl (by kernel_rfl) (by kernel_rfl) (by kernel_rfl) (fun _ _ _ h => h) (yieldsIf_load_mid (by rfl) 0x18 _ rfl Q 0 rfl (bl.map byteCell) _ (fun wx hSw => hSw.2.1) Tryd.underlying24 rfl (i28 bl hb)) (by assumption) ?_
  try simp only [Act.put]
  refine wpAnyH_take (i := 7) (v := (.pointer (some ⟨g, 0, none⟩))) rfl (by kernel_rfl) (by kernel_rfl) (by kernel_rfl) (fun _ _ _ h => h) (Or.inl ⟨by rfl, ?_⟩) (by assumption) ?_
  · intro wx hSw
    obtain ⟨hs1, hs2, hs3⟩ := hSw
    go_simp
  try simp only [Act.put]
  refine wpAnyH_take (i := 8) (v := (.pointer (some ⟨g, 0, none⟩))) rfl (by kernel_rfl) (by kernel_rfl) (by kernel_rfl) (fun _ _ _ h => h) (Or.inl ⟨by rfl, ?_⟩) (by assumption) ?_
  · intro wx hSw
    obtain ⟨hs1, hs2, hs3⟩ := hSw
    go_simp
  try simp only [Act.put]
  refine wpAnyH_take (i := 9) (v := (.pointer (some ⟨g, 8, none⟩))) rfl (by kernel_rfl) (by kernel_rfl) (by kernel_rfl) (fun _ _ _ h => h) (Or.inl ⟨by rfl, ?_⟩) (by assumption) ?_
  · intro wx hSw
    obtain ⟨hs1, hs2, hs3⟩ := hSw
    go_simp
  try simp only [Act.put]
  refine wpAnyH_take (i := 10) (v := (.int .u64 (ps : Int))) rfl (by kernel_rfl) (by kernel_rfl) (by kernel_rfl) (fun _ _ _ h => h) (Or.inl ⟨by rfl, ?_⟩) (by assumption) ?_
  · intro wx hSw
    obtain ⟨hs1, hs2, hs3⟩ := hSw
    go_simp
  try simp only [Act.put]
  refine wpAnyH_take (i := 11) (v := (.bool last)) rfl (by kernel_rfl) (by kernel_rfl) (by kernel_rfl) (fun _ _ _ h => h) (Or.inl ⟨by rfl, ?_⟩) (by assumption) ?_
  · intro wx hSw
    obtain ⟨hs1, hs2, hs3⟩ := hSw
    go_simp
  try simp only [Act.put]
  refine wpAnyH_ready (rs := [12]) (by kernel_rfl) (by simp) (AllReadyH.cons rfl (fun K hK => ?_) AllReadyH.nil)
  go_simp
  go_at_call 15
  (with_reducible refine hcl.mono ?_)
  rintro e w4 ⟨rfl, hb4⟩
  have hb4' : Below W3.heap.size W3 w4 := ⟨hb4.os, hb4.tape, hb4.output, hb4.size, hb4.block⟩
  have hk4 := hk3.keep hb4'
  have q4 := q3.keep hb4'
  have hS4 : w4.rangeAt g 0 (wl ws) ∧ w4.rangeAt Q 0 (bl.map byteCell) ∧ w4.cell? ⟨g, 8, none⟩ = some (.int .u64 (ps : Int)) := ⟨hk4.rangeW, blc_range q4, hk4.cellP⟩
  refine hK.out _ _ hS4 (fun hHeld => ?_)
  clear hK K
  try simp only [Act.put]
  refine wpAnyH_ready (rs := [13]) (by kernel_rfl) (by simp) (AllReadyH.cons rfl (fun K hK => ?_) AllReadyH.nil)
  go_simp
  refine hK.out _ _ hS4 (fun hHeld => ?_)
  clear hK K
  try simp only [Act.put]
  refine wpAnyH_ready (rs := [14]) (by kernel_rfl) (by simp) (AllReadyH.cons rfl (fun K hK => ?_) AllReadyH.nil)
  go_simp
  refine hK.out _ _ hS4 (fun hHeld => ?_)
  clear hK K
  try simp only [Act.put]
  refine wpAnyH_done (by kernel_rfl) ?_ _
  unfold tailQ wpOp
  simp only [List.getElem?_toArray, List.getElem?_cons_succ, List.getElem?_cons_zero]
  rw [if_pos (by rfl)]
  have hbut4 : But (fun b => b = g) w w4 := hb3.trans (But.of_all hb4' (fun b => b = g)) (fun _ _ e => e)
  have hfin : St (w4.setCells g 0 (wl ws')) g t (pressS ws bl (p + sz) last) (p + sz) b0 s0 tail := by
    rw [HPS.out, HWS.out]
    exact hk4.setW ws' hwl
  have hfb : But (fun b => b = g) w (w4.setCells g 0 (wl ws')) := hbut4.trans (but_setCells g (wl ws') 0 w4) (fun _ _ e => e)
  refine Or.inl (wp_store_mid 0x17 _ _ rfl g 0 (wl ws').toArray rfl rfl (hk4.thereN 0 _ (by rw [List.size_toArray, wl_length, hwl]; decide)) (by rw [List.size_toArray]; exact i27 ws' hwl) (all_oneCell_toArray (wl_one ws')) ?_)
  simp only [Act.put]
  go_end0
  exact ⟨⟨_, rfl⟩, hfin, hfb⟩
end Go.Proofs
