/-
  The contract of the state's press.
  The contract of the state's take.
  The contract of start: the state of a size and a key.
  The contracts of start without a key, and of end.
  The contracts of Sum, and of New and Keyed where they refuse.
-/
import Derived.Deep.QuietTactic
import Derived.BigQuiet
import Derived.IntWalk
import Derived.Deep.CutRange
import Derived.StillTailTactics
import Derived.Deep.RegionHeld3
import Derived.Test.YtbojnblececnhaaGreatDoorQ02
import Derived.Test.YtbojnblececnhaaGreatDoorQ04
import Derived.Test.YtbojnblececnhaaGreatDoorQ05
namespace Go.Proofs
open Go.RowKit Sm
theorem Sm.i27 (l : List (BitVec 32)) (h : l.length = 8) : (Tryz.prog.info? 0xa4).map (·.size) = some (wl l).length := by rw [wl_length, h]; kernel_rfl
theorem Sm.i28 (l : List (BitVec 8)) (h : l.length = 64) : (Tryz.prog.info? 0x84).map (·.size) = some (l.map byteCell).length := by rw [List.length_map, h]; kernel_rfl
set_option maxRecDepth 100000 in
set_option maxHeartbeats 2000000 in
theorem Sm.pressM_any (g : Nat) (t : TypeId) (ws : List (BitVec 32)) (p : Nat) (b0 : List (BitVec 8)) (s0 : Nat) (tail : List Value) (bl : List (BitVec 8)) (sz : Nat) (last : Bool) (w : World)
    (h : St w g t ws p b0 s0 tail) (hb : bl.length = 64) (hs : sz ≤ 64) (hp : p ≤ 1000000000) (hg : 4 ≤ g) (ht : Tabs w) :
    Calls Tryz.prog 116 #[.pointer (some ⟨g, 0, none⟩), .agg (blc bl sz).toArray, .bool last] w fun e w' => (∃ v, e = .returned v) ∧ St w' g t (pressS ws bl (p + sz) last) (p + sz) b0 s0 tail ∧ But (fun b => b = g) w w' := by
  have hlt := h.blk.lt
  have q0 := Blk.new w 0xa7 (blc bl sz).toArray
  have hk := h.keep ((Below.refl _ w).alloc (Nat.le_refl _) (.cells (blc bl sz).toArray 0xa7))
  have hbt : But (fun b => b = g) w (w.alloc (.cells (blc bl sz).toArray 0xa7)) := (But.refl _ w).alloc _
  have ht1 := ht.keep ((Below.refl _ w).alloc (Nat.le_refl _) (.cells (blc bl sz).toArray 0xa7))
  have hg2 : g ≠ w.heap.size := by omega
  go_enter Tryz.func116, Tryz.ntmps116
  go_upto_region 1 with fail
  obtain ⟨W1, hW1⟩ : ∃ W1, w.alloc (.cells (blc bl sz).toArray 0xa7) = W1 := ⟨_, rfl⟩
  obtain ⟨Q, hQ⟩ : ∃ Q, w.heap.size = Q := ⟨_, rfl⟩
  rw [hW1, hQ] at q0
  rw [hW1] at hk hbt ht1
  rw [hQ] at hg2
  rw [hW1, hQ]
  have HQ := Lib.hid hQ
  clear hW1 hQ
  have cp := hk.cellP
  have cs := blc_size q0 hb
  have fp := hk.frozen 8
  have n1 : IntKind.u64.wrap (sz : Int) = (sz : Int) := by simp [IntKind.wrap, IntKind.signed, IntKind.bits]; omega
  have n2 : IntKind.u64.wrap ((p : Int) + (sz : Int)) = ((p + sz : Nat) : Int) := by simp [IntKind.wrap, IntKind.signed, IntKind.bits]; omega
  have n3 : (0 : Int) ≤ (sz : Int) := by omega
  have n4 : (0 : Int) ≤ (p : Int) := by omega
  go_still_tail 10, (by kernel_rfl)
  change wpList _ _ _ _ _ W1.drew
  obtain ⟨W2, hW2⟩ : ∃ W2, W1.drew = W2 := ⟨_, rfl⟩
  have hk2 : St W2 g t ws p b0 s0 tail := by rw [← hW2]; exact hk.drew
  have q2 : Blk W2 Q 0xa7 (blc bl sz).toArray := by rw [← hW2]; exact q0
  have hb2 : But (fun b => b = g) w W2 := by rw [← hW2]; exact hbt.drew
  have ht2 : Tabs W2 := by rw [← hW2]; exact ⟨ht1.size, fun j v hv => ht1.first j v hv, fun j v hv => ht1.order j v hv, fun j v hv => ht1.mixed j v hv⟩
  rw [hW2]
  clear hW2 hk q0 hbt ht1 cp cs fp n1 n2 n3 n4
  have cp := hk2.cellP
  have fp := hk2.frozen 8
  have cp2 : (p : Int) + (sz : Int) = ((p + sz : Nat) : Int) := rfl
  rw [cp2]
  obtain ⟨ps, hps⟩ : ∃ ps, p + sz = ps := ⟨_, rfl⟩
  rw [hps]
  have HPS := Lib.hid hps
  clear cp2 hps
  go_upto_region 2 with fail
  obtain ⟨W3, hW3⟩ : ∃ W3, W2.setCell ⟨g, 8, none⟩ (.int .u64 (ps : Int)) = W3 := ⟨_, rfl⟩
  have hk3 : St W3 g t ws ps b0 s0 tail := by rw [← hW3]; exact hk2.setP ps
  have q3 : Blk W3 Q 0xa7 (blc bl sz).toArray := by rw [← hW3]; exact q2.other (by show Q ≠ g; omega) _
  have hb3 : But (fun b => b = g) w W3 := by rw [← hW3]; exact hb2.set _ _ (.inl rfl)
  have ht3 : Tabs W3 := by
    have : Below g W2 W3 := by rw [← hW3]; exact (Below.refl _ W2).setCell (p := ⟨g, 8, none⟩) (Nat.le_refl _) _
    exact ht2.below this hg
  rw [hW3]
  clear hW3 hk2 q2 hb2 ht2 cp fp
  have cp := hk3.cellP
  have hS0 : W3.drew.rangeAt g 0 (wl ws) ∧ W3.drew.rangeAt Q 0 (bl.map byteCell) ∧ W3.drew.cell? ⟨g, 8, none⟩ = some (.int .u64 (ps : Int)) := ⟨fun j v hv => hk3.rangeW j v hv, fun j v hv => blc_range q3 j v hv, cp⟩
  clear cp
  obtain ⟨ws', hws⟩ : ∃ ws', pressS ws bl ps last = ws' := ⟨_, rfl⟩
  have hwl : ws'.length = 8 := by rw [← hws, pressS_length, hk3.wlen]
  have hcl : Calls Tryz.prog 121 #[.agg (wl ws).toArray, .agg (bl.map byteCell).toArray, .int .u64 (ps : Int), .bool last] W3.drew fun e w' => e = .returned (.agg (wl ws').toArray) ∧ Below W3.drew.heap.size W3.drew w' := by
    rw [← hws]
    exact press_any ws bl ps last hk3.wlen hb (by have := HPS.out; omega) W3.drew ⟨ht3.size, fun j v hv => ht3.first j v hv, fun j v hv => ht3.order j v hv, fun j v hv => ht3.mixed j v hv⟩
  have HWS := Lib.hid hws
  clear hws
  refine wp_region_popL 15 rfl rfl (by kernel_rfl) (by kernel_rfl) (S := fun wx => wx.rangeAt g 0 (wl ws) ∧ wx.rangeAt Q 0 (bl.map byteCell) ∧ wx.cell? ⟨g, 8, none⟩ = some (.int .u64 (ps : Int))) hS0 (fun hHeld => ?_)
  simp only [List.take_succ_cons, List.take_zero]
  refine wpAnyH_take (i := 0) (v := (.pointer (some ⟨g, 0, none⟩))) rfl (by kernel_rfl) (by kernel_rfl) (by kernel_rfl) (fun _ _ _ h => h) (Or.inl ⟨by rfl, ?_⟩) (by assumption) ?_
  · intro wx hSw
    obtain ⟨hs1, hs2, hs3⟩ := hSw
    go_simp
  try simp only [Act.put]
  refine wpAnyH_take (i := 1) (v := (.pointer (some ⟨g, 0, none⟩))) rfl (by kernel_rfl) (by kernel_rfl) (by kernel_rfl) (fun _ _ _ h => h) (Or.inl ⟨by rfl, ?_⟩) (by assumption) ?_
  · intro wx hSw
    obtain ⟨hs1, hs2, hs3⟩ := hSw
    go_simp
  try simp only [Act.put]
  refine wpAnyH_take (i := 2) (v := (.pointer (some ⟨g, 0, none⟩))) rfl (by kernel_rfl) (by kernel_rfl) (by kernel_rfl) (fun _ _ _ h => h) (Or.inl ⟨by rfl, ?_⟩) (by assumption) ?_
  · intro wx hSw
    obtain ⟨hs1, hs2, hs3⟩ := hSw
    go_simp
  try simp only [Act.put]
  refine wpAnyH_take (i := 3) (v := (.pointer (some ⟨g, 0, none⟩))) rfl (by kernel_rfl) (by kernel_rfl) (by kernel_rfl) (fun _ _ _ h => h) (Or.inl ⟨by rfl, ?_⟩) (by assumption) ?_
  · intro wx hSw
    obtain ⟨hs1, hs2, hs3⟩ := hSw
    go_simp
  try simp only [Act.put]
  refine wpAnyH_take (i := 4) (v := .agg (wl ws).toArray) rfl (by kernel_rfl) (by kernel_rfl) (by kernel_rfl) (fun _ _ _ h => h) (yieldsIf_load_mid (by rfl) 0xa4 _ rfl g 0 rfl (wl ws) _ (fun wx hSw => hSw.1) Tryz.underlying164 rfl (i27 ws hk3.wlen)) (by assumption) ?_
  try simp only [Act.put]
  refine wpAnyH_take (i := 5) (v := (.pointer (some ⟨Q, 0, none⟩))) rfl (by kernel_rfl) (by kernel_rfl) (by kernel_rfl) (fun _ _ _ h => h) (Or.inl ⟨by rfl, ?_⟩) (by assumption) ?_
  · intro wx hSw
    obtain ⟨hs1, hs2, hs3⟩ := hSw
    go_simp
  try simp only [Act.put]
  refine wpAnyH_take (i := 6) (v := .agg (bl.map byteCell).toArray) rfl (by kernel_rfl) (by kernel_rfl) (by kernel_rfl) (fun _ _ _ h => h) (yieldsIf_load_mid (by rfl) 0x84 _ rfl Q 0 rfl (bl.map byteCell) _ (fun wx hSw => hSw.2.1) Tryz.underlying132 rfl (i28 bl hb)) (by assumption) ?_
  try simp only [Act.put]
  refine wpAnyH_take (i := 7) (v := (.pointer (some ⟨g, 0, none⟩))) rfl (by kernel_rfl) (by kernel_rfl) (by kernel_rfl) (fun _ _ _ h => h) (Or.inl ⟨by rfl, ?_⟩) (by assumption) ?_
  · intro wx hSw
    obtain ⟨hs1, hs2, hs3⟩ := hSw
    go_simp
  try simp only [Act.put]
  refine wpAnyH_take (i := 8) (v := (.pointer (some ⟨g, 0, none⟩))) rfl (by kernel_rfl) (by kernel_rfl) (by kernel_rfl) (fun _ _ _ h => h) (Or.inl ⟨by rfl, ?_⟩) (by assumption) ?_
  · intro wx hSw
    obtain ⟨hs1, hs2, hs3⟩ := hSw
    go_simp
  try simp only [Act.put]
  refine wpAnyH_take (i := 9) (v := (.pointer (some ⟨g, 8, none⟩))) rfl (by kernel_rfl) (by kernel_rfl) (by kernel_rfl) (fun _ _ _ h => h) (Or.inl ⟨by rfl, ?_⟩) (by assumption) ?_
  · intro wx hSw
    obtain ⟨hs1, hs2, hs3⟩ := hSw
    go_simp
  try simp only [Act.put]
  refine wpAnyH_take (i := 10) (v := (.int .u64 (ps : Int))) rfl (by kernel_rfl) (by kernel_rfl) (by kernel_rfl) (fun _ _ _ h => h) (Or.inl ⟨by rfl, ?_⟩) (by assumption) ?_
  · intro wx hSw
    obtain ⟨hs1, hs2, hs3⟩ := hSw
    go_simp
  try simp only [Act.put]
  refine wpAnyH_take (i := 11) (v := (.bool last)) rfl (by kernel_rfl) (by kernel_rfl) (by kernel_rfl) (fun _ _ _ h => h) (Or.inl ⟨by rfl, ?_⟩) (by assumption) ?_
  · intro wx hSw
    obtain ⟨hs1, hs2, hs3⟩ := hSw
    go_simp
  try simp only [Act.put]
  refine wpAnyH_ready (rs := [12]) (by kernel_rfl) (by simp) (AllReadyH.cons rfl (fun K hK => ?_) AllReadyH.nil)
  go_simp
  go_at_call 121
  (with_reducible refine hcl.mono ?_)
  rintro e w4 ⟨rfl, hb4⟩
  have hb4' : Below W3.heap.size W3 w4 := ⟨hb4.os, hb4.tape, hb4.output, hb4.size, hb4.block⟩
  have hk4 := hk3.keep hb4'
  have q4 := q3.keep hb4'
  have hS4 : w4.rangeAt g 0 (wl ws) ∧ w4.rangeAt Q 0 (bl.map byteCell) ∧ w4.cell? ⟨g, 8, none⟩ = some (.int .u64 (ps : Int)) := ⟨hk4.rangeW, blc_range q4, hk4.cellP⟩
  refine hK.out _ _ hS4 (fun hHeld => ?_)
  clear hK K
  try simp only [Act.put]
  refine wpAnyH_ready (rs := [13]) (by kernel_rfl) (by simp) (AllReadyH.cons rfl (fun K hK => ?_) AllReadyH.nil)
  go_simp
  refine hK.out _ _ hS4 (fun hHeld => ?_)
  clear hK K
  try simp only [Act.put]
  refine wpAnyH_ready (rs := [14]) (by kernel_rfl) (by simp) (AllReadyH.cons rfl (fun K hK => ?_) AllReadyH.nil)
  go_simp
  refine hK.out _ _ hS4 (fun hHeld => ?_)
  clear hK K
  try simp only [Act.put]
  refine wpAnyH_done (by kernel_rfl) ?_ _
  unfold tailQ wpOp
  simp only [List.getElem?_toArray, List.getElem?_cons_succ, List.getElem?_cons_zero]
  rw [if_pos (by rfl)]
  have hbut4 : But (fun b => b = g) w w4 := hb3.trans (But.of_all hb4' (fun b => b = g)) (fun _ _ e => e)
  have hfin : St (w4.setCells g 0 (wl ws')) g t (pressS ws bl (p + sz) last) (p + sz) b0 s0 tail := by
    rw [HPS.out, HWS.out]
    exact hk4.setW ws' hwl
  have hfb : But (fun b => b = g) w (w4.setCells g 0 (wl ws')) := hbut4.trans (but_setCells g (wl ws') 0 w4) (fun _ _ e => e)
  refine Or.inl (wp_store_mid 0xa4 _ _ rfl g 0 (wl ws').toArray rfl rfl (hk4.thereN 0 _ (by rw [List.size_toArray, wl_length, hwl]; decide)) (by rw [List.size_toArray]; exact i27 ws' hwl) (all_oneCell_toArray (wl_one ws')) ?_)
  simp only [Act.put]
  go_end0
  exact ⟨⟨_, rfl⟩, hfin, hfb⟩
end Go.Proofs
namespace Go.Proofs
open Go.RowKit Sm
attribute [local go_sem] Oper.semAt_some
/-- a state in memory, told by its words and the bytes that wait -/
def Sm.StH (w : World) (g : Nat) (t : TypeId) (s : HS) (tail : List Value) : Prop := St w g t s.ws s.p (pad s.cur) s.cur.length tail
/-- what the loop over blocks keeps -/
structure Sm.TkI (w : World) (g : Nat) (t : TypeId) (ws : List (BitVec 32)) (p : Nat) (cur all : List (BitVec 8)) (tail : List Value) (Sb k : Nat) (W : World) : Prop where
  le : k ≤ cnt all
  st : St W g t (pressK ws p all k) (p + 64 * k) (pad cur) cur.length tail
  box : Blk W Sb 0xb2 #[.pointer (some ⟨g, 0, none⟩)]
  keep : But (fun b => b = g) w W
def Sm.TkX (w : World) (g : Nat) (t : TypeId) (ws : List (BitVec 32)) (p : Nat) (all : List (BitVec 8)) (tail : List Value) (c : Code) (_k : Nat) (W : World) : Prop :=
  c = .exit 0 ∧ St W g t (pressK ws p all (cnt all)) (p + 64 * cnt all) (pad (chunk all (cnt all))) (chunk all (cnt all)).length tail ∧ But (fun b => b = g) w W
/-- how the loop's two variables stand -/
def Sm.TkA (g Sb lo : Nat) (v1 v9 v11 : Value) (args : Array Value) (a' : Act) (W : World) : Prop :=
  ∃ (Bv : Array Value) (bb : Bool) (Pb : Nat), args = #[.agg Bv, .bool bb] ∧ lo ≤ Pb ∧ Blk W Pb 0xa7 Bv ∧
    a' = { tmps := #[.pointer (some ⟨g, 0, none⟩), v1, .pointer (some ⟨Sb, 0, none⟩), undef, .pointer (some ⟨Pb, 0, none⟩), .bool bb, .pointer (some ⟨g, 0, none⟩), .pointer (some ⟨g, 0, none⟩), .pointer (some ⟨g, 9, none⟩), v9, v1, v11, .agg Bv, .bool bb, undef, undef, undef, undef, undef, undef, undef, undef, undef], defers := [] }
set_option maxRecDepth 100000 in
set_option maxHeartbeats 4000000 in
theorem Sm.take_any (g : Nat) (t : TypeId) (ws : List (BitVec 32)) (p : Nat) (cur : List (BitVec 8)) (tail : List Value) (A : Option Addr) (n c : Nat) (ps : List Pt) (w : World)
    (h : St w g t ws p (pad cur) cur.length tail) (hcur : cur.length ≤ 64) (hps : PsOK w g A n ps) (hr : n ≤ c) (hg : 4 ≤ g) (ht : Tabs w) (hp : p + (cur ++ joinP ps).length ≤ 1000000000) :
    Calls Tryz.prog 107 #[.pointer (some ⟨g, 0, none⟩), .slice A n c] w fun e w' => (∃ v, e = .returned v) ∧ StH w' g t (takeS ⟨ws, p, cur⟩ (joinP ps)) tail ∧ But (fun b => b = g) w w' := by
  have hglt := h.blk.lt
  have hpl : (pad cur).length = 64 := pad_length cur hcur
  have hz50 := (zero_of_info z50).1
  obtain ⟨W1, hW1⟩ : ∃ W1, w.alloc (.cells #[.pointer (some ⟨g, 0, none⟩)] 0xb2) = W1 := ⟨_, rfl⟩
  have hb1 : Below w.heap.size w W1 := by rw [← hW1]; exact (Below.refl _ w).alloc (Nat.le_refl _) _
  have hs1 : Blk W1 w.heap.size 0xb2 #[.pointer (some ⟨g, 0, none⟩)] := by rw [← hW1]; exact Blk.new w 0xb2 _
  have hst1 := h.keep hb1
  have HST1 := Lib.hid hst1
  have HPL := Lib.hid hpl
  have c1 := hs1.cell 0
  simp only [List.getElem?_toArray, List.getElem?_cons_zero] at c1
  have H1 := Lib.hid hs1
  clear hst1 hpl hs1
  refine (callsIn_wide (n := 3)).1 ?_
  refine callsIn_of_wp_marks Tryz.func107 rfl trivial ?_ rfl
  simp only [Tryz.ntmps107, List.size_toArray, List.length_cons, List.length_nil, Nat.reduceAdd, Nat.reduceSub, Array.replicate_succ, Array.replicate_zero, List.push_toArray, List.append_toArray, List.nil_append, List.cons_append]
  gi_wp2
  refine wpIn_wide.2 (wp_scope_straight ((wpIn_wide (n := 3)).1 ?_))
  gi_wp2
  refine wpIn_label ?_
  gi_wp2_with (first
    | (refine wpListIn_load_mid rfl 0xa7 _ rfl g 9 rfl (blc (pad cur) cur.length) _ HST1.out.rangeB Tryz.underlying167 rfl (i50 _ _ HPL.out) ?_)
    | ((try refine ⟨trivial, ?_⟩); gi_at_call 115; refine (callsIn_wide.2 (blocks_any _ _ _ _ _)).mono ?_; rintro e w' ⟨rfl, rfl⟩))
  have hc0 : cnt cur = 0 := by unfold cnt; omega
  have hcb : curB cur = cur := by unfold curB; rw [chunk_last, hc0]; rfl
  obtain ⟨all, hall⟩ : ∃ all, cur ++ joinP ps = all := ⟨_, rfl⟩
  obtain ⟨W2, hW2⟩ : ∃ W2, (W1.alloc (.cells (blc (pad cur) cur.length).toArray 0xa7)).alloc (.cells #[.slice A n c] 0x7d) = W2 := ⟨_, rfl⟩
  have hb2 : Below W1.heap.size W1 W2 := by rw [← hW2]; exact ((Below.refl _ W1).alloc (Nat.le_refl _) _).alloc (by simp) _
  have hbw : Below w.heap.size w W2 := hb1.trans (hb2.mono hb1.size)
  have hcap : CapB W2 g W1.heap.size (W1.heap.size + 1) cur A n c ps := by
    refine ⟨?_, ?_, hps.keep hbw, hr⟩
    · unfold blkV
      rw [hcb, ← hW2]
      exact (Blk.new W1 0xa7 _).alloc _
    · rw [← hW2]
      exact Blk.newAt (X := W1.alloc (.cells (blc (pad cur) cur.length).toArray 0xa7)) (by simp) 0x7d _
  have hs2 := H1.out.keep hb2
  have hst2 := h.keep hbw
  have hlt2 := hs2.lt
  have hsz2 := hb2.size
  have hsz1 := hb1.size
  have hgW2 : g < W2.heap.size := hst2.blk.lt
  have hgS : g ≠ w.heap.size := by omega
  have hI0 : TkI w g t ws p cur all tail w.heap.size 0 W2 := ⟨Nat.zero_le _, hst2, hs2, But.of_all hbw _⟩
  rw [hW2]
  have HCAP := Lib.hid hcap
  have HALL := Lib.hid hall
  have hpb : p + all.length ≤ 1000000000 := by rw [← hall]; exact hp
  clear hW2 hcap hc0 hcb hs2 hst2 hall hW1 c1
  refine wpIn_range (gf := 120) (lb := #[.pointer (some ⟨W1.heap.size, 0, none⟩), .pointer (some ⟨W1.heap.size + 1, 0, none⟩)]) rfl (enters_of Tryz.func120 (by kernel_rfl) rfl)
    (blocks_seq g W1.heap.size (W1.heap.size + 1) cur A n c ps all W2 hcur HALL.out HCAP.out (by omega) hgW2)
    (fun b e => by omega) ?hH ?hrow ?hps (fun k W => TkI w g t ws p cur all tail w.heap.size k W) (fun c k W => TkX w g t ws p all tail c k W) ?hI ?hIx hI0
    (TkA g w.heap.size (W2.heap.size + 2) (.slice A n c) (.agg (blc (pad cur) cur.length).toArray) (.func (.func 120) #[] #[.pointer (some ⟨W1.heap.size, 0, none⟩), .pointer (some ⟨W1.heap.size + 1, 0, none⟩)])) ?hAx ?assign ?body ?done ?stop
  case hH => exact fun k args W W' hh _ => hh
  case hrow => exact fun k args W b _ e => e.elim
  case hps =>
    rintro k args W ⟨_, rfl⟩
    rfl
  case hI =>
    rintro k W W' ⟨i1, i2, i3, i4⟩ hb
    exact ⟨i1, i2.but (But.of_below hb) (by omega), i3.below hb (by omega), i4.trans (But.of_below hb) (fun b hb' e => by omega)⟩
  case hIx =>
    rintro c k W W' ⟨rfl, i2, i4⟩ hb
    exact ⟨rfl, i2.but (But.of_below hb) (by omega), i4.trans (But.of_below hb) (fun b hb' e => by omega)⟩
  case hAx =>
    rintro args a' W W' ⟨Bv, bb, Pb, e1, e2, e3, e4⟩ hb
    exact ⟨Bv, bb, Pb, e1, e2, e3.but hb (by omega), e4⟩
  case assign =>
    rintro l0 k args W K hsz hI ⟨hk, rfl⟩ hK
    have hpl := pad_length _ (chunk_le all k)
    obtain ⟨bl, hbl⟩ : ∃ bl, pad (chunk all k) = bl := ⟨_, rfl⟩
    obtain ⟨sz, hsz'⟩ : ∃ sz, (chunk all k).length = sz := ⟨_, rfl⟩
    rw [hbl] at hpl hK ⊢
    rw [hsz'] at hK ⊢
    obtain ⟨bb, hbb⟩ : ∃ bb, decide (k = cnt all) = bb := ⟨_, rfl⟩
    rw [hbb] at hK ⊢
    have HP2 := Lib.hid hpl
    clear hbl hsz' hbb hpl hI
    gi_wp2_with (refine wpListIn_store_row rfl 0xa7 _ _ rfl W.heap.size (blc bl sz).toArray rfl rfl 0xa7 _ (World.alloc_heap_new W _) (by rw [List.size_toArray]; exact i50 _ _ HP2.out) (z50_size HP2.out) (all_oneCell_toArray (blc_one _ _)) ?_)
    exact hK _ _ (below_setRow ((Below.refl _ W).alloc (Nat.le_refl _) _) (Nat.le_refl _) _) ⟨_, bb, W.heap.size, rfl, hsz, setRow_heap _ _ _ _ _ _ (World.alloc_heap_new W _), rfl⟩
  case body =>
    rintro l0 k args a' W hsz ⟨i1, i2, i3, i4⟩ ⟨hk, rfl⟩ ⟨Bv, bb, Pb, e1, e2, e3, rfl⟩
    simp only [Array.mk.injEq, List.cons.injEq, Value.agg.injEq, Value.bool.injEq, and_true] at e1
    obtain ⟨rfl, rfl⟩ := e1
    have hpl := pad_length _ (chunk_le all k)
    have c1 := i3.cell 0
    simp only [List.getElem?_toArray, List.getElem?_cons_zero] at c1
    have HP2 := Lib.hid hpl
    have H2 := Lib.hid i2
    have H3 := Lib.hid e3
    have H4 := Lib.hid i4
    have HS3 := Lib.hid i3
    clear hpl i2 e3 i4 i3
    by_cases hl : k = cnt all
    · have hbb : decide (k = cnt all) = true := decide_eq_true hl
      rw [hbb]
      have HLl := Lib.hid hl
      clear hl hbb
      gi_wp2_with (first
        | (refine wpListIn_load_mid rfl 0xa7 _ rfl Pb 0 rfl (blc (pad (chunk all k)) (chunk all k).length) _ H3.out.range Tryz.underlying167 rfl (i50 _ _ HP2.out) ?_)
        | (refine wpListIn_store_mid rfl 0xa7 _ _ rfl g 9 (blc (pad (chunk all k)) (chunk all k).length).toArray rfl rfl (H2.out.thereN 9 _ (by rw [List.size_toArray, blc_length, HP2.out]; decide)) (by rw [List.size_toArray]; exact i50 _ _ HP2.out) (all_oneCell_toArray (blc_one _ _)) ?_))
      have hbs := but_setCells g (blc (pad (chunk all k)) (chunk all k).length) 9 W
      refine ⟨hbs.mono (fun b _ e => .inl e), rfl, ?_, H4.out.trans hbs (fun _ _ e => e)⟩
      rw [← HLl.out]
      exact H2.out.setB (pad (chunk all k)) (chunk all k).length HP2.out
    · have hbb : decide (k = cnt all) = false := decide_eq_false hl
      rw [hbb]
      have hlt : k < cnt all := by omega
      have hfull := chunk_full' all k hlt
      have htW : Tabs W := by
        have : Below (min g w.heap.size) w W := ⟨H4.out.os, H4.out.tape, H4.out.output, H4.out.size, fun b hb => H4.out.block b (by omega) (by omega)⟩
        exact ht.below this (by have := ht.size; omega)
      have hcl := pressM_any g t (pressK ws p all k) (p + 64 * k) (pad cur) cur.length tail (pad (chunk all k)) (chunk all k).length false W H2.out HP2.out (by omega) (by unfold cnt at hlt; omega) hg htW
      have HCL := Lib.hid hcl
      have HF := Lib.hid hfull
      clear hl hbb hfull hcl htW
      gi_wp2_with (first
        | (refine wpListIn_load_mid rfl 0xa7 _ rfl Pb 0 rfl (blc (pad (chunk all k)) (chunk all k).length) _ H3.out.range Tryz.underlying167 rfl (i50 _ _ HP2.out) ?_)
        | ((try refine ⟨trivial, ?_⟩); gi_at_call 116; refine (CallsIn.inRound l0 (callsIn_wide.2 HCL.out)).mono ?_; rintro e w5 ⟨⟨v5, rfl⟩, hst5, hb5⟩))
      refine ⟨trivial, hb5.mono (fun b _ e => .inl e), hlt, ?_, HS3.out.but hb5 (by omega), H4.out.trans hb5 (fun _ _ e => e)⟩
      rw [pressK]
      rw [HF.out] at hst5
      have e6 : p + 64 * k + 64 = p + 64 * (k + 1) := by omega
      rw [e6] at hst5
      exact hst5
  case done =>
    rintro k W rfl ⟨i1, _, _, _⟩ _
    omega
  case stop =>
    rintro c k W _ ⟨rfl, hst, hk⟩ hD
    gi_wp2
    refine ⟨by simp, .inl ⟨_, _, rfl, run_takeDeferred hD, ?_⟩⟩
    have hput := put_but W W2.heap.size (.deferred none)
    refine ⟨_, results_none rfl _ _ _, ⟨_, rfl⟩, ?_, hk.trans hput (fun b hb e => by omega)⟩
    unfold StH takeS
    simp only [HALL.out, ← chunk_last]
    exact hst.but hput (by omega)
end Go.Proofs
namespace Go.Proofs
open Go.RowKit Sm
def Sm.startS (size : Nat) (key : List (BitVec 8)) : HS :=
  ⟨beginL.set 0 (beginL.getD 0 0 ^^^ BitVec.ofNat 32 (16842752 + 256 * key.length + size)), 0, if key.length = 0 then [] else pad key⟩
theorem Sm.pad_pad (c : List (BitVec 8)) (h : c.length ≤ 64) : pad (pad c) = pad c := by
  unfold pad
  have : (c ++ List.replicate (64 - c.length) 0#8).length = 64 := by simp; omega
  rw [this]
  simp
theorem Sm.z52 : (Tryz.prog.info? 0xa9).map (fun i => (i.zero, i.size)) = some (some (.agg (stc (List.replicate 8 0#32) 0 z64 0).toArray), 74) := by kernel_rfl
def Sm.z8 : List (BitVec 32) := List.replicate 8 0#32
theorem Sm.z52' : (Tryz.prog.info? 0xa9).map (fun i => (i.zero, i.size)) = some (some (.agg (stc z8 0 z64 0).toArray), 74) := z52
theorem Sm.i52 (ws : List (BitVec 32)) (p : Nat) (bl : List (BitVec 8)) (sz : Nat) (h : ws.length = 8) (h2 : bl.length = 64) : (Tryz.prog.info? 0xa9).map (·.size) = some (stc ws p bl sz).length := by rw [stc_length, h, h2]; kernel_rfl
theorem Sm.stc_sz {ws ws' : List (BitVec 32)} {p p' : Nat} {bl bl' : List (BitVec 8)} {sz sz' : Nat} (h : ws.length = 8) (h2 : bl.length = 64) (h' : ws'.length = 8) (h2' : bl'.length = 64) : (stc ws p bl sz).toArray.size = (stc ws' p' bl' sz').toArray.size := by
  rw [List.size_toArray, List.size_toArray, stc_length, stc_length, h, h2, h', h2']
theorem Sm.built52 : Tryz.prog.built 0xa9 [(0, .agg (wl beginL).toArray)] = some (stc beginL 0 z64 0).toArray := by kernel_rfl
theorem Sm.slice64_all (b o : Nat) (w : World) :
    (Instr.sliceAt 0x84 (.pointer (some ⟨b, o, none⟩)) none none none).run Tryz.prog w = .ok (.slice (some ⟨b, o, none⟩) 64 64) w := by
  have hu : Tryz.prog.underlying 0x84 = some (.array (Tryz.prog.arrayLen 0x84) (Tryz.prog.elem 0x84)) := by kernel_rfl
  have ha : Tryz.prog.arrayLen 0x84 = 64 := by kernel_rfl
  have he : Tryz.prog.elem 0x84 = 5 := by kernel_rfl
  have hs : ∀ w, (sizeOf 5).run Tryz.prog w = .ok 1 w := fun _ => by kernel_rfl
  rw [run_sliceAt_array_all w 0x84 ⟨b, o, none⟩ hu, he, hs]
  simp only [Result.andThen_ok, slicedAt, ha, Nat.zero_mul]
  rw [if_neg (by omega), Addr.add_mid, Nat.add_zero]
theorem Sm.splice_prefix {α : Type} (A B X : List α) (o : Nat) : splice (A ++ B) (A.length + o) X = A ++ splice B o X := by
  unfold splice
  rw [List.take_append, List.take_of_length_le (by omega), Nat.add_sub_cancel_left, List.append_assoc]
  congr 2
  rw [Nat.add_assoc, List.drop_append, List.drop_eq_nil_of_le (by omega), List.nil_append, Nat.add_sub_cancel_left]
theorem Sm.splice_key (ws : List (BitVec 32)) (p : Nat) (key : List (BitVec 8)) (h : ws.length = 8) (hk : key.length ≤ 64) : splice (stc ws p z64 0) 9 (key.map byteCell) = stc ws p (pad key) 0 := by
  have e1 : stc ws p z64 0 = (wl ws ++ [.int .u64 (p : Int)]) ++ blc (pad []) 0 := by simp [stc, z64]
  have e2 : 9 = (wl ws ++ [Value.int .u64 (p : Int)]).length + 0 := by simp [wl, h]
  rw [e1, e2, splice_prefix]
  have := splice_pad [] key 0 (by simpa using hk)
  simp only [List.length_nil, List.nil_append] at this
  rw [this]
  simp [stc]
theorem Sm.St.word {w : World} {g : Nat} {t : TypeId} {ws : List (BitVec 32)} {p : Nat} {bl : List (BitVec 8)} {sz : Nat} {tail : List Value} (h : St w g t ws p bl sz tail) {k : Nat} (hk : k < 8) : w.cell? ⟨g, k, none⟩ = some (.int .u32 (iv (ws.getD k 0))) := by
  have := h.rangeW k (wv (ws.getD k 0)) (by simp [wl, h.wlen, hk])
  simpa [wv] using this
theorem Sm.St.setWord {w : World} {g : Nat} {t : TypeId} {ws : List (BitVec 32)} {p : Nat} {bl : List (BitVec 8)} {sz : Nat} {tail : List Value} (h : St w g t ws p bl sz tail) {k : Nat} (hk : k < 8) (x : BitVec 32) : St (w.setCell ⟨g, k, none⟩ (.int .u32 (iv x))) g t (ws.set k x) p bl sz tail := by
  refine ⟨?_, by rw [List.length_set, h.wlen], h.blen⟩
  have h1 := heap_setCell_same w g k _ t (.int .u32 (iv x)) h.blk
  have e : (stc ws p bl sz ++ tail).toArray.setIfInBounds k (.int .u32 (iv x)) = (stc (ws.set k x) p bl sz ++ tail).toArray := by
    have hl : k < (wl ws).length := by rw [wl_length, h.wlen]; exact hk
    simp only [List.setIfInBounds_toArray, stc, List.append_assoc]
    rw [List.set_append_left _ _ hl]
    simp [wl, wv, List.map_set]
  rw [e] at h1
  exact h1
theorem Sm.St.setS {w : World} {g : Nat} {t : TypeId} {ws : List (BitVec 32)} {p : Nat} {bl : List (BitVec 8)} {sz : Nat} {tail : List Value} (h : St w g t ws p bl sz tail) (n : Nat) : St (w.setCell ⟨g, 73, none⟩ (.int .i64 (n : Int))) g t ws p bl n tail := by
  refine ⟨?_, h.wlen, h.blen⟩
  have h1 := blk_setCells t g [.int .i64 (n : Int)] 73 _ w h.blk
  have e : setAll (stc ws p bl sz ++ tail) 73 [.int .i64 (n : Int)] = stc ws p bl n ++ tail := by
    have := setAll_mid (wl ws ++ .int .u64 (p : Int) :: bl.map byteCell) [.int .i64 (n : Int)] [.int .i64 (sz : Int)] tail rfl
    have el : (wl ws ++ Value.int .u64 (p : Int) :: bl.map byteCell).length = 73 := by simp [wl, h.wlen, h.blen]
    rw [el] at this
    simpa [stc, blc, List.append_assoc] using this
  rw [e] at h1
  exact h1
theorem Sm.St.nil_blk {w : World} {g : Nat} {t : TypeId} {ws : List (BitVec 32)} {p : Nat} {bl : List (BitVec 8)} {sz : Nat} (h : St w g t ws p bl sz []) : Blk w g t (stc ws p bl sz).toArray := by
  have := h.blk
  rwa [List.append_nil] at this
theorem Sm.St.of_nil {w : World} {g : Nat} {t : TypeId} {ws : List (BitVec 32)} {p : Nat} {bl : List (BitVec 8)} {sz : Nat} (h : Blk w g t (stc ws p bl sz).toArray) (h1 : ws.length = 8) (h2 : bl.length = 64) : St w g t ws p bl sz [] := ⟨by rw [List.append_nil]; exact h, h1, h2⟩
theorem Sm.first_num (n size : Nat) (b : BitVec 32) : bits .xor .u32 (iv b) (16842752 + 256 * (n : Int) + (size : Int)) = iv (b ^^^ BitVec.ofNat 32 (16842752 + 256 * n + size)) ∨ 4294967296 ≤ 16842752 + 256 * n + size := by
  by_cases h : 4294967296 ≤ 16842752 + 256 * n + size
  · exact .inr h
  · refine .inl ?_
    have e : 16842752 + 256 * (n : Int) + (size : Int) = iv (BitVec.ofNat 32 (16842752 + 256 * n + size)) := by
      unfold iv
      simp
      omega
    rw [e, bits_xor]
set_option maxRecDepth 100000 in
set_option maxHeartbeats 4000000 in
theorem Sm.start_key (size n c : Nat) (A : Option Addr) (key : List (BitVec 8)) (w : World) (ht : Tabs w) (hs1 : size ≤ 32) (hn : n ≤ 32) (hk : key.length = n) (hrd : Rds w (fun _ => False) A (key.map byteCell)) (h0 : 0 < n) :
    Calls Tryz.prog 106 #[.int .i64 (size : Int), .slice A n c] w fun e w' => e = .returned (.agg (stc (startS size key).ws 0 (pad (startS size key).cur) (startS size key).cur.length).toArray) ∧ Below w.heap.size w w' := by
  have hz52 := (zero_of_info z52').1
  have hbt := built52
  have hfst := ht.first
  have hz8 : z8.length = 8 := rfl
  have hbl : beginL.length = 8 := rfl
  have HB8 := Lib.hid hbl
  have HZ8 := Lib.hid hz8
  clear hbl hz8
  go_enter Tryz.func106, Tryz.ntmps106
  go_upto_region 2 with (first
    | (refine wpList_load_mid rfl 0xa4 _ rfl 1 0 rfl (wl beginL) _ (rangeAt_below hfst ((Below.refl _ w).alloc (Nat.le_refl _) _) (by have := ht.size; omega)) Tryz.underlying164 rfl (i27 _ HB8.out) ?_)
    | (refine wpList_store_row rfl 0xa9 _ _ rfl (w.heap.size + 1) (stc beginL 0 z64 0).toArray rfl rfl 0xa9 (stc z8 0 z64 0).toArray (by have := World.alloc_heap_new (w.alloc (.cells (stc z8 0 z64 0).toArray 0xa9)) (.cells (stc z8 0 z64 0).toArray 0xa9); rwa [World.size_alloc] at this) (by rw [List.size_toArray]; exact i52 _ _ _ _ HB8.out z64_length) (stc_sz HZ8.out z64_length HB8.out z64_length) (all_oneCell_toArray (stc_one _ _ _ _)) ?_))
  obtain ⟨W1, hW1⟩ : ∃ W1, ((w.alloc (.cells (stc z8 0 z64 0).toArray 0xa9)).alloc (.cells (stc z8 0 z64 0).toArray 0xa9)).setRow (w.heap.size + 1) (stc beginL 0 z64 0).toArray = W1 := ⟨_, rfl⟩
  have hb1 : Below w.heap.size w W1 := by rw [← hW1]; exact below_setRow (((Below.refl _ w).alloc (Nat.le_refl _) _).alloc (by simp) _) (by omega) _
  have hst1 : St W1 (w.heap.size + 1) 0xa9 beginL 0 z64 0 [] := by
    refine St.of_nil ?_ HB8.out z64_length
    rw [← hW1]
    refine setRow_heap _ _ (stc z8 0 z64 0).toArray _ _ _ ?_
    have := World.alloc_heap_new (w.alloc (.cells (stc z8 0 z64 0).toArray 0xa9)) (.cells (stc z8 0 z64 0).toArray 0xa9)
    rwa [World.size_alloc] at this
  have hr1 : Blk W1 w.heap.size 0xa9 (stc z8 0 z64 0).toArray := by
    rw [← hW1]
    exact (setRow_other _ _ _ _ (by omega)).trans ((Blk.new w 0xa9 _).alloc _)
  rw [hW1]
  clear hW1 hbt hz52
  have cw := hst1.word (k := 0) (by decide)
  have fw := hst1.frozen 0
  have e1 := (first_num n size (beginL.getD 0 0)).resolve_right (by omega)
  have hws0 : (startS size key).ws = beginL.set 0 (beginL.getD 0 0 ^^^ BitVec.ofNat 32 (16842752 + 256 * n + size)) := by unfold startS; rw [hk]
  have hcur0 : (startS size key).cur = pad key := by unfold startS; simp only; rw [if_neg (by omega)]
  obtain ⟨b0, hb0⟩ : ∃ b0, beginL.getD 0 0 = b0 := ⟨_, rfl⟩
  rw [hb0] at cw e1 hws0
  obtain ⟨x0, hx0⟩ : ∃ x0, b0 ^^^ BitVec.ofNat 32 (16842752 + 256 * n + size) = x0 := ⟨_, rfl⟩
  rw [hx0] at e1 hws0
  have HWS := Lib.hid hws0
  have HCUR := Lib.hid hcur0
  have HST := Lib.hid hst1
  have HRR := Lib.hid hr1
  clear hb0 hx0 hws0 hcur0 hst1 hr1
  have hnb : (n : Int) ≤ 32 := by omega
  have hsb : (size : Int) ≤ 32 := by omega
  have hsl := slice64_all (w.heap.size + 1) 9
  go_upto_region 4 with fail
  obtain ⟨W2, hW2⟩ : ∃ W2, W1.setCell ⟨w.heap.size + 1, 0, none⟩ (.int .u32 (iv x0)) = W2 := ⟨_, rfl⟩
  have hb2 : Below w.heap.size w W2 := by rw [← hW2]; exact hb1.setCell (p := ⟨w.heap.size + 1, 0, none⟩) (by simp) _
  have hst2 : St W2 (w.heap.size + 1) 0xa9 (beginL.set 0 x0) 0 z64 0 [] := by rw [← hW2]; exact HST.out.setWord (by decide) x0
  have hr2 : Blk W2 w.heap.size 0xa9 (stc z8 0 z64 0).toArray := by rw [← hW2]; exact HRR.out.other (by simp) _
  rw [hW2]
  clear hW2 cw fw e1
  obtain ⟨ws1, hws1⟩ : ∃ ws1, beginL.set 0 x0 = ws1 := ⟨_, rfl⟩
  rw [hws1] at hst2
  have HW1 : Hid ((startS size key).ws = ws1) := Lib.hid (by rw [HWS.out, hws1])
  clear hws1
  have hwl := hst2.wlen
  obtain ⟨kb, ko, hA, _, _, hcell⟩ := hrd (by simp; omega)
  subst hA
  have hkl : (key.map byteCell).length = n := by simp [hk]
  have HKL := Lib.hid hkl
  have HWL := Lib.hid hwl
  have HST2 := Lib.hid hst2
  have HR2 := Lib.hid hr2
  have HCELL := Lib.hid hcell
  have Hk := Lib.hid hk
  clear hkl hwl hst2 hr2 hcell hk
  have hkb : kb < w.heap.size := by
    have := HCELL.out 0 _ (List.getElem?_eq_getElem (by rw [HKL.out]; exact h0))
    exact World.block_lt_of_cell? w _ this
  go_upto_region 5 with (refine wpList_copy_splice rfl (.tmp 27) (.tmp 28) 0x38 0x38 rfl 5 Tryz.underlying56 i5 (some ⟨w.heap.size + 1, 9, none⟩) (some ⟨kb, ko, none⟩) 64 64 n c rfl rfl (w.heap.size + 1) 9 (stc ws1 0 z64 0) 0xa9 HST2.out.nil_blk (key.map byteCell) (by rw [HKL.out]; show n = min n 64; omega) (fun _ => ⟨rfl, ⟨kb, ko, none⟩, rfl, fun j v hj => by rw [Addr.add_mid]; exact (hb2.cell (p := ⟨kb, ko + j, none⟩) hkb).trans (HCELL.out j v hj)⟩) (by rw [HKL.out, stc_length, HWL.out, z64_length]; omega) (by intro v hv; simp only [List.mem_map] at hv; obtain ⟨x, _, rfl⟩ := hv; rfl) (w.heap.size + 1) W2 (Below.refl _ W2) (Nat.le_refl _) ?_; intro w5 HG5 hb5)
  have hst5 : St w5 (w.heap.size + 1) 0xa9 ws1 0 (pad key) 0 [] := by
    refine St.of_nil ?_ HWL.out (pad_length _ (by rw [Hk.out]; omega))
    have := HG5.out
    rw [splice_key ws1 0 key HWL.out (by rw [Hk.out]; omega)] at this
    exact this
  have hr5 := HR2.out.below hb5 (by omega)
  have hbw5 : Below w.heap.size w w5 := hb2.trans (hb5.mono (by omega))
  have HST5 := Lib.hid hst5
  have HR5 := Lib.hid hr5
  have c73 := hst5.cellS
  have f73 := hst5.frozen 73
  clear hst5 hr5 HG5
  go_upto_region 6 with fail
  obtain ⟨W6, hW6⟩ : ∃ W6, w5.setCell ⟨w.heap.size + 1, 73, none⟩ (.int .i64 64) = W6 := ⟨_, rfl⟩
  have hst6 : St W6 (w.heap.size + 1) 0xa9 ws1 0 (pad key) 64 [] := by rw [← hW6]; exact HST5.out.setS 64
  have hr6 : Blk W6 w.heap.size 0xa9 (stc z8 0 z64 0).toArray := by rw [← hW6]; exact HR5.out.other (by simp) _
  have hb6 : Below w.heap.size w W6 := by rw [← hW6]; exact hbw5.setCell (p := ⟨w.heap.size + 1, 73, none⟩) (by simp) _
  rw [hW6]
  clear hW6 c73 f73
  have hpl := pad_length key (by rw [Hk.out]; omega)
  have HPK := Lib.hid hpl
  have HST6 := Lib.hid hst6
  have HR6 := Lib.hid hr6
  clear hpl hst6 hr6
  go_wp2_with (first
    | (refine wpList_load_mid rfl 0xa9 _ rfl (w.heap.size + 1) 0 rfl (stc ws1 0 (pad key) 64) _ HST6.out.rangeAll Tryz.underlying169 rfl (i52 _ _ _ _ HWL.out HPK.out) ?_)
    | (refine wpList_store_row rfl 0xa9 _ _ rfl w.heap.size (stc ws1 0 (pad key) 64).toArray rfl rfl 0xa9 (stc z8 0 z64 0).toArray HR6.out (by rw [List.size_toArray]; exact i52 _ _ _ _ HWL.out HPK.out) (stc_sz HZ8.out z64_length HWL.out HPK.out) (all_oneCell_toArray (stc_one _ _ _ _)) ?_))
  refine bodyPost_ret (results_cell_row rfl _ _ w.heap.size 0xa9 (stc ws1 0 (pad key) 64).toArray (0, 0) _ rfl (setRow_heap _ _ _ _ _ _ HR6.out) Tryz.underlying169 rfl (by rw [List.size_toArray]; exact i52 _ _ _ _ HWL.out HPK.out)) rfl ⟨?_, below_setRow hb6 (Nat.le_refl _) _⟩
  rw [HW1.out, HCUR.out, pad_pad key (by rw [Hk.out]; omega), HPK.out]
end Go.Proofs
namespace Go.Proofs
open Go.RowKit Sm
set_option maxRecDepth 100000 in
set_option maxHeartbeats 4000000 in
theorem Sm.start_nil (size c : Nat) (A : Option Addr) (w : World) (ht : Tabs w) (hs1 : size ≤ 32) :
    Calls Tryz.prog 106 #[.int .i64 (size : Int), .slice A 0 c] w fun e w' => e = .returned (.agg (stc (startS size []).ws 0 (pad (startS size []).cur) (startS size []).cur.length).toArray) ∧ Below w.heap.size w w' := by
  have hz52 := (zero_of_info z52').1
  have hbt := built52
  have hfst := ht.first
  have hz8 : z8.length = 8 := rfl
  have hbl : beginL.length = 8 := rfl
  have HB8 := Lib.hid hbl
  have HZ8 := Lib.hid hz8
  clear hbl hz8
  go_enter Tryz.func106, Tryz.ntmps106
  go_upto_region 2 with (first
    | (refine wpList_load_mid rfl 0xa4 _ rfl 1 0 rfl (wl beginL) _ (rangeAt_below hfst ((Below.refl _ w).alloc (Nat.le_refl _) _) (by have := ht.size; omega)) Tryz.underlying164 rfl (i27 _ HB8.out) ?_)
    | (refine wpList_store_row rfl 0xa9 _ _ rfl (w.heap.size + 1) (stc beginL 0 z64 0).toArray rfl rfl 0xa9 (stc z8 0 z64 0).toArray (by have := World.alloc_heap_new (w.alloc (.cells (stc z8 0 z64 0).toArray 0xa9)) (.cells (stc z8 0 z64 0).toArray 0xa9); rwa [World.size_alloc] at this) (by rw [List.size_toArray]; exact i52 _ _ _ _ HB8.out z64_length) (stc_sz HZ8.out z64_length HB8.out z64_length) (all_oneCell_toArray (stc_one _ _ _ _)) ?_))
  obtain ⟨W1, hW1⟩ : ∃ W1, ((w.alloc (.cells (stc z8 0 z64 0).toArray 0xa9)).alloc (.cells (stc z8 0 z64 0).toArray 0xa9)).setRow (w.heap.size + 1) (stc beginL 0 z64 0).toArray = W1 := ⟨_, rfl⟩
  have hb1 : Below w.heap.size w W1 := by rw [← hW1]; exact below_setRow (((Below.refl _ w).alloc (Nat.le_refl _) _).alloc (by simp) _) (by omega) _
  have hst1 : St W1 (w.heap.size + 1) 0xa9 beginL 0 z64 0 [] := by
    refine St.of_nil ?_ HB8.out z64_length
    rw [← hW1]
    refine setRow_heap _ _ (stc z8 0 z64 0).toArray _ _ _ ?_
    have := World.alloc_heap_new (w.alloc (.cells (stc z8 0 z64 0).toArray 0xa9)) (.cells (stc z8 0 z64 0).toArray 0xa9)
    rwa [World.size_alloc] at this
  have hr1 : Blk W1 w.heap.size 0xa9 (stc z8 0 z64 0).toArray := by
    rw [← hW1]
    exact (setRow_other _ _ _ _ (by omega)).trans ((Blk.new w 0xa9 _).alloc _)
  rw [hW1]
  clear hW1 hbt hz52
  have cw := hst1.word (k := 0) (by decide)
  have fw := hst1.frozen 0
  have e1 := (first_num 0 size (beginL.getD 0 0)).resolve_right (by omega)
  have e1' : bits .xor .u32 (iv (beginL.getD 0 0)) (16842752 + (size : Int)) = iv (beginL.getD 0 0 ^^^ BitVec.ofNat 32 (16842752 + 256 * 0 + size)) := by
    rw [← e1]; simp
  have hws0 : (startS size []).ws = beginL.set 0 (beginL.getD 0 0 ^^^ BitVec.ofNat 32 (16842752 + 256 * 0 + size)) := rfl
  have hcur0 : (startS size []).cur = [] := rfl
  obtain ⟨b0, hb0⟩ : ∃ b0, beginL.getD 0 0 = b0 := ⟨_, rfl⟩
  clear e1
  rw [hb0] at cw e1' hws0
  obtain ⟨x0, hx0⟩ : ∃ x0, b0 ^^^ BitVec.ofNat 32 (16842752 + 256 * 0 + size) = x0 := ⟨_, rfl⟩
  rw [hx0] at e1' hws0
  have HWS := Lib.hid hws0
  have HCUR := Lib.hid hcur0
  have HST := Lib.hid hst1
  have HRR := Lib.hid hr1
  clear hb0 hx0 hws0 hcur0 hst1 hr1
  have hsb : (size : Int) ≤ 32 := by omega
  go_upto_region 6 with fail
  obtain ⟨W2, hW2⟩ : ∃ W2, W1.setCell ⟨w.heap.size + 1, 0, none⟩ (.int .u32 (iv x0)) = W2 := ⟨_, rfl⟩
  have hb2 : Below w.heap.size w W2 := by rw [← hW2]; exact hb1.setCell (p := ⟨w.heap.size + 1, 0, none⟩) (by simp) _
  have hst2 : St W2 (w.heap.size + 1) 0xa9 (beginL.set 0 x0) 0 z64 0 [] := by rw [← hW2]; exact HST.out.setWord (by decide) x0
  have hr2 : Blk W2 w.heap.size 0xa9 (stc z8 0 z64 0).toArray := by rw [← hW2]; exact HRR.out.other (by simp) _
  rw [hW2]
  clear hW2 cw fw e1'
  obtain ⟨ws1, hws1⟩ : ∃ ws1, beginL.set 0 x0 = ws1 := ⟨_, rfl⟩
  rw [hws1] at hst2
  have HW1 : Hid ((startS size []).ws = ws1) := Lib.hid (by rw [HWS.out, hws1])
  clear hws1
  have hwl := hst2.wlen
  have HWL := Lib.hid hwl
  have HST6 := Lib.hid hst2
  have HR6 := Lib.hid hr2
  clear hwl hst2 hr2
  go_wp2_with (first
    | (refine wpList_load_mid rfl 0xa9 _ rfl (w.heap.size + 1) 0 rfl (stc ws1 0 z64 0) _ HST6.out.rangeAll Tryz.underlying169 rfl (i52 _ _ _ _ HWL.out z64_length) ?_)
    | (refine wpList_store_row rfl 0xa9 _ _ rfl w.heap.size (stc ws1 0 z64 0).toArray rfl rfl 0xa9 (stc z8 0 z64 0).toArray HR6.out (by rw [List.size_toArray]; exact i52 _ _ _ _ HWL.out z64_length) (stc_sz HZ8.out z64_length HWL.out z64_length) (all_oneCell_toArray (stc_one _ _ _ _)) ?_))
  refine bodyPost_ret (results_cell_row rfl _ _ w.heap.size 0xa9 (stc ws1 0 z64 0).toArray (0, 0) _ rfl (setRow_heap _ _ _ _ _ _ HR6.out) Tryz.underlying169 rfl (by rw [List.size_toArray]; exact i52 _ _ _ _ HWL.out z64_length)) rfl ⟨?_, below_setRow hb2 (Nat.le_refl _) _⟩
  rw [HW1.out, HCUR.out]
  rfl
def Sm.byteAt (ws : List (BitVec 32)) (i : Nat) : BitVec 8 := ((ws.getD (i / 4) 0) >>> (8 * (i % 4))).setWidth 8
def Sm.outK (ws : List (BitVec 32)) : Nat → List (BitVec 8)
  | 0 => List.replicate 32 0#8
  | k + 1 => (outK ws k).set k (byteAt ws k)
theorem Sm.outK_length (ws : List (BitVec 32)) : ∀ k, (outK ws k).length = 32
  | 0 => by simp [outK]
  | k + 1 => by rw [outK, List.length_set, outK_length]
def Sm.digest (ws : List (BitVec 32)) : List (BitVec 8) := outK ws 32
theorem Sm.zu32_eq : (#[.int .u8 0, .int .u8 0, .int .u8 0, .int .u8 0, .int .u8 0, .int .u8 0, .int .u8 0, .int .u8 0, .int .u8 0, .int .u8 0, .int .u8 0, .int .u8 0, .int .u8 0, .int .u8 0, .int .u8 0, .int .u8 0, .int .u8 0, .int .u8 0, .int .u8 0, .int .u8 0, .int .u8 0, .int .u8 0, .int .u8 0, .int .u8 0, .int .u8 0, .int .u8 0, .int .u8 0, .int .u8 0, .int .u8 0, .int .u8 0, .int .u8 0, .int .u8 0] : Array Value) = bvs (List.replicate 32 0#8) := rfl
theorem Sm.Blk.setByte {w : World} {b : Nat} {t : TypeId} {l : List (BitVec 8)} (h : Blk w b t (bvs l)) (k : Nat) (x : BitVec 8) : Blk (w.setCell ⟨b, k, none⟩ (.int .u8 (ib x))) b t (bvs (l.set k x)) := by
  have := heap_setCell_same w b k (bvs l) t (.int .u8 (ib x)) h
  have e : (bvs l).setIfInBounds k (.int .u8 (ib x)) = bvs (l.set k x) := by
    simp [bvs, byteCell, List.map_set]
  rw [e] at this
  exact this
theorem Sm.low_byte (x : BitVec 32) : iv x % 256 = ib (x.setWidth 8) := by
  unfold iv ib
  simp
theorem Sm.byte_num (x : BitVec 32) (k : Nat) (m : Int) (h : (2 : Int) ^ k = m) : iv x / m % 256 = ib ((x >>> k).setWidth 8) := by
  rw [shr_div x k m h, low_byte]
theorem Sm.i36 (l : List (BitVec 8)) (h : l.length = 32) : (Tryz.prog.info? 0x7e).map (·.size) = some (bvs l).size := by rw [bvs_size, h]; kernel_rfl
set_option maxRecDepth 100000 in
set_option maxHeartbeats 4000000 in
theorem Sm.end_any (ws : List (BitVec 32)) (p : Nat) (cur : List (BitVec 8)) (w : World) (hw : ws.length = 8) (hc : cur.length ≤ 64) (hp : p ≤ 1000000000) (ht : Tabs w) :
    Calls Tryz.prog 108 #[.agg (stc ws p (pad cur) cur.length).toArray] w fun e w' => e = .returned (.agg (bvs (digest (endS ws p cur)))) ∧ Below w.heap.size w w' := by
  have hpl := pad_length cur hc
  have HPL := Lib.hid hpl
  have h1 : St ((w.alloc (.cells (stc ws p (pad cur) cur.length).toArray 0xa9)).alloc (.cells (bvs (List.replicate 32 0#8)) 0x7e)) w.heap.size 0xa9 ws p (pad cur) cur.length [] := St.of_nil ((Blk.new w 0xa9 _).alloc _) hw hpl
  clear hpl
  go_enter Tryz.func108, Tryz.ntmps108
  go_upto_region 1 with fail
  rw [zu32_eq]
  obtain ⟨W1, hW1⟩ : ∃ W1, (w.alloc (.cells (stc ws p (pad cur) cur.length).toArray 0xa9)).alloc (.cells (bvs (List.replicate 32 0#8)) 0x7e) = W1 := ⟨_, rfl⟩
  have hb1 : Below w.heap.size w W1 := by rw [← hW1]; exact ((Below.refl _ w).alloc (Nat.le_refl _) _).alloc (by simp) _
  have hr1 : Blk W1 (w.heap.size + 1) 0x7e (bvs (List.replicate 32 0#8)) := by rw [← hW1]; exact Blk.newAt (by simp) 0x7e _
  rw [hW1] at h1 ⊢
  clear hW1
  have ht1 := ht.keep hb1
  have hcl := pressM_any w.heap.size 0xa9 ws p (pad cur) cur.length [] (pad cur) cur.length true W1 h1 HPL.out hc hp ht.size ht1
  have HC := Lib.hid hcl
  have H1 := Lib.hid h1
  have HR1 := Lib.hid hr1
  have HWL := Lib.hid hw
  clear hcl h1 hr1 hw
  go_upto_region 2 with (first
    | (refine wpList_load_mid rfl 0xa7 _ rfl w.heap.size 9 rfl (blc (pad cur) cur.length) _ H1.out.rangeB Tryz.underlying167 rfl (i50 _ _ HPL.out) ?_)
    | (go_at_call 116; (with_reducible refine HC.out.mono ?_); rintro e w2 ⟨⟨v2, rfl⟩, hst2, hbt2⟩))
  obtain ⟨we, hwe⟩ : ∃ we, pressS ws (pad cur) (p + cur.length) true = we := ⟨_, rfl⟩
  rw [hwe] at hst2
  have hend : endS ws p cur = we := hwe
  have hwl := hst2.wlen
  have hr2 := HR1.out.but hbt2 (by omega)
  have hb2 : Below w.heap.size w w2 := hb1.trans (hbt2.to_below hb1.size (fun b e => by omega))
  have HE := Lib.hid hend
  have HST2 := Lib.hid hst2
  have HR2 := Lib.hid hr2
  have HWE := Lib.hid hwl
  have hlt2 : w.heap.size + 1 < w2.heap.size := hr2.lt
  clear hwe hend hst2 hr2 hwl HC
  go_wp2
  rw [zu32_eq]
  obtain ⟨O, hO⟩ : ∃ O, w2.heap.size = O := ⟨_, rfl⟩
  obtain ⟨W3, hW3⟩ : ∃ W3, w2.alloc (.cells (bvs (List.replicate 32 0#8)) 0x7e) = W3 := ⟨_, rfl⟩
  have ho3 : Blk W3 O 0x7e (bvs (outK we 0)) := by rw [← hW3, ← hO]; exact Blk.new w2 0x7e _
  have hst3 : St W3 w.heap.size 0xa9 we (p + cur.length) (pad cur) cur.length [] := by rw [← hW3]; exact ⟨HST2.out.blk.alloc _, HST2.out.wlen, HST2.out.blen⟩
  have hr3 : Blk W3 (w.heap.size + 1) 0x7e (bvs (List.replicate 32 0#8)) := by rw [← hW3]; exact HR2.out.alloc _
  have hb3 : Below w.heap.size w W3 := by rw [← hW3]; exact hb2.alloc hb2.size _
  rw [hW3, hO]
  have HO := Lib.hid hO
  have hOl : w.heap.size + 1 < O := by omega
  have H0 := Lib.hid (And.intro ho3 (And.intro hst3 (And.intro hr3 hb3)))
  clear hW3 hO ho3 hst3 hr3 hb3
  go_loopw [8] (fun i wr => ∃ k : Nat, k ≤ 32 ∧ i = .int .i64 (k : Int) ∧ Hid (Blk wr O 0x7e (bvs (outK we k)) ∧ St wr w.heap.size 0xa9 we (p + cur.length) (pad cur) cur.length [] ∧ Blk wr (w.heap.size + 1) 0x7e (bvs (List.replicate 32 0#8)) ∧ Below w.heap.size w wr)) (fun i _ => 32 - (intOf i).toNat)
  case atStart => exact ⟨0, by omega, rfl, H0⟩
  case round =>
    obtain ⟨k, hk, rfl, HR⟩ := hrel
    clear H0
    by_cases hlt : k < 32
    · obtain ⟨q, r, hq, hqr, hr⟩ : ∃ q r : Nat, q < 8 ∧ k = 4 * q + r ∧ r < 4 := ⟨k / 4, k % 4, by omega, by omega, by omega⟩
      have hwd := HR.out.2.1.word hq
      obtain ⟨x, hx⟩ : ∃ x, we.getD q 0 = x := ⟨_, rfl⟩
      rw [hx] at hwd
      have hby : byteAt we k = (x >>> (8 * r)).setWidth 8 := by
        unfold byteAt
        rw [show k / 4 = q by omega, show k % 4 = r by omega, hx]
      have hod := HR.out.1.byte (k := k) (by rw [outK_length]; exact hlt)
      have hof := HR.out.1.frozen k
      obtain ⟨zz, hzz⟩ : ∃ z, (outK we k).getD k 0 = z := ⟨_, rfl⟩
      rw [hzz] at hod
      have g1 : (k : Int) / 4 = (q : Int) := by omega
      have g2 : (k : Int) % 4 = (r : Int) := by omega
      have x0 := iv_lo x
      have HBY := Lib.hid hby
      clear hx hby hzz hqr
      have : r = 0 ∨ r = 1 ∨ r = 2 ∨ r = 3 := by omega
      rcases this with rfl | rfl | rfl | rfl
      · have hb : iv x % 256 = ib (byteAt we k) := by rw [HBY.out]; simpa using low_byte x
        have HBB := Lib.hid hb
        clear hb
        go_wp2
        refine ⟨⟨k + 1, by omega, by go_num, Lib.hid ?_⟩, by simp [intOf]; omega⟩
        rw [HBB.out, outK]
        exact ⟨HR.out.1.setByte k _, HR.out.2.1.but ((But.refl (fun b => b = O) wr).set _ _ (.inl rfl)) (by omega), HR.out.2.2.1.other (by show w.heap.size + 1 ≠ O; omega) _, HR.out.2.2.2.setCell (p := ⟨O, k, none⟩) (by show w.heap.size ≤ O; omega) _⟩
      · have hb : iv x / 256 % 256 = ib (byteAt we k) := by rw [HBY.out]; exact byte_num x _ _ (by decide)
        have HBB := Lib.hid hb
        clear hb
        go_wp2
        refine ⟨⟨k + 1, by omega, by go_num, Lib.hid ?_⟩, by simp [intOf]; omega⟩
        rw [HBB.out, outK]
        exact ⟨HR.out.1.setByte k _, HR.out.2.1.but ((But.refl (fun b => b = O) wr).set _ _ (.inl rfl)) (by omega), HR.out.2.2.1.other (by show w.heap.size + 1 ≠ O; omega) _, HR.out.2.2.2.setCell (p := ⟨O, k, none⟩) (by show w.heap.size ≤ O; omega) _⟩
      · have hb : iv x / 65536 % 256 = ib (byteAt we k) := by rw [HBY.out]; exact byte_num x _ _ (by decide)
        have HBB := Lib.hid hb
        clear hb
        go_wp2
        refine ⟨⟨k + 1, by omega, by go_num, Lib.hid ?_⟩, by simp [intOf]; omega⟩
        rw [HBB.out, outK]
        exact ⟨HR.out.1.setByte k _, HR.out.2.1.but ((But.refl (fun b => b = O) wr).set _ _ (.inl rfl)) (by omega), HR.out.2.2.1.other (by show w.heap.size + 1 ≠ O; omega) _, HR.out.2.2.2.setCell (p := ⟨O, k, none⟩) (by show w.heap.size ≤ O; omega) _⟩
      · have hb : iv x / 16777216 % 256 = ib (byteAt we k) := by rw [HBY.out]; exact byte_num x _ _ (by decide)
        have HBB := Lib.hid hb
        clear hb
        go_wp2
        refine ⟨⟨k + 1, by omega, by go_num, Lib.hid ?_⟩, by simp [intOf]; omega⟩
        rw [HBB.out, outK]
        exact ⟨HR.out.1.setByte k _, HR.out.2.1.but ((But.refl (fun b => b = O) wr).set _ _ (.inl rfl)) (by omega), HR.out.2.2.1.other (by show w.heap.size + 1 ≠ O; omega) _, HR.out.2.2.2.setCell (p := ⟨O, k, none⟩) (by show w.heap.size ≤ O; omega) _⟩
    · obtain rfl : k = 32 := by omega
      have ho := HR.out.1
      have hl := outK_length we 32
      obtain ⟨D, hD⟩ : ∃ D, outK we 32 = D := ⟨_, rfl⟩
      rw [hD] at ho hl
      have hdig : digest (endS ws p cur) = D := by unfold digest; rw [HE.out, hD]
      have HDG := Lib.hid hdig
      have HOo := Lib.hid ho
      have HLl := Lib.hid hl
      have HRr := Lib.hid HR.out.2.2
      have h32 : Hid ((bvs (List.replicate 32 0#8)).size = (bvs D).size) := Lib.hid (by rw [bvs_size, bvs_size, hl]; rfl)
      clear HR ho hl hD hdig
      go_wp2_with (first
        | (refine wpList_load_row rfl 0x7e _ rfl O rfl 0x7e _ (0, 0) _ HOo.out Tryz.underlying126 rfl (i36 D HLl.out) ?_)
        | (refine wpList_store_row rfl 0x7e _ _ rfl (w.heap.size + 1) (bvs D) rfl rfl 0x7e _ HRr.out.1 (i36 D HLl.out) h32.out (bvs_one D) ?_))
      refine bodyPost_ret (results_cell_row rfl _ _ (w.heap.size + 1) 0x7e (bvs D) (0, 0) _ rfl (setRow_heap _ _ _ _ _ _ HRr.out.1) Tryz.underlying126 rfl (i36 D HLl.out)) rfl ⟨by rw [HDG.out], below_setRow HRr.out.2 (by omega) _⟩
end Go.Proofs
namespace Go.Proofs
open Go.RowKit Sm
/-- the 32 bytes of the sum -/
def Sm.hashW (size : Nat) (key b : List (BitVec 8)) : List (BitVec 8) := digest (endS (takeS (startS size key) b).ws (takeS (startS size key) b).p (takeS (startS size key) b).cur)
theorem Sm.startS_ws (size : Nat) (key : List (BitVec 8)) : (startS size key).ws.length = 8 := by unfold startS; simp [beginL]
theorem Sm.startS_cur (size : Nat) (key : List (BitVec 8)) (h : key.length ≤ 64) : (startS size key).cur.length ≤ 64 := by
  unfold startS
  simp only
  split
  · simp
  · rw [pad_length key h]; omega
theorem Sm.outK32 (l : List (BitVec 32)) : (digest l).length = 32 := outK_length l 32
theorem Sm.hashW_length (size : Nat) (key b : List (BitVec 8)) : (hashW size key b).length = 32 := outK32 _
set_option maxRecDepth 100000 in
set_option maxHeartbeats 4000000 in
theorem Sm.Sum_any (A : Option Addr) (n c : Nat) (ps : List Pt) (w : World) (hps : ∀ g, w.heap.size ≤ g → PsOK w g A n ps) (hr : n ≤ c) (ht : Tabs w) (hp : (joinP ps).length ≤ 100000) :
    Calls Tryz.prog 96 #[.slice A n c] w fun e w' => e = .returned (.agg (bvs (hashW 32 [] (joinP ps)))) ∧ Below w.heap.size w w' := by
  obtain ⟨W1, hW1⟩ : ∃ W1, w.alloc (.cells (bvs (List.replicate 32 0#8)) 0x7e) = W1 := ⟨_, rfl⟩
  have hb1 : Below w.heap.size w W1 := by rw [← hW1]; exact (Below.refl _ w).alloc (Nat.le_refl _) _
  have hr1 : Blk W1 w.heap.size 0x7e (bvs (List.replicate 32 0#8)) := by rw [← hW1]; exact Blk.new w 0x7e _
  have hst := start_nil 32 0 none W1 (ht.keep hb1) (by decide)
  rw [show ((32 : Nat) : Int) = 32 from rfl] at hst
  obtain ⟨s, hs⟩ : ∃ s, startS 32 [] = s := ⟨_, rfl⟩
  rw [hs] at hst
  have hsw : s.ws.length = 8 := by rw [← hs]; exact startS_ws 32 []
  have hsc : s.cur.length = 0 := by rw [← hs]; rfl
  have hsp : s.p = 0 := by rw [← hs]; rfl
  have hz52 := (zero_of_info z52').1
  have HSs := Lib.hid hs
  have HSW := Lib.hid hsw
  have HSC := Lib.hid hsc
  have HSP := Lib.hid hsp
  have HST := Lib.hid hst
  have HR1 := Lib.hid hr1
  clear hs hsw hsc hsp hst hr1
  go_enter Tryz.func96, Tryz.ntmps96
  go_upto_region 1 with fail
  rw [zu32_eq, hW1]
  clear hW1
  go_upto_region 2 with (first
    | (go_at_call 106; (with_reducible refine HST.out.mono ?_); rintro e w2 ⟨rfl, hb2⟩)
    | (refine wpList_store_row rfl 0xa9 _ _ rfl w2.heap.size (stc s.ws 0 (pad s.cur) s.cur.length).toArray rfl rfl 0xa9 (stc z8 0 z64 0).toArray (World.alloc_heap_new w2 _) (by rw [List.size_toArray]; exact i52 _ _ _ _ HSW.out (pad_length _ (by rw [HSC.out]; decide))) (stc_sz (by rfl) z64_length HSW.out (pad_length _ (by rw [HSC.out]; decide))) (all_oneCell_toArray (stc_one _ _ _ _)) ?_))
  obtain ⟨g, hg⟩ : ∃ g, w2.heap.size = g := ⟨_, rfl⟩
  obtain ⟨W3, hW3⟩ : ∃ W3, (w2.alloc (.cells (stc z8 0 z64 0).toArray 0xa9)).setRow w2.heap.size (stc s.ws 0 (pad s.cur) s.cur.length).toArray = W3 := ⟨_, rfl⟩
  have hbW : Below w.heap.size w W3 := by
    rw [← hW3]
    have hb12 := hb1.trans (hb2.mono hb1.size)
    exact below_setRow (hb12.alloc hb12.size _) hb12.size _
  have hst3 : St W3 g 0xa9 s.ws 0 (pad s.cur) s.cur.length [] := by
    refine St.of_nil ?_ HSW.out (pad_length _ (by rw [HSC.out]; decide))
    rw [← hW3, ← hg]
    exact setRow_heap _ _ _ _ _ _ (World.alloc_heap_new w2 _)
  have hgw : w.heap.size < g := by
    have h1 := HR1.out.lt
    have h2 := hb2.size
    omega
  have hr3 : Blk W3 w.heap.size 0x7e (bvs (List.replicate 32 0#8)) := by
    rw [← hW3]
    exact (setRow_other _ _ _ _ (by omega)).trans ((HR1.out.keep hb2).alloc _)
  rw [hW3, hg]
  have htk := take_any g 0xa9 s.ws 0 s.cur [] A n c ps W3 hst3 (by rw [HSC.out]; decide) ((hps g (by omega)).keep hbW) hr (by have := ht.size; omega) (ht.keep hbW) (by rw [List.length_append, HSC.out]; omega)
  have hse : (⟨s.ws, 0, s.cur⟩ : Sm.HS) = s := by rw [← HSP.out]
  rw [hse] at htk
  have HTK := Lib.hid htk
  have HR3 := Lib.hid hr3
  clear hg hW3 hst3 hr3 htk hse
  go_upto_region 3 with (go_at_call 107; (with_reducible refine HTK.out.mono ?_); rintro e w4 ⟨⟨v4, rfl⟩, hst4, hbt4⟩)
  have hb4 : Below w.heap.size w w4 := hbW.trans (hbt4.to_below hbW.size (fun b e => by omega))
  have hcl4 := takeS_cur_le s (joinP ps)
  have hwl4 : (takeS s (joinP ps)).ws.length = 8 := by rw [takeS_ws, HSW.out]
  have hct4 := takeS_count s (joinP ps)
  have hhash : digest (endS (takeS s (joinP ps)).ws (takeS s (joinP ps)).p (takeS s (joinP ps)).cur) = hashW 32 [] (joinP ps) := by unfold hashW; rw [HSs.out]
  obtain ⟨f, hf⟩ : ∃ f, takeS s (joinP ps) = f := ⟨_, rfl⟩
  rw [hf] at hst4 hcl4 hwl4 hct4 hhash
  have hr4 := HR3.out.but hbt4 (by omega)
  have hen := end_any f.ws f.p f.cur w4 hwl4 hcl4 (by rw [HSP.out, HSC.out] at hct4; omega) (ht.keep hb4)
  rw [hhash] at hen
  obtain ⟨D, hD⟩ : ∃ D, hashW 32 [] (joinP ps) = D := ⟨_, rfl⟩
  have hDl : D.length = 32 := by rw [← hD]; exact hashW_length ..
  rw [hD] at hen
  unfold StH at hst4
  have HD := Lib.hid hD
  have HDL := Lib.hid hDl
  have HEN := Lib.hid hen
  have HST4 := Lib.hid hst4
  have HR4 := Lib.hid hr4
  have HWL4 := Lib.hid hwl4
  have HCL4 := Lib.hid hcl4
  have h32 : Hid ((bvs (List.replicate 32 0#8)).size = (bvs D).size) := Lib.hid (by rw [bvs_size, bvs_size, hDl]; rfl)
  clear hf hst4 hcl4 hwl4 hct4 hhash hr4 hen hD hDl HTK HST
  go_wp2_with (first
    | (refine wpList_load_mid rfl 0xa9 _ rfl g 0 rfl (stc f.ws f.p (pad f.cur) f.cur.length) _ HST4.out.rangeAll Tryz.underlying169 rfl (i52 _ _ _ _ HWL4.out (pad_length _ HCL4.out)) ?_)
    | (go_at_call 108; (with_reducible refine HEN.out.mono ?_); rintro e w5 ⟨rfl, hb5⟩)
    | (refine wpList_store_row rfl 0x7e _ _ rfl w.heap.size (bvs D) rfl rfl 0x7e _ (HR4.out.keep hb5) (i36 D HDL.out) h32.out (bvs_one D) ?_))
  refine bodyPost_ret (results_cell_row rfl _ _ w.heap.size 0x7e (bvs D) (0, 0) _ rfl (setRow_heap _ _ _ _ _ _ (HR4.out.keep hb5)) Tryz.underlying126 rfl (i36 D HDL.out)) rfl ⟨by rw [HD.out], below_setRow (hb4.trans (hb5.mono hb4.size)) (Nat.le_refl _) _⟩
set_option maxHeartbeats 1000000 in
theorem Sm.New_no (size : Int) (n c : Nat) (A : Option Addr) (w : World) (hn : n ≤ 1000000) (h : size < 1 ∨ 32 < size ∨ 32 < n) : Calls Tryz.prog 100 #[.int .i64 size, .slice A n c] w fun e w' => e = .returned (.tuple #[.pointer none, .int .i64 2]) ∧ w = w' := by
  by_cases h1 : size < 1
  · go_enter Tryz.func100, Tryz.ntmps100
    go_wp2
    go_ret2
    exact ⟨rfl, rfl⟩
  · by_cases h2 : 32 < size
    · go_enter Tryz.func100, Tryz.ntmps100
      go_wp2
      go_ret2
      exact ⟨rfl, rfl⟩
    · have h3 : 32 < n := by omega
      go_enter Tryz.func100, Tryz.ntmps100
      go_wp2
      go_ret2
      exact ⟨rfl, rfl⟩
end Go.Proofs
