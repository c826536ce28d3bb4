/-
  The walk of the law BlakePress: at every state, block and count it returns true and nothing that lay has turned, where the tables lie in memory.
-/
import Derived.Deep.RegionHeld3
import Derived.Test.YtdpcgfaknbfmmaaDoorWalkG
import Derived.Test.YtdpcgfaknbfmmaaDoorSame
import Derived.Test.YtdpcgfaknbfmmaaDoorRefE
namespace Go.Proofs
open Go.RowKit Sm
theorem Sm.press_from {b v : World} (H : List (BitVec 32)) (B : List (BitVec 8)) (n : Nat) (last : Bool) (hH : H.length = 8) (hB : B.length = 64) (hn : n < 18446744073709551616) (ht : Tabs b) (hb : Below b.heap.size b v) :
    Calls Tryd.prog 15 #[.agg (wl H).toArray, .agg (B.map byteCell).toArray, .int .u64 (n : Int), .bool last] v fun e w' => e = .returned (.agg (wvs (pressS H B n last))) ∧ Below b.heap.size b w' :=
  (press_any H B n last hH hB hn v (ht.keep hb)).mono fun _ _ ⟨h1, h2⟩ => ⟨h1, hb.trans (h2.mono hb.size)⟩
theorem Sm.refPress_from {b v : World} (H : List (BitVec 32)) (B : List (BitVec 8)) (n : Nat) (last : Bool) (hH : H.length = 8) (hB : B.length = 64) (hn : n < 18446744073709551616) (hb : Below b.heap.size b v) :
    Calls Tryd.prog 16 #[.agg (wl H).toArray, .agg (B.map byteCell).toArray, .int .u64 (n : Int), .bool last] v fun e w' => e = .returned (.agg (wvs (pressS H B n last))) ∧ Below b.heap.size b w' :=
  (refPress_any H B n last hH hB hn v).mono fun _ _ ⟨h1, h2⟩ => ⟨h1, hb.trans (h2.mono hb.size)⟩
set_option maxRecDepth 100000 in
set_option maxHeartbeats 2000000 in
theorem Sm.press_law (H : List (BitVec 32)) (B : List (BitVec 8)) (n : Nat) (last : Bool) (hH : H.length = 8) (hB : B.length = 64) (hn : n < 18446744073709551616) (w : World) (ht : Tabs w) :
    Calls Tryd.prog 3 #[.agg (wvs H), .agg (bvs B), .int .u64 (n : Int), .bool last] w fun e w' => e = .returned (.bool true) ∧ Below w.heap.size w w' := by
  have hp := fun (v b : World) (ht : Tabs b) (hb : Below b.heap.size b v) => press_from H B n last hH hB hn ht hb
  have hr := fun (v b : World) (hb : Below b.heap.size b v) => refPress_from H B n last hH hB hn hb
  have hq := fun w => arr_same w (t := 0x17) (n := 8) (pressS H B n last) Tryd.underlying23 (by rw [pressS_length, hH])
  obtain ⟨R, hR⟩ : ∃ R, pressS H B n last = R := ⟨_, rfl⟩
  rw [hR] at hq
  simp only [hR] at hp hr
  obtain ⟨W0, hW0⟩ : ∃ W0, (w.alloc (.cells (wvs H) 0x17)).alloc (.cells (bvs B) 0x18) = W0 := ⟨_, rfl⟩
  have h1 : Blk W0 w.heap.size 0x17 (wvs H) := by rw [← hW0]; exact (Blk.new w 0x17 _).alloc _
  have h2 : Blk W0 (w.heap.size + 1) 0x18 (bvs B) := by rw [← hW0]; exact Blk.newAt (X := w.alloc (.cells (wvs H) 0x17)) (by simp) 0x18 _
  have hb0 : Below w.heap.size w W0 := by rw [← hW0]; exact ((Below.refl _ w).alloc (Nat.le_refl _) _).alloc (by simp) _
  have ht0 := ht.keep hb0
  have hl : ∀ W, Below W0.heap.size W0 W → W.rangeAt w.heap.size 0 (wl H) ∧ W.rangeAt (w.heap.size + 1) 0 (B.map byteCell) := fun W hb => by
    have r1 := (h1.keep hb).range
    have r2 := (h2.keep hb).range
    exact ⟨by simpa [wvs] using r1, by simpa [bvs] using r2⟩
  have hS0 := hl W0.drew (Below.refl _ _).drew
  have HL := Lib.hid hl
  have HB := Lib.hid hb0
  have HT := Lib.hid ht0
  have HP := Lib.hid hp
  have HR := Lib.hid hr
  have HW := Lib.hid hW0
  have HH := Lib.hid (And.intro hH hB)
  clear hl hb0 ht0 ht h1 h2 hp hr hR hH hB hn hW0
  go_enter Tryd.func3, Tryd.ntmps3
  go_upto_region 1 with fail
  rw [HW.out]
  clear HW
  have hb : Below W0.heap.size W0 W0.drew := (Below.refl _ _).drew
  refine wp_region_held_drew (S := fun wx => wx.rangeAt w.heap.size 0 (wl H) ∧ wx.rangeAt (w.heap.size + 1) 0 (B.map byteCell)) rfl hS0 (fun hHeld => ?_)
  simp only [List.size_toArray, List.length_cons, List.length_nil, Nat.reduceAdd]
  refine wpAnyH_take (i := 0) (v := .agg (wl H).toArray) rfl (by kernel_rfl) (by kernel_rfl) (by kernel_rfl) (fun _ _ _ h => h) (yieldsIf_load_mid (by rfl) 0x17 _ rfl (w.heap.size) 0 rfl (wl H) _ (fun wx hSw => hSw.1) Tryd.underlying23 rfl (i27 H HH.out.1)) (by assumption) ?_
  try simp only [Act.put]
  refine wpAnyH_take (i := 1) (v := .agg (B.map byteCell).toArray) rfl (by kernel_rfl) (by kernel_rfl) (by kernel_rfl) (fun _ _ _ h => h) (yieldsIf_load_mid (by rfl) 0x18 _ rfl (w.heap.size + 1) 0 rfl (B.map byteCell) _ (fun wx hSw => hSw.2) Tryd.underlying24 rfl (i28 B HH.out.2)) (by assumption) ?_
  try simp only [Act.put]
  refine wpAnyH_take (i := 2) (v := .int .u64 (n : Int)) rfl (by kernel_rfl) (by kernel_rfl) (by kernel_rfl) (fun _ _ _ h => h) (Or.inl ⟨by rfl, ?_⟩) (by assumption) ?_
  · intro wx hSw
    obtain ⟨hs1, hs2⟩ := hSw
    go_simp
  try simp only [Act.put]
  refine wpAnyH_take (i := 3) (v := .bool last) rfl (by kernel_rfl) (by kernel_rfl) (by kernel_rfl) (fun _ _ _ h => h) (Or.inl ⟨by rfl, ?_⟩) (by assumption) ?_
  · intro wx hSw
    obtain ⟨hs1, hs2⟩ := hSw
    go_simp
  try simp only [Act.put]
  refine wpAnyH_take (i := 5) (v := .agg (wl H).toArray) rfl (by kernel_rfl) (by kernel_rfl) (by kernel_rfl) (fun _ _ _ h => h) (yieldsIf_load_mid (by rfl) 0x17 _ rfl (w.heap.size) 0 rfl (wl H) _ (fun wx hSw => hSw.1) Tryd.underlying23 rfl (i27 H HH.out.1)) (by assumption) ?_
  try simp only [Act.put]
  refine wpAnyH_take (i := 6) (v := .agg (B.map byteCell).toArray) rfl (by kernel_rfl) (by kernel_rfl) (by kernel_rfl) (fun _ _ _ h => h) (yieldsIf_load_mid (by rfl) 0x18 _ rfl (w.heap.size + 1) 0 rfl (B.map byteCell) _ (fun wx hSw => hSw.2) Tryd.underlying24 rfl (i28 B HH.out.2)) (by assumption) ?_
  try simp only [Act.put]
  refine wpAnyH_take (i := 7) (v := .int .u64 (n : Int)) rfl (by kernel_rfl) (by kernel_rfl) (by kernel_rfl) (fun _ _ _ h => h) (Or.inl ⟨by rfl, ?_⟩) (by assumption) ?_
  · intro wx hSw
    obtain ⟨hs1, hs2⟩ := hSw
    go_simp
  try simp only [Act.put]
  refine wpAnyH_take (i := 8) (v := .bool last) rfl (by kernel_rfl) (by kernel_rfl) (by kernel_rfl) (fun _ _ _ h => h) (Or.inl ⟨by rfl, ?_⟩) (by assumption) ?_
  · intro wx hSw
    obtain ⟨hs1, hs2⟩ := hSw
    go_simp
  try simp only [Act.put]
  refine wpAnyH_ready (rs := [4]) (by kernel_rfl) (by simp) (AllReadyH.cons rfl (fun K hK => ?_) AllReadyH.nil)
  go_simp
  go_at_call 15
  (with_reducible refine (HP.out _ _ HT.out hb).mono ?_)
  rintro e w1 ⟨rfl, hb1⟩
  refine hK.out _ _ (HL.out _ hb1) (fun hHeld => ?_)
  clear hK K
  try simp only [Act.put]
  refine wpAnyH_ready (rs := [9]) (by kernel_rfl) (by simp) (AllReadyH.cons rfl (fun K hK => ?_) AllReadyH.nil)
  go_simp
  go_at_call 16
  (with_reducible refine (HR.out _ _ hb1).mono ?_)
  rintro e w2 ⟨rfl, hb2⟩
  refine hK.out _ _ (HL.out _ hb2) (fun hHeld => ?_)
  clear hK K
  try simp only [Act.put]
  refine wpAnyH_ready (rs := [10]) (by kernel_rfl) (by simp) (AllReadyH.cons rfl (fun K hK => ?_) AllReadyH.nil)
  go_simp
  refine hK.out _ _ (HL.out _ hb2) (fun hHeld => ?_)
  clear hK K
  try simp only [Act.put]
  refine wpAnyH_ready (rs := [11]) (by kernel_rfl) (by simp) (AllReadyH.cons rfl (fun K hK => ?_) AllReadyH.nil)
  go_simp
  refine hK.out _ _ (HL.out _ hb2) (fun hHeld => ?_)
  clear hK K
  try simp only [Act.put]
  refine wpAnyH_ready (rs := [12]) (by kernel_rfl) (by simp) (AllReadyH.cons rfl (fun K hK => ?_) AllReadyH.nil)
  go_simp
  go_at_call 17
  (with_reducible refine (works_from hb2 HT.out).mono ?_)
  rintro e w3 ⟨rfl, hb3⟩
  refine hK.out _ _ (HL.out _ hb3) (fun hHeld => ?_)
  clear hK K
  try simp only [Act.put]
  refine wpAnyH_ready (rs := [13]) (by kernel_rfl) (by simp) (AllReadyH.cons rfl (fun K hK => ?_) AllReadyH.nil)
  go_simp
  refine hK.out _ _ (HL.out _ hb3) (fun hHeld => ?_)
  clear hK K
  try simp only [Act.put]
  refine wpAnyH_ready (rs := [14]) (by kernel_rfl) (by simp) (AllReadyH.cons rfl (fun K hK => ?_) AllReadyH.nil)
  go_simp
  refine hK.out _ _ (HL.out _ hb3) (fun hHeld => ?_)
  clear hK K
  try simp only [Act.put]
  refine wpAnyH_done (by kernel_rfl) ?_ _
  go_wp2
  go_ret
  exact ⟨rfl, HB.out.trans (hb3.mono HB.out.size)⟩
end Go.Proofs
