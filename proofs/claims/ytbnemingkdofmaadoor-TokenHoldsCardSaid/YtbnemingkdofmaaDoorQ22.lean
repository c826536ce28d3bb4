/-
  The contracts of a tag's own Write, Tag and Copy, where there is one.
-/
import Derived.Test.YtbnemingkdofmaaDoorQ21
namespace Go.Proofs
open Go.RowKit Sm
theorem Sm.MacAt.range (w : World) {gm g : Nat} {O : List (BitVec 8)} {s : HS} (h : MacAt w gm g O s) : w.rangeAt gm 1 (O.map byteCell) := by
  have := range_of (A := [Value.pointer (some ⟨g, 0, none⟩)]) (B := O.map byteCell) (C := []) (t := 0x7b) (g := gm) (w := w) (by simpa using h.m)
  simpa using this
theorem Sm.i73m (l : List (BitVec 8)) (h : l.length = 64) : (Tryd.prog.info? 0x69).map (·.size) = some (l.map byteCell).length := by rw [List.length_map, h]; kernel_rfl
set_option maxRecDepth 100000 in
set_option maxHeartbeats 2000000 in
theorem Sm.macCopy_any (gm g : Nat) (O : List (BitVec 8)) (s : HS) (w : World) (h : MacAt w gm g O s) :
    Calls Tryd.prog 80 #[.pointer (some ⟨gm, 0, none⟩)] w fun e w' => ∃ gm2 g2, e = .returned (.pointer (some ⟨gm2, 0, none⟩)) ∧ w.heap.size ≤ gm2 ∧ w.heap.size ≤ g2 ∧ MacAt w' gm2 g2 O s ∧ Below w.heap.size w w' := by
  have hth := macThere_yes gm g O s w h
  have hcp : ∀ v, HsAt v g s 32 0 → Calls Tryd.prog 87 #[.pointer (some ⟨g, 0, none⟩)] v fun e w' => ∃ g2, e = .returned (.pointer (some ⟨g2, 0, none⟩)) ∧ v.heap.size ≤ g2 ∧ HsAt w' g2 s 32 0 ∧ Below v.heap.size v w' := fun v hv => Copy_any g s 32 0 v hv (by decide)
  have hz75 := (zero_of_info z75).1
  have hzl := z64_length
  have hol := h.len
  have hcu := h.cur
  have hszO : (bvs O).size = 64 := by rw [bvs_size, hol]
  have hfo := fun p => fold75 O hol p 64 rfl
  have hfo2 := fun p => fold75 O hol p (bvs O).size hszO
  have HT := Lib.hid hth
  have HC := Lib.hid hcp
  have HM := Lib.hid h
  have HOL := Lib.hid (And.intro hol hcu)
  clear hth hcp h hol hcu
  go_enter Tryd.func80, Tryd.ntmps80
  go_upto_region 3 with (go_at_call 86; (with_reducible refine HT.out.mono ?_); rintro e w' ⟨rfl, rfl⟩)
  have HM7 := Lib.hid (HM.out.drew)
  have hbd : Below w.heap.size w w.drew := (Below.refl _ _).drew
  obtain ⟨W7, hW7⟩ : ∃ W, w.drew = W := ⟨_, rfl⟩
  have hS0 : w.drew.cell? ⟨gm, 0, none⟩ = some (.pointer (some ⟨g, 0, none⟩)) ∧ w.drew.rangeAt gm 1 (O.map byteCell) := ⟨HM7.out.ptr, HM7.out.range⟩
  refine wp_region_held_drew (S := fun wx => wx.cell? ⟨gm, 0, none⟩ = some (.pointer (some ⟨g, 0, none⟩)) ∧ wx.rangeAt gm 1 (O.map byteCell)) rfl hS0 (fun hHeld => ?_)
  simp only [List.size_toArray, List.length_cons, List.length_nil, Nat.reduceAdd]
  rw [hW7] at HM7 hS0 hHeld hbd ⊢
  clear hW7
  refine wpAnyH_take (i := 0) (v := .pointer (some ⟨gm, 0, none⟩)) rfl (by kernel_rfl) (by kernel_rfl) (by kernel_rfl) (fun _ _ _ h => h) (Or.inl ⟨by rfl, ?_⟩) (by assumption) ?_
  · intro wx hSw
    obtain ⟨hs1, hs2⟩ := hSw
    go_simp
  try simp only [Act.put]
  refine wpAnyH_take (i := 1) (v := .pointer (some ⟨gm, 0, none⟩)) rfl (by kernel_rfl) (by kernel_rfl) (by kernel_rfl) (fun _ _ _ h => h) (Or.inl ⟨by rfl, ?_⟩) (by assumption) ?_
  · intro wx hSw
    obtain ⟨hs1, hs2⟩ := hSw
    go_simp
  try simp only [Act.put]
  refine wpAnyH_take (i := 2) (v := .pointer (some ⟨gm, 0, none⟩)) rfl (by kernel_rfl) (by kernel_rfl) (by kernel_rfl) (fun _ _ _ h => h) (Or.inl ⟨by rfl, ?_⟩) (by assumption) ?_
  · intro wx hSw
    obtain ⟨hs1, hs2⟩ := hSw
    go_simp
  try simp only [Act.put]
  refine wpAnyH_take (i := 3) (v := .pointer (some ⟨gm, 0, none⟩)) rfl (by kernel_rfl) (by kernel_rfl) (by kernel_rfl) (fun _ _ _ h => h) (Or.inl ⟨by rfl, ?_⟩) (by assumption) ?_
  · intro wx hSw
    obtain ⟨hs1, hs2⟩ := hSw
    go_simp
  try simp only [Act.put]
  refine wpAnyH_take (i := 4) (v := .pointer (some ⟨g, 0, none⟩)) rfl (by kernel_rfl) (by kernel_rfl) (by kernel_rfl) (fun _ _ _ h => h) (Or.inl ⟨by rfl, ?_⟩) (by assumption) ?_
  · intro wx hSw
    obtain ⟨hs1, hs2⟩ := hSw
    go_simp
  try simp only [Act.put]
  refine wpAnyH_take (i := 7) (v := .pointer (some ⟨gm, 0, none⟩)) rfl (by kernel_rfl) (by kernel_rfl) (by kernel_rfl) (fun _ _ _ h => h) (Or.inl ⟨by rfl, ?_⟩) (by assumption) ?_
  · intro wx hSw
    obtain ⟨hs1, hs2⟩ := hSw
    go_simp
  try simp only [Act.put]
  refine wpAnyH_take (i := 8) (v := .pointer (some ⟨gm, 0, none⟩)) rfl (by kernel_rfl) (by kernel_rfl) (by kernel_rfl) (fun _ _ _ h => h) (Or.inl ⟨by rfl, ?_⟩) (by assumption) ?_
  · intro wx hSw
    obtain ⟨hs1, hs2⟩ := hSw
    go_simp
  try simp only [Act.put]
  refine wpAnyH_take (i := 9) (v := .pointer (some ⟨gm, 1, none⟩)) rfl (by kernel_rfl) (by kernel_rfl) (by kernel_rfl) (fun _ _ _ h => h) (Or.inl ⟨by rfl, ?_⟩) (by assumption) ?_
  · intro wx hSw
    obtain ⟨hs1, hs2⟩ := hSw
    go_simp
  try simp only [Act.put]
  refine wpAnyH_take (i := 10) (v := .agg (bvs O)) rfl (by kernel_rfl) (by kernel_rfl) (by kernel_rfl) (fun _ _ _ h => h) (yieldsIf_load_mid (by rfl) 0x69 _ rfl gm 1 rfl (O.map byteCell) _ (fun wx hSw => hSw.2) Tryd.underlying105 rfl (i73m O HOL.out.1)) (by assumption) ?_
  try simp only [Act.put]
  refine wpAnyH_ready (rs := [5]) (by kernel_rfl) (by simp) (AllReadyH.cons rfl (fun K hK => ?_) AllReadyH.nil)
  go_simp
  go_at_call 87
  (with_reducible refine (HC.out _ HM7.out.h).mono ?_)
  rintro e w8 ⟨g2, rfl, hg2, hh2, hb8⟩
  have HM8 := Lib.hid (HM7.out.keep hb8)
  refine hK.out _ _ ⟨HM8.out.ptr, HM8.out.range⟩ (fun hHeld => ?_)
  clear hK K
  try simp only [Act.put]
  refine wpAnyH_ready (rs := [6]) (by kernel_rfl) (by simp) (AllReadyH.cons rfl (fun K hK => ?_) AllReadyH.nil)
  go_simp
  refine hK.out _ _ ⟨HM8.out.ptr, HM8.out.range⟩ (fun hHeld => ?_)
  clear hK K
  try simp only [Act.put]
  refine wpAnyH_ready (rs := [11]) (by kernel_rfl) (by simp) (AllReadyH.cons rfl (fun K hK => ?_) AllReadyH.nil)
  go_simp
  refine hK.out _ _ ⟨HM8.out.ptr, HM8.out.range⟩ (fun hHeld => ?_)
  clear hK K
  try simp only [Act.put]
  refine wpAnyH_ready (rs := [12]) (by kernel_rfl) (by simp) (AllReadyH.cons rfl (fun K hK => ?_) AllReadyH.nil)
  go_simp
  have hb9 : Below w8.heap.size w8 (w8.alloc (.cells (Value.pointer (some ⟨g2, 0, none⟩) :: O.map byteCell).toArray 0x7b)) := (Below.refl _ _).alloc (Nat.le_refl _) _
  have HM9 := Lib.hid (HM8.out.keep hb9)
  refine hK.out _ _ ⟨HM9.out.ptr, HM9.out.range⟩ (fun hHeld => ?_)
  clear hK K
  try simp only [Act.put]
  refine wpAnyH_ready (rs := [13]) (by kernel_rfl) (by simp) (AllReadyH.cons rfl (fun K hK => ?_) AllReadyH.nil)
  go_simp
  refine hK.out _ _ ⟨HM9.out.ptr, HM9.out.range⟩ (fun hHeld => ?_)
  clear hK K
  try simp only [Act.put]
  refine wpAnyH_done (by kernel_rfl) ?_ _
  have hne : w8.heap.size ≠ g2 := by have := hh2.lt; omega
  have H9 : MacAt (w8.alloc (.cells (Value.pointer (some ⟨g2, 0, none⟩) :: O.map byteCell).toArray 0x7b)) w8.heap.size g2 O s := ⟨Blk.new w8 0x7b _, hh2.keep hb9, HOL.out.1, hne, HOL.out.2⟩
  have hbf := hbd.trans (hb8.mono hbd.size)
  have HF := Lib.hid (And.intro H9 (And.intro hbf (And.intro hb9 (And.intro hg2 hb8.size))))
  clear hne H9 hbf hb9 hg2 hh2 hb8
  go_wp2_with fail
  go_ret
  have h1 := HF.out.2.1.size
  have h2 := hbd.size
  exact ⟨_, g2, rfl, by have := HF.out.2.2.2.2; omega, by have := HF.out.2.2.2.1; omega, HF.out.1, HF.out.2.1.trans (HF.out.2.2.1.mono h1)⟩
end Go.Proofs
