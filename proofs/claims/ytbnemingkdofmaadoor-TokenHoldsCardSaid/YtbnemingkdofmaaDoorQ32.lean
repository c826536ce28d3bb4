/-
  The contract of Turn of keys.
-/
import Derived.Test.YtbnemingkdofmaaDoorQ31
namespace Go.Proofs
open Go.RowKit Sm
theorem Sm.but_setRow (w : World) (p : Nat) (cs : Array Value) : But (fun b => b = p) w (w.setRow p cs) :=
  ⟨rfl, rfl, rfl, by simp [World.setRow], fun b _ hn => setRow_other w p b cs hn⟩
set_option maxRecDepth 100000 in
set_option maxHeartbeats 4000000 in
theorem Sm.deed31_ok (m : ByteArray) (Bk Bs B : Nat) (k : Kpt) (w : World) (h1 : 1 ≤ m.size) (h2 : m.size ≤ 64) (hK : KeyAt w B k) (hs0 : ¬ k.s0 = ⟨#[]⟩) (hn0 : 0 ≤ k.n0) (hn1 : k.n0 ≤ 1000000000000) (hk : w.cell? ⟨Bk, 0, none⟩ = some (.pointer (some ⟨B, 0, none⟩))) (hs : w.cell? ⟨Bs, 0, none⟩ = some (.string m)) (hlk : Bk < w.heap.size) (hls : Bs < w.heap.size) :
    Calls Tryd.prog 31 #[.pointer (some ⟨Bk, 0, none⟩), .pointer (some ⟨Bs, 0, none⟩)] w fun e w' => (∃ v, e = .returned v) ∧ But (fun b => b = B) w w' ∧ KeyAt w' B (turnK k (k.n0 + 1) m) := by
  have hct := kthere_yes w (.pointer (some ⟨B, 0, none⟩)) k (.inr ⟨B, rfl, hK⟩) hs0
  have HCT := Lib.hid hct
  have hlB := Blk.lt hK
  have HK := Lib.hid hK
  clear hct hs0 hK
  go_enter Tryd.func31, Tryd.ntmps31
  go_upto_region 1 with (first
    | (go_at_call 27; (with_reducible refine HCT.out.mono ?_); rintro e w1 ⟨rfl, hb1⟩)
    | (go_at_call 26; (with_reducible refine (must_yes _ _ _ _ (World.cell?_alloc_new w1 #[.bool true] 4 0)).mono ?_); rintro e w4 ⟨⟨v4, rfl⟩, rfl⟩))
  obtain ⟨w2, hw2⟩ : ∃ v, w1.alloc (.cells #[.bool true] 4) = v := ⟨_, rfl⟩
  have hb2 : Below w.heap.size w w2 := by rw [← hw2]; exact hb1.alloc hb1.size _
  have hk2 := (hb2.cell (p := ⟨Bk, 0, none⟩) hlk).trans hk
  have hs2 := (hb2.cell (p := ⟨Bs, 0, none⟩) hls).trans hs
  have hsz2 := hb2.size
  have HK2 := Lib.hid (Blk.keep HK.out hb2)
  have HB2 := Lib.hid hb2
  rw [hw2]
  clear hw2 hb1 hb2 hk hs HK HCT
  have hS0 : Below w2.heap.size w2 w2.drew := (Below.refl _ _).drew
  refine wp_region_popL 13 rfl rfl (by kernel_rfl) (by kernel_rfl) (S := fun wx => Below w2.heap.size w2 wx) hS0 (fun hHeld => ?_)
  simp only [List.take_succ_cons, List.take_zero]
  have hlk2 : Bk < w2.heap.size := by omega
  have hls2 : Bs < w2.heap.size := by omega
  have hlB2 : B < w2.heap.size := by omega
  have tk : ∀ wx, Below w2.heap.size w2 wx → wx.cell? ⟨Bk, 0, none⟩ = some (.pointer (some ⟨B, 0, none⟩)) := fun wx hb => (hb.cell (p := ⟨Bk, 0, none⟩) hlk2).trans hk2
  have ts : ∀ wx, Below w2.heap.size w2 wx → wx.cell? ⟨Bs, 0, none⟩ = some (.string m) := fun wx hb => (hb.cell (p := ⟨Bs, 0, none⟩) hls2).trans hs2
  have TK := Lib.hid tk
  have TS := Lib.hid ts
  clear tk ts hk2 hs2
  refine wpAnyH_take (i := 0) (v := .pointer (some ⟨B, 0, none⟩)) rfl (by kernel_rfl) (by kernel_rfl) (by kernel_rfl) (fun _ _ _ h => h) (Or.inl ⟨by rfl, ?_⟩) (by assumption) ?_
  · intro wx hs1; have hc := TK.out wx hs1; go_simp
  try simp only [Act.put]
  refine wpAnyH_take (i := 1) (v := .pointer (some ⟨B, 0, none⟩)) rfl (by kernel_rfl) (by kernel_rfl) (by kernel_rfl) (fun _ _ _ h => h) (Or.inl ⟨by rfl, ?_⟩) (by assumption) ?_
  · intro wx hs1; have hc := TK.out wx hs1; go_simp
  try simp only [Act.put]
  refine wpAnyH_take (i := 2) (v := .pointer (some ⟨B, 0, none⟩)) rfl (by kernel_rfl) (by kernel_rfl) (by kernel_rfl) (fun _ _ _ h => h) (Or.inl ⟨by rfl, ?_⟩) (by assumption) ?_
  · intro wx hs1; go_simp
  try simp only [Act.put]
  refine wpAnyH_take (i := 3) (v := .pointer (some ⟨B, 0, none⟩)) rfl (by kernel_rfl) (by kernel_rfl) (by kernel_rfl) (fun _ _ _ h => h) (Or.inl ⟨by rfl, ?_⟩) (by assumption) ?_
  · intro wx hs1; go_simp
  try simp only [Act.put]
  refine wpAnyH_take (i := 4) (v := .agg k.cells) rfl (by kernel_rfl) (by kernel_rfl) (by kernel_rfl) (fun _ _ _ h => h) (Or.inl ⟨by rfl, ?_⟩) (by assumption) ?_
  · intro wx hs1
    obtain ⟨c0, c1, c2, c3, c4, c5⟩ := KeyAt.cs (Blk.keep HK2.out hs1)
    rw [show k.cells = (#[.int .i64 k.n0, .string k.s0, .int .i64 k.n1, .string k.s1, .int .i64 k.n2, .string k.s2] : Array Value) from rfl]
    go_simp
  try simp only [Act.put]
  refine wpAnyH_take (i := 5) (v := .pointer (some ⟨B, 0, none⟩)) rfl (by kernel_rfl) (by kernel_rfl) (by kernel_rfl) (fun _ _ _ h => h) (Or.inl ⟨by rfl, ?_⟩) (by assumption) ?_
  · intro wx hs1; have hc := TK.out wx hs1; go_simp
  try simp only [Act.put]
  refine wpAnyH_take (i := 9) (v := .string m) rfl (by kernel_rfl) (by kernel_rfl) (by kernel_rfl) (fun _ _ _ h => h) (Or.inl ⟨by rfl, ?_⟩) (by assumption) ?_
  · intro wx hs1; have hc := TS.out wx hs1; go_simp
  try simp only [Act.put]
  obtain ⟨X0, hX0⟩ : ∃ v, w2.drew = v := ⟨_, rfl⟩
  rw [hX0] at hHeld hS0 ⊢
  clear hX0
  refine wpAnyH_ready (rs := [6]) (by kernel_rfl) (by simp) (AllReadyH.cons rfl (fun K hK => ?_) AllReadyH.nil)
  go_simp
  have hkv : KeyV X0 (.pointer (some ⟨B, 0, none⟩)) k := .inr ⟨B, rfl, Blk.keep HK2.out hS0⟩
  go_at_call 32
  (with_reducible refine (newest_any X0 (.pointer (some ⟨B, 0, none⟩)) k hkv).mono ?_)
  rintro e X1 ⟨rfl, hb01⟩
  have hb1 : Below w2.heap.size w2 X1 := hS0.trans (hb01.mono hS0.size)
  clear hb01
  refine hK.out _ _ hb1 (fun hHeld => ?_)
  clear hK K
  try simp only [Act.put]
  refine wpAnyH_take (i := 7) (v := .agg #[.int .i64 k.n0]) rfl (by kernel_rfl) (by kernel_rfl) (by kernel_rfl) (fun _ _ _ h => h) (Or.inl ⟨by rfl, ?_⟩) (by assumption) ?_
  · intro wx hs1; have hfm := field_master; go_simp
  try simp only [Act.put]
  refine wpAnyH_ready (rs := [8]) (by kernel_rfl) (by simp) (AllReadyH.cons rfl (fun K hK => ?_) AllReadyH.nil)
  go_simp
  go_at_call 33
  (with_reducible refine (next_num X1 k.n0 hn0 hn1).mono ?_)
  rintro e X2 ⟨rfl, hb12⟩
  have hb2 : Below w2.heap.size w2 X2 := hb1.trans (hb12.mono hb1.size)
  clear hb12
  refine hK.out _ _ hb2 (fun hHeld => ?_)
  clear hK K
  try simp only [Act.put]
  refine wpAnyH_ready (rs := [10]) (by kernel_rfl) (by simp) (AllReadyH.cons rfl (fun K hK => ?_) AllReadyH.nil)
  go_simp
  go_at_call 24
  (with_reducible refine (turned_yes k (k.n0 + 1) m X2 h1 h2).mono ?_)
  rintro e X3 ⟨rfl, hb23⟩
  have hb3 : Below w2.heap.size w2 X3 := hb2.trans (hb23.mono hb2.size)
  clear hb23
  refine hK.out _ _ hb3 (fun hHeld => ?_)
  clear hK K
  try simp only [Act.put]
  refine wpAnyH_take (i := 11) (v := .pointer (some ⟨B, 0, none⟩)) rfl (by kernel_rfl) (by kernel_rfl) (by kernel_rfl) (fun _ _ _ h => h) (Or.inl ⟨by rfl, ?_⟩) (by assumption) ?_
  · intro wx hs1; go_simp
  try simp only [Act.put]
  refine wpAnyH_take (i := 12) (v := .pointer (some ⟨B, 0, none⟩)) rfl (by kernel_rfl) (by kernel_rfl) (by kernel_rfl) (fun _ _ _ h => h) (Or.inl ⟨by rfl, ?_⟩) (by assumption) ?_
  · intro wx hs1; go_simp
  try simp only [Act.put]
  refine wpAnyH_done (by kernel_rfl) ?_ _
  unfold tailQ wpOp
  simp only [List.getElem?_toArray, List.getElem?_cons_succ, List.getElem?_cons_zero]
  rw [if_pos (by rfl)]
  have hK3 : Blk X3 B 0x3c k.cells := Blk.keep HK2.out hb3
  refine Or.inl (wp_store_row 0x39 _ _ rfl B (turnK k (k.n0 + 1) m).cells rfl rfl 0x3c k.cells hK3 (by kernel_rfl) rfl (by simp [Kpt.cells, Value.oneCell']) ?_)
  simp only [Act.put]
  go_end0
  refine ⟨⟨_, rfl⟩, ?_, setRow_heap _ _ _ _ _ _ hK3⟩
  exact ((But.of_all (HB2.out.trans (hb3.mono HB2.out.size)) (fun b => b = B)).trans (but_setRow X3 B _) (fun _ _ e => e))
set_option maxRecDepth 100000 in
set_option maxHeartbeats 4000000 in
theorem Sm.deed31_arg (m : ByteArray) (Bk Bs B : Nat) (k : Kpt) (w : World) (hm : m.size ≤ 9223372036854775807) (hbad : ¬ (1 ≤ m.size ∧ m.size ≤ 64)) (hK : KeyAt w B k) (hs0 : ¬ k.s0 = ⟨#[]⟩) (hn0 : 0 ≤ k.n0) (hn1 : k.n0 ≤ 1000000000000) (hk : w.cell? ⟨Bk, 0, none⟩ = some (.pointer (some ⟨B, 0, none⟩))) (hs : w.cell? ⟨Bs, 0, none⟩ = some (.string m)) (hlk : Bk < w.heap.size) (hls : Bs < w.heap.size) :
    Calls Tryd.prog 31 #[.pointer (some ⟨Bk, 0, none⟩), .pointer (some ⟨Bs, 0, none⟩)] w fun e w' => e = .panicked [pE 2] ∧ Below w.heap.size w w' := by
  have hct := kthere_yes w (.pointer (some ⟨B, 0, none⟩)) k (.inr ⟨B, rfl, hK⟩) hs0
  have HCT := Lib.hid hct
  have hlB := Blk.lt hK
  have HK := Lib.hid hK
  have HBAD := Lib.hid hbad
  clear hct hs0 hK hbad
  go_enter Tryd.func31, Tryd.ntmps31
  go_upto_region 1 with (first
    | (go_at_call 27; (with_reducible refine HCT.out.mono ?_); rintro e w1 ⟨rfl, hb1⟩)
    | (go_at_call 26; (with_reducible refine (must_yes _ _ _ _ (World.cell?_alloc_new w1 #[.bool true] 4 0)).mono ?_); rintro e w4 ⟨⟨v4, rfl⟩, rfl⟩))
  obtain ⟨w2, hw2⟩ : ∃ v, w1.alloc (.cells #[.bool true] 4) = v := ⟨_, rfl⟩
  have hb2 : Below w.heap.size w w2 := by rw [← hw2]; exact hb1.alloc hb1.size _
  have hk2 := (hb2.cell (p := ⟨Bk, 0, none⟩) hlk).trans hk
  have hs2 := (hb2.cell (p := ⟨Bs, 0, none⟩) hls).trans hs
  have hsz2 := hb2.size
  have HK2 := Lib.hid (Blk.keep HK.out hb2)
  have HB2 := Lib.hid hb2
  rw [hw2]
  clear hw2 hb1 hb2 hk hs HK HCT
  have hS0 : Below w2.heap.size w2 w2.drew := (Below.refl _ _).drew
  refine wp_region_held_drew (S := fun wx => Below w2.heap.size w2 wx) rfl hS0 (fun hHeld => ?_)
  simp only [List.size_toArray, List.length_cons, List.length_nil, Nat.reduceAdd]
  have hlk2 : Bk < w2.heap.size := by omega
  have hls2 : Bs < w2.heap.size := by omega
  have hlB2 : B < w2.heap.size := by omega
  have tk : ∀ wx, Below w2.heap.size w2 wx → wx.cell? ⟨Bk, 0, none⟩ = some (.pointer (some ⟨B, 0, none⟩)) := fun wx hb => (hb.cell (p := ⟨Bk, 0, none⟩) hlk2).trans hk2
  have ts : ∀ wx, Below w2.heap.size w2 wx → wx.cell? ⟨Bs, 0, none⟩ = some (.string m) := fun wx hb => (hb.cell (p := ⟨Bs, 0, none⟩) hls2).trans hs2
  have TK := Lib.hid tk
  have TS := Lib.hid ts
  clear tk ts hk2 hs2
  refine wpAnyH_take (i := 0) (v := .pointer (some ⟨B, 0, none⟩)) rfl (by kernel_rfl) (by kernel_rfl) (by kernel_rfl) (fun _ _ _ h => h) (Or.inl ⟨by rfl, ?_⟩) (by assumption) ?_
  · intro wx hs1; have hc := TK.out wx hs1; go_simp
  try simp only [Act.put]
  refine wpAnyH_take (i := 1) (v := .pointer (some ⟨B, 0, none⟩)) rfl (by kernel_rfl) (by kernel_rfl) (by kernel_rfl) (fun _ _ _ h => h) (Or.inl ⟨by rfl, ?_⟩) (by assumption) ?_
  · intro wx hs1; have hc := TK.out wx hs1; go_simp
  try simp only [Act.put]
  refine wpAnyH_take (i := 2) (v := .pointer (some ⟨B, 0, none⟩)) rfl (by kernel_rfl) (by kernel_rfl) (by kernel_rfl) (fun _ _ _ h => h) (Or.inl ⟨by rfl, ?_⟩) (by assumption) ?_
  · intro wx hs1; go_simp
  try simp only [Act.put]
  refine wpAnyH_take (i := 3) (v := .pointer (some ⟨B, 0, none⟩)) rfl (by kernel_rfl) (by kernel_rfl) (by kernel_rfl) (fun _ _ _ h => h) (Or.inl ⟨by rfl, ?_⟩) (by assumption) ?_
  · intro wx hs1; go_simp
  try simp only [Act.put]
  refine wpAnyH_take (i := 4) (v := .agg k.cells) rfl (by kernel_rfl) (by kernel_rfl) (by kernel_rfl) (fun _ _ _ h => h) (Or.inl ⟨by rfl, ?_⟩) (by assumption) ?_
  · intro wx hs1
    obtain ⟨c0, c1, c2, c3, c4, c5⟩ := KeyAt.cs (Blk.keep HK2.out hs1)
    rw [show k.cells = (#[.int .i64 k.n0, .string k.s0, .int .i64 k.n1, .string k.s1, .int .i64 k.n2, .string k.s2] : Array Value) from rfl]
    go_simp
  try simp only [Act.put]
  refine wpAnyH_take (i := 5) (v := .pointer (some ⟨B, 0, none⟩)) rfl (by kernel_rfl) (by kernel_rfl) (by kernel_rfl) (fun _ _ _ h => h) (Or.inl ⟨by rfl, ?_⟩) (by assumption) ?_
  · intro wx hs1; have hc := TK.out wx hs1; go_simp
  try simp only [Act.put]
  refine wpAnyH_take (i := 9) (v := .string m) rfl (by kernel_rfl) (by kernel_rfl) (by kernel_rfl) (fun _ _ _ h => h) (Or.inl ⟨by rfl, ?_⟩) (by assumption) ?_
  · intro wx hs1; have hc := TS.out wx hs1; go_simp
  try simp only [Act.put]
  obtain ⟨X0, hX0⟩ : ∃ v, w2.drew = v := ⟨_, rfl⟩
  rw [hX0] at hHeld hS0 ⊢
  clear hX0
  refine wpAnyH_ready (rs := [6]) (by kernel_rfl) (by simp) (AllReadyH.cons rfl (fun K hK => ?_) AllReadyH.nil)
  go_simp
  have hkv : KeyV X0 (.pointer (some ⟨B, 0, none⟩)) k := .inr ⟨B, rfl, Blk.keep HK2.out hS0⟩
  go_at_call 32
  (with_reducible refine (newest_any X0 (.pointer (some ⟨B, 0, none⟩)) k hkv).mono ?_)
  rintro e X1 ⟨rfl, hb01⟩
  have hb1 : Below w2.heap.size w2 X1 := hS0.trans (hb01.mono hS0.size)
  clear hb01
  refine hK.out _ _ hb1 (fun hHeld => ?_)
  clear hK K
  try simp only [Act.put]
  refine wpAnyH_take (i := 7) (v := .agg #[.int .i64 k.n0]) rfl (by kernel_rfl) (by kernel_rfl) (by kernel_rfl) (fun _ _ _ h => h) (Or.inl ⟨by rfl, ?_⟩) (by assumption) ?_
  · intro wx hs1; have hfm := field_master; go_simp
  try simp only [Act.put]
  refine wpAnyH_ready (rs := [8]) (by kernel_rfl) (by simp) (AllReadyH.cons rfl (fun K hK => ?_) AllReadyH.nil)
  go_simp
  go_at_call 33
  (with_reducible refine (next_num X1 k.n0 hn0 hn1).mono ?_)
  rintro e X2 ⟨rfl, hb12⟩
  have hb2 : Below w2.heap.size w2 X2 := hb1.trans (hb12.mono hb1.size)
  clear hb12
  refine hK.out _ _ hb2 (fun hHeld => ?_)
  clear hK K
  try simp only [Act.put]
  refine wpAnyH_ready (rs := [10]) (by kernel_rfl) (by simp) (AllReadyH.cons rfl (fun K hK => ?_) AllReadyH.nil)
  go_simp
  go_at_call 24
  (with_reducible refine (turned_no k (k.n0 + 1) m X2 hm HBAD.out).mono ?_)
  rintro e X3 ⟨rfl, hb23⟩
  exact ⟨rfl, rfl, HB2.out.trans ((hb2.trans (hb23.mono hb2.size)).mono HB2.out.size)⟩
/-- the variables of a turn -/
theorem Sm.enters31 : ∀ args w, (callFunc 31 args).run Tryd.prog w = .ok (.enter 31 args) w := enters_of Tryd.func31 (by kernel_rfl) rfl
set_option maxRecDepth 100000 in
set_option maxHeartbeats 1000000 in
theorem Sm.Turn_ok (m : ByteArray) (B : Nat) (k : Kpt) (w : World) (h1 : 1 ≤ m.size) (h2 : m.size ≤ 64) (hK : KeyAt w B k) (hs0 : ¬ k.s0 = ⟨#[]⟩) (hn0 : 0 ≤ k.n0) (hn1 : k.n0 ≤ 1000000000000) :
    Calls Tryd.prog 16 #[.pointer (some ⟨B, 0, none⟩), .string m] w fun e w' => e = .returned (.int .i64 0) ∧ KeyAt w' B (turnK k (k.n0 + 1) m) ∧ But (fun b => b = B) w w' := by
  have hmf : ∀ (fn : Fn) (first cap : Array Value) (w : World), (Instr.makeFunc fn first cap).run Tryd.prog w = .ok (.func fn first cap) w := fun _ _ _ _ => rfl
  obtain ⟨W0, hW0, hz, hb0, c0, c1, f1, f0⟩ := two_vars w (.pointer (some ⟨B, 0, none⟩)) (.string m) 0x20 9
  have hlB := Blk.lt hK
  have hK0 : KeyAt W0 B k := Blk.keep hK hb0
  have htr := tried_any 31 #[.pointer (some ⟨w.heap.size, 0, none⟩), .pointer (some ⟨w.heap.size + 1, 0, none⟩)] enters31 W0 B (by omega)
    (fun w' => KeyAt w' B (turnK k (k.n0 + 1) m))
    (fun v hv hvz => (deed31_ok m w.heap.size (w.heap.size + 1) B k v h1 h2 (Blk.keep hK0 hv) hs0 hn0 hn1 ((hv.cell (p := ⟨w.heap.size, 0, none⟩) (by simp; omega)).trans c0) ((hv.cell (p := ⟨w.heap.size + 1, 0, none⟩) (by simp; omega)).trans c1) (by omega) (by omega)))
  have HTR := Lib.hid htr
  have HZ := Lib.hid hz
  have HB0 := Lib.hid hb0
  clear htr hz hb0 c0 c1 f1 f0 hK hK0 hs0
  go_enter Tryd.func16, Tryd.ntmps16
  go_upto_region 1 with fail
  clear hW0
  go_wp2_with (go_at_call 19; (with_reducible refine HTR.out.mono ?_); rintro e w4 ⟨rfl, w2, hK, hz2, hbt, hbt0⟩)
  go_ret
  exact ⟨rfl, Blk.but hK hbt (by have := HZ.out; omega), (But.of_all HB0.out (fun b => b = B)).trans hbt0 (fun _ _ e => e)⟩
set_option maxRecDepth 100000 in
set_option maxHeartbeats 1000000 in
theorem Sm.Turn_arg (m : ByteArray) (B : Nat) (k : Kpt) (w : World) (hm : m.size ≤ 9223372036854775807) (hbad : ¬ (1 ≤ m.size ∧ m.size ≤ 64)) (hK : KeyAt w B k) (hs0 : ¬ k.s0 = ⟨#[]⟩) (hn0 : 0 ≤ k.n0) (hn1 : k.n0 ≤ 1000000000000) :
    Calls Tryd.prog 16 #[.pointer (some ⟨B, 0, none⟩), .string m] w fun e w' => e = .returned (.int .i64 2) ∧ Below w.heap.size w w' := by
  have hmf : ∀ (fn : Fn) (first cap : Array Value) (w : World), (Instr.makeFunc fn first cap).run Tryd.prog w = .ok (.func fn first cap) w := fun _ _ _ _ => rfl
  obtain ⟨W0, hW0, hz, hb0, c0, c1, f1, f0⟩ := two_vars w (.pointer (some ⟨B, 0, none⟩)) (.string m) 0x20 9
  have hK0 : KeyAt W0 B k := Blk.keep hK hb0
  have htr := tried_not 31 #[.pointer (some ⟨w.heap.size, 0, none⟩), .pointer (some ⟨w.heap.size + 1, 0, none⟩)] enters31 W0 2
    (fun v hv => (deed31_arg m w.heap.size (w.heap.size + 1) B k v hm hbad (Blk.keep hK0 hv) hs0 hn0 hn1 ((hv.cell (p := ⟨w.heap.size, 0, none⟩) (by simp; omega)).trans c0) ((hv.cell (p := ⟨w.heap.size + 1, 0, none⟩) (by simp; omega)).trans c1) (by have := hv.size; omega) (by have := hv.size; omega)))
  have HTR := Lib.hid htr
  have HB0 := Lib.hid hb0
  clear htr hz hb0 c0 c1 f1 f0 hK hK0 hs0 hbad
  go_enter Tryd.func16, Tryd.ntmps16
  go_upto_region 1 with fail
  clear hW0
  go_wp2_with (go_at_call 19; (with_reducible refine HTR.out.mono ?_); rintro e w4 ⟨rfl, hbt0⟩)
  go_ret
  exact ⟨rfl, HB0.out.trans (hbt0.mono HB0.out.size)⟩
end Go.Proofs
