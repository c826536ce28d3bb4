/-
  The contract of Open.
  The contract of Open, whole.
  What is made is opened: of the texts alone.
  The contract of works.
  The document's keys: a first number and masters, the oldest ahead; how they go with what the code keeps. No condition.
-/
import Derived.Test.YtbojnblececnhaaGreatDoorQ26
import Derived.Test.YtbojnblececnhaaGreatDoorQ24
namespace Go.Proofs
open Go.RowKit Go.Shelf Sm
/-- the token of a text -/
def Sm.openS (k : Kpt) (s : ByteArray) : Except Int (Int × Int × Int) := if 200 < s.size then .error 3 else match unspellS (sB s) with
  | none => .error 160
  | some b => openedS k b
theorem Sm.unspell_length {s : ByteArray} {b : List (BitVec 8)} (h : unspellS (sB s) = some b) : b.length ≤ s.size := by
  have h1 := congrArg List.length (spell_unspell h)
  rw [spellS_length, sB_length] at h1
  have h2 : (8 * b.length + 4) / 5 = s.size := h1
  omega
theorem Sm.enters34 : ∀ args w, (callFunc 34 args).run Tryz.prog w = .ok (.enter 34 args) w := enters_of Tryz.func34 (by kernel_rfl) rfl
set_option maxRecDepth 100000 in
set_option maxHeartbeats 1000000 in
theorem Sm.deed29_long (Bk Bs Bd B : Nat) (k : Kpt) (s : ByteArray) (w : World) (hK : KeyAt w B k) (hs0 : ¬ k.s0 = ⟨#[]⟩) (hl : 200 < s.size) (hm : s.size ≤ 9223372036854775807)
    (hk : w.cell? ⟨Bk, 0, none⟩ = some (.pointer (some ⟨B, 0, none⟩))) (hs : w.cell? ⟨Bs, 0, none⟩ = some (.string s)) (hlk : Bk < w.heap.size) (hls : Bs < w.heap.size) :
    Calls Tryz.prog 34 #[.pointer (some ⟨Bk, 0, none⟩), .pointer (some ⟨Bs, 0, none⟩), .pointer (some ⟨Bd, 0, none⟩)] w fun e w' => e = .panicked [pE 3] ∧ Below w.heap.size w w' := by
  have hct := kthere_yes w (.pointer (some ⟨B, 0, none⟩)) k (.inr ⟨B, rfl, hK⟩) hs0
  have HCT := Lib.hid hct
  have hl2 : ¬ ((s.size : Int) ≤ 200) := by omega
  clear hct hK hs0
  go_enter Tryz.func34, Tryz.ntmps34
  go_upto_region 1 with (first
    | (go_at_call 32; (with_reducible refine HCT.out.mono ?_); rintro e w1 ⟨rfl, hb1⟩)
    | (go_at_call 31; (with_reducible refine (must_yes _ _ _ _ (World.cell?_alloc_new w1 #[.bool true] 4 0)).mono ?_); rintro e w4 ⟨⟨v4, rfl⟩, rfl⟩))
  obtain ⟨w2, hw2⟩ : ∃ v, w1.alloc (.cells #[.bool true] 4) = v := ⟨_, rfl⟩
  have hb2 : Below w.heap.size w w2 := by rw [← hw2]; exact hb1.alloc hb1.size _
  have hk2 := (hb2.cell (p := ⟨Bk, 0, none⟩) hlk).trans hk
  have hs2 := (hb2.cell (p := ⟨Bs, 0, none⟩) hls).trans hs
  have hsz2 := hb2.size
  have HB2 := Lib.hid hb2
  rw [hw2]
  clear hw2 hb1 hb2 hk hs HCT
  go_wp2_with (go_at_call 31; (with_reducible refine (must_oneN _ _ _ _ (by first | rfl | (simp; done)) (by first | rfl | (simp; done) | (simp; omega))).mono ?_); rintro e w9 ⟨rfl, rfl⟩)
  exact ⟨rfl, rfl, HB2.out.alloc HB2.out.size _⟩
/-- how the deed of opening ends -/
def Sm.DeedO (r : Except Int (Int × Int × Int)) (Bd : Nat) (w : World) (e : Ending) (w' : World) : Prop := match r with
  | .ok p => (∃ v, e = .returned v) ∧ But (fun b => b = Bd) w w' ∧ Blk w' Bd 0x18 #[.int .i64 p.1, .int .i64 p.2.1, .int .i64 p.2.2]
  | .error n => e = .panicked [pE n] ∧ Below w.heap.size w w'
set_option maxRecDepth 100000 in
set_option maxHeartbeats 2000000 in
theorem Sm.deed29_any (Bk Bs Bd B : Nat) (k : Kpt) (s : ByteArray) (x0 x1 x2 : Value) (w : World) (hK : KeyAt w B k) (ht : Tabs w) (hs0 : ¬ k.s0 = ⟨#[]⟩) (hss : k.s0.size ≤ 1000 ∧ k.s1.size ≤ 1000 ∧ k.s2.size ≤ 1000) (hl : s.size ≤ 200)
    (hk : w.cell? ⟨Bk, 0, none⟩ = some (.pointer (some ⟨B, 0, none⟩))) (hs : w.cell? ⟨Bs, 0, none⟩ = some (.string s)) (hd : Blk w Bd 0x18 #[x0, x1, x2]) (hlk : Bk < w.heap.size) (hls : Bs < w.heap.size) (hnk : Bk ≠ Bd) (hns : Bs ≠ Bd) :
    Calls Tryz.prog 34 #[.pointer (some ⟨Bk, 0, none⟩), .pointer (some ⟨Bs, 0, none⟩), .pointer (some ⟨Bd, 0, none⟩)] w (DeedO (openS k s) Bd w) := by
  have hct := kthere_yes w (.pointer (some ⟨B, 0, none⟩)) k (.inr ⟨B, rfl, hK⟩) hs0
  have HCT := Lib.hid hct
  have hl2 : ((s.size : Int) ≤ 200) := by omega
  have HK := Lib.hid hK
  have HD := Lib.hid hd
  have HT := Lib.hid ht
  have HSS := Lib.hid hss
  have HL := Lib.hid hl
  have hop : openS k s = match unspellS (sB s) with
    | none => .error 160
    | some b => openedS k b := by unfold openS; rw [if_neg (by omega)]
  have HOP := Lib.hid hop
  clear hct hK hs0 hd ht hss hl hop
  go_enter Tryz.func34, Tryz.ntmps34
  go_upto_region 2 with (first
    | (go_at_call 32; (with_reducible refine HCT.out.mono ?_); rintro e w1 ⟨rfl, hb1⟩; have hs1c := (hb1.cell (p := ⟨Bs, 0, none⟩) hls).trans hs; have hsz1 := hb1.size; have hls1 : Bs < w1.heap.size := by omega)
    | (go_at_call 31; (with_reducible refine (must_oneY _ _ _ _ (by first | rfl | (simp; done)) (by first | rfl | (simp; done))).mono ?_); rintro e w4 ⟨⟨v4, rfl⟩, rfl⟩))
  obtain ⟨w2, hw2⟩ : ∃ v, (w1.alloc (.cells #[.bool true] 4)).alloc (.cells #[.bool true] 4) = v := ⟨_, rfl⟩
  have hb2 : Below w.heap.size w w2 := by rw [← hw2]; exact (hb1.alloc hb1.size _).alloc (by simp; omega) _
  have hk2 := (hb2.cell (p := ⟨Bk, 0, none⟩) hlk).trans hk
  have hs2 := (hb2.cell (p := ⟨Bs, 0, none⟩) hls).trans hs
  have hsz2 := hb2.size
  have HB2 := Lib.hid hb2
  have HK2 := Lib.hid (Blk.keep HK.out hb2)
  have HT2 := Lib.hid (HT.out.keep hb2)
  have HD2 := Lib.hid (HD.out.keep hb2)
  rw [hw2]
  clear hw2 hb1 hs1c hsz1 hls1 hb2 hk hs HCT HK HT HD
  have hS0 : Below w2.heap.size w2 w2.drew := (Below.refl _ _).drew
  have hlk2 : Bk < w2.heap.size := by omega
  have hls2 : Bs < w2.heap.size := by omega
  have hld2 : Bd < w2.heap.size := HD2.out.lt
  have tk : ∀ wx, Below w2.heap.size w2 wx → wx.cell? ⟨Bk, 0, none⟩ = some (.pointer (some ⟨B, 0, none⟩)) := fun wx hb => (hb.cell (p := ⟨Bk, 0, none⟩) hlk2).trans hk2
  have ts : ∀ wx, Below w2.heap.size w2 wx → wx.cell? ⟨Bs, 0, none⟩ = some (.string s) := fun wx hb => (hb.cell (p := ⟨Bs, 0, none⟩) hls2).trans hs2
  have tkb : ∀ wx, But (fun b => b = Bd) w2 wx → wx.cell? ⟨Bk, 0, none⟩ = some (.pointer (some ⟨B, 0, none⟩)) := fun wx hb => (hb.cell (p := ⟨Bk, 0, none⟩) hlk2 hnk).trans hk2
  have tsb : ∀ wx, But (fun b => b = Bd) w2 wx → wx.cell? ⟨Bs, 0, none⟩ = some (.string s) := fun wx hb => (hb.cell (p := ⟨Bs, 0, none⟩) hls2 hns).trans hs2
  have TK := Lib.hid tk
  have TS := Lib.hid ts
  have TKB := Lib.hid tkb
  have TSB := Lib.hid tsb
  clear tk ts hk2 hs2 tkb tsb
  have hun : ∀ X, Calls Tryz.prog 36 #[.string s] X (UnPost (sB s) X) := fun X => unspelled_any s X (by have := HL.out; omega)
  cases hu : unspellS (sB s) with
  | none =>
    have hfn : ∀ X, Calls Tryz.prog 36 #[.string s] X fun e w' => Below X.heap.size X w' ∧ e = .panicked [pE 160] := fun X => (hun X).mono fun e w' h => by
      unfold UnPost at h
      rw [hu] at h
      exact h
    have HFA := Lib.hid hfn
    have hop := HOP.out
    rw [hu] at hop
    rw [hop]
    clear hop HOP hu hun hfn
    refine wp_region_held_drew (S := fun wx => Below w2.heap.size w2 wx) rfl hS0 (fun hHeld => ?_)
    simp only [List.size_toArray, List.length_cons, List.length_nil, Nat.reduceAdd]
    obtain ⟨X0, hX0⟩ : ∃ v, w2.drew = v := ⟨_, rfl⟩
    rw [hX0] at hHeld hS0 ⊢
    clear hX0
    refine wpAnyH_take (i := 0) (v := .pointer (some ⟨B, 0, none⟩)) rfl (by kernel_rfl) (by kernel_rfl) (by kernel_rfl) (fun _ _ _ h => h) (Or.inl ⟨by rfl, ?_⟩) (by assumption) ?_
    · intro wx hs1; have hc := TK.out wx hs1; go_simp
    try simp only [Act.put]
    refine wpAnyH_take (i := 1) (v := .string s) rfl (by kernel_rfl) (by kernel_rfl) (by kernel_rfl) (fun _ _ _ h => h) (Or.inl ⟨by rfl, ?_⟩) (by assumption) ?_
    · intro wx hs1; have hc := TS.out wx hs1; go_simp
    try simp only [Act.put]
    refine wpAnyH_ready (rs := [2]) (by kernel_rfl) (by simp) (AllReadyH.cons rfl (fun K hK => ?_) AllReadyH.nil)
    go_simp
    go_at_call 36
    (with_reducible refine (HFA.out X0).mono ?_)
    rintro e X9 ⟨hb9, rfl⟩
    exact ⟨rfl, rfl, HB2.out.trans ((hS0.trans (hb9.mono hS0.size)).mono HB2.out.size)⟩
  | some bb =>
    have hfn : ∀ X, Calls Tryz.prog 36 #[.string s] X fun e w' => ∃ A c, Below X.heap.size X w' ∧ e = .returned (.slice A bb.length c) ∧ bb.length ≤ c ∧ c ≤ 9223372036854775807 ∧ Rd w' w'.heap.size A bb := fun X => (hun X).mono fun e w' h => by
      unfold UnPost at h
      rw [hu] at h
      obtain ⟨h1, v, rfl, h2⟩ := h
      obtain ⟨A, c, rfl⟩ := own_slice h2
      exact ⟨A, c, h1, rfl, own_cap h2, own_most h2 (by have := unspell_length hu; have := HL.out; omega), Rd.of_own h2 (Nat.le_refl _)⟩
    have HFA := Lib.hid hfn
    have hbl := unspell_length hu
    have HBL := Lib.hid (Nat.le_trans hbl HL.out)
    have hop := HOP.out
    rw [hu] at hop
    simp only at hop
    have HOP2 := Lib.hid hop
    clear hop HOP hu hun hfn hbl
    have hoa : ∀ (X : World) (A : Option Addr) (c : Nat), Below w2.heap.size w2 X → bb.length ≤ c → c ≤ 9223372036854775807 → Rd X X.heap.size A bb → Calls Tryz.prog 35 #[.pointer (some ⟨B, 0, none⟩), .slice A bb.length c] X (OpdPost (openedS k bb) X) := fun X A c hX h1 h2 h3 => opened_any B bb.length c k A bb X (Blk.keep HK2.out hX) (HT2.out.keep hX) HSS.out rfl (by have := HBL.out; omega) h1 h2 h3
    cases ho : openedS k bb with
    | error n =>
      have hon : ∀ (X : World) (A : Option Addr) (c : Nat), Below w2.heap.size w2 X → bb.length ≤ c → c ≤ 9223372036854775807 → Rd X X.heap.size A bb → Calls Tryz.prog 35 #[.pointer (some ⟨B, 0, none⟩), .slice A bb.length c] X fun e w' => Below X.heap.size X w' ∧ e = .panicked [pE n] := fun X A c hX h1 h2 h3 => (hoa X A c hX h1 h2 h3).mono fun e w' h => by
        unfold OpdPost at h
        rw [ho] at h
        exact h
      have HON := Lib.hid hon
      have hop := HOP2.out
      rw [ho] at hop
      rw [hop]
      clear hop HOP2 ho hon hoa
      refine wp_region_held_drew (S := fun wx => Below w2.heap.size w2 wx) rfl hS0 (fun hHeld => ?_)
      simp only [List.size_toArray, List.length_cons, List.length_nil, Nat.reduceAdd]
      obtain ⟨X0, hX0⟩ : ∃ v, w2.drew = v := ⟨_, rfl⟩
      rw [hX0] at hHeld hS0 ⊢
      clear hX0
      refine wpAnyH_take (i := 0) (v := .pointer (some ⟨B, 0, none⟩)) rfl (by kernel_rfl) (by kernel_rfl) (by kernel_rfl) (fun _ _ _ h => h) (Or.inl ⟨by rfl, ?_⟩) (by assumption) ?_
      · intro wx hs1; have hc := TK.out wx hs1; go_simp
      try simp only [Act.put]
      refine wpAnyH_take (i := 1) (v := .string s) rfl (by kernel_rfl) (by kernel_rfl) (by kernel_rfl) (fun _ _ _ h => h) (Or.inl ⟨by rfl, ?_⟩) (by assumption) ?_
      · intro wx hs1; have hc := TS.out wx hs1; go_simp
      try simp only [Act.put]
      refine wpAnyH_ready (rs := [2]) (by kernel_rfl) (by simp) (AllReadyH.cons rfl (fun K hK => ?_) AllReadyH.nil)
      go_simp
      go_at_call 36
      (with_reducible refine (HFA.out X0).mono ?_)
      rintro e X1 ⟨A, c, hb9, rfl, g1, g2, g3⟩
      have hS1 := hS0.trans (hb9.mono hS0.size)
      clear hb9
      refine hK.out _ _ hS1 (fun hHeld => ?_)
      clear hK K
      try simp only [Act.put]
      refine wpAnyH_ready (rs := [3]) (by kernel_rfl) (by simp) (AllReadyH.cons rfl (fun K hK => ?_) AllReadyH.nil)
      go_simp
      go_at_call 35
      (with_reducible refine (HON.out X1 A c hS1 g1 g2 g3).mono ?_)
      rintro e X9 ⟨hb9, rfl⟩
      exact ⟨rfl, rfl, HB2.out.trans ((hS1.trans (hb9.mono hS1.size)).mono HB2.out.size)⟩
    | ok p =>
      obtain ⟨mm, ss, ii⟩ := p
      have hon : ∀ (X : World) (A : Option Addr) (c : Nat), Below w2.heap.size w2 X → bb.length ≤ c → c ≤ 9223372036854775807 → Rd X X.heap.size A bb → Calls Tryz.prog 35 #[.pointer (some ⟨B, 0, none⟩), .slice A bb.length c] X fun e w' => Below X.heap.size X w' ∧ e = .returned (.agg #[.int .i64 mm, .int .i64 ss, .int .i64 ii]) := fun X A c hX h1 h2 h3 => (hoa X A c hX h1 h2 h3).mono fun e w' h => by
        unfold OpdPost at h
        rw [ho] at h
        exact h
      have HON := Lib.hid hon
      have hop := HOP2.out
      rw [ho] at hop
      rw [hop]
      clear hop HOP2 ho hon hoa
      have hS0' : But (fun b => b = Bd) w2 w2.drew := But.of_all hS0 _
      refine wp_region_held_drew (S := fun wx => But (fun b => b = Bd) w2 wx) rfl hS0' (fun hHeld => ?_)
      simp only [List.size_toArray, List.length_cons, List.length_nil, Nat.reduceAdd]
      obtain ⟨X0, hX0⟩ : ∃ v, w2.drew = v := ⟨_, rfl⟩
      rw [hX0] at hHeld hS0 hS0' ⊢
      clear hX0
      refine wpAnyH_take (i := 0) (v := .pointer (some ⟨B, 0, none⟩)) rfl (by kernel_rfl) (by kernel_rfl) (by kernel_rfl) (fun _ _ _ h => h) (Or.inl ⟨by rfl, ?_⟩) (by assumption) ?_
      · intro wx hs1; have hc := TKB.out wx hs1; go_simp
      try simp only [Act.put]
      refine wpAnyH_take (i := 1) (v := .string s) rfl (by kernel_rfl) (by kernel_rfl) (by kernel_rfl) (fun _ _ _ h => h) (Or.inl ⟨by rfl, ?_⟩) (by assumption) ?_
      · intro wx hs1; have hc := TSB.out wx hs1; go_simp
      try simp only [Act.put]
      refine wpAnyH_ready (rs := [2]) (by kernel_rfl) (by simp) (AllReadyH.cons rfl (fun K hK => ?_) AllReadyH.nil)
      go_simp
      go_at_call 36
      (with_reducible refine (HFA.out X0).mono ?_)
      rintro e X1 ⟨A, c, hb9, rfl, g1, g2, g3⟩
      have hS1 := hS0.trans (hb9.mono hS0.size)
      clear hb9
      refine hK.out _ _ (But.of_all hS1 _) (fun hHeld => ?_)
      clear hK K
      try simp only [Act.put]
      refine wpAnyH_ready (rs := [3]) (by kernel_rfl) (by simp) (AllReadyH.cons rfl (fun K hK => ?_) AllReadyH.nil)
      go_simp
      go_at_call 35
      (with_reducible refine (HON.out X1 A c hS1 g1 g2 g3).mono ?_)
      rintro e X2 ⟨hb9, rfl⟩
      have hS2 := hS1.trans (hb9.mono hS1.size)
      clear hb9
      refine hK.out _ _ (But.of_all hS2 _) (fun hHeld => ?_)
      clear hK K
      try simp only [Act.put]
      have hdv := HD2.out.keep hS2
      have d0 := hdv.cell 0
      have d1 := hdv.cell 1
      have d2 := hdv.cell 2
      have f0 := hdv.frozen 0
      have f1 := hdv.frozen 1
      have f2 := hdv.frozen 2
      simp only [List.getElem?_toArray, List.getElem?_cons_zero, List.getElem?_cons_succ] at d0 d1 d2
      refine wpAnyH_ready (rs := [4]) (by kernel_rfl) (by simp) (AllReadyH.cons rfl (fun K hK => ?_) AllReadyH.nil)
      go_simp
      have hz1 := heap_setCell_same X2 Bd 0 _ 0x18 (.int .i64 mm) hdv
      simp only [List.setIfInBounds_toArray, List.set_cons_zero] at hz1
      have hz2 := heap_setCell_same _ Bd 1 _ 0x18 (.int .i64 ss) hz1
      simp only [List.setIfInBounds_toArray, List.set_cons_succ, List.set_cons_zero] at hz2
      have hz3 := heap_setCell_same _ Bd 2 _ 0x18 (.int .i64 ii) hz2
      simp only [List.setIfInBounds_toArray, List.set_cons_succ, List.set_cons_zero] at hz3
      have hbu : But (fun b => b = Bd) w2 (((X2.setCell ⟨Bd, 0, none⟩ (.int .i64 mm)).setCell ⟨Bd, 1, none⟩ (.int .i64 ss)).setCell ⟨Bd, 2, none⟩ (.int .i64 ii)) := (((But.of_all hS2 (fun b => b = Bd)).set _ _ (.inl rfl)).set _ _ (.inl rfl)).set _ _ (.inl rfl)
      refine hK.out _ _ hbu (fun hHeld => ?_)
      clear hK K d0 d1 d2 f0 f1 f2
      try simp only [Act.put]
      refine wpAnyH_done (by kernel_rfl) ?_ _
      go_end0
      exact ⟨⟨_, rfl⟩, (But.of_all HB2.out (fun b => b = Bd)).trans hbu (fun _ _ e => e), hz3⟩
end Go.Proofs
namespace Go.Proofs
open Go.RowKit Go.Shelf Sm
/-- a deed of opening that ends so, whatever the text -/
theorem Sm.deedO (Bk Bs Bd B : Nat) (k : Kpt) (s : ByteArray) (x0 x1 x2 : Value) (w : World) (hK : KeyAt w B k) (ht : Tabs w) (hs0 : ¬ k.s0 = ⟨#[]⟩) (hss : k.s0.size ≤ 1000 ∧ k.s1.size ≤ 1000 ∧ k.s2.size ≤ 1000) (hm : s.size ≤ 9223372036854775807)
    (hk : w.cell? ⟨Bk, 0, none⟩ = some (.pointer (some ⟨B, 0, none⟩))) (hs : w.cell? ⟨Bs, 0, none⟩ = some (.string s)) (hd : Blk w Bd 0x18 #[x0, x1, x2]) (hlk : Bk < w.heap.size) (hls : Bs < w.heap.size) (hnk : Bk ≠ Bd) (hns : Bs ≠ Bd) :
    Calls Tryz.prog 34 #[.pointer (some ⟨Bk, 0, none⟩), .pointer (some ⟨Bs, 0, none⟩), .pointer (some ⟨Bd, 0, none⟩)] w (DeedO (openS k s) Bd w) := by
  by_cases hl : s.size ≤ 200
  · exact deed29_any Bk Bs Bd B k s x0 x1 x2 w hK ht hs0 hss hl hk hs hd hlk hls hnk hns
  · have ho : openS k s = .error 3 := by unfold openS; rw [if_pos (by omega)]
    rw [ho]
    exact deed29_long Bk Bs Bd B k s w hK hs0 (by omega) hm hk hs hlk hls
set_option maxRecDepth 100000 in
set_option maxHeartbeats 1000000 in
theorem Sm.Open_ok (B : Nat) (k : Kpt) (s : ByteArray) (m n i : Int) (w : World) (hK : KeyAt w B k) (ht : Tabs w) (hs0 : ¬ k.s0 = ⟨#[]⟩) (hss : k.s0.size ≤ 1000 ∧ k.s1.size ≤ 1000 ∧ k.s2.size ≤ 1000) (hm : s.size ≤ 9223372036854775807) (ho : openS k s = .ok (m, n, i)) :
    Calls Tryz.prog 11 #[.pointer (some ⟨B, 0, none⟩), .string s] w fun e w' => e = .returned (.tuple #[.agg #[.int .i64 m, .int .i64 n, .int .i64 i], .int .i64 0]) ∧ Below w.heap.size w w' := by
  have hmf : ∀ (fn : Fn) (first cap : Array Value) (w : World), (Instr.makeFunc fn first cap).run Tryz.prog w = .ok (.func fn first cap) w := fun _ _ _ _ => rfl
  obtain ⟨W0, hW0, hz, hb0, b0, b1, b2⟩ := three_vars w #[.pointer (some ⟨B, 0, none⟩)] #[.string s] #[.int .i64 0, .int .i64 0, .int .i64 0] 0x1b 9 0x18
  have htr := tried_any 34 #[.pointer (some ⟨w.heap.size, 0, none⟩), .pointer (some ⟨w.heap.size + 1, 0, none⟩), .pointer (some ⟨w.heap.size + 1 + 1, 0, none⟩)] enters34 W0 (w.heap.size + 1 + 1) (by omega)
    (fun w' => Blk w' (w.heap.size + 1 + 1) 0x18 #[.int .i64 m, .int .i64 n, .int .i64 i])
    (fun v hv hvz => by
      have := deedO w.heap.size (w.heap.size + 1) (w.heap.size + 1 + 1) B k s _ _ _ v (Blk.keep hK (hb0.trans (hv.mono hb0.size))) (ht.keep (hb0.trans (hv.mono hb0.size))) hs0 hss hm ((b0.keep hv).cell 0) ((b1.keep hv).cell 0) (b2.keep hv) (by omega) (by omega) (by omega) (by omega)
      rw [ho] at this
      exact this)
  have HTR := Lib.hid htr
  have HZ := Lib.hid hz
  have HB0 := Lib.hid hb0
  clear htr hz hb0 b0 b1 b2 hK ht hs0 hss ho
  go_enter Tryz.func11, Tryz.ntmps11
  go_upto_region 1 with fail
  clear hW0
  go_upto_region 2 with (go_at_call 29; (with_reducible refine HTR.out.mono ?_); rintro e w4 ⟨rfl, w2, hD, hz2, hbt, hbt0⟩)
  have hz := HZ.out
  have hD4 : Blk w4 (w.heap.size + 1 + 1) 0x18 #[.int .i64 m, .int .i64 n, .int .i64 i] := hD.but hbt (by omega)
  have d0 := hD4.cell 0
  have d1 := hD4.cell 1
  have d2 := hD4.cell 2
  have f0 := hD4.frozen 0
  have f1 := hD4.frozen 1
  have f2 := hD4.frozen 2
  simp only [List.getElem?_toArray, List.getElem?_cons_zero, List.getElem?_cons_succ] at d0 d1 d2
  have HB4 := Lib.hid (But.below HB0.out hbt0 (fun b e => by have e : b = w.heap.size + 1 + 1 := e; omega))
  have HD4 := Lib.hid hD4
  clear hbt hbt0 hD hz hz2 hD4
  go_wp2
  have hz1 := heap_setCell_same w4 (w.heap.size + 1 + 1) 0 _ 0x18 (.int .i64 m) HD4.out
  simp only [List.setIfInBounds_toArray, List.set_cons_zero] at hz1
  have hz2 := heap_setCell_same _ (w.heap.size + 1 + 1) 1 _ 0x18 (.int .i64 n) hz1
  simp only [List.setIfInBounds_toArray, List.set_cons_succ, List.set_cons_zero] at hz2
  have hz3 := heap_setCell_same _ (w.heap.size + 1 + 1) 2 _ 0x18 (.int .i64 i) hz2
  simp only [List.setIfInBounds_toArray, List.set_cons_succ, List.set_cons_zero] at hz3
  have e0 := Blk.cell hz3 0
  have e1 := Blk.cell hz3 1
  have e2 := Blk.cell hz3 2
  simp only [List.getElem?_toArray, List.getElem?_cons_zero, List.getElem?_cons_succ] at e0 e1 e2
  refine bodyPost_ret (v := .tuple #[.agg #[.int .i64 m, .int .i64 n, .int .i64 i], .int .i64 0]) (by simp [results, Tryz.results11, go_sem, e0, e1, e2]) rfl ⟨rfl, ?_⟩
  exact ((HB4.out.setCell (p := ⟨w.heap.size + 1 + 1, 0, none⟩) (by simp; omega) _).setCell (p := ⟨w.heap.size + 1 + 1, 1, none⟩) (by simp; omega) _).setCell (p := ⟨w.heap.size + 1 + 1, 2, none⟩) (by simp; omega) _
set_option maxRecDepth 100000 in
set_option maxHeartbeats 1000000 in
theorem Sm.Open_no (B : Nat) (k : Kpt) (s : ByteArray) (no : Int) (w : World) (hK : KeyAt w B k) (ht : Tabs w) (hs0 : ¬ k.s0 = ⟨#[]⟩) (hss : k.s0.size ≤ 1000 ∧ k.s1.size ≤ 1000 ∧ k.s2.size ≤ 1000) (hm : s.size ≤ 9223372036854775807) (ho : openS k s = .error no) :
    Calls Tryz.prog 11 #[.pointer (some ⟨B, 0, none⟩), .string s] w fun e w' => e = .returned (.tuple #[.agg #[.int .i64 0, .int .i64 0, .int .i64 0], .int .i64 no]) ∧ Below w.heap.size w w' := by
  have hmf : ∀ (fn : Fn) (first cap : Array Value) (w : World), (Instr.makeFunc fn first cap).run Tryz.prog w = .ok (.func fn first cap) w := fun _ _ _ _ => rfl
  obtain ⟨W0, hW0, hz, hb0, b0, b1, b2⟩ := three_vars w #[.pointer (some ⟨B, 0, none⟩)] #[.string s] #[.int .i64 0, .int .i64 0, .int .i64 0] 0x1b 9 0x18
  have htr := tried_not 34 #[.pointer (some ⟨w.heap.size, 0, none⟩), .pointer (some ⟨w.heap.size + 1, 0, none⟩), .pointer (some ⟨w.heap.size + 1 + 1, 0, none⟩)] enters34 W0 no
    (fun v hv => by
      have hvz := hv.size
      have := deedO w.heap.size (w.heap.size + 1) (w.heap.size + 1 + 1) B k s _ _ _ v (Blk.keep hK (hb0.trans (hv.mono hb0.size))) (ht.keep (hb0.trans (hv.mono hb0.size))) hs0 hss hm ((b0.keep hv).cell 0) ((b1.keep hv).cell 0) (b2.keep hv) (by omega) (by omega) (by omega) (by omega)
      rw [ho] at this
      exact this)
  have HTR := Lib.hid htr
  have HZ := Lib.hid hz
  have HB0 := Lib.hid hb0
  have HD := Lib.hid b2
  clear htr hz hb0 b0 b1 b2 hK ht hs0 hss ho
  go_enter Tryz.func11, Tryz.ntmps11
  go_upto_region 1 with fail
  clear hW0
  go_upto_region 2 with (go_at_call 29; (with_reducible refine HTR.out.mono ?_); rintro e w4 ⟨rfl, hbt⟩)
  have hz := HZ.out
  have hD4 : Blk w4 (w.heap.size + 1 + 1) 0x18 #[.int .i64 0, .int .i64 0, .int .i64 0] := HD.out.keep hbt
  have d0 := hD4.cell 0
  have d1 := hD4.cell 1
  have d2 := hD4.cell 2
  have f0 := hD4.frozen 0
  have f1 := hD4.frozen 1
  have f2 := hD4.frozen 2
  simp only [List.getElem?_toArray, List.getElem?_cons_zero, List.getElem?_cons_succ] at d0 d1 d2
  have HB4 := Lib.hid (HB0.out.trans (hbt.mono HB0.out.size))
  have HD4 := Lib.hid hD4
  clear hbt hz hD4
  go_wp2
  have hz1 := heap_setCell_same w4 (w.heap.size + 1 + 1) 0 _ 0x18 (.int .i64 0) HD4.out
  simp only [List.setIfInBounds_toArray, List.set_cons_zero] at hz1
  have hz2 := heap_setCell_same _ (w.heap.size + 1 + 1) 1 _ 0x18 (.int .i64 0) hz1
  simp only [List.setIfInBounds_toArray, List.set_cons_succ, List.set_cons_zero] at hz2
  have hz3 := heap_setCell_same _ (w.heap.size + 1 + 1) 2 _ 0x18 (.int .i64 0) hz2
  simp only [List.setIfInBounds_toArray, List.set_cons_succ, List.set_cons_zero] at hz3
  have e0 := Blk.cell hz3 0
  have e1 := Blk.cell hz3 1
  have e2 := Blk.cell hz3 2
  simp only [List.getElem?_toArray, List.getElem?_cons_zero, List.getElem?_cons_succ] at e0 e1 e2
  refine bodyPost_ret (v := .tuple #[.agg #[.int .i64 0, .int .i64 0, .int .i64 0], .int .i64 no]) (by simp [results, Tryz.results11, go_sem, e0, e1, e2]) rfl ⟨rfl, ?_⟩
  exact ((HB4.out.setCell (p := ⟨w.heap.size + 1 + 1, 0, none⟩) (by simp; omega) _).setCell (p := ⟨w.heap.size + 1 + 1, 1, none⟩) (by simp; omega) _).setCell (p := ⟨w.heap.size + 1 + 1, 2, none⟩) (by simp; omega) _
end Go.Proofs
namespace Go.Proofs
open Go.RowKit Go.Shelf Sm
theorem Sm.numO_lay (x : Int) (most : Int) (r : List (BitVec 8)) (h0 : 0 ≤ x) (h1 : x ≤ most) (h2 : x ≤ 4611686018427387904) : numO (numB x.toNat ++ r) most = some (r, x) := by
  have hg := getN_numB (n := x.toNat) (by unfold top; omega) r
  unfold numO
  rw [hg]
  simp only
  rw [if_pos (by omega), drop_numB]
  congr 2
  omega
theorem Sm.numsB_cons4 (n m s i : Int) : numsB [n, m, s, i] = numB n.toNat ++ (numB m.toNat ++ (numB s.toNat ++ numB i.toNat)) := by simp [numsB]
theorem Sm.tokB_length (s0 : ByteArray) (n m s i : Int) : (tokB s0 n m s i).length = (numsB [n, m, s, i]).length + 16 := by
  unfold tokB
  rw [List.length_append, List.length_take, tagS_length]
  rfl
theorem Sm.opened_tok (k : Kpt) (s0 : ByteArray) (n m s i : Int) (hn : 0 ≤ n ∧ n ≤ 2147483647) (hT : TokOK m s i) :
    openedS k (tokB s0 n m s i) = match findS k n with
      | none => .error 162
      | some p => if (tagS (keyS p.2) (numsB [n, m, s, i])).take 16 = (tagS (keyS s0) (numsB [n, m, s, i])).take 16 then .ok (m, s, i) else .error 161 := by
  obtain ⟨⟨t0, t1⟩, ⟨t2, t3⟩, t4, t5⟩ := hT
  have hl := tokB_length s0 n m s i
  obtain ⟨TG, hTG⟩ : ∃ x, (tagS (keyS s0) (numsB [n, m, s, i])).take 16 = x := ⟨_, rfl⟩
  have htl : TG.length = 16 := by rw [← hTG, List.length_take, tagS_length]; rfl
  have e0 : tokB s0 n m s i = numsB [n, m, s, i] ++ TG := by unfold tokB; rw [hTG]
  have e1 : numsB [n, m, s, i] ++ TG = numB n.toNat ++ (numB m.toNat ++ (numB s.toNat ++ (numB i.toNat ++ TG))) := by rw [numsB_cons4]; simp only [List.append_assoc]
  have h1 : numO (tokB s0 n m s i) 2147483647 = some (numB m.toNat ++ (numB s.toNat ++ (numB i.toNat ++ TG)), n) := by rw [e0, e1]; exact numO_lay _ _ _ hn.1 hn.2 (by omega)
  have h2 : numO (numB m.toNat ++ (numB s.toNat ++ (numB i.toNat ++ TG))) 15 = some (numB s.toNat ++ (numB i.toNat ++ TG), m) := numO_lay _ _ _ t0 (by omega) (by omega)
  have h3 : numO (numB s.toNat ++ (numB i.toNat ++ TG)) 2147483647 = some (numB i.toNat ++ TG, s) := numO_lay _ _ _ t2 t3 (by omega)
  have h4 : numO (numB i.toNat ++ TG) 2147483647 = some (TG, i) := numO_lay _ _ _ t4 t5 (by omega)
  have h5 : (tokB s0 n m s i).take ((tokB s0 n m s i).length - 16) = numsB [n, m, s, i] := by
    rw [hl, Nat.add_sub_cancel, e0, List.take_append_of_le_length (Nat.le_refl _), List.take_of_length_le (Nat.le_refl _)]
  have h6 : (tokB s0 n m s i).drop ((tokB s0 n m s i).length - 16) = TG := by
    rw [hl, Nat.add_sub_cancel, e0, List.drop_append_of_le_length (Nat.le_refl _), List.drop_of_length_le (Nat.le_refl _), List.nil_append]
  simp only [openedS, h1, h2, h3, h4, htl, h5, h6, if_true, hTG]
  cases findS k n <;> rfl
theorem Sm.strB_length (l : List (BitVec 8)) : (strB l).size = l.length := by
  have := sB_length (strB l)
  rw [sB_strB] at this
  exact this.symm
theorem Sm.tok_size (s0 : ByteArray) (n m s i : Int) (hn : 0 ≤ n ∧ n ≤ 2147483647) (hT : TokOK m s i) : (strB (spellS (tokB s0 n m s i))).size ≤ 84 := by
  rw [strB_length, spellS_length]
  have h1 := tokB_length s0 n m s i
  have h2 := (numsB_four n m s i hn hT).2.2
  have h3 : cntW 8 5 (tokB s0 n m s i).length = (8 * (tokB s0 n m s i).length + 4) / 5 := rfl
  omega
/-- what is made opens, as long as its master is kept -/
theorem Sm.open_kept (k : Kpt) (s0 : ByteArray) (n m s i : Int) (hn : 0 ≤ n ∧ n ≤ 2147483647) (hT : TokOK m s i) (hf : findS k n = some (n, s0)) : openS k (strB (spellS (tokB s0 n m s i))) = .ok (m, s, i) := by
  have hz := tok_size s0 n m s i hn hT
  unfold openS
  rw [if_neg (by omega), sB_strB, unspell_spell]
  simp only
  rw [opened_tok k s0 n m s i hn hT, hf]
  simp
theorem Sm.open_gone (k : Kpt) (s0 : ByteArray) (n m s i : Int) (hn : 0 ≤ n ∧ n ≤ 2147483647) (hT : TokOK m s i) (hf : findS k n = none) : openS k (strB (spellS (tokB s0 n m s i))) = .error 162 := by
  have hz := tok_size s0 n m s i hn hT
  unfold openS
  rw [if_neg (by omega), sB_strB, unspell_spell]
  simp only
  rw [opened_tok k s0 n m s i hn hT, hf]
end Go.Proofs
namespace Go.Proofs
open Go.RowKit Go.Shelf Sm
def Sm.oneB : ByteArray := ⟨#[111, 110, 101]⟩
def Sm.twoB : ByteArray := ⟨#[116, 119, 111]⟩
def Sm.threeB : ByteArray := ⟨#[116, 104, 114, 101, 101]⟩
def Sm.fourB : ByteArray := ⟨#[102, 111, 117, 114]⟩
def Sm.kA : Kpt := turnK zeroK 0 oneB
def Sm.kB : Kpt := turnK kA 1 twoB
def Sm.kC : Kpt := turnK kB 2 threeB
def Sm.kD : Kpt := turnK kC 3 fourB
theorem Sm.find_kC : findS kC 0 = some (0, oneB) := by kernel_rfl
theorem Sm.find_kD : findS kD 0 = none := by kernel_rfl
theorem Sm.un_a : unspellS (sB ⟨#[97]⟩) = none := by decide +kernel
theorem Sm.un_ab : unspellS (sB ⟨#[97, 98]⟩) = none := by decide +kernel
theorem Sm.un_A7 : unspellS (sB ⟨#[65, 55]⟩) = none := by decide +kernel
theorem Sm.tok315 : TokOK 3 1 5 := by unfold TokOK; omega
theorem Sm.ne_of_size {s : ByteArray} (h : 0 < s.size) : ¬ s = ⟨#[]⟩ := by
  rintro rfl
  exact absurd h (by decide)
set_option maxRecDepth 100000 in
set_option maxHeartbeats 400000 in
theorem Sm.num_any (n : Int) (w : World) : Calls Tryz.prog 12 #[.int .i64 n] w fun e w' => e = .returned (.int .i64 n) ∧ w = w' := by
  go_enter Tryz.func12, Tryz.ntmps12
  go_wp2
  go_ret
  exact ⟨rfl, rfl⟩
set_option maxRecDepth 100000 in
set_option maxHeartbeats 400000 in
theorem Sm.Newest_k (w : World) (v : Value) (k : Kpt) (h : KeyV w v k) : Calls Tryz.prog 14 #[v] w fun e w' => e = .returned (.int .i64 k.n0) ∧ Below w.heap.size w w' := Newest_any w v k h
theorem Sm.sp_nil : spellS [] = [] := by decide +kernel
theorem Sm.sp_one : spellS [0#8] = [97#8, 97#8] := by decide +kernel
theorem Sm.sp_five : spellS [255#8, 255#8, 255#8, 255#8, 255#8] = [55#8, 55#8, 55#8, 55#8, 55#8, 55#8, 55#8, 55#8] := by decide +kernel
theorem Sm.Sp0 (v : World) : Calls Tryz.prog 26 #[.slice none 0 0] v fun e w' => e = .returned (.string ⟨#[]⟩) ∧ Below v.heap.size v w' := by
  have := Spell_any 0 0 none [] v rfl (by decide) Rd.nil
  rw [sp_nil] at this
  exact this
theorem Sm.rd_blk {v : World} {g : Nat} {l : List (BitVec 8)} (h : Blk v g 5 (l.map byteCell).toArray) : Rd v v.heap.size (some ⟨g, 0, none⟩) l := fun _ => ⟨g, 0, rfl, h.lt, fun j c hj => by
  rw [Nat.zero_add, h.cell j]
  simp [hj, byteCell]⟩
theorem Sm.Sp1 (v : World) : Calls Tryz.prog 26 #[.slice (some ⟨v.heap.size, 0, none⟩) 1 1] (v.alloc (.cells #[.int .u8 0] 5)) fun e w' => e = .returned (.string ⟨#[97, 97]⟩) ∧ Below v.heap.size v w' := by
  have hb : Below v.heap.size v (v.alloc (.cells #[.int .u8 0] 5)) := (Below.refl _ _).alloc (Nat.le_refl _) _
  have := Spell_any 1 1 (some ⟨v.heap.size, 0, none⟩) [0#8] (v.alloc (.cells #[.int .u8 0] 5)) rfl (by decide) (rd_blk (Blk.new v 5 _))
  rw [sp_one] at this
  exact this.mono fun e w' h => ⟨h.1, hb.trans (h.2.mono hb.size)⟩
theorem Sm.Sp5 (v : World) : Calls Tryz.prog 26 #[.slice (some ⟨v.heap.size, 0, none⟩) 5 5] (v.alloc (.cells #[.int .u8 255, .int .u8 255, .int .u8 255, .int .u8 255, .int .u8 255] 5)) fun e w' => e = .returned (.string ⟨#[55, 55, 55, 55, 55, 55, 55, 55]⟩) ∧ Below v.heap.size v w' := by
  have hb : Below v.heap.size v (v.alloc (.cells #[.int .u8 255, .int .u8 255, .int .u8 255, .int .u8 255, .int .u8 255] 5)) := (Below.refl _ _).alloc (Nat.le_refl _) _
  have := Spell_any 5 5 (some ⟨v.heap.size, 0, none⟩) [255#8, 255#8, 255#8, 255#8, 255#8] (v.alloc (.cells #[.int .u8 255, .int .u8 255, .int .u8 255, .int .u8 255, .int .u8 255] 5)) rfl (by decide) (rd_blk (Blk.new v 5 _))
  rw [sp_five] at this
  exact this.mono fun e w' h => ⟨h.1, hb.trans (h.2.mono hb.size)⟩
set_option maxRecDepth 100000 in
set_option maxHeartbeats 4000000 in
theorem Sm.works_any (w : World) (ht : Tabs w) : Calls Tryz.prog 8 #[] w fun e w' => e = .returned (.bool true) ∧ Below w.heap.size w w' := by
  have hu1 := fun v => Unspell_no ⟨#[97]⟩ v (by decide) un_a
  have hu2 := fun v => Unspell_no ⟨#[97, 98]⟩ v (by decide) un_ab
  have hu3 := fun v => Unspell_no ⟨#[65, 55]⟩ v (by decide) un_A7
  have HU1 := Lib.hid hu1
  have HU2 := Lib.hid hu2
  have HU3 := Lib.hid hu3
  have HT := Lib.hid ht
  clear hu1 hu2 hu3 ht
  go_enter Tryz.func8, Tryz.ntmps8
  go_upto_region 4 with (go_at_call 24; first
    | ((with_reducible refine (HU1.out _).mono ?_); rintro e w1 ⟨rfl, hb1⟩)
    | ((with_reducible refine (HU2.out _).mono ?_); rintro e w2 ⟨rfl, hb2⟩)
    | ((with_reducible refine (HU3.out _).mono ?_); rintro e w3 ⟨rfl, hb3⟩))
  have hb3w : Below w.heap.size w w3 := (hb1.trans (hb2.mono hb1.size)).trans (hb3.mono (Nat.le_trans hb1.size hb2.size))
  have HB3 := Lib.hid hb3w
  have HKN := Lib.hid (KNew_ok oneB w3 (by decide) (by decide))
  clear hb1 hb2 hb3 hb3w HU1 HU2 HU3
  unfold oneB at HKN
  go_upto_region 5 with (go_at_call 25; (with_reducible refine HKN.out.mono ?_); rintro e w4 ⟨B, rfl, hB3, hk4, hb4⟩)
  have hb4w := HB3.out.trans (hb4.mono HB3.out.size)
  have hBw : w.heap.size ≤ B := Nat.le_trans HB3.out.size hB3
  have hB4 := Blk.lt hk4
  obtain ⟨T, hT⟩ : ∃ b, w4.heap.size = b := ⟨_, rfl⟩
  obtain ⟨W5, hW5⟩ : ∃ x, w4.alloc (.cells #[.int .i64 3, .int .i64 1, .int .i64 5] 0x18) = x := ⟨_, rfl⟩
  have hb5 : Below w4.heap.size w4 W5 := by rw [← hW5]; exact (Below.refl _ _).alloc (Nat.le_refl _) _
  have ht5 : Blk W5 T 0x18 #[.int .i64 3, .int .i64 1, .int .i64 5] := by rw [← hW5, ← hT]; exact Blk.new w4 0x18 _
  have hk5 : KeyAt W5 B kA := Blk.keep hk4 hb5
  have hTB : T ≠ B := by omega
  have hTw : w.heap.size ≤ T := by have := hb4w.size; omega
  have HB5 := Lib.hid (hb4w.trans (hb5.mono hb4w.size))
  have HK5 := Lib.hid hk5
  have HT5 := Lib.hid ht5
  have HW5 := Lib.hid hW5
  clear hb4w hB4 hW5 hb5 ht5 hk5 hk4 hb4 HKN hB3 HB3
  go_upto_region 6 with fail
  rw [HW5.out]
  clear hT HW5
  have t0 := HT5.out.cell 0
  have t1 := HT5.out.cell 1
  have t2 := HT5.out.cell 2
  simp only [List.getElem?_toArray, List.getElem?_cons_zero, List.getElem?_cons_succ] at t0 t1 t2
  have htl := HT5.out.lt
  have hmk := Make_ok B kA 3 1 5 W5 HK5.out (HT.out.keep HB5.out) (ne_of_size (by decide)) (by decide) (by decide) tok315
  have hok : openS kC (strB (spellS (tokB kA.s0 kA.n0 3 1 5))) = .ok (3, 1, 5) := open_kept kC oneB 0 3 1 5 (by decide) tok315 find_kC
  have hno : openS kD (strB (spellS (tokB kA.s0 kA.n0 3 1 5))) = .error 162 := open_gone kD oneB 0 3 1 5 (by decide) tok315 find_kD
  have htz : (strB (spellS (tokB kA.s0 kA.n0 3 1 5))).size ≤ 84 := tok_size oneB 0 3 1 5 (by decide) tok315
  obtain ⟨TX, hTX⟩ : ∃ x, strB (spellS (tokB kA.s0 kA.n0 3 1 5)) = x := ⟨_, rfl⟩
  rw [hTX] at hmk hok hno htz
  have HMK := Lib.hid hmk
  have HOK := Lib.hid hok
  have HNO := Lib.hid hno
  have HTZ := Lib.hid htz
  clear hmk hok hno htz hTX
  go_upto_region 7 with (go_at_call 10; (with_reducible refine HMK.out.mono ?_); rintro e w6 ⟨rfl, hb6⟩)
  have hk6 : KeyAt w6 B kA := Blk.keep HK5.out hb6
  have HT6 := Lib.hid (HT5.out.keep hb6)
  have HB6 := Lib.hid (HB5.out.trans (hb6.mono HB5.out.size))
  have htu := Turn_ok twoB B kA w6 (by decide) (by decide) hk6 (ne_of_size (by decide)) (by decide) (by decide)
  unfold twoB at htu
  have HTU := Lib.hid htu
  have hth := fun v (h : KeyAt v B kB) => Turn_ok threeB B kB v (by decide) (by decide) h (ne_of_size (by decide)) (by decide) (by decide)
  unfold threeB at hth
  have HTH := Lib.hid hth
  clear hb6 hk6 htu hth HT5 HB5 HK5 t0 t1 t2 htl HMK
  go_upto_region 8 with (go_at_call 13; first
    | ((with_reducible refine HTU.out.mono ?_); rintro e w7 ⟨rfl, hk7, hbt7⟩; have hq7 : KeyAt w7 B kB := hk7)
    | ((with_reducible refine (HTH.out w7 hq7).mono ?_); rintro e w8 ⟨rfl, hk8, hbt8⟩))
  have hbt68 : But (fun b => b = B) w6 w8 := hbt7.trans hbt8 (fun _ _ e => e)
  have HT8 := Lib.hid (HT6.out.but hbt68 hTB)
  have HB8 := Lib.hid (But.below HB6.out hbt68 (fun b e => by have e : b = B := e; omega))
  have HK8 : Hid (KeyAt w8 B kC) := Lib.hid hk8
  clear hk7 hq7 hbt7 hbt8 hbt68 hk8 HTU HTH HT6 HB6
  have hop := Open_ok B kC TX 3 1 5 w8 HK8.out (HT.out.keep HB8.out) (ne_of_size (by decide)) (by decide) (by have := HTZ.out; omega) HOK.out
  have HOP := Lib.hid hop
  clear hop
  go_upto_region 9 with (go_at_call 11; (with_reducible refine HOP.out.mono ?_); rintro e w9 ⟨rfl, hb9⟩)
  have hU9 : KeyAt w9 B kC := Blk.keep HK8.out hb9
  obtain ⟨U, hU⟩ : ∃ b, w9.heap.size = b := ⟨_, rfl⟩
  obtain ⟨W10, hW10⟩ : ∃ x, w9.alloc (.cells #[.int .i64 3, .int .i64 1, .int .i64 5] 0x18) = x := ⟨_, rfl⟩
  have hb10 : Below w9.heap.size w9 W10 := by rw [← hW10]; exact (Below.refl _ _).alloc (Nat.le_refl _) _
  have hu10 : Blk W10 U 0x18 #[.int .i64 3, .int .i64 1, .int .i64 5] := by rw [← hW10, ← hU]; exact Blk.new w9 0x18 _
  have hb810 : Below w8.heap.size w8 W10 := hb9.trans (hb10.mono hb9.size)
  have hUB : U ≠ B := by have := Blk.lt hU9; omega
  have HK10 : Hid (KeyAt W10 B kC) := Lib.hid (Blk.keep HK8.out hb810)
  have HT10 := Lib.hid (HT8.out.keep hb810)
  have HB10 := Lib.hid (HB8.out.trans (hb810.mono HB8.out.size))
  have HU10 := Lib.hid hu10
  have HW10 := Lib.hid hW10
  have htf := Turn_ok fourB B kC W10 (by decide) (by decide) HK10.out (ne_of_size (by decide)) (by decide) (by decide)
  unfold fourB at htf
  have HTF := Lib.hid htf
  have HWU := Lib.hid hU
  clear htf hb10 hu10 hb810 hW10 hb9 hU9 hU HOP HOK HK8 HT8 HB8
  rw [HWU.out] at *
  rw [HW10.out]
  go_upto_region 10 with (go_at_call 13; (with_reducible refine HTF.out.mono ?_); rintro e w11 ⟨rfl, hk11, hbt11⟩)
  have HK11 : Hid (KeyAt w11 B kD) := Lib.hid hk11
  have HT11 := Lib.hid (HT10.out.but hbt11 hTB)
  have HU11 := Lib.hid (HU10.out.but hbt11 hUB)
  have HB11 := Lib.hid (But.below HB10.out hbt11 (fun b e => by have e : b = B := e; omega))
  have hop := Open_no B kD TX 162 w11 HK11.out (HT.out.keep HB11.out) (ne_of_size (by decide)) (by decide) (by have := HTZ.out; omega) HNO.out
  have HOP := Lib.hid hop
  clear hop hk11 hbt11 HTF HNO HK10 HT10 HU10 HB10
  go_upto_region 11 with (go_at_call 11; (with_reducible refine HOP.out.mono ?_); rintro e w12 ⟨rfl, hb12⟩)
  obtain ⟨X12, hX12⟩ : ∃ x, w12.alloc (.cells #[.int .i64 0, .int .i64 0, .int .i64 0] 0x18) = x := ⟨_, rfl⟩
  have hbX : Below w11.heap.size w11 X12 := by rw [← hX12]; exact hb12.alloc hb12.size _
  have HK12 : Hid (KeyAt X12 B kD) := Lib.hid (Blk.keep HK11.out hbX)
  have HT12 := Lib.hid (HT11.out.keep hbX)
  have HU12 := Lib.hid (HU11.out.keep hbX)
  have HB12 := Lib.hid (HB11.out.trans (hbX.mono HB11.out.size))
  rw [hX12]
  clear hX12 hbX hb12 HK11 HT11 HU11 HB11 HOP HT HW10 HWU hUB hTB hTw hBw
  have HS0 := Lib.hid Sp0
  have HS1 := Lib.hid Sp1
  have HS5 := Lib.hid Sp5
  have hnw : ∀ v, KeyAt v B kD → Calls Tryz.prog 14 #[.pointer (some ⟨B, 0, none⟩)] v fun e w' => e = .returned (.int .i64 3) ∧ Below v.heap.size v w' := fun v h => Newest_k v (.pointer (some ⟨B, 0, none⟩)) kD (.inr ⟨B, rfl, h⟩)
  have HNW := Lib.hid hnw
  clear hnw
  go_wp2_with (first
    | (go_at_call 26; first
      | ((with_reducible refine (HS0.out _).mono ?_); rintro e w13 ⟨rfl, hb13⟩)
      | ((with_reducible refine (HS1.out _).mono ?_); rintro e w14 ⟨rfl, hb14⟩)
      | ((with_reducible refine (HS5.out _).mono ?_); rintro e w15 ⟨rfl, hb15⟩; have hbz : Below X12.heap.size X12 w15 := (hb13.trans (hb14.mono hb13.size)).trans (hb15.mono (Nat.le_trans hb13.size hb14.size)); have hk15 : KeyAt w15 B kD := Blk.keep HK12.out hbz; have hT15 := HT12.out.keep hbz; have hU15 := HU12.out.keep hbz; have t0 := hT15.cell 0; have t1 := hT15.cell 1; have t2 := hT15.cell 2; have u0 := hU15.cell 0; have u1 := hU15.cell 1; have u2 := hU15.cell 2; simp only [List.getElem?_toArray, List.getElem?_cons_zero, List.getElem?_cons_succ] at t0 t1 t2 u0 u1 u2))
    | (go_at_call 12; (with_reducible refine (num_any _ _).mono ?_); rintro e w16 ⟨rfl, rfl⟩)
    | (go_at_call 14; (with_reducible refine (HNW.out w15 hk15).mono ?_); rintro e w17 ⟨rfl, hb17⟩))
  go_ret
  exact ⟨rfl, HB12.out.trans ((hbz.trans (hb17.mono hbz.size)).mono HB12.out.size)⟩
end Go.Proofs
namespace Go.Proofs
open Go.RowKit Go.Shelf Sm
/-- keys of the document -/
structure Sm.Kd where
  first : Int
  ms : List ByteArray
/-- what the code keeps of them -/
def Sm.Kd.pt (d : Kd) : Kpt := match d.ms with
  | [a] => ⟨d.first, a, 0, ⟨#[]⟩, 0, ⟨#[]⟩⟩
  | [a, b] => ⟨d.first + 1, b, d.first, a, 0, ⟨#[]⟩⟩
  | [a, b, c] => ⟨d.first + 2, c, d.first + 1, b, d.first, a⟩
  | _ => zeroK
/-- behind a turn -/
def Sm.Kd.turn (d : Kd) (m : ByteArray) : Kd := if d.ms.length ≤ 2 then ⟨d.first, d.ms ++ [m]⟩ else ⟨d.first + 1, d.ms.tail ++ [m]⟩
/-- keys that may be, behind at most j turns -/
structure Sm.Kd.OK (d : Kd) (j : Nat) : Prop where
  some : 1 ≤ d.ms.length
  most : d.ms.length ≤ 3
  size : ∀ x ∈ d.ms, 1 ≤ x.size ∧ x.size ≤ 64
  lo : 0 ≤ d.first
  hi : d.first + d.ms.length ≤ j + 1
theorem Sm.Kd.ways {d : Kd} {j : Nat} (h : d.OK j) : (∃ a, d = ⟨d.first, [a]⟩) ∨ (∃ a b, d = ⟨d.first, [a, b]⟩) ∨ ∃ a b c, d = ⟨d.first, [a, b, c]⟩ := by
  obtain ⟨f, ms⟩ := d
  have h1 := h.some
  have h2 := h.most
  simp only at h1 h2
  match ms, h1, h2 with
  | [a], _, _ => exact .inl ⟨a, rfl⟩
  | [a, b], _, _ => exact .inr (.inl ⟨a, b, rfl⟩)
  | [a, b, c], _, _ => exact .inr (.inr ⟨a, b, c, rfl⟩)
theorem Sm.Kd.more {d : Kd} {j : Nat} (h : d.OK j) : d.OK (j + 1) := ⟨h.some, h.most, h.size, h.lo, by have := h.hi; omega⟩
theorem Sm.Kd.new {m : ByteArray} (h1 : 1 ≤ m.size) (h2 : m.size ≤ 64) : (Kd.mk 0 [m]).OK 0 := ⟨by simp, by simp, by simp; exact ⟨h1, h2⟩, by simp, by simp⟩
theorem Sm.Kd.new_pt (m : ByteArray) : (Kd.mk 0 [m]).pt = turnK zeroK 0 m := rfl
theorem Sm.Kd.turn_ok {d : Kd} {j : Nat} (h : d.OK j) {m : ByteArray} (h1 : 1 ≤ m.size) (h2 : m.size ≤ 64) : (d.turn m).OK (j + 1) := by
  have hs := h.some
  have hm := h.most
  have hl := h.lo
  have hh := h.hi
  unfold Kd.turn
  by_cases hc : d.ms.length ≤ 2
  · rw [if_pos hc]
    refine ⟨by simp, by simp; omega, ?_, hl, by simp; omega⟩
    intro x hx
    simp at hx
    rcases hx with hx | rfl
    · exact h.size x hx
    · exact ⟨h1, h2⟩
  · rw [if_neg hc]
    refine ⟨by simp, by simp; omega, ?_, by show 0 ≤ d.first + 1; omega, by simp; omega⟩
    intro x hx
    simp at hx
    rcases hx with hx | rfl
    · exact h.size x (List.mem_of_mem_tail hx)
    · exact ⟨h1, h2⟩
theorem Sm.Kd.turn_pt {d : Kd} {j : Nat} (h : d.OK j) (m : ByteArray) : (d.turn m).pt = turnK d.pt (d.pt.n0 + 1) m := by
  rcases Kd.ways h with ⟨a, e⟩ | ⟨a, b, e⟩ | ⟨a, b, c, e⟩
  · rw [e]; rfl
  · rw [e]
    show (⟨d.first + 2, m, d.first + 1, b, d.first, a⟩ : Kpt) = ⟨d.first + 1 + 1, m, d.first + 1, b, d.first, a⟩
    congr 1
    omega
  · rw [e]
    show (⟨d.first + 1 + 2, m, d.first + 1 + 1, c, d.first + 1, b⟩ : Kpt) = ⟨d.first + 2 + 1, m, d.first + 2, c, d.first + 1, b⟩
    congr 1 <;> omega
theorem Sm.Kd.num {d : Kd} {j : Nat} (h : d.OK j) : d.pt.n0 = d.first + d.ms.length - 1 := by
  rcases Kd.ways h with ⟨a, e⟩ | ⟨a, b, e⟩ | ⟨a, b, c, e⟩
  · rw [e]; show d.first = d.first + ((1 : Nat) : Int) - 1; omega
  · rw [e]; show d.first + 1 = d.first + ((2 : Nat) : Int) - 1; omega
  · rw [e]; show d.first + 2 = d.first + ((3 : Nat) : Int) - 1; omega
theorem Sm.ne_of_sizeG {s : ByteArray} (h : 1 ≤ s.size) : ¬ s = ⟨#[]⟩ := by
  rintro rfl
  exact absurd h (by decide)
theorem Sm.Kd.last {d : Kd} {j : Nat} (h : d.OK j) : ∃ hl : d.ms.length - 1 < d.ms.length, d.pt.s0 = d.ms[d.ms.length - 1] := by
  have hs := h.some
  refine ⟨by omega, ?_⟩
  rcases Kd.ways h with ⟨a, e⟩ | ⟨a, b, e⟩ | ⟨a, b, c, e⟩
  · revert hs; rw [e]; intro _; rfl
  · revert hs; rw [e]; intro _; rfl
  · revert hs; rw [e]; intro _; rfl
theorem Sm.Kd.there {d : Kd} {j : Nat} (h : d.OK j) : ¬ d.pt.s0 = ⟨#[]⟩ := by
  obtain ⟨hl, e⟩ := Kd.last h
  rw [e]
  exact ne_of_sizeG (h.size _ (List.getElem_mem hl)).1
theorem Sm.Kd.sizes {d : Kd} {j : Nat} (h : d.OK j) : d.pt.s0.size ≤ 1000 ∧ d.pt.s1.size ≤ 1000 ∧ d.pt.s2.size ≤ 1000 := by
  have hz : (⟨#[]⟩ : ByteArray).size = 0 := rfl
  have hs := h.size
  rcases Kd.ways h with ⟨a, e⟩ | ⟨a, b, e⟩ | ⟨a, b, c, e⟩
  · rw [e] at hs ⊢
    have ha := hs a (by simp)
    exact ⟨by show a.size ≤ 1000; omega, by show (⟨#[]⟩ : ByteArray).size ≤ 1000; omega, by show (⟨#[]⟩ : ByteArray).size ≤ 1000; omega⟩
  · rw [e] at hs ⊢
    have ha := hs a (by simp)
    have hb := hs b (by simp)
    exact ⟨by show b.size ≤ 1000; omega, by show a.size ≤ 1000; omega, by show (⟨#[]⟩ : ByteArray).size ≤ 1000; omega⟩
  · rw [e] at hs ⊢
    have ha := hs a (by simp)
    have hb := hs b (by simp)
    have hc := hs c (by simp)
    exact ⟨by show c.size ≤ 1000; omega, by show b.size ≤ 1000; omega, by show a.size ≤ 1000; omega⟩
theorem Sm.hitK_of {k : Kpt} {n : Int} {i : Nat} {m : Int} {s : ByteArray} (h : pickK k i = (m, s)) (hs : 1 ≤ s.size) : hitK k n i = decide (m = n) := by
  unfold hitK thB
  rw [h]
  simp
  intro _
  omega
theorem Sm.hitK_no {k : Kpt} {n : Int} {i : Nat} {m : Int} (h : pickK k i = (m, ⟨#[]⟩)) : hitK k n i = false := by
  unfold hitK
  rw [h]
  rfl
/-- which master of the document goes by a number -/
theorem Sm.Kd.find {d : Kd} {j : Nat} (h : d.OK j) {n : Int} (i : Nat) (hi : i < d.ms.length) (hn : n = d.first + i) : findS d.pt n = some (n, d.ms[i]) := by
  subst hn
  have hs := h.size
  rcases Kd.ways h with ⟨a, e⟩ | ⟨a, b, e⟩ | ⟨a, b, c, e⟩
  · revert hi; rw [e] at hs ⊢; intro hi
    obtain rfl : i = 0 := by simp at hi; exact hi
    have ha := hs a (by simp)
    have h0 : hitK (Kd.mk d.first [a]).pt (d.first + ((0 : Nat) : Int)) 0 = true := by rw [hitK_of (show pickK (Kd.mk d.first [a]).pt 0 = (d.first, a) from rfl) ha.1]; simp <;> omega
    unfold findS
    rw [if_pos h0]
    show some (d.first, a) = some (d.first + ((0 : Nat) : Int), a)
    congr 2
    omega
  · revert hi; rw [e] at hs ⊢; intro hi
    have ha := hs a (by simp)
    have hb := hs b (by simp)
    match i, hi with
    | 0, hi =>
      have h0 : hitK (Kd.mk d.first [a, b]).pt (d.first + ((0 : Nat) : Int)) 0 = false := by rw [hitK_of (show pickK (Kd.mk d.first [a, b]).pt 0 = (d.first + 1, b) from rfl) hb.1]; simp <;> omega
      have h1 : hitK (Kd.mk d.first [a, b]).pt (d.first + ((0 : Nat) : Int)) 1 = true := by rw [hitK_of (show pickK (Kd.mk d.first [a, b]).pt 1 = (d.first, a) from rfl) ha.1]; simp <;> omega
      unfold findS
      rw [if_neg (by rw [h0]; decide), if_pos h1]
      show some (d.first, a) = some (d.first + ((0 : Nat) : Int), a)
      congr 2
      omega
    | 1, hi =>
      have h0 : hitK (Kd.mk d.first [a, b]).pt (d.first + ((1 : Nat) : Int)) 0 = true := by rw [hitK_of (show pickK (Kd.mk d.first [a, b]).pt 0 = (d.first + 1, b) from rfl) hb.1]; simp <;> omega
      unfold findS
      rw [if_pos h0]
      rfl
  · revert hi; rw [e] at hs ⊢; intro hi
    have ha := hs a (by simp)
    have hb := hs b (by simp)
    have hc := hs c (by simp)
    match i, hi with
    | 0, hi =>
      have h0 : hitK (Kd.mk d.first [a, b, c]).pt (d.first + ((0 : Nat) : Int)) 0 = false := by rw [hitK_of (show pickK (Kd.mk d.first [a, b, c]).pt 0 = (d.first + 2, c) from rfl) hc.1]; simp <;> omega
      have h1 : hitK (Kd.mk d.first [a, b, c]).pt (d.first + ((0 : Nat) : Int)) 1 = false := by rw [hitK_of (show pickK (Kd.mk d.first [a, b, c]).pt 1 = (d.first + 1, b) from rfl) hb.1]; simp <;> omega
      have h2 : hitK (Kd.mk d.first [a, b, c]).pt (d.first + ((0 : Nat) : Int)) 2 = true := by rw [hitK_of (show pickK (Kd.mk d.first [a, b, c]).pt 2 = (d.first, a) from rfl) ha.1]; simp <;> omega
      unfold findS
      rw [if_neg (by rw [h0]; decide), if_neg (by rw [h1]; decide), if_pos h2]
      show some (d.first, a) = some (d.first + ((0 : Nat) : Int), a)
      congr 2
      omega
    | 1, hi =>
      have h0 : hitK (Kd.mk d.first [a, b, c]).pt (d.first + ((1 : Nat) : Int)) 0 = false := by rw [hitK_of (show pickK (Kd.mk d.first [a, b, c]).pt 0 = (d.first + 2, c) from rfl) hc.1]; simp <;> omega
      have h1 : hitK (Kd.mk d.first [a, b, c]).pt (d.first + ((1 : Nat) : Int)) 1 = true := by rw [hitK_of (show pickK (Kd.mk d.first [a, b, c]).pt 1 = (d.first + 1, b) from rfl) hb.1]; simp <;> omega
      unfold findS
      rw [if_neg (by rw [h0]; decide), if_pos h1]
      rfl
    | 2, hi =>
      have h0 : hitK (Kd.mk d.first [a, b, c]).pt (d.first + ((2 : Nat) : Int)) 0 = true := by rw [hitK_of (show pickK (Kd.mk d.first [a, b, c]).pt 0 = (d.first + 2, c) from rfl) hc.1]; simp <;> omega
      unfold findS
      rw [if_pos h0]
      rfl
theorem Sm.Kd.lacks {d : Kd} {j : Nat} (h : d.OK j) {n : Int} (hn : n < d.first ∨ d.first + d.ms.length - 1 < n) : findS d.pt n = none := by
  have hs := h.size
  apply findS_none
  rcases Kd.ways h with ⟨a, e⟩ | ⟨a, b, e⟩ | ⟨a, b, c, e⟩
  · rw [e] at hs hn ⊢
    have ha := hs a (by simp)
    have hn : n < d.first ∨ d.first + ((1 : Nat) : Int) - 1 < n := hn
    intro i hi
    match i, hi with
    | 0, _ => rw [hitK_of (show pickK (Kd.mk d.first [a]).pt 0 = (d.first, a) from rfl) ha.1]; simp; omega
    | 1, _ => exact hitK_no (m := 0) rfl
    | 2, _ => exact hitK_no (m := 0) rfl
  · rw [e] at hs hn ⊢
    have ha := hs a (by simp)
    have hb := hs b (by simp)
    have hn : n < d.first ∨ d.first + ((2 : Nat) : Int) - 1 < n := hn
    intro i hi
    match i, hi with
    | 0, _ => rw [hitK_of (show pickK (Kd.mk d.first [a, b]).pt 0 = (d.first + 1, b) from rfl) hb.1]; simp; omega
    | 1, _ => rw [hitK_of (show pickK (Kd.mk d.first [a, b]).pt 1 = (d.first, a) from rfl) ha.1]; simp; omega
    | 2, _ => exact hitK_no (m := 0) rfl
  · rw [e] at hs hn ⊢
    have ha := hs a (by simp)
    have hb := hs b (by simp)
    have hc := hs c (by simp)
    have hn : n < d.first ∨ d.first + ((3 : Nat) : Int) - 1 < n := hn
    intro i hi
    match i, hi with
    | 0, _ => rw [hitK_of (show pickK (Kd.mk d.first [a, b, c]).pt 0 = (d.first + 2, c) from rfl) hc.1]; simp; omega
    | 1, _ => rw [hitK_of (show pickK (Kd.mk d.first [a, b, c]).pt 1 = (d.first + 1, b) from rfl) hb.1]; simp; omega
    | 2, _ => rw [hitK_of (show pickK (Kd.mk d.first [a, b, c]).pt 2 = (d.first, a) from rfl) ha.1]; simp; omega
/-- two keys are the same just if what the code keeps of them is -/
theorem Sm.Kd.same {d d' : Kd} {j j' : Nat} (h : d.OK j) (h' : d'.OK j') : d.pt = d'.pt ↔ d.first = d'.first ∧ d.ms = d'.ms := by
  have hs := h.size
  have hs' := h'.size
  have hz : (⟨#[]⟩ : ByteArray).size = 0 := rfl
  constructor
  · rcases Kd.ways h with ⟨a, e⟩ | ⟨a, b, e⟩ | ⟨a, b, c, e⟩ <;> rcases Kd.ways h' with ⟨a', e'⟩ | ⟨a', b', e'⟩ | ⟨a', b', c', e'⟩ <;> rw [e] at hs ⊢ <;> rw [e'] at hs' ⊢ <;> intro hp <;> simp only [Kd.pt, Kpt.mk.injEq] at hp <;> simp only [List.mem_cons, List.not_mem_nil, or_false, forall_eq_or_imp, forall_eq] at hs hs' <;> simp only [List.cons.injEq, and_true]
    · exact ⟨hp.1, hp.2.1⟩
    · exfalso; have := hp.2.2.2.1; have := hs'.1; subst_vars; omega
    · exfalso; have := hp.2.2.2.1; have := hs'.2.1; subst_vars; omega
    · exfalso; have := hp.2.2.2.1; have := hs.1; subst_vars; omega
    · exact ⟨by omega, hp.2.2.2.1, hp.2.1⟩
    · exfalso; have := hp.2.2.2.2.2; have := hs'.1; subst_vars; omega
    · exfalso; have := hp.2.2.2.1; have := hs.2.1; subst_vars; omega
    · exfalso; have := hp.2.2.2.2.2; have := hs.1; subst_vars; omega
    · exact ⟨by omega, hp.2.2.2.2.2, hp.2.2.2.1, hp.2.1⟩
  · rintro ⟨h1, h2⟩
    obtain ⟨f, ms⟩ := d
    obtain ⟨f', ms'⟩ := d'
    simp only at h1 h2
    subst h1 h2
    rfl
end Go.Proofs
