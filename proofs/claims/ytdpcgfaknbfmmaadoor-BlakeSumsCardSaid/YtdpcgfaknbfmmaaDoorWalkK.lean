/-
  The contracts of Sum, and of New and Keyed where they refuse.
-/
import Derived.Test.YtdpcgfaknbfmmaaDoorWalkJ
namespace Go.Proofs
open Go.RowKit Sm
/-- the 32 bytes of the sum -/
def Sm.hashW (size : Nat) (key b : List (BitVec 8)) : List (BitVec 8) := digest (endS (takeS (startS size key) b).ws (takeS (startS size key) b).p (takeS (startS size key) b).cur)
theorem Sm.startS_ws (size : Nat) (key : List (BitVec 8)) : (startS size key).ws.length = 8 := by unfold startS; simp [beginL]
theorem Sm.startS_cur (size : Nat) (key : List (BitVec 8)) (h : key.length ≤ 64) : (startS size key).cur.length ≤ 64 := by
  unfold startS
  simp only
  split
  · simp
  · rw [pad_length key h]; omega
theorem Sm.outK32 (l : List (BitVec 32)) : (digest l).length = 32 := outK_length l 32
theorem Sm.hashW_length (size : Nat) (key b : List (BitVec 8)) : (hashW size key b).length = 32 := outK32 _
set_option maxRecDepth 100000 in
set_option maxHeartbeats 4000000 in
theorem Sm.Sum_any (A : Option Addr) (n c : Nat) (ps : List Pt) (w : World) (hps : ∀ g, w.heap.size ≤ g → PsOK w g A n ps) (hr : n ≤ c) (ht : Tabs w) (hp : (joinP ps).length ≤ 100000) :
    Calls Tryd.prog 19 #[.slice A n c] w fun e w' => e = .returned (.agg (bvs (hashW 32 [] (joinP ps)))) ∧ Below w.heap.size w w' := by
  obtain ⟨W1, hW1⟩ : ∃ W1, w.alloc (.cells (bvs (List.replicate 32 0#8)) 0x21) = W1 := ⟨_, rfl⟩
  have hb1 : Below w.heap.size w W1 := by rw [← hW1]; exact (Below.refl _ w).alloc (Nat.le_refl _) _
  have hr1 : Blk W1 w.heap.size 0x21 (bvs (List.replicate 32 0#8)) := by rw [← hW1]; exact Blk.new w 0x21 _
  have hst := start_nil 32 0 none W1 (ht.keep hb1) (by decide)
  rw [show ((32 : Nat) : Int) = 32 from rfl] at hst
  obtain ⟨s, hs⟩ : ∃ s, startS 32 [] = s := ⟨_, rfl⟩
  rw [hs] at hst
  have hsw : s.ws.length = 8 := by rw [← hs]; exact startS_ws 32 []
  have hsc : s.cur.length = 0 := by rw [← hs]; rfl
  have hsp : s.p = 0 := by rw [← hs]; rfl
  have hz52 := (zero_of_info z52').1
  have HSs := Lib.hid hs
  have HSW := Lib.hid hsw
  have HSC := Lib.hid hsc
  have HSP := Lib.hid hsp
  have HST := Lib.hid hst
  have HR1 := Lib.hid hr1
  clear hs hsw hsc hsp hst hr1
  go_enter Tryd.func19, Tryd.ntmps19
  go_upto_region 1 with fail
  rw [zu32_eq, hW1]
  clear hW1
  go_upto_region 2 with (first
    | (go_at_call 48; (with_reducible refine HST.out.mono ?_); rintro e w2 ⟨rfl, hb2⟩)
    | (refine wpList_store_row rfl 0x31 _ _ rfl w2.heap.size (stc s.ws 0 (pad s.cur) s.cur.length).toArray rfl rfl 0x31 (stc z8 0 z64 0).toArray (World.alloc_heap_new w2 _) (by rw [List.size_toArray]; exact i52 _ _ _ _ HSW.out (pad_length _ (by rw [HSC.out]; decide))) (stc_sz (by rfl) z64_length HSW.out (pad_length _ (by rw [HSC.out]; decide))) (all_oneCell_toArray (stc_one _ _ _ _)) ?_))
  obtain ⟨g, hg⟩ : ∃ g, w2.heap.size = g := ⟨_, rfl⟩
  obtain ⟨W3, hW3⟩ : ∃ W3, (w2.alloc (.cells (stc z8 0 z64 0).toArray 0x31)).setRow w2.heap.size (stc s.ws 0 (pad s.cur) s.cur.length).toArray = W3 := ⟨_, rfl⟩
  have hbW : Below w.heap.size w W3 := by
    rw [← hW3]
    have hb12 := hb1.trans (hb2.mono hb1.size)
    exact below_setRow (hb12.alloc hb12.size _) hb12.size _
  have hst3 : St W3 g 0x31 s.ws 0 (pad s.cur) s.cur.length [] := by
    refine St.of_nil ?_ HSW.out (pad_length _ (by rw [HSC.out]; decide))
    rw [← hW3, ← hg]
    exact setRow_heap _ _ _ _ _ _ (World.alloc_heap_new w2 _)
  have hgw : w.heap.size < g := by
    have h1 := HR1.out.lt
    have h2 := hb2.size
    omega
  have hr3 : Blk W3 w.heap.size 0x21 (bvs (List.replicate 32 0#8)) := by
    rw [← hW3]
    exact (setRow_other _ _ _ _ (by omega)).trans ((HR1.out.keep hb2).alloc _)
  rw [hW3, hg]
  have htk := take_any g 0x31 s.ws 0 s.cur [] A n c ps W3 hst3 (by rw [HSC.out]; decide) ((hps g (by omega)).keep hbW) hr (by have := ht.size; omega) (ht.keep hbW) (by rw [List.length_append, HSC.out]; omega)
  have hse : (⟨s.ws, 0, s.cur⟩ : Sm.HS) = s := by rw [← HSP.out]
  rw [hse] at htk
  have HTK := Lib.hid htk
  have HR3 := Lib.hid hr3
  clear hg hW3 hst3 hr3 htk hse
  go_upto_region 3 with (go_at_call 49; (with_reducible refine HTK.out.mono ?_); rintro e w4 ⟨⟨v4, rfl⟩, hst4, hbt4⟩)
  have hb4 : Below w.heap.size w w4 := hbW.trans (hbt4.to_below hbW.size (fun b e => by omega))
  have hcl4 := takeS_cur_le s (joinP ps)
  have hwl4 : (takeS s (joinP ps)).ws.length = 8 := by rw [takeS_ws, HSW.out]
  have hct4 := takeS_count s (joinP ps)
  have hhash : digest (endS (takeS s (joinP ps)).ws (takeS s (joinP ps)).p (takeS s (joinP ps)).cur) = hashW 32 [] (joinP ps) := by unfold hashW; rw [HSs.out]
  obtain ⟨f, hf⟩ : ∃ f, takeS s (joinP ps) = f := ⟨_, rfl⟩
  rw [hf] at hst4 hcl4 hwl4 hct4 hhash
  have hr4 := HR3.out.but hbt4 (by omega)
  have hen := end_any f.ws f.p f.cur w4 hwl4 hcl4 (by rw [HSP.out, HSC.out] at hct4; omega) (ht.keep hb4)
  rw [hhash] at hen
  obtain ⟨D, hD⟩ : ∃ D, hashW 32 [] (joinP ps) = D := ⟨_, rfl⟩
  have hDl : D.length = 32 := by rw [← hD]; exact hashW_length ..
  rw [hD] at hen
  unfold StH at hst4
  have HD := Lib.hid hD
  have HDL := Lib.hid hDl
  have HEN := Lib.hid hen
  have HST4 := Lib.hid hst4
  have HR4 := Lib.hid hr4
  have HWL4 := Lib.hid hwl4
  have HCL4 := Lib.hid hcl4
  have h32 : Hid ((bvs (List.replicate 32 0#8)).size = (bvs D).size) := Lib.hid (by rw [bvs_size, bvs_size, hDl]; rfl)
  clear hf hst4 hcl4 hwl4 hct4 hhash hr4 hen hD hDl HTK HST
  go_wp2_with (first
    | (refine wpList_load_mid rfl 0x31 _ rfl g 0 rfl (stc f.ws f.p (pad f.cur) f.cur.length) _ HST4.out.rangeAll Tryd.underlying49 rfl (i52 _ _ _ _ HWL4.out (pad_length _ HCL4.out)) ?_)
    | (go_at_call 50; (with_reducible refine HEN.out.mono ?_); rintro e w5 ⟨rfl, hb5⟩)
    | (refine wpList_store_row rfl 0x21 _ _ rfl w.heap.size (bvs D) rfl rfl 0x21 _ (HR4.out.keep hb5) (i36 D HDL.out) h32.out (bvs_one D) ?_))
  refine bodyPost_ret (results_cell_row rfl _ _ w.heap.size 0x21 (bvs D) (0, 0) _ rfl (setRow_heap _ _ _ _ _ _ (HR4.out.keep hb5)) Tryd.underlying33 rfl (i36 D HDL.out)) rfl ⟨by rw [HD.out], below_setRow (hb4.trans (hb5.mono hb4.size)) (Nat.le_refl _) _⟩
set_option maxHeartbeats 1000000 in
theorem Sm.New_no (size : Int) (n c : Nat) (A : Option Addr) (w : World) (hn : n ≤ 1000000) (h : size < 1 ∨ 32 < size ∨ 32 < n) : Calls Tryd.prog 24 #[.int .i64 size, .slice A n c] w fun e w' => e = .returned (.tuple #[.pointer none, .int .i64 2]) ∧ w = w' := by
  by_cases h1 : size < 1
  · go_enter Tryd.func24, Tryd.ntmps24
    go_wp2
    go_ret2
    exact ⟨rfl, rfl⟩
  · by_cases h2 : 32 < size
    · go_enter Tryd.func24, Tryd.ntmps24
      go_wp2
      go_ret2
      exact ⟨rfl, rfl⟩
    · have h3 : 32 < n := by omega
      go_enter Tryd.func24, Tryd.ntmps24
      go_wp2
      go_ret2
      exact ⟨rfl, rfl⟩
set_option maxHeartbeats 1000000 in
theorem Sm.Keyed_no (size : Int) (n c n2 c2 : Nat) (A A2 : Option Addr) (w : World) (hn : n ≤ 1000000) (h : size < 1 ∨ 32 < size ∨ 32 < n) : Calls Tryd.prog 21 #[.int .i64 size, .slice A n c, .slice A2 n2 c2] w fun e w' => e = .returned (.tuple #[.slice none 0 0, .int .i64 2]) ∧ w = w' := by
  go_enter Tryd.func21, Tryd.ntmps21
  go_wp2_with (go_at_call 24; (with_reducible refine (New_no _ _ _ _ _ hn h).mono ?_); rintro e w' ⟨rfl, rfl⟩)
  go_ret2
  exact ⟨rfl, rfl⟩
end Go.Proofs
