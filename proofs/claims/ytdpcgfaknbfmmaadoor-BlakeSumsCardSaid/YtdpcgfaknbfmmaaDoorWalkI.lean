/-
  The contract of start: the state of a size and a key.
-/
import Derived.Test.YtdpcgfaknbfmmaaDoorWalkH
namespace Go.Proofs
open Go.RowKit Sm
def Sm.startS (size : Nat) (key : List (BitVec 8)) : HS :=
  ⟨beginL.set 0 (beginL.getD 0 0 ^^^ BitVec.ofNat 32 (16842752 + 256 * key.length + size)), 0, if key.length = 0 then [] else pad key⟩
theorem Sm.pad_pad (c : List (BitVec 8)) (h : c.length ≤ 64) : pad (pad c) = pad c := by
  unfold pad
  have : (c ++ List.replicate (64 - c.length) 0#8).length = 64 := by simp; omega
  rw [this]
  simp
theorem Sm.z52 : (Tryd.prog.info? 0x31).map (fun i => (i.zero, i.size)) = some (some (.agg (stc (List.replicate 8 0#32) 0 z64 0).toArray), 74) := by kernel_rfl
def Sm.z8 : List (BitVec 32) := List.replicate 8 0#32
theorem Sm.z52' : (Tryd.prog.info? 0x31).map (fun i => (i.zero, i.size)) = some (some (.agg (stc z8 0 z64 0).toArray), 74) := z52
theorem Sm.i52 (ws : List (BitVec 32)) (p : Nat) (bl : List (BitVec 8)) (sz : Nat) (h : ws.length = 8) (h2 : bl.length = 64) : (Tryd.prog.info? 0x31).map (·.size) = some (stc ws p bl sz).length := by rw [stc_length, h, h2]; kernel_rfl
theorem Sm.stc_sz {ws ws' : List (BitVec 32)} {p p' : Nat} {bl bl' : List (BitVec 8)} {sz sz' : Nat} (h : ws.length = 8) (h2 : bl.length = 64) (h' : ws'.length = 8) (h2' : bl'.length = 64) : (stc ws p bl sz).toArray.size = (stc ws' p' bl' sz').toArray.size := by
  rw [List.size_toArray, List.size_toArray, stc_length, stc_length, h, h2, h', h2']
theorem Sm.built52 : Tryd.prog.built 0x31 [(0, .agg (wl beginL).toArray)] = some (stc beginL 0 z64 0).toArray := by kernel_rfl
theorem Sm.slice64_all (b o : Nat) (w : World) :
    (Instr.sliceAt 0x18 (.pointer (some ⟨b, o, none⟩)) none none none).run Tryd.prog w = .ok (.slice (some ⟨b, o, none⟩) 64 64) w := by
  have hu : Tryd.prog.underlying 0x18 = some (.array (Tryd.prog.arrayLen 0x18) (Tryd.prog.elem 0x18)) := by kernel_rfl
  have ha : Tryd.prog.arrayLen 0x18 = 64 := by kernel_rfl
  have he : Tryd.prog.elem 0x18 = 5 := by kernel_rfl
  have hs : ∀ w, (sizeOf 5).run Tryd.prog w = .ok 1 w := fun _ => by kernel_rfl
  rw [run_sliceAt_array_all w 0x18 ⟨b, o, none⟩ hu, he, hs]
  simp only [Result.andThen_ok, slicedAt, ha, Nat.zero_mul]
  rw [if_neg (by omega), Addr.add_mid, Nat.add_zero]
theorem Sm.splice_prefix {α : Type} (A B X : List α) (o : Nat) : splice (A ++ B) (A.length + o) X = A ++ splice B o X := by
  unfold splice
  rw [List.take_append, List.take_of_length_le (by omega), Nat.add_sub_cancel_left, List.append_assoc]
  congr 2
  rw [Nat.add_assoc, List.drop_append, List.drop_eq_nil_of_le (by omega), List.nil_append, Nat.add_sub_cancel_left]
theorem Sm.splice_key (ws : List (BitVec 32)) (p : Nat) (key : List (BitVec 8)) (h : ws.length = 8) (hk : key.length ≤ 64) : splice (stc ws p z64 0) 9 (key.map byteCell) = stc ws p (pad key) 0 := by
  have e1 : stc ws p z64 0 = (wl ws ++ [.int .u64 (p : Int)]) ++ blc (pad []) 0 := by simp [stc, z64]
  have e2 : 9 = (wl ws ++ [Value.int .u64 (p : Int)]).length + 0 := by simp [wl, h]
  rw [e1, e2, splice_prefix]
  have := splice_pad [] key 0 (by simpa using hk)
  simp only [List.length_nil, List.nil_append] at this
  rw [this]
  simp [stc]
theorem Sm.St.word {w : World} {g : Nat} {t : TypeId} {ws : List (BitVec 32)} {p : Nat} {bl : List (BitVec 8)} {sz : Nat} {tail : List Value} (h : St w g t ws p bl sz tail) {k : Nat} (hk : k < 8) : w.cell? ⟨g, k, none⟩ = some (.int .u32 (iv (ws.getD k 0))) := by
  have := h.rangeW k (wv (ws.getD k 0)) (by simp [wl, h.wlen, hk])
  simpa [wv] using this
theorem Sm.St.setWord {w : World} {g : Nat} {t : TypeId} {ws : List (BitVec 32)} {p : Nat} {bl : List (BitVec 8)} {sz : Nat} {tail : List Value} (h : St w g t ws p bl sz tail) {k : Nat} (hk : k < 8) (x : BitVec 32) : St (w.setCell ⟨g, k, none⟩ (.int .u32 (iv x))) g t (ws.set k x) p bl sz tail := by
  refine ⟨?_, by rw [List.length_set, h.wlen], h.blen⟩
  have h1 := heap_setCell_same w g k _ t (.int .u32 (iv x)) h.blk
  have e : (stc ws p bl sz ++ tail).toArray.setIfInBounds k (.int .u32 (iv x)) = (stc (ws.set k x) p bl sz ++ tail).toArray := by
    have hl : k < (wl ws).length := by rw [wl_length, h.wlen]; exact hk
    simp only [List.setIfInBounds_toArray, stc, List.append_assoc]
    rw [List.set_append_left _ _ hl]
    simp [wl, wv, List.map_set]
  rw [e] at h1
  exact h1
theorem Sm.St.setS {w : World} {g : Nat} {t : TypeId} {ws : List (BitVec 32)} {p : Nat} {bl : List (BitVec 8)} {sz : Nat} {tail : List Value} (h : St w g t ws p bl sz tail) (n : Nat) : St (w.setCell ⟨g, 73, none⟩ (.int .i64 (n : Int))) g t ws p bl n tail := by
  refine ⟨?_, h.wlen, h.blen⟩
  have h1 := blk_setCells t g [.int .i64 (n : Int)] 73 _ w h.blk
  have e : setAll (stc ws p bl sz ++ tail) 73 [.int .i64 (n : Int)] = stc ws p bl n ++ tail := by
    have := setAll_mid (wl ws ++ .int .u64 (p : Int) :: bl.map byteCell) [.int .i64 (n : Int)] [.int .i64 (sz : Int)] tail rfl
    have el : (wl ws ++ Value.int .u64 (p : Int) :: bl.map byteCell).length = 73 := by simp [wl, h.wlen, h.blen]
    rw [el] at this
    simpa [stc, blc, List.append_assoc] using this
  rw [e] at h1
  exact h1
theorem Sm.St.nil_blk {w : World} {g : Nat} {t : TypeId} {ws : List (BitVec 32)} {p : Nat} {bl : List (BitVec 8)} {sz : Nat} (h : St w g t ws p bl sz []) : Blk w g t (stc ws p bl sz).toArray := by
  have := h.blk
  rwa [List.append_nil] at this
theorem Sm.St.of_nil {w : World} {g : Nat} {t : TypeId} {ws : List (BitVec 32)} {p : Nat} {bl : List (BitVec 8)} {sz : Nat} (h : Blk w g t (stc ws p bl sz).toArray) (h1 : ws.length = 8) (h2 : bl.length = 64) : St w g t ws p bl sz [] := ⟨by rw [List.append_nil]; exact h, h1, h2⟩
theorem Sm.first_num (n size : Nat) (b : BitVec 32) : bits .xor .u32 (iv b) (16842752 + 256 * (n : Int) + (size : Int)) = iv (b ^^^ BitVec.ofNat 32 (16842752 + 256 * n + size)) ∨ 4294967296 ≤ 16842752 + 256 * n + size := by
  by_cases h : 4294967296 ≤ 16842752 + 256 * n + size
  · exact .inr h
  · refine .inl ?_
    have e : 16842752 + 256 * (n : Int) + (size : Int) = iv (BitVec.ofNat 32 (16842752 + 256 * n + size)) := by
      unfold iv
      simp
      omega
    rw [e, bits_xor]
set_option maxRecDepth 100000 in
set_option maxHeartbeats 4000000 in
theorem Sm.start_key (size n c : Nat) (A : Option Addr) (key : List (BitVec 8)) (w : World) (ht : Tabs w) (hs1 : size ≤ 32) (hn : n ≤ 32) (hk : key.length = n) (hrd : Rds w (fun _ => False) A (key.map byteCell)) (h0 : 0 < n) :
    Calls Tryd.prog 48 #[.int .i64 (size : Int), .slice A n c] w fun e w' => e = .returned (.agg (stc (startS size key).ws 0 (pad (startS size key).cur) (startS size key).cur.length).toArray) ∧ Below w.heap.size w w' := by
  have hz52 := (zero_of_info z52').1
  have hbt := built52
  have hfst := ht.first
  have hz8 : z8.length = 8 := rfl
  have hbl : beginL.length = 8 := rfl
  have HB8 := Lib.hid hbl
  have HZ8 := Lib.hid hz8
  clear hbl hz8
  go_enter Tryd.func48, Tryd.ntmps48
  go_upto_region 2 with (first
    | (refine wpList_load_mid rfl 0x17 _ rfl 0 0 rfl (wl beginL) _ (rangeAt_below hfst ((Below.refl _ w).alloc (Nat.le_refl _) _) (by have := ht.size; omega)) Tryd.underlying23 rfl (i27 _ HB8.out) ?_)
    | (refine wpList_store_row rfl 0x31 _ _ rfl (w.heap.size + 1) (stc beginL 0 z64 0).toArray rfl rfl 0x31 (stc z8 0 z64 0).toArray (by have := World.alloc_heap_new (w.alloc (.cells (stc z8 0 z64 0).toArray 0x31)) (.cells (stc z8 0 z64 0).toArray 0x31); rwa [World.size_alloc] at this) (by rw [List.size_toArray]; exact i52 _ _ _ _ HB8.out z64_length) (stc_sz HZ8.out z64_length HB8.out z64_length) (all_oneCell_toArray (stc_one _ _ _ _)) ?_))
  obtain ⟨W1, hW1⟩ : ∃ W1, ((w.alloc (.cells (stc z8 0 z64 0).toArray 0x31)).alloc (.cells (stc z8 0 z64 0).toArray 0x31)).setRow (w.heap.size + 1) (stc beginL 0 z64 0).toArray = W1 := ⟨_, rfl⟩
  have hb1 : Below w.heap.size w W1 := by rw [← hW1]; exact below_setRow (((Below.refl _ w).alloc (Nat.le_refl _) _).alloc (by simp) _) (by omega) _
  have hst1 : St W1 (w.heap.size + 1) 0x31 beginL 0 z64 0 [] := by
    refine St.of_nil ?_ HB8.out z64_length
    rw [← hW1]
    refine setRow_heap _ _ (stc z8 0 z64 0).toArray _ _ _ ?_
    have := World.alloc_heap_new (w.alloc (.cells (stc z8 0 z64 0).toArray 0x31)) (.cells (stc z8 0 z64 0).toArray 0x31)
    rwa [World.size_alloc] at this
  have hr1 : Blk W1 w.heap.size 0x31 (stc z8 0 z64 0).toArray := by
    rw [← hW1]
    exact (setRow_other _ _ _ _ (by omega)).trans ((Blk.new w 0x31 _).alloc _)
  rw [hW1]
  clear hW1 hbt hz52
  have cw := hst1.word (k := 0) (by decide)
  have fw := hst1.frozen 0
  have e1 := (first_num n size (beginL.getD 0 0)).resolve_right (by omega)
  have hws0 : (startS size key).ws = beginL.set 0 (beginL.getD 0 0 ^^^ BitVec.ofNat 32 (16842752 + 256 * n + size)) := by unfold startS; rw [hk]
  have hcur0 : (startS size key).cur = pad key := by unfold startS; simp only; rw [if_neg (by omega)]
  obtain ⟨b0, hb0⟩ : ∃ b0, beginL.getD 0 0 = b0 := ⟨_, rfl⟩
  rw [hb0] at cw e1 hws0
  obtain ⟨x0, hx0⟩ : ∃ x0, b0 ^^^ BitVec.ofNat 32 (16842752 + 256 * n + size) = x0 := ⟨_, rfl⟩
  rw [hx0] at e1 hws0
  have HWS := Lib.hid hws0
  have HCUR := Lib.hid hcur0
  have HST := Lib.hid hst1
  have HRR := Lib.hid hr1
  clear hb0 hx0 hws0 hcur0 hst1 hr1
  have hnb : (n : Int) ≤ 32 := by omega
  have hsb : (size : Int) ≤ 32 := by omega
  have hsl := slice64_all (w.heap.size + 1) 9
  go_upto_region 4 with fail
  obtain ⟨W2, hW2⟩ : ∃ W2, W1.setCell ⟨w.heap.size + 1, 0, none⟩ (.int .u32 (iv x0)) = W2 := ⟨_, rfl⟩
  have hb2 : Below w.heap.size w W2 := by rw [← hW2]; exact hb1.setCell (p := ⟨w.heap.size + 1, 0, none⟩) (by simp) _
  have hst2 : St W2 (w.heap.size + 1) 0x31 (beginL.set 0 x0) 0 z64 0 [] := by rw [← hW2]; exact HST.out.setWord (by decide) x0
  have hr2 : Blk W2 w.heap.size 0x31 (stc z8 0 z64 0).toArray := by rw [← hW2]; exact HRR.out.other (by simp) _
  rw [hW2]
  clear hW2 cw fw e1
  obtain ⟨ws1, hws1⟩ : ∃ ws1, beginL.set 0 x0 = ws1 := ⟨_, rfl⟩
  rw [hws1] at hst2
  have HW1 : Hid ((startS size key).ws = ws1) := Lib.hid (by rw [HWS.out, hws1])
  clear hws1
  have hwl := hst2.wlen
  obtain ⟨kb, ko, hA, _, _, hcell⟩ := hrd (by simp; omega)
  subst hA
  have hkl : (key.map byteCell).length = n := by simp [hk]
  have HKL := Lib.hid hkl
  have HWL := Lib.hid hwl
  have HST2 := Lib.hid hst2
  have HR2 := Lib.hid hr2
  have HCELL := Lib.hid hcell
  have Hk := Lib.hid hk
  clear hkl hwl hst2 hr2 hcell hk
  have hkb : kb < w.heap.size := by
    have := HCELL.out 0 _ (List.getElem?_eq_getElem (by rw [HKL.out]; exact h0))
    exact World.block_lt_of_cell? w _ this
  go_upto_region 5 with (refine wpList_copy_splice rfl (.tmp 27) (.tmp 28) 0x1e 0x1e rfl 5 Tryd.underlying30 i5 (some ⟨w.heap.size + 1, 9, none⟩) (some ⟨kb, ko, none⟩) 64 64 n c rfl rfl (w.heap.size + 1) 9 (stc ws1 0 z64 0) 0x31 HST2.out.nil_blk (key.map byteCell) (by rw [HKL.out]; show n = min n 64; omega) (fun _ => ⟨rfl, ⟨kb, ko, none⟩, rfl, fun j v hj => by rw [Addr.add_mid]; exact (hb2.cell (p := ⟨kb, ko + j, none⟩) hkb).trans (HCELL.out j v hj)⟩) (by rw [HKL.out, stc_length, HWL.out, z64_length]; omega) (by intro v hv; simp only [List.mem_map] at hv; obtain ⟨x, _, rfl⟩ := hv; rfl) (w.heap.size + 1) W2 (Below.refl _ W2) (Nat.le_refl _) ?_; intro w5 HG5 hb5)
  have hst5 : St w5 (w.heap.size + 1) 0x31 ws1 0 (pad key) 0 [] := by
    refine St.of_nil ?_ HWL.out (pad_length _ (by rw [Hk.out]; omega))
    have := HG5.out
    rw [splice_key ws1 0 key HWL.out (by rw [Hk.out]; omega)] at this
    exact this
  have hr5 := HR2.out.below hb5 (by omega)
  have hbw5 : Below w.heap.size w w5 := hb2.trans (hb5.mono (by omega))
  have HST5 := Lib.hid hst5
  have HR5 := Lib.hid hr5
  have c73 := hst5.cellS
  have f73 := hst5.frozen 73
  clear hst5 hr5 HG5
  go_upto_region 6 with fail
  obtain ⟨W6, hW6⟩ : ∃ W6, w5.setCell ⟨w.heap.size + 1, 73, none⟩ (.int .i64 64) = W6 := ⟨_, rfl⟩
  have hst6 : St W6 (w.heap.size + 1) 0x31 ws1 0 (pad key) 64 [] := by rw [← hW6]; exact HST5.out.setS 64
  have hr6 : Blk W6 w.heap.size 0x31 (stc z8 0 z64 0).toArray := by rw [← hW6]; exact HR5.out.other (by simp) _
  have hb6 : Below w.heap.size w W6 := by rw [← hW6]; exact hbw5.setCell (p := ⟨w.heap.size + 1, 73, none⟩) (by simp) _
  rw [hW6]
  clear hW6 c73 f73
  have hpl := pad_length key (by rw [Hk.out]; omega)
  have HPK := Lib.hid hpl
  have HST6 := Lib.hid hst6
  have HR6 := Lib.hid hr6
  clear hpl hst6 hr6
  go_wp2_with (first
    | (refine wpList_load_mid rfl 0x31 _ rfl (w.heap.size + 1) 0 rfl (stc ws1 0 (pad key) 64) _ HST6.out.rangeAll Tryd.underlying49 rfl (i52 _ _ _ _ HWL.out HPK.out) ?_)
    | (refine wpList_store_row rfl 0x31 _ _ rfl w.heap.size (stc ws1 0 (pad key) 64).toArray rfl rfl 0x31 (stc z8 0 z64 0).toArray HR6.out (by rw [List.size_toArray]; exact i52 _ _ _ _ HWL.out HPK.out) (stc_sz HZ8.out z64_length HWL.out HPK.out) (all_oneCell_toArray (stc_one _ _ _ _)) ?_))
  refine bodyPost_ret (results_cell_row rfl _ _ w.heap.size 0x31 (stc ws1 0 (pad key) 64).toArray (0, 0) _ rfl (setRow_heap _ _ _ _ _ _ HR6.out) Tryd.underlying49 rfl (by rw [List.size_toArray]; exact i52 _ _ _ _ HWL.out HPK.out)) rfl ⟨?_, below_setRow hb6 (Nat.le_refl _) _⟩
  rw [HW1.out, HCUR.out, pad_pad key (by rw [Hk.out]; omega), HPK.out]
end Go.Proofs
