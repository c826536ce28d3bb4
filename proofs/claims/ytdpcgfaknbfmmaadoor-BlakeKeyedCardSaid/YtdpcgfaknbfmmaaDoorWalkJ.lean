/-
  The contracts of start without a key, and of end.
-/
import Derived.Test.YtdpcgfaknbfmmaaDoorWalkI
namespace Go.Proofs
open Go.RowKit Sm
set_option maxRecDepth 100000 in
set_option maxHeartbeats 4000000 in
theorem Sm.start_nil (size c : Nat) (A : Option Addr) (w : World) (ht : Tabs w) (hs1 : size ≤ 32) :
    Calls Tryd.prog 48 #[.int .i64 (size : Int), .slice A 0 c] w fun e w' => e = .returned (.agg (stc (startS size []).ws 0 (pad (startS size []).cur) (startS size []).cur.length).toArray) ∧ Below w.heap.size w w' := by
  have hz52 := (zero_of_info z52').1
  have hbt := built52
  have hfst := ht.first
  have hz8 : z8.length = 8 := rfl
  have hbl : beginL.length = 8 := rfl
  have HB8 := Lib.hid hbl
  have HZ8 := Lib.hid hz8
  clear hbl hz8
  go_enter Tryd.func48, Tryd.ntmps48
  go_upto_region 2 with (first
    | (refine wpList_load_mid rfl 0x17 _ rfl 0 0 rfl (wl beginL) _ (rangeAt_below hfst ((Below.refl _ w).alloc (Nat.le_refl _) _) (by have := ht.size; omega)) Tryd.underlying23 rfl (i27 _ HB8.out) ?_)
    | (refine wpList_store_row rfl 0x31 _ _ rfl (w.heap.size + 1) (stc beginL 0 z64 0).toArray rfl rfl 0x31 (stc z8 0 z64 0).toArray (by have := World.alloc_heap_new (w.alloc (.cells (stc z8 0 z64 0).toArray 0x31)) (.cells (stc z8 0 z64 0).toArray 0x31); rwa [World.size_alloc] at this) (by rw [List.size_toArray]; exact i52 _ _ _ _ HB8.out z64_length) (stc_sz HZ8.out z64_length HB8.out z64_length) (all_oneCell_toArray (stc_one _ _ _ _)) ?_))
  obtain ⟨W1, hW1⟩ : ∃ W1, ((w.alloc (.cells (stc z8 0 z64 0).toArray 0x31)).alloc (.cells (stc z8 0 z64 0).toArray 0x31)).setRow (w.heap.size + 1) (stc beginL 0 z64 0).toArray = W1 := ⟨_, rfl⟩
  have hb1 : Below w.heap.size w W1 := by rw [← hW1]; exact below_setRow (((Below.refl _ w).alloc (Nat.le_refl _) _).alloc (by simp) _) (by omega) _
  have hst1 : St W1 (w.heap.size + 1) 0x31 beginL 0 z64 0 [] := by
    refine St.of_nil ?_ HB8.out z64_length
    rw [← hW1]
    refine setRow_heap _ _ (stc z8 0 z64 0).toArray _ _ _ ?_
    have := World.alloc_heap_new (w.alloc (.cells (stc z8 0 z64 0).toArray 0x31)) (.cells (stc z8 0 z64 0).toArray 0x31)
    rwa [World.size_alloc] at this
  have hr1 : Blk W1 w.heap.size 0x31 (stc z8 0 z64 0).toArray := by
    rw [← hW1]
    exact (setRow_other _ _ _ _ (by omega)).trans ((Blk.new w 0x31 _).alloc _)
  rw [hW1]
  clear hW1 hbt hz52
  have cw := hst1.word (k := 0) (by decide)
  have fw := hst1.frozen 0
  have e1 := (first_num 0 size (beginL.getD 0 0)).resolve_right (by omega)
  have e1' : bits .xor .u32 (iv (beginL.getD 0 0)) (16842752 + (size : Int)) = iv (beginL.getD 0 0 ^^^ BitVec.ofNat 32 (16842752 + 256 * 0 + size)) := by
    rw [← e1]; simp
  have hws0 : (startS size []).ws = beginL.set 0 (beginL.getD 0 0 ^^^ BitVec.ofNat 32 (16842752 + 256 * 0 + size)) := rfl
  have hcur0 : (startS size []).cur = [] := rfl
  obtain ⟨b0, hb0⟩ : ∃ b0, beginL.getD 0 0 = b0 := ⟨_, rfl⟩
  clear e1
  rw [hb0] at cw e1' hws0
  obtain ⟨x0, hx0⟩ : ∃ x0, b0 ^^^ BitVec.ofNat 32 (16842752 + 256 * 0 + size) = x0 := ⟨_, rfl⟩
  rw [hx0] at e1' hws0
  have HWS := Lib.hid hws0
  have HCUR := Lib.hid hcur0
  have HST := Lib.hid hst1
  have HRR := Lib.hid hr1
  clear hb0 hx0 hws0 hcur0 hst1 hr1
  have hsb : (size : Int) ≤ 32 := by omega
  go_upto_region 6 with fail
  obtain ⟨W2, hW2⟩ : ∃ W2, W1.setCell ⟨w.heap.size + 1, 0, none⟩ (.int .u32 (iv x0)) = W2 := ⟨_, rfl⟩
  have hb2 : Below w.heap.size w W2 := by rw [← hW2]; exact hb1.setCell (p := ⟨w.heap.size + 1, 0, none⟩) (by simp) _
  have hst2 : St W2 (w.heap.size + 1) 0x31 (beginL.set 0 x0) 0 z64 0 [] := by rw [← hW2]; exact HST.out.setWord (by decide) x0
  have hr2 : Blk W2 w.heap.size 0x31 (stc z8 0 z64 0).toArray := by rw [← hW2]; exact HRR.out.other (by simp) _
  rw [hW2]
  clear hW2 cw fw e1'
  obtain ⟨ws1, hws1⟩ : ∃ ws1, beginL.set 0 x0 = ws1 := ⟨_, rfl⟩
  rw [hws1] at hst2
  have HW1 : Hid ((startS size []).ws = ws1) := Lib.hid (by rw [HWS.out, hws1])
  clear hws1
  have hwl := hst2.wlen
  have HWL := Lib.hid hwl
  have HST6 := Lib.hid hst2
  have HR6 := Lib.hid hr2
  clear hwl hst2 hr2
  go_wp2_with (first
    | (refine wpList_load_mid rfl 0x31 _ rfl (w.heap.size + 1) 0 rfl (stc ws1 0 z64 0) _ HST6.out.rangeAll Tryd.underlying49 rfl (i52 _ _ _ _ HWL.out z64_length) ?_)
    | (refine wpList_store_row rfl 0x31 _ _ rfl w.heap.size (stc ws1 0 z64 0).toArray rfl rfl 0x31 (stc z8 0 z64 0).toArray HR6.out (by rw [List.size_toArray]; exact i52 _ _ _ _ HWL.out z64_length) (stc_sz HZ8.out z64_length HWL.out z64_length) (all_oneCell_toArray (stc_one _ _ _ _)) ?_))
  refine bodyPost_ret (results_cell_row rfl _ _ w.heap.size 0x31 (stc ws1 0 z64 0).toArray (0, 0) _ rfl (setRow_heap _ _ _ _ _ _ HR6.out) Tryd.underlying49 rfl (by rw [List.size_toArray]; exact i52 _ _ _ _ HWL.out z64_length)) rfl ⟨?_, below_setRow hb2 (Nat.le_refl _) _⟩
  rw [HW1.out, HCUR.out]
  rfl
def Sm.byteAt (ws : List (BitVec 32)) (i : Nat) : BitVec 8 := ((ws.getD (i / 4) 0) >>> (8 * (i % 4))).setWidth 8
def Sm.outK (ws : List (BitVec 32)) : Nat → List (BitVec 8)
  | 0 => List.replicate 32 0#8
  | k + 1 => (outK ws k).set k (byteAt ws k)
theorem Sm.outK_length (ws : List (BitVec 32)) : ∀ k, (outK ws k).length = 32
  | 0 => by simp [outK]
  | k + 1 => by rw [outK, List.length_set, outK_length]
def Sm.digest (ws : List (BitVec 32)) : List (BitVec 8) := outK ws 32
theorem Sm.zu32_eq : (#[.int .u8 0, .int .u8 0, .int .u8 0, .int .u8 0, .int .u8 0, .int .u8 0, .int .u8 0, .int .u8 0, .int .u8 0, .int .u8 0, .int .u8 0, .int .u8 0, .int .u8 0, .int .u8 0, .int .u8 0, .int .u8 0, .int .u8 0, .int .u8 0, .int .u8 0, .int .u8 0, .int .u8 0, .int .u8 0, .int .u8 0, .int .u8 0, .int .u8 0, .int .u8 0, .int .u8 0, .int .u8 0, .int .u8 0, .int .u8 0, .int .u8 0, .int .u8 0] : Array Value) = bvs (List.replicate 32 0#8) := rfl
theorem Sm.Blk.setByte {w : World} {b : Nat} {t : TypeId} {l : List (BitVec 8)} (h : Blk w b t (bvs l)) (k : Nat) (x : BitVec 8) : Blk (w.setCell ⟨b, k, none⟩ (.int .u8 (ib x))) b t (bvs (l.set k x)) := by
  have := heap_setCell_same w b k (bvs l) t (.int .u8 (ib x)) h
  have e : (bvs l).setIfInBounds k (.int .u8 (ib x)) = bvs (l.set k x) := by
    simp [bvs, byteCell, List.map_set]
  rw [e] at this
  exact this
theorem Sm.low_byte (x : BitVec 32) : iv x % 256 = ib (x.setWidth 8) := by
  unfold iv ib
  simp
theorem Sm.byte_num (x : BitVec 32) (k : Nat) (m : Int) (h : (2 : Int) ^ k = m) : iv x / m % 256 = ib ((x >>> k).setWidth 8) := by
  rw [shr_div x k m h, low_byte]
theorem Sm.i36 (l : List (BitVec 8)) (h : l.length = 32) : (Tryd.prog.info? 0x21).map (·.size) = some (bvs l).size := by rw [bvs_size, h]; kernel_rfl
set_option maxRecDepth 100000 in
set_option maxHeartbeats 4000000 in
theorem Sm.end_any (ws : List (BitVec 32)) (p : Nat) (cur : List (BitVec 8)) (w : World) (hw : ws.length = 8) (hc : cur.length ≤ 64) (hp : p ≤ 1000000000) (ht : Tabs w) :
    Calls Tryd.prog 50 #[.agg (stc ws p (pad cur) cur.length).toArray] w fun e w' => e = .returned (.agg (bvs (digest (endS ws p cur)))) ∧ Below w.heap.size w w' := by
  have hpl := pad_length cur hc
  have HPL := Lib.hid hpl
  have h1 : St ((w.alloc (.cells (stc ws p (pad cur) cur.length).toArray 0x31)).alloc (.cells (bvs (List.replicate 32 0#8)) 0x21)) w.heap.size 0x31 ws p (pad cur) cur.length [] := St.of_nil ((Blk.new w 0x31 _).alloc _) hw hpl
  clear hpl
  go_enter Tryd.func50, Tryd.ntmps50
  go_upto_region 1 with fail
  rw [zu32_eq]
  obtain ⟨W1, hW1⟩ : ∃ W1, (w.alloc (.cells (stc ws p (pad cur) cur.length).toArray 0x31)).alloc (.cells (bvs (List.replicate 32 0#8)) 0x21) = W1 := ⟨_, rfl⟩
  have hb1 : Below w.heap.size w W1 := by rw [← hW1]; exact ((Below.refl _ w).alloc (Nat.le_refl _) _).alloc (by simp) _
  have hr1 : Blk W1 (w.heap.size + 1) 0x21 (bvs (List.replicate 32 0#8)) := by rw [← hW1]; exact Blk.newAt (by simp) 0x21 _
  rw [hW1] at h1 ⊢
  clear hW1
  have ht1 := ht.keep hb1
  have hcl := pressM_any w.heap.size 0x31 ws p (pad cur) cur.length [] (pad cur) cur.length true W1 h1 HPL.out hc hp ht.size ht1
  have HC := Lib.hid hcl
  have H1 := Lib.hid h1
  have HR1 := Lib.hid hr1
  have HWL := Lib.hid hw
  clear hcl h1 hr1 hw
  go_upto_region 2 with (first
    | (refine wpList_load_mid rfl 0x2f _ rfl w.heap.size 9 rfl (blc (pad cur) cur.length) _ H1.out.rangeB Tryd.underlying47 rfl (i50 _ _ HPL.out) ?_)
    | (go_at_call 63; (with_reducible refine HC.out.mono ?_); rintro e w2 ⟨⟨v2, rfl⟩, hst2, hbt2⟩))
  obtain ⟨we, hwe⟩ : ∃ we, pressS ws (pad cur) (p + cur.length) true = we := ⟨_, rfl⟩
  rw [hwe] at hst2
  have hend : endS ws p cur = we := hwe
  have hwl := hst2.wlen
  have hr2 := HR1.out.but hbt2 (by omega)
  have hb2 : Below w.heap.size w w2 := hb1.trans (hbt2.to_below hb1.size (fun b e => by omega))
  have HE := Lib.hid hend
  have HST2 := Lib.hid hst2
  have HR2 := Lib.hid hr2
  have HWE := Lib.hid hwl
  have hlt2 : w.heap.size + 1 < w2.heap.size := hr2.lt
  clear hwe hend hst2 hr2 hwl HC
  go_wp2
  rw [zu32_eq]
  obtain ⟨O, hO⟩ : ∃ O, w2.heap.size = O := ⟨_, rfl⟩
  obtain ⟨W3, hW3⟩ : ∃ W3, w2.alloc (.cells (bvs (List.replicate 32 0#8)) 0x21) = W3 := ⟨_, rfl⟩
  have ho3 : Blk W3 O 0x21 (bvs (outK we 0)) := by rw [← hW3, ← hO]; exact Blk.new w2 0x21 _
  have hst3 : St W3 w.heap.size 0x31 we (p + cur.length) (pad cur) cur.length [] := by rw [← hW3]; exact ⟨HST2.out.blk.alloc _, HST2.out.wlen, HST2.out.blen⟩
  have hr3 : Blk W3 (w.heap.size + 1) 0x21 (bvs (List.replicate 32 0#8)) := by rw [← hW3]; exact HR2.out.alloc _
  have hb3 : Below w.heap.size w W3 := by rw [← hW3]; exact hb2.alloc hb2.size _
  rw [hW3, hO]
  have HO := Lib.hid hO
  have hOl : w.heap.size + 1 < O := by omega
  have H0 := Lib.hid (And.intro ho3 (And.intro hst3 (And.intro hr3 hb3)))
  clear hW3 hO ho3 hst3 hr3 hb3
  go_loopw [8] (fun i wr => ∃ k : Nat, k ≤ 32 ∧ i = .int .i64 (k : Int) ∧ Hid (Blk wr O 0x21 (bvs (outK we k)) ∧ St wr w.heap.size 0x31 we (p + cur.length) (pad cur) cur.length [] ∧ Blk wr (w.heap.size + 1) 0x21 (bvs (List.replicate 32 0#8)) ∧ Below w.heap.size w wr)) (fun i _ => 32 - (intOf i).toNat)
  case atStart => exact ⟨0, by omega, rfl, H0⟩
  case round =>
    obtain ⟨k, hk, rfl, HR⟩ := hrel
    clear H0
    by_cases hlt : k < 32
    · obtain ⟨q, r, hq, hqr, hr⟩ : ∃ q r : Nat, q < 8 ∧ k = 4 * q + r ∧ r < 4 := ⟨k / 4, k % 4, by omega, by omega, by omega⟩
      have hwd := HR.out.2.1.word hq
      obtain ⟨x, hx⟩ : ∃ x, we.getD q 0 = x := ⟨_, rfl⟩
      rw [hx] at hwd
      have hby : byteAt we k = (x >>> (8 * r)).setWidth 8 := by
        unfold byteAt
        rw [show k / 4 = q by omega, show k % 4 = r by omega, hx]
      have hod := HR.out.1.byte (k := k) (by rw [outK_length]; exact hlt)
      have hof := HR.out.1.frozen k
      obtain ⟨zz, hzz⟩ : ∃ z, (outK we k).getD k 0 = z := ⟨_, rfl⟩
      rw [hzz] at hod
      have g1 : (k : Int) / 4 = (q : Int) := by omega
      have g2 : (k : Int) % 4 = (r : Int) := by omega
      have x0 := iv_lo x
      have HBY := Lib.hid hby
      clear hx hby hzz hqr
      have : r = 0 ∨ r = 1 ∨ r = 2 ∨ r = 3 := by omega
      rcases this with rfl | rfl | rfl | rfl
      · have hb : iv x % 256 = ib (byteAt we k) := by rw [HBY.out]; simpa using low_byte x
        have HBB := Lib.hid hb
        clear hb
        go_wp2
        refine ⟨⟨k + 1, by omega, by go_num, Lib.hid ?_⟩, by simp [intOf]; omega⟩
        rw [HBB.out, outK]
        exact ⟨HR.out.1.setByte k _, HR.out.2.1.but ((But.refl (fun b => b = O) wr).set _ _ (.inl rfl)) (by omega), HR.out.2.2.1.other (by show w.heap.size + 1 ≠ O; omega) _, HR.out.2.2.2.setCell (p := ⟨O, k, none⟩) (by show w.heap.size ≤ O; omega) _⟩
      · have hb : iv x / 256 % 256 = ib (byteAt we k) := by rw [HBY.out]; exact byte_num x _ _ (by decide)
        have HBB := Lib.hid hb
        clear hb
        go_wp2
        refine ⟨⟨k + 1, by omega, by go_num, Lib.hid ?_⟩, by simp [intOf]; omega⟩
        rw [HBB.out, outK]
        exact ⟨HR.out.1.setByte k _, HR.out.2.1.but ((But.refl (fun b => b = O) wr).set _ _ (.inl rfl)) (by omega), HR.out.2.2.1.other (by show w.heap.size + 1 ≠ O; omega) _, HR.out.2.2.2.setCell (p := ⟨O, k, none⟩) (by show w.heap.size ≤ O; omega) _⟩
      · have hb : iv x / 65536 % 256 = ib (byteAt we k) := by rw [HBY.out]; exact byte_num x _ _ (by decide)
        have HBB := Lib.hid hb
        clear hb
        go_wp2
        refine ⟨⟨k + 1, by omega, by go_num, Lib.hid ?_⟩, by simp [intOf]; omega⟩
        rw [HBB.out, outK]
        exact ⟨HR.out.1.setByte k _, HR.out.2.1.but ((But.refl (fun b => b = O) wr).set _ _ (.inl rfl)) (by omega), HR.out.2.2.1.other (by show w.heap.size + 1 ≠ O; omega) _, HR.out.2.2.2.setCell (p := ⟨O, k, none⟩) (by show w.heap.size ≤ O; omega) _⟩
      · have hb : iv x / 16777216 % 256 = ib (byteAt we k) := by rw [HBY.out]; exact byte_num x _ _ (by decide)
        have HBB := Lib.hid hb
        clear hb
        go_wp2
        refine ⟨⟨k + 1, by omega, by go_num, Lib.hid ?_⟩, by simp [intOf]; omega⟩
        rw [HBB.out, outK]
        exact ⟨HR.out.1.setByte k _, HR.out.2.1.but ((But.refl (fun b => b = O) wr).set _ _ (.inl rfl)) (by omega), HR.out.2.2.1.other (by show w.heap.size + 1 ≠ O; omega) _, HR.out.2.2.2.setCell (p := ⟨O, k, none⟩) (by show w.heap.size ≤ O; omega) _⟩
    · obtain rfl : k = 32 := by omega
      have ho := HR.out.1
      have hl := outK_length we 32
      obtain ⟨D, hD⟩ : ∃ D, outK we 32 = D := ⟨_, rfl⟩
      rw [hD] at ho hl
      have hdig : digest (endS ws p cur) = D := by unfold digest; rw [HE.out, hD]
      have HDG := Lib.hid hdig
      have HOo := Lib.hid ho
      have HLl := Lib.hid hl
      have HRr := Lib.hid HR.out.2.2
      have h32 : Hid ((bvs (List.replicate 32 0#8)).size = (bvs D).size) := Lib.hid (by rw [bvs_size, bvs_size, hl]; rfl)
      clear HR ho hl hD hdig
      go_wp2_with (first
        | (refine wpList_load_row rfl 0x21 _ rfl O rfl 0x21 _ (0, 0) _ HOo.out Tryd.underlying33 rfl (i36 D HLl.out) ?_)
        | (refine wpList_store_row rfl 0x21 _ _ rfl (w.heap.size + 1) (bvs D) rfl rfl 0x21 _ HRr.out.1 (i36 D HLl.out) h32.out (bvs_one D) ?_))
      refine bodyPost_ret (results_cell_row rfl _ _ (w.heap.size + 1) 0x21 (bvs D) (0, 0) _ rfl (setRow_heap _ _ _ _ _ _ HRr.out.1) Tryd.underlying33 rfl (i36 D HLl.out)) rfl ⟨by rw [HDG.out], below_setRow HRr.out.2 (by omega) _⟩
end Go.Proofs
