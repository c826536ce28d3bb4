/-
  Facts for the walk of the law BlakeWrites where there is a hash. No condition.
  A key's block, its halves, a tag: what they are; the contracts of the reference's sum, half and Tag.
  The contracts of hmac's filled and keyed, and of the closure that makes a half.
  A tag under way in memory; the contracts of its inner take and end, of there, and of New.
  The contract of told: the tag of what was written and of the parts, which it writes behind.
-/
import Derived.Test.YtbojnblececnhaaGreatDoorQ14
namespace Go.Proofs
open Go.RowKit Sm
/-- a row of the call's own as a part, beside a hash below it -/
theorem Sm.pt_of_own {w : World} {base g n c : Nat} {A : Option Addr} {l : List (BitVec 8)} (h : w.ownsRow base 5 1 (.slice A n c) n (l.map byteCell)) (hl : l.length = n) (hg : g < base) : PtOK w g A n c l := by
  rcases h.2 with ⟨e, e2⟩ | ⟨k, cap, cur, e, hb, hk, hnc, hcm, hcs, htake⟩
  · cases e
    exact ⟨hl, Nat.le_refl _, by decide, fun h0 => by rw [List.length_map] at h0; omega⟩
  · simp only [Value.slice.injEq] at e
    obtain ⟨rfl, _, rfl⟩ := e
    have hr := Rd.of_own h (Nat.le_refl _)
    refine ⟨hl, hnc, hcm, fun h0 => ?_⟩
    obtain ⟨b, off, e, hb2, hc⟩ := hr (by rw [List.length_map] at h0; exact h0)
    cases e
    refine ⟨k, 0, rfl, hb2, by omega, fun j v hj => ?_⟩
    rw [List.getElem?_map] at hj
    obtain ⟨x, hx, rfl⟩ := Option.map_eq_some_iff.1 hj
    exact hc j x hx
theorem Sm.rd_cut0 {w : World} {N c : Nat} {A : Option Addr} {l : List (BitVec 8)} (h : Rd w N A l) (m : Nat) : Rd w N (cutA A 0 c) (l.take m) := by
  have e : ∀ hl : 0 < (l.take m).length, cutA A 0 c = A := fun hl => by
    obtain ⟨b, off, rfl, _⟩ := h (by rw [List.length_take] at hl; omega)
    unfold cutA
    split
    · rfl
    · rw [Option.map_some, Addr.add_mid, Nat.add_zero]
  intro hl
  rw [e hl]
  exact h.take m hl
theorem Sm.joinP_cut (ps : List Pt) (k : Nat) : (joinP ps).take (joinP (ps.take k)).length = joinP (ps.take k) := by
  have e : joinP ps = joinP (ps.take k) ++ joinP (ps.drop k) := by
    unfold joinP
    rw [← List.flatMap_append, List.take_append_drop]
  rw [e, List.take_left']
  rfl
theorem Sm.joinP_len (ps : List Pt) (k : Nat) : (joinP (ps.take k)).length ≤ (joinP ps).length := by
  have := congrArg List.length (joinP_cut ps k)
  rw [List.length_take] at this
  omega
theorem Sm.takeS_none (s : HS) (h : s.cur.length ≤ 64) : takeS s [] = s := by
  obtain ⟨ws, p, cur⟩ := s
  have hc : cnt cur = 0 := by unfold cnt; simp only at h; omega
  unfold takeS
  simp [hc, pressK]
/-- a store into a row of the call's own -/
theorem Sm.inc_byte (y : BitVec 8) : (ib y + 1) % 256 = ib (y + 1#8) := by
  unfold ib
  rw [BitVec.toNat_add]
  simp
theorem Sm.own_put {w : World} {base n cap g : Nat} {ys : List (BitVec 8)} (h : w.ownsRow base 5 1 (.slice (some ⟨g, 0, none⟩) n cap) n (ys.map byteCell)) (j : Nat) (y : BitVec 8) :
    (w.setCell ⟨g, j, none⟩ (.int .u8 (ib y))).ownsRow base 5 1 (.slice (some ⟨g, 0, none⟩) n cap) n ((ys.set j y).map byteCell) := by
  have := (h.stored j (.int .u8 (ib y))).1
  rw [List.map_set]
  exact this
theorem Sm.own_at {w : World} {base n : Nat} {e : TypeId} {A : Option Addr} {c : Nat} {xs : List Value} (h : w.ownsRow base e 1 (.slice A n c) n xs) (hn : 0 < n) : ∃ g, A = some ⟨g, 0, none⟩ ∧ base ≤ g := by
  obtain ⟨g, cap, hv, hb, _⟩ := h.form hn
  cases hv
  exact ⟨g, rfl, hb⟩
end Go.Proofs
namespace Go.Proofs
open Go.RowKit Sm
/-- a key, or its sum -/
def Sm.keyB (key : List (BitVec 8)) : List (BitVec 8) := if 64 < key.length then hashW 32 [] key else key
/-- a key's block -/
def Sm.blockB (key : List (BitVec 8)) : List (BitVec 8) := pad (keyB key)
def Sm.xorB (x : BitVec 8) (B : List (BitVec 8)) : List (BitVec 8) := B.map (· ^^^ x)
/-- a half, and what is behind it, summed -/
def Sm.hmHalf (key : List (BitVec 8)) (x : BitVec 8) (b : List (BitVec 8)) : List (BitVec 8) := hashW 32 [] (xorB x (blockB key) ++ b)
def Sm.tagS (key b : List (BitVec 8)) : List (BitVec 8) := hmHalf key 92#8 (hmHalf key 54#8 b)
theorem Sm.keyB_le (key : List (BitVec 8)) : (keyB key).length ≤ 64 := by
  unfold keyB
  split
  · rw [hashW_length]; decide
  · omega
theorem Sm.blockB_length (key : List (BitVec 8)) : (blockB key).length = 64 := pad_length _ (keyB_le key)
theorem Sm.xorB_length (x : BitVec 8) (B : List (BitVec 8)) : (xorB x B).length = B.length := List.length_map ..
theorem Sm.hmHalf_length (key : List (BitVec 8)) (x : BitVec 8) (b : List (BitVec 8)) : (hmHalf key x b).length = 32 := by unfold hmHalf; exact hashW_length _ _ _
theorem Sm.tagS_length (key b : List (BitVec 8)) : (tagS key b).length = 32 := hmHalf_length _ _ _
theorem Sm.bits_xor8 (x y : BitVec 8) : bits .xor .u8 (ib x) (ib y) = ib (x ^^^ y) := by
  have e : ∀ z : BitVec 8, BitVec.ofInt 8 (ib z) = z := fun z => by unfold ib; rw [BitVec.ofInt_natCast]; simp
  show IntKind.u8.wrap ((BitVec.ofInt 8 (ib x) ^^^ BitVec.ofInt 8 (ib y)).toNat : Int) = _
  rw [e, e]
  generalize x ^^^ y = z
  have := z.isLt
  simp [IntKind.wrap, IntKind.signed, IntKind.bits, ib]
  omega
theorem Sm.pad_getD (c : List (BitVec 8)) (k : Nat) : (pad c).getD k 0 = c.getD k 0 := by
  unfold pad
  rw [List.getD_eq_getElem?_getD, List.getD_eq_getElem?_getD]
  by_cases h : k < c.length
  · rw [List.getElem?_append_left h]
  · rw [List.getElem?_append_right (by omega), List.getElem?_eq_none (by omega : c.length ≤ k), List.getElem?_replicate]
    split <;> rfl
theorem Sm.xorB_snoc (x : BitVec 8) (B : List (BitVec 8)) (k : Nat) (hk : k < B.length) : xorB x (B.take (k + 1)) = xorB x (B.take k) ++ [B.getD k 0 ^^^ x] := by
  unfold xorB
  rw [List.take_succ_eq_append_getElem hk, List.map_append]
  simp [List.getD_eq_getElem?_getD, hk]
theorem Sm.rd1 (w : World) (y : BitVec 8) : Rd (w.alloc (.cells #[.int .u8 (ib y)] 5)) (w.heap.size + 1) (some ⟨w.heap.size, 0, none⟩) [y] := fun _ => ⟨w.heap.size, 0, rfl, by omega, fun j c hj => by
  rw [World.cell?_alloc_mark]
  rcases j with _ | j <;> simp at hj <;> subst hj <;> rfl⟩
end Go.Proofs
namespace Go.Proofs
open Go.RowKit Sm
theorem Sm.z73 : (Tryz.prog.info? 0x85).map (fun i => (i.zero, i.size)) = some (some (.agg (bvs z64)), 64) := by kernel_rfl
theorem Sm.i73 (l : List (BitVec 8)) (h : l.length = 64) : (Tryz.prog.info? 0x85).map (·.size) = some (bvs l).size := by rw [bvs_size, h]; kernel_rfl
theorem Sm.z64_same {l : List (BitVec 8)} (h : l.length = 64) : (bvs z64).size = (bvs l).size := by rw [bvs_size, bvs_size, h, z64_length]
theorem Sm.slice73_all (b o : Nat) (w : World) : (Instr.sliceAt 0x85 (.pointer (some ⟨b, o, none⟩)) none none none).run Tryz.prog w = .ok (.slice (some ⟨b, o, none⟩) 64 64) w := by
  have hu : Tryz.prog.underlying 0x85 = some (.array (Tryz.prog.arrayLen 0x85) (Tryz.prog.elem 0x85)) := by kernel_rfl
  have ha : Tryz.prog.arrayLen 0x85 = 64 := by kernel_rfl
  have he : Tryz.prog.elem 0x85 = 5 := by kernel_rfl
  have hs : ∀ w, (sizeOf 5).run Tryz.prog w = .ok 1 w := fun _ => by kernel_rfl
  rw [run_sliceAt_array_all w 0x85 ⟨b, o, none⟩ hu, he, hs]
  simp only [Result.andThen_ok, slicedAt, ha, Nat.zero_mul]
  rw [if_neg (by omega), Addr.add_mid, Nat.add_zero]
theorem Sm.splice_z64 (l : List (BitVec 8)) : splice (z64.map byteCell) 0 (l.map byteCell) = (pad l).map byteCell := by
  unfold splice pad
  have e : z64 = List.replicate 64 0#8 := rfl
  rw [e, List.map_append, List.map_replicate, List.map_replicate, List.take_zero, List.nil_append, Nat.zero_add, List.length_map, List.drop_replicate]
theorem Sm.rd_src {w : World} {N : Nat} {A : Option Addr} {l : List (BitVec 8)} (h : Rd w N A l) (h0 : 0 < (l.map byteCell).length) : ∃ ad, A = some ad ∧ ∀ j v, (l.map byteCell)[j]? = some v → w.cell? (ad.add j) = some v := by
  obtain ⟨b, off, rfl, _, _⟩ := h (by rw [List.length_map] at h0; exact h0)
  exact ⟨_, rfl, h.news⟩
set_option maxRecDepth 100000 in
set_option maxHeartbeats 2000000 in
theorem Sm.filled_any (n c : Nat) (A : Option Addr) (l : List (BitVec 8)) (w : World) (hl : l.length = n) (hn : n ≤ 64) (hr : Rd w w.heap.size A l) :
    Calls Tryz.prog 84 #[.slice A n c] w fun e w' => e = .returned (.agg (bvs (pad l))) ∧ Below w.heap.size w w' := by
  have hz := (zero_of_info z73).1
  have hsl := slice73_all (w.heap.size + 1) 0
  have hpl := pad_length l (by omega)
  obtain ⟨W2, hW2⟩ : ∃ W2, (w.alloc (.cells (bvs z64) 0x85)).alloc (.cells (bvs z64) 0x85) = W2 := ⟨_, rfl⟩
  have hb2 : Below w.heap.size w W2 := by rw [← hW2]; exact ((Below.refl _ w).alloc (Nat.le_refl _) _).alloc (by simp) _
  have h0 : Blk W2 w.heap.size 0x85 (bvs z64) := by rw [← hW2]; exact (Blk.new w 0x85 _).alloc _
  have h1 : Blk W2 (w.heap.size + 1) 0x85 (bvs z64) := by rw [← hW2]; exact Blk.newAt (X := w.alloc (.cells (bvs z64) 0x85)) (by simp) 0x85 _
  have hr2 := hr.below hb2
  have hpos : 0 < (l.map byteCell).length → (some (⟨w.heap.size + 1, 0, none⟩ : Addr)) = some ⟨w.heap.size + 1, 0, none⟩ ∧ ∃ ad, A = some ad ∧ ∀ j v, (l.map byteCell)[j]? = some v → W2.cell? (ad.add j) = some v := fun h0 => ⟨rfl, rd_src hr2 h0⟩
  have hfit : 0 + (l.map byteCell).length ≤ (z64.map byteCell).length := by rw [List.length_map, List.length_map, z64_length]; omega
  have hmin : (l.map byteCell).length = Nat.min n 64 := by rw [List.length_map, hl]; exact (Nat.min_eq_left hn).symm
  have hsp := splice_z64 l
  have HW := Lib.hid hW2
  have HB2 := Lib.hid hb2
  have H0 := Lib.hid h0
  have H1 := Lib.hid h1
  have HP := Lib.hid hpos
  have HF := Lib.hid hfit
  have HMn := Lib.hid hmin
  have HSP := Lib.hid hsp
  have HPL := Lib.hid hpl
  clear hW2 hb2 h0 h1 hpos hfit hmin hsp hpl hr2 hr hl hn
  go_enter Tryz.func84, Tryz.ntmps84
  go_upto_region 2 with fail
  rw [HW.out]
  go_wp2_with (first
    | (refine wpList_copy_splice rfl (.tmp 4) (.tmp 5) 0x38 0x38 rfl 5 Tryz.underlying56 i5 (some ⟨w.heap.size + 1, 0, none⟩) A 64 64 n c rfl rfl (w.heap.size + 1) 0 (z64.map byteCell) 0x85 H1.out (l.map byteCell) HMn.out HP.out HF.out (byteCell_one l) (w.heap.size + 1) W2 (Below.refl _ _) (Nat.le_refl _) ?_; intro w6 hblk hb6; rw [HSP.out] at hblk)
    | (refine wpList_load_row rfl 0x85 _ rfl (w.heap.size + 1) rfl 0x85 (bvs (pad l)) (0, 0) _ hblk.out Tryz.underlying133 rfl (i73 _ HPL.out) ?_)
    | (refine wpList_store_row rfl 0x85 _ _ rfl w.heap.size (bvs (pad l)) rfl rfl 0x85 (bvs z64) ((hb6.block _ (by omega)).trans H0.out) (i73 _ HPL.out) (z64_same HPL.out) (bvs_one _) ?_))
  have h6 : Blk w6 w.heap.size 0x85 (bvs z64) := (hb6.block _ (by omega)).trans H0.out
  refine bodyPost_ret (results_cell_row rfl _ _ w.heap.size 0x85 (bvs (pad l)) (0, 0) _ rfl (setRow_heap _ _ _ _ _ _ h6) Tryz.underlying133 rfl (i73 _ HPL.out)) rfl ⟨rfl, ?_⟩
  exact below_setRow (HB2.out.trans (hb6.mono (by omega))) (Nat.le_refl _) _
set_option maxRecDepth 100000 in
set_option maxHeartbeats 2000000 in
theorem Sm.keyed_any (n c : Nat) (A : Option Addr) (key : List (BitVec 8)) (w : World) (ht : Tabs w) (hk : key.length = n) (hn : n ≤ 1000) (hnc : n ≤ c) (hcm : c ≤ 9223372036854775807) (hr : Rd w w.heap.size A key) :
    Calls Tryz.prog 98 #[.slice A n c] w fun e w' => e = .returned (.agg (bvs (blockB key))) ∧ Below w.heap.size w w' := by
  have hz := (zero_of_info z73).1
  have hBl := blockB_length key
  obtain ⟨W1, hW1⟩ : ∃ W1, w.alloc (.cells (bvs z64) 0x85) = W1 := ⟨_, rfl⟩
  have hb1 : Below w.heap.size w W1 := by rw [← hW1]; exact (Below.refl _ w).alloc (Nat.le_refl _) _
  have h1 : Blk W1 w.heap.size 0x85 (bvs z64) := by rw [← hW1]; exact Blk.new w 0x85 _
  have hr1 := (hr.below hb1).more hb1.size
  have HW := Lib.hid hW1
  have HB1 := Lib.hid hb1
  have H1 := Lib.hid h1
  have HBL := Lib.hid hBl
  by_cases h0 : (64 : Int) < (n : Int)
  · have hkB : blockB key = pad (hashW 32 [] key) := by unfold blockB keyB; rw [if_pos (by omega)]
    obtain ⟨W2, hW2⟩ : ∃ W2, W1.alloc (.cells #[.slice A n c] 0x38) = W2 := ⟨_, rfl⟩
    have hb2 : Below W1.heap.size W1 W2 := by rw [← hW2]; exact (Below.refl _ _).alloc (Nat.le_refl _) _
    have hrow : Blk W2 W1.heap.size 0x38 ([(⟨A, n, c, key⟩ : Pt)].map Pt.val).toArray := by rw [← hW2]; exact row_new W1 [⟨A, n, c, key⟩]
    have hsum := Sum_any (some ⟨W1.heap.size, 0, none⟩) 1 1 [⟨A, n, c, key⟩] W2 (fun g hg => parts_ok hrow hb2 rfl (by show 1 ≤ 1000000; decide) g (by have := hrow.lt; omega) (fun p hp => (List.mem_singleton.1 hp) ▸ pt_of_rd hk hnc hcm hr1 g (Nat.le_trans hb2.size hg))) (Nat.le_refl _) ((ht.keep hb1).keep hb2) (by simp [joinP]; omega)
    have hj : joinP [⟨A, n, c, key⟩] = key := by simp [joinP]
    rw [hj] at hsum
    have hDl := hashW_length 32 [] key
    obtain ⟨D, hD⟩ : ∃ D, hashW 32 [] key = D := ⟨_, rfl⟩
    rw [hD] at hsum hkB hDl
    have HS := Lib.hid hsum
    have HDL := Lib.hid hDl
    have HKB := Lib.hid hkB
    have HW2 := Lib.hid hW2
    have HB2 := Lib.hid hb2
    clear hW1 hb1 h1 hr1 hBl hrow hsum hj hD hDl hkB hW2 hb2 ht hk hn hnc hcm hr
    go_enter Tryz.func98, Tryz.ntmps98
    go_upto_if 6 with fail
    rw [HW.out]
    go_upto_region 3 with (first
      | (go_at_call 96; rw [HW2.out]; (with_reducible refine HS.out.mono ?_); rintro e w3 ⟨rfl, hb3⟩)
      | (refine wpList_store_row rfl 0x7e _ _ rfl w3.heap.size (bvs D) rfl rfl 0x7e (bvs (List.replicate 32 0#8)) (World.alloc_heap_new w3 _) (i36 D HDL.out) (by rw [bvs_size, bvs_size, HDL.out]; rfl) (bvs_one D) ?_))
    rw [zu32_eq]
    obtain ⟨W4, hW4⟩ : ∃ W4, (w3.alloc (.cells (bvs (List.replicate 32 0#8)) 0x7e)).setRow w3.heap.size (bvs D) = W4 := ⟨_, rfl⟩
    obtain ⟨sb, hsb⟩ : ∃ sb, w3.heap.size = sb := ⟨_, rfl⟩
    have hB4 : Blk W4 sb 0x7e (bvs D) := by rw [← hW4, ← hsb]; exact setRow_heap _ _ _ _ _ _ (World.alloc_heap_new w3 _)
    have hb14 : Below W1.heap.size W1 W4 := by
      have := HB2.out.trans (hb3.mono HB2.out.size)
      rw [← hW4]
      exact below_setRow (this.alloc this.size _) this.size _
    rw [hW4, hsb]
    have hfl := filled_any 32 32 (some ⟨sb, 0, none⟩) D W4 HDL.out (by decide) (hB4.rd hB4.lt)
    rw [← HKB.out] at hfl
    have hsl := slice33_all sb
    have h14 := H1.out.keep hb14
    have HFL := Lib.hid hfl
    have H14 := Lib.hid h14
    have HB14 := Lib.hid hb14
    clear hW4 hsb hB4 hb14 hfl h14 hb3
    go_wp2_with (first
      | (go_at_call 84; (with_reducible refine HFL.out.mono ?_); rintro e w5 ⟨rfl, hb5⟩)
      | (refine wpList_store_row rfl 0x85 _ _ rfl w.heap.size (bvs (blockB key)) rfl rfl 0x85 (bvs z64) (H14.out.keep hb5) (i73 _ HBL.out) (z64_same HBL.out) (bvs_one _) ?_))
    refine bodyPost_ret (results_cell_row rfl _ _ w.heap.size 0x85 (bvs (blockB key)) (0, 0) _ rfl (setRow_heap _ _ _ _ _ _ (H14.out.keep hb5)) Tryz.underlying133 rfl (i73 _ HBL.out)) rfl ⟨rfl, ?_⟩
    have h15 := HB14.out.trans (hb5.mono HB14.out.size)
    exact below_setRow (HB1.out.trans (h15.mono HB1.out.size)) (Nat.le_refl _) _
  · have hkB : blockB key = pad key := by unfold blockB keyB; rw [if_neg (by omega)]
    have hfl := filled_any n c A key W1 hk (by omega) hr1
    rw [← hkB] at hfl
    have HFL := Lib.hid hfl
    clear hW1 hb1 h1 hr1 hBl hkB hfl ht hk hn hnc hcm hr
    go_enter Tryz.func98, Tryz.ntmps98
    go_upto_if 6 with fail
    rw [HW.out]
    go_wp2_with (first
      | (go_at_call 84; (with_reducible refine HFL.out.mono ?_); rintro e w5 ⟨rfl, hb5⟩)
      | (refine wpList_store_row rfl 0x85 _ _ rfl w.heap.size (bvs (blockB key)) rfl rfl 0x85 (bvs z64) (H1.out.keep hb5) (i73 _ HBL.out) (z64_same HBL.out) (bvs_one _) ?_))
    refine bodyPost_ret (results_cell_row rfl _ _ w.heap.size 0x85 (bvs (blockB key)) (0, 0) _ rfl (setRow_heap _ _ _ _ _ _ (H1.out.keep hb5)) Tryz.underlying133 rfl (i73 _ HBL.out)) rfl ⟨rfl, ?_⟩
    exact below_setRow (HB1.out.trans (hb5.mono HB1.out.size)) (Nat.le_refl _) _
theorem Sm.xor_set (x : BitVec 8) (B : List (BitVec 8)) (k : Nat) (hk : k < B.length) : (xorB x (B.take k) ++ B.drop k).set k (B.getD k 0 ^^^ x) = xorB x (B.take (k + 1)) ++ B.drop (k + 1) := by
  have hl : (xorB x (B.take k)).length = k := by rw [xorB_length, List.length_take]; omega
  rw [xorB_snoc x B k hk, List.drop_eq_getElem_cons hk, List.set_append_right _ _ (by omega), hl, Nat.sub_self, List.set_cons_zero, List.append_assoc, List.singleton_append]
theorem Sm.xor_get (x : BitVec 8) (B : List (BitVec 8)) (k : Nat) (hk : k < B.length) : (xorB x (B.take k) ++ B.drop k).getD k 0 = B.getD k 0 := by
  have hl : (xorB x (B.take k)).length = k := by rw [xorB_length, List.length_take]; omega
  rw [List.getD_eq_getElem?_getD, List.getElem?_append_right (by omega), hl, Nat.sub_self, List.getElem?_drop, List.getD_eq_getElem?_getD]
  rfl
theorem Sm.xor_len (x : BitVec 8) (B : List (BitVec 8)) (k : Nat) : (xorB x (B.take k) ++ B.drop k).length = B.length := by
  rw [List.length_append, xorB_length, List.length_take, List.length_drop]; omega
set_option maxRecDepth 100000 in
set_option maxHeartbeats 2000000 in
/-- a half of a block -/
theorem Sm.mask_any (P : Nat) (x : BitVec 8) (B : List (BitVec 8)) (w : World) (hB : B.length = 64) (h : Blk w P 0x85 (bvs B)) :
    Calls Tryz.prog 99 #[.int .u8 (ib x), .pointer (some ⟨P, 0, none⟩)] w fun e w' => e = .returned (.agg (bvs (xorB x B))) ∧ Below w.heap.size w w' := by
  have hz := (zero_of_info z73).1
  have HB := Lib.hid hB
  have HP := Lib.hid h
  clear hB h
  go_enter Tryz.func99, Tryz.ntmps99
  go_upto_region 2 with (first
    | (refine wpList_load_row rfl 0x85 _ rfl P rfl 0x85 (bvs B) (0, 0) _ (HP.out.alloc _) Tryz.underlying133 rfl (i73 _ HB.out) ?_)
    | (refine wpList_store_row rfl 0x85 _ _ rfl (w.heap.size + 1) (bvs B) rfl rfl 0x85 (bvs z64) (by have := World.alloc_heap_new (w.alloc (.cells (bvs z64) 0x85)) (.cells (bvs z64) 0x85); rwa [World.size_alloc] at this) (i73 _ HB.out) (z64_same HB.out) (bvs_one _) ?_))
  obtain ⟨W2, hW2⟩ : ∃ W2, ((w.alloc (.cells (bvs z64) 0x85)).alloc (.cells (bvs z64) 0x85)).setRow (w.heap.size + 1) (bvs B) = W2 := ⟨_, rfl⟩
  have hb2 : Below w.heap.size w W2 := by rw [← hW2]; exact below_setRow (((Below.refl _ w).alloc (Nat.le_refl _) _).alloc (by simp) _) (by omega) _
  have h0 : Blk W2 w.heap.size 0x85 (bvs z64) := by rw [← hW2]; exact (setRow_other _ _ _ _ (by omega)).trans ((Blk.new w 0x85 _).alloc _)
  have h1 : Blk W2 (w.heap.size + 1) 0x85 (bvs (xorB x (B.take 0) ++ B.drop 0)) := by
    rw [← hW2]
    exact setRow_heap _ _ (bvs z64) _ _ _ (Blk.newAt (X := w.alloc (.cells (bvs z64) 0x85)) (by simp) 0x85 _)
  rw [hW2]
  have HS := Lib.hid (And.intro h0 (And.intro h1 hb2))
  clear hW2 hb2 h0 h1 HP
  go_wp2_with fail
  go_loopw [7] (fun s7 wr => ∃ k : Nat, k ≤ 64 ∧ s7 = .int .i64 (k : Int) ∧ Hid (Blk wr w.heap.size 0x85 (bvs z64) ∧ Blk wr (w.heap.size + 1) 0x85 (bvs (xorB x (B.take k) ++ B.drop k)) ∧ Below w.heap.size w wr)) (fun s7 _ => 64 - (intOf s7).toNat)
  case atStart => exact ⟨0, by omega, rfl, HS⟩
  case round =>
    obtain ⟨wo, rfl⟩ : ∃ wo : World, wo = wr := ⟨_, rfl⟩
    obtain ⟨k, hk, rfl, HQ⟩ := hrel
    clear HS
    by_cases hlt : k < 64
    · have hc := HQ.out.2.1.byte (k := k) (by rw [xor_len, HB.out]; exact hlt)
      have hf := HQ.out.2.1.frozen k
      have hst := xor_set x B k (by rw [HB.out]; exact hlt)
      rw [xor_get x B k (by rw [HB.out]; exact hlt)] at hc
      obtain ⟨y, hy⟩ : ∃ y, B.getD k 0 = y := ⟨_, rfl⟩
      rw [hy] at hc hst
      have hx := bits_xor8 y x
      have HST := Lib.hid hst
      have g7 : (k : Int) < 64 := by omega
      clear hy hst
      go_wp2_with fail
      go_roundw
      case rel =>
        refine ⟨k + 1, by omega, by go_num, Lib.hid ⟨HQ.out.1.other (by simp) _, ?_, HQ.out.2.2.setCell (p := ⟨w.heap.size + 1, k, none⟩) (by simp) _⟩⟩
        rw [← HST.out]
        exact HQ.out.2.1.setByte k _
      case measure => simp [intOf]; omega
    · obtain rfl : k = 64 := by omega
      have hall : xorB x (B.take 64) ++ B.drop 64 = xorB x B := by rw [List.take_of_length_le (by rw [HB.out]; exact Nat.le_refl _), List.drop_eq_nil_of_le (by rw [HB.out]; exact Nat.le_refl _), List.append_nil]
      have h1 := HQ.out.2.1
      rw [hall] at h1
      have H1 := Lib.hid h1
      have H0 := Lib.hid HQ.out.1
      have HB2 := Lib.hid HQ.out.2.2
      have hxl : (xorB x B).length = 64 := by rw [xorB_length, HB.out]
      have HXL := Lib.hid hxl
      clear hall h1 hxl HQ
      go_wp2_with (first
        | (refine wpList_load_row rfl 0x85 _ rfl (w.heap.size + 1) rfl 0x85 (bvs (xorB x B)) (0, 0) _ H1.out Tryz.underlying133 rfl (i73 _ HXL.out) ?_)
        | (refine wpList_store_row rfl 0x85 _ _ rfl w.heap.size (bvs (xorB x B)) rfl rfl 0x85 (bvs z64) H0.out (i73 _ HXL.out) (z64_same HXL.out) (bvs_one _) ?_))
      refine bodyPost_ret (results_cell_row rfl _ _ w.heap.size 0x85 (bvs (xorB x B)) (0, 0) _ rfl (setRow_heap _ _ _ _ _ _ H0.out) Tryz.underlying133 rfl (i73 _ HXL.out)) rfl ⟨rfl, ?_⟩
      exact below_setRow HB2.out (Nat.le_refl _) _
end Go.Proofs
namespace Go.Proofs
open Go.RowKit Sm
/-- what lies of a tag under way -/
structure Sm.MacAt (w : World) (gm g : Nat) (O : List (BitVec 8)) (s : HS) : Prop where
  m : Blk w gm 0x98 (Value.pointer (some ⟨g, 0, none⟩) :: O.map byteCell).toArray
  h : HsAt w g s 32 0
  len : O.length = 64
  ne : gm ≠ g
  cur : s.cur.length ≤ 64
section
variable {w w' : World} {gm g : Nat} {O : List (BitVec 8)} {s : HS}
theorem Sm.MacAt.keep (h : MacAt w gm g O s) (hb : Below w.heap.size w w') : MacAt w' gm g O s := ⟨h.m.keep hb, h.h.keep hb, h.len, h.ne, h.cur⟩
theorem Sm.MacAt.drew (h : MacAt w gm g O s) : MacAt w.drew gm g O s := ⟨h.m.drew, h.h.drew, h.len, h.ne, h.cur⟩
theorem Sm.MacAt.ptr (h : MacAt w gm g O s) : w.cell? ⟨gm, 0, none⟩ = some (.pointer (some ⟨g, 0, none⟩)) := by rw [h.m.cell]; rfl
theorem Sm.MacAt.write (h : MacAt w gm g O s) {l : List (BitVec 8)} (hb : But (fun b => b = g) w w') (hh : HsAt w' g (takeS s l) 32 0) : MacAt w' gm g O (takeS s l) := ⟨h.m.but hb h.ne, hh, h.len, h.ne, takeS_cur_le s l⟩
theorem Sm.MacAt.but {S : Nat → Prop} (h : MacAt w gm g O s) (hb : But S w w') (h1 : ¬ S gm) (h2 : ¬ S g) : MacAt w' gm g O s := ⟨h.m.but hb h1, h.h.but hb h2, h.len, h.ne, h.cur⟩
theorem Sm.MacAt.lt (h : MacAt w gm g O s) : gm < w.heap.size ∧ g < w.heap.size := ⟨h.m.lt, h.h.lt⟩
/-- the outer half's bytes -/
theorem Sm.MacAt.rd (h : MacAt w gm g O s) : Rd w w.heap.size (some ⟨gm, 1, none⟩) O := fun _ => ⟨gm, 1, rfl, h.m.lt, fun j c hj => by
  rw [h.m.cell, List.getElem?_toArray, Nat.add_comm, List.getElem?_cons_succ, List.getElem?_map, hj]
  rfl⟩
end
set_option maxRecDepth 100000 in
set_option maxHeartbeats 2000000 in
theorem Sm.inTake_any (g : Nat) (s : HS) (A : Option Addr) (n c : Nat) (l : List (BitVec 8)) (w : World) (h : HsAt w g s 32 0) (hcur : s.cur.length ≤ 64) (hpt : PtOK w g A n c l) (hg : 4 ≤ g) (ht : Tabs w) (hp : s.p + (s.cur ++ l).length ≤ 1000000000) :
    Calls Tryz.prog 95 #[.agg #[.pointer (some ⟨g, 0, none⟩)], .slice A n c] w fun e w' => (∃ v, e = .returned v) ∧ HsAt w' g (takeS s l) 32 0 ∧ But (fun b => b = g) w w' := by
  obtain ⟨W1, hW1⟩ : ∃ W1, w.alloc (.cells #[.pointer (some ⟨g, 0, none⟩)] 0x96) = W1 := ⟨_, rfl⟩
  have hb1 : Below w.heap.size w W1 := by rw [← hW1]; exact (Below.refl _ w).alloc (Nat.le_refl _) _
  have hc : W1.cell? ⟨w.heap.size, 0, none⟩ = some (.pointer (some ⟨g, 0, none⟩)) := by rw [← hW1, World.cell?_alloc_mark]; rfl
  have hw := Write_any g s 32 0 A n c l W1 (h.keep hb1) (by decide) hcur (hpt.keep hb1) hg (ht.keep hb1) hp
  have HW := Lib.hid hW1
  have HB := Lib.hid hb1
  have HWR := Lib.hid hw
  clear hW1 hb1 hw h hcur hpt hg ht hp
  go_enter Tryz.func95, Tryz.ntmps95
  go_upto_region 1 with fail
  rw [HW.out]
  go_wp2_with (go_at_call 105; (with_reducible refine HWR.out.mono ?_); rintro e w2 ⟨rfl, hh2, hbt2⟩)
  go_end0
  exact ⟨⟨_, rfl⟩, hh2, (But.of_all HB.out _).trans hbt2 (fun _ _ e => e)⟩
set_option maxRecDepth 100000 in
set_option maxHeartbeats 2000000 in
theorem Sm.inEnd_any (g : Nat) (s : HS) (w : World) (h : HsAt w g s 32 0) (hcur : s.cur.length ≤ 64) (ht : Tabs w) (hp : s.p ≤ 1000000000) :
    Calls Tryz.prog 97 #[.agg #[.pointer (some ⟨g, 0, none⟩)]] w fun e w' => ∃ A c, e = .returned (.slice A 32 c) ∧ 32 ≤ c ∧ c ≤ 9223372036854775807 ∧ Rd w' w'.heap.size A (sumS s) ∧ Below w.heap.size w w' := by
  obtain ⟨W1, hW1⟩ : ∃ W1, w.alloc (.cells #[.pointer (some ⟨g, 0, none⟩)] 0x96) = W1 := ⟨_, rfl⟩
  have hb1 : Below w.heap.size w W1 := by rw [← hW1]; exact (Below.refl _ w).alloc (Nat.le_refl _) _
  have hc : W1.cell? ⟨w.heap.size, 0, none⟩ = some (.pointer (some ⟨g, 0, none⟩)) := by rw [← hW1, World.cell?_alloc_mark]; rfl
  have hs := HSum_any g s 32 0 W1 (h.keep hb1) (by decide) (by decide) hcur (ht.keep hb1) hp
  rw [List.take_of_length_le (by rw [sumS_length]; exact Nat.le_refl _)] at hs
  have HW := Lib.hid hW1
  have HB := Lib.hid hb1
  have HS := Lib.hid hs
  clear hW1 hb1 hs h hcur ht hp
  go_enter Tryz.func97, Tryz.ntmps97
  go_upto_region 1 with fail
  rw [HW.out]
  go_wp2_with (go_at_call 109; (with_reducible refine HS.out.mono ?_); rintro e w2 ⟨v, rfl, hown, hb2⟩)
  go_ret
  have hm : ∃ A c, v = .slice A 32 c ∧ 32 ≤ c ∧ c ≤ 9223372036854775807 := by
    rcases hown.2 with ⟨_, h0⟩ | ⟨g', cap, cur, rfl, _, _, hnc, hcm, _⟩
    · cases h0
    · exact ⟨_, _, rfl, hnc, by unfold maxLen at hcm; omega⟩
  obtain ⟨A, c, rfl, h1, h2⟩ := hm
  exact ⟨A, c, rfl, h1, h2, Rd.of_own hown (Nat.le_refl _), HB.out.trans (hb2.mono HB.out.size)⟩
set_option maxRecDepth 100000 in
set_option maxHeartbeats 2000000 in
theorem Sm.macThere_yes (gm g : Nat) (O : List (BitVec 8)) (s : HS) (w : World) (h : MacAt w gm g O s) : Calls Tryz.prog 110 #[.pointer (some ⟨gm, 0, none⟩)] w fun e w' => e = .returned (.bool true) ∧ w = w' := by
  have hc := h.ptr
  clear h
  go_enter Tryz.func110, Tryz.ntmps110
  go_wp2
  go_ret
  exact ⟨rfl, rfl⟩
theorem Sm.z75 : (Tryz.prog.info? 0x98).map (fun i => (i.zero, i.size)) = some (some (.agg (Value.pointer none :: z64.map byteCell).toArray), 65) := by kernel_rfl
theorem Sm.fold75 (O : List (BitVec 8)) (hO : O.length = 64) (p : Value) (m : Nat) (hm : m = 64) : Array.foldl (fun (cs : Array Value) (x : Value × Nat) => cs.setIfInBounds (1 + x.snd) x.fst) (p :: z64.map byteCell).toArray (bvs O).zipIdx 0 m = (p :: O.map byteCell).toArray := by
  have e0 : setAll (p :: z64.map byteCell) 1 (O.map byteCell) = p :: O.map byteCell := by
    have := setAll_mid [p] (O.map byteCell) (z64.map byteCell) [] (by rw [List.length_map, List.length_map, z64_length, hO])
    simpa using this
  have h1 := fill_list 1 (O.map byteCell) 0 (p :: z64.map byteCell)
  rw [Nat.add_zero, e0] at h1
  rw [← h1]
  have h2 : (bvs O).zipIdx = ((O.map byteCell).zipIdx).toArray := by unfold bvs; simp
  rw [h2, hm, show (64 : Nat) = ((O.map byteCell).zipIdx).toArray.size by simp [hO], List.foldl_toArray]
theorem Sm.pt_blk {w : World} {b g n c : Nat} {t : TypeId} {l : List (BitVec 8)} (h : Blk w b t (bvs l)) (hne : b ≠ g) (hl : l.length = n) (hnc : n ≤ c) (hcm : c ≤ 9223372036854775807) : PtOK w g (some ⟨b, 0, none⟩) n c l :=
  ⟨hl, hnc, hcm, fun _ => ⟨b, 0, rfl, h.lt, hne, fun j v hj => by
    rw [Nat.zero_add, h.cell]
    simpa [bvs] using hj⟩⟩
set_option maxRecDepth 100000 in
set_option maxHeartbeats 2000000 in
theorem Sm.macNew_any (n c : Nat) (A : Option Addr) (key : List (BitVec 8)) (w : World) (ht : Tabs w) (hk : key.length = n) (hn : n ≤ 1000) (hnc : n ≤ c) (hcm : c ≤ 9223372036854775807) (hr : Rd w w.heap.size A key) :
    Calls Tryz.prog 89 #[.slice A n c] w fun e w' => ∃ gm g, e = .returned (.pointer (some ⟨gm, 0, none⟩)) ∧ w.heap.size ≤ gm ∧ w.heap.size ≤ g ∧ MacAt w' gm g (xorB 92#8 (blockB key)) (takeS (startS 32 []) (xorB 54#8 (blockB key))) ∧ Below w.heap.size w w' := by
  have hz := (zero_of_info z73).1
  have hz75 := (zero_of_info z75).1
  have hzl := z64_length
  have hky := keyed_any n c A key w ht hk hn hnc hcm hr
  have hBl := blockB_length key
  obtain ⟨B, hB⟩ : ∃ B, blockB key = B := ⟨_, rfl⟩
  rw [hB] at hky hBl
  rw [hB]
  have hnew : ∀ v, Below w.heap.size w v → Calls Tryz.prog 100 #[.int .i64 32, .slice none 0 0] v fun e w' => ∃ g, e = .returned (.tuple #[.pointer (some ⟨g, 0, none⟩), .int .i64 0]) ∧ v.heap.size ≤ g ∧ HsAt w' g (startS 32 []) 32 0 ∧ Below v.heap.size v w' := fun v hv => New_yes 32 0 0 none [] v (ht.keep hv) (by decide) (by decide) (by decide) rfl (fun h => absurd h (by decide))
  have hm92 : ∀ v P, Blk v P 0x85 (bvs B) → Calls Tryz.prog 99 #[.int .u8 92, .pointer (some ⟨P, 0, none⟩)] v fun e w' => e = .returned (.agg (bvs (xorB 92#8 B))) ∧ Below v.heap.size v w' := fun v P h => mask_any P 92#8 B v hBl h
  have hm54 : ∀ v P, Blk v P 0x85 (bvs B) → Calls Tryz.prog 99 #[.int .u8 54, .pointer (some ⟨P, 0, none⟩)] v fun e w' => e = .returned (.agg (bvs (xorB 54#8 B))) ∧ Below v.heap.size v w' := fun v P h => mask_any P 54#8 B v hBl h
  have hol : (xorB 92#8 B).length = 64 := by rw [xorB_length, hBl]
  have hil : (xorB 54#8 B).length = 64 := by rw [xorB_length, hBl]
  obtain ⟨O, hO⟩ : ∃ O, xorB 92#8 B = O := ⟨_, rfl⟩
  obtain ⟨I, hI⟩ : ∃ I, xorB 54#8 B = I := ⟨_, rfl⟩
  simp only [hO] at hm92 hol
  simp only [hI] at hm54 hil
  rw [hO, hI]
  have hszO : (bvs O).size = 64 := by rw [bvs_size, hol]
  have hfo := fun p => fold75 O hol p 64 rfl
  have hfo2 := fun p => fold75 O hol p (bvs O).size hszO
  have HKY := Lib.hid hky
  have HBL := Lib.hid hBl
  have HNEW := Lib.hid hnew
  have HM9 := Lib.hid hm92
  have HM5 := Lib.hid hm54
  have HOL := Lib.hid hol
  have HIL := Lib.hid hil
  have HT := Lib.hid ht
  clear hky hBl hB hnew hm92 hm54 hol hil hO hI ht hk hn hnc hcm hr
  go_enter Tryz.func89, Tryz.ntmps89
  go_upto_region 4 with (first
    | (go_at_call 98; (with_reducible refine HKY.out.mono ?_); rintro e w1 ⟨rfl, hb1⟩)
    | (refine wpList_store_row rfl 0x85 _ _ rfl w1.heap.size (bvs B) rfl rfl 0x85 (bvs z64) (World.alloc_heap_new w1 _) (i73 _ HBL.out) (z64_same HBL.out) (bvs_one _) ?_; have hbk : Blk ((w1.alloc (.cells (bvs z64) 0x85)).setRow w1.heap.size (bvs B)) w1.heap.size 0x85 (bvs B) := setRow_heap _ _ _ _ _ _ (World.alloc_heap_new w1 _); have hb2 : Below w.heap.size w ((w1.alloc (.cells (bvs z64) 0x85)).setRow w1.heap.size (bvs B)) := below_setRow (hb1.alloc hb1.size _) hb1.size _; obtain ⟨W2, hW2⟩ : ∃ W2, (w1.alloc (.cells (bvs z64) 0x85)).setRow w1.heap.size (bvs B) = W2 := ⟨_, rfl⟩; rw [hW2] at hbk hb2 ⊢; clear hW2)
    | (go_at_call 100; (with_reducible refine (HNEW.out _ hb2).mono ?_); rintro e w3 ⟨g, rfl, hg3, hh3, hb3⟩))
  have hbk3 := hbk.keep hb3
  have hb03 := hb2.trans (hb3.mono hb2.size)
  have H3 := Lib.hid (And.intro hbk3 (And.intro hh3 (And.intro hb03 (Nat.le_trans hb2.size hg3))))
  obtain ⟨P, hP⟩ : ∃ P, w1.heap.size = P := ⟨_, rfl⟩
  rw [hP] at H3 ⊢
  clear hbk hbk3 hb03 hb3 hg3 hh3 hb2 hb1 hP HKY HNEW
  go_upto_region 5 with (go_at_call 99; (with_reducible refine (HM9.out _ P H3.out.1).mono ?_); rintro e w4 ⟨rfl, hb4⟩)
  obtain ⟨gm, hgm⟩ : ∃ gm, w4.heap.size = gm := ⟨_, rfl⟩
  obtain ⟨W5, hW5⟩ : ∃ W5, w4.alloc (.cells (Value.pointer (some ⟨g, 0, none⟩) :: O.map byteCell).toArray 0x98) = W5 := ⟨_, rfl⟩
  have hm5 : Blk W5 gm 0x98 (Value.pointer (some ⟨g, 0, none⟩) :: O.map byteCell).toArray := by rw [← hW5, ← hgm]; exact Blk.new w4 0x98 _
  have hb35 : Below w3.heap.size w3 W5 := by rw [← hW5]; exact hb4.alloc hb4.size _
  have hgg : g < gm := by have h1 := H3.out.2.1.lt; have h2 := hb4.size; omega
  rw [hW5, hgm]
  have H5 := Lib.hid (And.intro (H3.out.1.keep hb35) (And.intro (H3.out.2.1.keep hb35) (And.intro (H3.out.2.2.1.trans (hb35.mono H3.out.2.2.1.size)) (And.intro H3.out.2.2.2 (And.intro hm5 hgg)))))
  clear hW5 hgm hm5 hb35 hgg hb4 H3 HM9 hfo hfo2 hszO hzl hz75
  go_upto_region 6 with (first
    | (go_at_call 99; (with_reducible refine (HM5.out _ P H5.out.1).mono ?_); rintro e w6 ⟨rfl, hb6⟩)
    | (refine wpList_store_row rfl 0x85 _ _ rfl w6.heap.size (bvs I) rfl rfl 0x85 (bvs z64) (World.alloc_heap_new w6 _) (i73 _ HIL.out) (z64_same HIL.out) (bvs_one _) ?_))
  obtain ⟨Ib, hIb⟩ : ∃ Ib, w6.heap.size = Ib := ⟨_, rfl⟩
  obtain ⟨W7, hW7⟩ : ∃ W7, (w6.alloc (.cells (bvs z64) 0x85)).setRow w6.heap.size (bvs I) = W7 := ⟨_, rfl⟩
  have hI7 : Blk W7 Ib 0x85 (bvs I) := by rw [← hW7, ← hIb]; exact setRow_heap _ _ _ _ _ _ (World.alloc_heap_new w6 _)
  have hb57 : Below W5.heap.size W5 W7 := by rw [← hW7]; exact below_setRow (hb6.alloc hb6.size _) hb6.size _
  have hIg : Ib ≠ g := by have h1 := H5.out.2.1.lt; have h2 := hb6.size; omega
  rw [hW7, hIb]
  have hm7 := H5.out.2.2.2.2.1.keep hb57
  have hh7 := H5.out.2.1.keep hb57
  have hb07 := H5.out.2.2.1.trans (hb57.mono H5.out.2.2.1.size)
  have hgw := H5.out.2.2.2.1
  have hgg := H5.out.2.2.2.2.2
  have hgms : w.heap.size ≤ gm := by omega
  clear hW7 hIb hb6 hb57 H5 HM5 HBL hz
  have hcp : W7.cell? ⟨gm, 0, none⟩ = some (.pointer (some ⟨g, 0, none⟩)) := by rw [hm7.cell]; rfl
  have hsl := slice73_all Ib 0
  have H7 := Lib.hid (And.intro hm7 (And.intro hh7 (And.intro hI7 (And.intro hb07 (And.intro hgw (And.intro hgg (And.intro hIg hgms)))))))
  clear hm7 hh7 hI7 hb07 hgw hgg hIg hgms
  go_still_tail 5, (by kernel_rfl)
  change wpList _ _ _ _ _ W7.drew
  obtain ⟨W8, hW8⟩ : ∃ W8, W7.drew = W8 := ⟨_, rfl⟩
  have hm8 : Blk W8 gm 0x98 (Value.pointer (some ⟨g, 0, none⟩) :: O.map byteCell).toArray := by rw [← hW8]; exact H7.out.1.drew
  have hh8 : HsAt W8 g (startS 32 []) 32 0 := by rw [← hW8]; exact H7.out.2.1.drew
  have hI8 : Blk W8 Ib 0x85 (bvs I) := by rw [← hW8]; exact H7.out.2.2.1.drew
  have hb8 : Below w.heap.size w W8 := by rw [← hW8]; exact H7.out.2.2.2.1.drew
  rw [hW8]
  clear hW8 hcp
  have htk := inTake_any g (startS 32 []) (some ⟨Ib, 0, none⟩) 64 64 I W8 hh8 (startS_cur 32 [] (by decide)) (pt_blk hI8 H7.out.2.2.2.2.2.2.1 HIL.out (Nat.le_refl _) (by decide)) (by have := HT.out.size; have := H7.out.2.2.2.2.1; omega) (HT.out.keep hb8) (by
    have h1 : (startS 32 []).p = 0 := rfl
    have h2 : (startS 32 []).cur = [] := rfl
    rw [h1, h2, List.nil_append, HIL.out]; decide)
  have HTK := Lib.hid htk
  have H8 := Lib.hid (And.intro hm8 hb8)
  clear hm8 hh8 hI8 hb8 htk
  go_wp2_with (go_at_call 95; (with_reducible refine HTK.out.mono ?_); rintro e w9 ⟨⟨v9, rfl⟩, hh9, hbt9⟩)
  go_ret
  have hne : gm ≠ g := by have := H7.out.2.2.2.2.2.1; omega
  exact ⟨gm, g, rfl, H7.out.2.2.2.2.2.2.2, H7.out.2.2.2.2.1, ⟨H8.out.1.but hbt9 hne, hh9, HOL.out, hne, takeS_cur_le _ _⟩, H8.out.2.trans (hbt9.to_below H8.out.2.size (fun b e => by have := H7.out.2.2.2.2.1; omega))⟩
end Go.Proofs
namespace Go.Proofs
open Go.RowKit Sm
theorem Sm.takeS_nil (s : HS) (h : s.cur.length ≤ 64) : takeS s [] = s := by
  obtain ⟨ws, p, cur⟩ := s
  have hc : cnt cur = 0 := by unfold cnt; simp only at h; omega
  unfold takeS
  simp only [List.append_nil, hc]
  rfl
/-- how all stands while a tag is told: the result's cell, and the tag under way -/
structure Sm.TdAt (w wr : World) (gm g : Nat) (O : List (BitVec 8)) (s : HS) : Prop where
  r : Blk wr w.heap.size 0x7e (bvs (List.replicate 32 0#8))
  m0 : MacAt wr gm g O s
  t : Tabs wr
  but : But (fun b => b = g) w wr
  lt : gm < w.heap.size ∧ g < w.heap.size
section
variable {w wr w' : World} {gm g : Nat} {O : List (BitVec 8)} {s : HS}
theorem Sm.TdAt.keep (h : TdAt w wr gm g O s) (hb : Below wr.heap.size wr w') : TdAt w w' gm g O s := ⟨h.r.keep hb, h.m0.keep hb, h.t.keep hb, h.but.trans (But.of_all hb (fun b => b = g)) (fun _ _ e => e), h.lt⟩
theorem Sm.TdAt.drew (h : TdAt w wr gm g O s) : TdAt w wr.drew gm g O s := h.keep (Below.refl _ _).drew
theorem Sm.TdAt.write (h : TdAt w wr gm g O s) (hg : 4 ≤ g) {l : List (BitVec 8)} (hb : But (fun b => b = g) wr w') (hh : HsAt w' g (takeS s l) 32 0) : TdAt w w' gm g O (takeS s l) :=
  ⟨h.r.but hb (by have := h.lt; omega), h.m0.write hb hh, h.t.below (hb.to_below (n := 4) h.t.size (fun b e => by omega)) (Nat.le_refl _), h.but.trans hb (fun _ _ e => e), h.lt⟩
theorem Sm.TdAt.set (h : TdAt w wr gm g O s) {D : List (BitVec 8)} (_hD : D.length = 32) : MacAt (wr.setRow w.heap.size (bvs D)) gm g O s ∧ Blk (wr.setRow w.heap.size (bvs D)) w.heap.size 0x7e (bvs D) ∧ But (fun b => b = g) w (wr.setRow w.heap.size (bvs D)) := by
  have hb : But (fun b => b = w.heap.size) wr (wr.setRow w.heap.size (bvs D)) := ⟨rfl, rfl, rfl, by simp, fun k _ hn => setRow_other wr w.heap.size k _ hn⟩
  have := h.lt
  exact ⟨h.m0.but hb (by omega) (by omega), setRow_heap _ _ _ _ _ _ h.r, h.but.trans hb (fun b hb e => by omega)⟩
end
set_option maxRecDepth 100000 in
set_option maxHeartbeats 4000000 in
theorem Sm.told_any (gm g : Nat) (O : List (BitVec 8)) (s : HS) (A : Option Addr) (n c : Nat) (ps : List Pt) (w : World) (h : MacAt w gm g O s) (hg : 4 ≤ g) (ht : Tabs w) (hps : PsOK w g A n ps) (hp : s.p + s.cur.length + (joinP ps).length ≤ 100000) :
    Calls Tryz.prog 88 #[.pointer (some ⟨gm, 0, none⟩), .slice A n c] w fun e w' => e = .returned (.agg (bvs (hashW 32 [] (O ++ sumS (takeS s (joinP ps)))))) ∧ MacAt w' gm g O (takeS s (joinP ps)) ∧ But (fun b => b = g) w w' := by
  obtain ⟨W1, hW1⟩ : ∃ W1, w.alloc (.cells (bvs (List.replicate 32 0#8)) 0x7e) = W1 := ⟨_, rfl⟩
  have hb1 : Below w.heap.size w W1 := by rw [← hW1]; exact (Below.refl _ w).alloc (Nat.le_refl _) _
  have ht1 : TdAt w W1 gm g O (takeS s (joinP (ps.take 0))) := by
    have e : joinP (ps.take 0) = [] := rfl
    rw [e, takeS_nil s h.cur]
    exact ⟨by rw [← hW1]; exact Blk.new w 0x7e _, h.keep hb1, ht.keep hb1, But.of_all hb1 _, h.lt⟩
  have hps1 := hps.keep hb1
  have hnm := hps.most
  have hcn := takeS_count s (joinP ps)
  obtain ⟨f, hf⟩ : ∃ f, takeS s (joinP ps) = f := ⟨_, rfl⟩
  rw [hf] at hcn ⊢
  have hfp : f.p ≤ 1000000000 := by omega
  have hen : ∀ v, TdAt w v gm g O f → Calls Tryz.prog 97 #[.agg #[.pointer (some ⟨g, 0, none⟩)]] v fun e w' => ∃ A c, e = .returned (.slice A 32 c) ∧ 32 ≤ c ∧ c ≤ 9223372036854775807 ∧ Rd w' w'.heap.size A (sumS f) ∧ Below v.heap.size v w' := fun v hv => inEnd_any g f v hv.m0.h hv.m0.cur hv.t hfp
  have hdl : (sumS f).length = 32 := sumS_length f
  obtain ⟨DI, hDI⟩ : ∃ DI, sumS f = DI := ⟨_, rfl⟩
  rw [hDI] at hdl ⊢
  simp only [hDI] at hen
  have hol := h.len
  have hDl : (hashW 32 [] (O ++ DI)).length = 32 := hashW_length _ _ _
  have hsm : ∀ (A : Option Addr) (ps2 : List Pt) (v : World), joinP ps2 = O ++ DI → (∀ g', v.heap.size ≤ g' → PsOK v g' A 2 ps2) → Tabs v → Calls Tryz.prog 96 #[.slice A 2 2] v fun e w' => e = .returned (.agg (bvs (hashW 32 [] (O ++ DI)))) ∧ Below v.heap.size v w' := fun A ps2 v hj hps2 ht2 => by
    have := Sum_any A 2 2 ps2 v hps2 (Nat.le_refl _) ht2 (by rw [hj, List.length_append, hol, hdl]; decide)
    rw [hj] at this
    exact this
  obtain ⟨D, hD⟩ : ∃ D, hashW 32 [] (O ++ DI) = D := ⟨_, rfl⟩
  rw [hD] at hDl ⊢
  simp only [hD] at hsm
  have HEN := Lib.hid hen
  have HSM := Lib.hid hsm
  have HDL := Lib.hid (And.intro hdl hol)
  have HD32 := Lib.hid hDl
  have HFS := Lib.hid hf
  have HW := Lib.hid hW1
  have H1 := Lib.hid (And.intro ht1 hps1)
  have HP := Lib.hid hps
  have HG := Lib.hid (And.intro hg hp)
  clear hW1 hb1 ht1 hps1 hps hg hp ht h hcn hf hfp hen hdl hDI hol hDl hsm hD
  go_enter Tryz.func88, Tryz.ntmps88
  go_upto_region 1 with fail
  rw [zu32_eq, HW.out]
  go_wp2_with fail
  go_loopw [9] (fun s9 wr => ∃ k : Nat, k ≤ n ∧ s9 = .int .i64 (k : Int) ∧ Hid (TdAt w wr gm g O (takeS s (joinP (ps.take k))) ∧ PsOK wr g A n ps)) (fun s9 _ => n - (intOf s9).toNat)
  case atStart => exact ⟨0, Nat.zero_le _, rfl, H1⟩
  case round =>
    obtain ⟨wo, rfl⟩ : ∃ wo : World, wo = wr := ⟨_, rfl⟩
    obtain ⟨k, hk, rfl, HQ⟩ := hrel
    clear H1
    by_cases hlt : k < n
    · have hkl : k < ps.length := by rw [HP.out.len]; exact hlt
      obtain ⟨bo, off, rfl, _, _, hcell⟩ := HQ.out.2.rd (by rw [List.length_map]; omega)
      have hc0 := hcell k ps[k].val (by rw [List.getElem?_map, List.getElem?_eq_getElem hkl]; rfl)
      have hpk := HQ.out.2.each ps[k] (List.getElem_mem hkl)
      have hsn := joinP_snoc ps k hkl
      have hpt := HQ.out.1.m0.ptr
      have hcnt := takeS_count s (joinP (ps.take k))
      have hll : (joinP (ps.take (k + 1))).length ≤ (joinP ps).length := by
        have e : joinP ps = joinP (ps.take (k + 1)) ++ joinP (ps.drop (k + 1)) := by
          unfold joinP
          rw [← List.flatMap_append, List.take_append_drop]
        rw [e, List.length_append]; omega
      obtain ⟨p, hpe⟩ : ∃ p, ps[k] = p := ⟨_, rfl⟩
      rw [hpe] at hc0 hpk hsn
      rw [hsn, List.length_append] at hll
      have htk := inTake_any g (takeS s (joinP (ps.take k))) p.A p.n p.c p.l wo HQ.out.1.m0.h HQ.out.1.m0.cur hpk HG.out.1 HQ.out.1.t (by rw [List.length_append]; have := HG.out.2; omega)
      have hc : wo.cell? ⟨bo, off + k, none⟩ = some (.slice p.A p.n p.c) := hc0
      rw [takeS_takeS, ← hsn] at htk
      have HTK := Lib.hid htk
      have HSN := Lib.hid hsn
      clear htk hsn hcell hpk hcnt hll hpe hc0
      go_wp2_with (go_at_call 95; (with_reducible refine HTK.out.mono ?_); rintro e w2 ⟨⟨v2, rfl⟩, hh2, hbt2⟩)
      go_roundw
      case rel =>
        refine ⟨k + 1, by omega, by go_num, Lib.hid ⟨?_, HQ.out.2.but hbt2 (fun _ _ e => e)⟩⟩
        have h3 := HQ.out.1.write (l := p.l) HG.out.1 hbt2 (by rw [takeS_takeS, ← HSN.out]; exact hh2)
        rw [takeS_takeS, ← HSN.out] at h3
        exact h3
      case measure => simp [intOf]; omega
    · obtain rfl : k = n := by omega
      have hall : ps.take k = ps := List.take_of_length_le (by rw [HP.out.len]; exact Nat.le_refl _)
      have hT := HQ.out.1
      rw [hall, HFS.out] at hT
      have HT := Lib.hid hT
      clear hall hT HQ HP HG HW
      go_upto_region 6 with fail
      have hS0 : wo.drew.cell? ⟨gm, 0, none⟩ = some (.pointer (some ⟨g, 0, none⟩)) := HT.out.m0.ptr
      have hsl := slice73_all gm 1
      refine wp_region_held_drew (S := fun wx => wx.cell? ⟨gm, 0, none⟩ = some (.pointer (some ⟨g, 0, none⟩))) rfl hS0 (fun hHeld => ?_)
      simp only [List.size_toArray, List.length_cons, List.length_nil, Nat.reduceAdd]
      have HT7 := Lib.hid (HT.out.drew)
      obtain ⟨W7, hW7⟩ : ∃ W, wo.drew = W := ⟨_, rfl⟩
      rw [hW7] at HT7 hS0 hHeld ⊢
      clear hW7
      refine wpAnyH_take (i := 0) (v := .pointer (some ⟨gm, 0, none⟩)) rfl (by kernel_rfl) (by kernel_rfl) (by kernel_rfl) (fun _ _ _ h => h) (Or.inl ⟨by rfl, ?_⟩) (by assumption) ?_
      · intro wx hs1
        go_simp
      try simp only [Act.put]
      refine wpAnyH_take (i := 1) (v := .pointer (some ⟨gm, 0, none⟩)) rfl (by kernel_rfl) (by kernel_rfl) (by kernel_rfl) (fun _ _ _ h => h) (Or.inl ⟨by rfl, ?_⟩) (by assumption) ?_
      · intro wx hs1
        go_simp
      try simp only [Act.put]
      refine wpAnyH_take (i := 2) (v := .pointer (some ⟨gm, 1, none⟩)) rfl (by kernel_rfl) (by kernel_rfl) (by kernel_rfl) (fun _ _ _ h => h) (Or.inl ⟨by rfl, ?_⟩) (by assumption) ?_
      · intro wx hs1
        go_simp
      try simp only [Act.put]
      refine wpAnyH_take (i := 3) (v := .slice (some ⟨gm, 1, none⟩) 64 64) rfl (by kernel_rfl) (by kernel_rfl) (by kernel_rfl) (fun _ _ _ h => h) (Or.inl ⟨by rfl, ?_⟩) (by assumption) ?_
      · intro wx hs1
        go_simp
      try simp only [Act.put]
      refine wpAnyH_take (i := 4) (v := .pointer (some ⟨gm, 0, none⟩)) rfl (by kernel_rfl) (by kernel_rfl) (by kernel_rfl) (fun _ _ _ h => h) (Or.inl ⟨by rfl, ?_⟩) (by assumption) ?_
      · intro wx hs1
        go_simp
      try simp only [Act.put]
      refine wpAnyH_take (i := 5) (v := .pointer (some ⟨gm, 0, none⟩)) rfl (by kernel_rfl) (by kernel_rfl) (by kernel_rfl) (fun _ _ _ h => h) (Or.inl ⟨by rfl, ?_⟩) (by assumption) ?_
      · intro wx hs1
        go_simp
      try simp only [Act.put]
      refine wpAnyH_take (i := 6) (v := .pointer (some ⟨gm, 0, none⟩)) rfl (by kernel_rfl) (by kernel_rfl) (by kernel_rfl) (fun _ _ _ h => h) (Or.inl ⟨by rfl, ?_⟩) (by assumption) ?_
      · intro wx hs1
        go_simp
      try simp only [Act.put]
      refine wpAnyH_take (i := 7) (v := .agg #[.pointer (some ⟨g, 0, none⟩)]) rfl (by kernel_rfl) (by kernel_rfl) (by kernel_rfl) (fun _ _ _ h => h) (Or.inl ⟨by rfl, ?_⟩) (by assumption) ?_
      · intro wx hs1
        go_simp
      try simp only [Act.put]
      refine wpAnyH_ready (rs := [8]) (by kernel_rfl) (by simp) (AllReadyH.cons rfl (fun K hK => ?_) AllReadyH.nil)
      go_simp
      go_at_call 97
      (with_reducible refine (HEN.out _ HT7.out).mono ?_)
      rintro e w8 ⟨A8, c8, rfl, hc8, hm8, hr8, hb8⟩
      have HT8 := Lib.hid (HT7.out.keep hb8)
      refine hK.out _ _ HT8.out.m0.ptr (fun hHeld => ?_)
      clear hK K
      try simp only [Act.put]
      refine wpAnyH_ready (rs := [9]) (by kernel_rfl) (by simp) (AllReadyH.cons rfl (fun K hK => ?_) AllReadyH.nil)
      go_simp
      have hrow : Blk (w8.alloc (.cells #[.slice (some ⟨gm, 1, none⟩) 64 64, .slice A8 32 c8] 0x38)) w8.heap.size 0x38 ([(⟨some ⟨gm, 1, none⟩, 64, 64, O⟩ : Pt), ⟨A8, 32, c8, DI⟩].map Pt.val).toArray := row_new w8 [⟨some ⟨gm, 1, none⟩, 64, 64, O⟩, ⟨A8, 32, c8, DI⟩]
      have hb9 : Below w8.heap.size w8 (w8.alloc (.cells #[.slice (some ⟨gm, 1, none⟩) 64 64, .slice A8 32 c8] 0x38)) := (Below.refl _ _).alloc (Nat.le_refl _) _
      have HT9 := Lib.hid (HT8.out.keep hb9)
      have hsum := HSM.out (some ⟨w8.heap.size, 0, none⟩) [⟨some ⟨gm, 1, none⟩, 64, 64, O⟩, ⟨A8, 32, c8, DI⟩] _ (by simp [joinP]) (fun g' hg' => parts_ok hrow hb9 rfl (by show 2 ≤ 1000000; decide) g' (by have := hrow.lt; omega) (fun p hp => by
        simp only [List.mem_cons, List.not_mem_nil, or_false] at hp
        rcases hp with rfl | rfl
        · exact pt_of_rd HDL.out.2 (Nat.le_refl _) (by decide) HT8.out.m0.rd g' (Nat.le_trans hb9.size hg')
        · exact pt_of_rd HDL.out.1 hc8 hm8 hr8 g' (Nat.le_trans hb9.size hg'))) HT9.out.t
      obtain ⟨W9, hW9⟩ : ∃ W, w8.alloc (.cells #[.slice (some ⟨gm, 1, none⟩) 64 64, .slice A8 32 c8] 0x38) = W := ⟨_, rfl⟩
      rw [hW9] at hsum HT9 ⊢
      have HSUM := Lib.hid hsum
      clear hW9 hrow hb9 hsum
      refine hK.out _ _ HT9.out.m0.ptr (fun hHeld => ?_)
      clear hK K
      try simp only [Act.put]
      refine wpAnyH_ready (rs := [10]) (by kernel_rfl) (by simp) (AllReadyH.cons rfl (fun K hK => ?_) AllReadyH.nil)
      go_simp
      go_at_call 96
      (with_reducible refine HSUM.out.mono ?_)
      rintro e w10 ⟨rfl, hb10⟩
      have HT10 := Lib.hid (HT9.out.keep hb10)
      refine hK.out _ _ HT10.out.m0.ptr (fun hHeld => ?_)
      clear hK K
      try simp only [Act.put]
      refine wpAnyH_ready (rs := [11]) (by kernel_rfl) (by simp) (AllReadyH.cons rfl (fun K hK => ?_) AllReadyH.nil)
      rw [if_pos (by rfl)]
      refine wp_store_row 0x7e _ _ rfl w.heap.size (bvs D) rfl rfl 0x7e (bvs (List.replicate 32 0#8)) HT10.out.r (i36 D HD32.out) (by rw [bvs_size, bvs_size, HD32.out]; rfl) (bvs_one D) ?_
      have HT11 := Lib.hid (HT10.out.set HD32.out)
      refine hK.out _ _ HT11.out.1.ptr (fun hHeld => ?_)
      clear hK K
      try simp only [Act.put]
      refine wpAnyH_done (by kernel_rfl) ?_ _
      go_wp2_with fail
      refine bodyPost_ret (results_cell_row rfl _ _ w.heap.size 0x7e (bvs D) (0, 0) _ rfl HT11.out.2.1 Tryz.underlying126 rfl (i36 D HD32.out)) rfl ⟨rfl, HT11.out.1, HT11.out.2.2⟩
end Go.Proofs
