/-
  What the walk of the reference's Keyed wants: all the bytes that are pressed; a sum's bytes, word by word; slices of the call's own beside a block. No condition.
  The contract of New where it gives a hash.
  The contracts of a hash's own there and Write, where there is one.
  The contract of a hash's own Sum, where there is one.
  The contract of Keyed where it gives a sum.
-/
import Derived.Test.YtbojnblececnhaaGreatDoorQ08
import Derived.Test.YtbojnblececnhaaGreatDoorQ06
import Derived.Test.YtbojnblececnhaaGreatDoorQ10
import Derived.Test.YtbojnblececnhaaGreatDoorQ07
namespace Go.Proofs
open Go.RowKit Sm
theorem Sm.own_ge {w : World} {base : Nat} {e : TypeId} {size n : Nat} {v : Value} {xs : List Value} (h : w.ownsRow base e size v n xs) (g : Nat) (hg : v.ownBlock = some g) : base ≤ g := by
  rcases h.2 with ⟨rfl, _⟩ | ⟨g', cap, cur, rfl, hb, _⟩
  · cases hg
  · simp [Value.ownBlock] at hg
    omega
theorem Sm.rds_own {w : World} {base n c Hb : Nat} {A : Option Addr} {l : List (BitVec 8)} (h : w.ownsRow base 5 1 (.slice A n c) n (l.map byteCell)) (hH : Hb < base) : Rds w (fun b => b = Hb) A (l.map byteCell) := fun h0 => by
  have hn : 0 < n := by have := h.1; omega
  obtain ⟨g, cap, hv, hb, hlt⟩ := h.form hn
  obtain rfl : A = some ⟨g, 0, none⟩ := by injection hv
  refine ⟨g, 0, rfl, hlt, fun e => by omega, fun j v hj => ?_⟩
  have hjl := (List.getElem?_eq_some_iff.1 hj).1
  rw [Nat.zero_add, h.cellAt j (by have := h.1; omega), hj]
/-- all that is pressed -/
def Sm.allS (key b : List (BitVec 8)) : List (BitVec 8) := (if key.length = 0 then [] else pad key) ++ b
theorem Sm.startS_cur_eq (size : Nat) (key : List (BitVec 8)) : (startS size key).cur = if key.length = 0 then [] else pad key := rfl
/-- the words behind all blocks -/
def Sm.lastS (ws : List (BitVec 32)) (all : List (BitVec 8)) : List (BitVec 32) := endS (pressK ws 0 all (cnt all)) (64 * cnt all) (all.drop (64 * cnt all))
theorem Sm.hashW_all (size : Nat) (key b : List (BitVec 8)) : hashW size key b = digest (lastS (startS size key).ws (allS key b)) := by
  unfold hashW takeS lastS allS
  simp only [startS_cur_eq]
  have : (startS size key).p = 0 := rfl
  rw [this, Nat.zero_add]
theorem Sm.lastS_length (ws : List (BitVec 32)) (all : List (BitVec 8)) : (lastS ws all).length = ws.length := by
  unfold lastS endS
  rw [pressS_length, pressK_length]
theorem Sm.lastS_eq (ws : List (BitVec 32)) (all : List (BitVec 8)) : lastS ws all = pressS (pressK ws 0 all (cnt all)) (pad (chunk all (cnt all))) all.length true := by
  unfold lastS endS
  rw [chunk_last, List.length_drop]
  congr 1
  unfold cnt
  omega
theorem Sm.allS_length (key b : List (BitVec 8)) (hk : key.length ≤ 64) : (allS key b).length = (if key.length = 0 then 0 else 64) + b.length := by
  unfold allS
  rw [List.length_append]
  split
  · simp
  · rw [pad_length key hk]
/-- the first bytes of a sum, as many as k words have -/
def Sm.outB (F : List (BitVec 32)) (k : Nat) : List (BitVec 8) := (List.range (4 * k)).map (byteAt F)
theorem Sm.outB_length (F : List (BitVec 32)) (k : Nat) : (outB F k).length = 4 * k := by simp [outB]
theorem Sm.outB_succ (F : List (BitVec 32)) (k : Nat) : outB F (k + 1) = outB F k ++ [byteAt F (4 * k), byteAt F (4 * k + 1), byteAt F (4 * k + 2), byteAt F (4 * k + 3)] := by
  unfold outB
  rw [show 4 * (k + 1) = 4 * k + 1 + 1 + 1 + 1 by omega, List.range_succ, List.range_succ, List.range_succ, List.range_succ]
  simp
theorem Sm.outK_get (ws : List (BitVec 32)) : ∀ k, k ≤ 32 → ∀ i, i < k → (outK ws k)[i]? = some (byteAt ws i)
  | 0, _, i, h => by omega
  | k + 1, hk, i, h => by
    rw [outK]
    by_cases e : i = k
    · subst e
      rw [List.getElem?_set_self (by rw [outK_length]; omega)]
    · rw [List.getElem?_set_ne (by omega)]
      exact outK_get ws k (by omega) i (by omega)
theorem Sm.digest_eq (F : List (BitVec 32)) : outB F 8 = digest F := by
  apply List.ext_getElem?
  intro i
  by_cases h : i < 32
  · unfold digest
    rw [outK_get F 32 (Nat.le_refl _) i h]
    simp [outB, h]
  · rw [List.getElem?_eq_none (by rw [outB_length]; omega), List.getElem?_eq_none (by unfold digest; rw [outK_length]; omega)]
theorem Sm.byteAt_0 (F : List (BitVec 32)) (k : Nat) : byteAt F (4 * k) = (F.getD k 0).setWidth 8 := by
  unfold byteAt
  rw [show 4 * k / 4 = k by omega, show 4 * k % 4 = 0 by omega]
  simp
theorem Sm.byteAt_j (F : List (BitVec 32)) (k j : Nat) (hj : j < 4) : byteAt F (4 * k + j) = ((F.getD k 0) >>> (8 * j)).setWidth 8 := by
  unfold byteAt
  rw [show (4 * k + j) / 4 = k by omega, show (4 * k + j) % 4 = j by omega]
/-- one more byte of a block -/
theorem Sm.pad_set (c : List (BitVec 8)) (k : Nat) (hk : k < c.length) (hc : c.length ≤ 64) : (pad (c.take k)).set k (c.getD k 0) = pad (c.take (k + 1)) := by
  apply List.ext_getElem?
  intro i
  have l1 : (c.take k).length = k := by rw [List.length_take]; omega
  have l2 : (c.take (k + 1)).length = k + 1 := by rw [List.length_take]; omega
  by_cases e : i = k
  · subst e
    rw [List.getElem?_set_self (by rw [pad_length _ (by omega)]; omega)]
    unfold pad
    rw [List.getElem?_append_left (by omega), List.getElem?_take, if_pos (by omega), List.getElem?_eq_getElem hk]
    simp [List.getD_eq_getElem?_getD, hk]
  · rw [List.getElem?_set_ne (by omega)]
    unfold pad
    by_cases h : i < k
    · rw [List.getElem?_append_left (by omega), List.getElem?_append_left (by omega), List.getElem?_take, List.getElem?_take, if_pos h, if_pos (by omega)]
    · rw [List.getElem?_append_right (by omega), List.getElem?_append_right (by omega), l1, l2]
      by_cases h2 : i < 64
      · rw [List.getElem?_replicate, List.getElem?_replicate, if_pos (by omega), if_pos (by omega)]
      · rw [List.getElem?_replicate, List.getElem?_replicate, if_neg (by omega), if_neg (by omega)]
theorem Sm.chunk_getD (all : List (BitVec 8)) (j k : Nat) (hk : k < (chunk all j).length) : (chunk all j).getD k 0 = all.getD (64 * j + k) 0 := by
  unfold chunk at hk ⊢
  have : k < 64 := by simp at hk; omega
  simp [List.getD_eq_getElem?_getD, this]
theorem Sm.chunk_length (all : List (BitVec 8)) (j : Nat) : (chunk all j).length = min 64 (all.length - 64 * j) := by simp [chunk]
theorem Sm.z24 : (Tryz.prog.info? 0x84).map (fun i => (i.zero, i.size)) = some (some (.agg (bvs z64)), 64) := by kernel_rfl
theorem Sm.i24 (l : List (BitVec 8)) (h : l.length = 64) : (Tryz.prog.info? 0x84).map (·.size) = some (bvs l).size := by rw [bvs_size, h]; kernel_rfl
theorem Sm.i23 (l : List (BitVec 32)) (h : l.length = 8) : (Tryz.prog.info? 0xa4).map (·.size) = some (wvs l).size := by rw [wvs_size, h]; kernel_rfl
/-- what is read ahead of the blocks -/
def Sm.AheadAt (W : World) (p : List (BitVec 8)) (s8 : Value) (wx : World) : Prop := wx.ownsRow W.heap.size 5 1 s8 p.length (p.map byteCell) ∧ Below W.heap.size W wx
theorem Sm.u8_wrap (z : Int) : IntKind.u8.wrap z = z % 256 := by simp [IntKind.wrap, IntKind.signed, IntKind.bits]
theorem Sm.quo_word (x : BitVec 32) (m : Int) (hm : 0 < m) : IntKind.u32.wrap ((iv x).tdiv m) = iv x / m := by
  rw [Int.tdiv_eq_ediv_of_nonneg (iv_lo x)]
  have h1 : 0 ≤ iv x / m := Int.ediv_nonneg (iv_lo x) (by omega)
  have h2 : iv x / m ≤ iv x := Int.ediv_le_self _ (iv_lo x)
  have h3 := iv_hi x
  simp [IntKind.wrap, IntKind.signed, IntKind.bits]
  omega
theorem Sm.byte0 (x : BitVec 32) : IntKind.u8.wrap ((iv x).tmod 256) = ib (x.setWidth 8) := by
  rw [u8_wrap, Int.tmod_eq_emod_of_nonneg (iv_lo x), Int.emod_emod, low_byte]
theorem Sm.byte1 (x : BitVec 32) : IntKind.u8.wrap ((IntKind.u32.wrap ((iv x).tdiv 256)).tmod 256) = ib ((x >>> 8).setWidth 8) := by
  rw [u8_wrap, quo_word x 256 (by decide), Int.tmod_eq_emod_of_nonneg (Int.ediv_nonneg (iv_lo x) (by decide)), Int.emod_emod, byte_num x 8 256 (by decide)]
theorem Sm.byte2 (x : BitVec 32) : IntKind.u8.wrap ((IntKind.u32.wrap ((iv x).tdiv 65536)).tmod 256) = ib ((x >>> 16).setWidth 8) := by
  rw [u8_wrap, quo_word x 65536 (by decide), Int.tmod_eq_emod_of_nonneg (Int.ediv_nonneg (iv_lo x) (by decide)), Int.emod_emod, byte_num x 16 65536 (by decide)]
theorem Sm.byte3 (x : BitVec 32) : IntKind.u8.wrap (IntKind.u32.wrap ((iv x).tdiv 16777216)) = ib ((x >>> 24).setWidth 8) := by
  rw [u8_wrap, quo_word x 16777216 (by decide), byte_num x 24 16777216 (by decide)]
theorem Sm.oper_append_rd {P : Program} {o : Oper} {a : Act} {w : World} {K : Act → World → Prop} {Q : Exit → Act → World → Prop} (s x : Operand) (t : TypeId)
    (ho : o.op = .call { callee := .builtin .append, args := #[s, x], argTypes := #[t, t] })
    (base : Nat) (e : TypeId) (i : TypeInfo) (z : Value) (ht : P.underlying t = some (.slice e)) (hi : P.info? e = some i) (hz : i.zero = some z)
    (hsize : i.size = 1) (hby : i.bytes = 1) (hzs : z.cells.size = 1)
    (v : Value) (n : Nat) (xs : List Value) (hs : a.eval s = v) (hown : w.ownsRow base e 1 v n xs)
    (B : Nat) (A : Option Addr) (m c : Nat) (l : List (BitVec 8)) (hx : a.eval x = .slice A m c) (hl : l.length = m) (hr : Rd w B A l) (hnm : n + m ≤ 1000000000) (hbase : base ≤ w.heap.size)
    (h : ∀ v' w', w'.ownsRow base e 1 v' (n + m) (xs ++ l.map byteCell) → w.grownBy w' v.ownBlock → (v'.ownBlock = v.ownBlock ∨ v'.ownBlock = some w.heap.size) → K (a.put o.dst v') w') : o.wp P a w K Q := by
  obtain ⟨v', w', hr', h2, h3, h4⟩ := run_append_rd (P := P) w base t o.type e i z ht hi hz hsize hby hzs v n xs hown B A m c l hl hr hnm hbase
  unfold Oper.wp execOp
  simp only [ho, resolve, invoke, builtin, Sem.run_bind, Sem.run_pure, Result.andThen_ok, List.map_toArray, List.map_cons, List.map_nil, hs, hx, hr']
  exact h v' w' h2 h3 h4
/-- how all stands ahead of a block -/
structure Sm.KyAt (w wr : World) (lo Hb : Nat) (ws : List (BitVec 32)) (A : Option Addr) (all : List (BitVec 8)) : Prop where
  h : Blk wr Hb 0xa4 (wvs ws)
  rd : Rds wr (fun b => b = Hb ∨ lo ≤ b) A (all.map byteCell)
  below : Below w.heap.size w wr
section
variable {w wr w' : World} {lo Hb : Nat} {ws : List (BitVec 32)} {A : Option Addr} {all : List (BitVec 8)}
theorem Sm.KyAt.keep (h : KyAt w wr lo Hb ws A all) (hb : Below wr.heap.size wr w') : KyAt w w' lo Hb ws A all :=
  ⟨h.h.keep hb, h.rd.below hb, h.below.trans (hb.mono h.below.size)⟩
theorem Sm.KyAt.setH (h : KyAt w wr lo Hb ws A all) (hw : w.heap.size ≤ Hb) (ws' : List (BitVec 32)) : KyAt w (wr.setRow Hb (wvs ws')) lo Hb ws' A all := by
  have hb : But (fun b => b = Hb) wr (wr.setRow Hb (wvs ws')) := ⟨rfl, rfl, rfl, by simp, fun k _ hn => setRow_other wr Hb k _ hn⟩
  exact ⟨setRow_heap _ _ _ _ _ _ h.h, h.rd.but hb (fun _ e => .inl e), below_setRow h.below hw _⟩
theorem Sm.KyAt.setIn (h : KyAt w wr lo Hb ws A all) {Bb k : Nat} (hw : w.heap.size ≤ Bb) (hl : lo ≤ Bb) (hne : Hb ≠ Bb) (v : Value) : KyAt w (wr.setCell ⟨Bb, k, none⟩ v) lo Hb ws A all := by
  have hb : But (fun b => b = Bb) wr (wr.setCell ⟨Bb, k, none⟩ v) := (But.refl _ wr).set ⟨Bb, k, none⟩ v (.inl rfl)
  exact ⟨h.h.other hne v, h.rd.but hb (fun b e => .inr (by omega)), h.below.setCell (p := ⟨Bb, k, none⟩) hw v⟩
theorem Sm.KyAt.start {base n c : Nat} (h : Blk wr Hb 0xa4 (wvs ws)) (ho : wr.ownsRow base 5 1 (.slice A n c) n (all.map byteCell)) (hH : Hb < base) (hb : Below w.heap.size w wr) : KyAt w wr wr.heap.size Hb ws A all := by
  refine ⟨h, fun h0 => ?_, hb⟩
  obtain ⟨b, off, rfl, hlt, hns, hc⟩ := rds_own ho hH h0
  exact ⟨b, off, rfl, hlt, fun e => by rcases e with e | e; exact hns e; omega, hc⟩
/-- one byte of all -/
theorem Sm.KyAt.at_ (h : KyAt w wr lo Hb ws A all) {k : Nat} (hk : k < all.length) : ∃ b off, A = some ⟨b, off, none⟩ ∧ wr.cell? ⟨b, off + k, none⟩ = some (.int .u8 (ib (all.getD k 0))) := by
  obtain ⟨b, off, rfl, _, _, hc⟩ := h.rd (by rw [List.length_map]; omega)
  refine ⟨b, off, rfl, hc k _ ?_⟩
  rw [List.getElem?_map, List.getElem?_eq_getElem hk]
  simp [byteCell, List.getD_eq_getElem?_getD, hk]
end
end Go.Proofs
namespace Go.Proofs
open Go.RowKit Sm
theorem Sm.fill_list (off : Nat) : ∀ (vs : List Value) (k : Nat) (L : List Value), (vs.zipIdx k).foldl (fun cs (x : Value × Nat) => cs.setIfInBounds (off + x.2) x.1) L.toArray = (setAll L (off + k) vs).toArray
  | [], _, _ => rfl
  | v :: r, k, L => by
    rw [List.zipIdx_cons, List.foldl_cons, setAll]
    have := fill_list off r (k + 1) (L.set (off + k) v)
    rw [← Nat.add_assoc] at this
    rw [← this]
    simp
def Sm.zz54 : List Value := stc z8 0 z64 0 ++ [Value.int .i64 0, Value.int .i64 0]
theorem Sm.z54 : (Tryz.prog.info? 0xae).map (fun i => (i.zero, i.size)) = some (some (.agg zz54.toArray), 76) := by kernel_rfl
theorem Sm.start_any (size n c : Nat) (A : Option Addr) (key : List (BitVec 8)) (w : World) (ht : Tabs w) (hs1 : size ≤ 32) (hn : n ≤ 32) (hk : key.length = n) (hrd : Rds w (fun _ => False) A (key.map byteCell)) :
    Calls Tryz.prog 106 #[.int .i64 (size : Int), .slice A n c] w fun e w' => e = .returned (.agg (stc (startS size key).ws 0 (pad (startS size key).cur) (startS size key).cur.length).toArray) ∧ Below w.heap.size w w' := by
  by_cases h0 : 0 < n
  · exact start_key size n c A key w ht hs1 hn hk hrd h0
  · obtain rfl : n = 0 := by omega
    obtain rfl : key = [] := List.eq_nil_of_length_eq_zero hk
    exact start_nil size c A w ht hs1
theorem Sm.fold54 (L : List Value) (hL : L.length = 74) : List.foldl (fun (cs : Array Value) (x : Value × Nat) => cs.setIfInBounds x.snd x.fst) zz54.toArray L.zipIdx = (L ++ [Value.int .i64 0, Value.int .i64 0]).toArray := by
  have e0 : setAll zz54 0 L = L ++ [Value.int .i64 0, Value.int .i64 0] := by
    have := setAll_mid [] L (stc z8 0 z64 0) [Value.int .i64 0, Value.int .i64 0] (by rw [hL]; rfl)
    simpa [zz54] using this
  have := fill_list 0 L 0 zz54
  rw [Nat.add_zero, e0] at this
  rw [← this]
  congr 1
  funext cs x
  rw [Nat.zero_add]
theorem Sm.zz54_length : zz54.length = 76 := rfl
/-- what lies of a hash in block g -/
def Sm.HsAt (w : World) (g : Nat) (s : HS) (size : Int) (ahead : Nat) : Prop := St w g 0xae s.ws s.p (pad s.cur) s.cur.length [.int .i64 size, .int .i64 (ahead : Int)]
set_option maxRecDepth 100000 in
set_option maxHeartbeats 4000000 in
theorem Sm.New_yes (size n c : Nat) (A : Option Addr) (key : List (BitVec 8)) (w : World) (ht : Tabs w) (hs0 : 1 ≤ size) (hs1 : size ≤ 32) (hn : n ≤ 32) (hk : key.length = n) (hrd : Rds w (fun _ => False) A (key.map byteCell)) :
    Calls Tryz.prog 100 #[.int .i64 (size : Int), .slice A n c] w fun e w' => ∃ g, e = .returned (.tuple #[.pointer (some ⟨g, 0, none⟩), .int .i64 0]) ∧ w.heap.size ≤ g ∧ HsAt w' g (startS size key) (size : Int) (startS size key).cur.length ∧ Below w.heap.size w w' := by
  have hst := start_any size n c A key w ht hs1 hn hk hrd
  have hwl := startS_ws size key
  have hcl := startS_cur size key (by omega)
  have hsp : (startS size key).p = 0 := rfl
  obtain ⟨s, hs⟩ : ∃ s, startS size key = s := ⟨_, rfl⟩
  rw [hs] at hst hwl hcl hsp
  have hL : (stc s.ws 0 (pad s.cur) s.cur.length).length = 74 := by rw [stc_length, hwl, pad_length _ hcl]
  have h1 : ¬ ((size : Int) < 1) := by omega
  have h2 : ¬ ((32 : Int) < (size : Int)) := by omega
  have h3 : ¬ ((32 : Int) < (n : Int)) := by omega
  rw [hs]
  obtain ⟨e, he⟩ : ∃ e : Int, (size : Int) = e := ⟨_, rfl⟩
  rw [he] at hst h1 h2 ⊢
  have hbt := fold54 (stc s.ws 0 (pad s.cur) s.cur.length) hL
  have hz54 := (zero_of_info z54).1
  have hzl := zz54_length
  have hz52 := (zero_of_info z52').1
  have HWL := Lib.hid hwl
  have HCL := Lib.hid hcl
  have HSP := Lib.hid hsp
  have HL := Lib.hid hL
  have HST := Lib.hid hst
  clear hs hwl hcl hsp hst he hs0 hs1 hrd ht
  go_enter Tryz.func100, Tryz.ntmps100
  go_upto_region 4 with (first
    | (go_at_call 106; (with_reducible refine HST.out.mono ?_); rintro e w2 ⟨rfl, hb2⟩)
    | (refine wpList_store_row rfl 0xa9 _ _ rfl w2.heap.size (stc s.ws 0 (pad s.cur) s.cur.length).toArray rfl rfl 0xa9 (stc z8 0 z64 0).toArray (World.alloc_heap_new w2 _) (by rw [List.size_toArray]; exact i52 _ _ _ _ HWL.out (pad_length _ HCL.out)) (stc_sz (by rfl) z64_length HWL.out (pad_length _ HCL.out)) (all_oneCell_toArray (stc_one _ _ _ _)) ?_))
  obtain ⟨g, hg⟩ : ∃ g, w2.heap.size = g := ⟨_, rfl⟩
  obtain ⟨W3, hW3⟩ : ∃ W3, (w2.alloc (.cells (stc z8 0 z64 0).toArray 0xa9)).setRow w2.heap.size (stc s.ws 0 (pad s.cur) s.cur.length).toArray = W3 := ⟨_, rfl⟩
  have hb3 : Below w.heap.size w W3 := by
    rw [← hW3]
    exact below_setRow (hb2.alloc hb2.size _) hb2.size _
  have hst3 : St W3 g 0xa9 s.ws 0 (pad s.cur) s.cur.length [] := by
    refine St.of_nil ?_ HWL.out (pad_length _ HCL.out)
    rw [← hW3, ← hg]
    exact setRow_heap _ _ _ _ _ _ (World.alloc_heap_new w2 _)
  rw [hW3, hg]
  have hc73 := hst3.cellS
  have HB3 := Lib.hid hb3
  have HST3 := Lib.hid hst3
  clear hW3 hg hb3 hst3 hb2 HST
  go_wp2_with (refine wpList_load_mid rfl 0xa9 _ rfl g 0 rfl (stc s.ws 0 (pad s.cur) s.cur.length) _ HST3.out.rangeAll Tryz.underlying169 rfl (i52 _ _ _ _ HWL.out (pad_length _ HCL.out)) ?_)
  go_ret2
  refine ⟨_, rfl, HB3.out.size, ⟨?_, HWL.out, pad_length _ HCL.out⟩, HB3.out.alloc HB3.out.size _⟩
  rw [HSP.out]
  exact Blk.new W3 0xae _
end Go.Proofs
namespace Go.Proofs
open Go.RowKit Sm
section
variable {w w' : World} {g : Nat} {s : HS} {size : Int} {ahead : Nat}
theorem Sm.HsAt.tail (h : HsAt w g s size ahead) : w.rangeAt g 74 [.int .i64 size, .int .i64 (ahead : Int)] := by
  have := range_of (A := stc s.ws s.p (pad s.cur) s.cur.length) (B := [Value.int .i64 size, .int .i64 (ahead : Int)]) (C := []) (t := 0xae) (g := g) (w := w) (by simpa using h.blk)
  have e : (stc s.ws s.p (pad s.cur) s.cur.length).length = 74 := by rw [stc_length, h.wlen, h.blen]
  rwa [e] at this
theorem Sm.HsAt.cellSize (h : HsAt w g s size ahead) : w.cell? ⟨g, 74, none⟩ = some (.int .i64 size) := h.tail 0 _ rfl
theorem Sm.HsAt.cellAhead (h : HsAt w g s size ahead) : w.cell? ⟨g, 75, none⟩ = some (.int .i64 (ahead : Int)) := h.tail 1 _ rfl
theorem Sm.HsAt.lt (h : HsAt w g s size ahead) : g < w.heap.size := h.blk.lt
theorem Sm.HsAt.keep (h : HsAt w g s size ahead) (hb : Below w.heap.size w w') : HsAt w' g s size ahead := St.keep h hb
theorem Sm.HsAt.but {S : Nat → Prop} (h : HsAt w g s size ahead) (hb : But S w w') (hn : ¬ S g) : HsAt w' g s size ahead := St.but h hb hn
end
set_option maxHeartbeats 1000000 in
theorem Sm.there_yes (w : World) (g : Nat) (s : HS) (size : Int) (ahead : Nat) (h : HsAt w g s size ahead) (h1 : 0 < size) : Calls Tryz.prog 114 #[.pointer (some ⟨g, 0, none⟩)] w fun e w' => e = .returned (.bool true) ∧ w = w' := by
  have hc := h.cellSize
  clear h
  go_enter Tryz.func114, Tryz.ntmps114
  go_wp2
  go_ret
  exact ⟨rfl, rfl⟩
theorem Sm.one_part {w : World} {g : Nat} {A : Option Addr} {n c : Nat} {l : List (BitVec 8)} (hg : g < w.heap.size) (h : PtOK w g A n c l) : PsOK (w.alloc (.cells #[.slice A n c] 0x38)) g (some ⟨w.heap.size, 0, none⟩) 1 [⟨A, n, c, l⟩] := by
  refine ⟨rfl, by omega, fun _ => ⟨w.heap.size, 0, rfl, by simp, by omega, fun j v hj => ?_⟩, fun p hp => ?_⟩
  · rcases j with _ | j
    · simp [Pt.val] at hj
      subst hj
      rw [World.cell?_alloc_mark]
      rfl
    · simp at hj
  · simp only [List.mem_cons, List.not_mem_nil, or_false] at hp
    subst hp
    exact h.keep ((Below.refl _ w).alloc (Nat.le_refl _) _)
set_option maxRecDepth 100000 in
set_option maxHeartbeats 2000000 in
theorem Sm.Write_any (g : Nat) (s : HS) (size : Int) (ahead : Nat) (A : Option Addr) (n c : Nat) (l : List (BitVec 8)) (w : World) (h : HsAt w g s size ahead) (h1 : 0 < size) (hcur : s.cur.length ≤ 64) (hpt : PtOK w g A n c l) (hg : 4 ≤ g) (ht : Tabs w) (hp : s.p + (s.cur ++ l).length ≤ 1000000000) :
    Calls Tryz.prog 105 #[.pointer (some ⟨g, 0, none⟩), .slice A n c] w fun e w' => e = .returned (.int .i64 0) ∧ HsAt w' g (takeS s l) size ahead ∧ But (fun b => b = g) w w' := by
  have hth := there_yes w g s size ahead h h1
  have hb1 := (Below.refl w.heap.size w).alloc (Nat.le_refl _) (.cells #[.slice A n c] 0x38)
  have hst1 : St (w.alloc (.cells #[.slice A n c] 0x38)) g 0xae s.ws s.p (pad s.cur) s.cur.length [.int .i64 size, .int .i64 (ahead : Int)] := St.keep h hb1
  have htk := take_any g 0xae s.ws s.p s.cur [.int .i64 size, .int .i64 (ahead : Int)] (some ⟨w.heap.size, 0, none⟩) 1 1 [⟨A, n, c, l⟩] _ hst1 hcur (one_part h.lt hpt) (Nat.le_refl _) hg (ht.keep hb1) (by simpa [joinP] using hp)
  have e : joinP [⟨A, n, c, l⟩] = l := by simp [joinP]
  rw [e] at htk
  have HTK := Lib.hid htk
  have HB1 := Lib.hid hb1
  clear htk hb1 hst1 h h1 hcur hpt hp ht e hg
  go_enter Tryz.func105, Tryz.ntmps105
  go_wp2_with (first
    | (go_at_call 114; (with_reducible refine hth.mono ?_); clear hth; rintro e w' ⟨rfl, rfl⟩)
    | (go_at_call 107; (with_reducible refine HTK.out.mono ?_); rintro e w4 ⟨⟨v4, rfl⟩, hst4, hbt4⟩))
  go_ret
  exact ⟨rfl, hst4, (But.of_all HB1.out _).trans hbt4 (fun _ _ e => e)⟩
end Go.Proofs
namespace Go.Proofs
open Go.RowKit Sm
/-- the sum's bytes of a state -/
def Sm.sumS (s : HS) : List (BitVec 8) := digest (endS s.ws s.p s.cur)
theorem Sm.sumS_length (s : HS) : (sumS s).length = 32 := outK32 _
set_option maxRecDepth 100000 in
set_option maxHeartbeats 4000000 in
theorem Sm.HSum_any (g : Nat) (s : HS) (size : Nat) (ahead : Nat) (w : World) (h : HsAt w g s (size : Int) ahead) (h1 : 1 ≤ size) (h2 : size ≤ 32) (hcur : s.cur.length ≤ 64) (ht : Tabs w) (hp : s.p ≤ 1000000000) :
    Calls Tryz.prog 109 #[.pointer (some ⟨g, 0, none⟩)] w fun e w' => ∃ v, e = .returned v ∧ w'.ownsRow w.heap.size 5 1 v size (((sumS s).take size).map byteCell) ∧ Below w.heap.size w w' := by
  obtain ⟨i0, hi, hz0, hz1, hz2⟩ := info_parts info5
  have hth := there_yes w g s (size : Int) ahead h (by omega)
  have hen := end_any s.ws s.p s.cur w h.wlen hcur hp ht
  have hDl := sumS_length s
  rw [show digest (endS s.ws s.p s.cur) = sumS s from rfl] at hen
  obtain ⟨D, hD⟩ : ∃ D, sumS s = D := ⟨_, rfl⟩
  rw [hD] at hen hDl ⊢
  have HDL := Lib.hid hDl
  have h32 : Hid ((bvs (List.replicate 32 0#8)).size = (bvs D).size) := Lib.hid (by rw [bvs_size, bvs_size, hDl]; rfl)
  have HEN := Lib.hid hen
  have HS0 := Lib.hid h
  have HT := Lib.hid (And.intro h1 h2)
  have HC := Lib.hid hcur
  clear hD hDl hen h hcur ht hp h1 h2
  go_enter Tryz.func109, Tryz.ntmps109
  go_upto_region 4 with (first
    | (go_at_call 114; (with_reducible refine hth.mono ?_); clear hth; rintro e w' ⟨rfl, rfl⟩)
    | (refine wpList_load_mid rfl 0xa9 _ rfl g 0 rfl (stc s.ws s.p (pad s.cur) s.cur.length) _ (St.rangeAll HS0.out) Tryz.underlying169 rfl (i52 _ _ _ _ HS0.out.wlen HS0.out.blen) ?_)
    | (go_at_call 108; (with_reducible refine HEN.out.mono ?_); rintro e w5 ⟨rfl, hb5⟩)
    | (refine wpList_store_row rfl 0x7e _ _ rfl w5.heap.size (bvs D) rfl rfl 0x7e (bvs (List.replicate 32 0#8)) (World.alloc_heap_new w5 _) (i36 D HDL.out) h32.out (bvs_one D) ?_))
  rw [zu32_eq]
  obtain ⟨W6, hW6⟩ : ∃ W6, (w5.alloc (.cells (bvs (List.replicate 32 0#8)) 0x7e)).setRow w5.heap.size (bvs D) = W6 := ⟨_, rfl⟩
  obtain ⟨b, hb⟩ : ∃ b, w5.heap.size = b := ⟨_, rfl⟩
  have hB6 : Blk W6 b 0x7e (bvs D) := by rw [← hW6, ← hb]; exact setRow_heap _ _ _ _ _ _ (World.alloc_heap_new w5 _)
  have hb6 : Below w.heap.size w W6 := by rw [← hW6]; exact below_setRow (hb5.alloc hb5.size _) hb5.size _
  have hc74 := (HS0.out.keep hb6).cellSize
  have hrd := (Sm.Blk.rd hB6 hB6.lt).take size
  have hlen : (D.take size).length = size := by rw [List.length_take, HDL.out]; have := HT.out.2; omega
  have hsl := slice32_h b size (size : Int) rfl HT.out.2
  have hs6 := hb6.size
  have HB6 := Lib.hid hb6
  have HRD := Lib.hid hrd
  have HLEN := Lib.hid hlen
  have HS6 := Lib.hid hs6
  rw [hW6, hb]
  clear hW6 hb hB6 hb6 hrd hlen hs6 hb5 HEN
  go_wp2_with (at_builtin; refine wpList_append_rd _ rfl (.const (.slice none 0 0)) (.tmp 16) 0x38 rfl w.heap.size 5 i0 _ Tryz.underlying56 hi hz0 hz1 hz2 rfl (.slice none 0 0) 0 [] rfl (World.ownsRow_nil _ _ _ _) W6.heap.size (some ⟨b, 0, none⟩) size 32 (D.take size) rfl HLEN.out HRD.out (by have := HT.out.2; omega) HS6.out ?_; intro v7 w7 hown7 hg7 _)
  go_ret
  refine ⟨v7, rfl, ?_, HB6.out.grown hg7 HS6.out (fun g e => by cases e)⟩
  simpa only [Nat.zero_add, List.nil_append] using hown7
end Go.Proofs
namespace Go.Proofs
open Go.RowKit Sm
theorem Sm.own_base {w : World} {base base' : Nat} {e : TypeId} {size n : Nat} {v : Value} {xs : List Value} (h : w.ownsRow base e size v n xs) (hb : base' ≤ base) : w.ownsRow base' e size v n xs :=
  ⟨h.1, h.2.imp id fun ⟨g, cap, cur, a, b, r⟩ => ⟨g, cap, cur, a, Nat.le_trans hb b, r⟩⟩
end Go.Proofs
