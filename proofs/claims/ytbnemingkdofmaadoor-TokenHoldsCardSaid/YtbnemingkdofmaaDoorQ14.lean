/-
  What the walk of the reference's Keyed wants: all the bytes that are pressed; a sum's bytes, word by word; slices of the call's own beside a block. No condition.
-/
import Derived.Test.YtbnemingkdofmaaDoorQ11
import Derived.Test.YtbnemingkdofmaaDoorQ10
import Derived.Test.YtbnemingkdofmaaDoorQ13
namespace Go.Proofs
open Go.RowKit Sm
theorem Sm.own_ge {w : World} {base : Nat} {e : TypeId} {size n : Nat} {v : Value} {xs : List Value} (h : w.ownsRow base e size v n xs) (g : Nat) (hg : v.ownBlock = some g) : base ≤ g := by
  rcases h.2 with ⟨rfl, _⟩ | ⟨g', cap, cur, rfl, hb, _⟩
  · cases hg
  · simp [Value.ownBlock] at hg
    omega
theorem Sm.rds_own {w : World} {base n c Hb : Nat} {A : Option Addr} {l : List (BitVec 8)} (h : w.ownsRow base 5 1 (.slice A n c) n (l.map byteCell)) (hH : Hb < base) : Rds w (fun b => b = Hb) A (l.map byteCell) := fun h0 => by
  have hn : 0 < n := by have := h.1; omega
  obtain ⟨g, cap, hv, hb, hlt⟩ := h.form hn
  obtain rfl : A = some ⟨g, 0, none⟩ := by injection hv
  refine ⟨g, 0, rfl, hlt, fun e => by omega, fun j v hj => ?_⟩
  have hjl := (List.getElem?_eq_some_iff.1 hj).1
  rw [Nat.zero_add, h.cellAt j (by have := h.1; omega), hj]
/-- all that is pressed -/
def Sm.allS (key b : List (BitVec 8)) : List (BitVec 8) := (if key.length = 0 then [] else pad key) ++ b
theorem Sm.startS_cur_eq (size : Nat) (key : List (BitVec 8)) : (startS size key).cur = if key.length = 0 then [] else pad key := rfl
/-- the words behind all blocks -/
def Sm.lastS (ws : List (BitVec 32)) (all : List (BitVec 8)) : List (BitVec 32) := endS (pressK ws 0 all (cnt all)) (64 * cnt all) (all.drop (64 * cnt all))
theorem Sm.hashW_all (size : Nat) (key b : List (BitVec 8)) : hashW size key b = digest (lastS (startS size key).ws (allS key b)) := by
  unfold hashW takeS lastS allS
  simp only [startS_cur_eq]
  have : (startS size key).p = 0 := rfl
  rw [this, Nat.zero_add]
theorem Sm.lastS_length (ws : List (BitVec 32)) (all : List (BitVec 8)) : (lastS ws all).length = ws.length := by
  unfold lastS endS
  rw [pressS_length, pressK_length]
theorem Sm.lastS_eq (ws : List (BitVec 32)) (all : List (BitVec 8)) : lastS ws all = pressS (pressK ws 0 all (cnt all)) (pad (chunk all (cnt all))) all.length true := by
  unfold lastS endS
  rw [chunk_last, List.length_drop]
  congr 1
  unfold cnt
  omega
theorem Sm.allS_length (key b : List (BitVec 8)) (hk : key.length ≤ 64) : (allS key b).length = (if key.length = 0 then 0 else 64) + b.length := by
  unfold allS
  rw [List.length_append]
  split
  · simp
  · rw [pad_length key hk]
/-- the first bytes of a sum, as many as k words have -/
def Sm.outB (F : List (BitVec 32)) (k : Nat) : List (BitVec 8) := (List.range (4 * k)).map (byteAt F)
theorem Sm.outB_length (F : List (BitVec 32)) (k : Nat) : (outB F k).length = 4 * k := by simp [outB]
theorem Sm.outB_succ (F : List (BitVec 32)) (k : Nat) : outB F (k + 1) = outB F k ++ [byteAt F (4 * k), byteAt F (4 * k + 1), byteAt F (4 * k + 2), byteAt F (4 * k + 3)] := by
  unfold outB
  rw [show 4 * (k + 1) = 4 * k + 1 + 1 + 1 + 1 by omega, List.range_succ, List.range_succ, List.range_succ, List.range_succ]
  simp
theorem Sm.outK_get (ws : List (BitVec 32)) : ∀ k, k ≤ 32 → ∀ i, i < k → (outK ws k)[i]? = some (byteAt ws i)
  | 0, _, i, h => by omega
  | k + 1, hk, i, h => by
    rw [outK]
    by_cases e : i = k
    · subst e
      rw [List.getElem?_set_self (by rw [outK_length]; omega)]
    · rw [List.getElem?_set_ne (by omega)]
      exact outK_get ws k (by omega) i (by omega)
theorem Sm.digest_eq (F : List (BitVec 32)) : outB F 8 = digest F := by
  apply List.ext_getElem?
  intro i
  by_cases h : i < 32
  · unfold digest
    rw [outK_get F 32 (Nat.le_refl _) i h]
    simp [outB, h]
  · rw [List.getElem?_eq_none (by rw [outB_length]; omega), List.getElem?_eq_none (by unfold digest; rw [outK_length]; omega)]
theorem Sm.byteAt_0 (F : List (BitVec 32)) (k : Nat) : byteAt F (4 * k) = (F.getD k 0).setWidth 8 := by
  unfold byteAt
  rw [show 4 * k / 4 = k by omega, show 4 * k % 4 = 0 by omega]
  simp
theorem Sm.byteAt_j (F : List (BitVec 32)) (k j : Nat) (hj : j < 4) : byteAt F (4 * k + j) = ((F.getD k 0) >>> (8 * j)).setWidth 8 := by
  unfold byteAt
  rw [show (4 * k + j) / 4 = k by omega, show (4 * k + j) % 4 = j by omega]
/-- one more byte of a block -/
theorem Sm.pad_set (c : List (BitVec 8)) (k : Nat) (hk : k < c.length) (hc : c.length ≤ 64) : (pad (c.take k)).set k (c.getD k 0) = pad (c.take (k + 1)) := by
  apply List.ext_getElem?
  intro i
  have l1 : (c.take k).length = k := by rw [List.length_take]; omega
  have l2 : (c.take (k + 1)).length = k + 1 := by rw [List.length_take]; omega
  by_cases e : i = k
  · subst e
    rw [List.getElem?_set_self (by rw [pad_length _ (by omega)]; omega)]
    unfold pad
    rw [List.getElem?_append_left (by omega), List.getElem?_take, if_pos (by omega), List.getElem?_eq_getElem hk]
    simp [List.getD_eq_getElem?_getD, hk]
  · rw [List.getElem?_set_ne (by omega)]
    unfold pad
    by_cases h : i < k
    · rw [List.getElem?_append_left (by omega), List.getElem?_append_left (by omega), List.getElem?_take, List.getElem?_take, if_pos h, if_pos (by omega)]
    · rw [List.getElem?_append_right (by omega), List.getElem?_append_right (by omega), l1, l2]
      by_cases h2 : i < 64
      · rw [List.getElem?_replicate, List.getElem?_replicate, if_pos (by omega), if_pos (by omega)]
      · rw [List.getElem?_replicate, List.getElem?_replicate, if_neg (by omega), if_neg (by omega)]
theorem Sm.chunk_getD (all : List (BitVec 8)) (j k : Nat) (hk : k < (chunk all j).length) : (chunk all j).getD k 0 = all.getD (64 * j + k) 0 := by
  unfold chunk at hk ⊢
  have : k < 64 := by simp at hk; omega
  simp [List.getD_eq_getElem?_getD, this]
theorem Sm.chunk_length (all : List (BitVec 8)) (j : Nat) : (chunk all j).length = min 64 (all.length - 64 * j) := by simp [chunk]
theorem Sm.z24 : (Tryd.prog.info? 0x68).map (fun i => (i.zero, i.size)) = some (some (.agg (bvs z64)), 64) := by kernel_rfl
theorem Sm.i24 (l : List (BitVec 8)) (h : l.length = 64) : (Tryd.prog.info? 0x68).map (·.size) = some (bvs l).size := by rw [bvs_size, h]; kernel_rfl
theorem Sm.i23 (l : List (BitVec 32)) (h : l.length = 8) : (Tryd.prog.info? 0x86).map (·.size) = some (wvs l).size := by rw [wvs_size, h]; kernel_rfl
/-- what is read ahead of the blocks -/
def Sm.AheadAt (W : World) (p : List (BitVec 8)) (s8 : Value) (wx : World) : Prop := wx.ownsRow W.heap.size 5 1 s8 p.length (p.map byteCell) ∧ Below W.heap.size W wx
theorem Sm.u8_wrap (z : Int) : IntKind.u8.wrap z = z % 256 := by simp [IntKind.wrap, IntKind.signed, IntKind.bits]
theorem Sm.quo_word (x : BitVec 32) (m : Int) (hm : 0 < m) : IntKind.u32.wrap ((iv x).tdiv m) = iv x / m := by
  rw [Int.tdiv_eq_ediv_of_nonneg (iv_lo x)]
  have h1 : 0 ≤ iv x / m := Int.ediv_nonneg (iv_lo x) (by omega)
  have h2 : iv x / m ≤ iv x := Int.ediv_le_self _ (iv_lo x)
  have h3 := iv_hi x
  simp [IntKind.wrap, IntKind.signed, IntKind.bits]
  omega
theorem Sm.byte0 (x : BitVec 32) : IntKind.u8.wrap ((iv x).tmod 256) = ib (x.setWidth 8) := by
  rw [u8_wrap, Int.tmod_eq_emod_of_nonneg (iv_lo x), Int.emod_emod, low_byte]
theorem Sm.byte1 (x : BitVec 32) : IntKind.u8.wrap ((IntKind.u32.wrap ((iv x).tdiv 256)).tmod 256) = ib ((x >>> 8).setWidth 8) := by
  rw [u8_wrap, quo_word x 256 (by decide), Int.tmod_eq_emod_of_nonneg (Int.ediv_nonneg (iv_lo x) (by decide)), Int.emod_emod, byte_num x 8 256 (by decide)]
theorem Sm.byte2 (x : BitVec 32) : IntKind.u8.wrap ((IntKind.u32.wrap ((iv x).tdiv 65536)).tmod 256) = ib ((x >>> 16).setWidth 8) := by
  rw [u8_wrap, quo_word x 65536 (by decide), Int.tmod_eq_emod_of_nonneg (Int.ediv_nonneg (iv_lo x) (by decide)), Int.emod_emod, byte_num x 16 65536 (by decide)]
theorem Sm.byte3 (x : BitVec 32) : IntKind.u8.wrap (IntKind.u32.wrap ((iv x).tdiv 16777216)) = ib ((x >>> 24).setWidth 8) := by
  rw [u8_wrap, quo_word x 16777216 (by decide), byte_num x 24 16777216 (by decide)]
theorem Sm.oper_append_rd {P : Program} {o : Oper} {a : Act} {w : World} {K : Act → World → Prop} {Q : Exit → Act → World → Prop} (s x : Operand) (t : TypeId)
    (ho : o.op = .call { callee := .builtin .append, args := #[s, x], argTypes := #[t, t] })
    (base : Nat) (e : TypeId) (i : TypeInfo) (z : Value) (ht : P.underlying t = some (.slice e)) (hi : P.info? e = some i) (hz : i.zero = some z)
    (hsize : i.size = 1) (hby : i.bytes = 1) (hzs : z.cells.size = 1)
    (v : Value) (n : Nat) (xs : List Value) (hs : a.eval s = v) (hown : w.ownsRow base e 1 v n xs)
    (B : Nat) (A : Option Addr) (m c : Nat) (l : List (BitVec 8)) (hx : a.eval x = .slice A m c) (hl : l.length = m) (hr : Rd w B A l) (hnm : n + m ≤ 1000000000) (hbase : base ≤ w.heap.size)
    (h : ∀ v' w', w'.ownsRow base e 1 v' (n + m) (xs ++ l.map byteCell) → w.grownBy w' v.ownBlock → (v'.ownBlock = v.ownBlock ∨ v'.ownBlock = some w.heap.size) → K (a.put o.dst v') w') : o.wp P a w K Q := by
  obtain ⟨v', w', hr', h2, h3, h4⟩ := run_append_rd (P := P) w base t o.type e i z ht hi hz hsize hby hzs v n xs hown B A m c l hl hr hnm hbase
  unfold Oper.wp execOp
  simp only [ho, resolve, invoke, builtin, Sem.run_bind, Sem.run_pure, Result.andThen_ok, List.map_toArray, List.map_cons, List.map_nil, hs, hx, hr']
  exact h v' w' h2 h3 h4
/-- how all stands ahead of a block -/
structure Sm.KyAt (w wr : World) (lo Hb : Nat) (ws : List (BitVec 32)) (A : Option Addr) (all : List (BitVec 8)) : Prop where
  h : Blk wr Hb 0x86 (wvs ws)
  rd : Rds wr (fun b => b = Hb ∨ lo ≤ b) A (all.map byteCell)
  below : Below w.heap.size w wr
section
variable {w wr w' : World} {lo Hb : Nat} {ws : List (BitVec 32)} {A : Option Addr} {all : List (BitVec 8)}
theorem Sm.KyAt.keep (h : KyAt w wr lo Hb ws A all) (hb : Below wr.heap.size wr w') : KyAt w w' lo Hb ws A all :=
  ⟨h.h.keep hb, h.rd.below hb, h.below.trans (hb.mono h.below.size)⟩
theorem Sm.KyAt.setH (h : KyAt w wr lo Hb ws A all) (hw : w.heap.size ≤ Hb) (ws' : List (BitVec 32)) : KyAt w (wr.setRow Hb (wvs ws')) lo Hb ws' A all := by
  have hb : But (fun b => b = Hb) wr (wr.setRow Hb (wvs ws')) := ⟨rfl, rfl, rfl, by simp, fun k _ hn => setRow_other wr Hb k _ hn⟩
  exact ⟨setRow_heap _ _ _ _ _ _ h.h, h.rd.but hb (fun _ e => .inl e), below_setRow h.below hw _⟩
theorem Sm.KyAt.setIn (h : KyAt w wr lo Hb ws A all) {Bb k : Nat} (hw : w.heap.size ≤ Bb) (hl : lo ≤ Bb) (hne : Hb ≠ Bb) (v : Value) : KyAt w (wr.setCell ⟨Bb, k, none⟩ v) lo Hb ws A all := by
  have hb : But (fun b => b = Bb) wr (wr.setCell ⟨Bb, k, none⟩ v) := (But.refl _ wr).set ⟨Bb, k, none⟩ v (.inl rfl)
  exact ⟨h.h.other hne v, h.rd.but hb (fun b e => .inr (by omega)), h.below.setCell (p := ⟨Bb, k, none⟩) hw v⟩
theorem Sm.KyAt.start {base n c : Nat} (h : Blk wr Hb 0x86 (wvs ws)) (ho : wr.ownsRow base 5 1 (.slice A n c) n (all.map byteCell)) (hH : Hb < base) (hb : Below w.heap.size w wr) : KyAt w wr wr.heap.size Hb ws A all := by
  refine ⟨h, fun h0 => ?_, hb⟩
  obtain ⟨b, off, rfl, hlt, hns, hc⟩ := rds_own ho hH h0
  exact ⟨b, off, rfl, hlt, fun e => by rcases e with e | e; exact hns e; omega, hc⟩
/-- one byte of all -/
theorem Sm.KyAt.at_ (h : KyAt w wr lo Hb ws A all) {k : Nat} (hk : k < all.length) : ∃ b off, A = some ⟨b, off, none⟩ ∧ wr.cell? ⟨b, off + k, none⟩ = some (.int .u8 (ib (all.getD k 0))) := by
  obtain ⟨b, off, rfl, _, _, hc⟩ := h.rd (by rw [List.length_map]; omega)
  refine ⟨b, off, rfl, hc k _ ?_⟩
  rw [List.getElem?_map, List.getElem?_eq_getElem hk]
  simp [byteCell, List.getD_eq_getElem?_getD, hk]
end
end Go.Proofs
