/-
  What the walk of the reference's Keyed wants: all the bytes that are pressed; a sum's bytes, word by word; slices of the call's own beside a block. No condition.
  The contract of the reference's Keyed: at every size, key and bytes that may be.
-/
import Derived.Test.YtmhmnmdobnkbgaaDoorM1
import Derived.Test.YtmhmnmdobnkbgaaDoorM9
import Derived.Test.YtmhmnmdobnkbgaaDoorM7
import Derived.Deep.QuietTactic
import Derived.BigQuiet
import Derived.IntWalk
import Derived.Deep.CutRange
import Derived.StillTailTactics
namespace Go.Proofs
open Go.RowKit Sm
theorem Sm.own_ge {w : World} {base : Nat} {e : TypeId} {size n : Nat} {v : Value} {xs : List Value} (h : w.ownsRow base e size v n xs) (g : Nat) (hg : v.ownBlock = some g) : base ≤ g := by
  rcases h.2 with ⟨rfl, _⟩ | ⟨g', cap, cur, rfl, hb, _⟩
  · cases hg
  · simp [Value.ownBlock] at hg
    omega
theorem Sm.rds_own {w : World} {base n c Hb : Nat} {A : Option Addr} {l : List (BitVec 8)} (h : w.ownsRow base 5 1 (.slice A n c) n (l.map byteCell)) (hH : Hb < base) : Rds w (fun b => b = Hb) A (l.map byteCell) := fun h0 => by
  have hn : 0 < n := by have := h.1; omega
  obtain ⟨g, cap, hv, hb, hlt⟩ := h.form hn
  obtain rfl : A = some ⟨g, 0, none⟩ := by injection hv
  refine ⟨g, 0, rfl, hlt, fun e => by omega, fun j v hj => ?_⟩
  have hjl := (List.getElem?_eq_some_iff.1 hj).1
  rw [Nat.zero_add, h.cellAt j (by have := h.1; omega), hj]
/-- all that is pressed -/
def Sm.allS (key b : List (BitVec 8)) : List (BitVec 8) := (if key.length = 0 then [] else pad key) ++ b
theorem Sm.startS_cur_eq (size : Nat) (key : List (BitVec 8)) : (startS size key).cur = if key.length = 0 then [] else pad key := rfl
/-- the words behind all blocks -/
def Sm.lastS (ws : List (BitVec 32)) (all : List (BitVec 8)) : List (BitVec 32) := endS (pressK ws 0 all (cnt all)) (64 * cnt all) (all.drop (64 * cnt all))
theorem Sm.hashW_all (size : Nat) (key b : List (BitVec 8)) : hashW size key b = digest (lastS (startS size key).ws (allS key b)) := by
  unfold hashW takeS lastS allS
  simp only [startS_cur_eq]
  have : (startS size key).p = 0 := rfl
  rw [this, Nat.zero_add]
theorem Sm.lastS_length (ws : List (BitVec 32)) (all : List (BitVec 8)) : (lastS ws all).length = ws.length := by
  unfold lastS endS
  rw [pressS_length, pressK_length]
theorem Sm.lastS_eq (ws : List (BitVec 32)) (all : List (BitVec 8)) : lastS ws all = pressS (pressK ws 0 all (cnt all)) (pad (chunk all (cnt all))) all.length true := by
  unfold lastS endS
  rw [chunk_last, List.length_drop]
  congr 1
  unfold cnt
  omega
theorem Sm.allS_length (key b : List (BitVec 8)) (hk : key.length ≤ 64) : (allS key b).length = (if key.length = 0 then 0 else 64) + b.length := by
  unfold allS
  rw [List.length_append]
  split
  · simp
  · rw [pad_length key hk]
/-- the first bytes of a sum, as many as k words have -/
def Sm.outB (F : List (BitVec 32)) (k : Nat) : List (BitVec 8) := (List.range (4 * k)).map (byteAt F)
theorem Sm.outB_length (F : List (BitVec 32)) (k : Nat) : (outB F k).length = 4 * k := by simp [outB]
theorem Sm.outB_succ (F : List (BitVec 32)) (k : Nat) : outB F (k + 1) = outB F k ++ [byteAt F (4 * k), byteAt F (4 * k + 1), byteAt F (4 * k + 2), byteAt F (4 * k + 3)] := by
  unfold outB
  rw [show 4 * (k + 1) = 4 * k + 1 + 1 + 1 + 1 by omega, List.range_succ, List.range_succ, List.range_succ, List.range_succ]
  simp
theorem Sm.outK_get (ws : List (BitVec 32)) : ∀ k, k ≤ 32 → ∀ i, i < k → (outK ws k)[i]? = some (byteAt ws i)
  | 0, _, i, h => by omega
  | k + 1, hk, i, h => by
    rw [outK]
    by_cases e : i = k
    · subst e
      rw [List.getElem?_set_self (by rw [outK_length]; omega)]
    · rw [List.getElem?_set_ne (by omega)]
      exact outK_get ws k (by omega) i (by omega)
theorem Sm.digest_eq (F : List (BitVec 32)) : outB F 8 = digest F := by
  apply List.ext_getElem?
  intro i
  by_cases h : i < 32
  · unfold digest
    rw [outK_get F 32 (Nat.le_refl _) i h]
    simp [outB, h]
  · rw [List.getElem?_eq_none (by rw [outB_length]; omega), List.getElem?_eq_none (by unfold digest; rw [outK_length]; omega)]
theorem Sm.byteAt_0 (F : List (BitVec 32)) (k : Nat) : byteAt F (4 * k) = (F.getD k 0).setWidth 8 := by
  unfold byteAt
  rw [show 4 * k / 4 = k by omega, show 4 * k % 4 = 0 by omega]
  simp
theorem Sm.byteAt_j (F : List (BitVec 32)) (k j : Nat) (hj : j < 4) : byteAt F (4 * k + j) = ((F.getD k 0) >>> (8 * j)).setWidth 8 := by
  unfold byteAt
  rw [show (4 * k + j) / 4 = k by omega, show (4 * k + j) % 4 = j by omega]
/-- one more byte of a block -/
theorem Sm.pad_set (c : List (BitVec 8)) (k : Nat) (hk : k < c.length) (hc : c.length ≤ 64) : (pad (c.take k)).set k (c.getD k 0) = pad (c.take (k + 1)) := by
  apply List.ext_getElem?
  intro i
  have l1 : (c.take k).length = k := by rw [List.length_take]; omega
  have l2 : (c.take (k + 1)).length = k + 1 := by rw [List.length_take]; omega
  by_cases e : i = k
  · subst e
    rw [List.getElem?_set_self (by rw [pad_length _ (by omega)]; omega)]
    unfold pad
    rw [List.getElem?_append_left (by omega), List.getElem?_take, if_pos (by omega), List.getElem?_eq_getElem hk]
    simp [List.getD_eq_getElem?_getD, hk]
  · rw [List.getElem?_set_ne (by omega)]
    unfold pad
    by_cases h : i < k
    · rw [List.getElem?_append_left (by omega), List.getElem?_append_left (by omega), List.getElem?_take, List.getElem?_take, if_pos h, if_pos (by omega)]
    · rw [List.getElem?_append_right (by omega), List.getElem?_append_right (by omega), l1, l2]
      by_cases h2 : i < 64
      · rw [List.getElem?_replicate, List.getElem?_replicate, if_pos (by omega), if_pos (by omega)]
      · rw [List.getElem?_replicate, List.getElem?_replicate, if_neg (by omega), if_neg (by omega)]
theorem Sm.chunk_getD (all : List (BitVec 8)) (j k : Nat) (hk : k < (chunk all j).length) : (chunk all j).getD k 0 = all.getD (64 * j + k) 0 := by
  unfold chunk at hk ⊢
  have : k < 64 := by simp at hk; omega
  simp [List.getD_eq_getElem?_getD, this]
theorem Sm.chunk_length (all : List (BitVec 8)) (j : Nat) : (chunk all j).length = min 64 (all.length - 64 * j) := by simp [chunk]
theorem Sm.z24 : (Tryd.prog.info? 0x31).map (fun i => (i.zero, i.size)) = some (some (.agg (bvs z64)), 64) := by kernel_rfl
theorem Sm.i24 (l : List (BitVec 8)) (h : l.length = 64) : (Tryd.prog.info? 0x31).map (·.size) = some (bvs l).size := by rw [bvs_size, h]; kernel_rfl
theorem Sm.i23 (l : List (BitVec 32)) (h : l.length = 8) : (Tryd.prog.info? 0x6f).map (·.size) = some (wvs l).size := by rw [wvs_size, h]; kernel_rfl
/-- what is read ahead of the blocks -/
def Sm.AheadAt (W : World) (p : List (BitVec 8)) (s8 : Value) (wx : World) : Prop := wx.ownsRow W.heap.size 5 1 s8 p.length (p.map byteCell) ∧ Below W.heap.size W wx
theorem Sm.u8_wrap (z : Int) : IntKind.u8.wrap z = z % 256 := by simp [IntKind.wrap, IntKind.signed, IntKind.bits]
theorem Sm.quo_word (x : BitVec 32) (m : Int) (hm : 0 < m) : IntKind.u32.wrap ((iv x).tdiv m) = iv x / m := by
  rw [Int.tdiv_eq_ediv_of_nonneg (iv_lo x)]
  have h1 : 0 ≤ iv x / m := Int.ediv_nonneg (iv_lo x) (by omega)
  have h2 : iv x / m ≤ iv x := Int.ediv_le_self _ (iv_lo x)
  have h3 := iv_hi x
  simp [IntKind.wrap, IntKind.signed, IntKind.bits]
  omega
theorem Sm.byte0 (x : BitVec 32) : IntKind.u8.wrap ((iv x).tmod 256) = ib (x.setWidth 8) := by
  rw [u8_wrap, Int.tmod_eq_emod_of_nonneg (iv_lo x), Int.emod_emod, low_byte]
theorem Sm.byte1 (x : BitVec 32) : IntKind.u8.wrap ((IntKind.u32.wrap ((iv x).tdiv 256)).tmod 256) = ib ((x >>> 8).setWidth 8) := by
  rw [u8_wrap, quo_word x 256 (by decide), Int.tmod_eq_emod_of_nonneg (Int.ediv_nonneg (iv_lo x) (by decide)), Int.emod_emod, byte_num x 8 256 (by decide)]
theorem Sm.byte2 (x : BitVec 32) : IntKind.u8.wrap ((IntKind.u32.wrap ((iv x).tdiv 65536)).tmod 256) = ib ((x >>> 16).setWidth 8) := by
  rw [u8_wrap, quo_word x 65536 (by decide), Int.tmod_eq_emod_of_nonneg (Int.ediv_nonneg (iv_lo x) (by decide)), Int.emod_emod, byte_num x 16 65536 (by decide)]
theorem Sm.byte3 (x : BitVec 32) : IntKind.u8.wrap (IntKind.u32.wrap ((iv x).tdiv 16777216)) = ib ((x >>> 24).setWidth 8) := by
  rw [u8_wrap, quo_word x 16777216 (by decide), byte_num x 24 16777216 (by decide)]
theorem Sm.oper_append_rd {P : Program} {o : Oper} {a : Act} {w : World} {K : Act → World → Prop} {Q : Exit → Act → World → Prop} (s x : Operand) (t : TypeId)
    (ho : o.op = .call { callee := .builtin .append, args := #[s, x], argTypes := #[t, t] })
    (base : Nat) (e : TypeId) (i : TypeInfo) (z : Value) (ht : P.underlying t = some (.slice e)) (hi : P.info? e = some i) (hz : i.zero = some z)
    (hsize : i.size = 1) (hby : i.bytes = 1) (hzs : z.cells.size = 1)
    (v : Value) (n : Nat) (xs : List Value) (hs : a.eval s = v) (hown : w.ownsRow base e 1 v n xs)
    (B : Nat) (A : Option Addr) (m c : Nat) (l : List (BitVec 8)) (hx : a.eval x = .slice A m c) (hl : l.length = m) (hr : Rd w B A l) (hnm : n + m ≤ 1000000000) (hbase : base ≤ w.heap.size)
    (h : ∀ v' w', w'.ownsRow base e 1 v' (n + m) (xs ++ l.map byteCell) → w.grownBy w' v.ownBlock → (v'.ownBlock = v.ownBlock ∨ v'.ownBlock = some w.heap.size) → K (a.put o.dst v') w') : o.wp P a w K Q := by
  obtain ⟨v', w', hr', h2, h3, h4⟩ := run_append_rd (P := P) w base t o.type e i z ht hi hz hsize hby hzs v n xs hown B A m c l hl hr hnm hbase
  unfold Oper.wp execOp
  simp only [ho, resolve, invoke, builtin, Sem.run_bind, Sem.run_pure, Result.andThen_ok, List.map_toArray, List.map_cons, List.map_nil, hs, hx, hr']
  exact h v' w' h2 h3 h4
/-- how all stands ahead of a block -/
structure Sm.KyAt (w wr : World) (lo Hb : Nat) (ws : List (BitVec 32)) (A : Option Addr) (all : List (BitVec 8)) : Prop where
  h : Blk wr Hb 0x6f (wvs ws)
  rd : Rds wr (fun b => b = Hb ∨ lo ≤ b) A (all.map byteCell)
  below : Below w.heap.size w wr
section
variable {w wr w' : World} {lo Hb : Nat} {ws : List (BitVec 32)} {A : Option Addr} {all : List (BitVec 8)}
theorem Sm.KyAt.keep (h : KyAt w wr lo Hb ws A all) (hb : Below wr.heap.size wr w') : KyAt w w' lo Hb ws A all :=
  ⟨h.h.keep hb, h.rd.below hb, h.below.trans (hb.mono h.below.size)⟩
theorem Sm.KyAt.setH (h : KyAt w wr lo Hb ws A all) (hw : w.heap.size ≤ Hb) (ws' : List (BitVec 32)) : KyAt w (wr.setRow Hb (wvs ws')) lo Hb ws' A all := by
  have hb : But (fun b => b = Hb) wr (wr.setRow Hb (wvs ws')) := ⟨rfl, rfl, rfl, by simp, fun k _ hn => setRow_other wr Hb k _ hn⟩
  exact ⟨setRow_heap _ _ _ _ _ _ h.h, h.rd.but hb (fun _ e => .inl e), below_setRow h.below hw _⟩
theorem Sm.KyAt.setIn (h : KyAt w wr lo Hb ws A all) {Bb k : Nat} (hw : w.heap.size ≤ Bb) (hl : lo ≤ Bb) (hne : Hb ≠ Bb) (v : Value) : KyAt w (wr.setCell ⟨Bb, k, none⟩ v) lo Hb ws A all := by
  have hb : But (fun b => b = Bb) wr (wr.setCell ⟨Bb, k, none⟩ v) := (But.refl _ wr).set ⟨Bb, k, none⟩ v (.inl rfl)
  exact ⟨h.h.other hne v, h.rd.but hb (fun b e => .inr (by omega)), h.below.setCell (p := ⟨Bb, k, none⟩) hw v⟩
theorem Sm.KyAt.start {base n c : Nat} (h : Blk wr Hb 0x6f (wvs ws)) (ho : wr.ownsRow base 5 1 (.slice A n c) n (all.map byteCell)) (hH : Hb < base) (hb : Below w.heap.size w wr) : KyAt w wr wr.heap.size Hb ws A all := by
  refine ⟨h, fun h0 => ?_, hb⟩
  obtain ⟨b, off, rfl, hlt, hns, hc⟩ := rds_own ho hH h0
  exact ⟨b, off, rfl, hlt, fun e => by rcases e with e | e; exact hns e; omega, hc⟩
/-- one byte of all -/
theorem Sm.KyAt.at_ (h : KyAt w wr lo Hb ws A all) {k : Nat} (hk : k < all.length) : ∃ b off, A = some ⟨b, off, none⟩ ∧ wr.cell? ⟨b, off + k, none⟩ = some (.int .u8 (ib (all.getD k 0))) := by
  obtain ⟨b, off, rfl, _, _, hc⟩ := h.rd (by rw [List.length_map]; omega)
  refine ⟨b, off, rfl, hc k _ ?_⟩
  rw [List.getElem?_map, List.getElem?_eq_getElem hk]
  simp [byteCell, List.getD_eq_getElem?_getD, hk]
end
end Go.Proofs
namespace Go.Proofs
open Go.RowKit Sm
set_option maxRecDepth 100000 in
set_option maxHeartbeats 4000000 in
theorem Sm.refKeyed_new (size n c n2 c2 : Nat) (A A2 : Option Addr) (key b : List (BitVec 8)) (w : World) (hs0 : 1 ≤ size) (hs1 : size ≤ 32) (hn : n ≤ 32) (hk : key.length = n) (hb : b.length = n2) (hn2 : n2 ≤ 100000) (hr : Rd w w.heap.size A key) (hr2 : Rd w w.heap.size A2 b) :
    Calls Tryd.prog 92 #[.int .i64 (size : Int), .slice A n c, .slice A2 n2 c2] w fun e w' => ∃ A' c', e = .returned (.slice A' size c') ∧ Rd w' w'.heap.size A' ((hashW size key b).take size) ∧ Below w.heap.size w w' ∧ (∀ a : Addr, A' = some a → w.heap.size ≤ a.block) ∧ size ≤ c' := by
  obtain ⟨i0, hi, hz0, hz1, hz2⟩ := info_parts info5
  have hws0 : (startS size key).ws = beginL.set 0 (beginL.getD 0 0 ^^^ BitVec.ofNat 32 (16842752 + 256 * n + size)) := by unfold startS; rw [hk]
  have e1 := (first_num n size (beginL.getD 0 0)).resolve_right (by omega)
  obtain ⟨b0, hb0⟩ : ∃ b0, beginL.getD 0 0 = b0 := ⟨_, rfl⟩
  rw [hb0] at e1 hws0
  obtain ⟨x0, hx0⟩ : ∃ x0, b0 ^^^ BitVec.ofNat 32 (16842752 + 256 * n + size) = x0 := ⟨_, rfl⟩
  rw [hx0] at e1 hws0
  have hbl : beginL.length = 8 := rfl
  have hnb : (n : Int) ≤ 32 := by omega
  have hsb : (size : Int) ≤ 32 := by omega
  have HWS := Lib.hid hws0
  have HB0 := Lib.hid hb0
  have HBL := Lib.hid hbl
  have HK := Lib.hid hk
  have HB := Lib.hid hb
  have HR := Lib.hid (And.intro hr hr2)
  have HN := Lib.hid (And.intro hs0 (And.intro hs1 (And.intro hn hn2)))
  clear hws0 hb0 hx0 hbl hk hb hr hr2 hs0 hs1 hn hn2
  go_enter Tryd.func92, Tryd.ntmps92
  go_upto_region 2 with (first
    | (go_at_call 105; (with_reducible refine (first_any _).mono ?_); rintro e wf ⟨rfl, hbf⟩)
    | (refine wpList_store_row rfl 0x6f _ _ rfl wf.heap.size (wvs beginL) rfl rfl 0x6f (wvs (List.replicate 8 0#32)) (World.alloc_heap_new wf _) i27b rfl (wvs_one beginL) ?_))
  rw [z8_eq]
  obtain ⟨Hb, hHb⟩ : ∃ Hb, wf.heap.size = Hb := ⟨_, rfl⟩
  obtain ⟨W1, hW1⟩ : ∃ W1, (wf.alloc (.cells (wvs (List.replicate 8 0#32)) 0x6f)).setRow wf.heap.size (wvs beginL) = W1 := ⟨_, rfl⟩
  have hb1 : Below w.heap.size w W1 := by
    rw [← hW1]
    exact below_setRow (hbf.alloc hbf.size _) hbf.size _
  have hh1 : Blk W1 Hb 0x6f (wvs beginL) := by rw [← hW1, ← hHb]; exact setRow_heap _ _ _ _ _ _ (World.alloc_heap_new wf _)
  have hlH : w.heap.size ≤ Hb := by rw [← hHb]; exact hbf.size
  rw [hW1, hHb]
  clear hW1 hHb hbf
  have cw := hh1.word (k := 0) (by decide)
  have fw := hh1.frozen 0
  rw [HB0.out] at cw
  have HH1 := Lib.hid hh1
  have HB1 := Lib.hid hb1
  have HLH := Lib.hid hlH
  clear hh1 hb1 hlH
  go_upto_region 4 with fail
  obtain ⟨W2, hW2⟩ : ∃ W2, W1.setCell ⟨Hb, 0, none⟩ (.int .u32 (iv x0)) = W2 := ⟨_, rfl⟩
  have hb2 : Below w.heap.size w W2 := by rw [← hW2]; exact HB1.out.setCell (p := ⟨Hb, 0, none⟩) HLH.out _
  have hh2 : Blk W2 Hb 0x6f (wvs (startS size key).ws) := by rw [← hW2, HWS.out]; exact HH1.out.setWord 0 x0
  rw [hW2]
  clear hW2 cw fw e1
  obtain ⟨ws, hws⟩ : ∃ ws, (startS size key).ws = ws := ⟨_, rfl⟩
  have hwl : ws.length = 8 := by rw [← hws]; exact startS_ws size key
  rw [hws] at hh2
  have HW := Lib.hid hws
  have HWL := Lib.hid hwl
  have HH2 := Lib.hid hh2
  have HB2 := Lib.hid hb2
  have HZ2 := Lib.hid hh2.lt
  clear hws hwl hh2 hb2 HH1 HB1 HWS HB0 hsb
  go_upto_if 30 with fail
  have hrk : Rd W2 w.heap.size A key := HR.out.1.below HB2.out
  have HRK := Lib.hid hrk
  clear hrk
  go_cut [8] from 30 to 37 (fun s8 wx => Hid (AheadAt W2 (if key.length = 0 then [] else pad key) s8 wx))
  case first =>
    by_cases h0 : 0 < n
    case neg =>
      go_wp2_with fail
      go_meet
      have h0 : key.length = 0 := by rw [HK.out]; omega
      exact Lib.hid (by rw [if_pos h0]; exact ⟨World.ownsRow_nil _ _ _ _, Below.refl _ _⟩)
    case pos =>
      obtain ⟨m, hm⟩ : ∃ m, n + m = 64 := ⟨64 - n, by have := HN.out; omega⟩
      have hsub : (64 : Int) - (n : Int) = (m : Int) := by omega
      have hm0 : 0 < m := by have := HN.out; omega
      have HM := Lib.hid hm
      clear hm
      go_wp2_with (first
        | (at_builtin; refine wpList_append_rd _ rfl (.tmp 31) (.tmp 32) 0x16 rfl W2.heap.size 5 i0 _ Tryd.underlying22 hi hz0 hz1 hz2 rfl _ 0 [] rfl (World.ownsRow_made W2 #[] 0 (Nat.le_refl _) (by decide) rfl) w.heap.size A n c key rfl HK.out (HRK.out.alloc HB2.out.size _) (by omega) (by simp) ?_; intro v33 w33 hown33 hg33 _)
        | (at_builtin; refine wpList_append_zeros _ rfl (.tmp 33) (.tmp 36) 0x16 3 9 rfl W2.heap.size 5 i0 .i64 .i64 Tryd.underlying22 Tryd.underlying3 Tryd.underlying9 hi hz0 hz1 hz2 v33 (0 + n) _ rfl hown33 m rfl hm0 (by have := HN.out; have := HM.out; omega) (by have := hg33.size; simp at this; omega) ?_; intro v37 w37 hown37 hg37))
      go_meet
      refine Lib.hid ?_
      rw [if_neg (by rw [HK.out]; omega)]
      have hlp : (pad key).length = 0 + n + m := by rw [pad_length key (by rw [HK.out]; have := HN.out; omega)]; have := HM.out; omega
      have hpd : (pad key).map byteCell = [] ++ key.map byteCell ++ (List.replicate m 0#8).map byteCell := by
        unfold pad
        rw [List.map_append, List.nil_append, HK.out, show 64 - n = m by have := HM.out; omega]
      have s33 := hg33.size
      have hB1 : Below W2.heap.size W2 (W2.alloc (.cells #[] 5)) := (Below.refl _ _).alloc (Nat.le_refl _) _
      refine ⟨by rw [hlp, hpd]; exact hown37, ?_⟩
      exact ((hB1.grown hg33 hB1.size (fun g e => by cases e; exact Nat.le_refl _)).grown hg37 (Nat.le_trans hB1.size s33) (fun g e => own_ge hown33 g e))
  case rest =>
    have HA := hcut
    clear hcut
    obtain ⟨ps, hps⟩ : ∃ ps, (if key.length = 0 then [] else pad key) = ps := ⟨_, rfl⟩
    have hpl : ps.length ≤ 64 := by
      rw [← hps]
      split
      · simp
      · rw [pad_length key (by rw [HK.out]; have := HN.out; omega)]; exact Nat.le_refl _
    have hall : allS key b = ps ++ b := by unfold allS; rw [hps]
    rw [hps] at HA
    have hown := HA.out.1
    have hbA := HA.out.2
    have hr2A : Rd wc w.heap.size A2 b := (HR.out.2.below HB2.out).belowTo hbA HB2.out.size
    have HR2 := Lib.hid hr2A
    have HOW := Lib.hid hown
    have HBA := Lib.hid hbA
    have HPL := Lib.hid hpl
    have HALL := Lib.hid hall
    clear hps hall hpl hown hbA hr2A HA
    go_upto_region 7 with (first
      | (at_builtin; refine wpList_append_rd _ rfl (.tmp 38) (.tmp 39) 0x16 rfl W2.heap.size 5 i0 _ Tryd.underlying22 hi hz0 hz1 hz2 rfl _ ps.length _ rfl HOW.out w.heap.size A2 n2 c2 b rfl HB.out HR2.out (by have := HPL.out; have := HN.out; omega) HBA.out.size ?_; intro v40 w40 hown40 hg40 _))
    obtain ⟨A8, c8, rfl⟩ := own_slice hown40
    obtain ⟨all, hal⟩ : ∃ all, allS key b = all := ⟨_, rfl⟩
    have hlen : all.length = ps.length + n2 := by rw [← hal, HALL.out, List.length_append, HB.out]
    have hown : w40.ownsRow W2.heap.size 5 1 (.slice A8 (ps.length + n2) c8) (ps.length + n2) (all.map byteCell) := by
      rw [← hal, HALL.out, List.map_append]
      exact hown40
    have hb40 : Below W2.heap.size W2 w40 := HBA.out.grown hg40 HBA.out.size (fun g e => own_ge HOW.out g e)
    have hky := KyAt.start (HH2.out.keep hb40) hown HZ2.out (HB2.out.trans (hb40.mono HB2.out.size))
    have hLm : ps.length + n2 ≤ 200000 := by have := HPL.out; have := HN.out; omega
    obtain ⟨L, hL⟩ : ∃ L, ps.length + n2 = L := ⟨_, rfl⟩
    obtain ⟨lo, hlo⟩ : ∃ lo, w40.heap.size = lo := ⟨_, rfl⟩
    have hlo2 : w.heap.size ≤ lo ∧ Hb < lo ∧ lo = w40.heap.size := by
      have h1 := hb40.size
      have h2 := HB2.out.size
      have h3 := HZ2.out
      omega
    rw [hL] at hlen hLm
    rw [hlo] at hky
    rw [hL]
    have HAL := Lib.hid hal
    have HLEN := Lib.hid hlen
    have HLO := Lib.hid hlo2
    have HKY := Lib.hid hky
    clear hal hlen hown hown40 hg40 hb40 hky hL hlo hlo2 HBA HOW HALL HPL HR2 HZ2 HH2 HRK HB HK
    have hz24 := (zero_of_info z24).1
    go_wp2_with fail
    go_loopw [9] (fun s9 wr => ∃ j p : Nat, s9 = .int .i64 (p : Int) ∧ p ≤ L ∧ Hid (p = 64 * j ∧ j ≤ cnt all) ∧ Hid (KyAt w wr lo Hb (pressK ws 0 all j) A8 all ∧ lo ≤ wr.heap.size)) (fun s9 _ => L + 64 - (intOf s9).toNat)
    case atStart => exact ⟨0, 0, rfl, Nat.zero_le _, Lib.hid ⟨rfl, Nat.zero_le _⟩, Lib.hid ⟨HKY.out, by rw [← HLO.out.2.2]; exact Nat.le_refl _⟩⟩
    case round =>
      obtain ⟨wo, rfl⟩ : ∃ wo : World, wo = wr := ⟨_, rfl⟩
      obtain ⟨j, p, rfl, hpL, HP, HR1⟩ := hrel
      clear HKY
      go_upto_region 9 with fail
      obtain ⟨Bb, hBb⟩ : ∃ Bb, wo.heap.size = Bb := ⟨_, rfl⟩
      obtain ⟨W4, hW4⟩ : ∃ W4, wo.alloc (.cells (bvs z64) 0x31) = W4 := ⟨_, rfl⟩
      have hky4 : KyAt w W4 lo Hb (pressK ws 0 all j) A8 all := by rw [← hW4]; exact HR1.out.1.keep ((Below.refl _ _).alloc (Nat.le_refl _) _)
      have hB4 : Blk W4 Bb 0x31 (bvs (pad ((chunk all j).take 0))) := by rw [← hW4, ← hBb]; exact Blk.new wo 0x31 _
      have hlB : lo ≤ Bb := by rw [← hBb]; exact HR1.out.2
      rw [hW4, hBb]
      have HBl := Lib.hid hlB
      have HR4 := Lib.hid (And.intro hky4 hB4)
      clear hW4 hBb hky4 hB4 hlB HR1
      go_upto_region 10 with fail
      have hm : (if (L : Int) - (p : Int) < 64 then (L : Int) - (p : Int) else 64) = (((chunk all j).length : Nat) : Int) := by
        rw [chunk_length, HLEN.out]
        have := HP.out
        split <;> omega
      rw [hm]
      have hcl := chunk_length all j
      have hcle := chunk_le all j
      rw [HLEN.out] at hcl
      obtain ⟨C, hC⟩ : ∃ C, chunk all j = C := ⟨_, rfl⟩
      have hgd : ∀ k, k < C.length → C.getD k 0 = all.getD (p + k) 0 := by
        intro k hk
        rw [HP.out.1, ← hC]
        exact chunk_getD all j k (by rw [hC]; exact hk)
      rw [hC] at hcl hcle HR4
      rw [hC]
      have HC := Lib.hid hC
      obtain ⟨m, hCm⟩ : ∃ m, C.length = m := ⟨_, rfl⟩
      rw [hCm] at hcl hcle hgd
      rw [hCm]
      have hpm : p + m ≤ L := by have := HP.out; omega
      have HCM := Lib.hid hCm
      have HCL := Lib.hid hcl
      have HGD := Lib.hid hgd
      obtain ⟨Hj, hHj⟩ : ∃ H, pressK ws 0 all j = H := ⟨_, rfl⟩
      have hHl : Hj.length = 8 := by rw [← hHj, pressK_length, HWL.out]
      rw [hHj] at HR4
      have HHJ := Lib.hid hHj
      have HHL := Lib.hid hHl
      clear hm hC hCm hcl hgd hHj hHl
      go_wp2_with fail
      go_loopw [12] (fun s12 wi => ∃ k : Nat, k ≤ m ∧ s12 = .int .i64 (k : Int) ∧ Hid (KyAt w wi lo Hb Hj A8 all ∧ Blk wi Bb 0x31 (bvs (pad (C.take k))))) (fun s12 _ => m - (intOf s12).toNat)
      case atStart => exact ⟨0, Nat.zero_le _, rfl, HR4⟩
      case round =>
        obtain ⟨wi, rfl⟩ : ∃ wi : World, wi = wr := ⟨_, rfl⟩
        obtain ⟨k, hk, rfl, HRk⟩ := hrel
        clear HR4
        by_cases hlt : k < m
        · obtain ⟨bo, off, rfl, hcell⟩ := HRk.out.1.at_ (k := p + k) (by rw [HLEN.out]; omega)
          have hdst := HRk.out.2.byte (k := k) (by rw [pad_length _ (by rw [List.length_take]; omega)]; omega)
          have hdf := HRk.out.2.frozen k
          obtain ⟨zz, hzz⟩ : ∃ z, (pad (C.take k)).getD k 0 = z := ⟨_, rfl⟩
          rw [hzz] at hdst
          obtain ⟨x, hx⟩ : ∃ x, all.getD (p + k) 0 = x := ⟨_, rfl⟩
          rw [hx] at hcell
          have HX := Lib.hid hx
          have hpk : (p : Int) + (k : Int) < (L : Int) := by omega
          have hpt : ((p : Int) + (k : Int)).toNat = p + k := by omega
          have hk64 : (k : Int) < 64 := by omega
          clear hzz hx
          go_wp2_with fail
          go_roundw
          case rel =>
            refine ⟨k + 1, by omega, by go_num, Lib.hid ⟨?_, ?_⟩⟩
            · exact HRk.out.1.setIn (by have := HLO.out; have := HBl.out; omega) HBl.out (by have := HLO.out; have := HBl.out; omega) _
            · have h1 := HRk.out.2.setByte k x
              have h2 := pad_set C k (by rw [HCM.out]; omega) (by rw [HCM.out]; omega)
              rw [HGD.out k hlt, HX.out] at h2
              rw [h2] at h1
              exact h1
          case measure => simp [intOf]; omega
        · obtain rfl : k = m := by omega
          have hct : C.take k = C := List.take_of_length_le (by rw [HCM.out]; omega)
          have hR5 := HRk.out
          rw [hct] at hR5
          have hpc := refPress_any Hj (pad C) (p + k)
          obtain ⟨last, hla⟩ : ∃ last, ((p : Int) + (k : Int) == (L : Int)) = last := ⟨_, rfl⟩
          have hlaN : (p + k == L) = last := by
            rw [← hla, Bool.eq_iff_iff]
            simp
            omega
          have hpc := refPress_any Hj (pad C) (p + k) last HHL.out (pad_length C (by rw [HCM.out]; omega)) (by omega)
          obtain ⟨X, hX⟩ : ∃ X, pressS Hj (pad C) (p + k) last = X := ⟨_, rfl⟩
          have hXl : X.length = 8 := by rw [← hX, pressS_length, HHL.out]
          rw [hX] at hpc
          simp only [Int.natCast_add] at hpc
          have i24c : Hid ((Tryd.prog.info? 0x31).map (·.size) = some (bvs (pad C)).size) := Lib.hid (i24 _ (pad_length C (by rw [HCM.out]; omega)))
          have HX := Lib.hid hX
          have HXL := Lib.hid hXl
          have HPC := Lib.hid hpc
          have HR5 := Lib.hid hR5
          have HLA := Lib.hid hlaN
          clear hX hXl hpc hR5 hct HRk
          go_upto_region 16 with (first
            | (refine wpList_load_row rfl 0x6f _ rfl Hb rfl 0x6f _ (0, 0) _ HR5.out.1.h Tryd.underlying111 rfl (i23 _ HHL.out) ?_)
            | (refine wpList_load_row rfl 0x31 _ rfl Bb rfl 0x31 _ (0, 0) _ HR5.out.2 Tryd.underlying49 rfl i24c.out ?_)
            | (go_at_call 106; (with_reducible refine (HPC.out _).mono ?_); rintro e w5 ⟨rfl, hb5⟩)
            | (refine wpList_store_row rfl 0x6f _ _ rfl Hb (wvs X) rfl rfl 0x6f _ (HR5.out.1.h.keep hb5) (i23 _ HXL.out) (by rw [wvs_size, wvs_size, HHL.out, HXL.out]) (wvs_one X) ?_))
          have hky6 : KyAt w (w5.setRow Hb (wvs X)) lo Hb X A8 all := (HR5.out.1.keep hb5).setH HLH.out X
          obtain ⟨W6, hW6⟩ : ∃ W6, w5.setRow Hb (wvs X) = W6 := ⟨_, rfl⟩
          have hs6 : lo ≤ W6.heap.size := by
            rw [← hW6, size_setRow]
            have := HBl.out
            have := HR5.out.2.lt
            have := hb5.size
            omega
          rw [hW6] at hky6 ⊢
          have HK6 := Lib.hid (And.intro hky6 hs6)
          clear hW6 hky6 hs6 hb5 HPC HR5
          have hxe : last = false → j < cnt all ∧ p + k = 64 * (j + 1) := by
            intro e
            have h1 := HLA.out
            rw [e] at h1
            have h2 : p + k ≠ L := by simpa using h1
            have h3 := HP.out
            have h4 := HCL.out
            have h5 : cnt all = (L - 1) / 64 := by unfold cnt; rw [HLEN.out]
            omega
          have hxt : last = true → j = cnt all ∧ p + k = L := by
            intro e
            have h1 := HLA.out
            rw [e] at h1
            have h2 : p + k = L := by simpa using h1
            have h3 := HP.out
            have h4 := HCL.out
            have h5 : cnt all = (L - 1) / 64 := by unfold cnt; rw [HLEN.out]
            omega
          have HXE := Lib.hid hxe
          have HXT := Lib.hid hxt
          have hlaN := HLA.out
          clear hxe hxt
          cases last
          · go_wp2_with fail
            obtain ⟨h1, h2⟩ := HXE.out rfl
            go_roundw
            case rel =>
              refine ⟨j + 1, p + k, by go_num, hpm, Lib.hid ⟨h2, h1⟩, Lib.hid ⟨?_, HK6.out.2⟩⟩
              have : pressK ws 0 all (j + 1) = X := by
                rw [pressK, HHJ.out, HC.out, Nat.zero_add, ← h2, HX.out]
              rw [this]
              exact HK6.out.1
            case measure =>
              have := HP.out.1
              simp [intOf]; omega
          · obtain ⟨h1, h2⟩ := HXT.out rfl
            have hF : lastS ws all = X := by
              rw [lastS_eq, ← h1, HHJ.out, HC.out, HLEN.out, ← h2, HX.out]
            have HF := Lib.hid hF
            clear h1 h2 hF
            go_wp2_with fail
            have HF6 := Lib.hid HK6.out.1.h
            have HB6 := Lib.hid HK6.out.1.below
            clear HK6
            go_loopw [13, 14] (fun s13 s14 wr => ∃ q : Nat, q ≤ 8 ∧ s14 = .int .i64 (q : Int) ∧ Hid (wr.ownsRow W6.heap.size 5 1 s13 (4 * q) ((outB X q).map byteCell) ∧ Blk wr Hb 0x6f (wvs X) ∧ Below W6.heap.size W6 wr)) (fun _ s14 _ => 8 - (intOf s14).toNat)
            case atStart => exact ⟨0, by omega, rfl, Lib.hid ⟨World.ownsRow_nil _ _ _ _, HF6.out, Below.refl _ _⟩⟩
            case round =>
              obtain ⟨wo7, rfl⟩ : ∃ wo7 : World, wo7 = wr := ⟨_, rfl⟩
              obtain ⟨q, hq, rfl, HQ⟩ := hrel
              by_cases hlt : q < 8
              · have hc := HQ.out.2.1.word (k := q) (by rw [HXL.out]; exact hlt)
                have hby0 := byteAt_0 X q
                have hby1 := byteAt_j X q 1 (by decide)
                have hby2 := byteAt_j X q 2 (by decide)
                have hby3 := byteAt_j X q 3 (by decide)
                obtain ⟨x, hx⟩ : ∃ x, X.getD q 0 = x := ⟨_, rfl⟩
                rw [hx] at hc hby0 hby1 hby2 hby3
                have HBY := Lib.hid (And.intro hby0 (And.intro hby1 (And.intro hby2 hby3)))
                clear hby0 hby1 hby2 hby3 hx
                have g0 : (0 : Int) ≤ (q : Int) := by omega
                have g7 : (q : Int) < 8 := by omega
                have hx0 := iv_lo x
                have d0 := byte0 x
                have d1 := byte1 x
                have d2 := byte2 x
                have d3 := byte3 x
                obtain ⟨y0, hy0⟩ : ∃ y, x.setWidth 8 = y := ⟨_, rfl⟩
                obtain ⟨y1, hy1⟩ : ∃ y, (x >>> 8).setWidth 8 = y := ⟨_, rfl⟩
                obtain ⟨y2, hy2⟩ : ∃ y, (x >>> 16).setWidth 8 = y := ⟨_, rfl⟩
                obtain ⟨y3, hy3⟩ : ∃ y, (x >>> 24).setWidth 8 = y := ⟨_, rfl⟩
                rw [hy0] at d0
                rw [hy1] at d1
                rw [hy2] at d2
                rw [hy3] at d3
                have hsucc : outB X (q + 1) = outB X q ++ [y0, y1, y2, y3] := by
                  rw [outB_succ, HBY.out.1, HBY.out.2.1, HBY.out.2.2.1, HBY.out.2.2.2, ← hy0, ← hy1, ← hy2, ← hy3]
                have HSU := Lib.hid hsucc
                clear hy0 hy1 hy2 hy3 hsucc hx0
                go_upto_region 21 with fail
                have hS0 : wo7.drew.cell? ⟨Hb, q, none⟩ = some (.int .u32 (iv x)) := hc
                refine wp_region_held_drew (S := fun wx => wx.cell? ⟨Hb, q, none⟩ = some (.int .u32 (iv x))) rfl hS0 (fun hHeld => ?_)
                simp only [List.size_toArray, List.length_cons, List.length_nil, Nat.reduceAdd]
                have ho7 : wo7.drew.ownsRow W6.heap.size 5 1 u13 (4 * q) ((outB X q).map byteCell) := own_below HQ.out.1 (Below.refl _ _).drew
                have hb7 : Below W6.heap.size W6 wo7.drew := HQ.out.2.2.drew
                have hf7 : Blk wo7.drew Hb 0x6f (wvs X) := HQ.out.2.1.drew
                obtain ⟨W7, hW7⟩ : ∃ W, wo7.drew = W := ⟨_, rfl⟩
                rw [hW7] at ho7 hb7 hf7 hS0 hHeld ⊢
                clear hW7 hc HQ
                refine wpAnyH_take (i := 0) (v := u13) rfl (by kernel_rfl) (by kernel_rfl) (by kernel_rfl) (fun _ _ _ h => h) (Or.inl ⟨by rfl, ?_⟩) (by assumption) ?_
                · intro wx hs1
                  go_simp
                try simp only [Act.put]
                refine wpAnyH_take (i := 1) (v := .int .i64 (q : Int)) rfl (by kernel_rfl) (by kernel_rfl) (by kernel_rfl) (fun _ _ _ h => h) (Or.inl ⟨by rfl, ?_⟩) (by assumption) ?_
                · intro wx hs1
                  go_simp
                try simp only [Act.put]
                refine wpAnyH_take (i := 2) (v := .pointer (some ⟨Hb, q, none⟩)) rfl (by kernel_rfl) (by kernel_rfl) (by kernel_rfl) (fun _ _ _ h => h) (Or.inl ⟨by rfl, ?_⟩) (by assumption) ?_
                · intro wx hs1
                  go_simp
                try simp only [Act.put]
                refine wpAnyH_take (i := 3) (v := .int .u32 (iv x)) rfl (by kernel_rfl) (by kernel_rfl) (by kernel_rfl) (fun _ _ _ h => h) (Or.inl ⟨by rfl, ?_⟩) (by assumption) ?_
                · intro wx hs1
                  go_simp
                try simp only [Act.put]
                refine wpAnyH_take (i := 4) (v := .int .u32 ((iv x).tmod 256)) rfl (by kernel_rfl) (by kernel_rfl) (by kernel_rfl) (fun _ _ _ h => h) (Or.inl ⟨by rfl, ?_⟩) (by assumption) ?_
                · intro wx hs1
                  go_simp
                try simp only [Act.put]
                refine wpAnyH_take (i := 5) (v := .int .u8 (ib y0)) rfl (by kernel_rfl) (by kernel_rfl) (by kernel_rfl) (fun _ _ _ h => h) (Or.inl ⟨by rfl, ?_⟩) (by assumption) ?_
                · intro wx hs1
                  go_simp
                try simp only [Act.put]
                refine wpAnyH_take (i := 6) (v := .int .i64 (q : Int)) rfl (by kernel_rfl) (by kernel_rfl) (by kernel_rfl) (fun _ _ _ h => h) (Or.inl ⟨by rfl, ?_⟩) (by assumption) ?_
                · intro wx hs1
                  go_simp
                try simp only [Act.put]
                refine wpAnyH_take (i := 7) (v := .pointer (some ⟨Hb, q, none⟩)) rfl (by kernel_rfl) (by kernel_rfl) (by kernel_rfl) (fun _ _ _ h => h) (Or.inl ⟨by rfl, ?_⟩) (by assumption) ?_
                · intro wx hs1
                  go_simp
                try simp only [Act.put]
                refine wpAnyH_take (i := 8) (v := .int .u32 (iv x)) rfl (by kernel_rfl) (by kernel_rfl) (by kernel_rfl) (fun _ _ _ h => h) (Or.inl ⟨by rfl, ?_⟩) (by assumption) ?_
                · intro wx hs1
                  go_simp
                try simp only [Act.put]
                refine wpAnyH_take (i := 9) (v := .int .u32 (IntKind.u32.wrap ((iv x).tdiv 256))) rfl (by kernel_rfl) (by kernel_rfl) (by kernel_rfl) (fun _ _ _ h => h) (Or.inl ⟨by rfl, ?_⟩) (by assumption) ?_
                · intro wx hs1
                  go_simp
                try simp only [Act.put]
                refine wpAnyH_take (i := 10) (v := .int .u32 ((IntKind.u32.wrap ((iv x).tdiv 256)).tmod 256)) rfl (by kernel_rfl) (by kernel_rfl) (by kernel_rfl) (fun _ _ _ h => h) (Or.inl ⟨by rfl, ?_⟩) (by assumption) ?_
                · intro wx hs1
                  go_simp
                try simp only [Act.put]
                refine wpAnyH_take (i := 11) (v := .int .u8 (ib y1)) rfl (by kernel_rfl) (by kernel_rfl) (by kernel_rfl) (fun _ _ _ h => h) (Or.inl ⟨by rfl, ?_⟩) (by assumption) ?_
                · intro wx hs1
                  go_simp
                try simp only [Act.put]
                refine wpAnyH_take (i := 12) (v := .int .i64 (q : Int)) rfl (by kernel_rfl) (by kernel_rfl) (by kernel_rfl) (fun _ _ _ h => h) (Or.inl ⟨by rfl, ?_⟩) (by assumption) ?_
                · intro wx hs1
                  go_simp
                try simp only [Act.put]
                refine wpAnyH_take (i := 13) (v := .pointer (some ⟨Hb, q, none⟩)) rfl (by kernel_rfl) (by kernel_rfl) (by kernel_rfl) (fun _ _ _ h => h) (Or.inl ⟨by rfl, ?_⟩) (by assumption) ?_
                · intro wx hs1
                  go_simp
                try simp only [Act.put]
                refine wpAnyH_take (i := 14) (v := .int .u32 (iv x)) rfl (by kernel_rfl) (by kernel_rfl) (by kernel_rfl) (fun _ _ _ h => h) (Or.inl ⟨by rfl, ?_⟩) (by assumption) ?_
                · intro wx hs1
                  go_simp
                try simp only [Act.put]
                refine wpAnyH_take (i := 15) (v := .int .u32 (IntKind.u32.wrap ((iv x).tdiv 65536))) rfl (by kernel_rfl) (by kernel_rfl) (by kernel_rfl) (fun _ _ _ h => h) (Or.inl ⟨by rfl, ?_⟩) (by assumption) ?_
                · intro wx hs1
                  go_simp
                try simp only [Act.put]
                refine wpAnyH_take (i := 16) (v := .int .u32 ((IntKind.u32.wrap ((iv x).tdiv 65536)).tmod 256)) rfl (by kernel_rfl) (by kernel_rfl) (by kernel_rfl) (fun _ _ _ h => h) (Or.inl ⟨by rfl, ?_⟩) (by assumption) ?_
                · intro wx hs1
                  go_simp
                try simp only [Act.put]
                refine wpAnyH_take (i := 17) (v := .int .u8 (ib y2)) rfl (by kernel_rfl) (by kernel_rfl) (by kernel_rfl) (fun _ _ _ h => h) (Or.inl ⟨by rfl, ?_⟩) (by assumption) ?_
                · intro wx hs1
                  go_simp
                try simp only [Act.put]
                refine wpAnyH_take (i := 18) (v := .int .i64 (q : Int)) rfl (by kernel_rfl) (by kernel_rfl) (by kernel_rfl) (fun _ _ _ h => h) (Or.inl ⟨by rfl, ?_⟩) (by assumption) ?_
                · intro wx hs1
                  go_simp
                try simp only [Act.put]
                refine wpAnyH_take (i := 19) (v := .pointer (some ⟨Hb, q, none⟩)) rfl (by kernel_rfl) (by kernel_rfl) (by kernel_rfl) (fun _ _ _ h => h) (Or.inl ⟨by rfl, ?_⟩) (by assumption) ?_
                · intro wx hs1
                  go_simp
                try simp only [Act.put]
                refine wpAnyH_take (i := 20) (v := .int .u32 (iv x)) rfl (by kernel_rfl) (by kernel_rfl) (by kernel_rfl) (fun _ _ _ h => h) (Or.inl ⟨by rfl, ?_⟩) (by assumption) ?_
                · intro wx hs1
                  go_simp
                try simp only [Act.put]
                refine wpAnyH_take (i := 21) (v := .int .u32 (IntKind.u32.wrap ((iv x).tdiv 16777216))) rfl (by kernel_rfl) (by kernel_rfl) (by kernel_rfl) (fun _ _ _ h => h) (Or.inl ⟨by rfl, ?_⟩) (by assumption) ?_
                · intro wx hs1
                  go_simp
                try simp only [Act.put]
                refine wpAnyH_take (i := 22) (v := .int .u8 (ib y3)) rfl (by kernel_rfl) (by kernel_rfl) (by kernel_rfl) (fun _ _ _ h => h) (Or.inl ⟨by rfl, ?_⟩) (by assumption) ?_
                · intro wx hs1
                  go_simp
                try simp only [Act.put]
                refine wpAnyH_ready (rs := [23]) (by kernel_rfl) (by simp) (AllReadyH.cons rfl (fun K hK => ?_) AllReadyH.nil)
                go_simp
                have hS8 : (W7.alloc (.cells #[.int .u8 (ib y0), .int .u8 (ib y1), .int .u8 (ib y2), .int .u8 (ib y3)] 5)).cell? ⟨Hb, q, none⟩ = some (.int .u32 (iv x)) := (World.cell?_alloc_lt _ _ _ hf7.lt).trans hS0
                refine hK.out _ _ hS8 (fun hHeld => ?_)
                clear hK K
                try simp only [Act.put]
                have hr8 : Rd (W7.alloc (.cells #[.int .u8 (ib y0), .int .u8 (ib y1), .int .u8 (ib y2), .int .u8 (ib y3)] 5)) (W7.heap.size + 1) (some ⟨W7.heap.size, 0, none⟩) [y0, y1, y2, y3] := fun _ => ⟨W7.heap.size, 0, rfl, by omega, fun j c hj => by
                  rw [World.cell?_alloc_mark]
                  rcases j with _ | _ | _ | _ | j <;> simp at hj <;> subst hj <;> rfl⟩
                have ho8 := own_below ho7 ((Below.refl W7.heap.size W7).alloc (Nat.le_refl _) (.cells #[.int .u8 (ib y0), .int .u8 (ib y1), .int .u8 (ib y2), .int .u8 (ib y3)] 5))
                have hb8 : Below W6.heap.size W6 (W7.alloc (.cells #[.int .u8 (ib y0), .int .u8 (ib y1), .int .u8 (ib y2), .int .u8 (ib y3)] 5)) := hb7.alloc hb7.size _
                have hf8 : Blk (W7.alloc (.cells #[.int .u8 (ib y0), .int .u8 (ib y1), .int .u8 (ib y2), .int .u8 (ib y3)] 5)) Hb 0x6f (wvs X) := hf7.alloc _
                obtain ⟨W8, hW8⟩ : ∃ W, W7.alloc (.cells #[.int .u8 (ib y0), .int .u8 (ib y1), .int .u8 (ib y2), .int .u8 (ib y3)] 5) = W := ⟨_, rfl⟩
                rw [hW8] at hS8 hr8 ho8 hb8 hf8 hHeld ⊢
                clear hW8 ho7 hb7 hf7
                have hq32 : 4 * q + 4 ≤ 1000000000 := by omega
                refine wpAnyH_ready (rs := [24]) (by kernel_rfl) (by simp) (AllReadyH.cons rfl (fun K hK => ?_) AllReadyH.nil)
                rw [if_pos (by rfl)]
                refine oper_append_rd (.tmp 79) (.tmp 102) 0x16 rfl W6.heap.size 5 i0 _ Tryd.underlying22 hi hz0 hz1 hz2 rfl u13 (4 * q) _ rfl ho8 (W7.heap.size + 1) (some ⟨W7.heap.size, 0, none⟩) 4 4 [y0, y1, y2, y3] rfl rfl hr8 hq32 hb8.size ?_
                intro v9 w9 hown9 hg9 _
                have hb9 : Below W6.heap.size W6 w9 := hb8.grown hg9 hb8.size (fun g e => own_ge ho8 g e)
                have hf9 : Blk w9 Hb 0x6f (wvs X) := (hb9.block Hb HF6.out.lt).trans HF6.out
                have hS9 : w9.cell? ⟨Hb, q, none⟩ = some (.int .u32 (iv x)) := (hb9.cell (p := ⟨Hb, q, none⟩) HF6.out.lt).trans ((hb8.cell (p := ⟨Hb, q, none⟩) HF6.out.lt).symm.trans hS8)
                refine hK.out _ _ hS9 (fun hHeld => ?_)
                clear hK K
                try simp only [Act.put]
                refine wpAnyH_ready (rs := [25]) (by kernel_rfl) (by simp) (AllReadyH.cons rfl (fun K hK => ?_) AllReadyH.nil)
                go_simp
                refine hK.out _ _ hS9 (fun hHeld => ?_)
                clear hK K
                try simp only [Act.put]
                refine wpAnyH_done (by kernel_rfl) ?_ _
                have HR9 := Lib.hid (And.intro hown9 (And.intro hf9 hb9))
                clear hown9 hg9 hb9 hf9 hS9 hS8 hr8 ho8 hb8 hf8 hHeld hS0 d0 d1 d2 d3 g0 g7 hq32
                go_wp2_with fail
                go_roundw
                case rel =>
                  refine ⟨q + 1, by omega, by go_num, Lib.hid ⟨?_, HR9.out.2.1, HR9.out.2.2⟩⟩
                  have := HR9.out.1
                  rw [HSU.out, List.map_append, show 4 * (q + 1) = 4 * q + 4 by omega]
                  exact this
                case measure => simp [intOf]; omega
              · obtain rfl : q = 8 := by omega
                have hown := HQ.out.1
                have hbq := HQ.out.2.2
                obtain ⟨g, cap, rfl, hgb, hglt⟩ := hown.form (by decide)
                have hcap : 32 ≤ cap := by
                  rcases hown.2 with ⟨h1, _⟩ | ⟨g', cap', cur, h1, _, _, hnc, _⟩
                  · cases h1
                  · cases h1; exact hnc
                have hrd : Rd wo7 wo7.heap.size (some ⟨g, 0, none⟩) ((outB X 8).take size) := (Rd.of_own hown (Nat.le_refl _)).take size
                have hsl := cut_h (some ⟨g, 0, none⟩) (4 * 8) cap size (by have := HN.out; omega)
                have hca : cutA (some ⟨g, 0, none⟩) 0 cap = some ⟨g, 0, none⟩ := by
                  rw [cutA, if_neg (by omega), Option.map_some, Addr.add_mid]
                rw [hca] at hsl
                have HRD := Lib.hid hrd
                have HBQ := Lib.hid hbq
                clear hown hbq hrd HQ
                go_wp2_with fail
                go_ret
                refine ⟨_, _, rfl, ?_, HB6.out.trans (HBQ.out.mono HB6.out.size), (fun a e => by cases e; exact Nat.le_trans HB6.out.size hgb), by have := HN.out; omega⟩
                rw [hashW_all, HW.out, HAL.out, HF.out, ← digest_eq]
                exact HRD.out
theorem Sm.refKeyed_any (size n c n2 c2 : Nat) (A A2 : Option Addr) (key b : List (BitVec 8)) (w : World) (hs0 : 1 ≤ size) (hs1 : size ≤ 32) (hn : n ≤ 32) (hk : key.length = n) (hb : b.length = n2) (hn2 : n2 ≤ 100000) (hr : Rd w w.heap.size A key) (hr2 : Rd w w.heap.size A2 b) :
    Calls Tryd.prog 92 #[.int .i64 (size : Int), .slice A n c, .slice A2 n2 c2] w fun e w' => ∃ A' c', e = .returned (.slice A' size c') ∧ Rd w' w'.heap.size A' ((hashW size key b).take size) ∧ Below w.heap.size w w' :=
  (refKeyed_new size n c n2 c2 A A2 key b w hs0 hs1 hn hk hb hn2 hr hr2).mono fun _ _ ⟨A', c', e, h1, h2, _⟩ => ⟨A', c', e, h1, h2⟩
end Go.Proofs
