/-
  The walk of the law BlakeMix: at every four words and two it returns true and nothing that lay has turned, where the tables lie in memory.
  Parts of slices of bytes, and parts in a row of the call itself. No condition.
  Parts that came in; the contract of joined, of the laws of layer 4: where there are few enough of them, and where not.
  Opening of an argument that is a slice of slices of bytes. Conditions: what the frame says of an argument that can be read.
  The contracts of the library functions that these laws call, off the shelf, in plain words.
-/
import Derived.Deep.RegionHeld3
import Derived.ChangeKeysEq
import Derived.Test.YtbojnblececnhaaGreatDoorQ03
import Derived.Test.YtbojnblececnhaaGreatDoorQ08
import Derived.Test.YtbojnblececnhaaGreatDoorQ07
import Derived.Test.YtbojnblececnhaaGreatDoorQ11
import Derived.Deep.Matrix
import Derived.Shelf.Small.Strs
import Derived.Shelf.LaysM
import Derived.Shelf.Strconv.Clone
import Derived.Shelf.Strings.Search1
import Derived.Ground.SlbCloneProg
import Derived.Shelf.Bytes.SlClone
import Derived.Test.YtbojnblececnhaaGreatDoorProg
namespace Go.Proofs
open Go.RowKit Sm
theorem Sm.info22 : (Tryz.prog.info? 0xa3).map (fun i => (i.zero, i.size, i.bytes)) = some (some (.int .u32 0), 1, 4) := by kernel_rfl
theorem Sm.plain22 : Tryz.prog.plainKey 0xa3 = true := by kernel_rfl
/-- an array of words is itself -/
theorem Sm.items_same (w : World) (d : Nat) (l : List (BitVec 32)) : ∀ is : List Nat, (∀ i ∈ is, i < l.length) → (Op.eqItems (d + 1) 0xa3 1 (wvs l) (wvs l) is).run Tryz.prog w = .ok true w
  | [], _ => by simp [Op.eqItems]
  | i :: is, h => by
    have hi := h i (by simp)
    have hx : (wvs l)[i * 1]? = some (.int .u32 (iv l[i])) := by simp [wvs, wl, hi, wv]
    have hp := run_part_plain (P := Tryz.prog) w plain22 hx
    have he := run_equalIn_int (P := Tryz.prog) w d 0xa3 .u32 .u32 (iv l[i]) (iv l[i]) Tryz.underlying163
    have hr := items_same w d l is (fun j hj => h j (by simp [hj]))
    simp only [Op.eqItems, Sem.run_bind, hp, he, hr, Result.andThen_ok, beq_self_eq_true, Bool.not_true, Bool.false_eq_true, if_false]
theorem Sm.arr_same (w : World) {t n : Nat} (l : List (BitVec 32)) (hu : Tryz.prog.underlying t = some (.array n 0xa3)) (hl : l.length = n) : (Op.equalIn 10000 t (.agg (wvs l)) (.agg (wvs l))).run Tryz.prog w = .ok true w := by
  obtain ⟨i, hi, _⟩ := info_parts info22
  have hc : Tryz.prog.cellsOf 0xa3 = 1 := by kernel_rfl
  rw [run_equalIn_array w 9999 (wvs l) (wvs l) hu hi, hc]
  exact items_same w 9998 l _ fun j hj => by rw [hl]; simpa using hj
theorem Sm.q4_same (q : Q4) (w : World) : (Op.equalIn 10000 0xbc (.agg #[.int .u32 (iv q.a), .int .u32 (iv q.b), .int .u32 (iv q.c), .int .u32 (iv q.d)]) (.agg #[.int .u32 (iv q.a), .int .u32 (iv q.b), .int .u32 (iv q.c), .int .u32 (iv q.d)])).run Tryz.prog w = .ok true w :=
  arr_same w [q.a, q.b, q.c, q.d] Tryz.underlying188 rfl
theorem Sm.mix_from {b v : World} (hb : Below b.heap.size b v) (q : Q4) (x y : BitVec 32) : Calls Tryz.prog 125 #[.agg q.cells, .int .u32 (iv x), .int .u32 (iv y)] v fun e w' => e = .returned (.agg (mixS q x y).cells) ∧ Below b.heap.size b w' :=
  (mix_any q x y v).mono fun _ _ ⟨h1, h2⟩ => ⟨h1, hb.trans (h2.mono hb.size)⟩
end Go.Proofs
namespace Go.Proofs
open Go.RowKit Sm
/-- where a part of a slice lies -/
def Sm.cutA (A : Option Addr) (lo c : Nat) : Option Addr := if c = lo then A else A.map (·.add lo)
theorem Sm.size5 (w : World) : (sizeOf 5).run Tryz.prog w = .ok 1 w := by kernel_rfl
theorem Sm.elem33 : Tryz.prog.elem 0x38 = 5 := by kernel_rfl
theorem Sm.und33 : Tryz.prog.underlying 0x38 = some (.slice (Tryz.prog.elem 0x38)) := by rw [elem33]; exact Tryz.underlying56
theorem Sm.cut_h (A : Option Addr) (n c hi : Nat) (hc : hi ≤ c) (w : World) : (Instr.sliceAt 0x38 (.slice A n c) none (some (.int .i64 (hi : Int))) none).run Tryz.prog w = .ok (.slice (cutA A 0 c) hi c) w := by
  rw [run_sliceAt_slice w 0x38 _ _ _ _ und33, run_slice_h w 0x38 A n c und33 .i64 _ (by omega) (by omega), elem33, size5]
  simp [sliced, cutA]
theorem Sm.cut_lh (A : Option Addr) (n c lo hi : Nat) (hl : lo ≤ hi) (hc : hi ≤ c) (w : World) : (Instr.sliceAt 0x38 (.slice A n c) (some (.int .i64 (lo : Int))) (some (.int .i64 (hi : Int))) none).run Tryz.prog w = .ok (.slice (cutA A lo c) (hi - lo) (c - lo)) w := by
  rw [run_sliceAt_slice w 0x38 _ _ _ _ und33, run_slice_lh w 0x38 A n c und33 .i64 .i64 _ _ (by omega) (by omega) (by omega), elem33, size5]
  simp [sliced, cutA]
theorem Sm.cut_l (A : Option Addr) (n c lo : Nat) (hl : lo ≤ n) (w : World) : (Instr.sliceAt 0x38 (.slice A n c) (some (.int .i64 (lo : Int))) none none).run Tryz.prog w = .ok (.slice (cutA A lo c) (n - lo) (c - lo)) w := by
  rw [run_sliceAt_slice w 0x38 _ _ _ _ und33, run_slice_l w 0x38 A n c und33 .i64 _ (by omega) (by omega), elem33, size5]
  simp [sliced, cutA]
theorem Sm.PtOK.cut {w : World} {g n c : Nat} {A : Option Addr} {l : List (BitVec 8)} (h : PtOK w g A n c l) (lo hi : Nat) (hl : lo ≤ hi) (hn : hi ≤ n) : PtOK w g (cutA A lo c) (hi - lo) (c - lo) ((l.take hi).drop lo) := by
  have h1 := h.len
  have h2 := h.room
  have h3 := h.most
  refine ⟨by simp; omega, by omega, by omega, fun h0 => ?_⟩
  simp at h0
  obtain ⟨b, off, rfl, hlt, hns, hcell⟩ := h.rd (by rw [List.length_map]; omega)
  refine ⟨b, off + lo, ?_, hlt, hns, fun j v hj => ?_⟩
  · rw [cutA, if_neg (by omega), Option.map_some, Addr.add_mid]
  · rw [Nat.add_assoc]
    refine hcell (lo + j) v ?_
    rw [List.getElem?_map] at hj ⊢
    rw [List.getElem?_drop, List.getElem?_take] at hj
    split at hj
    · exact hj
    · simp at hj
theorem Sm.pt_of_rd {w : World} {A : Option Addr} {n c : Nat} {l : List (BitVec 8)} (hl : l.length = n) (hn : n ≤ c) (hm : c ≤ 9223372036854775807) (hr : Rd w w.heap.size A l) (g : Nat) (hg : w.heap.size ≤ g) : PtOK w g A n c l := by
  refine ⟨hl, hn, hm, fun h0 => ?_⟩
  obtain ⟨b, off, rfl, hb, hc⟩ := hr (by rw [List.length_map] at h0; exact h0)
  refine ⟨b, off, rfl, hb, by omega, fun j v hj => ?_⟩
  rw [List.getElem?_map] at hj
  obtain ⟨x, hx, rfl⟩ := Option.map_eq_some_iff.1 hj
  exact hc j x hx
theorem Sm.rds_of_rd {w : World} {A : Option Addr} {l : List (BitVec 8)} (hr : Rd w w.heap.size A l) : Rds w (fun _ => False) A (l.map byteCell) := fun h0 => by
  obtain ⟨b, off, rfl, hb, hc⟩ := hr (by rw [List.length_map] at h0; exact h0)
  refine ⟨b, off, rfl, hb, id, fun j v hj => ?_⟩
  rw [List.getElem?_map] at hj
  obtain ⟨x, hx, rfl⟩ := Option.map_eq_some_iff.1 hj
  exact hc j x hx
/-- parts in a row of their own -/
theorem Sm.parts_ok {w w' : World} {N n : Nat} {ps : List Pt} (hrow : Blk w' N 0x38 (ps.map Pt.val).toArray) (hb : Below w.heap.size w w') (hl : ps.length = n) (hm : n ≤ 1000000) (g : Nat) (hg : g ≠ N) (h : ∀ p ∈ ps, PtOK w g p.A p.n p.c p.l) : PsOK w' g (some ⟨N, 0, none⟩) n ps := by
  refine ⟨hl, hm, fun _ => ⟨N, 0, rfl, hrow.lt, fun e => hg e.symm, fun j v hj => ?_⟩, fun p hp => (h p hp).keep hb⟩
  rw [Nat.zero_add, hrow.cell]
  simpa using hj
theorem Sm.row_new (w : World) (ps : List Pt) : Blk (w.alloc (.cells (ps.map Pt.val).toArray 0x38)) w.heap.size 0x38 (ps.map Pt.val).toArray := World.alloc_heap_new w _
end Go.Proofs
namespace Go.Proofs
open Go.RowKit Sm
/-- a part that came in -/
structure Sm.PtC (w : World) (p : Pt) : Prop where
  len : p.l.length = p.n
  room : p.n ≤ p.c
  most : p.c ≤ 9223372036854775807
  rd : Rd w w.heap.size p.A p.l
theorem Sm.PtC.below {w w' : World} {p : Pt} (h : PtC w p) (hb : Below w.heap.size w w') : PtC w' p := ⟨h.len, h.room, h.most, (h.rd.below hb).more hb.size⟩
theorem Sm.PtC.ok {w : World} {p : Pt} (h : PtC w p) (g : Nat) (hg : w.heap.size ≤ g) : PtOK w g p.A p.n p.c p.l := pt_of_rd h.len h.room h.most h.rd g hg
/-- parts that came in -/
structure Sm.PsC (w : World) (A : Option Addr) (n : Nat) (ps : List Pt) : Prop where
  len : ps.length = n
  rd : Rds w (fun _ => False) A (ps.map Pt.val)
  each : ∀ p ∈ ps, PtC w p
theorem Sm.PsC.below {w w' : World} {A : Option Addr} {n : Nat} {ps : List Pt} (h : PsC w A n ps) (hb : Below w.heap.size w w') : PsC w' A n ps := ⟨h.len, h.rd.below hb, fun p hp => (h.each p hp).below hb⟩
theorem Sm.PsC.ok {w : World} {A : Option Addr} {n : Nat} {ps : List Pt} (h : PsC w A n ps) (hn : n ≤ 1000000) (g : Nat) (hg : w.heap.size ≤ g) : PsOK w g A n ps := by
  refine ⟨h.len, hn, fun h0 => ?_, fun p hp => (h.each p hp).ok g hg⟩
  obtain ⟨b, off, rfl, hlt, _, hc⟩ := h.rd h0
  exact ⟨b, off, rfl, hlt, fun e => by omega, hc⟩
theorem Sm.PsC.at_ {w : World} {A : Option Addr} {n : Nat} {ps : List Pt} (h : PsC w A n ps) {k : Nat} (hk : k < ps.length) : ∃ b off, A = some ⟨b, off, none⟩ ∧ b < w.heap.size ∧ w.cell? ⟨b, off + k, none⟩ = some (.slice ps[k].A ps[k].n ps[k].c) := by
  obtain ⟨b, off, rfl, hlt, _, hc⟩ := h.rd (by rw [List.length_map]; omega)
  refine ⟨b, off, rfl, hlt, hc k _ ?_⟩
  rw [List.getElem?_map, List.getElem?_eq_getElem hk]
  rfl
theorem Sm.joinP_snoc (ps : List Pt) (k : Nat) (hk : k < ps.length) : joinP (ps.take (k + 1)) = joinP (ps.take k) ++ ps[k].l := by
  unfold joinP
  rw [List.take_succ_eq_append_getElem hk, List.flatMap_append]
  simp
theorem Sm.joinP_le (ps : List Pt) (m : Nat) (h : ∀ p ∈ ps, p.l.length ≤ m) : (joinP ps).length ≤ m * ps.length := by
  induction ps with
  | nil => simp [joinP]
  | cons p ps ih =>
    have h1 := h p (by simp)
    have h2 := ih fun q hq => h q (by simp [hq])
    have e : joinP (p :: ps) = p.l ++ joinP ps := rfl
    rw [e, List.length_append, List.length_cons, Nat.mul_succ]
    omega
theorem Sm.joinP_take_le (ps : List Pt) (k : Nat) (h : ∀ p ∈ ps.take k, p.l.length ≤ 200) (hk : k ≤ 20) : (joinP (ps.take k)).length ≤ 4000 := by
  have h1 := joinP_le (ps.take k) 200 h
  have h2 : (ps.take k).length ≤ k := by rw [List.length_take]; omega
  have := Nat.mul_le_mul_left 200 (Nat.le_trans h2 hk)
  omega
/-- few enough -/
def Sm.Few (m : Nat) (ps : List Pt) : Prop := ps.length ≤ m ∧ ∀ p ∈ ps, p.n ≤ 200
end Go.Proofs
namespace Go.Proofs.YtbojnblececnhaaGreatDoor
open Go Go.ChangeShapes Go.WideShapes Go.ChangeAt Go.WideMaps Go.WideElems Go.RowKit Go.Deep Sm
theorem c30 : Tryz.prog.cellsOf 0x38 = 1 := by kernel_rfl
set_option maxRecDepth 100000 in
theorem rd_of_cells {W : World} {a : Addr} {len : Nat} {zs : List Int} (hcell : ∀ i, i < zs.length → W.cell? (a.add i) = some (.int .u8 (zs.getD i 0))) (hwz : ∀ n ∈ zs, (Lit.int .u8 n).wf = true) :
    Rd W W.heap.size (some a) ((zs.take len).map (fun n => BitVec.ofNat 8 n.toNat)) := by
  intro h0
  have hp : 0 < zs.length := by simp at h0; omega
  obtain ⟨b, off, rfl, hc⟩ := ints_at hcell hp
  refine ⟨b, off, rfl, World.block_lt_of_cell? W _ (hc 0 hp), fun j c hj => ?_⟩
  rw [List.getElem?_map, List.getElem?_take] at hj
  split at hj
  · have hjz : j < zs.length := by
      rcases Nat.lt_or_ge j zs.length with h | h
      · exact h
      · rw [List.getElem?_eq_none h] at hj; simp at hj
    rw [List.getElem?_eq_getElem hjz] at hj
    simp only [Option.map_some, Option.some.injEq] at hj
    subst hj
    rw [hc j hjz, toIb (hwz _ (List.getElem_mem hjz))]
    congr 2
    simp [List.getD_eq_getElem?_getD, hjz]
  · simp at hj
set_option maxRecDepth 100000 in
/-- parts that came in -/
theorem open_psc {H : Type} {enc : TypeId × Value → H} {W : World} {base : Nat} {v : Value} {d : DataW H} {p : List MemPlace} (hok : Value.okWide Tryz.prog W .any base 0x7d v) (h : DataW.Trod enc Tryz.prog W 0 (fun _ => true) true 0x7d v d p) :
    ∃ A n c ps, v = .slice A n c ∧ n ≤ c ∧ n ≤ 9223372036854775807 ∧ PsC W A n ps := by
  obtain ⟨a0, len, cap, rfl⟩ := okWide_slice Tryz.underlying125 hok
  obtain ⟨fuel, hf⟩ := h
  rcases open_int_rows Tryz.underlying125 Tryz.underlying56 Tryz.underlying5 c30 c5 (cs := [.slice a0 len cap]) (by simpa [Value.cells] using hf) with ⟨hcs, _⟩ | ⟨a, len', cap', A, L, C, Z, hcs, _, hl, hm, _, hr⟩
  · simp only [List.cons.injEq, and_true] at hcs
    exact ⟨none, 0, 0, [], hcs, Nat.le_refl _, by omega, ⟨rfl, (fun h => absurd h (by simp)), fun q hq => by cases hq⟩⟩
  · simp only [List.cons.injEq, and_true] at hcs
    refine ⟨some a, len', cap', (List.range len').map (fun r => ⟨A r, L r, C r, ((Z r).take (L r)).map (fun n => BitVec.ofNat 8 n.toNat)⟩), hcs, hl, by unfold maxLen at hm; omega, ⟨by simp, ?_, ?_⟩⟩
    · intro h0
      have hp : 0 < len' := by simpa using h0
      have c0 := (hr 0 (by omega)).1
      obtain ⟨b, off, spot⟩ := a
      have hspot : spot = none := by simpa [Addr.add] using World.cell?_spot c0
      subst hspot
      have hb : b < W.heap.size := by
        have := World.block_lt_of_cell? W _ c0
        rw [Go.WideShapes.add_plain] at this
        exact this
      refine ⟨b, off, rfl, hb, id, fun j q hj => ?_⟩
      rw [List.getElem?_map, List.getElem?_map] at hj
      obtain ⟨r0, hr0, rfl⟩ := Option.map_eq_some_iff.1 hj
      obtain ⟨r, hr1, rfl⟩ := Option.map_eq_some_iff.1 hr0
      have hjl : j < len' := by have := (List.getElem?_eq_some_iff.1 hr1).1; simpa using this
      obtain rfl : j = r := by rw [List.getElem?_range hjl] at hr1; exact Option.some.inj hr1
      have := (hr j (by omega)).1
      rw [Go.WideShapes.add_plain] at this
      exact this
    · intro q hq
      obtain ⟨r, hr1, rfl⟩ := List.mem_map.1 hq
      have hrl : r < len' := by simpa using hr1
      obtain ⟨_, h2, h3, h4, h5, h6, h7⟩ := hr r (by omega)
      refine ⟨by simp; omega, by show L r ≤ C r; omega, by show C r ≤ 9223372036854775807; unfold maxLen at h3; omega, ?_⟩
      rcases hA : A r with _ | a'
      · have hc0 := h6 hA
        intro hpos
        simp at hpos
        omega
      · exact rd_of_cells (fun i hi => (h7 a' hA).2 i (by omega)) h5
end Go.Proofs.YtbojnblececnhaaGreatDoor
namespace Go.Proofs
open Go.Shelf
def Tryz.lays137_ren : Go.Shelf.Ren := ⟨fun | 137 => 65 | 217 => 85 | 266 => 93 | n => n, fun | 9 => 9 | 5 => 5 | 3 => 3 | n => n, fun | n => n⟩
theorem Tryz.lays137 : Go.Proofs.Lays.n137 Tryz.prog Tryz.lays137_ren := {
  mixed := by kernel_rfl
  f137 := Tryz.func65.trans (congrArg some (by kernel_rfl))
  f217 := Tryz.func85.trans (congrArg some (by kernel_rfl))
  f266 := Tryz.func93.trans (congrArg some (by kernel_rfl))
  t3 := Tryz.underlying3
  a3 := Tryz.isAgg3
  z3 := Tryz.sizeOf3
  v3 := Tryz.zeroValue3
  t5 := Tryz.underlying5
  a5 := Tryz.isAgg5
  z5 := Tryz.sizeOf5
  v5 := Tryz.zeroValue5
  t9 := Tryz.underlying9
  a9 := Tryz.isAgg9
  z9 := Tryz.sizeOf9
  v9 := Tryz.zeroValue9 }
open Go.RowKit in
/-- strings.IndexByte: "IndexByte returns the index of the first instance of c in s, or -1 if c is not present in s.": IT RETURNS 'Lib.indexByte s c'; the world is as it was. (LAID: no walk: one application.) -/
theorem Tryz.strings_IndexByte (s : ByteArray) (c : Int) (w : World) :
    Calls Tryz.prog 65 #[.string s, .int .u8 c] w fun e w' => e = .returned (.int .i64 (Lib.indexByte s.data.toList c.toNat.toUInt8)) ∧ w' = w := Any.strings_IndexByte Tryz.lays137 s c w
def Tryz.laysM316_ren : Go.Shelf.Ren := ⟨fun | 316 => 86 | n => n, fun | 9 => 9 | 3 => 3 | 4 => 4 | 37 => 56 | 0 => 0 | 127 => 146 | 5 => 5 | n => n, fun | n => n⟩
theorem Tryz.laysM316 : Go.Proofs.LaysM.n316 Tryz.prog Tryz.laysM316_ren := {
  mixed := by kernel_rfl
  f316 := Tryz.func86.trans (congrArg some (by kernel_rfl))
  t0 := Tryz.underlying0
  a0 := Tryz.isAgg0
  z0 := Tryz.sizeOf0
  v0 := Tryz.zeroValue0
  t3 := Tryz.underlying3
  a3 := Tryz.isAgg3
  z3 := Tryz.sizeOf3
  v3 := Tryz.zeroValue3
  t4 := Tryz.underlying4
  a4 := Tryz.isAgg4
  z4 := Tryz.sizeOf4
  v4 := Tryz.zeroValue4
  t9 := Tryz.underlying9
  a9 := Tryz.isAgg9
  z9 := Tryz.sizeOf9
  v9 := Tryz.zeroValue9
  t37 := Tryz.underlying56
  a37 := Tryz.isAgg56
  z37 := Tryz.sizeOf56
  v37 := Tryz.zeroValue56
  t127 := Tryz.underlying146
  a127 := Tryz.isAgg146
  z127 := Tryz.sizeOf146
  v127 := Tryz.zeroValue146
  t5 := Tryz.underlying5
  a5 := Tryz.isAgg5
  z5 := Tryz.sizeOf5
  v5 := Tryz.zeroValue5
  i0 := by kernel_rfl
  i3 := by kernel_rfl
  i4 := by kernel_rfl
  i5 := by kernel_rfl
  i9 := by kernel_rfl
  i37 := by kernel_rfl
  i127 := by kernel_rfl }
open Go.RowKit in
/-- internal/stringslite.Clone (what strings.Clone calls): "Clone returns a fresh copy of s.": THE SAME BYTES. Of what was there nothing has turned (a new row is laid, and frozen, where s is not empty). (LAID: no walk: one application.) -/
theorem Tryz.stringslite_Clone (s : ByteArray) (w : World) (hlim : s.size ≤ 281474976710656) :
    Calls Tryz.prog 86 #[.string s] w fun e w' => e = .returned (.string s) ∧ Below w.heap.size w w' := Any.stringslite_Clone Tryz.laysM316 s w hlim
def Tryz.lays217_ren : Go.Shelf.Ren := ⟨fun | 217 => 85 | 266 => 93 | n => n, fun | 9 => 9 | 5 => 5 | 3 => 3 | n => n, fun | n => n⟩
theorem Tryz.lays217 : Go.Proofs.Lays.n217 Tryz.prog Tryz.lays217_ren := {
  mixed := by kernel_rfl
  f217 := Tryz.func85.trans (congrArg some (by kernel_rfl))
  f266 := Tryz.func93.trans (congrArg some (by kernel_rfl))
  t3 := Tryz.underlying3
  a3 := Tryz.isAgg3
  z3 := Tryz.sizeOf3
  v3 := Tryz.zeroValue3
  t5 := Tryz.underlying5
  a5 := Tryz.isAgg5
  z5 := Tryz.sizeOf5
  v5 := Tryz.zeroValue5
  t9 := Tryz.underlying9
  a9 := Tryz.isAgg9
  z9 := Tryz.sizeOf9
  v9 := Tryz.zeroValue9 }
open Go.RowKit Go.Lib in
/-- internal/stringslite.IndexByte (what strings.IndexByte calls): IT RETURNS 'Lib.indexByte s c'; the world is as it was. (LAID: no walk: one application.) -/
theorem Tryz.stringslite_IndexByte (s : ByteArray) (c : Int) (w : World) :
    Calls Tryz.prog 85 #[.string s, .int .u8 c] w fun e w' => e = .returned (.int .i64 (Lib.indexByte s.data.toList c.toNat.toUInt8)) ∧ w' = w := Any.stringslite_IndexByte Tryz.lays217 s c w
def Tryz.laysSlK4_ren : Go.Shelf.Ren := ⟨fun | 4 => 77 | n => n, fun | 22 => 56 | 4 => 4 | 5 => 5 | n => n, fun | n => n⟩
theorem Tryz.laysSlK4 : Go.Proofs.SlLaysK.n4 Tryz.prog Tryz.laysSlK4_ren := {
  mixed := by kernel_rfl
  f4 := Tryz.func77.trans (congrArg some (by kernel_rfl))
  t4 := Tryz.underlying4
  a4 := Tryz.isAgg4
  z4 := Tryz.sizeOf4
  v4 := Tryz.zeroValue4
  t22 := Tryz.underlying56
  a22 := Tryz.isAgg56
  z22 := Tryz.sizeOf56
  v22 := Tryz.zeroValue56
  t5 := Tryz.underlying5
  i5 := by kernel_rfl }
open Go.RowKit Go.Lib in
/-- bytes.Clone: "Clone returns a copy of b[:len(b)]. The result may have additional unused capacity.": OF A SLICE THAT IS NOT nil IT RETURNS A SLICE THAT IS NOT nil, OF THE SAME BYTES, IN MEMORY OF THE CALL's OWN: in the how-to's words (6f): 'w'.ownsRow B e 1 v' n cells' · 'Below B w w'', B the heap's size at the call. b AT WHATEVER ADDRESS, its cells as 'open_ints' hands them ('a.add i'; the numbers 'xs'). No byte: no cell is asked for. (LAID: no walk: one application.) -/
theorem Tryz.bytes_Clone_at (a : Addr) (n c : Nat) (xs : List Int) (w : World) (hx : xs.length = n) (hbig : n ≤ 140737488355328) (hc : ∀ i, i < n → w.cell? (a.add i) = some (.int .u8 (xs.getD i 0))) :
    Calls Tryz.prog 77 #[.slice (some a) n c] w fun e w' => ∃ v', e = .returned v' ∧ w'.ownsRow w.heap.size 5 1 v' n (xs.map (Value.int .u8)) ∧ v' ≠ .slice none 0 0 ∧ Below w.heap.size w w' := Any.bytes_Clone_at Tryz.laysSlK4 a n c xs w hx hbig hc
open Go.RowKit Go.Lib in
/-- "Clone(nil) returns nil.": the world is as it was. (LAID: no walk: one application.) -/
theorem Tryz.bytes_Clone_nil (n c : Nat) (w : World) :
    Calls Tryz.prog 77 #[.slice none n c] w fun e w' => e = .returned (.slice none 0 0) ∧ w' = w := Any.bytes_Clone_nil Tryz.laysSlK4 n c w
end Go.Proofs
