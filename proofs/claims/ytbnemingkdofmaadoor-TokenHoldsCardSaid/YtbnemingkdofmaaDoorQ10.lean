/-
  The contracts of Sum, and of New and Keyed where they refuse.
  The contract of works: the rows of the chapter hold.
  The frame of the laws of this seat: what the listed tables give the walks, and a law that returns true leaves its arguments as they were.
  Opening of arguments of these laws: arrays of words and of bytes, words, numbers and bytes as the walks take them. Conditions: what the frame says of an argument that can be read.
-/
import Derived.Test.YtbnemingkdofmaaDoorQ09
import Derived.Lib.SlBytesConst
import Derived.Test.YtbnemingkdofmaaDoorQ00
import Derived.Test.YtbnemingkdofmaaDoorRows
import Derived.Test.YtbnemingkdofmaaDoorTie
import Derived.Test.YtbnemingkdofmaaDoorCards
import Derived.ProofKit
import Derived.LaidMore
import Derived.OpenShut
import Derived.Lib.LaidTab
import Derived.Stop.Joined
import Derived.SevenTiedAt
namespace Go.Proofs
open Go.RowKit Sm
/-- the 32 bytes of the sum -/
def Sm.hashW (size : Nat) (key b : List (BitVec 8)) : List (BitVec 8) := digest (endS (takeS (startS size key) b).ws (takeS (startS size key) b).p (takeS (startS size key) b).cur)
theorem Sm.startS_ws (size : Nat) (key : List (BitVec 8)) : (startS size key).ws.length = 8 := by unfold startS; simp [beginL]
theorem Sm.startS_cur (size : Nat) (key : List (BitVec 8)) (h : key.length ≤ 64) : (startS size key).cur.length ≤ 64 := by
  unfold startS
  simp only
  split
  · simp
  · rw [pad_length key h]; omega
theorem Sm.outK32 (l : List (BitVec 32)) : (digest l).length = 32 := outK_length l 32
theorem Sm.hashW_length (size : Nat) (key b : List (BitVec 8)) : (hashW size key b).length = 32 := outK32 _
set_option maxRecDepth 100000 in
set_option maxHeartbeats 4000000 in
theorem Sm.Sum_any (A : Option Addr) (n c : Nat) (ps : List Pt) (w : World) (hps : ∀ g, w.heap.size ≤ g → PsOK w g A n ps) (hr : n ≤ c) (ht : Tabs w) (hp : (joinP ps).length ≤ 100000) :
    Calls Tryd.prog 73 #[.slice A n c] w fun e w' => e = .returned (.agg (bvs (hashW 32 [] (joinP ps)))) ∧ Below w.heap.size w w' := by
  obtain ⟨W1, hW1⟩ : ∃ W1, w.alloc (.cells (bvs (List.replicate 32 0#8)) 0x62) = W1 := ⟨_, rfl⟩
  have hb1 : Below w.heap.size w W1 := by rw [← hW1]; exact (Below.refl _ w).alloc (Nat.le_refl _) _
  have hr1 : Blk W1 w.heap.size 0x62 (bvs (List.replicate 32 0#8)) := by rw [← hW1]; exact Blk.new w 0x62 _
  have hst := start_nil 32 0 none W1 (ht.keep hb1) (by decide)
  rw [show ((32 : Nat) : Int) = 32 from rfl] at hst
  obtain ⟨s, hs⟩ : ∃ s, startS 32 [] = s := ⟨_, rfl⟩
  rw [hs] at hst
  have hsw : s.ws.length = 8 := by rw [← hs]; exact startS_ws 32 []
  have hsc : s.cur.length = 0 := by rw [← hs]; rfl
  have hsp : s.p = 0 := by rw [← hs]; rfl
  have hz52 := (zero_of_info z52').1
  have HSs := Lib.hid hs
  have HSW := Lib.hid hsw
  have HSC := Lib.hid hsc
  have HSP := Lib.hid hsp
  have HST := Lib.hid hst
  have HR1 := Lib.hid hr1
  clear hs hsw hsc hsp hst hr1
  go_enter Tryd.func73, Tryd.ntmps73
  go_upto_region 1 with fail
  rw [zu32_eq, hW1]
  clear hW1
  go_upto_region 2 with (first
    | (go_at_call 82; (with_reducible refine HST.out.mono ?_); rintro e w2 ⟨rfl, hb2⟩)
    | (refine wpList_store_row rfl 0x8b _ _ rfl w2.heap.size (stc s.ws 0 (pad s.cur) s.cur.length).toArray rfl rfl 0x8b (stc z8 0 z64 0).toArray (World.alloc_heap_new w2 _) (by rw [List.size_toArray]; exact i52 _ _ _ _ HSW.out (pad_length _ (by rw [HSC.out]; decide))) (stc_sz (by rfl) z64_length HSW.out (pad_length _ (by rw [HSC.out]; decide))) (all_oneCell_toArray (stc_one _ _ _ _)) ?_))
  obtain ⟨g, hg⟩ : ∃ g, w2.heap.size = g := ⟨_, rfl⟩
  obtain ⟨W3, hW3⟩ : ∃ W3, (w2.alloc (.cells (stc z8 0 z64 0).toArray 0x8b)).setRow w2.heap.size (stc s.ws 0 (pad s.cur) s.cur.length).toArray = W3 := ⟨_, rfl⟩
  have hbW : Below w.heap.size w W3 := by
    rw [← hW3]
    have hb12 := hb1.trans (hb2.mono hb1.size)
    exact below_setRow (hb12.alloc hb12.size _) hb12.size _
  have hst3 : St W3 g 0x8b s.ws 0 (pad s.cur) s.cur.length [] := by
    refine St.of_nil ?_ HSW.out (pad_length _ (by rw [HSC.out]; decide))
    rw [← hW3, ← hg]
    exact setRow_heap _ _ _ _ _ _ (World.alloc_heap_new w2 _)
  have hgw : w.heap.size < g := by
    have h1 := HR1.out.lt
    have h2 := hb2.size
    omega
  have hr3 : Blk W3 w.heap.size 0x62 (bvs (List.replicate 32 0#8)) := by
    rw [← hW3]
    exact (setRow_other _ _ _ _ (by omega)).trans ((HR1.out.keep hb2).alloc _)
  rw [hW3, hg]
  have htk := take_any g 0x8b s.ws 0 s.cur [] A n c ps W3 hst3 (by rw [HSC.out]; decide) ((hps g (by omega)).keep hbW) hr (by have := ht.size; omega) (ht.keep hbW) (by rw [List.length_append, HSC.out]; omega)
  have hse : (⟨s.ws, 0, s.cur⟩ : Sm.HS) = s := by rw [← HSP.out]
  rw [hse] at htk
  have HTK := Lib.hid htk
  have HR3 := Lib.hid hr3
  clear hg hW3 hst3 hr3 htk hse
  go_upto_region 3 with (go_at_call 83; (with_reducible refine HTK.out.mono ?_); rintro e w4 ⟨⟨v4, rfl⟩, hst4, hbt4⟩)
  have hb4 : Below w.heap.size w w4 := hbW.trans (hbt4.to_below hbW.size (fun b e => by omega))
  have hcl4 := takeS_cur_le s (joinP ps)
  have hwl4 : (takeS s (joinP ps)).ws.length = 8 := by rw [takeS_ws, HSW.out]
  have hct4 := takeS_count s (joinP ps)
  have hhash : digest (endS (takeS s (joinP ps)).ws (takeS s (joinP ps)).p (takeS s (joinP ps)).cur) = hashW 32 [] (joinP ps) := by unfold hashW; rw [HSs.out]
  obtain ⟨f, hf⟩ : ∃ f, takeS s (joinP ps) = f := ⟨_, rfl⟩
  rw [hf] at hst4 hcl4 hwl4 hct4 hhash
  have hr4 := HR3.out.but hbt4 (by omega)
  have hen := end_any f.ws f.p f.cur w4 hwl4 hcl4 (by rw [HSP.out, HSC.out] at hct4; omega) (ht.keep hb4)
  rw [hhash] at hen
  obtain ⟨D, hD⟩ : ∃ D, hashW 32 [] (joinP ps) = D := ⟨_, rfl⟩
  have hDl : D.length = 32 := by rw [← hD]; exact hashW_length ..
  rw [hD] at hen
  unfold StH at hst4
  have HD := Lib.hid hD
  have HDL := Lib.hid hDl
  have HEN := Lib.hid hen
  have HST4 := Lib.hid hst4
  have HR4 := Lib.hid hr4
  have HWL4 := Lib.hid hwl4
  have HCL4 := Lib.hid hcl4
  have h32 : Hid ((bvs (List.replicate 32 0#8)).size = (bvs D).size) := Lib.hid (by rw [bvs_size, bvs_size, hDl]; rfl)
  clear hf hst4 hcl4 hwl4 hct4 hhash hr4 hen hD hDl HTK HST
  go_wp2_with (first
    | (refine wpList_load_mid rfl 0x8b _ rfl g 0 rfl (stc f.ws f.p (pad f.cur) f.cur.length) _ HST4.out.rangeAll Tryd.underlying139 rfl (i52 _ _ _ _ HWL4.out (pad_length _ HCL4.out)) ?_)
    | (go_at_call 84; (with_reducible refine HEN.out.mono ?_); rintro e w5 ⟨rfl, hb5⟩)
    | (refine wpList_store_row rfl 0x62 _ _ rfl w.heap.size (bvs D) rfl rfl 0x62 _ (HR4.out.keep hb5) (i36 D HDL.out) h32.out (bvs_one D) ?_))
  refine bodyPost_ret (results_cell_row rfl _ _ w.heap.size 0x62 (bvs D) (0, 0) _ rfl (setRow_heap _ _ _ _ _ _ (HR4.out.keep hb5)) Tryd.underlying98 rfl (i36 D HDL.out)) rfl ⟨by rw [HD.out], below_setRow (hb4.trans (hb5.mono hb4.size)) (Nat.le_refl _) _⟩
set_option maxHeartbeats 1000000 in
theorem Sm.New_no (size : Int) (n c : Nat) (A : Option Addr) (w : World) (hn : n ≤ 1000000) (h : size < 1 ∨ 32 < size ∨ 32 < n) : Calls Tryd.prog 77 #[.int .i64 size, .slice A n c] w fun e w' => e = .returned (.tuple #[.pointer none, .int .i64 2]) ∧ w = w' := by
  by_cases h1 : size < 1
  · go_enter Tryd.func77, Tryd.ntmps77
    go_wp2
    go_ret2
    exact ⟨rfl, rfl⟩
  · by_cases h2 : 32 < size
    · go_enter Tryd.func77, Tryd.ntmps77
      go_wp2
      go_ret2
      exact ⟨rfl, rfl⟩
    · have h3 : 32 < n := by omega
      go_enter Tryd.func77, Tryd.ntmps77
      go_wp2
      go_ret2
      exact ⟨rfl, rfl⟩
end Go.Proofs
namespace Go.Proofs
open Go.RowKit Sm
def Sm.bA : List (BitVec 8) := [97#8]
def Sm.bB : List (BitVec 8) := [98#8, 99#8]
theorem Sm.hash_abc : (hashW 32 [] (bA ++ bB)).take 8 = [80#8, 140#8, 94#8, 140#8, 50#8, 124#8, 20#8, 226#8] := by decide +kernel
theorem Sm.hash_none : (hashW 32 [] []).take 8 = [105#8, 33#8, 122#8, 48#8, 121#8, 144#8, 128#8, 148#8] := by decide +kernel
theorem Sm.str_abc : (strB [80#8, 140#8, 94#8, 140#8, 50#8, 124#8, 20#8, 226#8]).toList = [80, 140, 94, 140, 50, 124, 20, 226] := by rw [ByteArray.toList_eq]; rfl
theorem Sm.str_none : (strB [105#8, 33#8, 122#8, 48#8, 121#8, 144#8, 128#8, 148#8]).toList = [105, 33, 122, 48, 121, 144, 128, 148] := by rw [ByteArray.toList_eq]; rfl
theorem Sm.ps_abc (w : World) (a b n : Nat) (h : w.cell? ⟨a, 0, none⟩ = some (.int .u8 97)) (k0 : w.cell? ⟨b, 0, none⟩ = some (.int .u8 98)) (k1 : w.cell? ⟨b, 1, none⟩ = some (.int .u8 99)) (l0 : w.cell? ⟨n, 0, none⟩ = some (.slice (some ⟨a, 0, none⟩) 1 1)) (l1 : w.cell? ⟨n, 1, none⟩ = some (.slice (some ⟨b, 0, none⟩) 2 2)) (g : Nat) (hg : w.heap.size ≤ g) :
    PsOK w g (some ⟨n, 0, none⟩) 2 [⟨some ⟨a, 0, none⟩, 1, 1, bA⟩, ⟨some ⟨b, 0, none⟩, 2, 2, bB⟩] := by
  have ha := World.block_lt_of_cell? w _ h
  have hb := World.block_lt_of_cell? w _ k0
  have hn := World.block_lt_of_cell? w _ l0
  simp only at ha hb hn
  refine ⟨rfl, by omega, fun _ => ⟨n, 0, rfl, hn, by omega, fun j v hj => ?_⟩, fun p hp => ?_⟩
  · rcases j with _ | _ | j
    · simp [Pt.val] at hj; subst hj; exact l0
    · simp [Pt.val] at hj; subst hj; exact l1
    · simp at hj
  · simp only [List.mem_cons, List.not_mem_nil, or_false] at hp
    rcases hp with rfl | rfl
    · refine ⟨rfl, by show 1 ≤ 1; omega, by show 1 ≤ _; omega, fun _ => ⟨a, 0, rfl, ha, by omega, fun j v hj => ?_⟩⟩
      rcases j with _ | j
      · simp [bA, byteCell, ib] at hj; subst hj; exact h
      · simp [bA] at hj
    · refine ⟨rfl, by show 2 ≤ 2; omega, by show 2 ≤ _; omega, fun _ => ⟨b, 0, rfl, hb, by omega, fun j v hj => ?_⟩⟩
      rcases j with _ | _ | j
      · simp [bB, byteCell, ib] at hj; subst hj; exact k0
      · simp [bB, byteCell, ib] at hj; subst hj; exact k1
      · simp [bB] at hj
theorem Sm.ps_nil (w : World) (g : Nat) : PsOK w g none 0 [] := ⟨rfl, by omega, fun h => by simp at h, fun p hp => by simp at hp⟩
theorem Sm.info5 : (Tryd.prog.info? 5).map (fun i => (i.zero, i.size, i.bytes)) = some (some (.int .u8 0), 1, 1) := by kernel_rfl
theorem Sm.slice32_h (b h : Nat) (hI : Int) (e : hI = h) (hh : h ≤ 32) (w : World) :
    (Instr.sliceAt 0x62 (.pointer (some ⟨b, 0, none⟩)) none (some (.int .i64 hI)) none).run Tryd.prog w = .ok (.slice (some ⟨b, 0, none⟩) h 32) w := by
  subst e
  have hu : Tryd.prog.underlying 0x62 = some (.array (Tryd.prog.arrayLen 0x62) (Tryd.prog.elem 0x62)) := by kernel_rfl
  have ha : Tryd.prog.arrayLen 0x62 = 32 := by kernel_rfl
  have he : Tryd.prog.elem 0x62 = 5 := by kernel_rfl
  have hs : ∀ w, (sizeOf 5).run Tryd.prog w = .ok 1 w := fun _ => by kernel_rfl
  rw [run_sliceAt_array_h w 0x62 ⟨b, 0, none⟩ hu .i64 _ (by omega) (by rw [ha]; omega), he, hs]
  simp only [Result.andThen_ok, slicedAt, ha, Int.toNat_natCast, Nat.zero_mul]
  rw [if_neg (by omega), Addr.add_mid]
  rfl
theorem Sm.Blk.rd {w : World} {b : Nat} {t : TypeId} {l : List (BitVec 8)} (h : Blk w b t (bvs l)) {B : Nat} (hB : b < B) : Rd w B (some ⟨b, 0, none⟩) l := fun _ => ⟨b, 0, rfl, hB, fun j c hj => by
  rw [Nat.zero_add, h.cell]
  simp [bvs, hj, byteCell]⟩
theorem Sm.join_abc : joinP [⟨some ⟨0, 0, none⟩, 1, 1, bA⟩, ⟨some ⟨0, 0, none⟩, 2, 2, bB⟩] = bA ++ bB := rfl
end Go.Proofs
namespace Go.Proofs.Sm
open Go.RowKit
/-- cells that are told piece by piece -/
theorem pieces {m : Nat} (f : List Nat → List Value) : ∀ (zss : List (List Nat)) (cs : List Value), cs.length = zss.length * m →
    (∀ i zs, zss[i]? = some zs → (cs.drop (i * m)).take m = f zs) → cs = zss.flatMap f
  | [], cs, hl, _ => by simp at hl; simp [hl]
  | z :: r, cs, hl, h => by
    have h0 := h 0 z rfl
    simp only [Nat.zero_mul, List.drop_zero] at h0
    have hr := pieces (m := m) f r (cs.drop m) (by simp [hl, Nat.succ_mul]) fun i zs hi => by
      have := h (i + 1) zs hi
      rw [Nat.succ_mul] at this
      rw [List.drop_drop, Nat.add_comm m]
      exact this
    rw [List.flatMap_cons, ← hr, ← h0, List.take_append_drop]
/-- an array of arrays of small numbers holds them, row behind row -/
theorem cells_of_nest {H : Type} {enc : TypeId × Value → H} {P : Program} {w : World} {base : Nat} {sp : Nat → Bool} {held : Bool} {fuel : Nat} {t u e : TypeId} {n m : Nat} {cs : List Value} {zss : List (List Nat)} {p : List MemPlace}
    (ht : P.underlying t = some (.array n u)) (hu : P.underlying u = some (.array m e)) (he : P.underlying e = some (.int .u8)) (hce : P.cellsOf e = 1) (hcu : P.cellsOf u = m) (hct : P.cellsOf t = n * m)
    (h : DataW.trod enc P w base sp held fuel t cs = some (.agg (zss.map fun zs => Lib.tabData .u8 (zs.map Int.ofNat)), p)) : cs = zss.flatMap ol := by
  cases fuel with
  | zero => simp [DataW.trod] at h
  | succ fuel =>
    simp only [DataW.trod, ht, hcu, hct] at h
    split at h
    · rename_i hl
      obtain ⟨xs, hm, hx⟩ := Option.map_eq_some_iff.1 h
      have hxs : xs.map (·.1) = zss.map fun zs => (Lib.tabData .u8 (zs.map Int.ofNat) : DataW H) := by
        have := congrArg Prod.fst hx
        simpa using this
      have hxl : xs.length = n := by simpa using Lib.mapM_length hm
      have hzl : zss.length = n := by
        have := congrArg List.length hxs
        simp at this
        omega
      refine pieces (m := m) ol zss cs (by rw [hl, hzl]) fun i zs hi => ?_
      have hin : i < n := by rw [← hzl]; exact (List.getElem?_eq_some_iff.1 hi).1
      obtain ⟨b, hb, hf⟩ := Lib.mapM_at hm i i (by simp [hin])
      have h2 : (xs.map (·.1))[i]? = some b.1 := by simp [hb]
      rw [hxs, List.getElem?_map, hi] at h2
      have h3 : b = (Lib.tabData .u8 (zs.map Int.ofNat), b.2) := by
        have := Option.some.inj h2
        exact Prod.ext this.symm rfl
      rw [h3] at hf
      have := Lib.cells_of_tab hu he hce hcu hf
      rw [this, List.map_map]
      rfl
    · cases h
end Go.Proofs.Sm
namespace Go.Proofs.YtbnemingkdofmaaDoor
open Go Go.ChangeShapes Go.WideShapes Go.ChangeAt Go.WideMaps Go.WideElems Go.RowKit Sm
theorem own : ownKnob Tryd.prog.godebug = none := by kernel_rfl
theorem laidOut : laidOutB Tryd.prog = true := by kernel_rfl
theorem gBegin : Tryd.prog.globalNamed "antiphon/blake.begin" = some 1 := by kernel_rfl
theorem gOrders : Tryd.prog.globalNamed "antiphon/blake.orders" = some 2 := by kernel_rfl
theorem gMixed : Tryd.prog.globalNamed "antiphon/blake.mixed" = some 3 := by kernel_rfl
theorem tBegin : (Tryd.prog.globals[1]?).map (·.type) = some 0x86 := by kernel_rfl
theorem tOrders : (Tryd.prog.globals[2]?).map (·.type) = some 0x9c := by kernel_rfl
theorem tMixed : (Tryd.prog.globals[3]?).map (·.type) = some 0x9f := by kernel_rfl
theorem c5 : Tryd.prog.cellsOf 5 = 1 := by kernel_rfl
theorem c22 : Tryd.prog.cellsOf 0x85 = 1 := by kernel_rfl
theorem c23 : Tryd.prog.cellsOf 0xa0 = 4 := by kernel_rfl
theorem c27 : Tryd.prog.cellsOf 0x86 = 8 := by kernel_rfl
theorem c66 : Tryd.prog.cellsOf 0x9b = 16 := by kernel_rfl
theorem c67 : Tryd.prog.cellsOf 0x9c = 10 * 16 := by kernel_rfl
theorem c77 : Tryd.prog.cellsOf 0x9e = 4 := by kernel_rfl
theorem c78 : Tryd.prog.cellsOf 0x9f = 8 * 4 := by kernel_rfl
/-- what the rows list -/
abbrev laidL : List (String × DataW Unit) := [("antiphon/blake.begin", Rows.laid_antiphon_blake_begin), ("antiphon/blake.orders", Rows.laid_antiphon_blake_orders), ("antiphon/blake.mixed", Rows.laid_antiphon_blake_mixed)]
/-- the heap that the initialisers leave meets the condition -/
theorem door_met (os : Os) (args : Array Value) : laidMetH Tryd.prog laidL ((World.doorLaid Tryd.prog 400 os).forCall (fun _ _ => 0) ⟨#[], args, []⟩).memory :=
  laidMetH_of_parts3 (fuel := 8) (laidMet_of_run' 8 (by kernel_rfl) (by kernel_rfl)) (by kernel_rfl) (by kernel_rfl)
theorem begin_data {H : Type} : (Rows.laid_antiphon_blake_begin : DataW H) = Lib.tabData .u32 (beginL.map iv) := rfl
theorem orders_data {H : Type} : (Rows.laid_antiphon_blake_orders : DataW H) = .agg (orL.map fun zs => Lib.tabData .u8 (zs.map Int.ofNat)) := rfl
theorem mixed_data {H : Type} : (Rows.laid_antiphon_blake_mixed : DataW H) = .agg (mxL.map fun zs => Lib.tabData .u8 (zs.map Int.ofNat)) := rfl
theorem range_of_var {W : World} {name : String} {g : Nat} {cs : Array Value} (hg : Tryd.prog.globalNamed name = some g) (hv : W.var? Tryd.prog name = some cs) : W.rangeAt g 0 cs.toList := fun j v hj => by
  rw [World.var?_cell hg hv (0 + j), Nat.zero_add]
  simpa using hj
/-- what the condition gives the walks -/
theorem of_laid {W : World} (h : laidMetH Tryd.prog laidL W) : Tabs W := by
  rw [MakeChecks.laidMetH_plain _ _ _ (by kernel_rfl)] at h
  obtain ⟨ps, hvars, _⟩ := h
  obtain ⟨g0, t0, cs0, f0, p0, q0, hg0, ht0, hv0, hd0, hr0, _⟩ := hvars
  obtain ⟨g1, t1, cs1, f1, p1, q1, hg1, ht1, hv1, hd1, hr1, _⟩ := hr0
  obtain ⟨g2, t2, cs2, f2, p2, q2, hg2, ht2, hv2, hd2, _, _⟩ := hr1
  obtain rfl := Option.some.inj (gBegin.symm.trans hg0)
  obtain rfl := Option.some.inj (tBegin.symm.trans ht0)
  obtain rfl := Option.some.inj (gOrders.symm.trans hg1)
  obtain rfl := Option.some.inj (tOrders.symm.trans ht1)
  obtain rfl := Option.some.inj (gMixed.symm.trans hg2)
  obtain rfl := Option.some.inj (tMixed.symm.trans ht2)
  rw [begin_data] at hd0
  rw [orders_data] at hd1
  rw [mixed_data] at hd2
  have e0 := Lib.cells_of_tab Tryd.underlying134 Tryd.underlying133 c22 c27 hd0
  have e1 := cells_of_nest Tryd.underlying156 Tryd.underlying155 Tryd.underlying5 c5 c66 c67 hd1
  have e2 := cells_of_nest Tryd.underlying159 Tryd.underlying158 Tryd.underlying5 c5 c77 c78 hd2
  have r0 := range_of_var hg0 hv0
  have r1 := range_of_var hg1 hv1
  have r2 := range_of_var hg2 hv2
  rw [e0] at r0
  rw [e1] at r1
  rw [e2] at r2
  rw [List.map_map] at r0
  have hz : 3 < W.heap.size := World.block_lt_of_cell? W _ (r2 0 (o8 0) rfl)
  exact ⟨hz, r0, r1, r2⟩
/-- the arguments read behind the call as they read before -/
theorem args_below {H : Type} {enc : TypeId × Value → H} {W W' : World} (hb : Below W.heap.size W W') : ∀ {ts : List TypeId} {vs : List Value} {ds : List (DataW H)} {ps : List MemPlace},
    (∀ t ∈ ts, Tryd.prog.readableRec t = true ∧ t < Tryd.prog.types.size) → DataW.TrodAll enc Tryd.prog W 0 (fun _ => true) true ts vs ds ps → (∀ x ∈ ps, x.block < W.heap.size) →
    DataW.TrodAll enc Tryd.prog W' 0 (fun b => decide (b < W.heap.size)) true ts vs ds ps
  | [], vs, ds, ps, _, h, _ => by
    obtain ⟨rfl, rfl, rfl⟩ := trodAll_nil h
    exact trodAll_mk0
  | t :: ts, vs, ds, ps, hr, h, hlt => by
    obtain ⟨v, vs', d, ds', p, q, rfl, rfl, rfl, h1, h2⟩ := trodAll_cons h
    obtain ⟨hr1, hr2⟩ := hr t (List.mem_cons_self ..)
    exact trodAll_cons_mk (Below.trod laidOut hr1 hr2 h1 hb (fun x hx => hlt x (List.mem_append_left _ hx))) (args_below hb (fun u hu => hr u (List.mem_cons_of_mem _ hu)) h2 (fun x hx => hlt x (List.mem_append_right _ hx)))
/-- a law that returns true and leaves what lay as it lay -/
theorem law_post {H : Type} {enc : TypeId × Value → H} {f : Func} {s : ChangeSpec} {W W' : World} {args : Array Value} {ds : List (DataW H)} {before : List MemPlace}
    (hW : DataW.Whole enc Tryd.prog f.params.toList s.vars false W args.toList ds [] before) (hv : s.vars = [])
    (e1 : (s.fn H (ds ++ [])).results = [.lit (.bool true)]) (e2 : (s.fn H (ds ++ [])).args = ds) (e3 : (s.fn H (ds ++ [])).vars = [])
    (hrt : f.resultTypes = #[4]) (hr : ∀ t ∈ f.params.toList, Tryd.prog.readableRec t = true ∧ t < Tryd.prog.types.size) (hb : Below W.heap.size W W') :
    s.post enc Tryd.prog f false true false false W args (.bool true) W' := by
  have hlt := hW.lt
  obtain ⟨p, q, hA, hV, rfl, hz, hn⟩ := id hW
  rw [hv] at hV
  obtain ⟨_, rfl⟩ := trodVars_none hV
  refine ⟨ds, [], p ++ [], [], p, [], hW, ?_, ?_, ?_, hb.frame _, fun h => by cases h⟩
  · rw [e1, hrt]
    exact trodAll_mk1 (shut_bool Tryd.underlying4 true)
  · rw [e2]
    exact args_below hb hr hA (fun x hx => hlt x (List.mem_append_left _ hx))
  · rw [e3, hv]
    exact rfl
end Go.Proofs.YtbnemingkdofmaaDoor
namespace Go.Proofs.YtbnemingkdofmaaDoor
open Go Go.ChangeShapes Go.WideShapes Go.ChangeAt Go.WideMaps Go.WideElems Go.RowKit Sm
set_option maxRecDepth 100000 in
theorem c28 : Tryd.prog.cellsOf 0x68 = 64 := by kernel_rfl
theorem toIv {n : Int} (h : (Lit.int .u32 n).wf = true) : ∃ x : BitVec 32, n = iv x := by
  simp [Lit.wf, IntKind.min, IntKind.max, IntKind.signed, IntKind.bits] at h
  refine ⟨BitVec.ofNat 32 n.toNat, ?_⟩
  unfold iv
  simp
  omega
theorem toIb {n : Int} (h : (Lit.int .u8 n).wf = true) : ib (BitVec.ofNat 8 n.toNat) = n := by
  simp [Lit.wf, IntKind.min, IntKind.max, IntKind.signed, IntKind.bits] at h
  unfold ib
  simp
  omega
theorem bd64 {k : IntKind} {n : Int} (hk : k = .i64) (h : (Lit.int k n).wf = true) : -9223372036854775808 ≤ n ∧ n ≤ 9223372036854775807 := by
  subst hk
  simp [Lit.wf, IntKind.min, IntKind.max, IntKind.signed, IntKind.bits] at h
  omega
set_option maxRecDepth 100000 in
/-- an array of numbers that came in -/
theorem open_nums {H : Type} {enc : TypeId × Value → H} {W : World} {base : Nat} {t e n : Nat} {k : IntKind} {v : Value} {d : DataW H} {p : List MemPlace} (ht : Tryd.prog.underlying t = some (.array n e)) (he : Tryd.prog.underlying e = some (.int k)) (hce : Tryd.prog.cellsOf e = 1) (hct : Tryd.prog.cellsOf t = n)
    (hok : Value.okWide Tryd.prog W .any base t v) (h : DataW.Trod enc Tryd.prog W 0 (fun _ => true) true t v d p) :
    ∃ zs : List Int, zs.length = n ∧ v = .agg (zs.map (Value.int k)).toArray ∧ ∀ z ∈ zs, (Lit.int k z).wf = true := by
  obtain ⟨cs, rfl⟩ : ∃ cs, v = .agg cs := by
    unfold Value.okWide at hok
    rw [ht] at hok
    obtain ⟨cs, rfl, _⟩ := hok
    exact ⟨cs, rfl⟩
  obtain ⟨fuel, hf⟩ := h
  simp only [Value.cells] at hf
  cases fuel with
  | zero => simp [DataW.trod] at hf
  | succ fuel =>
    simp only [DataW.trod, ht, hce, hct, Nat.mul_one] at hf
    split at hf
    · rename_i hl
      obtain ⟨xs, hm, _⟩ := Option.map_eq_some_iff.1 hf
      have hxl : xs.length = n := by simpa using Lib.mapM_length hm
      have key : ∀ i, i < n → ∃ z, cs.toList[i]? = some (.int k z) ∧ (Lit.int k z).wf = true := by
        intro i hi
        obtain ⟨b, hb, hf⟩ := Lib.mapM_at hm i i (by simp [hi])
        obtain ⟨z, hc, _, hw⟩ := DataW.trod_int he hf
        refine ⟨z, ?_, hw⟩
        have := congrArg (·[0]?) hc
        simpa [List.getElem?_take, List.getElem?_drop] using this
      have hall : ∀ c ∈ cs.toList, ∃ z, c = .int k z ∧ (Lit.int k z).wf = true := by
        intro c hc
        obtain ⟨i, hi, rfl⟩ := List.mem_iff_getElem.1 hc
        obtain ⟨z, hz, hw⟩ := key i (by rw [← hl]; exact hi)
        rw [List.getElem?_eq_getElem hi] at hz
        exact ⟨z, Option.some.inj hz, hw⟩
      have make : ∀ l : List Value, (∀ c ∈ l, ∃ z, c = .int k z ∧ (Lit.int k z).wf = true) → ∃ zs : List Int, l = zs.map (Value.int k) ∧ ∀ z ∈ zs, (Lit.int k z).wf = true := by
        intro l
        induction l with
        | nil => intro _; exact ⟨[], rfl, by simp⟩
        | cons c l ih =>
          intro h
          obtain ⟨z, rfl, hw⟩ := h c (by simp)
          obtain ⟨zs, rfl, hz⟩ := ih fun c hc => h c (by simp [hc])
          refine ⟨z :: zs, rfl, fun y hy => ?_⟩
          rcases List.mem_cons.1 hy with rfl | hy
          · exact hw
          · exact hz y hy
      obtain ⟨zs, hzs, hw⟩ := make _ hall
      refine ⟨zs, ?_, ?_, hw⟩
      · have := congrArg List.length hzs; simp at this; simp at hl; omega
      · rw [← hzs]
    · cases hf
set_option maxRecDepth 100000 in
theorem words_of {zs : List Int} (h : ∀ z ∈ zs, (Lit.int .u32 z).wf = true) : ∃ l : List (BitVec 32), zs.map (Value.int .u32) = wl l ∧ l.length = zs.length := by
  induction zs with
  | nil => exact ⟨[], rfl, rfl⟩
  | cons z zs ih =>
    obtain ⟨l, e, hl⟩ := ih fun y hy => h y (by simp [hy])
    obtain ⟨x, rfl⟩ := toIv (h z (by simp))
    exact ⟨x :: l, by rw [List.map_cons, e]; rfl, by simp [hl]⟩
set_option maxRecDepth 100000 in
theorem octs_of {zs : List Int} (h : ∀ z ∈ zs, (Lit.int .u8 z).wf = true) : ∃ l : List (BitVec 8), zs.map (Value.int .u8) = l.map byteCell ∧ l.length = zs.length := by
  induction zs with
  | nil => exact ⟨[], rfl, rfl⟩
  | cons z zs ih =>
    obtain ⟨l, e, hl⟩ := ih fun y hy => h y (by simp [hy])
    exact ⟨BitVec.ofNat 8 z.toNat :: l, by rw [List.map_cons, e, List.map_cons, byteCell, toIb (h z (by simp))], by simp [hl]⟩
set_option maxRecDepth 100000 in
theorem open_words {H : Type} {enc : TypeId × Value → H} {W : World} {base : Nat} {t n : Nat} {v : Value} {d : DataW H} {p : List MemPlace} (ht : Tryd.prog.underlying t = some (.array n 0x85)) (hct : Tryd.prog.cellsOf t = n)
    (hok : Value.okWide Tryd.prog W .any base t v) (h : DataW.Trod enc Tryd.prog W 0 (fun _ => true) true t v d p) : ∃ l : List (BitVec 32), l.length = n ∧ v = .agg (wvs l) := by
  obtain ⟨zs, hl, rfl, hw⟩ := open_nums ht Tryd.underlying133 c22 hct hok h
  obtain ⟨l, e, hll⟩ := words_of hw
  exact ⟨l, by omega, by rw [e]; rfl⟩
set_option maxRecDepth 100000 in
theorem open_octs {H : Type} {enc : TypeId × Value → H} {W : World} {base : Nat} {t n : Nat} {v : Value} {d : DataW H} {p : List MemPlace} (ht : Tryd.prog.underlying t = some (.array n 5)) (hct : Tryd.prog.cellsOf t = n)
    (hok : Value.okWide Tryd.prog W .any base t v) (h : DataW.Trod enc Tryd.prog W 0 (fun _ => true) true t v d p) : ∃ l : List (BitVec 8), l.length = n ∧ v = .agg (l.map byteCell).toArray := by
  obtain ⟨zs, hl, rfl, hw⟩ := open_nums ht Tryd.underlying5 c5 hct hok h
  obtain ⟨l, e, hll⟩ := octs_of hw
  exact ⟨l, by omega, by rw [e]⟩
set_option maxRecDepth 100000 in
theorem open_q4 {H : Type} {enc : TypeId × Value → H} {W : World} {base : Nat} {v : Value} {d : DataW H} {p : List MemPlace} (hok : Value.okWide Tryd.prog W .any base 0xa0 v) (h : DataW.Trod enc Tryd.prog W 0 (fun _ => true) true 0xa0 v d p) : ∃ q : Q4, v = .agg q.cells := by
  obtain ⟨l, hl, rfl⟩ := open_words Tryd.underlying160 c23 hok h
  match l, hl with
  | [a, b, c, e], _ => exact ⟨⟨a, b, c, e⟩, rfl⟩
end Go.Proofs.YtbnemingkdofmaaDoor
