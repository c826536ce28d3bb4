/-
  The contract of works: the rows of the chapter hold.
  The frame of the laws of this seat: what the listed tables give the walks, and a law that returns true leaves its arguments as they were.
  Opening of arguments of these laws: arrays of words and of bytes, words, numbers and bytes as the walks take them. Conditions: what the frame says of an argument that can be read.
  Opening of bytes of these laws. Conditions: what the frame says of an argument that can be read.
  Append of readable bytes behind a row of the call's own.
-/
import Derived.Lib.SlBytesConst
import Derived.Test.YtbojnblececnhaaGreatDoorQ00
import Derived.Test.YtbojnblececnhaaGreatDoorQ06
import Derived.Test.YtbojnblececnhaaGreatDoorRows
import Derived.Test.YtbojnblececnhaaGreatDoorTie
import Derived.Test.YtbojnblececnhaaGreatDoorCards
import Derived.ProofKit
import Derived.LaidMore
import Derived.OpenShut
import Derived.Lib.LaidTab
import Derived.Stop.Joined
import Derived.SevenTiedAt
import Derived.Laws.CopyOwn
import Derived.Deep.AppendLies
namespace Go.Proofs
open Go.RowKit Sm
def Sm.bA : List (BitVec 8) := [97#8]
def Sm.bB : List (BitVec 8) := [98#8, 99#8]
theorem Sm.hash_abc : (hashW 32 [] (bA ++ bB)).take 8 = [80#8, 140#8, 94#8, 140#8, 50#8, 124#8, 20#8, 226#8] := by decide +kernel
theorem Sm.hash_none : (hashW 32 [] []).take 8 = [105#8, 33#8, 122#8, 48#8, 121#8, 144#8, 128#8, 148#8] := by decide +kernel
theorem Sm.str_abc : (strB [80#8, 140#8, 94#8, 140#8, 50#8, 124#8, 20#8, 226#8]).toList = [80, 140, 94, 140, 50, 124, 20, 226] := by rw [ByteArray.toList_eq]; rfl
theorem Sm.str_none : (strB [105#8, 33#8, 122#8, 48#8, 121#8, 144#8, 128#8, 148#8]).toList = [105, 33, 122, 48, 121, 144, 128, 148] := by rw [ByteArray.toList_eq]; rfl
theorem Sm.ps_abc (w : World) (a b n : Nat) (h : w.cell? ⟨a, 0, none⟩ = some (.int .u8 97)) (k0 : w.cell? ⟨b, 0, none⟩ = some (.int .u8 98)) (k1 : w.cell? ⟨b, 1, none⟩ = some (.int .u8 99)) (l0 : w.cell? ⟨n, 0, none⟩ = some (.slice (some ⟨a, 0, none⟩) 1 1)) (l1 : w.cell? ⟨n, 1, none⟩ = some (.slice (some ⟨b, 0, none⟩) 2 2)) (g : Nat) (hg : w.heap.size ≤ g) :
    PsOK w g (some ⟨n, 0, none⟩) 2 [⟨some ⟨a, 0, none⟩, 1, 1, bA⟩, ⟨some ⟨b, 0, none⟩, 2, 2, bB⟩] := by
  have ha := World.block_lt_of_cell? w _ h
  have hb := World.block_lt_of_cell? w _ k0
  have hn := World.block_lt_of_cell? w _ l0
  simp only at ha hb hn
  refine ⟨rfl, by omega, fun _ => ⟨n, 0, rfl, hn, by omega, fun j v hj => ?_⟩, fun p hp => ?_⟩
  · rcases j with _ | _ | j
    · simp [Pt.val] at hj; subst hj; exact l0
    · simp [Pt.val] at hj; subst hj; exact l1
    · simp at hj
  · simp only [List.mem_cons, List.not_mem_nil, or_false] at hp
    rcases hp with rfl | rfl
    · refine ⟨rfl, by show 1 ≤ 1; omega, by show 1 ≤ _; omega, fun _ => ⟨a, 0, rfl, ha, by omega, fun j v hj => ?_⟩⟩
      rcases j with _ | j
      · simp [bA, byteCell, ib] at hj; subst hj; exact h
      · simp [bA] at hj
    · refine ⟨rfl, by show 2 ≤ 2; omega, by show 2 ≤ _; omega, fun _ => ⟨b, 0, rfl, hb, by omega, fun j v hj => ?_⟩⟩
      rcases j with _ | _ | j
      · simp [bB, byteCell, ib] at hj; subst hj; exact k0
      · simp [bB, byteCell, ib] at hj; subst hj; exact k1
      · simp [bB] at hj
theorem Sm.ps_nil (w : World) (g : Nat) : PsOK w g none 0 [] := ⟨rfl, by omega, fun h => by simp at h, fun p hp => by simp at hp⟩
theorem Sm.info5 : (Tryz.prog.info? 5).map (fun i => (i.zero, i.size, i.bytes)) = some (some (.int .u8 0), 1, 1) := by kernel_rfl
theorem Sm.slice32_h (b h : Nat) (hI : Int) (e : hI = h) (hh : h ≤ 32) (w : World) :
    (Instr.sliceAt 0x7e (.pointer (some ⟨b, 0, none⟩)) none (some (.int .i64 hI)) none).run Tryz.prog w = .ok (.slice (some ⟨b, 0, none⟩) h 32) w := by
  subst e
  have hu : Tryz.prog.underlying 0x7e = some (.array (Tryz.prog.arrayLen 0x7e) (Tryz.prog.elem 0x7e)) := by kernel_rfl
  have ha : Tryz.prog.arrayLen 0x7e = 32 := by kernel_rfl
  have he : Tryz.prog.elem 0x7e = 5 := by kernel_rfl
  have hs : ∀ w, (sizeOf 5).run Tryz.prog w = .ok 1 w := fun _ => by kernel_rfl
  rw [run_sliceAt_array_h w 0x7e ⟨b, 0, none⟩ hu .i64 _ (by omega) (by rw [ha]; omega), he, hs]
  simp only [Result.andThen_ok, slicedAt, ha, Int.toNat_natCast, Nat.zero_mul]
  rw [if_neg (by omega), Addr.add_mid]
  rfl
theorem Sm.Blk.rd {w : World} {b : Nat} {t : TypeId} {l : List (BitVec 8)} (h : Blk w b t (bvs l)) {B : Nat} (hB : b < B) : Rd w B (some ⟨b, 0, none⟩) l := fun _ => ⟨b, 0, rfl, hB, fun j c hj => by
  rw [Nat.zero_add, h.cell]
  simp [bvs, hj, byteCell]⟩
theorem Sm.join_abc : joinP [⟨some ⟨0, 0, none⟩, 1, 1, bA⟩, ⟨some ⟨0, 0, none⟩, 2, 2, bB⟩] = bA ++ bB := rfl
end Go.Proofs
namespace Go.Proofs.Sm
open Go.RowKit
/-- cells that are told piece by piece -/
theorem pieces {m : Nat} (f : List Nat → List Value) : ∀ (zss : List (List Nat)) (cs : List Value), cs.length = zss.length * m →
    (∀ i zs, zss[i]? = some zs → (cs.drop (i * m)).take m = f zs) → cs = zss.flatMap f
  | [], cs, hl, _ => by simp at hl; simp [hl]
  | z :: r, cs, hl, h => by
    have h0 := h 0 z rfl
    simp only [Nat.zero_mul, List.drop_zero] at h0
    have hr := pieces (m := m) f r (cs.drop m) (by simp [hl, Nat.succ_mul]) fun i zs hi => by
      have := h (i + 1) zs hi
      rw [Nat.succ_mul] at this
      rw [List.drop_drop, Nat.add_comm m]
      exact this
    rw [List.flatMap_cons, ← hr, ← h0, List.take_append_drop]
/-- an array of arrays of small numbers holds them, row behind row -/
theorem cells_of_nest {H : Type} {enc : TypeId × Value → H} {P : Program} {w : World} {base : Nat} {sp : Nat → Bool} {held : Bool} {fuel : Nat} {t u e : TypeId} {n m : Nat} {cs : List Value} {zss : List (List Nat)} {p : List MemPlace}
    (ht : P.underlying t = some (.array n u)) (hu : P.underlying u = some (.array m e)) (he : P.underlying e = some (.int .u8)) (hce : P.cellsOf e = 1) (hcu : P.cellsOf u = m) (hct : P.cellsOf t = n * m)
    (h : DataW.trod enc P w base sp held fuel t cs = some (.agg (zss.map fun zs => Lib.tabData .u8 (zs.map Int.ofNat)), p)) : cs = zss.flatMap ol := by
  cases fuel with
  | zero => simp [DataW.trod] at h
  | succ fuel =>
    simp only [DataW.trod, ht, hcu, hct] at h
    split at h
    · rename_i hl
      obtain ⟨xs, hm, hx⟩ := Option.map_eq_some_iff.1 h
      have hxs : xs.map (·.1) = zss.map fun zs => (Lib.tabData .u8 (zs.map Int.ofNat) : DataW H) := by
        have := congrArg Prod.fst hx
        simpa using this
      have hxl : xs.length = n := by simpa using Lib.mapM_length hm
      have hzl : zss.length = n := by
        have := congrArg List.length hxs
        simp at this
        omega
      refine pieces (m := m) ol zss cs (by rw [hl, hzl]) fun i zs hi => ?_
      have hin : i < n := by rw [← hzl]; exact (List.getElem?_eq_some_iff.1 hi).1
      obtain ⟨b, hb, hf⟩ := Lib.mapM_at hm i i (by simp [hin])
      have h2 : (xs.map (·.1))[i]? = some b.1 := by simp [hb]
      rw [hxs, List.getElem?_map, hi] at h2
      have h3 : b = (Lib.tabData .u8 (zs.map Int.ofNat), b.2) := by
        have := Option.some.inj h2
        exact Prod.ext this.symm rfl
      rw [h3] at hf
      have := Lib.cells_of_tab hu he hce hcu hf
      rw [this, List.map_map]
      rfl
    · cases h
end Go.Proofs.Sm
namespace Go.Proofs.YtbojnblececnhaaGreatDoor
open Go Go.ChangeShapes Go.WideShapes Go.ChangeAt Go.WideMaps Go.WideElems Go.RowKit Sm
theorem own : ownKnob Tryz.prog.godebug = none := by kernel_rfl
theorem laidOut : laidOutB Tryz.prog = true := by kernel_rfl
theorem gBegin : Tryz.prog.globalNamed "antiphon/blake.begin" = some 1 := by kernel_rfl
theorem gOrders : Tryz.prog.globalNamed "antiphon/blake.orders" = some 2 := by kernel_rfl
theorem gMixed : Tryz.prog.globalNamed "antiphon/blake.mixed" = some 3 := by kernel_rfl
theorem tBegin : (Tryz.prog.globals[1]?).map (·.type) = some 0xa4 := by kernel_rfl
theorem tOrders : (Tryz.prog.globals[2]?).map (·.type) = some 0xc2 := by kernel_rfl
theorem tMixed : (Tryz.prog.globals[3]?).map (·.type) = some 0xc5 := by kernel_rfl
theorem c5 : Tryz.prog.cellsOf 5 = 1 := by kernel_rfl
theorem c22 : Tryz.prog.cellsOf 0xa3 = 1 := by kernel_rfl
theorem c23 : Tryz.prog.cellsOf 0xbc = 4 := by kernel_rfl
theorem c27 : Tryz.prog.cellsOf 0xa4 = 8 := by kernel_rfl
theorem c66 : Tryz.prog.cellsOf 0xc1 = 16 := by kernel_rfl
theorem c67 : Tryz.prog.cellsOf 0xc2 = 10 * 16 := by kernel_rfl
theorem c77 : Tryz.prog.cellsOf 0xc4 = 4 := by kernel_rfl
theorem c78 : Tryz.prog.cellsOf 0xc5 = 8 * 4 := by kernel_rfl
/-- what the rows list -/
abbrev laidL : List (String × DataW Unit) := [("antiphon/blake.begin", Rows.laid_antiphon_blake_begin), ("antiphon/blake.orders", Rows.laid_antiphon_blake_orders), ("antiphon/blake.mixed", Rows.laid_antiphon_blake_mixed)]
/-- the heap that the initialisers leave meets the condition -/
theorem door_met (os : Os) (args : Array Value) : laidMetH Tryz.prog laidL ((World.doorLaid Tryz.prog 400 os).forCall (fun _ _ => 0) ⟨#[], args, []⟩).memory :=
  laidMetH_of_parts3 (fuel := 8) (laidMet_of_run' 8 (by kernel_rfl) (by kernel_rfl)) (by kernel_rfl) (by kernel_rfl)
theorem begin_data {H : Type} : (Rows.laid_antiphon_blake_begin : DataW H) = Lib.tabData .u32 (beginL.map iv) := rfl
theorem orders_data {H : Type} : (Rows.laid_antiphon_blake_orders : DataW H) = .agg (orL.map fun zs => Lib.tabData .u8 (zs.map Int.ofNat)) := rfl
theorem mixed_data {H : Type} : (Rows.laid_antiphon_blake_mixed : DataW H) = .agg (mxL.map fun zs => Lib.tabData .u8 (zs.map Int.ofNat)) := rfl
theorem range_of_var {W : World} {name : String} {g : Nat} {cs : Array Value} (hg : Tryz.prog.globalNamed name = some g) (hv : W.var? Tryz.prog name = some cs) : W.rangeAt g 0 cs.toList := fun j v hj => by
  rw [World.var?_cell hg hv (0 + j), Nat.zero_add]
  simpa using hj
/-- what the condition gives the walks -/
theorem of_laid {W : World} (h : laidMetH Tryz.prog laidL W) : Tabs W := by
  rw [MakeChecks.laidMetH_plain _ _ _ (by kernel_rfl)] at h
  obtain ⟨ps, hvars, _⟩ := h
  obtain ⟨g0, t0, cs0, f0, p0, q0, hg0, ht0, hv0, hd0, hr0, _⟩ := hvars
  obtain ⟨g1, t1, cs1, f1, p1, q1, hg1, ht1, hv1, hd1, hr1, _⟩ := hr0
  obtain ⟨g2, t2, cs2, f2, p2, q2, hg2, ht2, hv2, hd2, _, _⟩ := hr1
  obtain rfl := Option.some.inj (gBegin.symm.trans hg0)
  obtain rfl := Option.some.inj (tBegin.symm.trans ht0)
  obtain rfl := Option.some.inj (gOrders.symm.trans hg1)
  obtain rfl := Option.some.inj (tOrders.symm.trans ht1)
  obtain rfl := Option.some.inj (gMixed.symm.trans hg2)
  obtain rfl := Option.some.inj (tMixed.symm.trans ht2)
  rw [begin_data] at hd0
  rw [orders_data] at hd1
  rw [mixed_data] at hd2
  have e0 := Lib.cells_of_tab Tryz.underlying164 Tryz.underlying163 c22 c27 hd0
  have e1 := cells_of_nest Tryz.underlying194 Tryz.underlying193 Tryz.underlying5 c5 c66 c67 hd1
  have e2 := cells_of_nest Tryz.underlying197 Tryz.underlying196 Tryz.underlying5 c5 c77 c78 hd2
  have r0 := range_of_var hg0 hv0
  have r1 := range_of_var hg1 hv1
  have r2 := range_of_var hg2 hv2
  rw [e0] at r0
  rw [e1] at r1
  rw [e2] at r2
  rw [List.map_map] at r0
  have hz : 3 < W.heap.size := World.block_lt_of_cell? W _ (r2 0 (o8 0) rfl)
  exact ⟨hz, r0, r1, r2⟩
/-- the arguments read behind the call as they read before -/
theorem args_below {H : Type} {enc : TypeId × Value → H} {W W' : World} (hb : Below W.heap.size W W') : ∀ {ts : List TypeId} {vs : List Value} {ds : List (DataW H)} {ps : List MemPlace},
    (∀ t ∈ ts, Tryz.prog.readableRec t = true ∧ t < Tryz.prog.types.size) → DataW.TrodAll enc Tryz.prog W 0 (fun _ => true) true ts vs ds ps → (∀ x ∈ ps, x.block < W.heap.size) →
    DataW.TrodAll enc Tryz.prog W' 0 (fun b => decide (b < W.heap.size)) true ts vs ds ps
  | [], vs, ds, ps, _, h, _ => by
    obtain ⟨rfl, rfl, rfl⟩ := trodAll_nil h
    exact trodAll_mk0
  | t :: ts, vs, ds, ps, hr, h, hlt => by
    obtain ⟨v, vs', d, ds', p, q, rfl, rfl, rfl, h1, h2⟩ := trodAll_cons h
    obtain ⟨hr1, hr2⟩ := hr t (List.mem_cons_self ..)
    exact trodAll_cons_mk (Below.trod laidOut hr1 hr2 h1 hb (fun x hx => hlt x (List.mem_append_left _ hx))) (args_below hb (fun u hu => hr u (List.mem_cons_of_mem _ hu)) h2 (fun x hx => hlt x (List.mem_append_right _ hx)))
/-- a law that returns true and leaves what lay as it lay -/
theorem law_post {H : Type} {enc : TypeId × Value → H} {f : Func} {s : ChangeSpec} {W W' : World} {args : Array Value} {ds : List (DataW H)} {before : List MemPlace}
    (hW : DataW.Whole enc Tryz.prog f.params.toList s.vars false W args.toList ds [] before) (hv : s.vars = [])
    (e1 : (s.fn H (ds ++ [])).results = [.lit (.bool true)]) (e2 : (s.fn H (ds ++ [])).args = ds) (e3 : (s.fn H (ds ++ [])).vars = [])
    (hrt : f.resultTypes = #[4]) (hr : ∀ t ∈ f.params.toList, Tryz.prog.readableRec t = true ∧ t < Tryz.prog.types.size) (hb : Below W.heap.size W W') :
    s.post enc Tryz.prog f false true false false W args (.bool true) W' := by
  have hlt := hW.lt
  obtain ⟨p, q, hA, hV, rfl, hz, hn⟩ := id hW
  rw [hv] at hV
  obtain ⟨_, rfl⟩ := trodVars_none hV
  refine ⟨ds, [], p ++ [], [], p, [], hW, ?_, ?_, ?_, hb.frame _, fun h => by cases h⟩
  · rw [e1, hrt]
    exact trodAll_mk1 (shut_bool Tryz.underlying4 true)
  · rw [e2]
    exact args_below hb hr hA (fun x hx => hlt x (List.mem_append_left _ hx))
  · rw [e3, hv]
    exact rfl
end Go.Proofs.YtbojnblececnhaaGreatDoor
namespace Go.Proofs.YtbojnblececnhaaGreatDoor
open Go Go.ChangeShapes Go.WideShapes Go.ChangeAt Go.WideMaps Go.WideElems Go.RowKit Sm
set_option maxRecDepth 100000 in
theorem c28 : Tryz.prog.cellsOf 0x84 = 64 := by kernel_rfl
theorem toIv {n : Int} (h : (Lit.int .u32 n).wf = true) : ∃ x : BitVec 32, n = iv x := by
  simp [Lit.wf, IntKind.min, IntKind.max, IntKind.signed, IntKind.bits] at h
  refine ⟨BitVec.ofNat 32 n.toNat, ?_⟩
  unfold iv
  simp
  omega
theorem toIb {n : Int} (h : (Lit.int .u8 n).wf = true) : ib (BitVec.ofNat 8 n.toNat) = n := by
  simp [Lit.wf, IntKind.min, IntKind.max, IntKind.signed, IntKind.bits] at h
  unfold ib
  simp
  omega
theorem bd64 {k : IntKind} {n : Int} (hk : k = .i64) (h : (Lit.int k n).wf = true) : -9223372036854775808 ≤ n ∧ n ≤ 9223372036854775807 := by
  subst hk
  simp [Lit.wf, IntKind.min, IntKind.max, IntKind.signed, IntKind.bits] at h
  omega
set_option maxRecDepth 100000 in
/-- an array of numbers that came in -/
theorem open_nums {H : Type} {enc : TypeId × Value → H} {W : World} {base : Nat} {t e n : Nat} {k : IntKind} {v : Value} {d : DataW H} {p : List MemPlace} (ht : Tryz.prog.underlying t = some (.array n e)) (he : Tryz.prog.underlying e = some (.int k)) (hce : Tryz.prog.cellsOf e = 1) (hct : Tryz.prog.cellsOf t = n)
    (hok : Value.okWide Tryz.prog W .any base t v) (h : DataW.Trod enc Tryz.prog W 0 (fun _ => true) true t v d p) :
    ∃ zs : List Int, zs.length = n ∧ v = .agg (zs.map (Value.int k)).toArray ∧ ∀ z ∈ zs, (Lit.int k z).wf = true := by
  obtain ⟨cs, rfl⟩ : ∃ cs, v = .agg cs := by
    unfold Value.okWide at hok
    rw [ht] at hok
    obtain ⟨cs, rfl, _⟩ := hok
    exact ⟨cs, rfl⟩
  obtain ⟨fuel, hf⟩ := h
  simp only [Value.cells] at hf
  cases fuel with
  | zero => simp [DataW.trod] at hf
  | succ fuel =>
    simp only [DataW.trod, ht, hce, hct, Nat.mul_one] at hf
    split at hf
    · rename_i hl
      obtain ⟨xs, hm, _⟩ := Option.map_eq_some_iff.1 hf
      have hxl : xs.length = n := by simpa using Lib.mapM_length hm
      have key : ∀ i, i < n → ∃ z, cs.toList[i]? = some (.int k z) ∧ (Lit.int k z).wf = true := by
        intro i hi
        obtain ⟨b, hb, hf⟩ := Lib.mapM_at hm i i (by simp [hi])
        obtain ⟨z, hc, _, hw⟩ := DataW.trod_int he hf
        refine ⟨z, ?_, hw⟩
        have := congrArg (·[0]?) hc
        simpa [List.getElem?_take, List.getElem?_drop] using this
      have hall : ∀ c ∈ cs.toList, ∃ z, c = .int k z ∧ (Lit.int k z).wf = true := by
        intro c hc
        obtain ⟨i, hi, rfl⟩ := List.mem_iff_getElem.1 hc
        obtain ⟨z, hz, hw⟩ := key i (by rw [← hl]; exact hi)
        rw [List.getElem?_eq_getElem hi] at hz
        exact ⟨z, Option.some.inj hz, hw⟩
      have make : ∀ l : List Value, (∀ c ∈ l, ∃ z, c = .int k z ∧ (Lit.int k z).wf = true) → ∃ zs : List Int, l = zs.map (Value.int k) ∧ ∀ z ∈ zs, (Lit.int k z).wf = true := by
        intro l
        induction l with
        | nil => intro _; exact ⟨[], rfl, by simp⟩
        | cons c l ih =>
          intro h
          obtain ⟨z, rfl, hw⟩ := h c (by simp)
          obtain ⟨zs, rfl, hz⟩ := ih fun c hc => h c (by simp [hc])
          refine ⟨z :: zs, rfl, fun y hy => ?_⟩
          rcases List.mem_cons.1 hy with rfl | hy
          · exact hw
          · exact hz y hy
      obtain ⟨zs, hzs, hw⟩ := make _ hall
      refine ⟨zs, ?_, ?_, hw⟩
      · have := congrArg List.length hzs; simp at this; simp at hl; omega
      · rw [← hzs]
    · cases hf
set_option maxRecDepth 100000 in
theorem words_of {zs : List Int} (h : ∀ z ∈ zs, (Lit.int .u32 z).wf = true) : ∃ l : List (BitVec 32), zs.map (Value.int .u32) = wl l ∧ l.length = zs.length := by
  induction zs with
  | nil => exact ⟨[], rfl, rfl⟩
  | cons z zs ih =>
    obtain ⟨l, e, hl⟩ := ih fun y hy => h y (by simp [hy])
    obtain ⟨x, rfl⟩ := toIv (h z (by simp))
    exact ⟨x :: l, by rw [List.map_cons, e]; rfl, by simp [hl]⟩
set_option maxRecDepth 100000 in
theorem octs_of {zs : List Int} (h : ∀ z ∈ zs, (Lit.int .u8 z).wf = true) : ∃ l : List (BitVec 8), zs.map (Value.int .u8) = l.map byteCell ∧ l.length = zs.length := by
  induction zs with
  | nil => exact ⟨[], rfl, rfl⟩
  | cons z zs ih =>
    obtain ⟨l, e, hl⟩ := ih fun y hy => h y (by simp [hy])
    exact ⟨BitVec.ofNat 8 z.toNat :: l, by rw [List.map_cons, e, List.map_cons, byteCell, toIb (h z (by simp))], by simp [hl]⟩
set_option maxRecDepth 100000 in
theorem open_words {H : Type} {enc : TypeId × Value → H} {W : World} {base : Nat} {t n : Nat} {v : Value} {d : DataW H} {p : List MemPlace} (ht : Tryz.prog.underlying t = some (.array n 0xa3)) (hct : Tryz.prog.cellsOf t = n)
    (hok : Value.okWide Tryz.prog W .any base t v) (h : DataW.Trod enc Tryz.prog W 0 (fun _ => true) true t v d p) : ∃ l : List (BitVec 32), l.length = n ∧ v = .agg (wvs l) := by
  obtain ⟨zs, hl, rfl, hw⟩ := open_nums ht Tryz.underlying163 c22 hct hok h
  obtain ⟨l, e, hll⟩ := words_of hw
  exact ⟨l, by omega, by rw [e]; rfl⟩
set_option maxRecDepth 100000 in
theorem open_octs {H : Type} {enc : TypeId × Value → H} {W : World} {base : Nat} {t n : Nat} {v : Value} {d : DataW H} {p : List MemPlace} (ht : Tryz.prog.underlying t = some (.array n 5)) (hct : Tryz.prog.cellsOf t = n)
    (hok : Value.okWide Tryz.prog W .any base t v) (h : DataW.Trod enc Tryz.prog W 0 (fun _ => true) true t v d p) : ∃ l : List (BitVec 8), l.length = n ∧ v = .agg (l.map byteCell).toArray := by
  obtain ⟨zs, hl, rfl, hw⟩ := open_nums ht Tryz.underlying5 c5 hct hok h
  obtain ⟨l, e, hll⟩ := octs_of hw
  exact ⟨l, by omega, by rw [e]⟩
set_option maxRecDepth 100000 in
theorem open_q4 {H : Type} {enc : TypeId × Value → H} {W : World} {base : Nat} {v : Value} {d : DataW H} {p : List MemPlace} (hok : Value.okWide Tryz.prog W .any base 0xbc v) (h : DataW.Trod enc Tryz.prog W 0 (fun _ => true) true 0xbc v d p) : ∃ q : Q4, v = .agg q.cells := by
  obtain ⟨l, hl, rfl⟩ := open_words Tryz.underlying188 c23 hok h
  match l, hl with
  | [a, b, c, e], _ => exact ⟨⟨a, b, c, e⟩, rfl⟩
end Go.Proofs.YtbojnblececnhaaGreatDoor
namespace Go.Proofs.YtbojnblececnhaaGreatDoor
open Go Go.ChangeShapes Go.WideShapes Go.ChangeAt Go.WideMaps Go.WideElems Go.RowKit Sm
/-- bytes that came in: their address, length and room, and what they are -/
theorem bytes_of_trod {H : Type} {enc : TypeId × Value → H} {W : World} {fuel : Nat} {cs : List Value} {x : DataW H × List MemPlace} (h : DataW.trod enc Tryz.prog W 0 (fun _ => true) true fuel 0x38 cs = some x) :
    ∃ A n c l, cs = [.slice A n c] ∧ l.length = n ∧ n ≤ c ∧ c ≤ 9223372036854775807 ∧ Rd W W.heap.size A l := by
  rcases open_ints Tryz.underlying56 Tryz.underlying5 c5 h with ⟨rfl, _⟩ | ⟨a, len, cap, zs, rfl, _, hl, hm, hz, _, hcell, hwz⟩
  · exact ⟨none, 0, 0, [], rfl, rfl, Nat.le_refl _, by omega, Rd.nil⟩
  · simp at hz
    refine ⟨some a, len, cap, (zs.take len).map (fun n => BitVec.ofNat 8 n.toNat), rfl, by simp; omega, hl, by unfold maxLen at hm; omega, ?_⟩
    intro h0
    have hp : 0 < zs.length := by simp at h0; omega
    obtain ⟨b, off, rfl, hc⟩ := ints_at hcell hp
    refine ⟨b, off, rfl, World.block_lt_of_cell? W _ (hc 0 hp), fun j c hj => ?_⟩
    rw [List.getElem?_map, List.getElem?_take] at hj
    split at hj
    · rename_i hjl
      have hjz : j < zs.length := by omega
      rw [List.getElem?_eq_getElem hjz] at hj
      simp only [Option.map_some, Option.some.injEq] at hj
      subst hj
      rw [hc j hjz, toIb (hwz _ (List.getElem_mem hjz))]
      congr 2
      simp [List.getD_eq_getElem?_getD, hjz]
    · simp at hj
set_option maxRecDepth 100000 in
set_option maxHeartbeats 1000000 in
theorem open_bytes {H : Type} {enc : TypeId × Value → H} {W : World} {base : Nat} {v : Value} {d : DataW H} {p : List MemPlace} (hok : Value.okWide Tryz.prog W .any base 0x38 v) (h : DataW.Trod enc Tryz.prog W 0 (fun _ => true) true 0x38 v d p) :
    ∃ A n c l, v = .slice A n c ∧ l.length = n ∧ n ≤ c ∧ c ≤ 9223372036854775807 ∧ Rd W W.heap.size A l := by
  obtain ⟨a0, len, cap, rfl⟩ := okWide_slice Tryz.underlying56 hok
  obtain ⟨fuel, hf⟩ := h
  obtain ⟨A, n, c, l, hcs, h1, h2, h3, h4⟩ := bytes_of_trod (cs := [.slice a0 len cap]) (by simpa [Value.cells] using hf)
  simp only [List.cons.injEq, and_true] at hcs
  exact ⟨A, n, c, l, hcs, h1, h2, h3, h4⟩
end Go.Proofs.YtbojnblececnhaaGreatDoor
namespace Go.Proofs
open Go.RowKit Sm
theorem Sm.grownBy_of_below {w w' : World} (h : Below w.heap.size w w') (row : Option Nat) : w.grownBy w' row := ⟨h.os, h.tape, h.output, h.size, fun k hk _ => h.block k hk⟩
theorem Sm.Rd.news {w : World} {B : Nat} {ad : Addr} {l : List (BitVec 8)} (h : Rd w B (some ad) l) : ∀ (j : Nat) (u : Value), (l.map byteCell)[j]? = some u → w.cell? (ad.add j) = some u := by
  intro j u hu
  rw [List.getElem?_map] at hu
  obtain ⟨c, hc, rfl⟩ := Option.map_eq_some_iff.1 hu
  have hj := (List.getElem?_eq_some_iff.1 hc).1
  obtain ⟨b, off, e, _, hcell⟩ := h (by omega)
  obtain rfl := Option.some.inj e
  have hadd : (⟨b, off, none⟩ : Addr).add j = ⟨b, off + j, none⟩ := by unfold Addr.add; split <;> simp_all
  rw [hadd]
  exact hcell j c hc
theorem Sm.byteCell_one (l : List (BitVec 8)) : ∀ u ∈ l.map byteCell, u.oneCell' = true := by
  intro u hu
  obtain ⟨c, _, rfl⟩ := List.mem_map.1 hu
  rfl
theorem Sm.Rd.of_own {w : World} {base N n c : Nat} {A : Option Addr} {l : List (BitVec 8)} (h : w.ownsRow base 5 1 (.slice A n c) n (l.map byteCell)) (hN : w.heap.size ≤ N) : Rd w N A l := by
  intro hl
  have hn : 0 < n := by have := h.1; simp at this; omega
  obtain ⟨g, cap, hv, _, hlt⟩ := h.form hn
  have hA : A = some ⟨g, 0, none⟩ := by injection hv
  subst hA
  refine ⟨g, 0, rfl, by omega, fun j c hj => ?_⟩
  have hjl := (List.getElem?_eq_some_iff.1 hj).1
  rw [Nat.zero_add, h.cellAt j (by have := h.1; simp at this; omega), List.getElem?_map, hj]
  rfl
section
variable {P : Program} (w : World)
/-- append of bytes that are read, nil or not, behind a row of the call's own -/
theorem Sm.run_append_rd (base : Nat) (t ty e : TypeId) (i : TypeInfo) (z : Value) (ht : P.underlying t = some (.slice e)) (hi : P.info? e = some i) (hz : i.zero = some z)
    (hsize : i.size = 1) (hby : i.bytes = 1) (hzs : z.cells.size = 1)
    (v : Value) (n : Nat) (xs : List Value) (hown : w.ownsRow base e 1 v n xs)
    (B : Nat) (A : Option Addr) (m c : Nat) (l : List (BitVec 8)) (hl : l.length = m) (hr : Rd w B A l) (hnm : n + m ≤ 1000000000) (hbase : base ≤ w.heap.size) :
    ∃ v' w', (Builtin.append_ #[t, t] ty #[v, .slice A m c]).run P w = .ok v' w' ∧ w'.ownsRow base e 1 v' (n + m) (xs ++ l.map byteCell) ∧ w.grownBy w' v.ownBlock ∧
      (v'.ownBlock = v.ownBlock ∨ v'.ownBlock = some w.heap.size) := by
  subst hl
  rcases A with _ | ad
  · have hn : l = [] := by
      cases l with
      | nil => rfl
      | cons x r =>
        obtain ⟨b, off, h, _⟩ := hr (by simp)
        cases h
    subst hn
    refine ⟨v, w, ?_, by simpa using hown, World.grownBy.refl w _, .inl rfl⟩
    rcases hown.2 with ⟨rfl, rfl⟩ | ⟨g, cap, cur, rfl, _, _, hnc, _⟩
    · simp [Builtin.append_, run_underlying ht, sizeOf, typeInfo, hi, Builtin.lenOf, Builtin.firstCells]
    · simp [Builtin.append_, run_underlying ht, sizeOf, typeInfo, hi, Builtin.lenOf, Builtin.firstCells, hnc, storeCells]
  · obtain ⟨v', w', h1, h2, h3, _, h5⟩ := run_append_own_at (P := P) w base t ty e i z 1 1 ht hi hz hsize hby hzs (by decide) v n xs hown ad l.length c (l.map byteCell) (by simp) hr.news (byteCell_one l)
      (by unfold maxLen; omega) (by omega) hbase
    exact ⟨v', w', h1, h2, h3, h5⟩
theorem Sm.wpList_append_rd {ops : Array Oper} {rest : List Oper} {o : Oper} {a : Act} {Q : Exit → Act → World → Prop} (hgd : o.guard = none) (s x : Operand) (t : TypeId)
    (ho : o.op = .call { callee := .builtin .append, args := #[s, x], argTypes := #[t, t] })
    (base : Nat) (e : TypeId) (i : TypeInfo) (z : Value) (ht : P.underlying t = some (.slice e)) (hi : P.info? e = some i) (hz : i.zero = some z)
    (hsize : i.size = 1) (hby : i.bytes = 1) (hzs : z.cells.size = 1)
    (v : Value) (n : Nat) (xs : List Value) (hs : a.eval s = v) (hown : w.ownsRow base e 1 v n xs)
    (B : Nat) (A : Option Addr) (m c : Nat) (l : List (BitVec 8)) (hx : a.eval x = .slice A m c) (hl : l.length = m) (hr : Rd w B A l) (hnm : n + m ≤ 1000000000) (hbase : base ≤ w.heap.size)
    (h : ∀ v' w', w'.ownsRow base e 1 v' (n + m) (xs ++ l.map byteCell) → w.grownBy w' v.ownBlock → (v'.ownBlock = v.ownBlock ∨ v'.ownBlock = some w.heap.size) → wpList P ops Q rest (a.put o.dst v') w') :
    wpList P ops Q (o :: rest) a w := by
  refine wpList_plain hgd fun K hK => ?_
  obtain ⟨v', w', hr', h2, h3, h4⟩ := run_append_rd (P := P) w base t o.type e i z ht hi hz hsize hby hzs v n xs hown B A m c l hl hr hnm hbase
  unfold Oper.wp execOp
  simp only [ho, resolve, invoke, builtin, Sem.run_bind, Sem.run_pure, Result.andThen_ok, List.map_toArray, List.map_cons, List.map_nil, hs, hx, hr']
  exact hK _ _ (h v' w' h2 h3 h4)
end
theorem Sm.own_slice {w : World} {base : Nat} {e : TypeId} {v : Value} {n : Nat} {xs : List Value} (h : w.ownsRow base e 1 v n xs) : ∃ A c, v = .slice A n c := by
  rcases h.2 with ⟨rfl, rfl⟩ | ⟨g, cap, cur, rfl, _⟩
  · exact ⟨none, 0, rfl⟩
  · exact ⟨_, _, rfl⟩
theorem Sm.own_below {w w' : World} {base : Nat} {e : TypeId} {size n : Nat} {v : Value} {xs : List Value} (h : w.ownsRow base e size v n xs) (hb : Below w.heap.size w w') : w'.ownsRow base e size v n xs := by
  refine h.kept (grownBy_of_below hb none) ?_
  rcases h' : v.ownBlock with _ | k
  · exact .inl rfl
  · exact .inr (by simp)
end Go.Proofs
