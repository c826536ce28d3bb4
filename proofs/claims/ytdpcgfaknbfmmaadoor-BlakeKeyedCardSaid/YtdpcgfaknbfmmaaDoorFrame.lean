/-
  The frame of the laws of this seat: what the listed tables give the walks, and a law that returns true leaves its arguments as they were.
-/
import Derived.Test.YtdpcgfaknbfmmaaDoorRows
import Derived.Test.YtdpcgfaknbfmmaaDoorTie
import Derived.Test.YtdpcgfaknbfmmaaDoorCards
import Derived.Test.YtdpcgfaknbfmmaaDoorWorks
import Derived.ProofKit
import Derived.LaidMore
import Derived.OpenShut
import Derived.Lib.LaidTab
import Derived.Stop.Joined
import Derived.SevenTiedAt
namespace Go.Proofs.Sm
open Go.RowKit
/-- cells that are told piece by piece -/
theorem pieces {m : Nat} (f : List Nat → List Value) : ∀ (zss : List (List Nat)) (cs : List Value), cs.length = zss.length * m →
    (∀ i zs, zss[i]? = some zs → (cs.drop (i * m)).take m = f zs) → cs = zss.flatMap f
  | [], cs, hl, _ => by simp at hl; simp [hl]
  | z :: r, cs, hl, h => by
    have h0 := h 0 z rfl
    simp only [Nat.zero_mul, List.drop_zero] at h0
    have hr := pieces (m := m) f r (cs.drop m) (by simp [hl, Nat.succ_mul]) fun i zs hi => by
      have := h (i + 1) zs hi
      rw [Nat.succ_mul] at this
      rw [List.drop_drop, Nat.add_comm m]
      exact this
    rw [List.flatMap_cons, ← hr, ← h0, List.take_append_drop]
/-- an array of arrays of small numbers holds them, row behind row -/
theorem cells_of_nest {H : Type} {enc : TypeId × Value → H} {P : Program} {w : World} {base : Nat} {sp : Nat → Bool} {held : Bool} {fuel : Nat} {t u e : TypeId} {n m : Nat} {cs : List Value} {zss : List (List Nat)} {p : List MemPlace}
    (ht : P.underlying t = some (.array n u)) (hu : P.underlying u = some (.array m e)) (he : P.underlying e = some (.int .u8)) (hce : P.cellsOf e = 1) (hcu : P.cellsOf u = m) (hct : P.cellsOf t = n * m)
    (h : DataW.trod enc P w base sp held fuel t cs = some (.agg (zss.map fun zs => Lib.tabData .u8 (zs.map Int.ofNat)), p)) : cs = zss.flatMap ol := by
  cases fuel with
  | zero => simp [DataW.trod] at h
  | succ fuel =>
    simp only [DataW.trod, ht, hcu, hct] at h
    split at h
    · rename_i hl
      obtain ⟨xs, hm, hx⟩ := Option.map_eq_some_iff.1 h
      have hxs : xs.map (·.1) = zss.map fun zs => (Lib.tabData .u8 (zs.map Int.ofNat) : DataW H) := by
        have := congrArg Prod.fst hx
        simpa using this
      have hxl : xs.length = n := by simpa using Lib.mapM_length hm
      have hzl : zss.length = n := by
        have := congrArg List.length hxs
        simp at this
        omega
      refine pieces (m := m) ol zss cs (by rw [hl, hzl]) fun i zs hi => ?_
      have hin : i < n := by rw [← hzl]; exact (List.getElem?_eq_some_iff.1 hi).1
      obtain ⟨b, hb, hf⟩ := Lib.mapM_at hm i i (by simp [hin])
      have h2 : (xs.map (·.1))[i]? = some b.1 := by simp [hb]
      rw [hxs, List.getElem?_map, hi] at h2
      have h3 : b = (Lib.tabData .u8 (zs.map Int.ofNat), b.2) := by
        have := Option.some.inj h2
        exact Prod.ext this.symm rfl
      rw [h3] at hf
      have := Lib.cells_of_tab hu he hce hcu hf
      rw [this, List.map_map]
      rfl
    · cases h
end Go.Proofs.Sm
namespace Go.Proofs.YtdpcgfaknbfmmaaDoor
open Go Go.ChangeShapes Go.WideShapes Go.ChangeAt Go.WideMaps Go.WideElems Go.RowKit Sm
theorem own : ownKnob Tryd.prog.godebug = none := by kernel_rfl
theorem laidOut : laidOutB Tryd.prog = true := by kernel_rfl
theorem gBegin : Tryd.prog.globalNamed "antiphon/blake.begin" = some 0 := by kernel_rfl
theorem gOrders : Tryd.prog.globalNamed "antiphon/blake.orders" = some 1 := by kernel_rfl
theorem gMixed : Tryd.prog.globalNamed "antiphon/blake.mixed" = some 2 := by kernel_rfl
theorem tBegin : (Tryd.prog.globals[0]?).map (·.type) = some 0x17 := by kernel_rfl
theorem tOrders : (Tryd.prog.globals[1]?).map (·.type) = some 0x53 := by kernel_rfl
theorem tMixed : (Tryd.prog.globals[2]?).map (·.type) = some 0x68 := by kernel_rfl
theorem c5 : Tryd.prog.cellsOf 5 = 1 := by kernel_rfl
theorem c22 : Tryd.prog.cellsOf 0x16 = 1 := by kernel_rfl
theorem c23 : Tryd.prog.cellsOf 0x5a = 4 := by kernel_rfl
theorem c27 : Tryd.prog.cellsOf 0x17 = 8 := by kernel_rfl
theorem c66 : Tryd.prog.cellsOf 0x52 = 16 := by kernel_rfl
theorem c67 : Tryd.prog.cellsOf 0x53 = 10 * 16 := by kernel_rfl
theorem c77 : Tryd.prog.cellsOf 0x67 = 4 := by kernel_rfl
theorem c78 : Tryd.prog.cellsOf 0x68 = 8 * 4 := by kernel_rfl
/-- what the rows list -/
abbrev laidL : List (String × DataW Unit) := [("antiphon/blake.begin", Rows.laid_antiphon_blake_begin), ("antiphon/blake.orders", Rows.laid_antiphon_blake_orders), ("antiphon/blake.mixed", Rows.laid_antiphon_blake_mixed)]
/-- the heap that the initialisers leave meets the condition -/
theorem door_met (os : Os) (args : Array Value) : laidMetH Tryd.prog laidL ((World.doorLaid Tryd.prog 400 os).forCall (fun _ _ => 0) ⟨#[], args, []⟩).memory :=
  laidMetH_of_parts3 (fuel := 8) (laidMet_of_run' 8 (by kernel_rfl) (by kernel_rfl)) (by kernel_rfl) (by kernel_rfl)
theorem begin_data {H : Type} : (Rows.laid_antiphon_blake_begin : DataW H) = Lib.tabData .u32 (beginL.map iv) := rfl
theorem orders_data {H : Type} : (Rows.laid_antiphon_blake_orders : DataW H) = .agg (orL.map fun zs => Lib.tabData .u8 (zs.map Int.ofNat)) := rfl
theorem mixed_data {H : Type} : (Rows.laid_antiphon_blake_mixed : DataW H) = .agg (mxL.map fun zs => Lib.tabData .u8 (zs.map Int.ofNat)) := rfl
theorem range_of_var {W : World} {name : String} {g : Nat} {cs : Array Value} (hg : Tryd.prog.globalNamed name = some g) (hv : W.var? Tryd.prog name = some cs) : W.rangeAt g 0 cs.toList := fun j v hj => by
  rw [World.var?_cell hg hv (0 + j), Nat.zero_add]
  simpa using hj
/-- what the condition gives the walks -/
theorem of_laid {W : World} (h : laidMetH Tryd.prog laidL W) : Tabs W := by
  rw [MakeChecks.laidMetH_plain _ _ _ (by kernel_rfl)] at h
  obtain ⟨ps, hvars, _⟩ := h
  obtain ⟨g0, t0, cs0, f0, p0, q0, hg0, ht0, hv0, hd0, hr0, _⟩ := hvars
  obtain ⟨g1, t1, cs1, f1, p1, q1, hg1, ht1, hv1, hd1, hr1, _⟩ := hr0
  obtain ⟨g2, t2, cs2, f2, p2, q2, hg2, ht2, hv2, hd2, _, _⟩ := hr1
  obtain rfl := Option.some.inj (gBegin.symm.trans hg0)
  obtain rfl := Option.some.inj (tBegin.symm.trans ht0)
  obtain rfl := Option.some.inj (gOrders.symm.trans hg1)
  obtain rfl := Option.some.inj (tOrders.symm.trans ht1)
  obtain rfl := Option.some.inj (gMixed.symm.trans hg2)
  obtain rfl := Option.some.inj (tMixed.symm.trans ht2)
  rw [begin_data] at hd0
  rw [orders_data] at hd1
  rw [mixed_data] at hd2
  have e0 := Lib.cells_of_tab Tryd.underlying23 Tryd.underlying22 c22 c27 hd0
  have e1 := cells_of_nest Tryd.underlying83 Tryd.underlying82 Tryd.underlying5 c5 c66 c67 hd1
  have e2 := cells_of_nest Tryd.underlying104 Tryd.underlying103 Tryd.underlying5 c5 c77 c78 hd2
  have r0 := range_of_var hg0 hv0
  have r1 := range_of_var hg1 hv1
  have r2 := range_of_var hg2 hv2
  rw [e0] at r0
  rw [e1] at r1
  rw [e2] at r2
  rw [List.map_map] at r0
  have hz : 2 < W.heap.size := World.block_lt_of_cell? W _ (r2 0 (o8 0) rfl)
  exact ⟨hz, r0, r1, r2⟩
/-- the arguments read behind the call as they read before -/
theorem args_below {H : Type} {enc : TypeId × Value → H} {W W' : World} (hb : Below W.heap.size W W') : ∀ {ts : List TypeId} {vs : List Value} {ds : List (DataW H)} {ps : List MemPlace},
    (∀ t ∈ ts, Tryd.prog.readableRec t = true ∧ t < Tryd.prog.types.size) → DataW.TrodAll enc Tryd.prog W 0 (fun _ => true) true ts vs ds ps → (∀ x ∈ ps, x.block < W.heap.size) →
    DataW.TrodAll enc Tryd.prog W' 0 (fun b => decide (b < W.heap.size)) true ts vs ds ps
  | [], vs, ds, ps, _, h, _ => by
    obtain ⟨rfl, rfl, rfl⟩ := trodAll_nil h
    exact trodAll_mk0
  | t :: ts, vs, ds, ps, hr, h, hlt => by
    obtain ⟨v, vs', d, ds', p, q, rfl, rfl, rfl, h1, h2⟩ := trodAll_cons h
    obtain ⟨hr1, hr2⟩ := hr t (List.mem_cons_self ..)
    exact trodAll_cons_mk (Below.trod laidOut hr1 hr2 h1 hb (fun x hx => hlt x (List.mem_append_left _ hx))) (args_below hb (fun u hu => hr u (List.mem_cons_of_mem _ hu)) h2 (fun x hx => hlt x (List.mem_append_right _ hx)))
/-- a law that returns true and leaves what lay as it lay -/
theorem law_post {H : Type} {enc : TypeId × Value → H} {f : Func} {s : ChangeSpec} {W W' : World} {args : Array Value} {ds : List (DataW H)} {before : List MemPlace}
    (hW : DataW.Whole enc Tryd.prog f.params.toList s.vars false W args.toList ds [] before) (hv : s.vars = [])
    (e1 : (s.fn H (ds ++ [])).results = [.lit (.bool true)]) (e2 : (s.fn H (ds ++ [])).args = ds) (e3 : (s.fn H (ds ++ [])).vars = [])
    (hrt : f.resultTypes = #[4]) (hr : ∀ t ∈ f.params.toList, Tryd.prog.readableRec t = true ∧ t < Tryd.prog.types.size) (hb : Below W.heap.size W W') :
    s.post enc Tryd.prog f false true false false W args (.bool true) W' := by
  have hlt := hW.lt
  obtain ⟨p, q, hA, hV, rfl, hz, hn⟩ := id hW
  rw [hv] at hV
  obtain ⟨_, rfl⟩ := trodVars_none hV
  refine ⟨ds, [], p ++ [], [], p, [], hW, ?_, ?_, ?_, hb.frame _, fun h => by cases h⟩
  · rw [e1, hrt]
    exact trodAll_mk1 (shut_bool Tryd.underlying4 true)
  · rw [e2]
    exact args_below hb hr hA (fun x hx => hlt x (List.mem_append_left _ hx))
  · rw [e3, hv]
    exact rfl
end Go.Proofs.YtdpcgfaknbfmmaaDoor
