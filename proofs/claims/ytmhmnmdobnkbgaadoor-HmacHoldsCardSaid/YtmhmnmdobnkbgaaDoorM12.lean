/-
  The frame of the laws of this seat: what the listed tables give the walks, and a law that returns true leaves its arguments as they were.
  Opening of arguments of these laws: arrays of words and of bytes, words, numbers and bytes as the walks take them. Conditions: what the frame says of an argument that can be read.
  Opening of bytes of these laws. Conditions: what the frame says of an argument that can be read.
  Opening of an argument that is a slice of slices of bytes. Conditions: what the frame says of an argument that can be read.
-/
import Derived.Test.YtmhmnmdobnkbgaaDoorRows
import Derived.Test.YtmhmnmdobnkbgaaDoorTie
import Derived.Test.YtmhmnmdobnkbgaaDoorCards
import Derived.Test.YtmhmnmdobnkbgaaDoorM9
import Derived.ProofKit
import Derived.LaidMore
import Derived.OpenShut
import Derived.Lib.LaidTab
import Derived.Stop.Joined
import Derived.SevenTiedAt
import Derived.Deep.Matrix
import Derived.Test.YtmhmnmdobnkbgaaDoorM11
namespace Go.Proofs.Sm
open Go.RowKit
/-- cells that are told piece by piece -/
theorem pieces {m : Nat} (f : List Nat → List Value) : ∀ (zss : List (List Nat)) (cs : List Value), cs.length = zss.length * m →
    (∀ i zs, zss[i]? = some zs → (cs.drop (i * m)).take m = f zs) → cs = zss.flatMap f
  | [], cs, hl, _ => by simp at hl; simp [hl]
  | z :: r, cs, hl, h => by
    have h0 := h 0 z rfl
    simp only [Nat.zero_mul, List.drop_zero] at h0
    have hr := pieces (m := m) f r (cs.drop m) (by simp [hl, Nat.succ_mul]) fun i zs hi => by
      have := h (i + 1) zs hi
      rw [Nat.succ_mul] at this
      rw [List.drop_drop, Nat.add_comm m]
      exact this
    rw [List.flatMap_cons, ← hr, ← h0, List.take_append_drop]
/-- an array of arrays of small numbers holds them, row behind row -/
theorem cells_of_nest {H : Type} {enc : TypeId × Value → H} {P : Program} {w : World} {base : Nat} {sp : Nat → Bool} {held : Bool} {fuel : Nat} {t u e : TypeId} {n m : Nat} {cs : List Value} {zss : List (List Nat)} {p : List MemPlace}
    (ht : P.underlying t = some (.array n u)) (hu : P.underlying u = some (.array m e)) (he : P.underlying e = some (.int .u8)) (hce : P.cellsOf e = 1) (hcu : P.cellsOf u = m) (hct : P.cellsOf t = n * m)
    (h : DataW.trod enc P w base sp held fuel t cs = some (.agg (zss.map fun zs => Lib.tabData .u8 (zs.map Int.ofNat)), p)) : cs = zss.flatMap ol := by
  cases fuel with
  | zero => simp [DataW.trod] at h
  | succ fuel =>
    simp only [DataW.trod, ht, hcu, hct] at h
    split at h
    · rename_i hl
      obtain ⟨xs, hm, hx⟩ := Option.map_eq_some_iff.1 h
      have hxs : xs.map (·.1) = zss.map fun zs => (Lib.tabData .u8 (zs.map Int.ofNat) : DataW H) := by
        have := congrArg Prod.fst hx
        simpa using this
      have hxl : xs.length = n := by simpa using Lib.mapM_length hm
      have hzl : zss.length = n := by
        have := congrArg List.length hxs
        simp at this
        omega
      refine pieces (m := m) ol zss cs (by rw [hl, hzl]) fun i zs hi => ?_
      have hin : i < n := by rw [← hzl]; exact (List.getElem?_eq_some_iff.1 hi).1
      obtain ⟨b, hb, hf⟩ := Lib.mapM_at hm i i (by simp [hin])
      have h2 : (xs.map (·.1))[i]? = some b.1 := by simp [hb]
      rw [hxs, List.getElem?_map, hi] at h2
      have h3 : b = (Lib.tabData .u8 (zs.map Int.ofNat), b.2) := by
        have := Option.some.inj h2
        exact Prod.ext this.symm rfl
      rw [h3] at hf
      have := Lib.cells_of_tab hu he hce hcu hf
      rw [this, List.map_map]
      rfl
    · cases h
end Go.Proofs.Sm
namespace Go.Proofs.YtmhmnmdobnkbgaaDoor
open Go Go.ChangeShapes Go.WideShapes Go.ChangeAt Go.WideMaps Go.WideElems Go.RowKit Sm
theorem own : ownKnob Tryd.prog.godebug = none := by kernel_rfl
theorem laidOut : laidOutB Tryd.prog = true := by kernel_rfl
theorem gBegin : Tryd.prog.globalNamed "antiphon/blake.begin" = some 0 := by kernel_rfl
theorem gOrders : Tryd.prog.globalNamed "antiphon/blake.orders" = some 2 := by kernel_rfl
theorem gMixed : Tryd.prog.globalNamed "antiphon/blake.mixed" = some 3 := by kernel_rfl
theorem tBegin : (Tryd.prog.globals[0]?).map (·.type) = some 0x6f := by kernel_rfl
theorem tOrders : (Tryd.prog.globals[2]?).map (·.type) = some 0xaf := by kernel_rfl
theorem tMixed : (Tryd.prog.globals[3]?).map (·.type) = some 0xb3 := by kernel_rfl
theorem c5 : Tryd.prog.cellsOf 5 = 1 := by kernel_rfl
theorem c22 : Tryd.prog.cellsOf 0x6e = 1 := by kernel_rfl
theorem c23 : Tryd.prog.cellsOf 0xaa = 4 := by kernel_rfl
theorem c27 : Tryd.prog.cellsOf 0x6f = 8 := by kernel_rfl
theorem c66 : Tryd.prog.cellsOf 0xae = 16 := by kernel_rfl
theorem c67 : Tryd.prog.cellsOf 0xaf = 10 * 16 := by kernel_rfl
theorem c77 : Tryd.prog.cellsOf 0xb2 = 4 := by kernel_rfl
theorem c78 : Tryd.prog.cellsOf 0xb3 = 8 * 4 := by kernel_rfl
/-- what the rows list -/
abbrev laidL : List (String × DataW Unit) := [("antiphon/blake.begin", Rows.laid_antiphon_blake_begin), ("antiphon/blake.orders", Rows.laid_antiphon_blake_orders), ("antiphon/blake.mixed", Rows.laid_antiphon_blake_mixed)]
/-- the heap that the initialisers leave meets the condition -/
theorem door_met (os : Os) (args : Array Value) : laidMetH Tryd.prog laidL ((World.doorLaid Tryd.prog 400 os).forCall (fun _ _ => 0) ⟨#[], args, []⟩).memory :=
  laidMetH_of_parts3 (fuel := 8) (laidMet_of_run' 8 (by kernel_rfl) (by kernel_rfl)) (by kernel_rfl) (by kernel_rfl)
theorem begin_data {H : Type} : (Rows.laid_antiphon_blake_begin : DataW H) = Lib.tabData .u32 (beginL.map iv) := rfl
theorem orders_data {H : Type} : (Rows.laid_antiphon_blake_orders : DataW H) = .agg (orL.map fun zs => Lib.tabData .u8 (zs.map Int.ofNat)) := rfl
theorem mixed_data {H : Type} : (Rows.laid_antiphon_blake_mixed : DataW H) = .agg (mxL.map fun zs => Lib.tabData .u8 (zs.map Int.ofNat)) := rfl
theorem range_of_var {W : World} {name : String} {g : Nat} {cs : Array Value} (hg : Tryd.prog.globalNamed name = some g) (hv : W.var? Tryd.prog name = some cs) : W.rangeAt g 0 cs.toList := fun j v hj => by
  rw [World.var?_cell hg hv (0 + j), Nat.zero_add]
  simpa using hj
/-- what the condition gives the walks -/
theorem of_laid {W : World} (h : laidMetH Tryd.prog laidL W) : Tabs W := by
  rw [MakeChecks.laidMetH_plain _ _ _ (by kernel_rfl)] at h
  obtain ⟨ps, hvars, _⟩ := h
  obtain ⟨g0, t0, cs0, f0, p0, q0, hg0, ht0, hv0, hd0, hr0, _⟩ := hvars
  obtain ⟨g1, t1, cs1, f1, p1, q1, hg1, ht1, hv1, hd1, hr1, _⟩ := hr0
  obtain ⟨g2, t2, cs2, f2, p2, q2, hg2, ht2, hv2, hd2, _, _⟩ := hr1
  obtain rfl := Option.some.inj (gBegin.symm.trans hg0)
  obtain rfl := Option.some.inj (tBegin.symm.trans ht0)
  obtain rfl := Option.some.inj (gOrders.symm.trans hg1)
  obtain rfl := Option.some.inj (tOrders.symm.trans ht1)
  obtain rfl := Option.some.inj (gMixed.symm.trans hg2)
  obtain rfl := Option.some.inj (tMixed.symm.trans ht2)
  rw [begin_data] at hd0
  rw [orders_data] at hd1
  rw [mixed_data] at hd2
  have e0 := Lib.cells_of_tab Tryd.underlying111 Tryd.underlying110 c22 c27 hd0
  have e1 := cells_of_nest Tryd.underlying175 Tryd.underlying174 Tryd.underlying5 c5 c66 c67 hd1
  have e2 := cells_of_nest Tryd.underlying179 Tryd.underlying178 Tryd.underlying5 c5 c77 c78 hd2
  have r0 := range_of_var hg0 hv0
  have r1 := range_of_var hg1 hv1
  have r2 := range_of_var hg2 hv2
  rw [e0] at r0
  rw [e1] at r1
  rw [e2] at r2
  rw [List.map_map] at r0
  have hz : 3 < W.heap.size := World.block_lt_of_cell? W _ (r2 0 (o8 0) rfl)
  exact ⟨hz, r0, r1, r2⟩
/-- the arguments read behind the call as they read before -/
theorem args_below {H : Type} {enc : TypeId × Value → H} {W W' : World} (hb : Below W.heap.size W W') : ∀ {ts : List TypeId} {vs : List Value} {ds : List (DataW H)} {ps : List MemPlace},
    (∀ t ∈ ts, Tryd.prog.readableRec t = true ∧ t < Tryd.prog.types.size) → DataW.TrodAll enc Tryd.prog W 0 (fun _ => true) true ts vs ds ps → (∀ x ∈ ps, x.block < W.heap.size) →
    DataW.TrodAll enc Tryd.prog W' 0 (fun b => decide (b < W.heap.size)) true ts vs ds ps
  | [], vs, ds, ps, _, h, _ => by
    obtain ⟨rfl, rfl, rfl⟩ := trodAll_nil h
    exact trodAll_mk0
  | t :: ts, vs, ds, ps, hr, h, hlt => by
    obtain ⟨v, vs', d, ds', p, q, rfl, rfl, rfl, h1, h2⟩ := trodAll_cons h
    obtain ⟨hr1, hr2⟩ := hr t (List.mem_cons_self ..)
    exact trodAll_cons_mk (Below.trod laidOut hr1 hr2 h1 hb (fun x hx => hlt x (List.mem_append_left _ hx))) (args_below hb (fun u hu => hr u (List.mem_cons_of_mem _ hu)) h2 (fun x hx => hlt x (List.mem_append_right _ hx)))
/-- a law that returns true and leaves what lay as it lay -/
theorem law_post {H : Type} {enc : TypeId × Value → H} {f : Func} {s : ChangeSpec} {W W' : World} {args : Array Value} {ds : List (DataW H)} {before : List MemPlace}
    (hW : DataW.Whole enc Tryd.prog f.params.toList s.vars false W args.toList ds [] before) (hv : s.vars = [])
    (e1 : (s.fn H (ds ++ [])).results = [.lit (.bool true)]) (e2 : (s.fn H (ds ++ [])).args = ds) (e3 : (s.fn H (ds ++ [])).vars = [])
    (hrt : f.resultTypes = #[4]) (hr : ∀ t ∈ f.params.toList, Tryd.prog.readableRec t = true ∧ t < Tryd.prog.types.size) (hb : Below W.heap.size W W') :
    s.post enc Tryd.prog f false true false false W args (.bool true) W' := by
  have hlt := hW.lt
  obtain ⟨p, q, hA, hV, rfl, hz, hn⟩ := id hW
  rw [hv] at hV
  obtain ⟨_, rfl⟩ := trodVars_none hV
  refine ⟨ds, [], p ++ [], [], p, [], hW, ?_, ?_, ?_, hb.frame _, fun h => by cases h⟩
  · rw [e1, hrt]
    exact trodAll_mk1 (shut_bool Tryd.underlying4 true)
  · rw [e2]
    exact args_below hb hr hA (fun x hx => hlt x (List.mem_append_left _ hx))
  · rw [e3, hv]
    exact rfl
end Go.Proofs.YtmhmnmdobnkbgaaDoor
namespace Go.Proofs.YtmhmnmdobnkbgaaDoor
open Go Go.ChangeShapes Go.WideShapes Go.ChangeAt Go.WideMaps Go.WideElems Go.RowKit Sm
set_option maxRecDepth 100000 in
theorem c28 : Tryd.prog.cellsOf 0x31 = 64 := by kernel_rfl
theorem toIv {n : Int} (h : (Lit.int .u32 n).wf = true) : ∃ x : BitVec 32, n = iv x := by
  simp [Lit.wf, IntKind.min, IntKind.max, IntKind.signed, IntKind.bits] at h
  refine ⟨BitVec.ofNat 32 n.toNat, ?_⟩
  unfold iv
  simp
  omega
theorem toIb {n : Int} (h : (Lit.int .u8 n).wf = true) : ib (BitVec.ofNat 8 n.toNat) = n := by
  simp [Lit.wf, IntKind.min, IntKind.max, IntKind.signed, IntKind.bits] at h
  unfold ib
  simp
  omega
theorem bd64 {k : IntKind} {n : Int} (hk : k = .i64) (h : (Lit.int k n).wf = true) : -9223372036854775808 ≤ n ∧ n ≤ 9223372036854775807 := by
  subst hk
  simp [Lit.wf, IntKind.min, IntKind.max, IntKind.signed, IntKind.bits] at h
  omega
set_option maxRecDepth 100000 in
/-- an array of numbers that came in -/
theorem open_nums {H : Type} {enc : TypeId × Value → H} {W : World} {base : Nat} {t e n : Nat} {k : IntKind} {v : Value} {d : DataW H} {p : List MemPlace} (ht : Tryd.prog.underlying t = some (.array n e)) (he : Tryd.prog.underlying e = some (.int k)) (hce : Tryd.prog.cellsOf e = 1) (hct : Tryd.prog.cellsOf t = n)
    (hok : Value.okWide Tryd.prog W .any base t v) (h : DataW.Trod enc Tryd.prog W 0 (fun _ => true) true t v d p) :
    ∃ zs : List Int, zs.length = n ∧ v = .agg (zs.map (Value.int k)).toArray ∧ ∀ z ∈ zs, (Lit.int k z).wf = true := by
  obtain ⟨cs, rfl⟩ : ∃ cs, v = .agg cs := by
    unfold Value.okWide at hok
    rw [ht] at hok
    obtain ⟨cs, rfl, _⟩ := hok
    exact ⟨cs, rfl⟩
  obtain ⟨fuel, hf⟩ := h
  simp only [Value.cells] at hf
  cases fuel with
  | zero => simp [DataW.trod] at hf
  | succ fuel =>
    simp only [DataW.trod, ht, hce, hct, Nat.mul_one] at hf
    split at hf
    · rename_i hl
      obtain ⟨xs, hm, _⟩ := Option.map_eq_some_iff.1 hf
      have hxl : xs.length = n := by simpa using Lib.mapM_length hm
      have key : ∀ i, i < n → ∃ z, cs.toList[i]? = some (.int k z) ∧ (Lit.int k z).wf = true := by
        intro i hi
        obtain ⟨b, hb, hf⟩ := Lib.mapM_at hm i i (by simp [hi])
        obtain ⟨z, hc, _, hw⟩ := DataW.trod_int he hf
        refine ⟨z, ?_, hw⟩
        have := congrArg (·[0]?) hc
        simpa [List.getElem?_take, List.getElem?_drop] using this
      have hall : ∀ c ∈ cs.toList, ∃ z, c = .int k z ∧ (Lit.int k z).wf = true := by
        intro c hc
        obtain ⟨i, hi, rfl⟩ := List.mem_iff_getElem.1 hc
        obtain ⟨z, hz, hw⟩ := key i (by rw [← hl]; exact hi)
        rw [List.getElem?_eq_getElem hi] at hz
        exact ⟨z, Option.some.inj hz, hw⟩
      have make : ∀ l : List Value, (∀ c ∈ l, ∃ z, c = .int k z ∧ (Lit.int k z).wf = true) → ∃ zs : List Int, l = zs.map (Value.int k) ∧ ∀ z ∈ zs, (Lit.int k z).wf = true := by
        intro l
        induction l with
        | nil => intro _; exact ⟨[], rfl, by simp⟩
        | cons c l ih =>
          intro h
          obtain ⟨z, rfl, hw⟩ := h c (by simp)
          obtain ⟨zs, rfl, hz⟩ := ih fun c hc => h c (by simp [hc])
          refine ⟨z :: zs, rfl, fun y hy => ?_⟩
          rcases List.mem_cons.1 hy with rfl | hy
          · exact hw
          · exact hz y hy
      obtain ⟨zs, hzs, hw⟩ := make _ hall
      refine ⟨zs, ?_, ?_, hw⟩
      · have := congrArg List.length hzs; simp at this; simp at hl; omega
      · rw [← hzs]
    · cases hf
set_option maxRecDepth 100000 in
theorem words_of {zs : List Int} (h : ∀ z ∈ zs, (Lit.int .u32 z).wf = true) : ∃ l : List (BitVec 32), zs.map (Value.int .u32) = wl l ∧ l.length = zs.length := by
  induction zs with
  | nil => exact ⟨[], rfl, rfl⟩
  | cons z zs ih =>
    obtain ⟨l, e, hl⟩ := ih fun y hy => h y (by simp [hy])
    obtain ⟨x, rfl⟩ := toIv (h z (by simp))
    exact ⟨x :: l, by rw [List.map_cons, e]; rfl, by simp [hl]⟩
set_option maxRecDepth 100000 in
theorem octs_of {zs : List Int} (h : ∀ z ∈ zs, (Lit.int .u8 z).wf = true) : ∃ l : List (BitVec 8), zs.map (Value.int .u8) = l.map byteCell ∧ l.length = zs.length := by
  induction zs with
  | nil => exact ⟨[], rfl, rfl⟩
  | cons z zs ih =>
    obtain ⟨l, e, hl⟩ := ih fun y hy => h y (by simp [hy])
    exact ⟨BitVec.ofNat 8 z.toNat :: l, by rw [List.map_cons, e, List.map_cons, byteCell, toIb (h z (by simp))], by simp [hl]⟩
set_option maxRecDepth 100000 in
theorem open_words {H : Type} {enc : TypeId × Value → H} {W : World} {base : Nat} {t n : Nat} {v : Value} {d : DataW H} {p : List MemPlace} (ht : Tryd.prog.underlying t = some (.array n 0x6e)) (hct : Tryd.prog.cellsOf t = n)
    (hok : Value.okWide Tryd.prog W .any base t v) (h : DataW.Trod enc Tryd.prog W 0 (fun _ => true) true t v d p) : ∃ l : List (BitVec 32), l.length = n ∧ v = .agg (wvs l) := by
  obtain ⟨zs, hl, rfl, hw⟩ := open_nums ht Tryd.underlying110 c22 hct hok h
  obtain ⟨l, e, hll⟩ := words_of hw
  exact ⟨l, by omega, by rw [e]; rfl⟩
set_option maxRecDepth 100000 in
theorem open_octs {H : Type} {enc : TypeId × Value → H} {W : World} {base : Nat} {t n : Nat} {v : Value} {d : DataW H} {p : List MemPlace} (ht : Tryd.prog.underlying t = some (.array n 5)) (hct : Tryd.prog.cellsOf t = n)
    (hok : Value.okWide Tryd.prog W .any base t v) (h : DataW.Trod enc Tryd.prog W 0 (fun _ => true) true t v d p) : ∃ l : List (BitVec 8), l.length = n ∧ v = .agg (l.map byteCell).toArray := by
  obtain ⟨zs, hl, rfl, hw⟩ := open_nums ht Tryd.underlying5 c5 hct hok h
  obtain ⟨l, e, hll⟩ := octs_of hw
  exact ⟨l, by omega, by rw [e]⟩
set_option maxRecDepth 100000 in
theorem open_q4 {H : Type} {enc : TypeId × Value → H} {W : World} {base : Nat} {v : Value} {d : DataW H} {p : List MemPlace} (hok : Value.okWide Tryd.prog W .any base 0xaa v) (h : DataW.Trod enc Tryd.prog W 0 (fun _ => true) true 0xaa v d p) : ∃ q : Q4, v = .agg q.cells := by
  obtain ⟨l, hl, rfl⟩ := open_words Tryd.underlying170 c23 hok h
  match l, hl with
  | [a, b, c, e], _ => exact ⟨⟨a, b, c, e⟩, rfl⟩
end Go.Proofs.YtmhmnmdobnkbgaaDoor
namespace Go.Proofs.YtmhmnmdobnkbgaaDoor
open Go Go.ChangeShapes Go.WideShapes Go.ChangeAt Go.WideMaps Go.WideElems Go.RowKit Sm
/-- bytes that came in: their address, length and room, and what they are -/
theorem bytes_of_trod {H : Type} {enc : TypeId × Value → H} {W : World} {fuel : Nat} {cs : List Value} {x : DataW H × List MemPlace} (h : DataW.trod enc Tryd.prog W 0 (fun _ => true) true fuel 0x16 cs = some x) :
    ∃ A n c l, cs = [.slice A n c] ∧ l.length = n ∧ n ≤ c ∧ c ≤ 9223372036854775807 ∧ Rd W W.heap.size A l := by
  rcases open_ints Tryd.underlying22 Tryd.underlying5 c5 h with ⟨rfl, _⟩ | ⟨a, len, cap, zs, rfl, _, hl, hm, hz, _, hcell, hwz⟩
  · exact ⟨none, 0, 0, [], rfl, rfl, Nat.le_refl _, by omega, Rd.nil⟩
  · simp at hz
    refine ⟨some a, len, cap, (zs.take len).map (fun n => BitVec.ofNat 8 n.toNat), rfl, by simp; omega, hl, by unfold maxLen at hm; omega, ?_⟩
    intro h0
    have hp : 0 < zs.length := by simp at h0; omega
    obtain ⟨b, off, rfl, hc⟩ := ints_at hcell hp
    refine ⟨b, off, rfl, World.block_lt_of_cell? W _ (hc 0 hp), fun j c hj => ?_⟩
    rw [List.getElem?_map, List.getElem?_take] at hj
    split at hj
    · rename_i hjl
      have hjz : j < zs.length := by omega
      rw [List.getElem?_eq_getElem hjz] at hj
      simp only [Option.map_some, Option.some.injEq] at hj
      subst hj
      rw [hc j hjz, toIb (hwz _ (List.getElem_mem hjz))]
      congr 2
      simp [List.getD_eq_getElem?_getD, hjz]
    · simp at hj
set_option maxRecDepth 100000 in
set_option maxHeartbeats 1000000 in
theorem open_bytes {H : Type} {enc : TypeId × Value → H} {W : World} {base : Nat} {v : Value} {d : DataW H} {p : List MemPlace} (hok : Value.okWide Tryd.prog W .any base 0x16 v) (h : DataW.Trod enc Tryd.prog W 0 (fun _ => true) true 0x16 v d p) :
    ∃ A n c l, v = .slice A n c ∧ l.length = n ∧ n ≤ c ∧ c ≤ 9223372036854775807 ∧ Rd W W.heap.size A l := by
  obtain ⟨a0, len, cap, rfl⟩ := okWide_slice Tryd.underlying22 hok
  obtain ⟨fuel, hf⟩ := h
  obtain ⟨A, n, c, l, hcs, h1, h2, h3, h4⟩ := bytes_of_trod (cs := [.slice a0 len cap]) (by simpa [Value.cells] using hf)
  simp only [List.cons.injEq, and_true] at hcs
  exact ⟨A, n, c, l, hcs, h1, h2, h3, h4⟩
end Go.Proofs.YtmhmnmdobnkbgaaDoor
namespace Go.Proofs.YtmhmnmdobnkbgaaDoor
open Go Go.ChangeShapes Go.WideShapes Go.ChangeAt Go.WideMaps Go.WideElems Go.RowKit Go.Deep Sm
theorem c30 : Tryd.prog.cellsOf 0x16 = 1 := by kernel_rfl
set_option maxRecDepth 100000 in
theorem rd_of_cells {W : World} {a : Addr} {len : Nat} {zs : List Int} (hcell : ∀ i, i < zs.length → W.cell? (a.add i) = some (.int .u8 (zs.getD i 0))) (hwz : ∀ n ∈ zs, (Lit.int .u8 n).wf = true) :
    Rd W W.heap.size (some a) ((zs.take len).map (fun n => BitVec.ofNat 8 n.toNat)) := by
  intro h0
  have hp : 0 < zs.length := by simp at h0; omega
  obtain ⟨b, off, rfl, hc⟩ := ints_at hcell hp
  refine ⟨b, off, rfl, World.block_lt_of_cell? W _ (hc 0 hp), fun j c hj => ?_⟩
  rw [List.getElem?_map, List.getElem?_take] at hj
  split at hj
  · have hjz : j < zs.length := by
      rcases Nat.lt_or_ge j zs.length with h | h
      · exact h
      · rw [List.getElem?_eq_none h] at hj; simp at hj
    rw [List.getElem?_eq_getElem hjz] at hj
    simp only [Option.map_some, Option.some.injEq] at hj
    subst hj
    rw [hc j hjz, toIb (hwz _ (List.getElem_mem hjz))]
    congr 2
    simp [List.getD_eq_getElem?_getD, hjz]
  · simp at hj
set_option maxRecDepth 100000 in
/-- parts that came in -/
theorem open_psc {H : Type} {enc : TypeId × Value → H} {W : World} {base : Nat} {v : Value} {d : DataW H} {p : List MemPlace} (hok : Value.okWide Tryd.prog W .any base 0x17 v) (h : DataW.Trod enc Tryd.prog W 0 (fun _ => true) true 0x17 v d p) :
    ∃ A n c ps, v = .slice A n c ∧ n ≤ c ∧ n ≤ 9223372036854775807 ∧ PsC W A n ps := by
  obtain ⟨a0, len, cap, rfl⟩ := okWide_slice Tryd.underlying23 hok
  obtain ⟨fuel, hf⟩ := h
  rcases open_int_rows Tryd.underlying23 Tryd.underlying22 Tryd.underlying5 c30 c5 (cs := [.slice a0 len cap]) (by simpa [Value.cells] using hf) with ⟨hcs, _⟩ | ⟨a, len', cap', A, L, C, Z, hcs, _, hl, hm, _, hr⟩
  · simp only [List.cons.injEq, and_true] at hcs
    exact ⟨none, 0, 0, [], hcs, Nat.le_refl _, by omega, ⟨rfl, (fun h => absurd h (by simp)), fun q hq => by cases hq⟩⟩
  · simp only [List.cons.injEq, and_true] at hcs
    refine ⟨some a, len', cap', (List.range len').map (fun r => ⟨A r, L r, C r, ((Z r).take (L r)).map (fun n => BitVec.ofNat 8 n.toNat)⟩), hcs, hl, by unfold maxLen at hm; omega, ⟨by simp, ?_, ?_⟩⟩
    · intro h0
      have hp : 0 < len' := by simpa using h0
      have c0 := (hr 0 (by omega)).1
      obtain ⟨b, off, spot⟩ := a
      have hspot : spot = none := by simpa [Addr.add] using World.cell?_spot c0
      subst hspot
      have hb : b < W.heap.size := by
        have := World.block_lt_of_cell? W _ c0
        rw [Go.WideShapes.add_plain] at this
        exact this
      refine ⟨b, off, rfl, hb, id, fun j q hj => ?_⟩
      rw [List.getElem?_map, List.getElem?_map] at hj
      obtain ⟨r0, hr0, rfl⟩ := Option.map_eq_some_iff.1 hj
      obtain ⟨r, hr1, rfl⟩ := Option.map_eq_some_iff.1 hr0
      have hjl : j < len' := by have := (List.getElem?_eq_some_iff.1 hr1).1; simpa using this
      obtain rfl : j = r := by rw [List.getElem?_range hjl] at hr1; exact Option.some.inj hr1
      have := (hr j (by omega)).1
      rw [Go.WideShapes.add_plain] at this
      exact this
    · intro q hq
      obtain ⟨r, hr1, rfl⟩ := List.mem_map.1 hq
      have hrl : r < len' := by simpa using hr1
      obtain ⟨_, h2, h3, h4, h5, h6, h7⟩ := hr r (by omega)
      refine ⟨by simp; omega, by show L r ≤ C r; omega, by show C r ≤ 9223372036854775807; unfold maxLen at h3; omega, ?_⟩
      rcases hA : A r with _ | a'
      · have hc0 := h6 hA
        intro hpos
        simp at hpos
        omega
      · exact rd_of_cells (fun i hi => (h7 a' hA).2 i (by omega)) h5
end Go.Proofs.YtmhmnmdobnkbgaaDoor
