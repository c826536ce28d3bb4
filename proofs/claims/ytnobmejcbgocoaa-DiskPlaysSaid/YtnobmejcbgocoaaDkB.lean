/-
  find: the file of a name. Conditions: as each theorem names them.
-/
import Derived.Deep.RegionWith
import Derived.Deep.RegionHeldLaw
import Derived.Deep.CutRange
import Derived.Deep.DeepCutAuto
import Derived.Test.YtnobmejcbgocoaaShf
import Derived.Test.YtnobmejcbgocoaaDkA
namespace Go.Proofs
open Go Go.RowKit Sm Go.Lib Go.Maps Go.WideMaps
attribute [local go_sem] Oper.semAt_some
def Sm.zeroF : Value := .agg #[.slice none 0 0, .int .i64 0]
theorem Sm.law9 : Keyed Try.prog 9 := string_keyed Try.underlying9
theorem Sm.zero79 (w : World) : (zeroValue 79).run Try.prog w = .ok zeroF w := by kernel_rfl
theorem Sm.key_str (x : ByteArray) (hx : x.size ≤ 1000000) : keyOf Try.prog 9 (.string x) = some (keyN (strL x)) := by
  have h : nmU (strL x) = x.data.toList := by unfold nmU; rw [strB_strL]
  unfold keyN
  rw [h]
  exact keyOf_string_mk Try.underlying9 (by unfold maxLen; omega)
theorem Sm.held_inj {v u : Value} {ps : List MemPlace} (h : heldElem v = some (.held u, ps)) : v = u := by
  unfold heldElem at h
  simp only [Option.some.injEq, Prod.mk.injEq, DataW.held.injEq] at h
  exact h.1
/-- what a look at the map tells -/
theorem Sm.look_some {w : World} {Mb : Nat} {D : DataW Value} {G : List FileM} {n : Nat} (h : w.ownsMap Try.prog 9 heldElem Mb n D) (hD : MapIs D G) {f : FileM} (hf : f ∈ G) {x : ByteArray} (hx : strL x = f.name) (hxz : x.size ≤ 1000000) (ok : Bool) :
    (Instr.lookup 33 (.map (some Mb)) (.string x) ok).run Try.prog w = .ok (if ok then .tuple #[f.val, .bool true] else f.val) w := by
  have hk := key_str x hxz
  rw [hx] at hk
  obtain ⟨h1, h2⟩ := hD.here f hf
  cases ok with
  | true =>
    obtain ⟨v, ps, hr, hv⟩ := h.look_ok law9 Try.underlying33 (zero79 w) (zd := .held zeroF) (zp := []) rfl hk
    rw [h1] at hr
    rw [h2] at hv
    have hv := held_inj hv
    rw [if_pos rfl]
    rw [hv] at hr
    exact hr
  | false =>
    obtain ⟨v, ps, hr, hv⟩ := h.lookup law9 Try.underlying33 (zero79 w) (zd := .held zeroF) (zp := []) rfl hk
    rw [h2] at hv
    have hv := held_inj hv
    rw [if_neg Bool.false_ne_true]
    rw [hv] at hr
    exact hr
theorem Sm.look_none {w : World} {Mb : Nat} {D : DataW Value} {G : List FileM} {n : Nat} (h : w.ownsMap Try.prog 9 heldElem Mb n D) (hD : MapIs D G) {x : ByteArray} (hx : ∀ f ∈ G, f.name ≠ strL x) (hxz : x.size ≤ 1000000) (ok : Bool) :
    (Instr.lookup 33 (.map (some Mb)) (.string x) ok).run Try.prog w = .ok (if ok then .tuple #[zeroF, .bool false] else zeroF) w := by
  have hk := key_str x hxz
  have h1 := hD.only _ hx
  have h2 : ∀ z, D.atKey (keyN (strL x)) z = z := fun z => atKey_of_not_has h1 z
  cases ok with
  | true =>
    obtain ⟨v, ps, hr, hv⟩ := h.look_ok law9 Try.underlying33 (zero79 w) (zd := .held zeroF) (zp := []) rfl hk
    rw [h1] at hr
    rw [h2] at hv
    have hv := held_inj hv
    rw [if_pos rfl]
    rw [hv] at hr
    exact hr
  | false =>
    obtain ⟨v, ps, hr, hv⟩ := h.lookup law9 Try.underlying33 (zero79 w) (zd := .held zeroF) (zp := []) rfl hk
    rw [h2] at hv
    have hv := held_inj hv
    rw [if_neg Bool.false_ne_true]
    rw [hv] at hr
    exact hr
theorem Sm.heap_setCells {w : World} {B i : Nat} {cs : Array Value} {u : Value} {t : TypeId} {fr : Nat × Nat} (h : w.heap[B]? = some (.cells cs t fr)) : (w.setCell ⟨B, i, none⟩ u).heap[B]? = some (.cells (cs.setIfInBounds i u) t fr) := by
  show (w.heap.modify B _)[B]? = _
  rw [Array.getElem?_modify, if_pos rfl, h]
  rfl
theorem Sm.file_cells {W : World} {B : Nat} {x y u v : Value} (h : W.heap[B]? = some (.cells #[x, y] 79 (0, 0))) : ((W.setCell ⟨B, 0, none⟩ u).setCell ⟨B, 1, none⟩ v).heap[B]? = some (.cells #[u, v] 79 (0, 0)) :=
  heap_setCells (i := 1) (u := v) (heap_setCells (i := 0) (u := u) h)
theorem Sm.find_no {v : Value} (A : Option Addr) (n c : Nat) (w : World) (h : NoDisk w v) : Calls Try.prog 36 #[v, .slice A n c] w fun e w' => e = .returned (.tuple #[zeroF, .int .i64 1]) ∧ Below w.heap.size w w' := by
  have hb0 : Below w.heap.size w (w.alloc (.cells #[.slice none 0 0, .int .i64 0] 79)) := (Below.refl _ w).alloc (Nat.le_refl _) _
  have hc := check_no A n c _ (h.keep hb0)
  clear h
  go_enter Try.func36, Try.ntmps36
  go_wp2_with (go_at_call 45; (with_reducible refine hc.mono ?_); rintro e w1 ⟨rfl, hb1⟩; have hr1 : w1.heap[w.heap.size]? = some (.cells #[.slice none 0 0, .int .i64 0] 79 (0, 0)) := (hb1.block _ (by simp)).trans (World.alloc_heap_new w _); have r0 := cell_of_heap hr1 0; have r1 := cell_of_heap hr1 1; have f0 := frozen_of_heap hr1 0; have f1 := frozen_of_heap hr1 1; simp only [List.getElem?_toArray, List.getElem?_cons_zero, List.getElem?_cons_succ] at r0 r1)
  have hz := file_cells (u := .slice none 0 0) (v := .int .i64 0) hr1
  have z0 := cell_of_heap hz 0
  have z1 := cell_of_heap hz 1
  simp only [List.getElem?_toArray, List.getElem?_cons_zero, List.getElem?_cons_succ] at z0 z1
  exact bodyPost_ret (v := .tuple #[zeroF, .int .i64 1]) (by simp [results, Try.results36, go_sem, z0, z1, zeroF]) rfl ⟨rfl, ((hb0.trans (hb1.mono hb0.size)).setCell (p := ⟨w.heap.size, 0, none⟩) (Nat.le_refl _) _).setCell (p := ⟨w.heap.size, 1, none⟩) (Nat.le_refl _) _⟩
theorem Sm.find_bad {p Mb base : Nat} {s : DSt} {G : List FileM} (A : Option Addr) (n c : Nat) (xs : List ByteArray) (w : World) (h : DAt w p Mb base s G) (hx : RowT w A xs) (hn : xs.length = n) (hc : n ≤ c) (hn2 : n ≤ 1000) (hs : ∀ x ∈ xs, x.size ≤ 1000000) (hbad : chkN xs = 170) :
    Calls Try.prog 36 #[.pointer (some ⟨p, 0, none⟩), .slice A n c] w fun e w' => e = .returned (.tuple #[zeroF, .int .i64 170]) ∧ Below w.heap.size w w' := by
  have hb0 : Below w.heap.size w (w.alloc (.cells #[.slice none 0 0, .int .i64 0] 79)) := (Below.refl _ w).alloc (Nat.le_refl _) _
  have hc := check_yes A n c xs _ (h.keep hb0) (hx.keep hb0) hn hc hn2 hs
  rw [hbad] at hc
  clear h hx
  go_enter Try.func36, Try.ntmps36
  go_wp2_with (go_at_call 45; (with_reducible refine hc.mono ?_); rintro e w1 ⟨rfl, hb1⟩; have hr1 : w1.heap[w.heap.size]? = some (.cells #[.slice none 0 0, .int .i64 0] 79 (0, 0)) := (hb1.block _ (by simp)).trans (World.alloc_heap_new w _); have r0 := cell_of_heap hr1 0; have r1 := cell_of_heap hr1 1; have f0 := frozen_of_heap hr1 0; have f1 := frozen_of_heap hr1 1; simp only [List.getElem?_toArray, List.getElem?_cons_zero, List.getElem?_cons_succ] at r0 r1)
  have hz := file_cells (u := .slice none 0 0) (v := .int .i64 0) hr1
  have z0 := cell_of_heap hz 0
  have z1 := cell_of_heap hz 1
  simp only [List.getElem?_toArray, List.getElem?_cons_zero, List.getElem?_cons_succ] at z0 z1
  exact bodyPost_ret (v := .tuple #[zeroF, .int .i64 170]) (by simp [results, Try.results36, go_sem, z0, z1, zeroF]) rfl ⟨rfl, ((hb0.trans (hb1.mono hb0.size)).setCell (p := ⟨w.heap.size, 0, none⟩) (Nat.le_refl _) _).setCell (p := ⟨w.heap.size, 1, none⟩) (Nat.le_refl _) _⟩
set_option maxRecDepth 100000 in
set_option maxHeartbeats 2000000 in
theorem Sm.find_some {p Mb base : Nat} {s : DSt} {G : List FileM} (A : Option Addr) (n c : Nat) (x : ByteArray) (r : List ByteArray) (w : World) (h : DAt w p Mb base s G) (hx : RowT w A (x :: r)) (hn : (x :: r).length = n) (hc : n ≤ c) (hn2 : n ≤ 1000) (hs : ∀ y ∈ x :: r, y.size ≤ 1000000) (hok : chkN (x :: r) = 0) {f : FileM} (hf : f ∈ G) (hxf : strL x = f.name) :
    Calls Try.prog 36 #[.pointer (some ⟨p, 0, none⟩), .slice A n c] w fun e w' => e = .returned (.tuple #[f.val, .int .i64 0]) ∧ Below w.heap.size w w' := by
  have hb0 : Below w.heap.size w (w.alloc (.cells #[.slice none 0 0, .int .i64 0] 79)) := (Below.refl _ w).alloc (Nat.le_refl _) _
  have hck := check_yes A n c (x :: r) _ (h.keep hb0) (hx.keep hb0) hn hc hn2 hs
  rw [hok] at hck
  have hxz : x.size ≤ 1000000 := hs x (by simp)
  obtain ⟨g, rfl, hg, hcl⟩ : ∃ g, A = some ⟨g, 0, none⟩ ∧ g < w.heap.size ∧ ∀ j (h : j < (x :: r).length), w.cell? ⟨g, j, none⟩ = some (.string (x :: r)[j]) := by
    rcases hx with e | e
    · cases e
    · exact e
  have hx0 : w.cell? ⟨g, 0, none⟩ = some (.string x) := hcl 0 (by simp)
  have hn1 : 0 < n := by rw [← hn]; simp
  have hpl := (Array.getElem?_eq_some_iff.1 h.blk).1
  have hS : ∀ W, Below w.heap.size w W → W.cell? ⟨p, 5, none⟩ = some (.map (some Mb)) ∧ W.cell? ⟨g, 0, none⟩ = some (.string x) ∧ (Instr.lookup 33 (.map (some Mb)) (.string x) true).run Try.prog W = .ok (.tuple #[.agg #[.slice f.A f.bytes.length f.c, .int .i64 (f.sure : Int)], .bool true]) W := fun W hb => by
    have hW := h.keep hb
    obtain ⟨D, hD1, hD2⟩ := hW.map
    have c5 := cell_of_heap hW.blk 5
    exact ⟨c5, (hb.cell (p := ⟨g, 0, none⟩) hg).trans hx0, look_some hD1 hD2 hf hxf hxz true⟩
  have HS := Lib.hid hS
  clear h hx hcl hx0 hS
  go_enter Try.func36, Try.ntmps36
  go_upto_region 4 with (go_at_call 45; (with_reducible refine hck.mono ?_); rintro e w1 ⟨rfl, hb1⟩; have hr1 : w1.heap[w.heap.size]? = some (.cells #[.slice none 0 0, .int .i64 0] 79 (0, 0)) := (hb1.block _ (by simp)).trans (World.alloc_heap_new w _); have r0 := cell_of_heap hr1 0; have r1 := cell_of_heap hr1 1; have f0 := frozen_of_heap hr1 0; have f1 := frozen_of_heap hr1 1; simp only [List.getElem?_toArray, List.getElem?_cons_zero, List.getElem?_cons_succ] at r0 r1; have HB1 := Lib.hid (hb0.trans (hb1.mono hb0.size)); have hl1 : w.heap.size < w1.heap.size := (Array.getElem?_eq_some_iff.1 hr1).1; have hw1 := hb0.size; have q0 := HS.out w1 HB1.out; clear hb1)
  go_region_held_law (fun W => W.cell? ⟨p, 5, none⟩ = some (.map (some Mb)) ∧ W.cell? ⟨g, 0, none⟩ = some (.string x) ∧ (Instr.lookup 33 (.map (some Mb)) (.string x) true).run Try.prog W = .ok (.tuple #[.agg #[.slice f.A f.bytes.length f.c, .int .i64 (f.sure : Int)], .bool true]) W)
    (first | exact q0 | (refine HS.out _ ?_; repeat' (first | exact HB1.out | refine Below.drew ?_ | refine Below.alloc ?_ ?_ _ | refine Below.setCell ?_ ?_ _ | (simp; done) | (simp; omega) | omega)))
    (fail)
  all_goals
    go_wp2
    have hrX := (Below.heap_alloc ((w1.setCell ⟨w.heap.size, 0, none⟩ (.slice f.A f.bytes.length f.c)).setCell ⟨w.heap.size, 1, none⟩ (.int .i64 (f.sure : Int))) (.cells #[.slice f.A f.bytes.length f.c, .int .i64 (f.sure : Int)] 79) _ (by simp; exact hl1)).trans (file_cells (u := .slice f.A f.bytes.length f.c) (v := .int .i64 (f.sure : Int)) hr1)
    have z0 := cell_of_heap hrX 0
    have z1 := cell_of_heap hrX 1
    simp only [List.getElem?_toArray, List.getElem?_cons_zero, List.getElem?_cons_succ] at z0 z1
    refine bodyPost_ret (v := .tuple #[f.val, .int .i64 0]) ?_ rfl ⟨rfl, ?_⟩
    · simp [results, Try.results36, go_sem, z0, z1, FileM.val, FileM.sl]
    · repeat' (first | exact HB1.out | refine Below.drew ?_ | refine Below.alloc ?_ ?_ _ | refine Below.setCell ?_ ?_ _ | (simp; done) | (simp; omega) | omega)
set_option maxRecDepth 100000 in
set_option maxHeartbeats 2000000 in
theorem Sm.find_none {p Mb base : Nat} {s : DSt} {G : List FileM} (A : Option Addr) (n c : Nat) (x : ByteArray) (r : List ByteArray) (w : World) (h : DAt w p Mb base s G) (hx : RowT w A (x :: r)) (hn : (x :: r).length = n) (hc : n ≤ c) (hn2 : n ≤ 1000) (hs : ∀ y ∈ x :: r, y.size ≤ 1000000) (hok : chkN (x :: r) = 0) (hno : ∀ f ∈ G, f.name ≠ strL x) :
    Calls Try.prog 36 #[.pointer (some ⟨p, 0, none⟩), .slice A n c] w fun e w' => e = .returned (.tuple #[zeroF, .int .i64 5]) ∧ Below w.heap.size w w' := by
  have hb0 : Below w.heap.size w (w.alloc (.cells #[.slice none 0 0, .int .i64 0] 79)) := (Below.refl _ w).alloc (Nat.le_refl _) _
  have hck := check_yes A n c (x :: r) _ (h.keep hb0) (hx.keep hb0) hn hc hn2 hs
  rw [hok] at hck
  have hxz : x.size ≤ 1000000 := hs x (by simp)
  obtain ⟨g, rfl, hg, hcl⟩ : ∃ g, A = some ⟨g, 0, none⟩ ∧ g < w.heap.size ∧ ∀ j (h : j < (x :: r).length), w.cell? ⟨g, j, none⟩ = some (.string (x :: r)[j]) := by
    rcases hx with e | e
    · cases e
    · exact e
  have hx0 : w.cell? ⟨g, 0, none⟩ = some (.string x) := hcl 0 (by simp)
  have hn1 : 0 < n := by rw [← hn]; simp
  have hpl := (Array.getElem?_eq_some_iff.1 h.blk).1
  have hS : ∀ W, Below w.heap.size w W → W.cell? ⟨p, 5, none⟩ = some (.map (some Mb)) ∧ W.cell? ⟨g, 0, none⟩ = some (.string x) ∧ (Instr.lookup 33 (.map (some Mb)) (.string x) true).run Try.prog W = .ok (.tuple #[.agg #[.slice none 0 0, .int .i64 0], .bool false]) W := fun W hb => by
    have hW := h.keep hb
    obtain ⟨D, hD1, hD2⟩ := hW.map
    have c5 := cell_of_heap hW.blk 5
    exact ⟨c5, (hb.cell (p := ⟨g, 0, none⟩) hg).trans hx0, look_none hD1 hD2 hno hxz true⟩
  have HS := Lib.hid hS
  clear h hx hcl hx0 hS
  go_enter Try.func36, Try.ntmps36
  go_upto_region 4 with (go_at_call 45; (with_reducible refine hck.mono ?_); rintro e w1 ⟨rfl, hb1⟩; have hr1 : w1.heap[w.heap.size]? = some (.cells #[.slice none 0 0, .int .i64 0] 79 (0, 0)) := (hb1.block _ (by simp)).trans (World.alloc_heap_new w _); have r0 := cell_of_heap hr1 0; have r1 := cell_of_heap hr1 1; have f0 := frozen_of_heap hr1 0; have f1 := frozen_of_heap hr1 1; simp only [List.getElem?_toArray, List.getElem?_cons_zero, List.getElem?_cons_succ] at r0 r1; have HB1 := Lib.hid (hb0.trans (hb1.mono hb0.size)); have hl1 : w.heap.size < w1.heap.size := (Array.getElem?_eq_some_iff.1 hr1).1; have hw1 := hb0.size; have q0 := HS.out w1 HB1.out; clear hb1)
  go_region_held_law (fun W => W.cell? ⟨p, 5, none⟩ = some (.map (some Mb)) ∧ W.cell? ⟨g, 0, none⟩ = some (.string x) ∧ (Instr.lookup 33 (.map (some Mb)) (.string x) true).run Try.prog W = .ok (.tuple #[.agg #[.slice none 0 0, .int .i64 0], .bool false]) W)
    (first | exact q0 | (refine HS.out _ ?_; repeat' (first | exact HB1.out | refine Below.drew ?_ | refine Below.alloc ?_ ?_ _ | refine Below.setCell ?_ ?_ _ | (simp; done) | (simp; omega) | omega)))
    (fail)
  all_goals
    go_wp2
    have hrX := (Below.heap_alloc ((w1.setCell ⟨w.heap.size, 0, none⟩ (.slice none 0 0)).setCell ⟨w.heap.size, 1, none⟩ (.int .i64 0)) (.cells #[.slice none 0 0, .int .i64 0] 79) _ (by simp; exact hl1)).trans (file_cells (u := .slice none 0 0) (v := .int .i64 0) hr1)
    have z0 := cell_of_heap hrX 0
    have z1 := cell_of_heap hrX 1
    simp only [List.getElem?_toArray, List.getElem?_cons_zero, List.getElem?_cons_succ] at z0 z1
    refine bodyPost_ret (v := .tuple #[zeroF, .int .i64 5]) ?_ rfl ⟨rfl, ?_⟩
    · simp [results, Try.results36, go_sem, z0, z1, zeroF]
    · repeat' (first | exact HB1.out | refine Below.drew ?_ | refine Below.alloc ?_ ?_ _ | refine Below.setCell ?_ ?_ _ | (simp; done) | (simp; omega) | omega)
end Go.Proofs
