/-
  A step of the document's disk. Conditions: as each theorem names them.
-/
import Derived.Test.YtnobmejcbgocoaaPop
import Derived.Test.YtnobmejcbgocoaaRfD
namespace Go.Proofs
open Go Go.RowKit Sm Go.Lib Go.Maps Go.WideMaps
attribute [local go_sem] Oper.semAt_some
/-- how a disk that is not to stop stands -/
def Sm.EndOK (s : DSt) : Prop := (s.stops = false → s.after = 0) ∧ (s.dead = true → s.stops = false) ∧ 0 ≤ s.after ∧ s.after ≤ 9223372036854775807
theorem Sm.EndOK.next {s : DSt} (h : EndOK s) : EndOK (nextD s) := by
  obtain ⟨st, af, de, ro⟩ := s
  obtain ⟨h1, h2, h3, h4⟩ := h
  dsimp only at h1 h2 h3 h4
  unfold nextD nextS
  dsimp only
  cases st with
  | false =>
    rw [if_pos rfl]
    exact ⟨h1, h2, h3, h4⟩
  | true =>
    rw [if_neg (by decide)]
    split
    · exact ⟨fun _ => rfl, fun _ => rfl, Int.le_refl _, by show (0 : Int) ≤ _; decide⟩
    · exact ⟨fun e => absurd (show true = false from e) (by decide), fun e => absurd (show false = true from e) (by decide), (by show 0 ≤ af - 1; omega), (by show af - 1 ≤ 9223372036854775807; omega)⟩
theorem Sm.set5 {W : World} {B : Nat} {a b c d e : Value} {t : TypeId} (h : W.heap[B]? = some (.cells #[a, b, c, d, e] t (0, 0))) (v0 v1 v2 v3 v4 : Value) :
    (((((W.setCell ⟨B, 0, none⟩ v0).setCell ⟨B, 1, none⟩ v1).setCell ⟨B, 2, none⟩ v2).setCell ⟨B, 3, none⟩ v3).setCell ⟨B, 4, none⟩ v4).heap[B]? = some (.cells #[v0, v1, v2, v3, v4] t (0, 0)) :=
  heap_setCells (i := 4) (u := v4) (heap_setCells (i := 3) (u := v3) (heap_setCells (i := 2) (u := v2) (heap_setCells (i := 1) (u := v1) (heap_setCells (i := 0) (u := v0) h))))
theorem Sm.cells5 {W : World} {B : Nat} {a b c d e : Value} {t : TypeId} (h : W.heap[B]? = some (.cells #[a, b, c, d, e] t (0, 0))) : W.cell? ⟨B, 0, none⟩ = some a ∧ W.cell? ⟨B, 1, none⟩ = some b ∧ W.cell? ⟨B, 2, none⟩ = some c ∧ W.cell? ⟨B, 3, none⟩ = some d ∧ W.cell? ⟨B, 4, none⟩ = some e :=
  ⟨cell_of_heap h 0, cell_of_heap h 1, cell_of_heap h 2, cell_of_heap h 3, cell_of_heap h 4⟩
/-- a step's end: the disk dead, or the files as they are then -/
structure Sm.DoAt (S : Nat → Prop) (w w' : World) (v : Value) (s : DSt) (L : List (List (BitVec 8) × List (BitVec 8) × Nat)) (e : Int) : Prop where
  mk ::
  at_ : ∃ A n c fs, v = .tuple #[refV s A n c, .int .i64 e] ∧ FsAt S w' A fs ∧ fs.length = n ∧ fs.map (fun f => f.t) = L
  below : Below w.heap.size w w'
theorem Sm.Rds.rd {W : World} {S : Nat → Prop} {A : Option Addr} {l : List (BitVec 8)} (h : Rds W S A (l.map byteCell)) : Rd W W.heap.size A l := fun h0 => by
  obtain ⟨b, off, e, hb, _, hc⟩ := h (by simpa using h0)
  exact ⟨b, off, e, hb, fun j c hj => hc j _ (by rw [List.getElem?_map, hj]; rfl)⟩
theorem Sm.Rds.takeB {W : World} {S : Nat → Prop} {A : Option Addr} {l : List (BitVec 8)} (h : Rds W S A (l.map byteCell)) (k : Nat) : Rds W S A ((l.take k).map byteCell) := fun h0 => by
  rw [List.length_map, List.length_take] at h0
  obtain ⟨b, off, e, hb, hn, hc⟩ := h (by rw [List.length_map]; omega)
  refine ⟨b, off, e, hb, hn, fun j c hj => hc j c ?_⟩
  have hjl := (List.getElem?_eq_some_iff.1 hj).1
  rw [List.length_map, List.length_take] at hjl
  rw [List.getElem?_map, List.getElem?_take_of_lt (by omega)] at hj
  rw [List.getElem?_map]
  exact hj
theorem Sm.usedR_le {fs : List FileR} {f : FileR} (h : f ∈ fs) : f.t.2.1.length ≤ usedR fs := by
  induction fs with
  | nil => cases h
  | cons x r ih =>
    unfold usedR at ih ⊢
    simp only [List.map_cons, List.sum_cons] at ih ⊢
    rcases List.mem_cons.1 h with e | e
    · subst e; omega
    · have := ih e; omega
theorem Sm.own_caps {W : World} {base n c : Nat} {A : Option Addr} {xs : List Value} {m : Nat} (h : W.ownsRow base 5 1 (.slice A n c) n xs) (hm : m = n) : m ≤ c ∧ c ≤ 9223372036854775807 := by
  subst hm
  rcases h.2 with ⟨h1, h2⟩ | ⟨g, cap, cur, h1, _, _, h2, h3, _⟩
  · injection h1 with _ e1 e2
    subst e2
    exact ⟨by omega, by omega⟩
  · injection h1 with _ _ e2
    subst e2
    have : maxLen ≤ 9223372036854775807 := by unfold maxLen; decide
    exact ⟨h2, by omega⟩
theorem Sm.own_rds {W : World} {S : Nat → Prop} {base n c : Nat} {A : Option Addr} {xs : List Value} (h : W.ownsRow base 5 1 (.slice A n c) n xs) (hS : ∀ b, S b → b < base) : Rds W S A xs := fun h0 => by
  have hx := h.1
  obtain ⟨g, cap, hv, _⟩ := h.form (by omega)
  injection hv with hv1 _ _
  subst hv1
  have hlt := h.lt g rfl
  refine ⟨g, 0, rfl, hlt.2, fun e => by have := hS g e; omega, fun j v hj => ?_⟩
  have hjl := (List.getElem?_eq_some_iff.1 hj).1
  rw [Nat.zero_add, h.cellAt j (by omega)]
  exact hj
theorem Sm.opWp_append_rd {P : Program} (w : World) {o : Oper} {a : Act} {K : Act → World → Prop} {Q : Exit → Act → World → Prop} (d : Nat) (hd : o.dst = some d) (s x : Operand) (t : TypeId)
    (ho : o.op = .call { callee := .builtin .append, args := #[s, x], argTypes := #[t, t] })
    (base : Nat) (e : TypeId) (i : TypeInfo) (z : Value) (ht : P.underlying t = some (.slice e)) (hi : P.info? e = some i) (hz : i.zero = some z)
    (hsize : i.size = 1) (hby : i.bytes = 1) (hzs : z.cells.size = 1)
    (v : Value) (n : Nat) (xs : List Value) (hs : a.eval s = v) (hown : w.ownsRow base e 1 v n xs)
    (B : Nat) (A : Option Addr) (m c : Nat) (l : List (BitVec 8)) (hx : a.eval x = .slice A m c) (hl : l.length = m) (hr : Rd w B A l) (hnm : n + m ≤ 1000000000) (hbase : base ≤ w.heap.size)
    (h : ∀ v' w', w'.ownsRow base e 1 v' (n + m) (xs ++ l.map byteCell) → w.grownBy w' v.ownBlock → (v'.ownBlock = v.ownBlock ∨ v'.ownBlock = some w.heap.size) → K (a.put (some d) v') w') :
    Oper.wp P o a w K Q := by
  obtain ⟨v', w', hr', h2, h3, h4⟩ := run_append_rd (P := P) w base t o.type e i z ht hi hz hsize hby hzs v n xs hown B A m c l hl hr hnm hbase
  unfold Oper.wp execOp
  simp only [ho, resolve, invoke, builtin, Sem.run_bind, Sem.run_pure, Result.andThen_ok, List.map_toArray, List.map_cons, List.map_nil, hs, hx, hr']
  show K (a.put o.dst v') w'
  rw [hd]
  exact h v' w' h2 h3 h4
theorem Sm.nextL_some {L : List (List (BitVec 8) × List (BitVec 8) × Nat)} {y : ActV} {t : List (BitVec 8) × List (BitVec 8) × Nat} (h : getL (strL y.name) L = some t) (h0 : y.what ≠ 0) :
    nextL L y = if y.what = 1 then putL (strL y.name, t.2.1, t.2.1.length) L else if y.what = 2 then putL (strL y.name, t.2.1.take y.N.toNat, min t.2.2 y.N.toNat) L
      else if y.what = 3 then delL (strL y.name) L else putL (strL y.to_, t.2.1, t.2.2) (delL (strL y.name) L) := by
  unfold nextL
  rw [if_neg h0, h]
theorem Sm.nextL_zero {L : List (List (BitVec 8) × List (BitVec 8) × Nat)} {y : ActV} {t : List (BitVec 8) × List (BitVec 8) × Nat} (h : (getL (strL y.name) L = none ∧ t = (strL y.name, [], 0)) ∨ getL (strL y.name) L = some t) (h0 : y.what = 0) :
    nextL L y = putL (strL y.name, t.2.1 ++ y.bytes, t.2.2) L := by
  unfold nextL
  rw [if_pos h0]
  rcases h with ⟨h, rfl⟩ | h
  · rw [h]; rfl
  · rw [h]; rfl
theorem Sm.why_zero {s : DSt} {L : List (List (BitVec 8) × List (BitVec 8) × Nat)} {y : ActV} (h : whyM s L y = 0) :
    (y.what ≠ 0 → getL (strL y.name) L ≠ none) ∧ ∀ t, getL (strL y.name) L = some t → y.what = 2 → 0 ≤ y.N ∧ y.N ≤ (t.2.1.length : Int) := by
  unfold whyM at h
  split at h
  · cases h
  · refine ⟨fun h0 hg => ?_, fun t hg h2 => ?_⟩
    · rw [hg] at h
      dsimp only at h
      rw [if_pos h0] at h
      cases h
    · rw [hg] at h
      dsimp only at h
      by_cases h3 : y.N < 0 ∨ (t.2.1.length : Int) < y.N
      · rw [if_pos ⟨h2, h3⟩] at h
        cases h
      · omega
set_option maxRecDepth 100000 in
set_option maxHeartbeats 8000000 in
theorem Sm.refDo_any {S : Nat → Prop} (s : DSt) (A : Option Addr) (n c : Nat) (fs : List FileR) (y : ActV) (w : World) (h : FsAt S w A fs) (hn : fs.length = n) (hn2 : n ≤ 100000) (hs : SortL (fs.map fun f => f.t)) (hu : (usedR fs : Int) ≤ s.room) (hr : 0 < s.room ∧ s.room ≤ 16777216) (he : EndOK s) (hy : smallA y = true) (hyl : y.bytes.length = y.n)
    (hS : ∀ b, S b → b < w.heap.size) (hrd : Rds w S y.A (y.bytes.map byteCell)) :
    Calls Try.prog 60 #[refV s A n c, y.stepV] w fun e w' => ∃ v, e = .returned v ∧ DoAt S w w' v (stepM s (fs.map fun f => f.t) y).1 (stepM s (fs.map fun f => f.t) y).2.1 (stepM s (fs.map fun f => f.t) y).2.2 := by
  obtain ⟨hy1, hy2, hy3, _⟩ := small_parts hy
  obtain ⟨w3, hw3⟩ : ∃ w3, ((w.alloc (.cells #[.int .i64 s.room, .slice A n c, .bool s.stops, .int .i64 s.after, .bool s.dead] 28)).alloc (.cells #[.int .i64 y.what, .string y.name, .string y.to_, .slice y.A y.n y.c, .int .i64 y.N] 66)).alloc (.cells #[.int .i64 0, .slice none 0 0, .bool false, .int .i64 0, .bool false] 28) = w3 := ⟨_, rfl⟩
  have hb3 : Below w.heap.size w w3 := by rw [← hw3]; exact (((Below.refl _ w).alloc (Nat.le_refl _) _).alloc (by simp) _).alloc (by simp; omega) _
  have hsz3 : w3.heap.size = w.heap.size + 3 := by rw [← hw3]; simp
  have hx : w3.heap[w.heap.size]? = some (.cells #[.int .i64 s.room, .slice A n c, .bool s.stops, .int .i64 s.after, .bool s.dead] 28 (0, 0)) := by
    rw [← hw3]; exact (Below.heap_alloc _ _ _ (by simp; omega)).trans ((Below.heap_alloc _ _ _ (by simp)).trans (World.alloc_heap_new w _))
  have hz : w3.heap[w.heap.size + 1]? = some (.cells #[.int .i64 y.what, .string y.name, .string y.to_, .slice y.A y.n y.c, .int .i64 y.N] 66 (0, 0)) := by
    rw [← hw3]
    have := World.alloc_heap_new (w.alloc (.cells #[.int .i64 s.room, .slice A n c, .bool s.stops, .int .i64 s.after, .bool s.dead] 28)) (.cells #[.int .i64 y.what, .string y.name, .string y.to_, .slice y.A y.n y.c, .int .i64 y.N] 66)
    rw [World.size_alloc] at this
    exact (Below.heap_alloc _ _ _ (by simp)).trans this
  have hrb : w3.heap[w.heap.size + 1 + 1]? = some (.cells #[.int .i64 0, .slice none 0 0, .bool false, .int .i64 0, .bool false] 28 (0, 0)) := by
    rw [← hw3]
    have := World.alloc_heap_new ((w.alloc (.cells #[.int .i64 s.room, .slice A n c, .bool s.stops, .int .i64 s.after, .bool s.dead] 28)).alloc (.cells #[.int .i64 y.what, .string y.name, .string y.to_, .slice y.A y.n y.c, .int .i64 y.N] 66)) (.cells #[.int .i64 0, .slice none 0 0, .bool false, .int .i64 0, .bool false] 28)
    rwa [World.size_alloc, World.size_alloc] at this
  have hrf := refused_any s A n c fs y w3 (h.keep hb3) hn (by omega) hs hu hr hy hyl
  rw [stepM_why]
  obtain ⟨Wh, hWh⟩ : ∃ Wh, whyM s (fs.map fun f => f.t) y = Wh := ⟨_, rfl⟩
  rw [hWh] at hrf ⊢
  obtain ⟨res, hres⟩ : ∃ res, (if Wh = 0 then doneM s (fs.map fun f => f.t) (nextL (fs.map fun f => f.t) y) else (s, fs.map (fun f => f.t), Wh)) = res := ⟨_, rfl⟩
  rw [hres]
  have HRES := Lib.hid hres
  clear hres
  have x0 := cell_of_heap hx 0
  have x1 := cell_of_heap hx 1
  have x2 := cell_of_heap hx 2
  have x3 := cell_of_heap hx 3
  have x4 := cell_of_heap hx 4
  have z0 := cell_of_heap hz 0
  have z1 := cell_of_heap hz 1
  have z2 := cell_of_heap hz 2
  have z3 := cell_of_heap hz 3
  have z4 := cell_of_heap hz 4
  simp only [List.getElem?_toArray, List.getElem?_cons_succ, List.getElem?_cons_zero] at x0 x1 x2 x3 x4 z0 z1 z2 z3 z4
  unfold refV ActV.stepV at hrf
  unfold refV ActV.stepV
  have HX := Lib.hid hx
  have HZ := Lib.hid hz
  have HRB := Lib.hid hrb
  have HB3 := Lib.hid hb3
  have H := Lib.hid h
  have HN := Lib.hid hn
  have HS := Lib.hid hs
  have HWH := Lib.hid hWh
  have HRD := Lib.hid hrd
  clear hx hz hrb hb3 h hn hs hWh hrd
  have HYL := Lib.hid hyl
  go_enter Try.func60, Try.ntmps60
  go_upto_region 2 with (go_at_call 71; (with_reducible refine hrf.mono ?_); clear hrf; rintro e w4 ⟨rfl, hb4⟩)
  have hx4 := (hb4.block _ (Array.getElem?_eq_some_iff.1 HX.out).1).trans HX.out
  have hz4 := (hb4.block _ (Array.getElem?_eq_some_iff.1 HZ.out).1).trans HZ.out
  have hr4 := (hb4.block _ (Array.getElem?_eq_some_iff.1 HRB.out).1).trans HRB.out
  have HB4 := Lib.hid (HB3.out.trans (hb4.mono HB3.out.size))
  have hs4 := hb4.size
  clear hb4 x0 x1 x2 x3 x4 z0 z1 z2 z3 z4
  have x0 := cell_of_heap hx4 0
  have x1 := cell_of_heap hx4 1
  have x2 := cell_of_heap hx4 2
  have x3 := cell_of_heap hx4 3
  have x4 := cell_of_heap hx4 4
  have fx2 := frozen_of_heap hx4 2
  have fx3 := frozen_of_heap hx4 3
  have fx4 := frozen_of_heap hx4 4
  have g0 := frozen_of_heap hr4 0
  have g1 := frozen_of_heap hr4 1
  have g2 := frozen_of_heap hr4 2
  have g3 := frozen_of_heap hr4 3
  have g4 := frozen_of_heap hr4 4
  have k0 := cell_of_heap hr4 0
  have k1 := cell_of_heap hr4 1
  have k2 := cell_of_heap hr4 2
  have k3 := cell_of_heap hr4 3
  have k4 := cell_of_heap hr4 4
  simp only [List.getElem?_toArray, List.getElem?_cons_succ, List.getElem?_cons_zero] at x0 x1 x2 x3 x4 k0 k1 k2 k3 k4
  have HX4 := Lib.hid hx4
  have HZ4 := Lib.hid hz4
  have HR4 := Lib.hid hr4
  clear hx4 hz4 hr4
  obtain ⟨st, af, de, ro⟩ := s
  dsimp only at x0 x1 x2 x3 x4
  have hputr : ∀ W (v0 v1 v2 v3 v4 : Value), But (fun b => b = w.heap.size + 1 + 1) W (((((W.setCell ⟨w.heap.size + 1 + 1, 0, none⟩ v0).setCell ⟨w.heap.size + 1 + 1, 1, none⟩ v1).setCell ⟨w.heap.size + 1 + 1, 2, none⟩ v2).setCell ⟨w.heap.size + 1 + 1, 3, none⟩ v3).setCell ⟨w.heap.size + 1 + 1, 4, none⟩ v4) := fun W v0 v1 v2 v3 v4 =>
    (((((But.refl (fun b => b = w.heap.size + 1 + 1) W).set ⟨w.heap.size + 1 + 1, 0, none⟩ v0 (.inl rfl)).set ⟨w.heap.size + 1 + 1, 1, none⟩ v1 (.inl rfl)).set ⟨w.heap.size + 1 + 1, 2, none⟩ v2 (.inl rfl)).set ⟨w.heap.size + 1 + 1, 3, none⟩ v3 (.inl rfl)).set ⟨w.heap.size + 1 + 1, 4, none⟩ v4 (.inl rfl)
  have HPUT := Lib.hid hputr
  clear hputr
  by_cases hwh : Wh = 0
  · subst hwh
    by_cases hd1 : st = true ∧ af = 0
    · obtain ⟨rfl, rfl⟩ := hd1
      have HR2 := Lib.hid (show ((⟨false, 0, true, ro⟩, fs.map (fun f => f.t), 172) : DSt × List (List (BitVec 8) × List (BitVec 8) × Nat) × Int) = res by rw [← HRES.out, if_pos rfl]; rfl)
      go_upto_region 6 with fail
      obtain ⟨W5, hW5⟩ : ∃ W5, (w4.setCell ⟨w.heap.size, 2, none⟩ (.bool false)).setCell ⟨w.heap.size, 4, none⟩ (.bool true) = W5 := ⟨_, rfl⟩
      have hbx : W5.heap[w.heap.size]? = some (.cells #[.int .i64 ro, .slice A n c, .bool false, .int .i64 0, .bool true] 28 (0, 0)) := by
        rw [← hW5]; exact heap_setCells (i := 4) (heap_setCells (i := 2) HX4.out)
      have hbt5 : But (fun b => b = w.heap.size) w4 W5 := by rw [← hW5]; exact ((But.refl (fun b => b = w.heap.size) w4).set ⟨w.heap.size, 2, none⟩ _ (.inl rfl)).set ⟨w.heap.size, 4, none⟩ _ (.inl rfl)
      have hr5 := hbt5.box HR4.out (fun e => by omega)
      have HB5 := Lib.hid (HB4.out.trans (hbt5.to_below HB4.out.size (fun b e => by omega)))
      rw [hW5]
      clear hW5 x0 x1 x2 x3 x4 fx2 fx3 fx4 g0 g1 g2 g3 g4 k0 k1 k2 k3 k4 hbt5
      obtain ⟨x0, x1, x2, x3, x4⟩ := cells5 hbx
      obtain ⟨k0, k1, k2, k3, k4⟩ := cells5 hr5
      have g0 := frozen_of_heap hr5 0
      have g1 := frozen_of_heap hr5 1
      have g2 := frozen_of_heap hr5 2
      have g3 := frozen_of_heap hr5 3
      have g4 := frozen_of_heap hr5 4
      have HR5 := Lib.hid hr5
      clear hbx hr5
      go_wp2
      obtain ⟨c0, c1, c2, c3, c4⟩ := cells5 (set5 HR5.out (.int .i64 ro) (.slice A n c) (.bool false) (.int .i64 0) (.bool true))
      refine bodyPost_ret (v := .tuple #[refV ⟨false, 0, true, ro⟩ A n c, .int .i64 172]) (by simp [results, Try.results60, go_sem, refV, c0, c1, c2, c3, c4]) rfl ⟨_, rfl, ?_⟩
      rw [← HR2.out]
      have hbt : Below w.heap.size w _ := HB5.out.trans ((HPUT.out W5 (.int .i64 ro) (.slice A n c) (.bool false) (.int .i64 0) (.bool true)).to_below HB5.out.size (fun b e => by omega))
      exact ⟨⟨A, n, c, fs, rfl, H.out.keep hbt, HN.out, rfl⟩, hbt⟩
    have hafn : st = true → ¬ af = 0 := fun e1 e2 => hd1 ⟨e1, e2⟩
    by_cases hd2 : de = true
    · subst hd2
      obtain rfl : st = false := he.2.1 rfl
      have HR2 := Lib.hid (show ((⟨false, af, true, ro⟩, fs.map (fun f => f.t), 172) : DSt × List (List (BitVec 8) × List (BitVec 8) × Nat) × Int) = res by rw [← HRES.out, if_pos rfl]; rfl)
      clear hd1
      go_wp2
      obtain ⟨c0, c1, c2, c3, c4⟩ := cells5 (set5 HR4.out (.int .i64 ro) (.slice A n c) (.bool false) (.int .i64 af) (.bool true))
      refine bodyPost_ret (v := .tuple #[refV ⟨false, af, true, ro⟩ A n c, .int .i64 172]) (by simp [results, Try.results60, go_sem, refV, c0, c1, c2, c3, c4]) rfl ⟨_, rfl, ?_⟩
      rw [← HR2.out]
      have hbt : Below w.heap.size w _ := HB4.out.trans ((HPUT.out w4 (.int .i64 ro) (.slice A n c) (.bool false) (.int .i64 af) (.bool true)).to_below HB4.out.size (fun b e => by omega))
      exact ⟨⟨A, n, c, fs, rfl, H.out.keep hbt, HN.out, rfl⟩, hbt⟩
    obtain rfl : de = false := by
      cases de with
      | true => exact absurd rfl hd2
      | false => rfl
    obtain ⟨af', haf', hnx⟩ : ∃ af', af' = (if st = true then af - 1 else af) ∧ nextD ⟨st, af, false, ro⟩ = ⟨st, af', false, ro⟩ := by
      refine ⟨_, rfl, ?_⟩
      unfold nextD nextS
      cases st with
      | true =>
        dsimp only
        rw [if_neg (by decide), if_neg (fun e => hd1 ⟨rfl, e⟩)]
        rfl
      | false => rfl
    have HR2 := Lib.hid (show ((⟨st, af', false, ro⟩, nextL (fs.map fun f => f.t) y, 0) : DSt × List (List (BitVec 8) × List (BitVec 8) × Nat) × Int) = res by
      rw [← HRES.out, if_pos rfl]
      unfold doneM
      rw [hnx]
      rfl)
    clear hnx
    clear hd1 hd2
    obtain ⟨sb, hsb⟩ : ∃ sb, sb = st := ⟨_, rfl⟩
    rw [← hsb] at HR2
    have HSB := Lib.hid hsb
    clear hsb
    cases st
    case' true =>
      rw [if_pos rfl] at haf'
      have haf0 : 0 ≤ af - 1 := by have h8 : 0 ≤ af := he.2.2.1; have h9 : ¬ af = 0 := hafn rfl; omega
      have haf1 : af - 1 ≤ 9223372036854775807 := by have h8 : af ≤ 9223372036854775807 := he.2.2.2; omega
      have hafe : (af == 0) = false := by rw [beq_eq_false_iff_ne]; exact hafn rfl
      have HAF := Lib.hid haf'
      clear haf'
      go_upto_region 10 with fail
      obtain ⟨W5, hW5⟩ : ∃ W5, w4.setCell ⟨w.heap.size, 3, none⟩ (.int .i64 (af - 1)) = W5 := ⟨_, rfl⟩
      have hbx : W5.heap[w.heap.size]? = some (.cells #[.int .i64 ro, .slice A n c, .bool sb, .int .i64 (af - 1), .bool false] 28 (0, 0)) := by
        rw [← hW5, HSB.out]; exact heap_setCells (i := 3) HX4.out
      have hbt5 : But (fun b => b = w.heap.size) w4 W5 := by rw [← hW5]; exact (But.refl (fun b => b = w.heap.size) w4).set ⟨w.heap.size, 3, none⟩ _ (.inl rfl)
      rw [hW5]
      clear hW5
      rw [← HAF.out] at hbx
      clear HAF haf0 haf1 hafe
    case' false =>
      rw [if_neg (by decide)] at haf'
      subst haf'
      go_upto_region 10 with fail
      obtain ⟨W5, hW5⟩ : ∃ W5, w4 = W5 := ⟨_, rfl⟩
      have hbx : W5.heap[w.heap.size]? = some (.cells #[.int .i64 ro, .slice A n c, .bool sb, .int .i64 af', .bool false] 28 (0, 0)) := by
        rw [← hW5, HSB.out]; exact HX4.out
      have hbt5 : But (fun b => b = w.heap.size) w4 W5 := by rw [← hW5]; exact But.refl _ _
      rw [hW5]
      clear hW5
    all_goals
      have hr5 := hbt5.box HR4.out (fun e => by omega)
      have hz5 := hbt5.box HZ4.out (fun e => by omega)
      have HB5 := Lib.hid (HB4.out.trans (hbt5.to_below HB4.out.size (fun b e => by omega)))
      have hs5 := hbt5.size
      clear x0 x1 x2 x3 x4 fx2 fx3 fx4 g0 g1 g2 g3 g4 k0 k1 k2 k3 k4 hbt5 HX4 HZ4 HR4
      obtain ⟨z0, z1, z2, z3, z4⟩ := cells5 hz5
      obtain ⟨W6, hW6⟩ : ∃ W6, W5.alloc (.cells #[.string y.name, .slice none 0 0, .int .i64 0] 59) = W6 := ⟨_, rfl⟩
      have hb56 : Below W5.heap.size W5 W6 := by rw [← hW6]; exact (Below.refl _ W5).alloc (Nat.le_refl _) _
      have hf6 : W6.heap[W5.heap.size]? = some (.cells #[.string y.name, .slice none 0 0, .int .i64 0] 59 (0, 0)) := by rw [← hW6]; exact World.alloc_heap_new W5 _
      have hx6 := (hb56.block _ (by have := hsz3; omega)).trans hbx
      have hz6 := (hb56.block _ (by have := hsz3; omega)).trans hz5
      have hr6 := (hb56.block _ (by have := hsz3; omega)).trans hr5
      have HB6 := Lib.hid (HB5.out.trans (hb56.mono HB5.out.size))
      have hs6 := hb56.size
      have HX6 := Lib.hid hx6
      have HZ6 := Lib.hid hz6
      have HR6 := Lib.hid hr6
      have HF6 := Lib.hid hf6
      have HW6 := Lib.hid hW6
      clear hbx hz5 hr5 hb56 hx6 hz6 hr6 hf6 hW6
      clear HSB
      have hat := refAt_any (S := S) ⟨sb, af', false, ro⟩ A n c fs y.name W6 (H.out.keep HB6.out) HN.out (by omega)
      unfold refV at hat
      dsimp only at hat
      go_upto_region 11 with fail
      rw [HW6.out]
      clear HW6 z0 z1 z2 z3 z4
      obtain ⟨x0, x1, x2, x3, x4⟩ := cells5 HX6.out
      obtain ⟨y0, y1, y2, y3, y4⟩ := cells5 HZ6.out
      go_upto_region 12 with (go_at_call 27; (with_reducible refine hat.mono ?_); clear hat; rintro e W7 ⟨r, rfl, hres, hb7⟩)
      have hs7 := hb7.size
      have hx7 := (hb7.block _ (Array.getElem?_eq_some_iff.1 HX6.out).1).trans HX6.out
      have hz7 := (hb7.block _ (Array.getElem?_eq_some_iff.1 HZ6.out).1).trans HZ6.out
      have hr7 := (hb7.block _ (Array.getElem?_eq_some_iff.1 HR6.out).1).trans HR6.out
      have hf7 := (hb7.block _ (Array.getElem?_eq_some_iff.1 HF6.out).1).trans HF6.out
      have HB7 := Lib.hid (HB6.out.trans (hb7.mono HB6.out.size))
      clear hb7 x0 x1 x2 x3 x4 y0 y1 y2 y3 y4
      obtain ⟨x0, x1, x2, x3, x4⟩ := cells5 hx7
      obtain ⟨y0, y1, y2, y3, y4⟩ := cells5 hz7
      have HX7 := Lib.hid hx7
      have HZ7 := Lib.hid hz7
      have HR7 := Lib.hid hr7
      have hFne : w.heap.size + 2 < W5.heap.size := by omega
      obtain ⟨Fb, hFb⟩ : ∃ Fb, W5.heap.size = Fb := ⟨_, rfl⟩
      rw [hFb] at hf7 hFne ⊢
      have hFl : Fb < W7.heap.size := (Array.getElem?_eq_some_iff.1 hf7).1
      have HF7 := Lib.hid hf7
      clear HX6 HZ6 HR6 HF6 hx7 hz7 hr7 HB5 HB6
      rcases hres with ⟨rfl, hno⟩ | ⟨i, f, rfl, hfi, hfn⟩
      case' inl =>
        have hget : getL (strL y.name) (fs.map fun f => f.t) = none := getR_none hno
        obtain ⟨f0, hf0⟩ : ∃ f0 : FileR, f0 = ⟨(strL y.name, [], 0), none, 0⟩ := ⟨_, rfl⟩
        have hcl0 : f0.cells = [.string y.name, .slice none 0 0, .int .i64 0] := by rw [hf0]; unfold FileR.cells; dsimp only; rw [strB_strL]; rfl
        have hD0 : Hid (f0.t.1 = strL y.name ∧ ((getL (strL y.name) (fs.map fun f => f.t) = none ∧ f0.t = (strL y.name, [], 0)) ∨ getL (strL y.name) (fs.map fun f => f.t) = some f0.t)) := Lib.hid ⟨by rw [hf0], .inl ⟨hget, by rw [hf0]⟩⟩
        have hok0 : FOk S w f0 := by rw [hf0]; exact ⟨fun h0 => absurd h0 (by simp), Nat.le_refl _, (by show (0 : Nat) ≤ 9223372036854775807; decide)⟩
        have HL0 : Hid ((f0.t.2.1.length : Int) ≤ ro) := Lib.hid (by rw [hf0]; show ((0 : Nat) : Int) ≤ ro; have := hr.1; omega)
        obtain ⟨W8, hW8⟩ : ∃ W8, W7 = W8 := ⟨_, rfl⟩
        have hb78 : But (fun b => b = Fb) W7 W8 := by rw [← hW8]; exact But.refl _ _
        have hf8 : W8.heap[Fb]? = some (.cells f0.cells.toArray 59 (0, 0)) := by rw [← hW8, hcl0]; exact hf7
        go_upto_region 14 with fail
        try rw [hW8]
        clear hW8 hcl0 hf0 hget hno hf7
      case' inr =>
        have hfm : f ∈ fs := List.mem_of_getElem? hfi
        have hge := getR_some HS.out hfm
        rw [hfn] at hge
        have hil : (i : Int) < (n : Int) := by have := (List.getElem?_eq_some_iff.1 hfi).1; have := HN.out; omega
        obtain ⟨b, off, hAe, hb, _, hcl⟩ := (H.out.keep HB7.out).1 (by have := (List.getElem?_eq_some_iff.1 hfi).1; omega)
        obtain ⟨f0, hf0⟩ : ∃ f0 : FileR, f0 = f := ⟨_, rfl⟩
        rw [← hf0] at hfi hge hfn hfm
        have hok0 : FOk S w f0 := H.out.2 f0 hfm
        have HL0 : Hid ((f0.t.2.1.length : Int) ≤ ro) := Lib.hid (by have h1 := usedR_le hfm; have h2 := hu; omega)
        have hD0 : Hid (f0.t.1 = strL y.name ∧ ((getL (strL y.name) (fs.map fun f => f.t) = none ∧ f0.t = (strL y.name, [], 0)) ∨ getL (strL y.name) (fs.map fun f => f.t) = some f0.t)) := Lib.hid ⟨hfn, .inr hge⟩
        have q0 : W7.cell? ⟨b, off + i * 3, none⟩ = some (.string (strB f0.t.1)) := hcl i f0 hfi 0 _ rfl
        have q1 : W7.cell? ⟨b, off + i * 3 + 1, none⟩ = some (.slice f0.A f0.t.2.1.length f0.c) := hcl i f0 hfi 1 _ rfl
        have q2 : W7.cell? ⟨b, off + i * 3 + 2, none⟩ = some (.int .i64 (f0.t.2.2 : Int)) := hcl i f0 hfi 2 _ rfl
        obtain ⟨W8, hW8⟩ : ∃ W8, ((W7.setCell ⟨Fb, 0, none⟩ (.string (strB f0.t.1))).setCell ⟨Fb, 1, none⟩ (.slice f0.A f0.t.2.1.length f0.c)).setCell ⟨Fb, 2, none⟩ (.int .i64 (f0.t.2.2 : Int)) = W8 := ⟨_, rfl⟩
        have hb78 : But (fun b => b = Fb) W7 W8 := by rw [← hW8]; exact (((But.refl (fun b => b = Fb) W7).set ⟨Fb, 0, none⟩ _ (.inl rfl)).set ⟨Fb, 1, none⟩ _ (.inl rfl)).set ⟨Fb, 2, none⟩ _ (.inl rfl)
        have hf8 : W8.heap[Fb]? = some (.cells f0.cells.toArray 59 (0, 0)) := by
          rw [← hW8]
          exact heap_setCells (i := 2) (heap_setCells (i := 1) (heap_setCells (i := 0) hf7))
        have h0 := frozen_of_heap hf7 0
        have h1 := frozen_of_heap hf7 1
        have h2 := frozen_of_heap hf7 2
        have j0 := cell_of_heap hf7 0
        have j1 := cell_of_heap hf7 1
        have j2 := cell_of_heap hf7 2
        simp only [List.getElem?_toArray, List.getElem?_cons_succ, List.getElem?_cons_zero] at j0 j1 j2
        have hi0 : ¬ (i : Int) < 0 := by omega
        have hi1 : (0 : Int) ≤ (i : Int) := by omega
        subst hAe
        clear hcl hfi hfm hge hfn hf0 hf7
        go_upto_region 14 with fail
        try rw [hW8]
        clear hW8 q0 q1 q2 h0 h1 h2 j0 j1 j2 hi0 hi1
      all_goals
        have hx8 := hb78.box HX7.out (fun e => by omega)
        have hz8 := hb78.box HZ7.out (fun e => by omega)
        have hr8 := hb78.box HR7.out (fun e => by omega)
        have HB8 := Lib.hid (HB7.out.trans (hb78.to_below HB7.out.size (fun b e => by omega)))
        have hok8 : FOk S W8 f0 := hok0.but (But.of_all HB8.out (fun _ => False)) (fun _ e => e.elim)
        have hs8 := hb78.size
        have hFl8 : Fb < W8.heap.size := by omega
        obtain ⟨nm, hnm⟩ : ∃ nm, strB f0.t.1 = nm := ⟨_, rfl⟩
        obtain ⟨lb, hlb⟩ : ∃ lb, f0.t.2.1.length = lb := ⟨_, rfl⟩
        obtain ⟨sv, hsv⟩ : ∃ sv, f0.t.2.2 = sv := ⟨_, rfl⟩
        obtain ⟨A0, hA0⟩ : ∃ A0, f0.A = A0 := ⟨_, rfl⟩
        obtain ⟨c0, hc0⟩ : ∃ c0, f0.c = c0 := ⟨_, rfl⟩
        have hcf : f0.cells = [.string nm, .slice A0 lb c0, .int .i64 (sv : Int)] := by unfold FileR.cells; rw [hnm, hlb, hsv, hA0, hc0]
        rw [hcf] at hf8
        obtain ⟨what, hwhat⟩ : ∃ what, y.what = what := ⟨_, rfl⟩
        have hwz := why_zero HWH.out
        have HWZ := Lib.hid hwz
        clear hwz HWH
        have hokW := hok0
        clear x0 x1 x2 x3 x4 y0 y1 y2 y3 y4 HX7 HZ7 HR7 HF7 HB7 hb78 hok0
        obtain ⟨x0, x1, x2, x3, x4⟩ := cells5 hx8
        obtain ⟨y0, y1, y2, y3, y4⟩ := cells5 hz8
        have f0c := cell_of_heap hf8 0
        have f1c := cell_of_heap hf8 1
        have f2c := cell_of_heap hf8 2
        have f0z := frozen_of_heap hf8 0
        have f1z := frozen_of_heap hf8 1
        have f2z := frozen_of_heap hf8 2
        simp only [List.getElem?_toArray, List.getElem?_cons_succ, List.getElem?_cons_zero] at f0c f1c f2c
        rw [hwhat] at y0
        have HX8 := Lib.hid hx8
        have HZ8 := Lib.hid hz8
        have HR8 := Lib.hid hr8
        have HF8 := Lib.hid hf8
        have HNM := Lib.hid hnm
        have HLB := Lib.hid hlb
        have HSV := Lib.hid hsv
        have HA0 := Lib.hid hA0
        have HC0 := Lib.hid hc0
        have HWHAT := Lib.hid hwhat
        have HOK8 := Lib.hid hok8
        clear hx8 hz8 hr8 hf8 hnm hlb hsv hA0 hc0 hcf hwhat hok8
        have HOK0 := Lib.hid hokW
        clear hokW HOK8
        have hDF : w.heap.size ≠ Fb := by omega
        have hRF : w.heap.size + 1 + 1 ≠ Fb := by omega
        have hD8 : w.heap.size + 1 + 1 < W8.heap.size := by omega
        have hZl8 : w.heap.size + 1 < W8.heap.size := by omega
        have hfn0 : Hid (f0.t.1 = strL y.name) := Lib.hid hD0.out.1
        obtain ⟨S2, hS2⟩ : ∃ S2 : Nat → Prop, S2 = fun b => S b ∨ b = w.heap.size ∨ b = w.heap.size + 1 + 1 ∨ b = Fb := ⟨_, rfl⟩
        have hS2b : ∀ b, S2 b → b < W8.heap.size := fun b e => by
          rw [hS2] at e
          rcases e with e | e | e | e
          · have := hS b e; omega
          · omega
          · omega
          · omega
        have hS2w : ∀ b, b < w.heap.size → S2 b → S b := fun b hb e => by
          rw [hS2] at e
          rcases e with e | e | e | e
          · exact e
          · omega
          · omega
          · omega
        have hS2D : S2 w.heap.size := by rw [hS2]; exact .inr (.inl rfl)
        have hS2R : S2 (w.heap.size + 1 + 1) := by rw [hS2]; exact .inr (.inr (.inl rfl))
        have hS2F : S2 Fb := by rw [hS2]; exact .inr (.inr (.inr rfl))
        have hS2S : ∀ b, S b → S2 b := fun b e => by rw [hS2]; exact .inl e
        clear hS2
        have HFS8 := Lib.hid ((H.out.less (S' := S2) hS2w).keep HB8.out)
        have HOK82 := Lib.hid ((HOK0.out.less (S' := S2) hS2w).but (But.of_all HB8.out (fun _ => False)) (fun _ e => e.elim))
        have HRD8 := Lib.hid ((HRD.out.less (S' := S2) hS2w).but (But.of_all HB8.out (fun _ => False)) (fun _ e => e.elim))
        have hn1m : n ≤ 1000000 := by omega
        have hlbI : (lb : Int) ≤ 9223372036854775807 := by have := HOK0.out.2; have := HLB.out; omega
        by_cases e0 : what = 0
        · subst e0
          have hsz0 : f0.t.2.1.length + y.n ≤ 1000000000 := by have := HL0.out; omega
          have hl0 : f0.t.2.1.length = lb := HLB.out
          obtain ⟨i0, hi, hz0, hz1, hz2⟩ := info_parts diskInfo5
          have hrd0 : Rd W8 W8.heap.size A0 f0.t.2.1 := by rw [← HA0.out]; exact HOK82.out.1.rd
          have hrd1 : Rd W8 W8.heap.size y.A y.bytes := HRD8.out.rd
          have hyl' := HYL.out
          go_upto_region 18 with fail
          refine wp_region_popL 8 rfl rfl (by kernel_rfl) (by kernel_rfl) (S := fun V => V.cell? ⟨Fb, 1, none⟩ = some (.slice A0 lb c0) ∧ V.cell? ⟨w.heap.size + 1, 3, none⟩ = some (.slice y.A y.n y.c)) ⟨f1c, y3⟩ (fun hHeld => ?_)
          simp only [List.take_succ_cons, List.take_zero]
          obtain ⟨V0, hV0⟩ : ∃ V, W8.drew = V := ⟨_, rfl⟩
          have hbV : Below W8.heap.size W8 V0 := by rw [← hV0]; exact (Below.refl _ W8).drew
          rw [hV0] at hHeld ⊢
          clear hV0
          refine wpAnyH_take (i := 1) (v := .pointer (some ⟨Fb, 1, none⟩)) rfl (by kernel_rfl) (by kernel_rfl) (by kernel_rfl) (fun _ _ _ h => h) (Or.inl ⟨by rfl, ?_⟩) (by assumption) ?_
          · rintro wx ⟨s1, s2⟩; go_simp
          try simp only [Act.put, List.setIfInBounds_toArray]
          refine wpAnyH_take (i := 2) (v := .slice A0 lb c0) rfl (by kernel_rfl) (by kernel_rfl) (by kernel_rfl) (fun _ _ _ h => h) (Or.inl ⟨by rfl, ?_⟩) (by assumption) ?_
          · rintro wx ⟨s1, s2⟩; go_simp
          try simp only [Act.put]
          refine wpAnyH_take (i := 4) (v := .pointer (some ⟨w.heap.size + 1, 3, none⟩)) rfl (by kernel_rfl) (by kernel_rfl) (by kernel_rfl) (fun _ _ _ h => h) (Or.inl ⟨by rfl, ?_⟩) (by assumption) ?_
          · rintro wx ⟨s1, s2⟩; go_simp
          try simp only [Act.put]
          refine wpAnyH_take (i := 5) (v := .slice y.A y.n y.c) rfl (by kernel_rfl) (by kernel_rfl) (by kernel_rfl) (fun _ _ _ h => h) (Or.inl ⟨by rfl, ?_⟩) (by assumption) ?_
          · rintro wx ⟨s1, s2⟩; go_simp
          try simp only [Act.put]
          refine wpAnyH_ready (rs := [0]) (by kernel_rfl) (by simp) (AllReadyH.cons rfl (fun K hK => ?_) AllReadyH.nil)
          go_simp
          obtain ⟨V1, hV1⟩ : ∃ V1, V0.alloc (.cells #[] 5) = V1 := ⟨_, rfl⟩
          have hb01 : Below W8.heap.size V0 V1 := by rw [← hV1]; exact (Below.refl _ V0).alloc hbV.size _
          have hown1 : V1.ownsRow W8.heap.size 5 1 (.slice (some ⟨V0.heap.size, 0, none⟩) 0 0) 0 [] := ⟨rfl, .inr ⟨V0.heap.size, 0, #[], rfl, hbV.size, by rw [← hV1]; exact World.alloc_heap_new V0 _, Nat.le_refl _, Nat.zero_le _, rfl, rfl⟩⟩
          have hb1 : Below W8.heap.size W8 V1 := hbV.trans hb01
          rw [hV1]
          clear hV1
          refine hK.out _ _ ⟨(hb1.cell (p := ⟨Fb, 1, none⟩) hFl8).trans f1c, (hb1.cell (p := ⟨w.heap.size + 1, 3, none⟩) hZl8).trans y3⟩ (fun hHeld1 => ?_)
          clear hK K
          try dsimp only
          try simp only [Act.put, List.setIfInBounds_toArray, List.set_cons_zero, List.set_cons_succ]
          refine wpAnyH_ready (rs := [3]) (by kernel_rfl) (by simp) (AllReadyH.cons rfl (fun K hK => ?_) AllReadyH.nil)
          rw [if_pos (by rfl)]
          refine opWp_append_rd V1 64 rfl (.tmp 61) (.tmp 63) 36 rfl W8.heap.size 5 i0 _ Try.underlying36 hi hz0 hz1 hz2 rfl _ 0 [] rfl hown1 W8.heap.size A0 lb c0 f0.t.2.1 rfl hl0 (hrd0.keep fun p hp => hb1.cell hp) (by omega) hb1.size ?_
          intro v1 V2 hown2 hgr2 _
          have hb2 : Below W8.heap.size W8 V2 := hb1.trans ((But.grown hgr2).to_below hb1.size (fun b e => (hown1.lt b e).1))
          refine hK.out _ _ ⟨(hb2.cell (p := ⟨Fb, 1, none⟩) hFl8).trans f1c, (hb2.cell (p := ⟨w.heap.size + 1, 3, none⟩) hZl8).trans y3⟩ (fun hHeld2 => ?_)
          clear hK K
          try dsimp only
          try simp only [Act.put, List.setIfInBounds_toArray, List.set_cons_zero, List.set_cons_succ]
          refine wpAnyH_ready (rs := [6]) (by kernel_rfl) (by simp) (AllReadyH.cons rfl (fun K hK => ?_) AllReadyH.nil)
          rw [if_pos (by rfl)]
          refine opWp_append_rd V2 67 rfl (.tmp 64) (.tmp 66) 36 rfl W8.heap.size 5 i0 _ Try.underlying36 hi hz0 hz1 hz2 rfl _ (0 + lb) _ rfl hown2 W8.heap.size y.A y.n y.c y.bytes rfl hyl' (hrd1.keep fun p hp => hb2.cell hp) (by omega) hb2.size ?_
          intro v2 V3 hown3 hgr3 _
          have hb3 : Below W8.heap.size W8 V3 := hb2.trans ((But.grown hgr3).to_below hb2.size (fun b e => (hown2.lt b e).1))
          refine hK.out _ _ ⟨(hb3.cell (p := ⟨Fb, 1, none⟩) hFl8).trans f1c, (hb3.cell (p := ⟨w.heap.size + 1, 3, none⟩) hZl8).trans y3⟩ (fun hHeld3 => ?_)
          clear hK K
          try dsimp only
          try simp only [Act.put, List.setIfInBounds_toArray, List.set_cons_zero, List.set_cons_succ]
          refine wpAnyH_take (i := 7) (v := .pointer (some ⟨Fb, 1, none⟩)) rfl (by kernel_rfl) (by kernel_rfl) (by kernel_rfl) (fun _ _ _ h => h) (Or.inl ⟨by rfl, ?_⟩) (by assumption) ?_
          · rintro wx ⟨s1, s2⟩; go_simp
          try simp only [Act.put, List.setIfInBounds_toArray]
          refine wpAnyH_done (by kernel_rfl) ?_ _
          unfold tailQ wpOp
          simp only [List.getElem?_toArray, List.getElem?_cons_succ, List.getElem?_cons_zero]
          rw [if_pos (by rfl)]
          obtain ⟨A1, c1, rfl⟩ := own_slice hown3
          obtain ⟨M, hM⟩ : ∃ M, 0 + lb + y.n = M := ⟨_, rfl⟩
          rw [hM] at hown3 ⊢
          have hML : (f0.t.2.1 ++ y.bytes).length = M := by rw [List.length_append, hl0, hyl']; omega
          obtain ⟨f1, hf1⟩ : ∃ f1 : FileR, f1 = ⟨(f0.t.1, f0.t.2.1 ++ y.bytes, sv), A1, c1⟩ := ⟨_, rfl⟩
          have HMAP : Hid ((putR f1 fs).map (fun f => f.t) = nextL (fs.map fun f => f.t) y) := Lib.hid (by
            rw [putR_map, nextL_zero hD0.out.2 HWHAT.out, hf1, HSV.out, hfn0.out])
          have hf3 := (hb3.block _ hFl8).trans HF8.out
          have hx3 := (hb3.block w.heap.size (by omega)).trans HX8.out
          have hr3 := (hb3.block (w.heap.size + 1 + 1) hD8).trans HR8.out
          have hok3 : FOk S2 V3 f1 := by
            rw [hf1]
            have hcap : (f0.t.2.1 ++ y.bytes).length ≤ c1 ∧ c1 ≤ 9223372036854775807 := own_caps hown3 hML
            refine ⟨?_, hcap⟩
            have e : (f0.t.2.1 ++ y.bytes).map byteCell = [] ++ f0.t.2.1.map byteCell ++ y.bytes.map byteCell := by rw [List.map_append]; rfl
            show Rds V3 S2 A1 ((f0.t.2.1 ++ y.bytes).map byteCell)
            rw [e]
            exact own_rds hown3 hS2b
          have hFS3 := HFS8.out.keep hb3
          have HB3' := Lib.hid (HB8.out.trans (hb3.mono HB8.out.size))
          have f1z3 := frozen_of_heap hf3 1
          have f1c3 := cell_of_heap hf3 1
          simp only [List.getElem?_toArray, List.getElem?_cons_succ, List.getElem?_cons_zero] at f1c3
          have HF3 := Lib.hid hf3
          have HX3 := Lib.hid hx3
          have HR3 := Lib.hid hr3
          have HOK3 := Lib.hid hok3
          have HFS3 := Lib.hid hFS3
          have hsz3' := hb3.size
          clear hown3 hgr3 hgr2 hown2 hown1 hHeld hHeld1 hHeld2 hHeld3 hb1 hb2 hb3 hb01 hbV hf3 hx3 hr3 hok3 hFS3 hrd0 hrd1 hi hz0 hz1 hz2 x0 x1 x2 x3 x4 y0 y1 y2 y3 y4 f0c f1c f2c f0z f1z f2z
          refine Or.inl ?_
          go_simp
          go_upto_region 26 with fail
          obtain ⟨W9, hW9⟩ : ∃ W9, V3.setCell ⟨Fb, 1, none⟩ (.slice A1 M c1) = W9 := ⟨_, rfl⟩
          have hb89 : But (fun b => b = Fb) V3 W9 := by rw [← hW9]; exact (But.refl (fun b => b = Fb) V3).set ⟨Fb, 1, none⟩ _ (.inl rfl)
          have hf9 : W9.heap[Fb]? = some (.cells #[.string nm, .slice A1 M c1, .int .i64 (sv : Int)] 59 (0, 0)) := by rw [← hW9]; exact heap_setCells (i := 1) HF3.out
          have hx9 := hb89.box HX3.out hDF
          have hr9 := hb89.box HR3.out hRF
          have HFS9 := Lib.hid (HFS3.out.but hb89 (fun b e => by rw [e]; exact hS2F))
          have hok1 : FOk S2 W9 f1 := HOK3.out.but hb89 (fun b e => by rw [e]; exact hS2F)
          have hc1 : f1.cells = [.string nm, .slice A1 M c1, .int .i64 (sv : Int)] := by rw [hf1]; unfold FileR.cells; dsimp only; rw [HNM.out, hML]
          have hs9 : W8.heap.size ≤ W9.heap.size := Nat.le_trans hsz3' hb89.size
          have HB9 := Lib.hid (HB3'.out.trans (hb89.to_below HB3'.out.size (fun b e => by omega)))
          rw [hW9]
          clear f1z3 f1c3
          have x0 := hs9
          have x1 := hs9
          have x2 := hs9
          have x3 := hs9
          have x4 := hs9
          have y0 := hs9
          have y1 := hs9
          have y2 := hs9
          have y3 := hs9
          have y4 := hs9
          have f0c := hs9
          have f1c := hs9
          have f2c := hs9
          have f0z := hs9
          have f1z := hs9
          have f2z := hs9
          clear hW9 hb89 hf1 hML
          have hwi := with_any (S := S2) _ n c fs f1 W9 HFS9.out HN.out hn1m (fun b e => by have := hS2b b e; omega) hok1
          rw [hc1] at hwi
          obtain ⟨N, hN⟩ : ∃ N, (putR f1 fs).length = N := ⟨_, rfl⟩
          rw [hN] at hwi
          have HNN := Lib.hid hN
          clear hok1 hc1 hN x0 x1 x2 x3 x4 y0 y1 y2 y3 y4 f0c f1c f2c f0z f1z f2z
          obtain ⟨x0, x1, x2, x3, x4⟩ := cells5 hx9
          have q0 := cell_of_heap hf9 0
          have q1 := cell_of_heap hf9 1
          have q2 := cell_of_heap hf9 2
          simp only [List.getElem?_toArray, List.getElem?_cons_succ, List.getElem?_cons_zero] at q0 q1 q2
          have HX9 := Lib.hid hx9
          have HR9 := Lib.hid hr9
          clear hx9 hr9 hf9
          go_upto_region 27 with (go_at_call 73; (with_reducible refine hwi.mono ?_); clear hwi; rintro e W10 ⟨v, rfl, hown, hfs10, hb10⟩; obtain ⟨B, cB, rfl⟩ := own3_slice hown; dsimp only at hfs10; have hx10 := (hb10.block _ (Array.getElem?_eq_some_iff.1 HX9.out).1).trans HX9.out; have fz1 := frozen_of_heap hx10 1; have z1 := cell_of_heap hx10 1; simp only [List.getElem?_toArray, List.getElem?_cons_succ, List.getElem?_cons_zero] at z1)
          obtain ⟨W11, hW11⟩ : ∃ W11, W10.setCell ⟨w.heap.size, 1, none⟩ (.slice B N cB) = W11 := ⟨_, rfl⟩
          have hx11 : W11.heap[w.heap.size]? = some (.cells #[.int .i64 ro, .slice B N cB, .bool sb, .int .i64 af', .bool false] 28 (0, 0)) := by rw [← hW11]; exact heap_setCells (i := 1) hx10
          have hbb : But (fun b => b = w.heap.size) W10 W11 := by rw [← hW11]; exact (But.refl (fun b => b = w.heap.size) W10).set ⟨w.heap.size, 1, none⟩ _ (.inl rfl)
          have hr11 := hbb.box ((hb10.block _ (Array.getElem?_eq_some_iff.1 HR9.out).1).trans HR9.out) (fun e => by omega)
          have HFS11 := Lib.hid (hfs10.but hbb (fun b e => by rw [e]; exact hS2D))
          have hB10 := HB9.out.trans (hb10.mono HB9.out.size)
          have HB11 := Lib.hid (hB10.trans (hbb.to_below hB10.size (fun b e => by omega)))
          rw [hW11]
          clear hW11 hx10 hbb hB10 hb10 hown hfs10 x0 x1 x2 x3 x4 q0 q1 q2 fz1 z1
          obtain ⟨x0, x1, x2, x3, x4⟩ := cells5 hx11
          obtain ⟨k0, k1, k2, k3, k4⟩ := cells5 hr11
          have g0 := frozen_of_heap hr11 0
          have g1 := frozen_of_heap hr11 1
          have g2 := frozen_of_heap hr11 2
          have g3 := frozen_of_heap hr11 3
          have g4 := frozen_of_heap hr11 4
          have HR11 := Lib.hid hr11
          clear hx11 hr11
          go_wp2
          obtain ⟨d0, d1, d2, d3, d4⟩ := cells5 (set5 HR11.out (.int .i64 ro) (.slice B N cB) (.bool sb) (.int .i64 af') (.bool false))
          refine bodyPost_ret (v := .tuple #[refV ⟨sb, af', false, ro⟩ B N cB, .int .i64 0]) (by simp [results, Try.results60, go_sem, refV, d0, d1, d2, d3, d4]) rfl ⟨_, rfl, ?_⟩
          rw [← HR2.out]
          have hbut := HPUT.out W11 (.int .i64 ro) (.slice B N cB) (.bool sb) (.int .i64 af') (.bool false)
          have hbt : Below w.heap.size w _ := HB11.out.trans (hbut.to_below HB11.out.size (fun b e => by omega))
          exact ⟨⟨B, N, cB, putR f1 fs, rfl, (HFS11.out.but hbut (fun b e => by rw [e]; exact hS2R)).less (fun b _ e => hS2S b e), HNN.out, HMAP.out⟩, hbt⟩
        by_cases e1 : what = 1
        · subst e1
          have hge : getL (strL y.name) (fs.map fun f => f.t) = some f0.t := by
            rcases hD0.out.2 with e | e
            · exact absurd e.1 (HWZ.out.1 (by rw [HWHAT.out]; decide))
            · exact e
          obtain ⟨f1, hf1⟩ : ∃ f1 : FileR, f1 = ⟨(f0.t.1, f0.t.2.1, lb), f0.A, f0.c⟩ := ⟨_, rfl⟩
          have HMAP : Hid ((putR f1 fs).map (fun f => f.t) = nextL (fs.map fun f => f.t) y) := Lib.hid (by
            rw [putR_map, nextL_some hge (by rw [HWHAT.out]; decide), if_pos HWHAT.out, hf1, HLB.out, hfn0.out])
          clear hge
          go_upto_region 26 with fail
          obtain ⟨W9, hW9⟩ : ∃ W9, W8.setCell ⟨Fb, 2, none⟩ (.int .i64 (lb : Int)) = W9 := ⟨_, rfl⟩
          have hb89 : But (fun b => b = Fb) W8 W9 := by rw [← hW9]; exact (But.refl (fun b => b = Fb) W8).set ⟨Fb, 2, none⟩ _ (.inl rfl)
          have hf9 : W9.heap[Fb]? = some (.cells #[.string nm, .slice A0 lb c0, .int .i64 (lb : Int)] 59 (0, 0)) := by rw [← hW9]; exact heap_setCells (i := 2) HF8.out
          have hx9 := hb89.box HX8.out hDF
          have hr9 := hb89.box HR8.out hRF
          have HFS9 := Lib.hid (HFS8.out.but hb89 (fun b e => by rw [e]; exact hS2F))
          have hok1 : FOk S2 W9 f1 := by rw [hf1]; exact HOK82.out.but hb89 (fun b e => by rw [e]; exact hS2F)
          have hc1 : f1.cells = [.string nm, .slice A0 lb c0, .int .i64 (lb : Int)] := by rw [hf1]; unfold FileR.cells; dsimp only; rw [HNM.out, HLB.out, HA0.out, HC0.out]
          have hs9 : W8.heap.size ≤ W9.heap.size := hb89.size
          have HB9 := Lib.hid (HB8.out.trans (hb89.to_below HB8.out.size (fun b e => by omega)))
          rw [hW9]
          clear hW9 hb89 hf1
          have hwi := with_any (S := S2) _ n c fs f1 W9 HFS9.out HN.out hn1m (fun b e => by have := hS2b b e; omega) hok1
          rw [hc1] at hwi
          obtain ⟨N, hN⟩ : ∃ N, (putR f1 fs).length = N := ⟨_, rfl⟩
          rw [hN] at hwi
          have HNN := Lib.hid hN
          clear hok1 hc1 hN x0 x1 x2 x3 x4 y0 y1 y2 y3 y4 f0c f1c f2c f0z f1z f2z
          obtain ⟨x0, x1, x2, x3, x4⟩ := cells5 hx9
          have q0 := cell_of_heap hf9 0
          have q1 := cell_of_heap hf9 1
          have q2 := cell_of_heap hf9 2
          simp only [List.getElem?_toArray, List.getElem?_cons_succ, List.getElem?_cons_zero] at q0 q1 q2
          have HX9 := Lib.hid hx9
          have HR9 := Lib.hid hr9
          clear hx9 hr9 hf9
          go_upto_region 27 with (go_at_call 73; (with_reducible refine hwi.mono ?_); clear hwi; rintro e W10 ⟨v, rfl, hown, hfs10, hb10⟩; obtain ⟨B, cB, rfl⟩ := own3_slice hown; dsimp only at hfs10; have hx10 := (hb10.block _ (Array.getElem?_eq_some_iff.1 HX9.out).1).trans HX9.out; have fz1 := frozen_of_heap hx10 1; have z1 := cell_of_heap hx10 1; simp only [List.getElem?_toArray, List.getElem?_cons_succ, List.getElem?_cons_zero] at z1)
          obtain ⟨W11, hW11⟩ : ∃ W11, W10.setCell ⟨w.heap.size, 1, none⟩ (.slice B N cB) = W11 := ⟨_, rfl⟩
          have hx11 : W11.heap[w.heap.size]? = some (.cells #[.int .i64 ro, .slice B N cB, .bool sb, .int .i64 af', .bool false] 28 (0, 0)) := by rw [← hW11]; exact heap_setCells (i := 1) hx10
          have hbb : But (fun b => b = w.heap.size) W10 W11 := by rw [← hW11]; exact (But.refl (fun b => b = w.heap.size) W10).set ⟨w.heap.size, 1, none⟩ _ (.inl rfl)
          have hr11 := hbb.box ((hb10.block _ (Array.getElem?_eq_some_iff.1 HR9.out).1).trans HR9.out) (fun e => by omega)
          have HFS11 := Lib.hid (hfs10.but hbb (fun b e => by rw [e]; exact hS2D))
          have hB10 := HB9.out.trans (hb10.mono HB9.out.size)
          have HB11 := Lib.hid (hB10.trans (hbb.to_below hB10.size (fun b e => by omega)))
          rw [hW11]
          clear hW11 hx10 hbb hB10 hb10 hown hfs10 x0 x1 x2 x3 x4 q0 q1 q2 fz1 z1
          obtain ⟨x0, x1, x2, x3, x4⟩ := cells5 hx11
          obtain ⟨k0, k1, k2, k3, k4⟩ := cells5 hr11
          have g0 := frozen_of_heap hr11 0
          have g1 := frozen_of_heap hr11 1
          have g2 := frozen_of_heap hr11 2
          have g3 := frozen_of_heap hr11 3
          have g4 := frozen_of_heap hr11 4
          have HR11 := Lib.hid hr11
          clear hx11 hr11
          go_wp2
          obtain ⟨d0, d1, d2, d3, d4⟩ := cells5 (set5 HR11.out (.int .i64 ro) (.slice B N cB) (.bool sb) (.int .i64 af') (.bool false))
          refine bodyPost_ret (v := .tuple #[refV ⟨sb, af', false, ro⟩ B N cB, .int .i64 0]) (by simp [results, Try.results60, go_sem, refV, d0, d1, d2, d3, d4]) rfl ⟨_, rfl, ?_⟩
          rw [← HR2.out]
          have hbut := HPUT.out W11 (.int .i64 ro) (.slice B N cB) (.bool sb) (.int .i64 af') (.bool false)
          have hbt : Below w.heap.size w _ := HB11.out.trans (hbut.to_below HB11.out.size (fun b e => by omega))
          exact ⟨⟨B, N, cB, putR f1 fs, rfl, (HFS11.out.but hbut (fun b e => by rw [e]; exact hS2R)).less (fun b _ e => hS2S b e), HNN.out, HMAP.out⟩, hbt⟩
        by_cases e2 : what = 2
        · subst e2
          have hge : getL (strL y.name) (fs.map fun f => f.t) = some f0.t := by
            rcases hD0.out.2 with e | e
            · exact absurd e.1 (HWZ.out.1 (by rw [HWHAT.out]; decide))
            · exact e
          have hk0 := (HWZ.out.2 _ hge HWHAT.out)
          rw [HLB.out] at hk0
          obtain ⟨k, hk⟩ : ∃ k : Nat, y.N = (k : Int) := ⟨y.N.toNat, by omega⟩
          have hkl : k ≤ lb := by omega
          have hlc : lb ≤ c0 := by have := HOK0.out.2; have := HLB.out; have := HC0.out; omega
          have hkc : (k : Int) ≤ (c0 : Int) := by omega
          have hk0' : (0 : Int) ≤ (k : Int) := by omega
          rw [hk] at y4
          obtain ⟨f1, hf1⟩ : ∃ f1 : FileR, f1 = ⟨(f0.t.1, f0.t.2.1.take k, min sv k), f0.A, f0.c⟩ := ⟨_, rfl⟩
          have HMAP : Hid ((putR f1 fs).map (fun f => f.t) = nextL (fs.map fun f => f.t) y) := Lib.hid (by
            rw [putR_map, nextL_some hge (by rw [HWHAT.out]; decide), if_neg (by rw [HWHAT.out]; decide), if_pos HWHAT.out, hf1, HSV.out, hfn0.out, hk, Int.toNat_natCast])
          have HK := Lib.hid hk
          clear hge hk0 hk
          obtain ⟨mn, hmn⟩ : ∃ mn, min sv k = mn := ⟨_, rfl⟩
          have HMN := Lib.hid hmn
          clear hmn
          go_upto_region 22 with fail
          refine wp_region_popL 13 rfl rfl (by kernel_rfl) (by kernel_rfl) (S := fun V => V.cell? ⟨Fb, 2, none⟩ = some (.int .i64 (sv : Int)) ∧ V.cell? ⟨w.heap.size + 1, 4, none⟩ = some (.int .i64 (k : Int))) ⟨f2c, y4⟩ (fun hHeld => ?_)
          simp only [List.take_succ_cons, List.take_zero]
          obtain ⟨V0, hV0⟩ : ∃ V, W8.drew = V := ⟨_, rfl⟩
          have hbV : Below W8.heap.size W8 V0 := by rw [← hV0]; exact (Below.refl _ W8).drew
          rw [hV0] at hHeld ⊢
          clear hV0
          have hfV := (hbV.block _ hFl8).trans HF8.out
          have hxV := (hbV.block w.heap.size (by omega)).trans HX8.out
          have hrV := (hbV.block (w.heap.size + 1 + 1) hD8).trans HR8.out
          have hzV := (hbV.block (w.heap.size + 1) hZl8).trans HZ8.out
          have v1c := cell_of_heap hfV 1
          have v2c := cell_of_heap hfV 2
          have v1z := frozen_of_heap hfV 1
          simp only [List.getElem?_toArray, List.getElem?_cons_succ, List.getElem?_cons_zero] at v1c v2c
          have HFV := Lib.hid hfV
          have HXV := Lib.hid hxV
          have HRV := Lib.hid hrV
          have HZV := Lib.hid hzV
          have HFSV := Lib.hid (HFS8.out.keep hbV)
          have HOKV := Lib.hid (HOK82.out.but (But.of_all hbV (fun _ => False)) (fun _ e => e.elim))
          have HBV := Lib.hid (HB8.out.trans (hbV.mono HB8.out.size))
          have hsV := hbV.size
          clear hfV hxV hrV hzV hbV x0 x1 x2 x3 x4 y0 y1 y2 y3 y4 f0c f1c f2c f0z f1z f2z
          refine wpAnyH_take (i := 0) (v := .pointer (some ⟨Fb, 1, none⟩)) rfl (by kernel_rfl) (by kernel_rfl) (by kernel_rfl) (fun _ _ _ h => h) (Or.inl ⟨by rfl, ?_⟩) (by assumption) ?_
          · rintro wx ⟨s1, s2⟩; go_simp
          try simp only [Act.put, List.setIfInBounds_toArray]
          refine wpAnyH_take (i := 2) (v := .pointer (some ⟨w.heap.size + 1, 4, none⟩)) rfl (by kernel_rfl) (by kernel_rfl) (by kernel_rfl) (fun _ _ _ h => h) (Or.inl ⟨by rfl, ?_⟩) (by assumption) ?_
          · rintro wx ⟨s1, s2⟩; go_simp
          try simp only [Act.put]
          refine wpAnyH_take (i := 3) (v := .int .i64 (k : Int)) rfl (by kernel_rfl) (by kernel_rfl) (by kernel_rfl) (fun _ _ _ h => h) (Or.inl ⟨by rfl, ?_⟩) (by assumption) ?_
          · rintro wx ⟨s1, s2⟩; go_simp
          try simp only [Act.put]
          refine wpAnyH_take (i := 5) (v := .pointer (some ⟨Fb, 2, none⟩)) rfl (by kernel_rfl) (by kernel_rfl) (by kernel_rfl) (fun _ _ _ h => h) (Or.inl ⟨by rfl, ?_⟩) (by assumption) ?_
          · rintro wx ⟨s1, s2⟩; go_simp
          try simp only [Act.put]
          refine wpAnyH_take (i := 6) (v := .int .i64 (sv : Int)) rfl (by kernel_rfl) (by kernel_rfl) (by kernel_rfl) (fun _ _ _ h => h) (Or.inl ⟨by rfl, ?_⟩) (by assumption) ?_
          · rintro wx ⟨s1, s2⟩; go_simp
          try simp only [Act.put]
          refine wpAnyH_take (i := 7) (v := .pointer (some ⟨w.heap.size + 1, 4, none⟩)) rfl (by kernel_rfl) (by kernel_rfl) (by kernel_rfl) (fun _ _ _ h => h) (Or.inl ⟨by rfl, ?_⟩) (by assumption) ?_
          · rintro wx ⟨s1, s2⟩; go_simp
          try simp only [Act.put]
          refine wpAnyH_take (i := 8) (v := .int .i64 (k : Int)) rfl (by kernel_rfl) (by kernel_rfl) (by kernel_rfl) (fun _ _ _ h => h) (Or.inl ⟨by rfl, ?_⟩) (by assumption) ?_
          · rintro wx ⟨s1, s2⟩; go_simp
          try simp only [Act.put]
          refine wpAnyH_take (i := 9) (v := .int .i64 (mn : Int)) rfl (by kernel_rfl) (by kernel_rfl) (by kernel_rfl) (fun _ _ _ h => h) (Or.inl ⟨by rfl, ?_⟩) (by assumption) ?_
          · rintro wx ⟨s1, s2⟩; go_simp; all_goals (have := HMN.out; omega)
          try simp only [Act.put]
          refine wpAnyH_ready (rs := [1]) (by kernel_rfl) (by simp) (AllReadyH.cons rfl (fun K hK => ?_) AllReadyH.nil)
          go_simp
          refine hK.out _ _ hHeld (fun _ => ?_)
          clear hK K
          try dsimp only
          try simp only [Act.put, List.setIfInBounds_toArray, List.set_cons_zero, List.set_cons_succ]
          refine wpAnyH_ready (rs := [4]) (by kernel_rfl) (by simp) (AllReadyH.cons rfl (fun K hK => ?_) AllReadyH.nil)
          go_simp
          refine hK.out _ _ hHeld (fun _ => ?_)
          clear hK K
          try dsimp only
          try simp only [Act.put, List.setIfInBounds_toArray, List.set_cons_zero, List.set_cons_succ]
          refine wpAnyH_take (i := 10) (v := .pointer (some ⟨Fb, 1, none⟩)) rfl (by kernel_rfl) (by kernel_rfl) (by kernel_rfl) (fun _ _ _ h => h) (Or.inl ⟨by rfl, ?_⟩) (by assumption) ?_
          · rintro wx ⟨s1, s2⟩; go_simp
          try simp only [Act.put, List.setIfInBounds_toArray]
          refine wpAnyH_ready (rs := [11]) (by kernel_rfl) (by simp) (AllReadyH.cons rfl (fun K hK => ?_) AllReadyH.nil)
          go_simp
          obtain ⟨V1, hV1⟩ : ∃ V1, V0.setCell ⟨Fb, 1, none⟩ (.slice A0 k c0) = V1 := ⟨_, rfl⟩
          have hb01 : But (fun b => b = Fb) V0 V1 := by rw [← hV1]; exact (But.refl (fun b => b = Fb) V0).set ⟨Fb, 1, none⟩ _ (.inl rfl)
          have hf1 := heap_setCells (i := 1) (u := .slice A0 k c0) HFV.out
          rw [hV1] at hf1 ⊢
          clear hV1
          have hz1 := hb01.box HZV.out (fun e => by omega)
          have t2 := cell_of_heap hf1 2
          have tz2 := frozen_of_heap hf1 2
          have t4 : V1.cell? ⟨w.heap.size + 1, 4, none⟩ = some (.int .i64 (k : Int)) := by rw [← HK.out]; exact cell_of_heap hz1 4
          refine hK.out _ _ ⟨t2, t4⟩ (fun hHeld1 => ?_)
          clear hK K
          try dsimp only
          try simp only [Act.put, List.setIfInBounds_toArray, List.set_cons_zero, List.set_cons_succ]
          refine wpAnyH_take (i := 12) (v := .pointer (some ⟨Fb, 2, none⟩)) rfl (by kernel_rfl) (by kernel_rfl) (by kernel_rfl) (fun _ _ _ h => h) (Or.inl ⟨by rfl, ?_⟩) (by assumption) ?_
          · rintro wx ⟨s1, s2⟩; go_simp
          try simp only [Act.put, List.setIfInBounds_toArray]
          refine wpAnyH_done (by kernel_rfl) ?_ _
          unfold tailQ wpOp
          simp only [List.getElem?_toArray, List.getElem?_cons_succ, List.getElem?_cons_zero]
          rw [if_pos (by rfl)]
          refine Or.inl ?_
          clear hHeld hHeld1 v1c v2c v1z
          have HX1 := Lib.hid (hb01.box HXV.out hDF)
          have HR1 := Lib.hid (hb01.box HRV.out hRF)
          have HFS1 := Lib.hid (HFSV.out.but hb01 (fun b e => by rw [e]; exact hS2F))
          have HOK1 := Lib.hid (HOKV.out.but hb01 (fun b e => by rw [e]; exact hS2F))
          have HB1 := Lib.hid (HBV.out.trans (hb01.to_below HBV.out.size (fun b e => by omega)))
          have hs1 := hb01.size
          have HFF := Lib.hid hf1
          clear hf1 hz1 t4 hb01
          go_simp
          go_upto_region 26 with fail
          obtain ⟨W9, hW9⟩ : ∃ W9, V1.setCell ⟨Fb, 2, none⟩ (.int .i64 (mn : Int)) = W9 := ⟨_, rfl⟩
          have hb89 : But (fun b => b = Fb) V1 W9 := by rw [← hW9]; exact (But.refl (fun b => b = Fb) V1).set ⟨Fb, 2, none⟩ _ (.inl rfl)
          have hf9 : W9.heap[Fb]? = some (.cells #[.string nm, .slice A0 k c0, .int .i64 (mn : Int)] 59 (0, 0)) := by rw [← hW9]; exact heap_setCells (i := 2) HFF.out
          have hx9 := hb89.box HX1.out hDF
          have hr9 := hb89.box HR1.out hRF
          have HFS9 := Lib.hid (HFS1.out.but hb89 (fun b e => by rw [e]; exact hS2F))
          have hlen : (f0.t.2.1.take k).length = k := by have := HLB.out; rw [List.length_take]; omega
          have hok1 : FOk S2 W9 f1 := by
            have h1 := HOK1.out.but hb89 (fun b e => by rw [e]; exact hS2F)
            rw [hf1]
            refine ⟨h1.1.takeB k, ?_, h1.2.2⟩
            show (f0.t.2.1.take k).length ≤ f0.c
            have := HC0.out
            omega
          have hc1 : f1.cells = [.string nm, .slice A0 k c0, .int .i64 (mn : Int)] := by rw [hf1]; unfold FileR.cells; dsimp only; rw [HNM.out, HA0.out, HC0.out, hlen, HMN.out]
          have hs9 : W8.heap.size ≤ W9.heap.size := Nat.le_trans (Nat.le_trans hsV hs1) hb89.size
          have HB9 := Lib.hid (HB1.out.trans (hb89.to_below HB1.out.size (fun b e => by omega)))
          rw [hW9]
          have x0 := hs9
          have x1 := hs9
          have x2 := hs9
          have x3 := hs9
          have x4 := hs9
          have y0 := hs9
          have y1 := hs9
          have y2 := hs9
          have y3 := hs9
          have y4 := hs9
          have f0c := hs9
          have f1c := hs9
          have f2c := hs9
          have f0z := hs9
          have f1z := hs9
          have f2z := hs9
          clear hW9 hb89 hf1 hlen t2 tz2
          have hwi := with_any (S := S2) _ n c fs f1 W9 HFS9.out HN.out hn1m (fun b e => by have := hS2b b e; omega) hok1
          rw [hc1] at hwi
          obtain ⟨N, hN⟩ : ∃ N, (putR f1 fs).length = N := ⟨_, rfl⟩
          rw [hN] at hwi
          have HNN := Lib.hid hN
          clear hok1 hc1 hN x0 x1 x2 x3 x4 y0 y1 y2 y3 y4 f0c f1c f2c f0z f1z f2z
          obtain ⟨x0, x1, x2, x3, x4⟩ := cells5 hx9
          have q0 := cell_of_heap hf9 0
          have q1 := cell_of_heap hf9 1
          have q2 := cell_of_heap hf9 2
          simp only [List.getElem?_toArray, List.getElem?_cons_succ, List.getElem?_cons_zero] at q0 q1 q2
          have HX9 := Lib.hid hx9
          have HR9 := Lib.hid hr9
          clear hx9 hr9 hf9
          go_upto_region 27 with (go_at_call 73; (with_reducible refine hwi.mono ?_); clear hwi; rintro e W10 ⟨v, rfl, hown, hfs10, hb10⟩; obtain ⟨B, cB, rfl⟩ := own3_slice hown; dsimp only at hfs10; have hx10 := (hb10.block _ (Array.getElem?_eq_some_iff.1 HX9.out).1).trans HX9.out; have fz1 := frozen_of_heap hx10 1; have z1 := cell_of_heap hx10 1; simp only [List.getElem?_toArray, List.getElem?_cons_succ, List.getElem?_cons_zero] at z1)
          obtain ⟨W11, hW11⟩ : ∃ W11, W10.setCell ⟨w.heap.size, 1, none⟩ (.slice B N cB) = W11 := ⟨_, rfl⟩
          have hx11 : W11.heap[w.heap.size]? = some (.cells #[.int .i64 ro, .slice B N cB, .bool sb, .int .i64 af', .bool false] 28 (0, 0)) := by rw [← hW11]; exact heap_setCells (i := 1) hx10
          have hbb : But (fun b => b = w.heap.size) W10 W11 := by rw [← hW11]; exact (But.refl (fun b => b = w.heap.size) W10).set ⟨w.heap.size, 1, none⟩ _ (.inl rfl)
          have hr11 := hbb.box ((hb10.block _ (Array.getElem?_eq_some_iff.1 HR9.out).1).trans HR9.out) (fun e => by omega)
          have HFS11 := Lib.hid (hfs10.but hbb (fun b e => by rw [e]; exact hS2D))
          have hB10 := HB9.out.trans (hb10.mono HB9.out.size)
          have HB11 := Lib.hid (hB10.trans (hbb.to_below hB10.size (fun b e => by omega)))
          rw [hW11]
          clear hW11 hx10 hbb hB10 hb10 hown hfs10 x0 x1 x2 x3 x4 q0 q1 q2 fz1 z1
          obtain ⟨x0, x1, x2, x3, x4⟩ := cells5 hx11
          obtain ⟨k0, k1, k2, k3, k4⟩ := cells5 hr11
          have g0 := frozen_of_heap hr11 0
          have g1 := frozen_of_heap hr11 1
          have g2 := frozen_of_heap hr11 2
          have g3 := frozen_of_heap hr11 3
          have g4 := frozen_of_heap hr11 4
          have HR11 := Lib.hid hr11
          clear hx11 hr11
          go_wp2
          obtain ⟨d0, d1, d2, d3, d4⟩ := cells5 (set5 HR11.out (.int .i64 ro) (.slice B N cB) (.bool sb) (.int .i64 af') (.bool false))
          refine bodyPost_ret (v := .tuple #[refV ⟨sb, af', false, ro⟩ B N cB, .int .i64 0]) (by simp [results, Try.results60, go_sem, refV, d0, d1, d2, d3, d4]) rfl ⟨_, rfl, ?_⟩
          rw [← HR2.out]
          have hbut := HPUT.out W11 (.int .i64 ro) (.slice B N cB) (.bool sb) (.int .i64 af') (.bool false)
          have hbt : Below w.heap.size w _ := HB11.out.trans (hbut.to_below HB11.out.size (fun b e => by omega))
          exact ⟨⟨B, N, cB, putR f1 fs, rfl, (HFS11.out.but hbut (fun b e => by rw [e]; exact hS2R)).less (fun b _ e => hS2S b e), HNN.out, HMAP.out⟩, hbt⟩
        by_cases e3 : what = 3
        · subst e3
          have hge : getL (strL y.name) (fs.map fun f => f.t) = some f0.t := by
            rcases hD0.out.2 with e | e
            · exact absurd e.1 (HWZ.out.1 (by rw [HWHAT.out]; decide))
            · exact e
          have hwo := without_any (S := S2) _ n c fs y.name W8 HFS8.out HN.out hn1m
          obtain ⟨fsX, hfsX⟩ : ∃ fsX, delR (strL y.name) fs = fsX := ⟨_, rfl⟩
          have hmX : fsX.map (fun f => f.t) = delL (strL y.name) (fs.map fun f => f.t) := by rw [← hfsX]; exact delR_map _ _
          have hlX : fsX.length ≤ n := by
            have h1 : fsX.length ≤ fs.length := by rw [← hfsX]; exact List.length_filter_le _ _
            have := HN.out
            omega
          have HMEM := Lib.hid (show ∀ g ∈ fsX, g ∈ fs from fun g hg => by rw [← hfsX] at hg; exact delR_mem hg)
          rw [hfsX] at hwo
          obtain ⟨N, hN⟩ : ∃ N, fsX.length = N := ⟨_, rfl⟩
          rw [hN] at hwo hlX
          have HNX := Lib.hid hN
          clear hN hfsX
          have HMAP : Hid (fsX.map (fun f => f.t) = nextL (fs.map fun f => f.t) y) := Lib.hid (by
            rw [hmX, nextL_some hge (by rw [HWHAT.out]; decide), if_neg (by rw [HWHAT.out]; decide), if_neg (by rw [HWHAT.out]; decide), if_pos HWHAT.out])
          clear hge hmX
          go_upto_region 25 with (go_at_call 72; (with_reducible refine hwo.mono ?_); clear hwo; rintro e W10 ⟨v, rfl, hown, hb10⟩; obtain ⟨B, cB, rfl⟩ := own3_slice hown; have hx10 := (hb10.block _ (Array.getElem?_eq_some_iff.1 HX8.out).1).trans HX8.out; have fz1 := frozen_of_heap hx10 1; have z1 := cell_of_heap hx10 1; simp only [List.getElem?_toArray, List.getElem?_cons_succ, List.getElem?_cons_zero] at z1)
          have hfs10 : FsAt S2 W10 B fsX := FsAt.of_own hown HNX.out hS2b (fun g hg => (HFS8.out.2 g (HMEM.out g hg)).but (But.of_all hb10 (fun _ => False)) (fun _ e => e.elim))
          obtain ⟨W11, hW⟩ : ∃ W11, W10.setCell ⟨w.heap.size, 1, none⟩ (.slice B N cB) = W11 := ⟨_, rfl⟩
          have hx11 : W11.heap[w.heap.size]? = some (.cells #[.int .i64 ro, .slice B N cB, .bool sb, .int .i64 af', .bool false] 28 (0, 0)) := by rw [← hW]; exact heap_setCells (i := 1) hx10
          have hbb : But (fun b => b = w.heap.size) W10 W11 := by rw [← hW]; exact (But.refl (fun b => b = w.heap.size) W10).set ⟨w.heap.size, 1, none⟩ _ (.inl rfl)
          have hr11 := hbb.box ((hb10.block _ (Array.getElem?_eq_some_iff.1 HR8.out).1).trans HR8.out) (fun e => by omega)
          have HFS11 := Lib.hid (hfs10.but hbb (fun b e => by rw [e]; exact hS2D))
          have hB10 := HB8.out.trans (hb10.mono HB8.out.size)
          have HB11 := Lib.hid (hB10.trans (hbb.to_below hB10.size (fun b e => by omega)))
          have hs11 : W8.heap.size ≤ W11.heap.size := Nat.le_trans hb10.size hbb.size
          rw [hW]
          clear hW hx10 hbb hB10 hb10 hown hfs10 x0 x1 x2 x3 x4 fz1 z1 y0 y1 y2 y3 y4 f0c f1c f2c f0z f1z f2z
          obtain ⟨x0, x1, x2, x3, x4⟩ := cells5 hx11
          obtain ⟨k0, k1, k2, k3, k4⟩ := cells5 hr11
          have g0 := frozen_of_heap hr11 0
          have g1 := frozen_of_heap hr11 1
          have g2 := frozen_of_heap hr11 2
          have g3 := frozen_of_heap hr11 3
          have g4 := frozen_of_heap hr11 4
          have HR11 := Lib.hid hr11
          have HNN := HNX
          clear hx11 hr11
          go_wp2
          obtain ⟨d0, d1, d2, d3, d4⟩ := cells5 (set5 HR11.out (.int .i64 ro) (.slice B N cB) (.bool sb) (.int .i64 af') (.bool false))
          refine bodyPost_ret (v := .tuple #[refV ⟨sb, af', false, ro⟩ B N cB, .int .i64 0]) (by simp [results, Try.results60, go_sem, refV, d0, d1, d2, d3, d4]) rfl ⟨_, rfl, ?_⟩
          rw [← HR2.out]
          have hbut := HPUT.out W11 (.int .i64 ro) (.slice B N cB) (.bool sb) (.int .i64 af') (.bool false)
          have hbt : Below w.heap.size w _ := HB11.out.trans (hbut.to_below HB11.out.size (fun b e => by omega))
          exact ⟨⟨B, N, cB, fsX, rfl, (HFS11.out.but hbut (fun b e => by rw [e]; exact hS2R)).less (fun b _ e => hS2S b e), HNN.out, HMAP.out⟩, hbt⟩
        have b0 : (what == 0) = false := by rw [beq_eq_false_iff_ne]; exact e0
        have b1 : (what == 1) = false := by rw [beq_eq_false_iff_ne]; exact e1
        have b2 : (what == 2) = false := by rw [beq_eq_false_iff_ne]; exact e2
        have b3 : (what == 3) = false := by rw [beq_eq_false_iff_ne]; exact e3
        have hge : getL (strL y.name) (fs.map fun f => f.t) = some f0.t := by
          rcases hD0.out.2 with e | e
          · exact absurd e.1 (HWZ.out.1 (by rw [HWHAT.out]; exact e0))
          · exact e
        have hwo := without_any (S := S2) _ n c fs y.name W8 HFS8.out HN.out hn1m
        obtain ⟨fsX, hfsX⟩ : ∃ fsX, delR (strL y.name) fs = fsX := ⟨_, rfl⟩
        have hmX : fsX.map (fun f => f.t) = delL (strL y.name) (fs.map fun f => f.t) := by rw [← hfsX]; exact delR_map _ _
        have hlX : fsX.length ≤ n := by
          have h1 : fsX.length ≤ fs.length := by rw [← hfsX]; exact List.length_filter_le _ _
          have := HN.out
          omega
        have HMEM := Lib.hid (show ∀ g ∈ fsX, g ∈ fs from fun g hg => by rw [← hfsX] at hg; exact delR_mem hg)
        rw [hfsX] at hwo
        obtain ⟨N, hN⟩ : ∃ N, fsX.length = N := ⟨_, rfl⟩
        rw [hN] at hwo hlX
        have HNX := Lib.hid hN
        clear hN hfsX
        obtain ⟨f1, hf1⟩ : ∃ f1 : FileR, f1 = ⟨(strL y.to_, f0.t.2.1, f0.t.2.2), f0.A, f0.c⟩ := ⟨_, rfl⟩
        have HMAP : Hid ((putR f1 fsX).map (fun f => f.t) = nextL (fs.map fun f => f.t) y) := Lib.hid (by
          rw [putR_map, hmX, nextL_some hge (by rw [HWHAT.out]; exact e0), if_neg (by rw [HWHAT.out]; exact e1), if_neg (by rw [HWHAT.out]; exact e2), if_neg (by rw [HWHAT.out]; exact e3), hf1])
        clear hge hmX e0 e1 e2 e3
        go_upto_region 16 with (go_at_call 72; (with_reducible refine hwo.mono ?_); clear hwo; rintro e W10 ⟨v, rfl, hown, hb10⟩; obtain ⟨B, cB, rfl⟩ := own3_slice hown; have hx10 := (hb10.block _ (Array.getElem?_eq_some_iff.1 HX8.out).1).trans HX8.out; have fz1 := frozen_of_heap hx10 1; have z1 := cell_of_heap hx10 1; simp only [List.getElem?_toArray, List.getElem?_cons_succ, List.getElem?_cons_zero] at z1)
        have hfs10 : FsAt S2 W10 B fsX := FsAt.of_own hown HNX.out hS2b (fun g hg => (HFS8.out.2 g (HMEM.out g hg)).but (But.of_all hb10 (fun _ => False)) (fun _ e => e.elim))
        obtain ⟨W8b, hW⟩ : ∃ W8b, W10.setCell ⟨w.heap.size, 1, none⟩ (.slice B N cB) = W8b := ⟨_, rfl⟩
        have hx11 : W8b.heap[w.heap.size]? = some (.cells #[.int .i64 ro, .slice B N cB, .bool sb, .int .i64 af', .bool false] 28 (0, 0)) := by rw [← hW]; exact heap_setCells (i := 1) hx10
        have hbb : But (fun b => b = w.heap.size) W10 W8b := by rw [← hW]; exact (But.refl (fun b => b = w.heap.size) W10).set ⟨w.heap.size, 1, none⟩ _ (.inl rfl)
        have hr11 := hbb.box ((hb10.block _ (Array.getElem?_eq_some_iff.1 HR8.out).1).trans HR8.out) (fun e => by omega)
        have HFS11 := Lib.hid (hfs10.but hbb (fun b e => by rw [e]; exact hS2D))
        have hB10 := HB8.out.trans (hb10.mono HB8.out.size)
        have HB11 := Lib.hid (hB10.trans (hbb.to_below hB10.size (fun b e => by omega)))
        have hs11 : W8.heap.size ≤ W8b.heap.size := Nat.le_trans hb10.size hbb.size
        have hf10 := (hb10.block _ (Array.getElem?_eq_some_iff.1 HF8.out).1).trans HF8.out
        have hf11 := hbb.box hf10 (fun e => hDF e.symm)
        have hz10 := (hb10.block _ (Array.getElem?_eq_some_iff.1 HZ8.out).1).trans HZ8.out
        have hz11 := hbb.box hz10 (fun e => by omega)
        have HOKB := Lib.hid ((HOK82.out.but (But.of_all hb10 (fun _ => False)) (fun _ e => e.elim)).but hbb (fun b e => by rw [e]; exact hS2D))
        rw [hW]
        clear hW hx10 hbb hB10 hb10 hown hfs10 x0 x1 x2 x3 x4 fz1 z1 y0 y1 y2 y3 y4 f0c f1c f2c f0z f1z f2z hf10 hz10
        obtain ⟨x0, x1, x2, x3, x4⟩ := cells5 hx11
        obtain ⟨y0, y1, y2, y3, y4⟩ := cells5 hz11
        have f0c := cell_of_heap hf11 0
        have f1c := cell_of_heap hf11 1
        have f2c := cell_of_heap hf11 2
        have f0z := frozen_of_heap hf11 0
        have f1z := frozen_of_heap hf11 1
        have f2z := frozen_of_heap hf11 2
        simp only [List.getElem?_toArray, List.getElem?_cons_succ, List.getElem?_cons_zero] at f0c f1c f2c
        have HX11 := Lib.hid hx11
        have HR11 := Lib.hid hr11
        have HF11 := Lib.hid hf11
        clear hx11 hr11 hf11 hz11
        go_upto_region 26 with fail
        obtain ⟨W9, hW9⟩ : ∃ W9, W8b.setCell ⟨Fb, 0, none⟩ (.string y.to_) = W9 := ⟨_, rfl⟩
        have hb89 : But (fun b => b = Fb) W8b W9 := by rw [← hW9]; exact (But.refl (fun b => b = Fb) W8b).set ⟨Fb, 0, none⟩ _ (.inl rfl)
        have hf9 : W9.heap[Fb]? = some (.cells #[.string y.to_, .slice A0 lb c0, .int .i64 (sv : Int)] 59 (0, 0)) := by rw [← hW9]; exact heap_setCells (i := 0) HF11.out
        have hx9 := hb89.box HX11.out hDF
        have hr9 := hb89.box HR11.out hRF
        have HFS9 := Lib.hid (HFS11.out.but hb89 (fun b e => by rw [e]; exact hS2F))
        have hok1 : FOk S2 W9 f1 := by rw [hf1]; exact HOKB.out.but hb89 (fun b e => by rw [e]; exact hS2F)
        have hc1 : f1.cells = [.string y.to_, .slice A0 lb c0, .int .i64 (sv : Int)] := by rw [hf1]; unfold FileR.cells; dsimp only; rw [strB_strL, HLB.out, HA0.out, HC0.out, HSV.out]
        have hs9 : W8.heap.size ≤ W9.heap.size := Nat.le_trans hs11 hb89.size
        have HB9 := Lib.hid (HB11.out.trans (hb89.to_below HB11.out.size (fun b e => by omega)))
        rw [hW9]
        clear hW9 hb89 hf1 HX11 HF11 HR11 HB11 HFS11
        have hwi := with_any (S := S2) B N cB fsX f1 W9 HFS9.out HNX.out (by omega) (fun b e => by have := hS2b b e; omega) hok1
        rw [hc1] at hwi
        obtain ⟨N2, hN⟩ : ∃ N2, (putR f1 fsX).length = N2 := ⟨_, rfl⟩
        rw [hN] at hwi
        have HNN := Lib.hid hN
        clear hok1 hc1 hN x0 x1 x2 x3 x4 y0 y1 y2 y3 y4 f0c f1c f2c f0z f1z f2z
        obtain ⟨x0, x1, x2, x3, x4⟩ := cells5 hx9
        have q0 := cell_of_heap hf9 0
        have q1 := cell_of_heap hf9 1
        have q2 := cell_of_heap hf9 2
        simp only [List.getElem?_toArray, List.getElem?_cons_succ, List.getElem?_cons_zero] at q0 q1 q2
        have HX9 := Lib.hid hx9
        have HR9 := Lib.hid hr9
        clear hx9 hr9 hf9
        go_upto_region 27 with (go_at_call 73; (with_reducible refine hwi.mono ?_); clear hwi; rintro e W10 ⟨v, rfl, hown, hfs10, hb10⟩; obtain ⟨B2, cB2, rfl⟩ := own3_slice hown; dsimp only at hfs10; have hx10 := (hb10.block _ (Array.getElem?_eq_some_iff.1 HX9.out).1).trans HX9.out; have fz1 := frozen_of_heap hx10 1; have z1 := cell_of_heap hx10 1; simp only [List.getElem?_toArray, List.getElem?_cons_succ, List.getElem?_cons_zero] at z1)
        obtain ⟨W11, hW11⟩ : ∃ W11, W10.setCell ⟨w.heap.size, 1, none⟩ (.slice B2 N2 cB2) = W11 := ⟨_, rfl⟩
        have hx11 : W11.heap[w.heap.size]? = some (.cells #[.int .i64 ro, .slice B2 N2 cB2, .bool sb, .int .i64 af', .bool false] 28 (0, 0)) := by rw [← hW11]; exact heap_setCells (i := 1) hx10
        have hbb : But (fun b => b = w.heap.size) W10 W11 := by rw [← hW11]; exact (But.refl (fun b => b = w.heap.size) W10).set ⟨w.heap.size, 1, none⟩ _ (.inl rfl)
        have hr11 := hbb.box ((hb10.block _ (Array.getElem?_eq_some_iff.1 HR9.out).1).trans HR9.out) (fun e => by omega)
        have HFS11 := Lib.hid (hfs10.but hbb (fun b e => by rw [e]; exact hS2D))
        have hB10 := HB9.out.trans (hb10.mono HB9.out.size)
        have HB11 := Lib.hid (hB10.trans (hbb.to_below hB10.size (fun b e => by omega)))
        rw [hW11]
        clear hW11 hx10 hbb hB10 hb10 hown hfs10 x0 x1 x2 x3 x4 q0 q1 q2 fz1 z1
        obtain ⟨x0, x1, x2, x3, x4⟩ := cells5 hx11
        obtain ⟨k0, k1, k2, k3, k4⟩ := cells5 hr11
        have g0 := frozen_of_heap hr11 0
        have g1 := frozen_of_heap hr11 1
        have g2 := frozen_of_heap hr11 2
        have g3 := frozen_of_heap hr11 3
        have g4 := frozen_of_heap hr11 4
        have HR11 := Lib.hid hr11
        clear hx11 hr11
        go_wp2
        obtain ⟨d0, d1, d2, d3, d4⟩ := cells5 (set5 HR11.out (.int .i64 ro) (.slice B2 N2 cB2) (.bool sb) (.int .i64 af') (.bool false))
        refine bodyPost_ret (v := .tuple #[refV ⟨sb, af', false, ro⟩ B2 N2 cB2, .int .i64 0]) (by simp [results, Try.results60, go_sem, refV, d0, d1, d2, d3, d4]) rfl ⟨_, rfl, ?_⟩
        rw [← HR2.out]
        have hbut := HPUT.out W11 (.int .i64 ro) (.slice B2 N2 cB2) (.bool sb) (.int .i64 af') (.bool false)
        have hbt : Below w.heap.size w _ := HB11.out.trans (hbut.to_below HB11.out.size (fun b e => by omega))
        exact ⟨⟨B2, N2, cB2, putR f1 fsX, rfl, (HFS11.out.but hbut (fun b e => by rw [e]; exact hS2R)).less (fun b _ e => hS2S b e), HNN.out, HMAP.out⟩, hbt⟩
  · have HR2 := Lib.hid (show ((⟨st, af, de, ro⟩, fs.map (fun f => f.t), Wh) : DSt × List (List (BitVec 8) × List (BitVec 8) × Nat) × Int) = res by rw [← HRES.out, if_neg hwh])
    have hwn : (Wh != 0) = true := by rw [bne_iff_ne]; exact hwh
    clear hwh
    go_wp2
    obtain ⟨c0, c1, c2, c3, c4⟩ := cells5 (set5 HR4.out (.int .i64 ro) (.slice A n c) (.bool st) (.int .i64 af) (.bool de))
    refine bodyPost_ret (v := .tuple #[refV ⟨st, af, de, ro⟩ A n c, .int .i64 Wh]) (by simp [results, Try.results60, go_sem, refV, c0, c1, c2, c3, c4]) rfl ⟨_, rfl, ?_⟩
    rw [← HR2.out]
    have hbt : Below w.heap.size w _ := HB4.out.trans ((HPUT.out w4 (.int .i64 ro) (.slice A n c) (.bool st) (.int .i64 af) (.bool de)).to_below HB4.out.size (fun b e => by omega))
    exact ⟨⟨A, n, c, fs, rfl, H.out.keep hbt, HN.out, rfl⟩, hbt⟩
end Go.Proofs
