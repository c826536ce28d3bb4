/-
  The walk of the law WireReads: at every readable bytes and calls it returns true and nothing that lay has turned, where the table lies in memory.
-/
import Derived.Test.YteeponciegmlcaaDoorRdI
import Derived.Test.YteeponciegmlcaaDoorRefY
import Derived.Lib.SmallJoins
import Derived.Deep.Slices
import Derived.Test.YteeponciegmlcaaDoorOpenA
import Derived.Deep.RegionHeldLaw
import Derived.Deep.RegionWith
import Derived.Deep.DrawnRows
import Derived.Test.YteeponciegmlcaaDoorLawF
import Derived.Test.YteeponciegmlcaaDoorLawR
import Derived.Test.YteeponciegmlcaaDoorLawT
namespace Go.Proofs
open Go.RowKit Go.Shelf Sm
attribute [local go_sem ↓] Go.wp_at_zero Go.wp_at_succ
/-- a reader whose bytes lie at or beyond N -/
def Sm.RdNew (w : World) (R : Nat) (l : List (BitVec 8)) (N : Nat) : Prop := N ≤ R ∧ ∃ A n c, w.heap[R]? = some (.cells #[.slice A n c, .int .i64 0, .bool true] 59 (0, 0)) ∧ RestAt w R A n c l ∧ ∀ b off, A = some ⟨b, off, none⟩ → N ≤ b
theorem Sm.RdNew.rdr {w : World} {R : Nat} {l : List (BitVec 8)} {N : Nat} (h : RdNew w R l N) : Rdr w R l 0 := by
  obtain ⟨_, A, n, c, h1, h2, _⟩ := h
  exact .inl ⟨rfl, A, n, c, h1, h2⟩
theorem Sm.RdNew.set {w : World} {R : Nat} {l : List (BitVec 8)} {N : Nat} (h : RdNew w R l N) {g : Nat} (hg : g < N) (i : Nat) (u : Value) : RdNew (w.setCell ⟨g, i, none⟩ u) R l N := by
  obtain ⟨h0, A, n, c, h1, h2, h3⟩ := h
  have hbut : But (fun b => b = g) w (w.setCell ⟨g, i, none⟩ u) := (But.refl _ w).set ⟨g, i, none⟩ u (.inl rfl)
  have h4 := hbut.box h1 (by omega)
  refine ⟨h0, A, n, c, h4, ⟨cell_of_heap h4 0, frozen_of_heap h4 0, h2.len, h2.room, h2.none_, fun hl => ?_⟩, h3⟩
  obtain ⟨b, off, e, hb, hc⟩ := h2.rd hl
  have hN := h3 b off e
  have hlt : R < w.heap.size := (Array.getElem?_eq_some_iff.1 h1).1
  exact ⟨b, off, e, hb, fun j x hj => (hbut.cell (p := ⟨b, off + j, none⟩) (show b < w.heap.size by omega) (show ¬ b = g by omega)).trans (hc j x hj)⟩
set_option maxHeartbeats 1000000 in
theorem Sm.Read_new (l : List (BitVec 8)) (n c N : Nat) (A : Option Addr) (w : World) (hn : Hid (l.length = n)) (hm : n ≤ 1000000) (hN : N ≤ w.heap.size) (hr : Rd w N A l) :
    Calls Tryd.prog 21 #[.slice A n c] w fun e w' => ∃ B, e = .returned (.pointer (some ⟨B, 0, none⟩)) ∧ RdNew w' B l w.heap.size ∧ Below w.heap.size w w' := by
  go_enter Tryd.func21, Tryd.ntmps21
  go_wp2_with (go_at_call 40; (with_reducible refine (Clone_any l n c N A _ hn hm hN hr).mono ?_); rintro e w1 ⟨v, rfl, hown, hb⟩; obtain ⟨A1, c1, rfl⟩ := own_slice hown)
  go_ret
  have hx : (w1.alloc (.cells #[.slice A1 n c1, .int .i64 0, .bool true] 59)).heap[w1.heap.size]? = some (.cells #[.slice A1 n c1, .int .i64 0, .bool true] 59 (0, 0)) := World.alloc_heap_new w1 _
  have hform : n ≤ c1 ∧ (A1 = none → c1 = 0) ∧ (∀ b off, A1 = some ⟨b, off, none⟩ → w.heap.size ≤ b) := by
    rcases hown.2 with ⟨e1, _⟩ | ⟨g, cap, cur, e1, h0, _, h3, _⟩
    · injection e1 with e2 e3 e4
      subst e2 e3 e4
      exact ⟨Nat.le_refl _, fun _ => rfl, fun b off e => by cases e⟩
    · injection e1 with e2 e3 e4
      subst e2 e4
      exact ⟨h3, (fun e => by cases e), (fun b off e => by cases e; exact h0)⟩
  refine ⟨w1.heap.size, rfl, ⟨hb.size, A1, n, c1, hx, ?_, hform.2.2⟩, hb.alloc hb.size _⟩
  refine { cell := ?_, frozen := ?_, len := hn.out, room := hform.1, none_ := hform.2.1, rd := ?_ }
  · exact cell_of_heap hx 0
  · exact frozen_of_heap hx 0
  · exact (Rd.of_own hown (Nat.le_refl _)).alloc (Nat.le_refl _) _
theorem Sm.numS_len (l : List (BitVec 8)) (e most : Int) : (numS l e most).1.length ≤ l.length := by
  unfold numS
  split
  · exact Nat.le_refl _
  · split
    · exact Nat.le_refl _
    · split
      · split
        · simp
        · simp
      · simp
theorem Sm.textS_len (l : List (BitVec 8)) (e most : Int) : (textS l e most).1.length ≤ l.length := by
  unfold textS
  split
  · exact Nat.le_refl _
  · split
    · exact Nat.le_refl _
    · split
      · split
        · rw [List.length_drop, List.length_drop]; omega
        · simp
      · simp
theorem Sm.truthS_len (l : List (BitVec 8)) (e : Int) : (truthS l e).1.length ≤ l.length := by
  unfold truthS
  split
  · exact Nat.le_refl _
  · split
    · split
      · simp
      · simp
    · simp
theorem Sm.endS_len (l : List (BitVec 8)) (e : Int) : (endS l e).1.length ≤ l.length := by
  unfold endS
  split
  · exact Nat.le_refl _
  · split
    · exact Nat.le_refl _
    · simp
end Go.Proofs
namespace Go.Proofs
open Go Go.ChangeShapes Go.WideShapes Go.ChangeAt Go.WideMaps Go.WideElems Go.RowKit Sm Go.Deep
/-- calls of a reader that came in: kind, greatest number -/
def Sm.RdAsks (w : World) (A : Option Addr) (xs : List (Int × Int)) : Prop :=
  0 < xs.length → ∃ b off, A = some ⟨b, off, none⟩ ∧ b < w.heap.size ∧ ∀ j x, xs[j]? = some x → w.cell? ⟨b, off + j * 2, none⟩ = some (.int .i64 x.1) ∧ w.cell? ⟨b, off + j * 2 + 1, none⟩ = some (.int .i64 x.2)
def Sm.AskOk (x : Int × Int) : Prop := -9223372036854775808 ≤ x.2 ∧ x.2 ≤ 9223372036854775807
theorem Sm.RdAsks.at {w : World} {A : Option Addr} {xs : List (Int × Int)} (h : RdAsks w A xs) {k : Nat} (hk : k < xs.length) : ∃ b off, A = some ⟨b, off, none⟩ ∧ b < w.heap.size ∧ w.cell? ⟨b, off + k * 2, none⟩ = some (.int .i64 xs[k].1) ∧ w.cell? ⟨b, off + k * 2 + 1, none⟩ = some (.int .i64 xs[k].2) := by
  obtain ⟨b, off, rfl, hb, hc⟩ := h (by omega)
  have := hc k xs[k] (List.getElem?_eq_getElem hk)
  exact ⟨b, off, rfl, hb, this.1, this.2⟩
namespace YteeponciegmlcaaDoor
theorem c56 : Tryd.prog.cellsOf 56 = 2 := by kernel_rfl
set_option maxRecDepth 100000 in
set_option maxHeartbeats 2000000 in
theorem open_asks {H : Type} {enc : TypeId × Value → H} {W : World} {base : Nat} {v : Value} {d : DataW H} {p : List MemPlace} (hok : Value.okWide Tryd.prog W .any base 52 v) (h : DataW.Trod enc Tryd.prog W 0 (fun _ => true) true 52 v d p) :
    ∃ (A : Option Addr) (n c : Nat) (xs : List (Int × Int)), v = .slice A n c ∧ xs.length = n ∧ n ≤ c ∧ c ≤ 9223372036854775807 ∧ RdAsks W A xs ∧ ∀ x ∈ xs, AskOk x := by
  obtain ⟨a0, len, cap, rfl⟩ := okWide_slice Tryd.underlying52 hok
  obtain ⟨fuel, hf⟩ := h
  rcases open_slice Tryd.underlying52 (cs := [.slice a0 len cap]) (by simpa [Value.cells] using hf) with ⟨hcs, _⟩ | ⟨a, len', cap', m, n, D, Pl, hcs, _, hl, hm, hmm, _, hx⟩
  · simp only [List.cons.injEq, and_true] at hcs
    exact ⟨none, 0, 0, [], hcs, rfl, Nat.le_refl _, by omega, (fun h => absurd h (by simp)), fun q hq => by cases hq⟩
  · simp only [List.cons.injEq, and_true] at hcs
    have hlm : len' ≤ m := by rw [hmm]; simp; omega
    have hone : ∀ i, i < m → ∃ x : Int × Int, W.cell? (a.add (i * 2)) = some (.int .i64 x.1) ∧ W.cell? (a.add (i * 2 + 1)) = some (.int .i64 x.2) ∧ AskOk x := by
      intro i hi
      obtain ⟨cs', h1, h2⟩ := hx i hi
      rw [c56] at h1
      obtain ⟨_, hlen, hcell⟩ := World.cells?_some h1
      obtain ⟨y0, y1, k, _, _, g0, g1⟩ := trod_struct2 Tryd.underlying56 h2
      match cs', hlen with
      | [v0, v1], _ =>
        simp [c3, c2] at g0 g1
        obtain ⟨z, e0, _⟩ := DataW.trod_int Tryd.underlying3 g0
        obtain ⟨y, e1, _, hwf⟩ := DataW.trod_int Tryd.underlying2 g1
        simp only [List.cons.injEq, and_true] at e0 e1
        subst e0 e1
        have q0 := hcell 0 (by omega)
        have q1 := hcell 1 (by omega)
        rw [add_add] at q0 q1
        exact ⟨⟨z, y⟩, by simpa using q0, by simpa using q1, bd64 rfl hwf⟩
    obtain ⟨X, hX⟩ := choose_lt hone
    refine ⟨some a, len', cap', (List.range len').map X, hcs, by simp, hl, by unfold maxLen at hm; omega, ?_, ?_⟩
    · intro h0
      have hp : 0 < len' := by simpa using h0
      have c0 := (hX 0 (by omega)).1
      obtain ⟨b, off, spot⟩ := a
      have hspot : spot = none := by simpa [Addr.add] using World.cell?_spot c0
      subst hspot
      have hb : b < W.heap.size := by
        have := World.block_lt_of_cell? W _ c0
        rw [Go.WideShapes.add_plain] at this
        exact this
      refine ⟨b, off, rfl, hb, fun j q hj => ?_⟩
      rw [List.getElem?_map] at hj
      obtain ⟨r, hr1, rfl⟩ := Option.map_eq_some_iff.1 hj
      have hjl : j < len' := by have := (List.getElem?_eq_some_iff.1 hr1).1; simpa using this
      obtain rfl : j = r := by rw [List.getElem?_range hjl] at hr1; exact Option.some.inj hr1
      have := hX j (by omega)
      simp only [Go.WideShapes.add_plain] at this
      exact ⟨this.1, this.2.1⟩
    · intro q hq
      obtain ⟨r, hr, rfl⟩ := List.mem_map.1 hq
      exact (hX r (by have := List.mem_range.1 hr; omega)).2.2
end YteeponciegmlcaaDoor
end Go.Proofs
namespace Go.Proofs
open Go.RowKit Go.Shelf Sm
attribute [local go_sem ↓] Go.wp_at_zero Go.wp_at_succ
theorem Sm.askS_len (l : List (BitVec 8)) (e what most : Int) : (askS l e what most).1.length ≤ l.length := by
  unfold askS
  split
  · exact numS_len _ _ _
  · split
    · exact textS_len _ _ _
    · split
      · exact truthS_len _ _
      · split
        · exact endS_len _ _
        · exact Nat.le_refl _
theorem Sm.ask_any (w : World) (R : Nat) (A : Option Addr) (n c : Nat) (l : List (BitVec 8)) (e what most : Int) (h : Rdr w R l e) (hra : RefAt w A n c l) (hm : n ≤ 9223372036854775807) (hlo : -9223372036854775808 ≤ most) (hhi : most ≤ 9223372036854775807) :
    Calls Tryd.prog 25 #[.pointer (some ⟨R, 0, none⟩), rdV A n c e, .agg #[.int .i64 what, .int .i64 most]] w (AskPost w R (askS l e what most).1 (askS l e what most).2) := by
  unfold askS
  by_cases h0 : what = 0
  · subst h0
    rw [if_pos rfl]
    exact ask_num w R A n c l e most h hra hm hlo hhi
  · rw [if_neg h0]
    by_cases h1 : what = 1
    · subst h1
      rw [if_pos rfl]
      exact ask_txt w R A n c l e most h hra hm hlo hhi
    · rw [if_neg h1]
      by_cases h2 : what = 2
      · subst h2
        rw [if_pos rfl]
        exact ask_tru w R A n c l e most h hra hm hlo hhi
      · rw [if_neg h2]
        by_cases h3 : what = 3
        · subst h3
          rw [if_pos rfl]
          exact ask_end w R A n c l e most h hra hlo hhi
        · rw [if_neg h3]
          obtain rfl : l.length = n := hra.len
          exact ask_left w R A c l e what most h hra (by simpa using h0) (by simpa using h1) (by simpa using h2) (by simpa using h3) hlo hhi
/-- the row that was appended to -/
structure Sm.Row77 (w : World) (base g n cap : Nat) (ys : List (BitVec 8)) : Prop where
  len : ys.length = n + 1
  last : ys[n]? = some 77#8
  own : w.ownsRow base 5 1 (.slice (some ⟨g, 0, none⟩) (n + 1) cap) (n + 1) (ys.map byteCell)
theorem Sm.Row77.but {w w' : World} {S : Nat → Prop} {base g n cap : Nat} {ys : List (BitVec 8)} (h : Row77 w base g n cap ys) (hb : But S w w') (hg : ¬ S g) : Row77 w' base g n cap ys :=
  ⟨h.len, h.last, hb.row h.own (fun q e => by cases e; exact hg)⟩
/-- how all stands behind a call -/
structure Sm.AskGo (w wz : World) (P Q R base g n cap : Nat) (ys : List (BitVec 8)) (u v : Value) (A5 : Option Addr) (c5 : Nat) (l5 : List (BitVec 8)) (e5 : Int) : Prop where
  q : wz.heap[Q]? = some (.cells #[.slice A5 l5.length c5, .int .i64 e5] 47 (0, 0))
  p : wz.heap[P]? = some (.cells #[u, v] 47 (0, 0))
  ref : RefAt wz A5 l5.length c5 l5
  rdr : Rdr wz R l5 e5
  row : Row77 wz base g n cap ys
  below : Below w.heap.size w wz
theorem Sm.askGo_b {w wr w5 : World} {P R base g n cap : Nat} {ys : List (BitVec 8)} {u v : Value} {A5 : Option Addr} {c5 : Nat} {l5 : List (BitVec 8)} {e5 : Int} (hp : wr.heap[P]? = some (.cells #[u, v] 47 (0, 0))) (hr : RefAt w5 A5 l5.length c5 l5) (hd : Rdr w5 R l5 e5) (hy : Row77 wr base g n cap ys) (hb : Below w.heap.size w wr) (hbt : But (fun b => b = R) wr w5) (hRP : R < P) (hgR : g < R) (hwR : w.heap.size ≤ R) :
    AskGo w (w5.alloc (.cells #[.slice A5 l5.length c5, .int .i64 e5] 47)) P w5.heap.size R base g n cap ys u v A5 c5 l5 e5 := by
  have h1 : Below w5.heap.size w5 (w5.alloc (.cells #[.slice A5 l5.length c5, .int .i64 e5] 47)) := (Below.refl _ _).alloc (Nat.le_refl _) _
  have h2 := hbt.box hp (by omega)
  have h3 : Below w.heap.size w w5 := hb.trans (hbt.to_below (n := w.heap.size) hb.size (fun b e => by omega))
  exact ⟨World.alloc_heap_new w5 _, (h1.block _ (Array.getElem?_eq_some_iff.1 h2).1).trans h2, hr.below h1, hd.below h1, (hy.but hbt (by omega)).but (But.of_all h1 (fun _ => False)) id, h3.trans (h1.mono h3.size)⟩
theorem Sm.notByte {w : World} {P : Nat} {A n c e T} (h : w.heap[P]? = some (.cells #[.slice A n c, .int .i64 e] T (0, 0))) (i : Nat) (x : Int) : w.cell? ⟨P, i, none⟩ ≠ some (.int .u8 x) := by
  intro hc
  rw [cell_of_heap h] at hc
  match i, hc with
  | 0, hc => simp at hc
  | 1, hc => simp at hc
  | i + 2, hc => simp at hc
theorem Sm.RefAt.set {w w' : World} {P : Nat} {A n c e T} (h : w.heap[P]? = some (.cells #[.slice A n c, .int .i64 e] T (0, 0))) {l5 : List (BitVec 8)} {A5 : Option Addr} {n5 c5 : Nat} (hr : RefAt w A5 n5 c5 l5) (hb : But (fun b => b = P) w w') : RefAt w' A5 n5 c5 l5 := by
  refine ⟨hr.len, hr.room, fun hl => ?_⟩
  obtain ⟨b, off, rfl, hbw, hc⟩ := hr.rd hl
  have hne : ¬ b = P := fun e => by
    subst e
    exact notByte h _ _ (hc 0 l5[0] (List.getElem?_eq_getElem hl))
  exact ⟨b, off, rfl, Nat.lt_of_lt_of_le hbw hb.size, fun j x hj => (hb.cell (p := ⟨b, off + j, none⟩) hbw hne).trans (hc j x hj)⟩
theorem Sm.set2_but (w : World) (P : Nat) (u v : Value) : But (fun b => b = P) w ((w.setCell ⟨P, 0, none⟩ u).setCell ⟨P, 1, none⟩ v) := by
  have h0 : But (fun b => b = P) w w := But.refl _ _
  exact (h0.set ⟨P, 0, none⟩ u (.inl rfl)).set ⟨P, 1, none⟩ v (.inl rfl)
theorem Sm.askGo_a {w wr w5 : World} {P Q R base g n cap : Nat} {ys : List (BitVec 8)} {A' : Option Addr} {n' c' : Nat} {e' : Int} {A5 : Option Addr} {c5 : Nat} {l5 : List (BitVec 8)} {e5 : Int} (hQ : wr.heap.size = Q) (hp : wr.heap[P]? = some (.cells #[.slice A' n' c', .int .i64 e'] 47 (0, 0))) (hr : RefAt w5 A5 l5.length c5 l5) (hd : Rdr w5 R l5 e5) (hy : Row77 wr base g n cap ys) (hb : Below w.heap.size w wr) (hbt : But (fun b => b = R) wr w5) (hnew : w5.heap[Q]? = some (.cells #[.slice none 0 0, .int .i64 0] 47 (0, 0))) (hRP : R < P) (hgR : g < R) (hwR : w.heap.size ≤ R) :
    AskGo w ((w5.setCell ⟨Q, 0, none⟩ (.slice A5 l5.length c5)).setCell ⟨Q, 1, none⟩ (.int .i64 e5)) P Q R base g n cap ys (.slice A' n' c') (.int .i64 e') A5 c5 l5 e5 := by
  have h2 := hbt.box hp (by omega)
  have h3 : Below w.heap.size w w5 := hb.trans (hbt.to_below (n := w.heap.size) hb.size (fun b e => by omega))
  have hPl : P < wr.heap.size := (Array.getElem?_eq_some_iff.1 hp).1
  have hs := set2_but w5 Q (.slice A5 l5.length c5) (.int .i64 e5)
  have hbl := hb.size
  refine ⟨heap_setCells (i := 1) (u := .int .i64 e5) (heap_setCells (i := 0) (u := .slice A5 l5.length c5) hnew), hs.box h2 (by omega), RefAt.set hnew hr hs, hd.but hs (fun b h e => by omega), (hy.but hbt (by omega)).but hs (by omega), h3.trans (hs.to_below (n := w.heap.size) h3.size (fun b e => by omega))⟩
/-- .. and when the reader is stored -/
theorem Sm.AskGo.fin {w wz : World} {P Q R base g n cap : Nat} {ys : List (BitVec 8)} {A' : Option Addr} {n' c' : Nat} {e' : Int} {A5 : Option Addr} {c5 : Nat} {l5 : List (BitVec 8)} {e5 : Int} (h : AskGo w wz P Q R base g n cap ys (.slice A' n' c') (.int .i64 e') A5 c5 l5 e5) (hRP : R < P) (hgR : g < R) (hwR : w.heap.size ≤ R) :
    Hid (((wz.setCell ⟨P, 0, none⟩ (.slice A5 l5.length c5)).setCell ⟨P, 1, none⟩ (.int .i64 e5)).drew.heap[P]? = some (.cells #[.slice A5 l5.length c5, .int .i64 e5] 47 (0, 0))) ∧ Hid (RefAt ((wz.setCell ⟨P, 0, none⟩ (.slice A5 l5.length c5)).setCell ⟨P, 1, none⟩ (.int .i64 e5)).drew A5 l5.length c5 l5) ∧ Hid (Rdr ((wz.setCell ⟨P, 0, none⟩ (.slice A5 l5.length c5)).setCell ⟨P, 1, none⟩ (.int .i64 e5)).drew R l5 e5) ∧
      Hid (Row77 ((wz.setCell ⟨P, 0, none⟩ (.slice A5 l5.length c5)).setCell ⟨P, 1, none⟩ (.int .i64 e5)).drew base g n cap ys) ∧ Hid (Below w.heap.size w ((wz.setCell ⟨P, 0, none⟩ (.slice A5 l5.length c5)).setCell ⟨P, 1, none⟩ (.int .i64 e5)).drew) := by
  have hs := (set2_but wz P (.slice A5 l5.length c5) (.int .i64 e5)).drew
  exact ⟨Lib.hid (heap_setCells (i := 1) (u := .int .i64 e5) (heap_setCells (i := 0) (u := .slice A5 l5.length c5) h.p)), Lib.hid (RefAt.set h.p h.ref hs), Lib.hid (h.rdr.but hs (fun b h e => by omega)), Lib.hid (h.row.but hs (by omega)), Lib.hid (h.below.trans (hs.to_below (n := w.heap.size) h.below.size (fun b e => by omega)))⟩
set_option maxRecDepth 100000 in
set_option maxHeartbeats 8000000 in
theorem Sm.reads_walk (l : List (BitVec 8)) (n1 c1 n2 c2 : Nat) (A1 A2 : Option Addr) (xs : List (Int × Int)) (w : World) (hn1 : l.length = n1) (hn2 : xs.length = n2) (hm1 : n1 ≤ 9223372036854775807) (hm2 : n2 ≤ 9223372036854775807) (hc1 : n1 ≤ c1) (hr1 : Rd w w.heap.size A1 l) (hr2 : RdAsks w A2 xs) (hx2 : ∀ x ∈ xs, AskOk x) (ht : Tab w) :
    Calls Tryd.prog 5 #[.slice A1 n1 c1, .slice A2 n2 c2] w fun e w' => e = .returned (.bool true) ∧ Below w.heap.size w w' := by
  obtain ⟨i0, hi, hz0, hz1, hz2⟩ := info_parts info5
  have hb := Below.refl w.heap.size w
  by_cases h1 : 400 < n1
  · go_enter Tryd.func5, Tryd.ntmps5
    go_wp2_with (go_at_call 12; (with_reducible refine (works_from hb ht).mono ?_); clear hb; rintro e w1 ⟨rfl, hb⟩)
    go_ret
    exact ⟨rfl, hb⟩
  · by_cases h2 : 40 < n2
    · go_enter Tryd.func5, Tryd.ntmps5
      go_wp2_with (go_at_call 12; (with_reducible refine (works_from hb ht).mono ?_); clear hb; rintro e w1 ⟨rfl, hb⟩)
      go_ret
      exact ⟨rfl, hb⟩
    · clear hb
      have HN1 := Lib.hid hn1
      have HN2 := Lib.hid hn2
      have HX2 := Lib.hid hx2
      clear hx2 hn2
      have k1 : (0 : Int) ≤ (n1 : Int) + 1 := by omega
      have kw : IntKind.i64.wrap ((n1 : Int) + 1) = (n1 : Int) + 1 := by
        simp [IntKind.wrap, IntKind.signed, IntKind.bits]
        omega
      go_enter Tryd.func5, Tryd.ntmps5
      go_wp2_with (first
        | (at_builtin; refine wpList_append_rd _ rfl (.tmp 28) (.tmp 29) 27 rfl w.heap.size 5 i0 _ Tryd.underlying27 hi hz0 hz1 hz2 rfl _ 0 [] rfl (World.ownsRow_made w #[] 0 (Nat.le_refl _) (by decide) rfl) w.heap.size A1 n1 c1 l rfl hn1 (hr1.alloc (Nat.le_refl _) _) ?_ (by simp) ?_; omega; intro v2 w2 hown2 hg2 hat2; have hb2 : Below w.heap.size w w2 := ((Below.refl _ _).alloc (Nat.le_refl _) _).grown hg2 (by simp) (fun g e => by cases e; exact Nat.le_refl _); simp only [Nat.zero_add, List.nil_append] at hown2)
        | (at_builtin; refine wpList_append_own_at _ rfl (.tmp 30) (.tmp 31) 27 rfl w.heap.size 5 i0 _ 1 1 Tryd.underlying27 hi hz0 hz1 hz2 rfl (by decide) _ _ _ rfl (hown2.alloc _) ⟨w2.heap.size, 0, none⟩ 1 1 [.int .u8 77] rfl rfl (cell_one_new _ _ _) (by simp [Value.oneCell']) ?_ ?_ ?_ ?_; (unfold maxLen; omega); omega; (have := hb2.size; simp; omega); intro v3 w3 hown3 hg3 _ hat3; have hb3 : Below w.heap.size w w3 := (hb2.alloc hb2.size _).grown hg3 (by have := hb2.size; simp; omega) (fun g e => (hown2.lt g e).1); obtain ⟨g, cap, rfl, hgb, hgl, hcap⟩ := own_form hown3 (by omega)))
      have hrow : Row77 w3 w.heap.size g n1 cap (l ++ [77#8]) := ⟨by simp [hn1], by rw [List.getElem?_append_right (by omega), hn1]; simp, by rw [List.map_append]; exact hown3⟩
      have hrm : Rd w3 w3.heap.size (some ⟨g, 0, none⟩) l := own_rd hrow.own ⟨[77#8], rfl⟩
      clear hown3 hg3 hat3 hg2 hat2 hown2 hb2 hn1
      refine (Read_new l n1 cap w3.heap.size (some ⟨g, 0, none⟩) w3 HN1 (by omega) (Nat.le_refl _) hrm).mono ?_
      rintro e w4 ⟨R, rfl, hR, hb4⟩
      have HB4 := Lib.hid (hb3.trans (hb4.mono hb3.size))
      have HR4 := Lib.hid hR
      have HM4 := Lib.hid (hrow.but (But.of_all hb4 (fun _ => False)) id)
      have hgR : g < R := Nat.lt_of_lt_of_le hgl hR.1
      have hwR : w.heap.size ≤ R := Nat.le_trans hb3.size hR.1
      clear hR hrow hrm hb4 hb3
      go_wp2_with fail
      go_loopw [7] (fun vi wr => ∃ (k : Nat) (ys : List (BitVec 8)), k ≤ n1 ∧ vi = .int .i64 (k : Int) ∧ Hid (Row77 wr w.heap.size g n1 cap ys) ∧ Hid (RdNew wr R l w3.heap.size) ∧ Hid (Below w.heap.size w wr))
        (fun vi _ => n1 - (intOf vi).toNat)
      case atStart => exact ⟨0, _, Nat.zero_le _, rfl, HM4, HR4, HB4⟩
      case round =>
        obtain ⟨k, ys, hk, rfl, HY, HR, HB⟩ := hrel
        clear HM4 HR4 HB4
        by_cases hlt : k < n1
        · have hky : k < ys.length := by have := HY.out.len; omega
          have ho1 := HY.out.own
          have hc : wr.cell? ⟨g, k, none⟩ = some (.int .u8 (ib ys[k])) := by
            rw [ho1.cellAt k (by omega), List.getElem?_map, List.getElem?_eq_getElem hky]
            rfl
          have hf : wr.frozen? ⟨g, k, none⟩ = false := ho1.frozenAt k
          obtain ⟨y, hy⟩ : ∃ y, y = ys[k] := ⟨_, rfl⟩
          rw [← hy] at hc
          have HST := Lib.hid (own_set ho1 k (y + 1#8))
          have hinc := byte_inc y
          have hy0 := ib_lo y
          have hy1 := ib_hi y
          have HY2 : Hid (Row77 (wr.setCell ⟨g, k, none⟩ (.int .u8 (ib (y + 1#8)))) w.heap.size g n1 cap (ys.set k (y + 1#8))) := Lib.hid ⟨by rw [List.length_set]; exact HY.out.len, by rw [List.getElem?_set_ne (by omega)]; exact HY.out.last, HST.out.1⟩
          have HR2 := Lib.hid (HR.out.set hgl k (.int .u8 (ib (y + 1#8))))
          have HB2 := Lib.hid (HB.out.setCell (p := ⟨g, k, none⟩) hgb (.int .u8 (ib (y + 1#8))))
          clear hy hky ho1 HST
          go_wp2
          go_roundw
          case rel => exact ⟨k + 1, _, by omega, by go_num, HY2, HR2, HB2⟩
          case measure => simp [intOf]; omega
        · obtain rfl : k = n1 := by omega
          have HRd := Lib.hid HR.out.rdr
          have hRl := HR.out.rdr.lt
          clear HR
          obtain ⟨P, hP⟩ : ∃ P, wr.heap.size = P := ⟨_, rfl⟩
          have hb0 : Below wr.heap.size wr (wr.alloc (.cells #[.slice A1 k c1, .int .i64 0] 47)) := (Below.refl _ _).alloc (Nat.le_refl _) _
          have HBX := Lib.hid (World.alloc_heap_new wr (.cells #[.slice A1 k c1, .int .i64 0] 47))
          have HRF : Hid (RefAt (wr.alloc (.cells #[.slice A1 k c1, .int .i64 0] 47)) A1 k c1 l) := Lib.hid ⟨HN1.out, hc1, (((hr1.below HB.out).more HB.out.size).below hb0).more hb0.size⟩
          have HRX := Lib.hid (HRd.out.below hb0)
          have HYX := Lib.hid (HY.out.but (But.of_all hb0 (fun _ => False)) id)
          have HBB := Lib.hid (HB.out.trans (hb0.mono HB.out.size))
          have hRP : R < P := by omega
          rw [hP] at HBX
          clear hb0 HRd HY HB hr1 hRl
          go_wp2_with fail
          obtain ⟨W0, hW0⟩ : ∃ W0, wr.alloc (.cells #[.slice A1 k c1, .int .i64 0] 47) = W0 := ⟨_, rfl⟩
          rw [hW0] at HBX HRF HRX HYX HBB ⊢
          clear hW0 hP
          go_loopw [9] (fun vi wx => ∃ (i : Nat) (A' : Option Addr) (n' c' : Nat) (l' : List (BitVec 8)) (e' : Int), i ≤ n2 ∧ vi = .int .i64 (i : Int) ∧ n' ≤ 400 ∧ Hid (wx.heap[P]? = some (.cells #[.slice A' n' c', .int .i64 e'] 47 (0, 0))) ∧ Hid (RefAt wx A' n' c' l') ∧ Hid (Rdr wx R l' e') ∧ Hid (Row77 wx w.heap.size g k cap ys) ∧ Hid (Below w.heap.size w wx))
            (fun vi _ => n2 - (intOf vi).toNat)
          case atStart => exact ⟨0, A1, k, c1, l, 0, Nat.zero_le _, rfl, by omega, HBX, HRF, HRX, HYX, HBB⟩
          case round =>
            obtain ⟨i, A', n', c', l', e', hi2, rfl, hn400, HP, HF, HD, HY, HB⟩ := hrel
            clear HBX HRF HRX HYX HBB
            by_cases hli : i < n2
            · have hix : i < xs.length := by have := HN2.out; omega
              obtain ⟨b, off, rfl, hbw, x0, x1⟩ := hr2.at hix
              have hok := HX2.out _ (List.getElem_mem hix)
              obtain ⟨x, hx⟩ : ∃ x, x = xs[i] := ⟨_, rfl⟩
              rw [← hx] at x0 x1 hok
              obtain ⟨l5, e5, hS⟩ : ∃ l5 e5, askS l' e' x.1 x.2 = (l5, e5) := ⟨_, _, rfl⟩
              have hl5 : l5.length ≤ 400 := by
                have h6 := askS_len l' e' x.1 x.2
                rw [hS] at h6
                have h7 := HF.out.len
                simp only at h6
                omega
              have y0 := (HB.out.cell (p := ⟨b, off + i * 2, none⟩) hbw).trans x0
              have y1 := (HB.out.cell (p := ⟨b, off + i * 2 + 1, none⟩) hbw).trans x1
              have z0 := cell_of_heap HP.out 0
              have z1 := cell_of_heap HP.out 1
              have hask : ∀ W, Below wr.heap.size wr W → Calls Tryd.prog 25 #[.pointer (some ⟨R, 0, none⟩), .agg #[.slice A' n' c', .int .i64 e'], .agg #[.int .i64 x.1, .int .i64 x.2]] W fun v w5 => ∃ A5 n5 c5, v = .returned (.tuple #[.agg #[.slice A5 n5 c5, .int .i64 e5], .bool true]) ∧ RefAt w5 A5 n5 c5 l5 ∧ Rdr w5 R l5 e5 ∧ But (fun b => b = R) wr w5 := fun W hW => by
                refine (ask_any W R A' n' c' l' e' x.1 x.2 (HD.out.below hW) (HF.out.below hW) (by omega) hok.1 hok.2).mono ?_
                rintro v w5 ⟨A5, n5, c5, h1, h2, h3, h4⟩
                rw [hS] at h1 h2 h3
                exact ⟨A5, n5, c5, h1, h2, h3, (But.of_all hW _).trans h4 (fun _ _ e => e)⟩
              have hask1 := hask wr.drew (Below.refl _ _).drew
              have hwR2 : R < wr.heap.size := HD.out.lt
              have hask2 : Calls Tryd.prog 25 #[.pointer (some ⟨R, 0, none⟩), .agg #[.slice A' n' c', .int .i64 e'], .agg #[.int .i64 x.1, .int .i64 x.2]] (wr.alloc (.cells #[.slice none 0 0, .int .i64 0] 47)).drew fun v w5 => ∃ A5 n5 c5, v = .returned (.tuple #[.agg #[.slice A5 n5 c5, .int .i64 e5], .bool true]) ∧ RefAt w5 A5 n5 c5 l5 ∧ Rdr w5 R l5 e5 ∧ But (fun b => b = R) wr w5 ∧ w5.heap[wr.heap.size]? = some (.cells #[.slice none 0 0, .int .i64 0] 47 (0, 0)) := by
                have hD2 : Below wr.heap.size wr (wr.alloc (.cells #[.slice none 0 0, .int .i64 0] 47)).drew := ((Below.refl _ _).alloc (Nat.le_refl _) _).drew
                refine (ask_any _ R A' n' c' l' e' x.1 x.2 (HD.out.below hD2) (HF.out.below hD2) (by omega) hok.1 hok.2).mono ?_
                rintro v w5 ⟨A5, n5, c5, h1, h2, h3, h4⟩
                rw [hS] at h1 h2 h3
                exact ⟨A5, n5, c5, h1, h2, h3, (But.of_all hD2 _).trans h4 (fun _ _ e => e), h4.box (World.alloc_heap_new wr _) (by omega)⟩
              simp only [List.getElem?_toArray, List.getElem?_cons_zero, List.getElem?_cons_succ] at z0 z1
              have hD3 : Below wr.heap.size wr (wr.alloc (.cells #[.slice none 0 0, .int .i64 0] 47)) := (Below.refl _ _).alloc (Nat.le_refl _) _
              have hbx : b < wr.heap.size := Nat.lt_of_lt_of_le hbw HB.out.size
              have hPx : P < wr.heap.size := (Array.getElem?_eq_some_iff.1 HP.out).1
              have y0a := (hD3.cell (p := ⟨b, off + i * 2, none⟩) hbx).trans y0
              have y1a := (hD3.cell (p := ⟨b, off + i * 2 + 1, none⟩) hbx).trans y1
              have z0a := (hD3.cell (p := ⟨P, 0, none⟩) hPx).trans z0
              have z1a := (hD3.cell (p := ⟨P, 1, none⟩) hPx).trans z1
              clear x0 x1 hx hok hS hask hD3
              go_wp2_with fail
              go_region_with (first
                | (go_at_call 25; (with_reducible refine hask1.mono ?_); rintro v w5 ⟨A5, n5, c5, rfl, hr5, hd5, hbt5⟩)
                | (go_at_call 25; (with_reducible refine hask2.mono ?_); rintro v w5 ⟨A5, n5, c5, rfl, hr5, hd5, hbt5, hnew⟩; have u0 := cell_of_heap hnew 0; have u1 := cell_of_heap hnew 1; have u2 := frozen_of_heap hnew 0; have u3 := frozen_of_heap hnew 1; simp only [List.getElem?_toArray, List.getElem?_cons_zero, List.getElem?_cons_succ] at u0 u1))
              all_goals obtain rfl : l5.length = n5 := hr5.len
              all_goals first
                | have hgo := askGo_a rfl HP.out hr5 hd5 HY.out HB.out hbt5 hnew hRP hgR hwR
                | have hgo := askGo_b HP.out hr5 hd5 HY.out HB.out hbt5 hRP hgR hwR
              all_goals obtain ⟨F1, F2, F3, F4, F5⟩ := hgo.fin hRP hgR hwR
              all_goals have q0 := cell_of_heap hgo.q 0
              all_goals have q1 := cell_of_heap hgo.q 1
              all_goals have p0 := cell_of_heap hgo.p 0
              all_goals have p1 := cell_of_heap hgo.p 1
              all_goals have p2 := frozen_of_heap hgo.p 0
              all_goals have p3 := frozen_of_heap hgo.p 1
              all_goals have f0 := cell_of_heap F1.out 0
              all_goals have hleft := Left_any F3.out
              all_goals simp only [List.getElem?_toArray, List.getElem?_cons_zero, List.getElem?_cons_succ] at q0 q1 p0 p1 f0
              all_goals clear hgo hr5 hd5 hbt5 z0 z1 z0a z1a y0 y1 y0a y1a
              all_goals go_wp2
              all_goals go_region_with (go_at_call 24; (with_reducible refine hleft.mono ?_); rintro v w' ⟨rfl, rfl⟩)
              all_goals clear hleft f0 p0 p1 p2 p3 q0 q1
              all_goals go_wp2
              all_goals go_roundw
              all_goals first
                | exact ⟨i + 1, _, _, _, _, _, by omega, by go_num, hl5, F1, F2, F3, F4, F5⟩
                | (simp [intOf]; omega)
            · obtain rfl : i = n2 := by omega
              clear HP HF HD HN2 HX2
              have hpar : ∃ wz pv, (Below wr.heap.size wr wz ∧ NoRd wz pv) ∧ ((i % 2 = 1 ∧ wz = wr.alloc (.cells #[.slice none 0 0, .int .i64 0, .bool false] 59) ∧ pv = .pointer (some ⟨wr.heap.size, 0, none⟩)) ∨ (¬ i % 2 = 1 ∧ wz = wr ∧ pv = .pointer none)) := by
                by_cases hp : i % 2 = 1
                · exact ⟨_, _, ⟨(Below.refl _ _).alloc (Nat.le_refl _) _, .inr ⟨wr.heap.size, rfl, by simp, World.cell?_alloc_new (w := wr) #[.slice none 0 0, .int .i64 0, .bool false] 59 1, World.cell?_alloc_new (w := wr) #[.slice none 0 0, .int .i64 0, .bool false] 59 0, World.cell?_alloc_new (w := wr) #[.slice none 0 0, .int .i64 0, .bool false] 59 2⟩⟩, .inl ⟨hp, rfl, rfl⟩⟩
                · exact ⟨_, _, ⟨Below.refl _ _, .inl rfl⟩, .inr ⟨hp, rfl, rfl⟩⟩
              obtain ⟨wz, pv, ⟨hbz, hno⟩, hpar⟩ := hpar
              have h77 : ∀ wx, Below wz.heap.size wz wx → wx.cell? ⟨g, k, none⟩ = some (.int .u8 77) := fun wx hx => by
                have hrow := (HY.out.but (But.of_all hbz (fun _ => False)) id).but (But.of_all hx (fun _ => False)) id
                rw [hrow.own.cellAt k (by omega), List.getElem?_map, hrow.last]
                rfl
              have hbw := HB.out.trans (hbz.mono HB.out.size)
              have h22 : Calls Tryd.prog 22 #[pv, .int .i64 1] wz fun x w' => x = .returned (.tuple #[.int .i64 0, .int .i64 1]) ∧ Below wz.heap.size wz w' := Number_no hno 1
              have h26 : ∀ wx, Below wz.heap.size wz wx → Calls Tryd.prog 26 #[pv, .int .i64 1] wx fun x w' => x = .returned (.tuple #[.string ⟨#[]⟩, .int .i64 1]) ∧ Below wz.heap.size wz w' := fun wx hx => (Text_no (hno.below hx) 1).mono fun x w' ⟨h1, h2⟩ => ⟨h1, hx.trans (h2.mono hx.size)⟩
              have h27 : ∀ wx, Below wz.heap.size wz wx → Calls Tryd.prog 27 #[pv] wx fun x w' => x = .returned (.tuple #[.bool false, .int .i64 1]) ∧ Below wz.heap.size wz w' := fun wx hx => (Truth_no (hno.below hx)).mono fun x w' ⟨h1, h2⟩ => ⟨h1, hx.trans (h2.mono hx.size)⟩
              have h28 : ∀ wx, Below wz.heap.size wz wx → Calls Tryd.prog 28 #[pv] wx fun x w' => x = .returned (.int .i64 1) ∧ Below wz.heap.size wz w' := fun wx hx => (End_no (hno.below hx)).mono fun x w' ⟨h1, h2⟩ => ⟨h1, hx.trans (h2.mono hx.size)⟩
              have h24 : ∀ wx, Below wz.heap.size wz wx → Calls Tryd.prog 24 #[pv] wx fun x w' => x = .returned (.int .i64 0) ∧ wx = w' := fun wx hx => Left_no (hno.below hx)
              have h12 : ∀ wx, Below wz.heap.size wz wx → Calls Tryd.prog 12 #[] wx fun x w' => x = .returned (.bool true) ∧ Below w.heap.size w w' := fun wx hx => works_from (hbw.trans (hx.mono hbw.size)) ht
              have k2 : (k : Int) + 1 ≤ (cap : Int) := by omega
              clear hno HY HB hbz hbw
              rcases hpar with ⟨hp, rfl, rfl⟩ | ⟨hp, rfl, rfl⟩
              · have p1 : ((i : Int) % 2 == 1) = true := by simp; omega
                go_wp2_with (first
                  | (go_at_call 22; (with_reducible refine h22.mono ?_); clear h22; rintro v q1 ⟨rfl, hq1⟩)
                  | (go_at_call 26; (with_reducible refine (h26 _ hq1).mono ?_); clear h26; rintro v q2 ⟨rfl, hq2⟩)
                  | (go_at_call 27; (with_reducible refine (h27 _ hq2).mono ?_); clear h27; rintro v q3 ⟨rfl, hq3⟩; have hc3 := h77 _ hq3)
                  | (go_at_call 28; (with_reducible refine (h28 _ hq3).mono ?_); clear h28; rintro v q4 ⟨rfl, hq4⟩)
                  | (go_at_call 24; (with_reducible refine (h24 _ hq4).mono ?_); clear h24; rintro v w' ⟨rfl, rfl⟩)
                  | (go_at_call 15; (with_reducible refine (num_any _ _).mono ?_); rintro v w' ⟨rfl, rfl⟩)
                  | (go_at_call 12; (with_reducible refine (h12 _ hq4).mono ?_); rintro v q5 ⟨rfl, hq5⟩))
                go_ret
                exact ⟨rfl, hq5⟩
              · have p1 : ((i : Int) % 2 == 1) = false := by simp; omega
                go_wp2_with (first
                  | (go_at_call 22; (with_reducible refine h22.mono ?_); clear h22; rintro v q1 ⟨rfl, hq1⟩)
                  | (go_at_call 26; (with_reducible refine (h26 _ hq1).mono ?_); clear h26; rintro v q2 ⟨rfl, hq2⟩)
                  | (go_at_call 27; (with_reducible refine (h27 _ hq2).mono ?_); clear h27; rintro v q3 ⟨rfl, hq3⟩; have hc3 := h77 _ hq3)
                  | (go_at_call 28; (with_reducible refine (h28 _ hq3).mono ?_); clear h28; rintro v q4 ⟨rfl, hq4⟩)
                  | (go_at_call 24; (with_reducible refine (h24 _ hq4).mono ?_); clear h24; rintro v w' ⟨rfl, rfl⟩)
                  | (go_at_call 15; (with_reducible refine (num_any _ _).mono ?_); rintro v w' ⟨rfl, rfl⟩)
                  | (go_at_call 12; (with_reducible refine (h12 _ hq4).mono ?_); rintro v q5 ⟨rfl, hq5⟩))
                go_ret
                exact ⟨rfl, hq5⟩
end Go.Proofs
