/-
  A disk in memory; there, check, next. Conditions: as each theorem names them.
-/
import Derived.LoopTactic
import Derived.Test.YtnobmejcbgocoaaApp
import Derived.Test.YtnobmejcbgocoaaDkM
namespace Go.Proofs
open Go Go.RowKit Sm Go.Lib Go.Maps Go.WideMaps
attribute [local go_sem] Oper.semAt_some
theorem Sm.cell_of_heap {w : World} {B : Nat} {cs : Array Value} {t : TypeId} {fr : Nat × Nat} (h : w.heap[B]? = some (.cells cs t fr)) (i : Nat) : w.cell? ⟨B, i, none⟩ = cs[i]? := by simp [World.cell?, h]
theorem Sm.frozen_of_heap {w : World} {B : Nat} {cs : Array Value} {t : TypeId} (h : w.heap[B]? = some (.cells cs t (0, 0))) (i : Nat) : w.frozen? ⟨B, i, none⟩ = false := by simp [World.frozen?, h]
theorem Sm.map_keep {P : Program} {k : TypeId} {R : Value → Option (DataW Value × List MemPlace)} {w w' : World} {b n : Nat} {D : DataW Value} (h : w.ownsMap P k R b n D) (e : w'.heap[b]? = w.heap[b]?) : w'.ownsMap P k R b n D := by
  obtain ⟨es, clock, hb, r⟩ := h
  exact ⟨es, clock, e.trans hb, r⟩
theorem Sm.map_tight {P : Program} {k : TypeId} {R : Value → Option (DataW Value × List MemPlace)} {w : World} {b n : Nat} {D : DataW Value} (h : w.ownsMap P k R b n D) : w.ownsMap P k R b (Maps.size D) D := by
  obtain ⟨es, clock, hb, F, _, rfl⟩ := h
  refine ⟨es, clock, hb, F, ?_, rfl⟩
  simp [Maps.size, length_sorted]
/-- how long steps are done, and the room -/
structure Sm.DSt where
  stops : Bool
  after : Int
  dead : Bool
  room : Int
def Sm.usedG (G : List FileM) : Nat := (G.map fun f => f.bytes.length).sum
/-- a disk in memory -/
structure Sm.DAt (W : World) (p Mb base : Nat) (s : DSt) (G : List FileM) : Prop where
  blk : W.heap[p]? = some (.cells #[.bool s.stops, .int .i64 s.after, .bool s.dead, .int .i64 s.room, .int .i64 (usedG G : Int), .map (some Mb)] 35 (0, 0))
  map : ∃ D, W.ownsMap Try.prog 9 heldElem Mb G.length D ∧ MapIs D G
  sort : SortG G
  row : ∀ f ∈ G, W.ownsRow base 5 1 f.sl f.bytes.length (f.bytes.map byteCell)
  sep : ∀ f ∈ G, ∀ g ∈ G, f.name ≠ g.name → ∀ b, f.sl.ownBlock = some b → g.sl.ownBlock ≠ some b
  low : p < base ∧ Mb < base ∧ p ≠ Mb ∧ base ≤ W.heap.size
  room_ : 0 < s.room ∧ s.room ≤ 16777216 ∧ (usedG G : Int) ≤ s.room
  aft : 0 ≤ s.after ∧ s.after ≤ 9223372036854775807
  ok : ∀ f ∈ G, nameOK f.name = true ∧ f.sure ≤ f.bytes.length
theorem Sm.DAt.keep {W W' : World} {p Mb base : Nat} {s : DSt} {G : List FileM} (h : DAt W p Mb base s G) (hb : Below W.heap.size W W') : DAt W' p Mb base s G :=
  ⟨(hb.block _ (Array.getElem?_eq_some_iff.1 h.blk).1).trans h.blk, h.map.imp fun _ hD => ⟨map_keep hD.1 (hb.block _ hD.1.lt), hD.2⟩, h.sort, fun f hf => own_below (h.row f hf) hb, h.sep, ⟨h.low.1, h.low.2.1, h.low.2.2.1, Nat.le_trans h.low.2.2.2 hb.size⟩, h.room_, h.aft, h.ok⟩
/-- there is none: nil, or one that no call made -/
def Sm.NoDisk (W : World) (v : Value) : Prop := v = .pointer none ∨ ∃ q, v = .pointer (some ⟨q, 0, none⟩) ∧ W.heap[q]? = some (.cells #[.bool false, .int .i64 0, .bool false, .int .i64 0, .int .i64 0, .map none] 35 (0, 0))
theorem Sm.NoDisk.keep {W W' : World} {v : Value} (h : NoDisk W v) (hb : Below W.heap.size W W') : NoDisk W' v :=
  h.imp id fun ⟨q, e, hq⟩ => ⟨q, e, (hb.block _ (Array.getElem?_eq_some_iff.1 hq).1).trans hq⟩
theorem Sm.there_yes {p Mb base : Nat} {s : DSt} {G : List FileM} (w : World) (h : DAt w p Mb base s G) : Calls Try.prog 38 #[.pointer (some ⟨p, 0, none⟩)] w fun e w' => e = .returned (.bool true) ∧ w = w' := by
  have c3 := cell_of_heap h.blk 3
  simp only [List.getElem?_toArray, List.getElem?_cons_succ, List.getElem?_cons_zero] at c3
  have hr := h.room_.1
  obtain ⟨R, hR⟩ : ∃ R, s.room = R := ⟨_, rfl⟩
  rw [hR] at c3 hr
  clear hR h
  go_enter Try.func38, Try.ntmps38
  go_wp2
  go_ret
  exact ⟨by rfl, rfl⟩
theorem Sm.there_no {v : Value} (w : World) (h : NoDisk w v) : Calls Try.prog 38 #[v] w fun e w' => e = .returned (.bool false) ∧ w = w' := by
  rcases h with rfl | ⟨q, rfl, hq⟩
  · go_enter Try.func38, Try.ntmps38
    go_wp2
    go_ret
    exact ⟨rfl, rfl⟩
  · have c3 := cell_of_heap hq 3
    simp only [List.getElem?_toArray, List.getElem?_cons_succ, List.getElem?_cons_zero] at c3
    clear hq
    go_enter Try.func38, Try.ntmps38
    go_wp2
    go_ret
    exact ⟨rfl, rfl⟩
/-- how long steps are done behind one more -/
def Sm.nextS (s : Bool) (a : Int) (d : Bool) : Bool × Int × Bool := if s = false then (s, a, d) else if a = 0 then (false, 0, true) else (true, a - 1, false)
set_option maxRecDepth 100000 in
theorem Sm.next_any (s : Bool) (a : Int) (d : Bool) (w : World) (h0 : 0 ≤ a) (h1 : a ≤ 9223372036854775807) : Calls Try.prog 65 #[.agg #[.bool s, .int .i64 a, .bool d]] w fun e w' =>
    e = .returned (.agg #[.bool (nextS s a d).1, .int .i64 (nextS s a d).2.1, .bool (nextS s a d).2.2]) ∧ Below w.heap.size w w' := by
  cases s with
  | false =>
    go_enter Try.func65, Try.ntmps65
    go_wp2
    exact bodyPost_ret (v := .agg #[.bool false, .int .i64 a, .bool d]) (by simp [results, Try.results65, go_sem]) rfl ⟨by simp [nextS], (((Below.refl _ w).alloc (Nat.le_refl _) _).alloc (by simp) _)⟩
  | true =>
    by_cases e : a = 0
    · subst e
      go_enter Try.func65, Try.ntmps65
      go_wp2
      exact bodyPost_ret (v := .agg #[.bool false, .int .i64 0, .bool true]) (by simp [results, Try.results65, go_sem]) rfl ⟨by simp [nextS], (((Below.refl _ w).alloc (Nat.le_refl _) _).alloc (by simp) _)⟩
    · have e1 : (a == 0) = false := by simpa using e
      have e2 : 0 ≤ a - 1 := by omega
      go_enter Try.func65, Try.ntmps65
      go_wp2
      exact bodyPost_ret (v := .agg #[.bool true, .int .i64 (a - 1), .bool false]) (by simp [results, Try.results65, go_sem]) rfl ⟨by simp [nextS, e], (((Below.refl _ w).alloc (Nat.le_refl _) _).alloc (by simp) _)⟩
/-- texts in a row -/
def Sm.RowT (W : World) (A : Option Addr) (xs : List ByteArray) : Prop :=
  xs = [] ∨ ∃ g, A = some ⟨g, 0, none⟩ ∧ g < W.heap.size ∧ ∀ j (h : j < xs.length), W.cell? ⟨g, j, none⟩ = some (.string xs[j])
theorem Sm.RowT.keep {W W' : World} {A : Option Addr} {xs : List ByteArray} (h : RowT W A xs) (hb : Below W.heap.size W W') : RowT W' A xs :=
  h.imp id fun ⟨g, e, hg, hc⟩ => ⟨g, e, Nat.lt_of_lt_of_le hg hb.size, fun j hj => (hb.cell (p := ⟨g, j, none⟩) hg).trans (hc j hj)⟩
/-- why nothing can be done with such names -/
def Sm.chkN (xs : List ByteArray) : Int := if xs.all fun s => nameOK (strL s) then 0 else 170
theorem Sm.check_no {v : Value} (A : Option Addr) (n c : Nat) (w : World) (h : NoDisk w v) : Calls Try.prog 45 #[v, .slice A n c] w fun e w' => e = .returned (.int .i64 1) ∧ Below w.heap.size w w' := by
  have ht := there_no w h
  clear h
  go_enter Try.func45, Try.ntmps45
  go_wp2_with (go_at_call 38; (with_reducible refine ht.mono ?_); rintro e w' ⟨rfl, rfl⟩)
  go_ret
  exact ⟨rfl, Below.refl _ _⟩
set_option maxRecDepth 100000 in
set_option maxHeartbeats 1000000 in
theorem Sm.check_yes {p Mb base : Nat} {s : DSt} {G : List FileM} (A : Option Addr) (n c : Nat) (xs : List ByteArray) (w : World) (h : DAt w p Mb base s G) (hx : RowT w A xs) (hn : xs.length = n) (hc : n ≤ c) (hn2 : n ≤ 1000) (hs : ∀ x ∈ xs, x.size ≤ 1000000) :
    Calls Try.prog 45 #[.pointer (some ⟨p, 0, none⟩), .slice A n c] w fun e w' => e = .returned (.int .i64 (chkN xs)) ∧ Below w.heap.size w w' := by
  have ht := there_yes w h
  have HX := Lib.hid hx
  have HN := Lib.hid hn
  have hnI : (n : Int) ≤ 1000 := by omega
  clear h hx hn
  go_enter Try.func45, Try.ntmps45
  go_wp2_with (go_at_call 38; (with_reducible refine ht.mono ?_); rintro e w' ⟨rfl, rfl⟩)
  go_loopw [12] (fun v12 wr => ∃ k : Nat, k ≤ n ∧ v12 = .int .i64 (k : Int) ∧ Hid ((xs.take k).all (fun s => nameOK (strL s)) = true) ∧ Hid (Below w.heap.size w wr)) (fun v12 _ => n - (RowKit.intOf v12).toNat)
  case atStart => exact ⟨0, Nat.zero_le _, rfl, Lib.hid rfl, Lib.hid (Below.refl _ _)⟩
  case round =>
    obtain ⟨wo, rfl⟩ : ∃ wo : World, wo = wr := ⟨_, rfl⟩
    obtain ⟨k, hk, rfl, HA, HB⟩ := hrel
    by_cases hlt : k < n
    · have hkx : k < xs.length := by rw [HN.out]; exact hlt
      rcases HX.out with e | ⟨g, rfl, hg, hcl⟩
      · rw [e] at hkx; simp at hkx
      · have ck : wo.cell? ⟨g, k, none⟩ = some (.string xs[k]) := (HB.out.cell (p := ⟨g, k, none⟩) hg).trans (hcl k hkx)
        have hin := fun W => isName_any xs[k] W (hs _ (List.getElem_mem hkx))
        have htk : xs.take (k + 1) = xs.take k ++ [xs[k]] := List.take_succ_eq_append_getElem hkx
        obtain ⟨b, hb⟩ : ∃ b, nameOK (strL xs[k]) = b := ⟨_, rfl⟩
        rw [hb] at hin
        have hall : b = true → (xs.take (k + 1)).all (fun s => nameOK (strL s)) = true := fun e => by
          rw [htk, List.all_append, HA.out]
          simp [hb, e]
        have hno : b = false → chkN xs = 170 := fun e => by
          unfold chkN
          rw [if_neg]
          intro h
          have := List.all_eq_true.1 h _ (List.getElem_mem hkx)
          rw [hb, e] at this
          cases this
        obtain ⟨X, hX⟩ : ∃ X, xs[k] = X := ⟨_, rfl⟩
        rw [hX] at ck hin
        have HALL := Lib.hid hall
        have HNO := Lib.hid hno
        have HIN := Lib.hid hin
        clear hin hall hno hb hX htk hcl hkx
        cases b with
        | true =>
          have HA2 := Lib.hid (HALL.out rfl)
          go_wp2_with (go_at_call 64; (with_reducible refine (HIN.out _).mono ?_); rintro e w1 ⟨rfl, hb1⟩; have HB1 := Lib.hid (HB.out.trans (hb1.mono HB.out.size)); clear hb1)
          go_roundw
          case rel => exact ⟨k + 1, by omega, by go_num, HA2, HB1⟩
          case measure => simp [RowKit.intOf]; omega
        | false =>
          have HNO2 := Lib.hid (HNO.out rfl)
          clear HNO
          go_wp2_with (go_at_call 64; (with_reducible refine (HIN.out _).mono ?_); rintro e w1 ⟨rfl, hb1⟩; have HB1 := Lib.hid (HB.out.trans (hb1.mono HB.out.size)); clear hb1)
          go_ret
          exact ⟨by rw [HNO2.out]; rfl, HB1.out⟩
    · obtain rfl : k = n := by omega
      have hall : chkN xs = 0 := by
        have h1 := HA.out
        rw [List.take_of_length_le (by rw [HN.out]; exact Nat.le_refl _)] at h1
        unfold chkN
        rw [if_pos h1]
      have HALL := Lib.hid hall
      clear hall
      go_wp2
      go_ret
      exact ⟨by rw [HALL.out]; rfl, HB.out⟩
end Go.Proofs
