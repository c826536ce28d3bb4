/-
  on: what it answers. Conditions: as each theorem names them.
-/
import Derived.Test.YtkipjlcbmiagcaaNtP
import Derived.Test.YtkipjlcbmiagcaaHdI
import Derived.Test.YtkipjlcbmiagcaaSlR
namespace Go.Proofs
open Go Go.RowKit Sm Go.Lib Go.Maps Go.WideMaps
attribute [local go_sem] Oper.semAt_some
/-- what on makes, in memory -/
structure Sm.OnAt (W : World) (p bn bf g1 g2 : Nat) (x y : Int) : Prop where
  n : W.heap[bn]? = some (.cells #[.pointer (some ⟨p, 0, none⟩)] 25 (0, 0))
  f : W.heap[bf]? = some (.cells #[.func (.func 73) #[] #[.pointer (some ⟨g1, 0, none⟩), .pointer (some ⟨g2, 0, none⟩)]] 103 (0, 0))
  x : W.heap[g1]? = some (.cells #[.int .i64 x] 3 (0, 0))
  y : W.heap[g2]? = some (.cells #[.int .i64 y] 3 (0, 0))
theorem Sm.OnAt.but {S : Nat → Prop} {W W' : World} {p bn bf g1 g2 : Nat} {x y : Int} (h : OnAt W p bn bf g1 g2 x y) (hb : But S W W') (hS : ∀ b, S b → b ≠ bn ∧ b ≠ bf ∧ b ≠ g1 ∧ b ≠ g2) : OnAt W' p bn bf g1 g2 x y :=
  ⟨hb.box h.n (fun e => (hS _ e).1 rfl), hb.box h.f (fun e => (hS _ e).2.1 rfl), hb.box h.x (fun e => (hS _ e).2.2.1 rfl), hb.box h.y (fun e => (hS _ e).2.2.2 rfl)⟩
theorem Sm.OnAt.keep {W W' : World} {p bn bf g1 g2 : Nat} {x y : Int} (h : OnAt W p bn bf g1 g2 x y) (hb : Below W.heap.size W W') : OnAt W' p bn bf g1 g2 x y :=
  h.but (But.of_all hb (fun _ => False)) (fun _ e => e.elim)
set_option maxRecDepth 100000 in
set_option maxHeartbeats 2000000 in
theorem Sm.on_any (p : Nat) (x y : Int) (w : World) : Calls Try.prog 47 #[.pointer (some ⟨p, 0, none⟩), .int .i64 x, .int .i64 y] w fun e w' => ∃ bn bf g1 g2, e = .returned (.func (.func 67) #[] #[.pointer (some ⟨bn, 0, none⟩), .pointer (some ⟨bf, 0, none⟩)]) ∧
    OnAt w' p bn bf g1 g2 x y ∧ w.heap.size ≤ bn ∧ w.heap.size ≤ bf ∧ w.heap.size ≤ g1 ∧ w.heap.size ≤ g2 ∧ Below w.heap.size w w' := by
  have h1 := fun W => among_any x y W
  have hmf : ∀ (fn : Fn) (first cap : Array Value) (w : World), (Instr.makeFunc fn first cap).run Try.prog w = .ok (.func fn first cap) w := fun _ _ _ _ => rfl
  go_enter Try.func47, Try.ntmps47
  go_wp2_with (go_at_call 66; (with_reducible refine (h1 _).mono ?_); rintro e w1 ⟨rfl, k1, k2, hb1⟩)
  have hbA : Below w.heap.size w (w.alloc (.cells #[.pointer (some ⟨p, 0, none⟩)] 25)) := (Below.refl _ w).alloc (Nat.le_refl _) _
  have q0 := World.alloc_heap_new w (.cells #[.pointer (some ⟨p, 0, none⟩)] 25)
  have hs := hb1.size
  simp only [World.size_alloc] at k1 k2 hs
  have hb := hbA.trans (hb1.mono hbA.size)
  have q1 := (hb1.block _ (by simp)).trans q0
  go_ret
  exact ⟨w.heap.size, w1.heap.size, w.heap.size + 1, w.heap.size + 1 + 1, rfl, ⟨old_alloc _ q1, World.alloc_heap_new w1 _, old_alloc _ k1, old_alloc _ k2⟩, by omega, by omega, by omega, by omega, hb.alloc hb.size _⟩
theorem Sm.cellsM_at : ∀ (L : List MsgM) (k : Nat) (m : MsgM), L[k]? = some m → (cellsM L)[k * 4]? = some (.int .i64 m.num) ∧ (cellsM L)[k * 4 + 1]? = some (.int .i64 m.src) ∧ (cellsM L)[k * 4 + 2]? = some (.int .i64 m.dst) ∧ (cellsM L)[k * 4 + 3]? = some m.sl
  | a :: r, 0, m, h => by
    simp only [List.getElem?_cons_zero, Option.some.injEq] at h
    subst h
    exact ⟨rfl, rfl, rfl, rfl⟩
  | a :: r, k + 1, m, h => by
    have ih := cellsM_at r k m (by simpa using h)
    have e : cellsM (a :: r) = .int .i64 a.num :: .int .i64 a.src :: .int .i64 a.dst :: a.sl :: cellsM r := rfl
    rw [e, show (k + 1) * 4 = k * 4 + 1 + 1 + 1 + 1 by omega]
    exact ih
def Sm.MayD (X : Nat → Prop) (N : Nat) : Nat → Prop := fun b => X b ∨ N ≤ b
def Sm.rowD : Array Value → Nat → Prop := fun _ _ => False
/-- a message's value -/
def Sm.MsgM.val (m : MsgM) : Value := .agg #[.int .i64 m.num, .int .i64 m.src, .int .i64 m.dst, m.sl]
/-- with what the k-th of the picked is told -/
def Sm.HOn (x y : Int) (L : List MsgM) (_L k : Nat) (args : Array Value) (_W : World) : Prop := ∃ (i : Nat) (m : MsgM), L[i]? = some m ∧ pkB x y m.src m.dst = true ∧ k = (onN x y (L.map MsgM.d) i).length ∧ args = #[.int .i64 (i : Int), m.val]
/-- blocks that a round may turn: none of the net's -/
structure Sm.Apart (X : Nat → Prop) (p Mb : Nat) (v : Value) (L : List MsgM) : Prop where
  p : ¬ X p
  M : ¬ X Mb
  row : ∀ b, v.ownBlock = some b → ¬ X b
  msg : ∀ m ∈ L, ∀ b, m.sl.ownBlock = some b → ¬ X b
structure Sm.OnI (X : Nat → Prop) (J : Nat → World → Prop) (w wr : World) (k L : Nat) : Prop where
  j : J k wr
  keep : But (MayD X w.heap.size) w wr
  lo : L ≤ wr.heap.size
set_option maxRecDepth 100000 in
set_option maxHeartbeats 4000000 in
theorem Sm.on_seq {p Mb base bn bf g1 g2 : Nat} {s : NSt} {D : List (Int × Int)} {A : Option Addr} {cap : Nat} {L : List MsgM} (x y : Int) (w : World) (h : NAt w p Mb base s D A cap L) (ho : OnAt w p bn bf g1 g2 x y) (X : Nat → Prop)
    (hX : Apart X p Mb (.slice A L.length cap) L) (hX2 : ∀ b, X b → b ≠ bn ∧ b ≠ bf ∧ b ≠ g1 ∧ b ≠ g2) (hXl : ∀ b, X b → b < w.heap.size) :
    SeqX Try.prog 67 #[.pointer (some ⟨bn, 0, none⟩), .pointer (some ⟨bf, 0, none⟩)] X (HOn x y L) rowD (fun _ => True) (fun k => k = (onP x y (L.map MsgM.d)).length) (fun k => 1 ≤ k ∧ k ≤ (onP x y (L.map MsgM.d)).length) w := by
  intro L0 J Jx W hW hJ hJx hY hJ0
  have hno := (Array.getElem?_eq_some_iff.1 ho.n).1
  have hfo := (Array.getElem?_eq_some_iff.1 ho.f).1
  have hxo := (Array.getElem?_eq_some_iff.1 ho.x).1
  have hyo := (Array.getElem?_eq_some_iff.1 ho.y).1
  have hpo := (Array.getElem?_eq_some_iff.1 h.blk).1
  have hDA : ∀ W', But (MayD X w.heap.size) w W' → NAt W' p Mb base s D A cap L ∧ OnAt W' p bn bf g1 g2 x y := fun W' hb => by
    refine ⟨h.but hb (fun e => ?_) (fun e => ?_) (fun b e e2 => ?_) (fun m hm b e e2 => ?_), ho.but hb (fun b e => ?_)⟩
    · rcases e with e | e
      · exact hX.p e
      · omega
    · rcases e with e | e
      · exact hX.M e
      · have := h.low; omega
    · rcases e2 with e2 | e2
      · exact hX.row b e e2
      · have := (h.row.lt b e).2; omega
    · rcases e2 with e2 | e2
      · exact hX.msg m hm b e e2
      · have := ((h.byt m hm).lt b e).2; omega
    · rcases e with e | e
      · exact hX2 b e
      · omega
  have hbW : But (MayD X w.heap.size) w W := (But.of_below hW).mono (fun b _ e => .inr e)
  obtain ⟨hNW, hOW⟩ := hDA W hbW
  have c1 := cell_of_heap hOW.n 0
  have c4 := cell_of_heap hNW.blk 4
  simp only [List.getElem?_toArray, List.getElem?_cons_zero, List.getElem?_cons_succ] at c1 c4
  have hlen : L.length ≤ 4096 := by have := h.lim; omega
  have hlI : (L.length : Int) ≤ 4096 := by omega
  have HDA := Lib.hid hDA
  obtain ⟨B, hB⟩ : ∃ B, W.heap.size = B := ⟨_, rfl⟩
  have hwB : w.heap.size ≤ B := by rw [← hB]; exact hW.size
  have HI0 : Hid (OnI X J w W (onN x y (L.map MsgM.d) 0).length B) := Lib.hid ⟨hJ0, hbW, by omega⟩
  show Calls Try.prog 67 #[.func (.yield L0) #[] #[], .pointer (some ⟨bn, 0, none⟩), .pointer (some ⟨bf, 0, none⟩)] W _
  rw [hB] at hJ hJx hY
  have HY := Lib.hid hY
  have HXL := Lib.hid hXl
  clear hJ0 hDA hbW hNW hOW h ho hY hB hX hX2 hXl
  go_enter Try.func67, Try.ntmps67
  go_wp2
  go_loopw [11] (fun v11 wr => ∃ k : Nat, k ≤ L.length ∧ v11 = .int .i64 (k : Int) ∧ Hid (OnI X J w wr (onN x y (L.map MsgM.d) k).length B)) (fun v11 _ => L.length - (RowKit.intOf v11).toNat)
  case atStart => exact ⟨0, Nat.zero_le _, rfl, HI0⟩
  case round =>
    obtain ⟨wo, rfl⟩ : ∃ wo : World, wo = wr := ⟨_, rfl⟩
    obtain ⟨k, hk, rfl, HI⟩ := hrel
    clear HI0 c1 c4
    by_cases hlt : k < L.length
    · obtain ⟨hNo, hOo⟩ := HDA.out wo HI.out.keep
      obtain ⟨g, cap', hv, _, hgl⟩ := hNo.row.form (by omega)
      injection hv with hv1 hv2 hv3
      subst hv1
      obtain ⟨m, hm⟩ : ∃ m, L[k]? = some m := ⟨_, List.getElem?_eq_getElem hlt⟩
      have hc := cellsM_at L k m hm
      have hl4 : (cellsM L).length = L.length * 4 := hNo.row.1
      have ck0 := (hNo.row.cellAt (k * 4) (by omega)).trans hc.1
      have ck1 := (hNo.row.cellAt (k * 4 + 1) (by omega)).trans hc.2.1
      have ck2 := (hNo.row.cellAt (k * 4 + 2) (by omega)).trans hc.2.2.1
      have ck3 := (hNo.row.cellAt (k * 4 + 3) (by omega)).trans hc.2.2.2
      have hmd : (L.map MsgM.d)[k]? = some m.d := by rw [List.getElem?_map, hm]; rfl
      replace ck3 : wo.cell? ⟨g, k * 4 + 3, none⟩ = some (.slice m.A m.bytes.length m.c) := ck3
      have HB : Hid (Below wo.heap.size wo (wo.alloc (.cells #[.int .i64 m.num, .int .i64 m.src, .int .i64 m.dst, .slice m.A m.bytes.length m.c] 83))) := Lib.hid ((Below.refl _ wo).alloc (Nat.le_refl _) _)
      have HN : Hid ((wo.alloc (.cells #[.int .i64 m.num, .int .i64 m.src, .int .i64 m.dst, .slice m.A m.bytes.length m.c] 83)).heap[wo.heap.size]? = some (.cells #[.int .i64 m.num, .int .i64 m.src, .int .i64 m.dst, .slice m.A m.bytes.length m.c] 83 (0, 0))) := Lib.hid (World.alloc_heap_new wo _)
      have h73 := among1_any g1 g2 x y m.num m.src m.dst m.A m.bytes.length m.c _ (HB.out.block _ (Array.getElem?_eq_some_iff.1 hOo.x).1 |>.trans hOo.x) (HB.out.block _ (Array.getElem?_eq_some_iff.1 hOo.y).1 |>.trans hOo.y)
      have HO := Lib.hid hOo
      clear hNo hOo hv3 hgl hc hl4 hv2
      go_upto_region 3 with fail
      obtain ⟨W1, hW1⟩ : ∃ V, wo.alloc (.cells #[.int .i64 m.num, .int .i64 m.src, .int .i64 m.dst, .slice m.A m.bytes.length m.c] 83) = V := ⟨_, rfl⟩
      rw [hW1] at HB HN h73 ⊢
      have kf := cell_of_heap ((HB.out.block _ (Array.getElem?_eq_some_iff.1 HO.out.f).1).trans HO.out.f) 0
      have j0 := cell_of_heap HN.out 0
      have j1 := cell_of_heap HN.out 1
      have j2 := cell_of_heap HN.out 2
      have j3 := cell_of_heap HN.out 3
      simp only [List.getElem?_toArray, List.getElem?_cons_zero, List.getElem?_cons_succ] at kf j0 j1 j2 j3
      clear ck0 ck1 ck2 ck3 hW1 HO
      have HIK : Hid (∀ V, Below wo.heap.size wo V → OnI X J w V (onN x y (L.map MsgM.d) k).length B) := Lib.hid fun V hb =>
        ⟨hJ _ _ _ HI.out.j (hb.mono HI.out.lo), HI.out.keep.trans (But.of_below hb) (fun b _ e => .inr (Nat.le_trans HI.out.keep.size e)), Nat.le_trans HI.out.lo hb.size⟩
      cases hp : pkB x y m.src m.dst with
      | false =>
        rw [hp] at h73
        have HE : Hid ((onN x y (L.map MsgM.d) (k + 1)).length = (onN x y (L.map MsgM.d) k).length) := Lib.hid (by rw [onN_not hmd hp])
        clear hp hm hmd HN
        go_wp2_with (go_at_call 73; (with_reducible refine h73.mono ?_); clear h73; rintro e W2 ⟨rfl, hb2⟩; have HI2 := Lib.hid (HIK.out W2 (HB.out.trans (hb2.mono HB.out.size))); rw [← HE.out] at HI2; clear hb2)
        go_roundw
        case rel => exact ⟨k + 1, by omega, by go_num, HI2⟩
        case measure => simp [RowKit.intOf]; omega
      | true =>
        rw [hp] at h73
        have HE : Hid ((onN x y (L.map MsgM.d) (k + 1)).length = (onN x y (L.map MsgM.d) k).length + 1) := Lib.hid (by rw [onN_yes hmd hp]; simp)
        have HLE : Hid ((onN x y (L.map MsgM.d) k).length + 1 ≤ (onP x y (L.map MsgM.d)).length) := Lib.hid (by
          rw [← HE.out]
          obtain ⟨r, hr⟩ := onN_pre x y (L.map MsgM.d) (show k + 1 ≤ (L.map MsgM.d).length by rw [List.length_map]; omega)
          unfold onP
          rw [hr, List.length_append]
          exact Nat.le_add_right _ _)
        have HH : Hid (∀ V, HOn x y L B (onN x y (L.map MsgM.d) k).length #[.int .i64 (k : Int), m.val] V) := Lib.hid fun V => ⟨k, m, hm, hp, rfl, rfl⟩
        clear hp hm hmd
        unfold MsgM.val MsgM.sl at HH
        refine (wpIn_wide (n := 3)).1 ?_
        gi_wp2_with ((try refine ⟨trivial, ?_⟩); gi_at_call 73; refine (callsIn_wide.2 h73).mono ?_; clear h73; rintro e W2 ⟨rfl, hb2⟩; have HB2 := Lib.hid (HB.out.trans (hb2.mono HB.out.size)); have hr2 := (hb2.block _ (Array.getElem?_eq_some_iff.1 HN.out).1).trans HN.out; have i0 := cell_of_heap hr2 0; have i1 := cell_of_heap hr2 1; have i2 := cell_of_heap hr2 2; have i3 := cell_of_heap hr2 3; simp only [List.getElem?_toArray, List.getElem?_cons_zero, List.getElem?_cons_succ] at i0 i1 i2 i3; clear hb2 hr2; obtain ⟨fn, tmps, assign, body, hy, hR⟩ := HY.out (onN x y (L.map MsgM.d) k).length _ W2 (hJ _ _ _ HI.out.j (HB2.out.mono HI.out.lo)) (HH.out W2))
        refine (roundIn_any hR).mono ?_
        clear hR hy
        rintro e W3 (⟨rfl, _, hJ3, hbut⟩ | ⟨rfl, hJx3, _⟩)
        · have h2 := HIK.out W2 HB2.out
          have HI3 : Hid (OnI X J w W3 (onN x y (L.map MsgM.d) (k + 1)).length B) := Lib.hid (by
            rw [HE.out]
            exact ⟨hJ3, h2.keep.trans hbut (fun b _ e => by
              rcases e with e | e | e
              · exact .inl e
              · exact .inr e.1
              · exact e.elim), Nat.le_trans h2.lo hbut.size⟩)
          clear hbut hJ3 h2
          gi_wp2
          go_wp2_with fail
          go_roundw
          case rel => exact ⟨k + 1, by omega, by go_num, HI3⟩
          case measure => simp [RowKit.intOf]; omega
        · gi_wp2
          go_wp2_with fail
          refine bodyPost_ret (results_none rfl _ _ _) rfl ?_
          exact ⟨⟨_, rfl⟩, .inr ⟨_, ⟨Nat.le_add_left _ _, HLE.out⟩, hJx3⟩⟩
    · obtain rfl : k = L.length := by omega
      go_wp2_with fail
      go_end0
      exact ⟨⟨_, rfl⟩, .inl ⟨_, by unfold onP; rw [List.length_map], HI.out.j⟩⟩
end Go.Proofs
