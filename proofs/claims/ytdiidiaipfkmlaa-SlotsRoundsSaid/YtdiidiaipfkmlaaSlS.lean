/-
  The walk of SlotsOwn. Conditions: as the theorem names them.
-/
import Derived.LoopN
import Derived.Test.YtdiidiaipfkmlaaSlQ
import Derived.Test.YtdiidiaipfkmlaaSlR
namespace Go.Proofs
open Go Go.RowKit Sm Go.Lib
attribute [local go_sem] Oper.semAt_some
theorem Sm.many_nn (c p f t : Int) : 0 ≤ manyV c p f t := by
  unfold manyV
  split
  · rename_i h
    obtain ⟨h1, h2, h3, h4, h5⟩ := mxV_zero h
    unfold maV ahV
    have := h2.1
    have := h2.2
    rcases chB_iff.1 h1 with rfl | rfl | rfl | rfl <;> omega
  · exact Int.le_refl _
/-- how all stands while a place's slots are gone over -/
structure Sm.OlI (c p f many : Int) (N L Bw cp bm bc bp bf : Nat) (A : Option Addr) (w W : World) : Prop where
  box : W.heap[Bw]? = some (.cells #[.slice A N cp] 38 (0, 0))
  row : W.ownsRow L 3 1 (.slice A N cp) N (rowI c p f N)
  many_ : W.heap[w.heap.size]? = some (.cells #[.int .i64 many] 3 (0, 0))
  res : W.heap[w.heap.size + 1]? = some (.cells #[.bool false] 4 (0, 0))
  own : OwnAt W bm bc bp bf (N : Int) c p f
  below : Below w.heap.size w W
theorem Sm.OlI.on {c p f many : Int} {N L Bw cp bm bc bp bf : Nat} {A : Option Addr} {w W W' : World} (h : OlI c p f many N L Bw cp bm bc bp bf A w W) (hb : Below W.heap.size W W') : OlI c p f many N L Bw cp bm bc bp bf A w W' :=
  ⟨(hb.block _ (Array.getElem?_eq_some_iff.1 h.box).1).trans h.box, own_below h.row hb, (hb.block _ (Array.getElem?_eq_some_iff.1 h.many_).1).trans h.many_, (hb.block _ (Array.getElem?_eq_some_iff.1 h.res).1).trans h.res, h.own.keep hb, h.below.trans (hb.mono h.below.size)⟩
theorem Sm.rowI_get (c p f : Int) {N q : Nat} (h : q < N) : (rowI c p f N)[q]? = some (.int .i64 (atV c p f q)) := by
  unfold rowI
  rw [List.getElem?_map, List.getElem?_range h]
  rfl
set_option maxRecDepth 100000 in
set_option maxHeartbeats 8000000 in
theorem Sm.own_law (c p f t many : Int) (w : World) : Calls Try.prog 6 #[.int .i64 c, .int .i64 p, .int .i64 f, .int .i64 t, .int .i64 many] w fun e w' => e = .returned (.bool true) ∧ Below w.heap.size w w' := by
  obtain ⟨wA, hwA⟩ : ∃ wA, (w.alloc (.cells #[.int .i64 many] 3)).alloc (.cells #[.bool false] 4) = wA := ⟨_, rfl⟩
  have hbA : Below w.heap.size w wA := by rw [← hwA]; exact ((Below.refl _ w).alloc (Nat.le_refl _) _).alloc (by simp) _
  have hres0 : wA.heap[w.heap.size + 1]? = some (.cells #[.bool false] 4 (0, 0)) := by
    rw [← hwA]; have := World.alloc_heap_new (w.alloc (.cells #[.int .i64 many] 3)) (.cells #[.bool false] 4); rwa [World.size_alloc] at this
  have hmany0 : wA.heap[w.heap.size]? = some (.cells #[.int .i64 many] 3 (0, 0)) := by
    rw [← hwA]; exact (Below.heap_alloc _ _ _ (by simp)).trans (World.alloc_heap_new w _)
  have hsA : wA.heap.size = w.heap.size + 2 := by rw [← hwA]; simp
  refine (callsIn_wide (n := 3)).1 (callsIn_of_wp_marks Try.func6 rfl trivial ?_ rfl)
  refine wpIn_wide.2 ?_
  simp only [Try.ntmps6, List.size_toArray, List.length_cons, List.length_nil, Nat.reduceAdd, Nat.reduceSub, Array.replicate_succ, Array.replicate_zero, List.push_toArray, List.append_toArray, List.nil_append, List.cons_append]
  have h24 := rOwn_any c p f t wA
  have h25 := fun W => Many_any c p f t W
  have h26 := fun W => Own_any c p f t W
  have hnn := many_nn c p f t
  have hme : (if mxV c p f t = 0 then maV c p f t else 0) = manyV c p f t := rfl
  have hOC := fun h => (manyV_own (c := c) (p := p) (b := f) (t := t) h)
  obtain ⟨N, hN⟩ : ∃ N : Nat, manyV c p f t = (N : Int) := ⟨(manyV c p f t).toNat, by omega⟩
  obtain ⟨x, hx⟩ : ∃ x, mxV c p f t = x := ⟨_, rfl⟩
  have hN4 : N ≤ 4096 := by have := manyV_le c p f t; omega
  simp only [hme] at h25
  simp only [hN, hx, Int.toNat_natCast] at h24 h25 h26
  rw [hN] at hOC
  have HOC := Lib.hid hOC
  have hn12 := fun x W => num_any x W
  have hfn : ∀ (bm bc bp bf : Nat) (wx : World), (binOp .eql 43 (ownF bm bc bp bf) .nilFunc).run Try.prog wx = .ok (.bool false) wx := fun _ _ _ _ _ => by kernel_rfl
  have HFN := Lib.hid hfn
  unfold ownF at h26
  clear hOC hnn hme hN hx hfn
  go_wp2_with (first
    | (go_at_call 24; (with_reducible refine h24.mono ?_); clear h24; rintro e w1 ⟨v, rfl, hrow, hb1⟩; obtain ⟨A, cp, rfl⟩ := own_slice hrow)
    | (go_at_call 25; (with_reducible refine (h25 _).mono ?_); clear h25; rintro e w3 ⟨rfl, hb3⟩; have hbx3 : w3.heap[w1.heap.size]? = some (.cells #[.slice A N cp] 38 (0, 0)) := (hb3.block _ (by simp)).trans (World.alloc_heap_new w1 _); have k3 := cell_of_heap hbx3 0; simp only [List.getElem?_toArray, List.getElem?_cons_zero] at k3)
    | (go_at_call 12; (with_reducible refine (hn12 _ _).mono ?_); rintro e w' ⟨rfl, rfl⟩)
    | (go_at_call 26; (with_reducible refine (h26 _).mono ?_); clear h26; rintro e w4 ⟨bm, bc, bp, bf, rfl, hOw, hbm, hbc, hbp, hbf, hb4⟩))
  have hz1 := hb1.size
  have hz3 := hb3.size
  have hz4 := hb4.size
  simp only [World.size_alloc] at hz3
  have hb13 : Below w1.heap.size w1 w3 := ((Below.refl _ w1).alloc (Nat.le_refl _) _).trans (hb3.mono (by simp))
  have hbA3 : Below wA.heap.size wA w3 := hb1.trans (hb13.mono hz1)
  have hbA4 : Below wA.heap.size wA w4 := hbA3.trans (hb4.mono (by omega))
  obtain ⟨w6, hw6⟩ : ∃ w6, w4.alloc (.cells #[.int .i64 0] 3) = w6 := ⟨_, rfl⟩
  have hb46 : Below w4.heap.size w4 w6 := by rw [← hw6]; exact (Below.refl _ _).alloc (Nat.le_refl _) _
  have hS4 : OlI c p f many N wA.heap.size w1.heap.size cp bm bc bp bf A w w4 := ⟨(hb4.block _ (by omega)).trans hbx3, own_below (own_below hrow hb13) hb4, (hbA4.block _ (by omega)).trans hmany0, (hbA4.block _ (by omega)).trans hres0, hOw, hbA.trans (hbA4.mono hbA.size)⟩
  have HS6 : Hid (OlI c p f many N wA.heap.size w1.heap.size cp bm bc bp bf A w w6) := Lib.hid (hS4.on hb46)
  have HT6 : Hid (w6.heap[w4.heap.size]? = some (.cells #[.int .i64 0] 3 (0, 0))) := Lib.hid (by rw [← hw6]; exact World.alloc_heap_new w4 _)
  have hs6 : w6.heap.size = w4.heap.size + 1 := by rw [← hw6]; simp
  have HC0 : Hid (w.heap.size + 2 ≤ w4.heap.size) := Lib.hid (by omega)
  have HC1 : Hid (w6.heap.size = w4.heap.size + 1) := Lib.hid hs6
  have HLW : Hid (∀ b, b = bm ∨ b = bc ∨ b = bp ∨ b = bf → b < w4.heap.size) := Lib.hid (by have := hOw.lt; omega)
  have HOC2 : Hid (0 < (N : Int) → OwC c p f (N : Int)) := Lib.hid fun h => (HOC.out h).1
  rw [hw6]
  clear hw6 hb46 hs6 hS4 hb13 hbA3 hbA4 hrow hb1 hb3 hb4 hbx3 k3 hOw hbm hbc hbp hbf hz1 hz3 hz4 hres0 hmany0 hbA hwA HOC hn12
  refine wp_loop_rounds 3 ?_
  rw [rounds_succ]
  have HSr0 : Hid (OlI c p f many N wA.heap.size w1.heap.size cp bm bc bp bf A w w6) := HS6
  have kt0 := cell_of_heap (HT6).out 0
  simp only [List.getElem?_toArray, List.getElem?_cons_zero] at kt0
  have hlB0 : w4.heap.size < w6.heap.size := (Array.getElem?_eq_some_iff.1 (HT6).out).1
  have hlo0 := HSr0.out.own.lt
  have hlm0 : w.heap.size < w6.heap.size := by have := HC0.out; have := HSr0.out.below.size; omega
  obtain ⟨v0, hv0⟩ : ∃ v0, w6.alloc (.cells #[.int .i64 0] 3) = v0 := ⟨_, rfl⟩
  have hsv0 : v0.heap.size = w6.heap.size + 1 := by rw [← hv0]; simp
  have hbv0 : Below w6.heap.size w6 v0 := by rw [← hv0]; exact (Below.refl _ _).alloc (Nat.le_refl _) _
  have hn0 : v0.heap[w6.heap.size]? = some (.cells #[.int .i64 0] 3 (0, 0)) := by rw [← hv0]; exact World.alloc_heap_new _ _
  have HBV0 := Lib.hid hbv0
  have HV0 := Lib.hid hv0
  have HN0 := Lib.hid hn0
  have hfn0 := HFN.out bm bc bp bf
  unfold ownF at hfn0
  clear hv0 hbv0 hn0
  go_wp2
  clear hfn0
  rw [HV0.out]
  refine (wpIn_wide (n := 3)).1 ?_
  refine wpIn_range1b (gf := 44) (lb := #[.pointer (some ⟨bm, 0, none⟩), .pointer (some ⟨bc, 0, none⟩), .pointer (some ⟨bp, 0, none⟩), .pointer (some ⟨bf, 0, none⟩)]) rfl (enters_of Try.func44 (by kernel_rfl) rfl)
    (own_seq v0 (HSr0.out.own.keep HBV0.out) HOC2.out (fun b => b = w6.heap.size) (fun b e => by have e2 : b = _ := e; omega) (by omega))
    (fun b e => by omega) ?hH ?hrow 57 18 rfl ?hargs
    (fun q W => But (fun b => b = w6.heap.size) v0 W ∧ W.heap[w6.heap.size]? = some (.cells #[.int .i64 (q : Int)] 3 (0, 0)) ∧ q ≤ N ∧ (q = 0 ∨ (q : Int) < many))
    (fun q W => But (fun b => b = w6.heap.size) v0 W ∧ W.heap[w6.heap.size]? = some (.cells #[.int .i64 (q : Int)] 3 (0, 0)) ∧ q ≤ N ∧ 1 ≤ q ∧ many ≤ (q : Int) ∧ (q = 1 ∨ (q : Int) - 1 < many))
    2 ?hI ?hIx ⟨But.refl _ _, HN0.out, Nat.zero_le _, .inl rfl⟩ ?assign ?body _ (fun _ _ h => h) (fun _ _ h => h) ?rest
  case hH =>
    rintro k args W1 W' h hb
    exact h
  case hrow =>
    rintro k args W1 b _ h
    exact h.elim
  case hargs =>
    rintro k args W1 ⟨_, rfl⟩
    exact ⟨_, rfl⟩
  case hI =>
    rintro q W1 W' ⟨i1, i2, i3⟩ hb
    exact ⟨i1.trans (But.of_below hb) (fun b h1 h2 => by omega), (hb.block _ (by omega)).trans i2, i3⟩
  case hIx =>
    rintro q W1 W' ⟨i1, i2, i3⟩ hb
    exact ⟨i1.trans (But.of_below hb) (fun b h1 h2 => by omega), (hb.block _ (by omega)).trans i2, i3⟩
  case assign =>
    intro l0 x W1 K hK
    simp only [List.setIfInBounds_toArray, List.set_cons_zero, List.set_cons_succ] at hK ⊢
    gi_wp2
    exact hK
  case body =>
    rintro l0 q x W1 hsz ⟨i1, i2, i3, i4⟩ ⟨hq, e⟩
    simp only [Array.mk.injEq, List.cons.injEq, and_true] at e
    obtain rfl := e
    simp only [List.setIfInBounds_toArray, List.set_cons_zero, List.set_cons_succ]
    have hbW : Below w6.heap.size w6 W1 := HBV0.out.trans (i1.to_below (n := w6.heap.size) (by omega) (fun b e => by omega))
    have hSW := HSr0.out.on hbW
    have hTW : W1.heap[w4.heap.size]? = some (.cells #[.int .i64 0] 3 (0, 0)) := (hbW.block _ hlB0).trans (HT6).out
    have hqn : q < N := by omega
    have hown := hSW.row
    obtain ⟨g, cap, eg, hgb, hgl⟩ := hown.form (by omega)
    injection eg with e1 e2 e3
    subst e1
    have c1 : W1.cell? ⟨g, q, none⟩ = some (.int .i64 (atV c p f q)) := by
      rw [hown.cellAt q (by omega)]
      exact rowI_get c p f hqn
    have k1 := cell_of_heap i2 0
    have k2 := frozen_of_heap i2 0
    have k3 := cell_of_heap hSW.box 0
    have k4 := cell_of_heap hTW 0
    have k5 := cell_of_heap hSW.many_ 0
    simp only [List.getElem?_toArray, List.getElem?_cons_zero] at k1 k3 k4 k5
    have hq1 : (q : Int) < (N : Int) := by omega
    obtain ⟨av, hav⟩ : ∃ av, atV c p f q = av := ⟨_, rfl⟩
    rw [hav] at c1 ⊢
    have hbq : But (fun b => b = w6.heap.size) W1 (W1.setCell ⟨w6.heap.size, 0, none⟩ (.int .i64 ((q : Int) + 1))) := (But.refl _ _).set ⟨w6.heap.size, 0, none⟩ _ (.inl rfl)
    have hbx := heap_setCells (i := 0) (u := .int .i64 ((q : Int) + 1)) i2
    have HBQ : Hid (But (fun b => b = w6.heap.size ∨ rowD #[.int .i64 av] b) W1 (W1.setCell ⟨w6.heap.size, 0, none⟩ (.int .i64 ((q : Int) + 1)))) := Lib.hid (hbq.mono (fun b _ e => .inl e))
    have HBI : Hid (But (fun b => b = w6.heap.size) v0 (W1.setCell ⟨w6.heap.size, 0, none⟩ (.int .i64 ((q : Int) + 1)))) := Lib.hid (i1.trans hbq (fun b _ e => e))
    have HBX : Hid ((W1.setCell ⟨w6.heap.size, 0, none⟩ (.int .i64 ((q : Int) + 1))).heap[w6.heap.size]? = some (.cells #[.int .i64 ((q + 1 : Nat) : Int)] 3 (0, 0))) := Lib.hid (by rw [show ((q + 1 : Nat) : Int) = (q : Int) + 1 by omega]; exact hbx)
    have HI4 := Lib.hid i4
    have hqi : (q : Int) ≤ 4096 := by omega
    have HQ := Lib.hid hqn
    clear hbq hbx i1 i2 i4 hSW hTW hown hgb hgl hav e2 e3 hbW
    by_cases hmq : many ≤ (q : Int) + 1
    · gi_wp2
      exact ⟨HBQ.out, rfl, HBI.out, HBX.out, HQ.out, by omega, by omega, by have := HI4.out; omega⟩
    · gi_wp2
      exact ⟨trivial, HBQ.out, HBI.out, HBX.out, HQ.out, Or.inr (by omega)⟩
  case rest =>
    intro X0 hor hD
    obtain ⟨M, i1, i2, hM⟩ : ∃ M : Nat, But (fun b => b = w6.heap.size) v0 X0 ∧ X0.heap[w6.heap.size]? = some (.cells #[.int .i64 (M : Int)] 3 (0, 0)) ∧ (M : Int) = min (N : Int) (max 1 many) := by
      rcases hor with ⟨q, hS, i1, i2, i3, i4⟩ | ⟨q, hSp, i1, i2, i3, i5, i6, i7⟩
      · exact ⟨q, i1, i2, by have := i4; omega⟩
      · exact ⟨q, i1, i2, by omega⟩
    have hMb : ((M : Int) != min (N : Int) (max 1 many)) = false := by simp [hM]
    clear hM
    have hbW : Below w6.heap.size w6 X0 := HBV0.out.trans (i1.to_below (n := w6.heap.size) (by omega) (fun b e => by omega))
    have hSW := HSr0.out.on hbW
    have hTW : X0.heap[w4.heap.size]? = some (.cells #[.int .i64 0] 3 (0, 0)) := (hbW.block _ hlB0).trans (HT6).out
    have k1 := cell_of_heap i2 0
    have k3 := cell_of_heap hSW.box 0
    have k4 := cell_of_heap hTW 0
    have k5 := cell_of_heap hSW.many_ 0
    simp only [List.getElem?_toArray, List.getElem?_cons_zero] at k1 k3 k4 k5
    obtain ⟨Y0, hY0⟩ : ∃ Y, X0.alloc (.cells #[.int .i64 1] 3) = Y := ⟨_, rfl⟩
    have hbY : Below X0.heap.size X0 Y0 := by rw [← hY0]; exact (Below.refl _ _).alloc (Nat.le_refl _) _
    have HSY0 : Hid (OlI c p f many N wA.heap.size w1.heap.size cp bm bc bp bf A w Y0) := Lib.hid (hSW.on hbY)
    have HTY0 : Hid (Y0.heap[X0.heap.size]? = some (.cells #[.int .i64 1] 3 (0, 0))) := Lib.hid (by rw [← hY0]; exact World.alloc_heap_new _ _)
    have HM0 : Hid (Marks [v0.heap.size] w4.heap.size Y0) := Lib.hid ((Marks.push (show Marks [] w4.heap.size w6 from ⟨by simp, fun D hD => by simp at hD⟩) hbW (by omega) (by have := HC1.out; omega) hD).on hbY)
    have HY0 := Lib.hid hY0
    have HSV0 := Lib.hid hsv0
    have hlx0 : w6.heap.size < X0.heap.size := (Array.getElem?_eq_some_iff.1 i2).1
    clear hor hD i1 i2 hbW hSW hTW hbY hY0 hsv0
    go_wp2
    rw [HY0.out, rounds_succ]
    clear k1 k3 k4 k5 hMb
    have HSr1 : Hid (OlI c p f many N wA.heap.size w1.heap.size cp bm bc bp bf A w Y0) := HSY0
    have kt1 := cell_of_heap (HTY0).out 0
    simp only [List.getElem?_toArray, List.getElem?_cons_zero] at kt1
    have hlB1 : X0.heap.size < Y0.heap.size := (Array.getElem?_eq_some_iff.1 (HTY0).out).1
    have hlo1 := HSr1.out.own.lt
    have hlm1 : w.heap.size < Y0.heap.size := by have := HC0.out; have := HSr1.out.below.size; omega
    obtain ⟨v1, hv1⟩ : ∃ v1, Y0.alloc (.cells #[.int .i64 0] 3) = v1 := ⟨_, rfl⟩
    have hsv1 : v1.heap.size = Y0.heap.size + 1 := by rw [← hv1]; simp
    have hbv1 : Below Y0.heap.size Y0 v1 := by rw [← hv1]; exact (Below.refl _ _).alloc (Nat.le_refl _) _
    have hn1 : v1.heap[Y0.heap.size]? = some (.cells #[.int .i64 0] 3 (0, 0)) := by rw [← hv1]; exact World.alloc_heap_new _ _
    have HBV1 := Lib.hid hbv1
    have HV1 := Lib.hid hv1
    have HN1 := Lib.hid hn1
    have hfn1 := HFN.out bm bc bp bf
    unfold ownF at hfn1
    clear hv1 hbv1 hn1
    go_wp2
    clear hfn1
    rw [HV1.out]
    refine (wpIn_wide (n := 3)).1 ?_
    refine wpIn_range1b (gf := 44) (lb := #[.pointer (some ⟨bm, 0, none⟩), .pointer (some ⟨bc, 0, none⟩), .pointer (some ⟨bp, 0, none⟩), .pointer (some ⟨bf, 0, none⟩)]) rfl (enters_of Try.func44 (by kernel_rfl) rfl)
      (own_seq v1 (HSr1.out.own.keep HBV1.out) HOC2.out (fun b => b = Y0.heap.size) (fun b e => by have e2 : b = _ := e; omega) (by omega))
      (fun b e => by omega) ?hH ?hrow 57 18 rfl ?hargs
      (fun q W => But (fun b => b = Y0.heap.size) v1 W ∧ W.heap[Y0.heap.size]? = some (.cells #[.int .i64 (q : Int)] 3 (0, 0)) ∧ q ≤ N ∧ True)
      (fun q W => But (fun b => b = Y0.heap.size) v1 W ∧ W.heap[Y0.heap.size]? = some (.cells #[.int .i64 (q : Int)] 3 (0, 0)) ∧ q ≤ N ∧ False)
      2 ?hI ?hIx ⟨But.refl _ _, HN1.out, Nat.zero_le _, trivial⟩ ?assign ?body _ (fun _ _ h => h) (fun _ _ h => h) ?rest
    case hH =>
      rintro k args W1 W' h hb
      exact h
    case hrow =>
      rintro k args W1 b _ h
      exact h.elim
    case hargs =>
      rintro k args W1 ⟨_, rfl⟩
      exact ⟨_, rfl⟩
    case hI =>
      rintro q W1 W' ⟨i1, i2, i3⟩ hb
      exact ⟨i1.trans (But.of_below hb) (fun b h1 h2 => by omega), (hb.block _ (by omega)).trans i2, i3⟩
    case hIx =>
      rintro q W1 W' ⟨i1, i2, i3⟩ hb
      exact ⟨i1.trans (But.of_below hb) (fun b h1 h2 => by omega), (hb.block _ (by omega)).trans i2, i3⟩
    case assign =>
      intro l0 x W1 K hK
      simp only [List.setIfInBounds_toArray, List.set_cons_zero, List.set_cons_succ] at hK ⊢
      gi_wp2
      exact hK
    case body =>
      rintro l0 q x W1 hsz ⟨i1, i2, i3, i4⟩ ⟨hq, e⟩
      simp only [Array.mk.injEq, List.cons.injEq, and_true] at e
      obtain rfl := e
      simp only [List.setIfInBounds_toArray, List.set_cons_zero, List.set_cons_succ]
      have hbW : Below Y0.heap.size Y0 W1 := HBV1.out.trans (i1.to_below (n := Y0.heap.size) (by omega) (fun b e => by omega))
      have hSW := HSr1.out.on hbW
      have hTW : W1.heap[X0.heap.size]? = some (.cells #[.int .i64 1] 3 (0, 0)) := (hbW.block _ hlB1).trans (HTY0).out
      have hqn : q < N := by omega
      have hown := hSW.row
      obtain ⟨g, cap, eg, hgb, hgl⟩ := hown.form (by omega)
      injection eg with e1 e2 e3
      subst e1
      have c1 : W1.cell? ⟨g, q, none⟩ = some (.int .i64 (atV c p f q)) := by
        rw [hown.cellAt q (by omega)]
        exact rowI_get c p f hqn
      have k1 := cell_of_heap i2 0
      have k2 := frozen_of_heap i2 0
      have k3 := cell_of_heap hSW.box 0
      have k4 := cell_of_heap hTW 0
      have k5 := cell_of_heap hSW.many_ 0
      simp only [List.getElem?_toArray, List.getElem?_cons_zero] at k1 k3 k4 k5
      have hq1 : (q : Int) < (N : Int) := by omega
      obtain ⟨av, hav⟩ : ∃ av, atV c p f q = av := ⟨_, rfl⟩
      rw [hav] at c1 ⊢
      have hbq : But (fun b => b = Y0.heap.size) W1 (W1.setCell ⟨Y0.heap.size, 0, none⟩ (.int .i64 ((q : Int) + 1))) := (But.refl _ _).set ⟨Y0.heap.size, 0, none⟩ _ (.inl rfl)
      have hbx := heap_setCells (i := 0) (u := .int .i64 ((q : Int) + 1)) i2
      have HBQ : Hid (But (fun b => b = Y0.heap.size ∨ rowD #[.int .i64 av] b) W1 (W1.setCell ⟨Y0.heap.size, 0, none⟩ (.int .i64 ((q : Int) + 1)))) := Lib.hid (hbq.mono (fun b _ e => .inl e))
      have HBI : Hid (But (fun b => b = Y0.heap.size) v1 (W1.setCell ⟨Y0.heap.size, 0, none⟩ (.int .i64 ((q : Int) + 1)))) := Lib.hid (i1.trans hbq (fun b _ e => e))
      have HBX : Hid ((W1.setCell ⟨Y0.heap.size, 0, none⟩ (.int .i64 ((q : Int) + 1))).heap[Y0.heap.size]? = some (.cells #[.int .i64 ((q + 1 : Nat) : Int)] 3 (0, 0))) := Lib.hid (by rw [show ((q + 1 : Nat) : Int) = (q : Int) + 1 by omega]; exact hbx)
      have HI4 := Lib.hid i4
      have hqi : (q : Int) ≤ 4096 := by omega
      have HQ := Lib.hid hqn
      clear hbq hbx i1 i2 i4 hSW hTW hown hgb hgl hav e2 e3 hbW
      gi_wp2
      exact ⟨trivial, HBQ.out, HBI.out, HBX.out, HQ.out, trivial⟩
    case rest =>
      intro X1 hor hD
      obtain ⟨i1, i2⟩ : But (fun b => b = Y0.heap.size) v1 X1 ∧ X1.heap[Y0.heap.size]? = some (.cells #[.int .i64 (N : Int)] 3 (0, 0)) := by
        rcases hor with ⟨q, hS, i1, i2, i3, i4⟩ | ⟨q, hSp, i1, i2, i3, i5⟩
        · obtain rfl : q = N := by omega
          exact ⟨i1, i2⟩
        · exact i5.elim
      have hMb : ((N : Int) != (N : Int)) = false := by simp
      have hbW : Below Y0.heap.size Y0 X1 := HBV1.out.trans (i1.to_below (n := Y0.heap.size) (by omega) (fun b e => by omega))
      have hSW := HSr1.out.on hbW
      have hTW : X1.heap[X0.heap.size]? = some (.cells #[.int .i64 1] 3 (0, 0)) := (hbW.block _ hlB1).trans (HTY0).out
      have k1 := cell_of_heap i2 0
      have k3 := cell_of_heap hSW.box 0
      have k4 := cell_of_heap hTW 0
      have k5 := cell_of_heap hSW.many_ 0
      simp only [List.getElem?_toArray, List.getElem?_cons_zero] at k1 k3 k4 k5
      obtain ⟨Y1, hY1⟩ : ∃ Y, X1.alloc (.cells #[.int .i64 2] 3) = Y := ⟨_, rfl⟩
      have hbY : Below X1.heap.size X1 Y1 := by rw [← hY1]; exact (Below.refl _ _).alloc (Nat.le_refl _) _
      have HSY1 : Hid (OlI c p f many N wA.heap.size w1.heap.size cp bm bc bp bf A w Y1) := Lib.hid (hSW.on hbY)
      have HTY1 : Hid (Y1.heap[X1.heap.size]? = some (.cells #[.int .i64 2] 3 (0, 0))) := Lib.hid (by rw [← hY1]; exact World.alloc_heap_new _ _)
      have HM1 : Hid (Marks [v1.heap.size, v0.heap.size] w4.heap.size Y1) := Lib.hid ((Marks.push HM0.out hbW (by omega) (by have := HC1.out; omega) hD).on hbY)
      have HY1 := Lib.hid hY1
      have HSV1 := Lib.hid hsv1
      have hlx1 : Y0.heap.size < X1.heap.size := (Array.getElem?_eq_some_iff.1 i2).1
      clear hor hD i1 i2 hbW hSW hTW hbY hY1 hsv1
      go_wp2
      rw [HY1.out, rounds_succ]
      clear k1 k3 k4 k5 hMb
      have kt2 := cell_of_heap HTY1.out 0
      simp only [List.getElem?_toArray, List.getElem?_cons_zero] at kt2
      have hw14 := works_any Y1
      have hres2 := HSY1.out.res
      have hbl2 := HSY1.out.below
      have HR2 := Lib.hid hres2
      have HB2 := Lib.hid hbl2
      clear hres2 hbl2
      go_wp2_with (go_at_call 14; (with_reducible refine hw14.mono ?_); clear hw14; rintro e w9 ⟨rfl, hb9⟩; have hr9 := (hb9.block _ (Array.getElem?_eq_some_iff.1 HR2.out).1).trans HR2.out; have HM9 := Lib.hid (HM1.out.on hb9); have HB9 := Lib.hid (HB2.out.trans (hb9.mono HB2.out.size)); have f9 := frozen_of_heap hr9 0; have c9 := cell_of_heap hr9 0; simp only [List.getElem?_toArray, List.getElem?_cons_zero] at c9)
      have hset := heap_setCells (i := 0) (u := .bool true) hr9
      obtain ⟨hnd, hmd⟩ := HM9.out
      have m1 := hmd v1.heap.size (by simp)
      have m0 := hmd v0.heap.size (by simp)
      have hne : v1.heap.size ≠ v0.heap.size := by simpa using hnd
      have hc2 := HC0.out
      have n1 := (Below.heap_setCell w9 ⟨w.heap.size + 1, 0, none⟩ (.bool true) v1.heap.size (by simp; omega)).trans m1.2
      have n0 := (Below.heap_setCell w9 ⟨w.heap.size + 1, 0, none⟩ (.bool true) v0.heap.size (by simp; omega)).trans m0.2
      obtain ⟨wc, hwc⟩ : ∃ wc, w9.setCell ⟨w.heap.size + 1, 0, none⟩ (.bool true) = wc := ⟨_, rfl⟩
      have hbc : Below w.heap.size w wc := by rw [← hwc]; exact HB9.out.setCell (p := ⟨w.heap.size + 1, 0, none⟩) (by simp) _
      rw [hwc] at hset n1 n0 ⊢
      have h4 : ((wc.putObj v1.heap.size (.deferred none)).putObj v0.heap.size (.deferred none)).cell? ⟨w.heap.size + 1, 0, none⟩ = some (.bool true) :=
        cell_of_heap ((World.putObj_heap_other (by omega)).trans ((World.putObj_heap_other (by omega)).trans hset)) 0
      have hbz : Below w.heap.size w ((wc.putObj v1.heap.size (.deferred none)).putObj v0.heap.size (.deferred none)) := by
        have h6 := hbc.trans ((put_but _ v1.heap.size (.deferred none)).to_below hbc.size (fun b e => by omega))
        exact h6.trans ((put_but _ v0.heap.size (.deferred none)).to_below h6.size (fun b e => by omega))
      exact retM2 (v := .bool true) rfl hne n1 n0 (by simp [results, Try.results6, go_sem, h4]) ⟨rfl, hbz⟩
end Go.Proofs
