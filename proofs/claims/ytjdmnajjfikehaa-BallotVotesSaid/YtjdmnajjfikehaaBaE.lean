/-
  ballot: the greatest of some; Above. Conditions: as each theorem names them.
-/
import Derived.Test.YtjdmnajjfikehaaBaD
namespace Go.Proofs
open Go Go.RowKit Sm Go.Lib
attribute [local go_sem] Oper.semAt_some
theorem Sm.heap_setOther {w : World} {B D i : Nat} {u : Value} (h : D ≠ B) : (w.setCell ⟨B, i, none⟩ u).heap[D]? = w.heap[D]? := by
  show (w.heap.modify B _)[D]? = _
  rw [Array.getElem?_modify, if_neg (fun e => h e.symm)]
/-- ballots in a row -/
def Sm.RowP (W : World) (A : Option Addr) (n c : Nat) (xs : List (Int × Int)) : Prop :=
  xs.length = n ∧ n ≤ c ∧ n ≤ 1000 ∧ (xs = [] ∨ ∃ g off, A = some ⟨g, off, none⟩ ∧ g < W.heap.size ∧ ∀ j (h : j < xs.length), W.cell? ⟨g, off + j * 2, none⟩ = some (.int .i64 xs[j].1) ∧ W.cell? ⟨g, off + j * 2 + 1, none⟩ = some (.int .i64 xs[j].2))
theorem Sm.RowP.keep {W W' : World} {A : Option Addr} {n c : Nat} {xs : List (Int × Int)} (h : RowP W A n c xs) (hb : Below W.heap.size W W') : RowP W' A n c xs :=
  ⟨h.1, h.2.1, h.2.2.1, h.2.2.2.imp id fun ⟨g, off, e, hg, hc⟩ => ⟨g, off, e, Nat.lt_of_lt_of_le hg hb.size, fun j hj => ⟨(hb.cell (p := ⟨g, off + j * 2, none⟩) hg).trans (hc j hj).1, (hb.cell (p := ⟨g, off + j * 2 + 1, none⟩) hg).trans (hc j hj).2⟩⟩⟩
/-- the greater of two ballots, the first one if they are the same -/
def Sm.gtP (t x : Int × Int) : Int × Int := if lessB t.1 t.2 x.1 x.2 = true then x else t
/-- the greatest -/
def Sm.topP (t : Int × Int) (xs : List (Int × Int)) : Int × Int := xs.foldl gtP t
theorem Sm.topP_take (t : Int × Int) (xs : List (Int × Int)) {k : Nat} (h : k < xs.length) : topP t (xs.take (k + 1)) = gtP (topP t (xs.take k)) xs[k] := by
  unfold topP
  rw [List.take_succ_eq_append_getElem h, List.foldl_append]
  rfl
theorem Sm.cmpB_gt (r p r2 p2 : Int) : (0 < cmpB r p r2 p2) ↔ lessB r2 p2 r p = true := by
  rw [cmpB_less]
  have h : lessB r p r2 p2 = true → lessB r2 p2 r p = false := by
    unfold lessB
    simp only [Bool.or_eq_true, Bool.and_eq_true, decide_eq_true_eq, Bool.or_eq_false_iff, Bool.and_eq_false_iff, decide_eq_false_iff_not]
    omega
  by_cases h1 : lessB r p r2 p2 = true
  · rw [if_pos h1, h h1]; simp
  · rw [if_neg h1]
    by_cases h2 : lessB r2 p2 r p = true
    · rw [if_pos h2]; simp [h2]
    · rw [if_neg h2]; simp [h2]
set_option maxHeartbeats 2000000 in
theorem Sm.greatest_any (r p : Int) (A : Option Addr) (n c : Nat) (xs : List (Int × Int)) (w : World) (h : RowP w A n c xs) :
    Calls Try.prog 44 #[.func (.func 11) #[] #[], .agg #[.int .i64 r, .int .i64 p], .slice A n c] w fun e w' => e = .returned (.agg #[.int .i64 (topP (r, p) xs).1, .int .i64 (topP (r, p) xs).2]) ∧ Below w.heap.size w w' := by
  obtain ⟨hn, hnc, hn1, hx⟩ := h
  have hC := fun r p r2 p2 W => Compare_any r p r2 p2 W
  have HX := Lib.hid hx
  have HN := Lib.hid hn
  have hnI : (n : Int) ≤ 1000 := by omega
  have q0 := World.alloc_heap_new w (.cells #[.int .i64 r, .int .i64 p] 23)
  have q1 := World.alloc_heap_new (w.alloc (.cells #[.int .i64 r, .int .i64 p] 23)) (.cells #[.int .i64 0, .int .i64 0] 23)
  rw [World.size_alloc] at q1
  have q2 := (Below.heap_alloc (w.alloc (.cells #[.int .i64 r, .int .i64 p] 23)) (.cells #[.int .i64 0, .int .i64 0] 23) w.heap.size (by simp)).trans q0
  have hb2 : Below w.heap.size w ((w.alloc (.cells #[.int .i64 r, .int .i64 p] 23)).alloc (.cells #[.int .i64 0, .int .i64 0] 23)) := ((Below.refl _ w).alloc (Nat.le_refl _) _).alloc (by simp) _
  obtain ⟨K, hK⟩ : ∃ K, w.heap.size = K := ⟨_, rfl⟩
  have H0 : Hid (∃ t : Int × Int, t = topP (r, p) (xs.take 0) ∧ ((w.alloc (.cells #[.int .i64 r, .int .i64 p] 23)).alloc (.cells #[.int .i64 0, .int .i64 0] 23)).heap[K]? = some (.cells #[.int .i64 t.1, .int .i64 t.2] 23 (0, 0)) ∧ ((w.alloc (.cells #[.int .i64 r, .int .i64 p] 23)).alloc (.cells #[.int .i64 0, .int .i64 0] 23)).heap[K + 1]? = some (.cells #[.int .i64 0, .int .i64 0] 23 (0, 0)) ∧ Below w.heap.size w ((w.alloc (.cells #[.int .i64 r, .int .i64 p] 23)).alloc (.cells #[.int .i64 0, .int .i64 0] 23))) :=
    Lib.hid ⟨(r, p), rfl, by rw [← hK]; exact q2, by rw [← hK]; exact q1, hb2⟩
  have HK := Lib.hid hK
  clear hx hn q0 q1 q2 hb2 hK
  go_enter Try.func44, Try.ntmps44
  go_wp2
  go_loopw [11] (fun v11 wr => ∃ k : Nat, k ≤ n ∧ v11 = .int .i64 (k : Int) ∧ Hid (∃ t : Int × Int, t = topP (r, p) (xs.take k) ∧ wr.heap[K]? = some (.cells #[.int .i64 t.1, .int .i64 t.2] 23 (0, 0)) ∧ wr.heap[K + 1]? = some (.cells #[.int .i64 0, .int .i64 0] 23 (0, 0)) ∧ Below w.heap.size w wr)) (fun v11 _ => n - (RowKit.intOf v11).toNat)
  case atStart => exact ⟨0, Nat.zero_le _, rfl, H0⟩
  case round =>
    obtain ⟨wo, rfl⟩ : ∃ wo : World, wo = wr := ⟨_, rfl⟩
    obtain ⟨k, hk, rfl, HA⟩ := hrel
    clear H0
    obtain ⟨t, ht, q0, q1, hb⟩ := HA.out
    obtain ⟨tr, tp⟩ := t
    have HT := Lib.hid ht
    have HB := Lib.hid hb
    rw [← HK.out] at q0 q1
    have hl0 := (Array.getElem?_eq_some_iff.1 q0).1
    have hl1 := (Array.getElem?_eq_some_iff.1 q1).1
    clear HA hb ht
    by_cases hlt : k < n
    · have hkx : k < xs.length := by rw [HN.out]; exact hlt
      rcases HX.out with e | ⟨g, off, rfl, hg, hcl⟩
      · rw [e] at hkx; simp at hkx
      · obtain ⟨ck0, ck1⟩ := hcl k hkx
        have htk := topP_take (r, p) xs hkx
        rw [← HT.out] at htk
        obtain ⟨x, hx⟩ : ∃ x, xs[k] = x := ⟨_, rfl⟩
        rw [hx] at ck0 ck1 htk
        obtain ⟨xr, xp⟩ := x
        have d0 := (HB.out.cell (p := ⟨g, off + k * 2, none⟩) hg).trans ck0
        have d1 := (HB.out.cell (p := ⟨g, off + k * 2 + 1, none⟩) hg).trans ck1
        have HTK := Lib.hid htk
        have hgl := Nat.lt_of_lt_of_le hg HB.out.size
        clear hcl htk hx ck0 ck1
        -- the new box
        obtain ⟨w1, hw1⟩ : ∃ w1, wo.alloc (.cells #[.int .i64 xr, .int .i64 xp] 23) = w1 := ⟨_, rfl⟩
        have hb1 : Below wo.heap.size wo w1 := by rw [← hw1]; exact (Below.refl _ _).alloc (Nat.le_refl _) _
        have p0 := (hb1.block _ hl0).trans q0
        have p1 := (hb1.block _ hl1).trans q1
        have p2 : w1.heap[wo.heap.size]? = some (.cells #[.int .i64 xr, .int .i64 xp] 23 (0, 0)) := by rw [← hw1]; exact World.alloc_heap_new _ _
        have a0 := cell_of_heap p0 0
        have a1 := cell_of_heap p0 1
        have b0 := cell_of_heap p2 0
        have b1 := cell_of_heap p2 1
        simp only [List.getElem?_toArray, List.getElem?_cons_zero, List.getElem?_cons_succ] at a0 a1 b0 b1
        have HP : Hid (w1.heap[w.heap.size]? = some (.cells #[.int .i64 tr, .int .i64 tp] 23 (0, 0)) ∧ w1.heap[w.heap.size + 1]? = some (.cells #[.int .i64 0, .int .i64 0] 23 (0, 0)) ∧ w1.heap[wo.heap.size]? = some (.cells #[.int .i64 xr, .int .i64 xp] 23 (0, 0)) ∧ Below w.heap.size w w1 ∧ w.heap.size < w1.heap.size) := Lib.hid ⟨p0, p1, p2, HB.out.trans (hb1.mono HB.out.size), Nat.lt_of_lt_of_le hl0 hb1.size⟩
        clear p0 p1 p2 hb1 q0 q1
        cases hl : lessB tr tp xr xp with
        | true =>
          have hq := (cmpB_gt xr xp tr tp).2 hl
          have hc2 := hC xr xp tr tp w1
          obtain ⟨q, hqe⟩ : ∃ q, cmpB xr xp tr tp = q := ⟨_, rfl⟩
          rw [hqe] at hq hc2
          have HTN : Hid ((xr, xp) = topP (r, p) (xs.take (k + 1))) := Lib.hid (by rw [HTK.out]; unfold gtP; rw [if_pos hl])
          clear hl HTK hqe
          go_wp2_with (go_at_call 11; (with_reducible refine hc2.mono ?_); rintro e w2 ⟨rfl, hb2⟩
                       have m0 := (hb2.block _ (Array.getElem?_eq_some_iff.1 HP.out.1).1).trans HP.out.1
                       have m1 := (hb2.block _ (Array.getElem?_eq_some_iff.1 HP.out.2.1).1).trans HP.out.2.1
                       have m2 := (hb2.block _ (Array.getElem?_eq_some_iff.1 HP.out.2.2.1).1).trans HP.out.2.2.1
                       have c0 := cell_of_heap m0 0
                       have c1 := cell_of_heap m0 1
                       have e0 := cell_of_heap m2 0
                       have e1 := cell_of_heap m2 1
                       have f0 := frozen_of_heap m0 0
                       have f1 := frozen_of_heap m0 1
                       simp only [List.getElem?_toArray, List.getElem?_cons_zero, List.getElem?_cons_succ] at c0 c1 e0 e1
                       have HB2 : Hid (Below w.heap.size w w2) := Lib.hid (HP.out.2.2.2.1.trans (hb2.mono (Nat.le_of_lt HP.out.2.2.2.2)))
                       have HM0 := Lib.hid m0
                       have HM1 := Lib.hid m1
                       clear hb2 m0 m1 m2)
          have HN0 : Hid (∃ t : Int × Int, t = topP (r, p) (xs.take (k + 1)) ∧ ((w2.setCell ⟨w.heap.size, 0, none⟩ (.int .i64 xr)).setCell ⟨w.heap.size, 1, none⟩ (.int .i64 xp)).heap[K]? = some (.cells #[.int .i64 t.1, .int .i64 t.2] 23 (0, 0)) ∧ ((w2.setCell ⟨w.heap.size, 0, none⟩ (.int .i64 xr)).setCell ⟨w.heap.size, 1, none⟩ (.int .i64 xp)).heap[K + 1]? = some (.cells #[.int .i64 0, .int .i64 0] 23 (0, 0)) ∧ Below w.heap.size w ((w2.setCell ⟨w.heap.size, 0, none⟩ (.int .i64 xr)).setCell ⟨w.heap.size, 1, none⟩ (.int .i64 xp))) := by
            refine Lib.hid ⟨(xr, xp), HTN.out, ?_, ?_, (HB2.out.setCell (p := ⟨w.heap.size, 0, none⟩) (Nat.le_refl _) _).setCell (p := ⟨w.heap.size, 1, none⟩) (Nat.le_refl _) _⟩
            · rw [← HK.out]
              exact heap_setCells (i := 1) (u := .int .i64 xp) (heap_setCells (i := 0) (u := .int .i64 xr) HM0.out)
            · rw [← HK.out]
              exact (heap_setOther (by simp)).trans ((heap_setOther (by simp)).trans HM1.out)
          go_roundw
          case rel => exact ⟨k + 1, by omega, by go_num, HN0⟩
          case measure => simp [RowKit.intOf]; omega
        | false =>
          have hq := mt (cmpB_gt xr xp tr tp).1 (by rw [hl]; simp)
          have hc2 := hC xr xp tr tp w1
          obtain ⟨q, hqe⟩ : ∃ q, cmpB xr xp tr tp = q := ⟨_, rfl⟩
          rw [hqe] at hq hc2
          have HTN : Hid ((tr, tp) = topP (r, p) (xs.take (k + 1))) := Lib.hid (by rw [HTK.out]; unfold gtP; rw [if_neg (by rw [hl]; simp)])
          clear hl HTK hqe
          go_wp2_with (go_at_call 11; (with_reducible refine hc2.mono ?_); rintro e w2 ⟨rfl, hb2⟩
                       have HN0 : Hid (∃ t : Int × Int, t = topP (r, p) (xs.take (k + 1)) ∧ w2.heap[K]? = some (.cells #[.int .i64 t.1, .int .i64 t.2] 23 (0, 0)) ∧ w2.heap[K + 1]? = some (.cells #[.int .i64 0, .int .i64 0] 23 (0, 0)) ∧ Below w.heap.size w w2) := Lib.hid ⟨(tr, tp), HTN.out, by rw [← HK.out]; exact (hb2.block _ (Array.getElem?_eq_some_iff.1 HP.out.1).1).trans HP.out.1, by rw [← HK.out]; exact (hb2.block _ (Array.getElem?_eq_some_iff.1 HP.out.2.1).1).trans HP.out.2.1, HP.out.2.2.2.1.trans (hb2.mono (Nat.le_of_lt HP.out.2.2.2.2))⟩
                       clear hb2)
          go_roundw
          case rel => exact ⟨k + 1, by omega, by go_num, HN0⟩
          case measure => simp [RowKit.intOf]; omega
    · obtain rfl : k = n := by omega
      have h1 := HT.out
      rw [List.take_of_length_le (by rw [HN.out]; exact Nat.le_refl _)] at h1
      have H1 := Lib.hid h1
      clear h1 HT
      have a0 := cell_of_heap q0 0
      have a1 := cell_of_heap q0 1
      have b0 := cell_of_heap q1 0
      have b1 := cell_of_heap q1 1
      have f0 := frozen_of_heap q1 0
      have f1 := frozen_of_heap q1 1
      simp only [List.getElem?_toArray, List.getElem?_cons_zero, List.getElem?_cons_succ] at a0 a1 b0 b1
      have hz := heap_setCells (i := 1) (u := .int .i64 tp) (heap_setCells (i := 0) (u := .int .i64 tr) q1)
      have HZ := Lib.hid hz
      clear q0 q1 hz
      go_wp2
      have z0 := cell_of_heap HZ.out 0
      have z1 := cell_of_heap HZ.out 1
      simp at z0 z1
      refine bodyPost_ret (v := .agg #[.int .i64 tr, .int .i64 tp]) (by simp [results, Try.results44, go_sem, z0, z1]) rfl ⟨by rw [← H1.out], ?_⟩
      exact (HB.out.setCell (p := ⟨w.heap.size + 1, 0, none⟩) (Nat.le_succ _) _).setCell (p := ⟨w.heap.size + 1, 1, none⟩) (Nat.le_succ _) _
end Go.Proofs
