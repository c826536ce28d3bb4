/-
  acceptor: the walk of AcceptorCopies. Conditions: as the theorem names them.
-/
import Derived.Test.YtamlacofmihldaaGreatDoorAcZ
namespace Go.Proofs
open Go Go.RowKit Sm Go.Lib
attribute [local go_sem] Oper.semAt_some
theorem Sm.sameM_comm (M N : AcM) : sameM M N = sameM N M := by
  cases h : sameM N M with
  | true => exact sameM_eq.2 (sameM_eq.1 h).symm
  | false =>
    cases h2 : sameM M N with
    | false => rfl
    | true => rw [sameM_eq.2 (sameM_eq.1 h2).symm] at h; exact h
theorem Sm.two_new (w : World) (a b : Obj) : ∃ w2, (w.alloc a).alloc b = w2 ∧ w2.heap[w.heap.size]? = some a ∧ w2.heap[w.heap.size + 1]? = some b ∧ Below w.heap.size w w2 ∧ w.heap.size + 2 ≤ w2.heap.size := by
  refine ⟨_, rfl, ?_, ?_, ?_, ?_⟩
  · exact (Below.heap_alloc _ _ _ (by simp)).trans (World.alloc_heap_new w a)
  · have := World.alloc_heap_new (w.alloc a) b
    rwa [World.size_alloc] at this
  · exact ((Below.refl _ w).alloc (Nat.le_refl _) _).alloc (by simp) _
  · simp
theorem Sm.cell10 {w : World} {b : Nat} {a : Addr} {x : Option Value} (h : w.cell? a = x) (hn : a.block ≠ b) (u0 u1 u2 u3 u4 u5 u6 u7 u8 u9 : Value) : ((((((((((w.setCell ⟨b, 0, none⟩ u0).setCell ⟨b, 1, none⟩ u1).setCell ⟨b, 2, none⟩ u2).setCell ⟨b, 3, none⟩ u3).setCell ⟨b, 4, none⟩ u4).setCell ⟨b, 5, none⟩ u5).setCell ⟨b, 6, none⟩ u6).setCell ⟨b, 7, none⟩ u7).setCell ⟨b, 8, none⟩ u8).setCell ⟨b, 9, none⟩ u9).cell? a = x := (World.cell?_of_block (other10 (b := b) rfl hn u0 u1 u2 u3 u4 u5 u6 u7 u8 u9)).trans h
/-- two calls in a row just made -/
theorem Sm.RdX.of_two {w : World} {g : Nat} {x y : XV} {t : TypeId} (h : w.heap[g]? = some (.cells #[.int .i64 x.x, .int .i64 x.r, .int .i64 x.q, .int .i64 x.k, .int .i64 x.m, .int .i64 x.n, .string x.t, .int .i64 y.x, .int .i64 y.r, .int .i64 y.q, .int .i64 y.k, .int .i64 y.m, .int .i64 y.n, .string y.t] t (0, 0))) : RdX w (some ⟨g, 0, none⟩) [x, y] := fun _ => by
  have hl := (Array.getElem?_eq_some_iff.1 h).1
  refine ⟨g, 0, rfl, hl, fun j z hj i v hi => ?_⟩
  rw [cell_of_heap h]
  match j, hj with
  | 0, hj =>
    obtain rfl : x = z := by simpa using hj
    match i, hi with
    | 0, hi => simpa [XV.cells] using hi
    | 1, hi => simpa [XV.cells] using hi
    | 2, hi => simpa [XV.cells] using hi
    | 3, hi => simpa [XV.cells] using hi
    | 4, hi => simpa [XV.cells] using hi
    | 5, hi => simpa [XV.cells] using hi
    | 6, hi => simpa [XV.cells] using hi
    | i + 7, hi => simp [XV.cells] at hi
  | 1, hj =>
    obtain rfl : y = z := by simpa using hj
    match i, hi with
    | 0, hi => simpa [XV.cells] using hi
    | 1, hi => simpa [XV.cells] using hi
    | 2, hi => simpa [XV.cells] using hi
    | 3, hi => simpa [XV.cells] using hi
    | 4, hi => simpa [XV.cells] using hi
    | 5, hi => simpa [XV.cells] using hi
    | 6, hi => simpa [XV.cells] using hi
    | i + 7, hi => simp [XV.cells] at hi
  | j + 2, hj => simp at hj
set_option maxRecDepth 100000 in
set_option maxHeartbeats 4000000 in
theorem Sm.copies_many (c s : Int) (A : Option Addr) (n cap : Nat) (xs : List XV) (x y : XV) (w : World) (hn : xs.length = n) (hnc : n ≤ cap) (hc9 : cap ≤ 9223372036854775807) (hx : RdX w A xs) (hcm : ∀ y ∈ xs, XV.came y) (_hcx : x.came) (_hcy : y.came) (hL : LaysT w) (hf : fewB xs 20 = false) :
    Calls Tryz.prog 5 #[.int .i64 c, .int .i64 s, .slice A n cap, .agg #[.int .i64 x.x, .int .i64 x.r, .int .i64 x.q, .int .i64 x.k, .int .i64 x.m, .int .i64 x.n, .string x.t], .agg #[.int .i64 y.x, .int .i64 y.r, .int .i64 y.q, .int .i64 y.k, .int .i64 y.m, .int .i64 y.n, .string y.t]] w fun e w' => e = .returned (.bool true) ∧ Below w.heap.size w w' := by
  obtain ⟨w2, hw2, kx, ky, hb2, hz2⟩ := two_new w (.cells #[.int .i64 x.x, .int .i64 x.r, .int .i64 x.q, .int .i64 x.k, .int .i64 x.m, .int .i64 x.n, .string x.t] 58) (.cells #[.int .i64 y.x, .int .i64 y.r, .int .i64 y.q, .int .i64 y.k, .int .i64 y.m, .int .i64 y.n, .string y.t] 58)
  have hs0 := hL.size
  have hx2 := hx.keep hb2
  have hL2 := hL.keep hb2
  obtain ⟨NV, nv, HN9⟩ : ∃ (M0 : AcM) (nv : Int), Hid (∀ W, Calls Tryz.prog 9 #[.int .i64 c, .int .i64 s] W fun e w' => e = .returned (.tuple #[.agg #[.int .i64 M0.c, .int .i64 M0.s, .int .i64 M0.pr, .int .i64 M0.pp, .int .i64 M0.ar, .int .i64 M0.ap, .int .i64 M0.k, .int .i64 M0.m, .int .i64 M0.n, .string M0.t], .int .i64 nv]) ∧ Below W.heap.size W w') ∧ ((nv != 0) = !(chB c && slB s)) ∧ (chB c = true → slB s = true → M0 = newM c s ∧ nv = 0) := by
    cases hc : chB c with
    | false => exact ⟨zeroM, 2, Lib.hid fun W => rNew_arg c s W hc, rfl, fun e => by cases e⟩
    | true =>
      cases hs : slB s with
      | false => exact ⟨zeroM, 4, Lib.hid fun W => rNew_range c s W hc hs, rfl, fun _ e => by cases e⟩
      | true => exact ⟨newM c s, 0, Lib.hid fun W => rNew_yes c s W hc hs, rfl, fun _ _ => ⟨rfl, rfl⟩⟩
  obtain ⟨HN9, hnv, hval⟩ := HN9
  have HVAL := Lib.hid hval
  clear hval
  go_enter Tryz.func5, Tryz.ntmps5
  go_upto_region 2 with (go_at_call 9; (with_reducible refine (HN9.out _).mono ?_); clear HN9; rintro e w3 ⟨rfl, hb3⟩)
  have q11 := World.alloc_heap_new w3 (.cells #[.int .i64 NV.c, .int .i64 NV.s, .int .i64 NV.pr, .int .i64 NV.pp, .int .i64 NV.ar, .int .i64 NV.ap, .int .i64 NV.k, .int .i64 NV.m, .int .i64 NV.n, .string NV.t] 38)
  have hb4 := hb3.alloc hb3.size (.cells #[.int .i64 NV.c, .int .i64 NV.s, .int .i64 NV.pr, .int .i64 NV.pp, .int .i64 NV.ar, .int .i64 NV.ap, .int .i64 NV.k, .int .i64 NV.m, .int .i64 NV.n, .string NV.t] 38)
  obtain ⟨w4, hw4⟩ : ∃ v, w3.alloc (.cells #[.int .i64 NV.c, .int .i64 NV.s, .int .i64 NV.pr, .int .i64 NV.pp, .int .i64 NV.ar, .int .i64 NV.ap, .int .i64 NV.k, .int .i64 NV.m, .int .i64 NV.n, .string NV.t] 38) = v := ⟨_, rfl⟩
  rw [hw4] at q11 hb4 ⊢
  have hb24 : w2.heap.size ≤ w3.heap.size := hb3.size
  clear hw4 hb3 hw2
  have hx4 := hx2.keep hb4
  have hf1 := few_any A n cap xs 20 w4 hn hnc hc9 hx4 hcm
  rw [hf] at hf1
  have kx4 := (hb4.block _ (by omega)).trans kx
  have ky4 := (hb4.block _ (by omega)).trans ky
  have hb04 := hb2.trans (hb4.mono hb2.size)
  have hl34 : w3.heap.size < w4.heap.size := (Array.getElem?_eq_some_iff.1 q11).1
  clear kx ky hb2 hb4 hx2
  have HW := Lib.hid (fun W (hb : Below w4.heap.size w4 W) => works_any W ((hL.keep hb04).keep hb))
  clear hx hx4 hn hcm hL hL2 hf HVAL hnv _hcx _hcy
  go_wp2_with (first
    | (go_at_call 6; (with_reducible refine hf1.mono ?_); clear hf1; rintro e w5 ⟨rfl, hb5⟩)
    | (go_at_call 7; (with_reducible refine (HW.out _ hb5).mono ?_); clear HW; rintro e w6 ⟨rfl, hb6⟩))
  go_ret
  exact ⟨rfl, hb04.trans ((hb5.trans (hb6.mono hb5.size)).mono hb04.size)⟩
set_option maxRecDepth 100000 in
set_option maxHeartbeats 4000000 in
theorem Sm.copies_two (c s : Int) (A : Option Addr) (n cap : Nat) (xs : List XV) (x y : XV) (w : World) (hn : xs.length = n) (hnc : n ≤ cap) (hc9 : cap ≤ 9223372036854775807) (hx : RdX w A xs) (hcm : ∀ y ∈ xs, XV.came y) (hcx : x.came) (hcy : y.came) (hL : LaysT w) (hf : fewB xs 20 = true) (hf2 : fewB [x, y] 2 = false) :
    Calls Tryz.prog 5 #[.int .i64 c, .int .i64 s, .slice A n cap, .agg #[.int .i64 x.x, .int .i64 x.r, .int .i64 x.q, .int .i64 x.k, .int .i64 x.m, .int .i64 x.n, .string x.t], .agg #[.int .i64 y.x, .int .i64 y.r, .int .i64 y.q, .int .i64 y.k, .int .i64 y.m, .int .i64 y.n, .string y.t]] w fun e w' => e = .returned (.bool true) ∧ Below w.heap.size w w' := by
  obtain ⟨w2, hw2, kx, ky, hb2, hz2⟩ := two_new w (.cells #[.int .i64 x.x, .int .i64 x.r, .int .i64 x.q, .int .i64 x.k, .int .i64 x.m, .int .i64 x.n, .string x.t] 58) (.cells #[.int .i64 y.x, .int .i64 y.r, .int .i64 y.q, .int .i64 y.k, .int .i64 y.m, .int .i64 y.n, .string y.t] 58)
  have hs0 := hL.size
  have hx2 := hx.keep hb2
  have hL2 := hL.keep hb2
  obtain ⟨NV, nv, HN9⟩ : ∃ (M0 : AcM) (nv : Int), Hid (∀ W, Calls Tryz.prog 9 #[.int .i64 c, .int .i64 s] W fun e w' => e = .returned (.tuple #[.agg #[.int .i64 M0.c, .int .i64 M0.s, .int .i64 M0.pr, .int .i64 M0.pp, .int .i64 M0.ar, .int .i64 M0.ap, .int .i64 M0.k, .int .i64 M0.m, .int .i64 M0.n, .string M0.t], .int .i64 nv]) ∧ Below W.heap.size W w') ∧ ((nv != 0) = !(chB c && slB s)) ∧ (chB c = true → slB s = true → M0 = newM c s ∧ nv = 0) := by
    cases hc : chB c with
    | false => exact ⟨zeroM, 2, Lib.hid fun W => rNew_arg c s W hc, rfl, fun e => by cases e⟩
    | true =>
      cases hs : slB s with
      | false => exact ⟨zeroM, 4, Lib.hid fun W => rNew_range c s W hc hs, rfl, fun _ e => by cases e⟩
      | true => exact ⟨newM c s, 0, Lib.hid fun W => rNew_yes c s W hc hs, rfl, fun _ _ => ⟨rfl, rfl⟩⟩
  obtain ⟨HN9, hnv, hval⟩ := HN9
  have HVAL := Lib.hid hval
  clear hval
  go_enter Tryz.func5, Tryz.ntmps5
  go_upto_region 2 with (go_at_call 9; (with_reducible refine (HN9.out _).mono ?_); clear HN9; rintro e w3 ⟨rfl, hb3⟩)
  have q11 := World.alloc_heap_new w3 (.cells #[.int .i64 NV.c, .int .i64 NV.s, .int .i64 NV.pr, .int .i64 NV.pp, .int .i64 NV.ar, .int .i64 NV.ap, .int .i64 NV.k, .int .i64 NV.m, .int .i64 NV.n, .string NV.t] 38)
  have hb4 := hb3.alloc hb3.size (.cells #[.int .i64 NV.c, .int .i64 NV.s, .int .i64 NV.pr, .int .i64 NV.pp, .int .i64 NV.ar, .int .i64 NV.ap, .int .i64 NV.k, .int .i64 NV.m, .int .i64 NV.n, .string NV.t] 38)
  obtain ⟨w4, hw4⟩ : ∃ v, w3.alloc (.cells #[.int .i64 NV.c, .int .i64 NV.s, .int .i64 NV.pr, .int .i64 NV.pp, .int .i64 NV.ar, .int .i64 NV.ap, .int .i64 NV.k, .int .i64 NV.m, .int .i64 NV.n, .string NV.t] 38) = v := ⟨_, rfl⟩
  rw [hw4] at q11 hb4 ⊢
  have hb24 : w2.heap.size ≤ w3.heap.size := hb3.size
  clear hw4 hb3 hw2
  have hx4 := hx2.keep hb4
  have hf1 := few_any A n cap xs 20 w4 hn hnc hc9 hx4 hcm
  rw [hf] at hf1
  have kx4 := (hb4.block _ (by omega)).trans kx
  have ky4 := (hb4.block _ (by omega)).trans ky
  have hb04 := hb2.trans (hb4.mono hb2.size)
  have hl34 : w3.heap.size < w4.heap.size := (Array.getElem?_eq_some_iff.1 q11).1
  clear kx ky hb2 hb4 hx2
  have HF2 : Hid (∀ W, Below w4.heap.size w4 W → Calls Tryz.prog 6 #[.slice (some ⟨W.heap.size, 0, none⟩) 2 2, .int .i64 2] (W.alloc (.cells #[.int .i64 x.x, .int .i64 x.r, .int .i64 x.q, .int .i64 x.k, .int .i64 x.m, .int .i64 x.n, .string x.t, .int .i64 y.x, .int .i64 y.r, .int .i64 y.q, .int .i64 y.k, .int .i64 y.m, .int .i64 y.n, .string y.t] 58)) fun e w' => e = .returned (.bool false) ∧ Below w4.heap.size w4 w') := Lib.hid fun W hb => by
    have h := few_any (some ⟨W.heap.size, 0, none⟩) 2 2 [x, y] 2 (W.alloc (.cells #[.int .i64 x.x, .int .i64 x.r, .int .i64 x.q, .int .i64 x.k, .int .i64 x.m, .int .i64 x.n, .string x.t, .int .i64 y.x, .int .i64 y.r, .int .i64 y.q, .int .i64 y.k, .int .i64 y.m, .int .i64 y.n, .string y.t] 58)) rfl (Nat.le_refl _) (by omega) (RdX.of_two (World.alloc_heap_new W _)) (by intro z hz; rcases List.mem_cons.1 hz with rfl | hz; exact hcx; rw [List.mem_singleton.1 hz]; exact hcy)
    rw [hf2] at h
    exact h.mono fun e w' ⟨h1, h2⟩ => ⟨h1, (hb.alloc hb.size _).trans (h2.mono (hb.alloc hb.size _).size)⟩
  have HK4 : Hid (∀ W, Below w4.heap.size w4 W → W.heap[w.heap.size]? = some (.cells #[.int .i64 x.x, .int .i64 x.r, .int .i64 x.q, .int .i64 x.k, .int .i64 x.m, .int .i64 x.n, .string x.t] 58 (0, 0)) ∧ W.heap[w.heap.size + 1]? = some (.cells #[.int .i64 y.x, .int .i64 y.r, .int .i64 y.q, .int .i64 y.k, .int .i64 y.m, .int .i64 y.n, .string y.t] 58 (0, 0)) ∧ W.heap[w3.heap.size]? = some (.cells #[.int .i64 NV.c, .int .i64 NV.s, .int .i64 NV.pr, .int .i64 NV.pp, .int .i64 NV.ar, .int .i64 NV.ap, .int .i64 NV.k, .int .i64 NV.m, .int .i64 NV.n, .string NV.t] 38 (0, 0))) := Lib.hid fun W hb =>
    ⟨(hb.block _ (by omega)).trans kx4, (hb.block _ (by omega)).trans ky4, (hb.block _ hl34).trans q11⟩
  clear kx4 ky4 q11 hx4 hL2
  have HW := Lib.hid (fun W (hb : Below w4.heap.size w4 W) => works_any W ((hL.keep hb04).keep hb))
  clear hx hn hcm hL hf hf2 HVAL hnv hcx hcy
  go_wp2_with (first
    | (go_at_call 6; (with_reducible refine hf1.mono ?_); clear hf1; rintro e w5 ⟨rfl, hb5⟩; obtain ⟨x0, x1, x2, x3, x4, x5, x6⟩ := seven (HK4.out _ hb5).1; obtain ⟨y0, y1, y2, y3, y4, y5, y6⟩ := seven (HK4.out _ hb5).2.1)
    | (go_at_call 6; (with_reducible refine (HF2.out _ hb5).mono ?_); clear HF2 x0 x1 x2 x3 x4 x5 x6 y0 y1 y2 y3 y4 y5 y6; rintro e w7 ⟨rfl, hb7⟩)
    | (go_at_call 7; (with_reducible refine (HW.out _ hb7).mono ?_); clear HW; rintro e w6 ⟨rfl, hb6⟩))
  go_ret
  exact ⟨rfl, hb04.trans ((hb7.trans (hb6.mono hb7.size)).mono hb04.size)⟩
set_option maxRecDepth 100000 in
set_option maxHeartbeats 4000000 in
theorem Sm.copies_err (c s : Int) (A : Option Addr) (n cap : Nat) (xs : List XV) (x y : XV) (w : World) (hn : xs.length = n) (hnc : n ≤ cap) (hc9 : cap ≤ 9223372036854775807) (hx : RdX w A xs) (hcm : ∀ y ∈ xs, XV.came y) (hcx : x.came) (hcy : y.came) (hL : LaysT w) (hf : fewB xs 20 = true) (hf2 : fewB [x, y] 2 = true) (hv : (chB c && slB s) = false) :
    Calls Tryz.prog 5 #[.int .i64 c, .int .i64 s, .slice A n cap, .agg #[.int .i64 x.x, .int .i64 x.r, .int .i64 x.q, .int .i64 x.k, .int .i64 x.m, .int .i64 x.n, .string x.t], .agg #[.int .i64 y.x, .int .i64 y.r, .int .i64 y.q, .int .i64 y.k, .int .i64 y.m, .int .i64 y.n, .string y.t]] w fun e w' => e = .returned (.bool true) ∧ Below w.heap.size w w' := by
  obtain ⟨w2, hw2, kx, ky, hb2, hz2⟩ := two_new w (.cells #[.int .i64 x.x, .int .i64 x.r, .int .i64 x.q, .int .i64 x.k, .int .i64 x.m, .int .i64 x.n, .string x.t] 58) (.cells #[.int .i64 y.x, .int .i64 y.r, .int .i64 y.q, .int .i64 y.k, .int .i64 y.m, .int .i64 y.n, .string y.t] 58)
  have hs0 := hL.size
  have hx2 := hx.keep hb2
  have hL2 := hL.keep hb2
  obtain ⟨NV, nv, HN9⟩ : ∃ (M0 : AcM) (nv : Int), Hid (∀ W, Calls Tryz.prog 9 #[.int .i64 c, .int .i64 s] W fun e w' => e = .returned (.tuple #[.agg #[.int .i64 M0.c, .int .i64 M0.s, .int .i64 M0.pr, .int .i64 M0.pp, .int .i64 M0.ar, .int .i64 M0.ap, .int .i64 M0.k, .int .i64 M0.m, .int .i64 M0.n, .string M0.t], .int .i64 nv]) ∧ Below W.heap.size W w') ∧ ((nv != 0) = !(chB c && slB s)) ∧ (chB c = true → slB s = true → M0 = newM c s ∧ nv = 0) := by
    cases hc : chB c with
    | false => exact ⟨zeroM, 2, Lib.hid fun W => rNew_arg c s W hc, rfl, fun e => by cases e⟩
    | true =>
      cases hs : slB s with
      | false => exact ⟨zeroM, 4, Lib.hid fun W => rNew_range c s W hc hs, rfl, fun _ e => by cases e⟩
      | true => exact ⟨newM c s, 0, Lib.hid fun W => rNew_yes c s W hc hs, rfl, fun _ _ => ⟨rfl, rfl⟩⟩
  obtain ⟨HN9, hnv, hval⟩ := HN9
  have HVAL := Lib.hid hval
  clear hval
  go_enter Tryz.func5, Tryz.ntmps5
  go_upto_region 2 with (go_at_call 9; (with_reducible refine (HN9.out _).mono ?_); clear HN9; rintro e w3 ⟨rfl, hb3⟩)
  have q11 := World.alloc_heap_new w3 (.cells #[.int .i64 NV.c, .int .i64 NV.s, .int .i64 NV.pr, .int .i64 NV.pp, .int .i64 NV.ar, .int .i64 NV.ap, .int .i64 NV.k, .int .i64 NV.m, .int .i64 NV.n, .string NV.t] 38)
  have hb4 := hb3.alloc hb3.size (.cells #[.int .i64 NV.c, .int .i64 NV.s, .int .i64 NV.pr, .int .i64 NV.pp, .int .i64 NV.ar, .int .i64 NV.ap, .int .i64 NV.k, .int .i64 NV.m, .int .i64 NV.n, .string NV.t] 38)
  obtain ⟨w4, hw4⟩ : ∃ v, w3.alloc (.cells #[.int .i64 NV.c, .int .i64 NV.s, .int .i64 NV.pr, .int .i64 NV.pp, .int .i64 NV.ar, .int .i64 NV.ap, .int .i64 NV.k, .int .i64 NV.m, .int .i64 NV.n, .string NV.t] 38) = v := ⟨_, rfl⟩
  rw [hw4] at q11 hb4 ⊢
  have hb24 : w2.heap.size ≤ w3.heap.size := hb3.size
  clear hw4 hb3 hw2
  have hx4 := hx2.keep hb4
  have hf1 := few_any A n cap xs 20 w4 hn hnc hc9 hx4 hcm
  rw [hf] at hf1
  have kx4 := (hb4.block _ (by omega)).trans kx
  have ky4 := (hb4.block _ (by omega)).trans ky
  have hb04 := hb2.trans (hb4.mono hb2.size)
  have hl34 : w3.heap.size < w4.heap.size := (Array.getElem?_eq_some_iff.1 q11).1
  clear kx ky hb2 hb4 hx2
  have HF2 : Hid (∀ W, Below w4.heap.size w4 W → Calls Tryz.prog 6 #[.slice (some ⟨W.heap.size, 0, none⟩) 2 2, .int .i64 2] (W.alloc (.cells #[.int .i64 x.x, .int .i64 x.r, .int .i64 x.q, .int .i64 x.k, .int .i64 x.m, .int .i64 x.n, .string x.t, .int .i64 y.x, .int .i64 y.r, .int .i64 y.q, .int .i64 y.k, .int .i64 y.m, .int .i64 y.n, .string y.t] 58)) fun e w' => e = .returned (.bool true) ∧ Below w4.heap.size w4 w') := Lib.hid fun W hb => by
    have h := few_any (some ⟨W.heap.size, 0, none⟩) 2 2 [x, y] 2 (W.alloc (.cells #[.int .i64 x.x, .int .i64 x.r, .int .i64 x.q, .int .i64 x.k, .int .i64 x.m, .int .i64 x.n, .string x.t, .int .i64 y.x, .int .i64 y.r, .int .i64 y.q, .int .i64 y.k, .int .i64 y.m, .int .i64 y.n, .string y.t] 58)) rfl (Nat.le_refl _) (by omega) (RdX.of_two (World.alloc_heap_new W _)) (by intro z hz; rcases List.mem_cons.1 hz with rfl | hz; exact hcx; rw [List.mem_singleton.1 hz]; exact hcy)
    rw [hf2] at h
    exact h.mono fun e w' ⟨h1, h2⟩ => ⟨h1, (hb.alloc hb.size _).trans (h2.mono (hb.alloc hb.size _).size)⟩
  have HK4 : Hid (∀ W, Below w4.heap.size w4 W → W.heap[w.heap.size]? = some (.cells #[.int .i64 x.x, .int .i64 x.r, .int .i64 x.q, .int .i64 x.k, .int .i64 x.m, .int .i64 x.n, .string x.t] 58 (0, 0)) ∧ W.heap[w.heap.size + 1]? = some (.cells #[.int .i64 y.x, .int .i64 y.r, .int .i64 y.q, .int .i64 y.k, .int .i64 y.m, .int .i64 y.n, .string y.t] 58 (0, 0)) ∧ W.heap[w3.heap.size]? = some (.cells #[.int .i64 NV.c, .int .i64 NV.s, .int .i64 NV.pr, .int .i64 NV.pp, .int .i64 NV.ar, .int .i64 NV.ap, .int .i64 NV.k, .int .i64 NV.m, .int .i64 NV.n, .string NV.t] 38 (0, 0))) := Lib.hid fun W hb =>
    ⟨(hb.block _ (by omega)).trans kx4, (hb.block _ (by omega)).trans ky4, (hb.block _ hl34).trans q11⟩
  clear kx4 ky4 q11 hx4 hL2
  have HW := Lib.hid (fun W (hb : Below w4.heap.size w4 W) => works_any W ((hL.keep hb04).keep hb))
  rw [hv] at hnv
  simp only [Bool.not_false] at hnv
  clear hx hn hcm hL hf hf2 HVAL hcx hcy hv
  go_wp2_with (first
    | (go_at_call 6; (with_reducible refine hf1.mono ?_); clear hf1; rintro e w5 ⟨rfl, hb5⟩; obtain ⟨x0, x1, x2, x3, x4, x5, x6⟩ := seven (HK4.out _ hb5).1; obtain ⟨y0, y1, y2, y3, y4, y5, y6⟩ := seven (HK4.out _ hb5).2.1)
    | (go_at_call 6; (with_reducible refine (HF2.out _ hb5).mono ?_); clear HF2 x0 x1 x2 x3 x4 x5 x6 y0 y1 y2 y3 y4 y5 y6; rintro e w7 ⟨rfl, hb7⟩)
    | (go_at_call 7; (with_reducible refine (HW.out _ hb7).mono ?_); clear HW; rintro e w6 ⟨rfl, hb6⟩))
  go_ret
  exact ⟨rfl, hb04.trans ((hb7.trans (hb6.mono hb7.size)).mono hb04.size)⟩
/-- what holds from round to round -/
structure Sm.LpC (w : World) (p b9 : Nat) (x y : XV) (M : AcM) (wr : World) : Prop where
  at_ : AAt wr p M
  doc : wr.heap[b9]? = some (.cells #[.int .i64 M.c, .int .i64 M.s, .int .i64 M.pr, .int .i64 M.pp, .int .i64 M.ar, .int .i64 M.ap, .int .i64 M.k, .int .i64 M.m, .int .i64 M.n, .string M.t] 38 (0, 0))
  bx : wr.heap[w.heap.size]? = some (.cells #[.int .i64 x.x, .int .i64 x.r, .int .i64 x.q, .int .i64 x.k, .int .i64 x.m, .int .i64 x.n, .string x.t] 58 (0, 0))
  by_ : wr.heap[w.heap.size + 1]? = some (.cells #[.int .i64 y.x, .int .i64 y.r, .int .i64 y.q, .int .i64 y.k, .int .i64 y.m, .int .i64 y.n, .string y.t] 58 (0, 0))
  below : Below w.heap.size w wr
set_option maxRecDepth 100000 in
set_option maxHeartbeats 4000000 in
theorem Sm.copies_good (c s : Int) (A : Option Addr) (n cap : Nat) (xs : List XV) (x y : XV) (w : World) (hn : xs.length = n) (hnc : n ≤ cap) (hc9 : cap ≤ 9223372036854775807) (hx : RdX w A xs) (hcm : ∀ y ∈ xs, XV.came y) (hcx : x.came) (hcy : y.came) (hL : LaysT w) (hf : fewB xs 20 = true) (hf2 : fewB [x, y] 2 = true) (hc : chB c = true) (hs : slB s = true) :
    Calls Tryz.prog 5 #[.int .i64 c, .int .i64 s, .slice A n cap, .agg #[.int .i64 x.x, .int .i64 x.r, .int .i64 x.q, .int .i64 x.k, .int .i64 x.m, .int .i64 x.n, .string x.t], .agg #[.int .i64 y.x, .int .i64 y.r, .int .i64 y.q, .int .i64 y.k, .int .i64 y.m, .int .i64 y.n, .string y.t]] w fun e w' => e = .returned (.bool true) ∧ Below w.heap.size w w' := by
  obtain ⟨w2, hw2, kx, ky, hb2, hz2⟩ := two_new w (.cells #[.int .i64 x.x, .int .i64 x.r, .int .i64 x.q, .int .i64 x.k, .int .i64 x.m, .int .i64 x.n, .string x.t] 58) (.cells #[.int .i64 y.x, .int .i64 y.r, .int .i64 y.q, .int .i64 y.k, .int .i64 y.m, .int .i64 y.n, .string y.t] 58)
  have hs0 := hL.size
  have hx2 := hx.keep hb2
  have hL2 := hL.keep hb2
  obtain ⟨NV, nv, HN9⟩ : ∃ (M0 : AcM) (nv : Int), Hid (∀ W, Calls Tryz.prog 9 #[.int .i64 c, .int .i64 s] W fun e w' => e = .returned (.tuple #[.agg #[.int .i64 M0.c, .int .i64 M0.s, .int .i64 M0.pr, .int .i64 M0.pp, .int .i64 M0.ar, .int .i64 M0.ap, .int .i64 M0.k, .int .i64 M0.m, .int .i64 M0.n, .string M0.t], .int .i64 nv]) ∧ Below W.heap.size W w') ∧ ((nv != 0) = !(chB c && slB s)) ∧ (chB c = true → slB s = true → M0 = newM c s ∧ nv = 0) := by
    cases hc : chB c with
    | false => exact ⟨zeroM, 2, Lib.hid fun W => rNew_arg c s W hc, rfl, fun e => by cases e⟩
    | true =>
      cases hs : slB s with
      | false => exact ⟨zeroM, 4, Lib.hid fun W => rNew_range c s W hc hs, rfl, fun _ e => by cases e⟩
      | true => exact ⟨newM c s, 0, Lib.hid fun W => rNew_yes c s W hc hs, rfl, fun _ _ => ⟨rfl, rfl⟩⟩
  obtain ⟨HN9, hnv, hval⟩ := HN9
  have HVAL := Lib.hid hval
  clear hval
  go_enter Tryz.func5, Tryz.ntmps5
  go_upto_region 2 with (go_at_call 9; (with_reducible refine (HN9.out _).mono ?_); clear HN9; rintro e w3 ⟨rfl, hb3⟩)
  have q11 := World.alloc_heap_new w3 (.cells #[.int .i64 NV.c, .int .i64 NV.s, .int .i64 NV.pr, .int .i64 NV.pp, .int .i64 NV.ar, .int .i64 NV.ap, .int .i64 NV.k, .int .i64 NV.m, .int .i64 NV.n, .string NV.t] 38)
  have hb4 := hb3.alloc hb3.size (.cells #[.int .i64 NV.c, .int .i64 NV.s, .int .i64 NV.pr, .int .i64 NV.pp, .int .i64 NV.ar, .int .i64 NV.ap, .int .i64 NV.k, .int .i64 NV.m, .int .i64 NV.n, .string NV.t] 38)
  obtain ⟨w4, hw4⟩ : ∃ v, w3.alloc (.cells #[.int .i64 NV.c, .int .i64 NV.s, .int .i64 NV.pr, .int .i64 NV.pp, .int .i64 NV.ar, .int .i64 NV.ap, .int .i64 NV.k, .int .i64 NV.m, .int .i64 NV.n, .string NV.t] 38) = v := ⟨_, rfl⟩
  rw [hw4] at q11 hb4 ⊢
  have hb24 : w2.heap.size ≤ w3.heap.size := hb3.size
  clear hw4 hb3 hw2
  have hx4 := hx2.keep hb4
  have hf1 := few_any A n cap xs 20 w4 hn hnc hc9 hx4 hcm
  rw [hf] at hf1
  have kx4 := (hb4.block _ (by omega)).trans kx
  have ky4 := (hb4.block _ (by omega)).trans ky
  have hb04 := hb2.trans (hb4.mono hb2.size)
  have hl34 : w3.heap.size < w4.heap.size := (Array.getElem?_eq_some_iff.1 q11).1
  clear kx ky hb2 hb4 hx2
  have HF2 : Hid (∀ W, Below w4.heap.size w4 W → Calls Tryz.prog 6 #[.slice (some ⟨W.heap.size, 0, none⟩) 2 2, .int .i64 2] (W.alloc (.cells #[.int .i64 x.x, .int .i64 x.r, .int .i64 x.q, .int .i64 x.k, .int .i64 x.m, .int .i64 x.n, .string x.t, .int .i64 y.x, .int .i64 y.r, .int .i64 y.q, .int .i64 y.k, .int .i64 y.m, .int .i64 y.n, .string y.t] 58)) fun e w' => e = .returned (.bool true) ∧ Below w4.heap.size w4 w') := Lib.hid fun W hb => by
    have h := few_any (some ⟨W.heap.size, 0, none⟩) 2 2 [x, y] 2 (W.alloc (.cells #[.int .i64 x.x, .int .i64 x.r, .int .i64 x.q, .int .i64 x.k, .int .i64 x.m, .int .i64 x.n, .string x.t, .int .i64 y.x, .int .i64 y.r, .int .i64 y.q, .int .i64 y.k, .int .i64 y.m, .int .i64 y.n, .string y.t] 58)) rfl (Nat.le_refl _) (by omega) (RdX.of_two (World.alloc_heap_new W _)) (by intro z hz; rcases List.mem_cons.1 hz with rfl | hz; exact hcx; rw [List.mem_singleton.1 hz]; exact hcy)
    rw [hf2] at h
    exact h.mono fun e w' ⟨h1, h2⟩ => ⟨h1, (hb.alloc hb.size _).trans (h2.mono (hb.alloc hb.size _).size)⟩
  have HK4 : Hid (∀ W, Below w4.heap.size w4 W → W.heap[w.heap.size]? = some (.cells #[.int .i64 x.x, .int .i64 x.r, .int .i64 x.q, .int .i64 x.k, .int .i64 x.m, .int .i64 x.n, .string x.t] 58 (0, 0)) ∧ W.heap[w.heap.size + 1]? = some (.cells #[.int .i64 y.x, .int .i64 y.r, .int .i64 y.q, .int .i64 y.k, .int .i64 y.m, .int .i64 y.n, .string y.t] 58 (0, 0)) ∧ W.heap[w3.heap.size]? = some (.cells #[.int .i64 NV.c, .int .i64 NV.s, .int .i64 NV.pr, .int .i64 NV.pp, .int .i64 NV.ar, .int .i64 NV.ap, .int .i64 NV.k, .int .i64 NV.m, .int .i64 NV.n, .string NV.t] 38 (0, 0))) := Lib.hid fun W hb =>
    ⟨(hb.block _ (by omega)).trans kx4, (hb.block _ (by omega)).trans ky4, (hb.block _ hl34).trans q11⟩
  clear kx4 ky4 q11 hx4 hL2
  obtain ⟨hsm, hmost⟩ := few_small hf
  obtain ⟨hsm2, _⟩ := few_small hf2
  have hxs : x.t.size ≤ 300 := hsm2 x (by simp)
  have hys : y.t.size ≤ 300 := hsm2 y (by simp)
  obtain ⟨hM0, hnv0⟩ := HVAL.out hc hs
  have HNW := Lib.hid (fun W => new_yes c s W hc hs)
  have hok := okNew c s
  rw [← hM0] at HNW hok
  subst hnv0
  have hc0 := chB_ne hc
  have hn20 : n ≤ 20 := by omega
  have HX := Lib.hid hx
  have HN := Lib.hid hn
  have HCM := Lib.hid hcm
  have HSM := Lib.hid hsm
  have HL := Lib.hid hL
  have HOK := Lib.hid hok
  clear hx hn hcm hL hf hf2 HVAL hM0 hc hs hsm hmost hsm2 hok hnv
  go_upto_region 4 with (first
    | (go_at_call 6; (with_reducible refine hf1.mono ?_); clear hf1; rintro e w5 ⟨rfl, hb5⟩; obtain ⟨x0, x1, x2, x3, x4, x5, x6⟩ := seven (HK4.out _ hb5).1; obtain ⟨y0, y1, y2, y3, y4, y5, y6⟩ := seven (HK4.out _ hb5).2.1)
    | (go_at_call 6; (with_reducible refine (HF2.out _ hb5).mono ?_); clear HF2 x0 x1 x2 x3 x4 x5 x6 y0 y1 y2 y3 y4 y5 y6; rintro e w7 ⟨rfl, hb7⟩))
  have hb07 := hb04.trans (hb7.mono hb04.size)
  have hs7 := hb7.size
  go_upto_region 5 with (go_at_call 8; (with_reducible refine (HNW.out _).mono ?_); clear HNW; rintro e w8 ⟨p, rfl, hp, hA8, hb8⟩)
  have hpw : w.heap.size ≤ p := by have := hb07.size; omega
  have hp9 : w3.heap.size < p := by omega
  have hww3 : w.heap.size ≤ w3.heap.size := by omega
  have hLp0 : LpC w p w3.heap.size x y NV w8 := ⟨hA8, (HK4.out _ (hb7.trans (hb8.mono hb7.size))).2.2, (HK4.out _ (hb7.trans (hb8.mono hb7.size))).1, (HK4.out _ (hb7.trans (hb8.mono hb7.size))).2.1, hb07.trans (hb8.mono hb07.size)⟩
  have HLp0 := Lib.hid hLp0
  have hw2s : w.heap.size + 2 ≤ w3.heap.size := by omega
  clear hA8 hb8 hb7 hb07 HK4 hLp0 hb04
  go_wp2
  go_loopw [15] (fun v15 wr => ∃ k : Nat, k ≤ n ∧ v15 = .int .i64 (k : Int) ∧ Hid (LpC w p w3.heap.size x y (playM NV (xs.take k)) wr)) (fun v15 _ => n - (RowKit.intOf v15).toNat)
  case atStart => exact ⟨0, Nat.zero_le _, rfl, HLp0⟩
  case round =>
    obtain ⟨k, hk, rfl, HLP⟩ := hrel
    have hcr := HLP.out.below
    have hokk : OkM c s (playM NV (xs.take k)) := HOK.out.play _ (fun y hy => HSM.out y (List.mem_of_mem_take hy))
    obtain ⟨M, hM⟩ : ∃ M, playM NV (xs.take k) = M := ⟨_, rfl⟩
    rw [hM] at HLP hokk
    have HOKK := Lib.hid hokk
    have HCR := Lib.hid hcr
    have hLr : LaysT wr := HL.out.keep HCR.out
    clear hokk hcr
    obtain ⟨⟨d0, d1, d2, d3, d4, d5, d6, d7, d8, d9⟩, ⟨f0, f1, f2, f3, f4, f5, f6, f7, f8, f9⟩⟩ := ten HLP.out.doc
    have hl9 : w3.heap.size < wr.heap.size := (Array.getElem?_eq_some_iff.1 HLP.out.doc).1
    by_cases hlt : k < n
    · have hkx : k < xs.length := by rw [HN.out]; exact hlt
      have hst := take_play NV hkx
      rw [hM] at hst
      have HST := Lib.hid hst
      obtain ⟨b, off, rfl, hbl, hcl⟩ := HX.out.one hkx
      obtain ⟨z, hz⟩ : ∃ z, xs[k] = z := ⟨_, rfl⟩
      have hzc : z.came := by rw [← hz]; exact HCM.out _ (List.getElem_mem hkx)
      have hzs : z.t.size ≤ 300 := by rw [← hz]; exact HSM.out _ (List.getElem_mem hkx)
      rw [hz] at hcl HST
      obtain ⟨x0, x1, x2, x3, x4, x5, x6⟩ := hcl wr HCR.out
      have HCL := Lib.hid hcl
      clear hst hcl hz hM
      have hact : ∀ W, AAt W p M → LaysT W → Calls Tryz.prog 17 #[.pointer (some ⟨p, 0, none⟩), .agg #[.int .i64 M.c, .int .i64 M.s, .int .i64 M.pr, .int .i64 M.pp, .int .i64 M.ar, .int .i64 M.ap, .int .i64 M.k, .int .i64 M.m, .int .i64 M.n, .string M.t], .agg #[.int .i64 z.x, .int .i64 z.r, .int .i64 z.q, .int .i64 z.k, .int .i64 z.m, .int .i64 z.n, .string z.t]] W fun e w' => e = .returned (.tuple #[.agg #[.int .i64 ((stX M z).c), .int .i64 ((stX M z).s), .int .i64 ((stX M z).pr), .int .i64 ((stX M z).pp), .int .i64 ((stX M z).ar), .int .i64 ((stX M z).ap), .int .i64 ((stX M z).k), .int .i64 ((stX M z).m), .int .i64 ((stX M z).n), .string ((stX M z).t)], .bool true]) ∧ AAt w' p (stX M z) ∧ But (Xp p) W w' := fun W h1 h2 => act_row z hzc hzs W p M c s h1 hc0 HOKK.out h2
      obtain ⟨N, hN⟩ : ∃ N, stX M z = N := ⟨_, rfl⟩
      rw [hN] at hact HST
      clear hN
      have HSo : Hid (∀ W, But (Xp p) wr W → W.cell? ⟨b, off + k * 7, none⟩ = some (.int .i64 z.x) ∧ W.cell? ⟨b, off + k * 7 + 1, none⟩ = some (.int .i64 z.r) ∧ W.cell? ⟨b, off + k * 7 + 2, none⟩ = some (.int .i64 z.q) ∧ W.cell? ⟨b, off + k * 7 + 3, none⟩ = some (.int .i64 z.k) ∧ W.cell? ⟨b, off + k * 7 + 4, none⟩ = some (.int .i64 z.m) ∧ W.cell? ⟨b, off + k * 7 + 5, none⟩ = some (.int .i64 z.n) ∧ W.cell? ⟨b, off + k * 7 + 6, none⟩ = some (.string z.t)) := Lib.hid fun W hb => by
        have g : ∀ j v, wr.cell? ⟨b, j, none⟩ = some v → W.cell? ⟨b, j, none⟩ = some v := fun j v h => (hb.cell (p := ⟨b, j, none⟩) (Nat.lt_of_lt_of_le hbl HCR.out.size) (by show ¬ (b = p); omega)).trans h
        obtain ⟨g0, g1, g2, g3, g4, g5, g6⟩ := HCL.out wr HCR.out
        exact ⟨g _ _ g0, g _ _ g1, g _ _ g2, g _ _ g3, g _ _ g4, g _ _ g5, g _ _ g6⟩
      have zo := HSo.out wr (But.refl _ _)
      clear x0 x1 x2 x3 x4 x5 x6 d0 d1 d2 d3 d4 d5 d6 d7 d8 d9 f0 f1 f2 f3 f4 f5 f6 f7 f8 f9
      go_upto_region 8 with fail
      have hAd : AAt wr.drew p M := HLP.out.at_
      have hLd : LaysT wr.drew := hLr.keep (Below.refl _ _).drew
      have hDd : wr.drew.heap[w3.heap.size]? = _ := HLP.out.doc
      have hS0 : (fun W => W.cell? ⟨b, off + k * 7, none⟩ = some (.int .i64 z.x) ∧ W.cell? ⟨b, off + k * 7 + 1, none⟩ = some (.int .i64 z.r) ∧ W.cell? ⟨b, off + k * 7 + 2, none⟩ = some (.int .i64 z.q) ∧ W.cell? ⟨b, off + k * 7 + 3, none⟩ = some (.int .i64 z.k) ∧ W.cell? ⟨b, off + k * 7 + 4, none⟩ = some (.int .i64 z.m) ∧ W.cell? ⟨b, off + k * 7 + 5, none⟩ = some (.int .i64 z.n) ∧ W.cell? ⟨b, off + k * 7 + 6, none⟩ = some (.string z.t)) wr.drew := zo
      refine wp_region_held_drew (S := fun W => W.cell? ⟨b, off + k * 7, none⟩ = some (.int .i64 z.x) ∧ W.cell? ⟨b, off + k * 7 + 1, none⟩ = some (.int .i64 z.r) ∧ W.cell? ⟨b, off + k * 7 + 2, none⟩ = some (.int .i64 z.q) ∧ W.cell? ⟨b, off + k * 7 + 3, none⟩ = some (.int .i64 z.k) ∧ W.cell? ⟨b, off + k * 7 + 4, none⟩ = some (.int .i64 z.m) ∧ W.cell? ⟨b, off + k * 7 + 5, none⟩ = some (.int .i64 z.n) ∧ W.cell? ⟨b, off + k * 7 + 6, none⟩ = some (.string z.t)) rfl hS0 (fun hHeld => ?_)
      simp only [List.size_toArray, List.length_cons, List.length_nil, Nat.reduceAdd]
      have HB0 : Hid (But (Xp p) wr wr.drew) := Lib.hid (But.refl _ _).drew
      obtain ⟨V0, hV0⟩ : ∃ V, wr.drew = V := ⟨_, rfl⟩
      rw [hV0] at hHeld hS0 HB0 hAd hLd hDd ⊢
      clear hV0
      refine wpAnyH_take (i := 0) (v := .pointer (some ⟨p, 0, none⟩)) rfl (by kernel_rfl) (by kernel_rfl) (by kernel_rfl) (fun _ _ _ h => h) (Or.inl ⟨by rfl, ?_⟩) (by assumption) ?_
      · intro wx hs1; go_simp
      (try simp only [Act.put, List.getElem_toArray, List.getElem_cons_zero, List.setIfInBounds_toArray, List.set_cons_zero, List.set_cons_succ])
      refine wpAnyH_take (i := 2) (v := .slice (some ⟨b, off, none⟩) n cap) rfl (by kernel_rfl) (by kernel_rfl) (by kernel_rfl) (fun _ _ _ h => h) (Or.inl ⟨by rfl, ?_⟩) (by assumption) ?_
      · intro wx hs1; go_simp
      (try simp only [Act.put, List.getElem_toArray, List.getElem_cons_succ, List.getElem_cons_zero, List.setIfInBounds_toArray, List.set_cons_zero, List.set_cons_succ])
      refine wpAnyH_take (i := 3) (v := .int .i64 (k : Int)) rfl (by kernel_rfl) (by kernel_rfl) (by kernel_rfl) (fun _ _ _ h => h) (Or.inl ⟨by rfl, ?_⟩) (by assumption) ?_
      · intro wx hs1; go_simp
      (try simp only [Act.put, List.getElem_toArray, List.getElem_cons_succ, List.getElem_cons_zero, List.setIfInBounds_toArray, List.set_cons_zero, List.set_cons_succ])
      refine wpAnyH_take (i := 4) (v := .pointer (some ⟨b, off + k * 7, none⟩)) rfl (by kernel_rfl) (by kernel_rfl) (by kernel_rfl) (fun _ _ _ h => h) (Or.inl ⟨by rfl, ?_⟩) (by assumption) ?_
      · intro wx hs1; go_simp
      (try simp only [Act.put, List.getElem_toArray, List.getElem_cons_succ, List.getElem_cons_zero, List.setIfInBounds_toArray, List.set_cons_zero, List.set_cons_succ])
      refine wpAnyH_take (i := 5) (v := .agg #[.int .i64 z.x, .int .i64 z.r, .int .i64 z.q, .int .i64 z.k, .int .i64 z.m, .int .i64 z.n, .string z.t]) rfl (by kernel_rfl) (by kernel_rfl) (by kernel_rfl) (fun _ _ _ h => h) (Or.inl ⟨by rfl, ?_⟩) (by assumption) ?_
      · intro wx hs1; obtain ⟨x0, x1, x2, x3, x4, x5, x6⟩ := hs1; go_simp
      (try simp only [Act.put, List.getElem_toArray, List.getElem_cons_succ, List.getElem_cons_zero, List.setIfInBounds_toArray, List.set_cons_zero, List.set_cons_succ])
      obtain ⟨⟨e0, e1, e2, e3, e4, e5, e6, e7, e8, e9⟩, _⟩ := ten hDd
      refine wpAnyH_ready (rs := [1]) (by kernel_rfl) (by simp) (AllReadyH.cons rfl (fun K hK => ?_) AllReadyH.nil)
      go_simp
      try dsimp only
      have hS := hS0
      refine hK.out _ _ hS (fun _ => ?_)
      clear hK K
      (try simp only [Act.put, List.getElem_toArray, List.getElem_cons_succ, List.getElem_cons_zero, List.setIfInBounds_toArray, List.set_cons_zero, List.set_cons_succ])
      clear e0 e1 e2 e3 e4 e5 e6 e7 e8 e9
      refine wpAnyH_ready (rs := [6]) (by kernel_rfl) (by simp) (AllReadyH.cons rfl (fun K hK => ?_) AllReadyH.nil)
      go_simp
      go_at_call 17
      (with_reducible refine (hact _ hAd hLd).mono ?_)
      rintro e w9 ⟨rfl, hA9, hB9⟩
      try dsimp only
      have HBW : Hid (But (Xp p) wr w9) := Lib.hid (HB0.out.trans hB9 (fun _ _ e => e)); have HAW := Lib.hid hA9; clear hB9 hA9; have hS := HSo.out w9 HBW.out
      refine hK.out _ _ hS (fun _ => ?_)
      clear hK K
      (try simp only [Act.put, List.getElem_toArray, List.getElem_cons_succ, List.getElem_cons_zero, List.setIfInBounds_toArray, List.set_cons_zero, List.set_cons_succ])
      refine wpAnyH_take (i := 7) (v := .tuple #[.agg #[.int .i64 N.c, .int .i64 N.s, .int .i64 N.pr, .int .i64 N.pp, .int .i64 N.ar, .int .i64 N.ap, .int .i64 N.k, .int .i64 N.m, .int .i64 N.n, .string N.t], .bool true]) rfl (by kernel_rfl) (by kernel_rfl) (by kernel_rfl) (fun _ _ _ h => h) (Or.inl ⟨by rfl, ?_⟩) (by assumption) ?_
      · intro wx hs1; go_simp
      (try simp only [Act.put, List.getElem_toArray, List.getElem_cons_succ, List.getElem_cons_zero, List.setIfInBounds_toArray, List.set_cons_zero, List.set_cons_succ])
      refine wpAnyH_take (i := 8) (v := .agg #[.int .i64 N.c, .int .i64 N.s, .int .i64 N.pr, .int .i64 N.pp, .int .i64 N.ar, .int .i64 N.ap, .int .i64 N.k, .int .i64 N.m, .int .i64 N.n, .string N.t]) rfl (by kernel_rfl) (by kernel_rfl) (by kernel_rfl) (fun _ _ _ h => h) (Or.inl ⟨by rfl, ?_⟩) (by assumption) ?_
      · intro wx hs1; go_simp
      (try simp only [Act.put, List.getElem_toArray, List.getElem_cons_succ, List.getElem_cons_zero, List.setIfInBounds_toArray, List.set_cons_zero, List.set_cons_succ])
      refine wpAnyH_take (i := 9) (v := .bool true) rfl (by kernel_rfl) (by kernel_rfl) (by kernel_rfl) (fun _ _ _ h => h) (Or.inl ⟨by rfl, ?_⟩) (by assumption) ?_
      · intro wx hs1; go_simp
      (try simp only [Act.put, List.getElem_toArray, List.getElem_cons_succ, List.getElem_cons_zero, List.setIfInBounds_toArray, List.set_cons_zero, List.set_cons_succ])
      have h9x := HBW.out.box HLP.out.doc (by show ¬ (w3.heap.size = p); omega)
      obtain ⟨_, ⟨f0, f1, f2, f3, f4, f5, f6, f7, f8, f9⟩⟩ := ten h9x
      have hl9x : w3.heap.size < w9.heap.size := (Array.getElem?_eq_some_iff.1 h9x).1
      have K9 := Lib.hid (set10 h9x (.int .i64 N.c) (.int .i64 N.s) (.int .i64 N.pr) (.int .i64 N.pp) (.int .i64 N.ar) (.int .i64 N.ap) (.int .i64 N.k) (.int .i64 N.m) (.int .i64 N.n) (.string N.t))
      have KA := Lib.hid (other10 (b := w3.heap.size) HAW.out (by omega) (.int .i64 N.c) (.int .i64 N.s) (.int .i64 N.pr) (.int .i64 N.pp) (.int .i64 N.ar) (.int .i64 N.ap) (.int .i64 N.k) (.int .i64 N.m) (.int .i64 N.n) (.string N.t))
      have KX := Lib.hid (other10 (b := w3.heap.size) (HBW.out.box HLP.out.bx (by show ¬ (w.heap.size = p); omega)) (by omega) (.int .i64 N.c) (.int .i64 N.s) (.int .i64 N.pr) (.int .i64 N.pp) (.int .i64 N.ar) (.int .i64 N.ap) (.int .i64 N.k) (.int .i64 N.m) (.int .i64 N.n) (.string N.t))
      have KY := Lib.hid (other10 (b := w3.heap.size) (HBW.out.box HLP.out.by_ (by show ¬ (w.heap.size + 1 = p); omega)) (by omega) (.int .i64 N.c) (.int .i64 N.s) (.int .i64 N.pr) (.int .i64 N.pp) (.int .i64 N.ar) (.int .i64 N.ap) (.int .i64 N.k) (.int .i64 N.m) (.int .i64 N.n) (.string N.t))
      have hSz := fun (W : World) (h : W = ((((((((((w9.setCell ⟨w3.heap.size, 0, none⟩ (.int .i64 N.c)).setCell ⟨w3.heap.size, 1, none⟩ (.int .i64 N.s)).setCell ⟨w3.heap.size, 2, none⟩ (.int .i64 N.pr)).setCell ⟨w3.heap.size, 3, none⟩ (.int .i64 N.pp)).setCell ⟨w3.heap.size, 4, none⟩ (.int .i64 N.ar)).setCell ⟨w3.heap.size, 5, none⟩ (.int .i64 N.ap)).setCell ⟨w3.heap.size, 6, none⟩ (.int .i64 N.k)).setCell ⟨w3.heap.size, 7, none⟩ (.int .i64 N.m)).setCell ⟨w3.heap.size, 8, none⟩ (.int .i64 N.n)).setCell ⟨w3.heap.size, 9, none⟩ (.string N.t))) => (show (fun W => W.cell? ⟨b, off + k * 7, none⟩ = some (.int .i64 z.x) ∧ W.cell? ⟨b, off + k * 7 + 1, none⟩ = some (.int .i64 z.r) ∧ W.cell? ⟨b, off + k * 7 + 2, none⟩ = some (.int .i64 z.q) ∧ W.cell? ⟨b, off + k * 7 + 3, none⟩ = some (.int .i64 z.k) ∧ W.cell? ⟨b, off + k * 7 + 4, none⟩ = some (.int .i64 z.m) ∧ W.cell? ⟨b, off + k * 7 + 5, none⟩ = some (.int .i64 z.n) ∧ W.cell? ⟨b, off + k * 7 + 6, none⟩ = some (.string z.t)) W from by rw [h]; exact ⟨cell10 (b := w3.heap.size) hS.1 (by show b ≠ w3.heap.size; omega) (.int .i64 N.c) (.int .i64 N.s) (.int .i64 N.pr) (.int .i64 N.pp) (.int .i64 N.ar) (.int .i64 N.ap) (.int .i64 N.k) (.int .i64 N.m) (.int .i64 N.n) (.string N.t), cell10 (b := w3.heap.size) hS.2.1 (by show b ≠ w3.heap.size; omega) (.int .i64 N.c) (.int .i64 N.s) (.int .i64 N.pr) (.int .i64 N.pp) (.int .i64 N.ar) (.int .i64 N.ap) (.int .i64 N.k) (.int .i64 N.m) (.int .i64 N.n) (.string N.t), cell10 (b := w3.heap.size) hS.2.2.1 (by show b ≠ w3.heap.size; omega) (.int .i64 N.c) (.int .i64 N.s) (.int .i64 N.pr) (.int .i64 N.pp) (.int .i64 N.ar) (.int .i64 N.ap) (.int .i64 N.k) (.int .i64 N.m) (.int .i64 N.n) (.string N.t), cell10 (b := w3.heap.size) hS.2.2.2.1 (by show b ≠ w3.heap.size; omega) (.int .i64 N.c) (.int .i64 N.s) (.int .i64 N.pr) (.int .i64 N.pp) (.int .i64 N.ar) (.int .i64 N.ap) (.int .i64 N.k) (.int .i64 N.m) (.int .i64 N.n) (.string N.t), cell10 (b := w3.heap.size) hS.2.2.2.2.1 (by show b ≠ w3.heap.size; omega) (.int .i64 N.c) (.int .i64 N.s) (.int .i64 N.pr) (.int .i64 N.pp) (.int .i64 N.ar) (.int .i64 N.ap) (.int .i64 N.k) (.int .i64 N.m) (.int .i64 N.n) (.string N.t), cell10 (b := w3.heap.size) hS.2.2.2.2.2.1 (by show b ≠ w3.heap.size; omega) (.int .i64 N.c) (.int .i64 N.s) (.int .i64 N.pr) (.int .i64 N.pp) (.int .i64 N.ar) (.int .i64 N.ap) (.int .i64 N.k) (.int .i64 N.m) (.int .i64 N.n) (.string N.t), cell10 (b := w3.heap.size) hS.2.2.2.2.2.2 (by show b ≠ w3.heap.size; omega) (.int .i64 N.c) (.int .i64 N.s) (.int .i64 N.pr) (.int .i64 N.pp) (.int .i64 N.ar) (.int .i64 N.ap) (.int .i64 N.k) (.int .i64 N.m) (.int .i64 N.n) (.string N.t)⟩)
      have KB := Lib.hid (bset10 (p := w3.heap.size) (below_but HCR.out HBW.out HCR.out.size hpw) hww3 (.int .i64 N.c) (.int .i64 N.s) (.int .i64 N.pr) (.int .i64 N.pp) (.int .i64 N.ar) (.int .i64 N.ap) (.int .i64 N.k) (.int .i64 N.m) (.int .i64 N.n) (.string N.t))
      clear h9x
      refine wpAnyH_ready (rs := [10]) (by kernel_rfl) (by simp) (AllReadyH.cons rfl (fun K hK => ?_) AllReadyH.nil)
      go_simp
      obtain ⟨w10, hw10⟩ : ∃ v, ((((((((((w9.setCell ⟨w3.heap.size, 0, none⟩ (.int .i64 N.c)).setCell ⟨w3.heap.size, 1, none⟩ (.int .i64 N.s)).setCell ⟨w3.heap.size, 2, none⟩ (.int .i64 N.pr)).setCell ⟨w3.heap.size, 3, none⟩ (.int .i64 N.pp)).setCell ⟨w3.heap.size, 4, none⟩ (.int .i64 N.ar)).setCell ⟨w3.heap.size, 5, none⟩ (.int .i64 N.ap)).setCell ⟨w3.heap.size, 6, none⟩ (.int .i64 N.k)).setCell ⟨w3.heap.size, 7, none⟩ (.int .i64 N.m)).setCell ⟨w3.heap.size, 8, none⟩ (.int .i64 N.n)).setCell ⟨w3.heap.size, 9, none⟩ (.string N.t)) = v := ⟨_, rfl⟩
      have hSz := hSz w10 hw10.symm
      rw [hw10] at K9 KA KB KX KY ⊢
      clear hw10 f0 f1 f2 f3 f4 f5 f6 f7 f8 f9
      try dsimp only
      have hS : (fun W => W.cell? ⟨b, off + k * 7, none⟩ = some (.int .i64 z.x) ∧ W.cell? ⟨b, off + k * 7 + 1, none⟩ = some (.int .i64 z.r) ∧ W.cell? ⟨b, off + k * 7 + 2, none⟩ = some (.int .i64 z.q) ∧ W.cell? ⟨b, off + k * 7 + 3, none⟩ = some (.int .i64 z.k) ∧ W.cell? ⟨b, off + k * 7 + 4, none⟩ = some (.int .i64 z.m) ∧ W.cell? ⟨b, off + k * 7 + 5, none⟩ = some (.int .i64 z.n) ∧ W.cell? ⟨b, off + k * 7 + 6, none⟩ = some (.string z.t)) w10 := hSz
      refine hK.out _ _ hS (fun _ => ?_)
      clear hK K
      (try simp only [Act.put, List.getElem_toArray, List.getElem_cons_succ, List.getElem_cons_zero, List.setIfInBounds_toArray, List.set_cons_zero, List.set_cons_succ])
      refine wpAnyH_done (by kernel_rfl) ?_ _
      go_wp2
      go_roundw
      case rel => exact ⟨k + 1, by omega, by go_num, Lib.hid (by rw [HST.out]; exact ⟨KA.out, K9.out, KX.out, KY.out, KB.out⟩)⟩
      case measure => simp [RowKit.intOf]; omega
    · obtain rfl : k = n := by omega
      have hcM : M.c ≠ 0 := by rw [HOKK.out.c]; exact hc0
      have hcp := copy_yes wr p M HLP.out.at_ hcM
      have hpp : p < wr.heap.size := AAt.lt HLP.out.at_
      have HKR : Hid (∀ W, Below wr.heap.size wr W → AAt W p M ∧ W.heap[w3.heap.size]? = some (.cells #[.int .i64 M.c, .int .i64 M.s, .int .i64 M.pr, .int .i64 M.pp, .int .i64 M.ar, .int .i64 M.ap, .int .i64 M.k, .int .i64 M.m, .int .i64 M.n, .string M.t] 38 (0, 0)) ∧ W.heap[w.heap.size]? = some (.cells #[.int .i64 x.x, .int .i64 x.r, .int .i64 x.q, .int .i64 x.k, .int .i64 x.m, .int .i64 x.n, .string x.t] 58 (0, 0)) ∧ W.heap[w.heap.size + 1]? = some (.cells #[.int .i64 y.x, .int .i64 y.r, .int .i64 y.q, .int .i64 y.k, .int .i64 y.m, .int .i64 y.n, .string y.t] 58 (0, 0))) := Lib.hid fun W hb => ⟨AAt.keep HLP.out.at_ hb, (hb.block _ hl9).trans HLP.out.doc, (hb.block _ (by omega)).trans HLP.out.bx, (hb.block _ (by omega)).trans HLP.out.by_⟩
      clear d0 d1 d2 d3 d4 d5 d6 d7 d8 d9 f0 f1 f2 f3 f4 f5 f6 f7 f8 f9 hM
      go_upto_region 10 with (go_at_call 15; (with_reducible refine hcp.mono ?_); clear hcp; rintro e w9 ⟨po, rfl, hpo, hO9, hb9⟩)
      have HSa : Hid (∀ W, Below w9.heap.size w9 W → Calls Tryz.prog 16 #[.pointer (some ⟨p, 0, none⟩), .pointer (some ⟨po, 0, none⟩)] W fun e w' => e = .returned (.bool true) ∧ Below w9.heap.size w9 w') := Lib.hid fun W hb => (Same_any W (some p) (some po) M M (HKR.out _ (hb9.trans (hb.mono hb9.size))).1 (AAt.keep hO9 hb)).mono fun e w' ⟨h1, h2⟩ => ⟨by rw [h1, sameM_eq.2 rfl], hb.trans (h2.mono hb.size)⟩
      have HIs : Hid (∀ W, Below w9.heap.size w9 W → Calls Tryz.prog 18 #[.pointer (some ⟨po, 0, none⟩), .agg #[.int .i64 M.c, .int .i64 M.s, .int .i64 M.pr, .int .i64 M.pp, .int .i64 M.ar, .int .i64 M.ap, .int .i64 M.k, .int .i64 M.m, .int .i64 M.n, .string M.t]] W fun e w' => e = .returned (.bool true) ∧ Below w9.heap.size w9 w') := Lib.hid fun W hb => (is_row W po M c s (AAt.keep hO9 hb) hc0 HOKK.out).mono fun e w' ⟨h1, h2⟩ => ⟨h1, hb.trans (h2.mono hb.size)⟩
      have hnum := fun x W => num_any x W
      have hs9 : wr.heap.size ≤ w9.heap.size := hb9.size
      have hpo9 : po < w9.heap.size := AAt.lt hO9
      have HO9 := Lib.hid hO9
      have HB9 := Lib.hid hb9
      clear hO9 hb9
      go_upto_region 12 with (first
        | (go_at_call 13; (with_reducible refine (hnum _ _).mono ?_); rintro e w' ⟨rfl, rfl⟩)
        | (go_at_call 16; (with_reducible refine (HSa.out _ (Below.refl _ _)).mono ?_); clear HSa; rintro e w10 ⟨rfl, hb10⟩; obtain ⟨⟨d0, d1, d2, d3, d4, d5, d6, d7, d8, d9⟩, _⟩ := ten (HKR.out _ (HB9.out.trans (hb10.mono HB9.out.size))).2.1)
        | (go_at_call 18; (with_reducible refine (HIs.out _ hb10).mono ?_); clear HIs hb10 d0 d1 d2 d3 d4 d5 d6 d7 d8 d9; rintro e w11 ⟨rfl, hb11⟩))
      have hbr := HB9.out.trans (hb11.mono HB9.out.size)
      have hO11 := AAt.keep HO9.out hb11
      have hs11 := hb11.size
      obtain ⟨⟨d0, d1, d2, d3, d4, d5, d6, d7, d8, d9⟩, _⟩ := ten (HKR.out _ hbr).2.1
      obtain ⟨x0, x1, x2, x3, x4, x5, x6⟩ := seven (HKR.out _ hbr).2.2.1
      have hact := act_row x hcx hxs w11 p M c s (HKR.out _ hbr).1 hc0 HOKK.out (HL.out.keep (HCR.out.trans (hbr.mono HCR.out.size)))
      have hokn : OkM c s (stX M x) := HOKK.out.step x hxs
      obtain ⟨N, hN⟩ : ∃ N, stX M x = N := ⟨_, rfl⟩
      rw [hN] at hact hokn
      clear hN
      have k11 := HKR.out _ hbr
      have HOKN := Lib.hid hokn
      clear hokn hb11
      go_upto_region 13 with (go_at_call 17; (with_reducible refine hact.mono ?_); clear hact; rintro e w12 ⟨rfl, hA12, hB12⟩)
      clear d0 d1 d2 d3 d4 d5 d6 d7 d8 d9 x0 x1 x2 x3 x4 x5 x6
      have hs12 := hB12.size
      have m1 : AAt (w12.alloc (.cells #[.int .i64 N.c, .int .i64 N.s, .int .i64 N.pr, .int .i64 N.pp, .int .i64 N.ar, .int .i64 N.ap, .int .i64 N.k, .int .i64 N.m, .int .i64 N.n, .string N.t] 38)) p N := (Below.heap_alloc w12 _ p hA12.lt).trans hA12
      have m2 : AAt (w12.alloc (.cells #[.int .i64 N.c, .int .i64 N.s, .int .i64 N.pr, .int .i64 N.pp, .int .i64 N.ar, .int .i64 N.ap, .int .i64 N.k, .int .i64 N.m, .int .i64 N.n, .string N.t] 38)) po M := (Below.heap_alloc w12 _ po (by omega)).trans (hB12.box hO11 (by show ¬ (po = p); omega))
      have m3 := (Below.heap_alloc w12 (.cells #[.int .i64 N.c, .int .i64 N.s, .int .i64 N.pr, .int .i64 N.pp, .int .i64 N.ar, .int .i64 N.ap, .int .i64 N.k, .int .i64 N.m, .int .i64 N.n, .string N.t] 38) w3.heap.size (by omega)).trans (hB12.box k11.2.1 (by show ¬ (w3.heap.size = p); omega))
      have m4 := (Below.heap_alloc w12 (.cells #[.int .i64 N.c, .int .i64 N.s, .int .i64 N.pr, .int .i64 N.pp, .int .i64 N.ar, .int .i64 N.ap, .int .i64 N.k, .int .i64 N.m, .int .i64 N.n, .string N.t] 38) (w.heap.size + 1) (by omega)).trans (hB12.box k11.2.2.2 (by show ¬ (w.heap.size + 1 = p); omega))
      have m5 := World.alloc_heap_new w12 (.cells #[.int .i64 N.c, .int .i64 N.s, .int .i64 N.pr, .int .i64 N.pp, .int .i64 N.ar, .int .i64 N.ap, .int .i64 N.k, .int .i64 N.m, .int .i64 N.n, .string N.t] 38)
      have m6 : Below w.heap.size w (w12.alloc (.cells #[.int .i64 N.c, .int .i64 N.s, .int .i64 N.pr, .int .i64 N.pp, .int .i64 N.ar, .int .i64 N.ap, .int .i64 N.k, .int .i64 N.m, .int .i64 N.n, .string N.t] 38)) := (below_but (HCR.out.trans (hbr.mono HCR.out.size)) hB12 (HCR.out.trans (hbr.mono HCR.out.size)).size hpw).alloc (by have := HCR.out.size; omega) _
      have m7 : (w12.alloc (.cells #[.int .i64 N.c, .int .i64 N.s, .int .i64 N.pr, .int .i64 N.pp, .int .i64 N.ar, .int .i64 N.ap, .int .i64 N.k, .int .i64 N.m, .int .i64 N.n, .string N.t] 38)).heap.size = w12.heap.size + 1 := by simp
      obtain ⟨w13, hw13⟩ : ∃ v, w12.alloc (.cells #[.int .i64 N.c, .int .i64 N.s, .int .i64 N.pr, .int .i64 N.pp, .int .i64 N.ar, .int .i64 N.ap, .int .i64 N.k, .int .i64 N.m, .int .i64 N.n, .string N.t] 38) = v := ⟨_, rfl⟩
      rw [hw13] at m1 m2 m3 m4 m5 m6 m7 ⊢
      have m8 : w12.heap.size < w13.heap.size := by omega
      clear hw13 m7 hA12 hB12 k11 hbr hO11
      have HK13 : Hid (∀ W, Below w13.heap.size w13 W → (AAt W p N ∧ AAt W po M) ∧ W.heap[w3.heap.size]? = some (.cells #[.int .i64 M.c, .int .i64 M.s, .int .i64 M.pr, .int .i64 M.pp, .int .i64 M.ar, .int .i64 M.ap, .int .i64 M.k, .int .i64 M.m, .int .i64 M.n, .string M.t] 38 (0, 0)) ∧ W.heap[w.heap.size + 1]? = some (.cells #[.int .i64 y.x, .int .i64 y.r, .int .i64 y.q, .int .i64 y.k, .int .i64 y.m, .int .i64 y.n, .string y.t] 58 (0, 0)) ∧ W.heap[w12.heap.size]? = some (.cells #[.int .i64 N.c, .int .i64 N.s, .int .i64 N.pr, .int .i64 N.pp, .int .i64 N.ar, .int .i64 N.ap, .int .i64 N.k, .int .i64 N.m, .int .i64 N.n, .string N.t] 38 (0, 0))) := Lib.hid fun W hb => ⟨⟨AAt.keep m1 hb, AAt.keep m2 hb⟩, (hb.block _ (by omega)).trans m3, (hb.block _ (by omega)).trans m4, (hb.block _ m8).trans m5⟩
      have HB13 := Lib.hid m6
      clear m1 m2 m3 m4 m5 m6
      obtain ⟨b, hb⟩ : ∃ b, sameM N M = b := ⟨_, rfl⟩
      have HS1 : Hid (∀ W, Below w13.heap.size w13 W → Calls Tryz.prog 16 #[.pointer (some ⟨p, 0, none⟩), .pointer (some ⟨po, 0, none⟩)] W fun e w' => e = .returned (.bool b) ∧ Below w13.heap.size w13 w') := Lib.hid fun W h => (Same_any W (some p) (some po) N M (HK13.out _ h).1.1 (HK13.out _ h).1.2).mono fun e w' ⟨h1, h2⟩ => ⟨by rw [h1, hb], h.trans (h2.mono h.size)⟩
      have HS2 : Hid (∀ W, Below w13.heap.size w13 W → Calls Tryz.prog 16 #[.pointer (some ⟨po, 0, none⟩), .pointer (some ⟨p, 0, none⟩)] W fun e w' => e = .returned (.bool b) ∧ Below w13.heap.size w13 w') := Lib.hid fun W h => (Same_any W (some po) (some p) M N (HK13.out _ h).1.2 (HK13.out _ h).1.1).mono fun e w' ⟨h1, h2⟩ => ⟨by rw [h1, sameM_comm, hb], h.trans (h2.mono h.size)⟩
      have he38 : ∀ W, (binOp .eql 38 (.agg #[.int .i64 N.c, .int .i64 N.s, .int .i64 N.pr, .int .i64 N.pp, .int .i64 N.ar, .int .i64 N.ap, .int .i64 N.k, .int .i64 N.m, .int .i64 N.n, .string N.t]) (.agg #[.int .i64 M.c, .int .i64 M.s, .int .i64 M.pr, .int .i64 M.pp, .int .i64 M.ar, .int .i64 M.ap, .int .i64 M.k, .int .i64 M.m, .int .i64 M.n, .string M.t])).run Tryz.prog W = .ok (.bool b) W := fun W => by
        rw [← hb]
        exact eql38 W N.c M.c N.s M.s N.pr M.pr N.pp M.pp N.ar M.ar N.ap M.ap N.k M.k N.m M.m N.n M.n N.t M.t
      clear hb
      have HSo : Hid (∀ W, Below w13.heap.size w13 W → (fun W => (W.cell? ⟨w12.heap.size, 0, none⟩ = some (.int .i64 N.c) ∧ W.cell? ⟨w12.heap.size, 1, none⟩ = some (.int .i64 N.s) ∧ W.cell? ⟨w12.heap.size, 2, none⟩ = some (.int .i64 N.pr) ∧ W.cell? ⟨w12.heap.size, 3, none⟩ = some (.int .i64 N.pp) ∧ W.cell? ⟨w12.heap.size, 4, none⟩ = some (.int .i64 N.ar) ∧ W.cell? ⟨w12.heap.size, 5, none⟩ = some (.int .i64 N.ap) ∧ W.cell? ⟨w12.heap.size, 6, none⟩ = some (.int .i64 N.k) ∧ W.cell? ⟨w12.heap.size, 7, none⟩ = some (.int .i64 N.m) ∧ W.cell? ⟨w12.heap.size, 8, none⟩ = some (.int .i64 N.n) ∧ W.cell? ⟨w12.heap.size, 9, none⟩ = some (.string N.t)) ∧ (W.cell? ⟨w3.heap.size, 0, none⟩ = some (.int .i64 M.c) ∧ W.cell? ⟨w3.heap.size, 1, none⟩ = some (.int .i64 M.s) ∧ W.cell? ⟨w3.heap.size, 2, none⟩ = some (.int .i64 M.pr) ∧ W.cell? ⟨w3.heap.size, 3, none⟩ = some (.int .i64 M.pp) ∧ W.cell? ⟨w3.heap.size, 4, none⟩ = some (.int .i64 M.ar) ∧ W.cell? ⟨w3.heap.size, 5, none⟩ = some (.int .i64 M.ap) ∧ W.cell? ⟨w3.heap.size, 6, none⟩ = some (.int .i64 M.k) ∧ W.cell? ⟨w3.heap.size, 7, none⟩ = some (.int .i64 M.m) ∧ W.cell? ⟨w3.heap.size, 8, none⟩ = some (.int .i64 M.n) ∧ W.cell? ⟨w3.heap.size, 9, none⟩ = some (.string M.t))) W) := Lib.hid fun W h => ⟨(ten (HK13.out _ h).2.2.2).1, (ten (HK13.out _ h).2.1).1⟩
      have zo : (fun W => (W.cell? ⟨w12.heap.size, 0, none⟩ = some (.int .i64 N.c) ∧ W.cell? ⟨w12.heap.size, 1, none⟩ = some (.int .i64 N.s) ∧ W.cell? ⟨w12.heap.size, 2, none⟩ = some (.int .i64 N.pr) ∧ W.cell? ⟨w12.heap.size, 3, none⟩ = some (.int .i64 N.pp) ∧ W.cell? ⟨w12.heap.size, 4, none⟩ = some (.int .i64 N.ar) ∧ W.cell? ⟨w12.heap.size, 5, none⟩ = some (.int .i64 N.ap) ∧ W.cell? ⟨w12.heap.size, 6, none⟩ = some (.int .i64 N.k) ∧ W.cell? ⟨w12.heap.size, 7, none⟩ = some (.int .i64 N.m) ∧ W.cell? ⟨w12.heap.size, 8, none⟩ = some (.int .i64 N.n) ∧ W.cell? ⟨w12.heap.size, 9, none⟩ = some (.string N.t)) ∧ (W.cell? ⟨w3.heap.size, 0, none⟩ = some (.int .i64 M.c) ∧ W.cell? ⟨w3.heap.size, 1, none⟩ = some (.int .i64 M.s) ∧ W.cell? ⟨w3.heap.size, 2, none⟩ = some (.int .i64 M.pr) ∧ W.cell? ⟨w3.heap.size, 3, none⟩ = some (.int .i64 M.pp) ∧ W.cell? ⟨w3.heap.size, 4, none⟩ = some (.int .i64 M.ar) ∧ W.cell? ⟨w3.heap.size, 5, none⟩ = some (.int .i64 M.ap) ∧ W.cell? ⟨w3.heap.size, 6, none⟩ = some (.int .i64 M.k) ∧ W.cell? ⟨w3.heap.size, 7, none⟩ = some (.int .i64 M.m) ∧ W.cell? ⟨w3.heap.size, 8, none⟩ = some (.int .i64 M.n) ∧ W.cell? ⟨w3.heap.size, 9, none⟩ = some (.string M.t))) w13 := HSo.out _ (Below.refl _ _)
      go_upto_region 13 with fail
      have hS0 : (fun W => (W.cell? ⟨w12.heap.size, 0, none⟩ = some (.int .i64 N.c) ∧ W.cell? ⟨w12.heap.size, 1, none⟩ = some (.int .i64 N.s) ∧ W.cell? ⟨w12.heap.size, 2, none⟩ = some (.int .i64 N.pr) ∧ W.cell? ⟨w12.heap.size, 3, none⟩ = some (.int .i64 N.pp) ∧ W.cell? ⟨w12.heap.size, 4, none⟩ = some (.int .i64 N.ar) ∧ W.cell? ⟨w12.heap.size, 5, none⟩ = some (.int .i64 N.ap) ∧ W.cell? ⟨w12.heap.size, 6, none⟩ = some (.int .i64 N.k) ∧ W.cell? ⟨w12.heap.size, 7, none⟩ = some (.int .i64 N.m) ∧ W.cell? ⟨w12.heap.size, 8, none⟩ = some (.int .i64 N.n) ∧ W.cell? ⟨w12.heap.size, 9, none⟩ = some (.string N.t)) ∧ (W.cell? ⟨w3.heap.size, 0, none⟩ = some (.int .i64 M.c) ∧ W.cell? ⟨w3.heap.size, 1, none⟩ = some (.int .i64 M.s) ∧ W.cell? ⟨w3.heap.size, 2, none⟩ = some (.int .i64 M.pr) ∧ W.cell? ⟨w3.heap.size, 3, none⟩ = some (.int .i64 M.pp) ∧ W.cell? ⟨w3.heap.size, 4, none⟩ = some (.int .i64 M.ar) ∧ W.cell? ⟨w3.heap.size, 5, none⟩ = some (.int .i64 M.ap) ∧ W.cell? ⟨w3.heap.size, 6, none⟩ = some (.int .i64 M.k) ∧ W.cell? ⟨w3.heap.size, 7, none⟩ = some (.int .i64 M.m) ∧ W.cell? ⟨w3.heap.size, 8, none⟩ = some (.int .i64 M.n) ∧ W.cell? ⟨w3.heap.size, 9, none⟩ = some (.string M.t))) w13.drew := zo
      refine wp_region_held_drew (S := fun W => (W.cell? ⟨w12.heap.size, 0, none⟩ = some (.int .i64 N.c) ∧ W.cell? ⟨w12.heap.size, 1, none⟩ = some (.int .i64 N.s) ∧ W.cell? ⟨w12.heap.size, 2, none⟩ = some (.int .i64 N.pr) ∧ W.cell? ⟨w12.heap.size, 3, none⟩ = some (.int .i64 N.pp) ∧ W.cell? ⟨w12.heap.size, 4, none⟩ = some (.int .i64 N.ar) ∧ W.cell? ⟨w12.heap.size, 5, none⟩ = some (.int .i64 N.ap) ∧ W.cell? ⟨w12.heap.size, 6, none⟩ = some (.int .i64 N.k) ∧ W.cell? ⟨w12.heap.size, 7, none⟩ = some (.int .i64 N.m) ∧ W.cell? ⟨w12.heap.size, 8, none⟩ = some (.int .i64 N.n) ∧ W.cell? ⟨w12.heap.size, 9, none⟩ = some (.string N.t)) ∧ (W.cell? ⟨w3.heap.size, 0, none⟩ = some (.int .i64 M.c) ∧ W.cell? ⟨w3.heap.size, 1, none⟩ = some (.int .i64 M.s) ∧ W.cell? ⟨w3.heap.size, 2, none⟩ = some (.int .i64 M.pr) ∧ W.cell? ⟨w3.heap.size, 3, none⟩ = some (.int .i64 M.pp) ∧ W.cell? ⟨w3.heap.size, 4, none⟩ = some (.int .i64 M.ar) ∧ W.cell? ⟨w3.heap.size, 5, none⟩ = some (.int .i64 M.ap) ∧ W.cell? ⟨w3.heap.size, 6, none⟩ = some (.int .i64 M.k) ∧ W.cell? ⟨w3.heap.size, 7, none⟩ = some (.int .i64 M.m) ∧ W.cell? ⟨w3.heap.size, 8, none⟩ = some (.int .i64 M.n) ∧ W.cell? ⟨w3.heap.size, 9, none⟩ = some (.string M.t))) rfl hS0 (fun hHeld => ?_)
      simp only [List.size_toArray, List.length_cons, List.length_nil, Nat.reduceAdd]
      have HB0 : Hid (Below w13.heap.size w13 w13.drew) := Lib.hid (Below.refl _ _).drew
      obtain ⟨V0, hV0⟩ : ∃ V, w13.drew = V := ⟨_, rfl⟩
      rw [hV0] at hHeld hS0 HB0 ⊢
      clear hV0
      refine wpAnyH_take (i := 0) (v := .bool true) rfl (by kernel_rfl) (by kernel_rfl) (by kernel_rfl) (fun _ _ _ h => h) (Or.inl ⟨by rfl, ?_⟩) (by assumption) ?_
      · intro wx hs1; go_simp
      (try simp only [Act.put, List.getElem_toArray, List.getElem_cons_zero, List.setIfInBounds_toArray, List.set_cons_zero, List.set_cons_succ])
      refine wpAnyH_take (i := 1) (v := .bool false) rfl (by kernel_rfl) (by kernel_rfl) (by kernel_rfl) (fun _ _ _ h => h) (Or.inl ⟨by rfl, ?_⟩) (by assumption) ?_
      · intro wx hs1; go_simp
      (try simp only [Act.put, List.getElem_toArray, List.getElem_cons_succ, List.getElem_cons_zero, List.setIfInBounds_toArray, List.set_cons_zero, List.set_cons_succ])
      refine wpAnyH_take (i := 2) (v := .bool false) rfl (by kernel_rfl) (by kernel_rfl) (by kernel_rfl) (fun _ _ _ h => h) (Or.inl ⟨by rfl, ?_⟩) (by assumption) ?_
      · intro wx hs1; go_simp
      (try simp only [Act.put, List.getElem_toArray, List.getElem_cons_succ, List.getElem_cons_zero, List.setIfInBounds_toArray, List.set_cons_zero, List.set_cons_succ])
      refine wpAnyH_take (i := 3) (v := .pointer (some ⟨p, 0, none⟩)) rfl (by kernel_rfl) (by kernel_rfl) (by kernel_rfl) (fun _ _ _ h => h) (Or.inl ⟨by rfl, ?_⟩) (by assumption) ?_
      · intro wx hs1; go_simp
      (try simp only [Act.put, List.getElem_toArray, List.getElem_cons_succ, List.getElem_cons_zero, List.setIfInBounds_toArray, List.set_cons_zero, List.set_cons_succ])
      refine wpAnyH_take (i := 4) (v := .pointer (some ⟨po, 0, none⟩)) rfl (by kernel_rfl) (by kernel_rfl) (by kernel_rfl) (fun _ _ _ h => h) (Or.inl ⟨by rfl, ?_⟩) (by assumption) ?_
      · intro wx hs1; go_simp
      (try simp only [Act.put, List.getElem_toArray, List.getElem_cons_succ, List.getElem_cons_zero, List.setIfInBounds_toArray, List.set_cons_zero, List.set_cons_succ])
      refine wpAnyH_take (i := 6) (v := .agg #[.int .i64 N.c, .int .i64 N.s, .int .i64 N.pr, .int .i64 N.pp, .int .i64 N.ar, .int .i64 N.ap, .int .i64 N.k, .int .i64 N.m, .int .i64 N.n, .string N.t]) rfl (by kernel_rfl) (by kernel_rfl) (by kernel_rfl) (fun _ _ _ h => h) (Or.inl ⟨by rfl, ?_⟩) (by assumption) ?_
      · intro wx hs1; obtain ⟨⟨s0, s1, s2, s3, s4, s5, s6, s7, s8, s9⟩, ⟨u0, u1, u2, u3, u4, u5, u6, u7, u8, u9⟩⟩ := hs1; go_simp
      (try simp only [Act.put, List.getElem_toArray, List.getElem_cons_succ, List.getElem_cons_zero, List.setIfInBounds_toArray, List.set_cons_zero, List.set_cons_succ])
      refine wpAnyH_take (i := 7) (v := .agg #[.int .i64 M.c, .int .i64 M.s, .int .i64 M.pr, .int .i64 M.pp, .int .i64 M.ar, .int .i64 M.ap, .int .i64 M.k, .int .i64 M.m, .int .i64 M.n, .string M.t]) rfl (by kernel_rfl) (by kernel_rfl) (by kernel_rfl) (fun _ _ _ h => h) (Or.inl ⟨by rfl, ?_⟩) (by assumption) ?_
      · intro wx hs1; obtain ⟨⟨s0, s1, s2, s3, s4, s5, s6, s7, s8, s9⟩, ⟨u0, u1, u2, u3, u4, u5, u6, u7, u8, u9⟩⟩ := hs1; go_simp
      (try simp only [Act.put, List.getElem_toArray, List.getElem_cons_succ, List.getElem_cons_zero, List.setIfInBounds_toArray, List.set_cons_zero, List.set_cons_succ])
      refine wpAnyH_take (i := 8) (v := .bool b) rfl (by kernel_rfl) (by kernel_rfl) (by kernel_rfl) (fun _ _ _ h => h) (Or.inl ⟨by rfl, ?_⟩) (by assumption) ?_
      · intro wx hs1; clear hs1; have e3 := he38 wx; go_simp
      (try simp only [Act.put, List.getElem_toArray, List.getElem_cons_succ, List.getElem_cons_zero, List.setIfInBounds_toArray, List.set_cons_zero, List.set_cons_succ])
      refine wpAnyH_ready (rs := [5]) (by kernel_rfl) (by simp) (AllReadyH.cons rfl (fun K hK => ?_) AllReadyH.nil)
      go_simp
      go_at_call 16
      (with_reducible refine (HS1.out _ HB0.out).mono ?_)
      rintro e w14 ⟨rfl, hb14⟩
      try dsimp only
      have HB14 := Lib.hid hb14; clear hb14; have hS := HSo.out _ HB14.out
      refine hK.out _ _ hS (fun _ => ?_)
      clear hK K
      (try simp only [Act.put, List.getElem_toArray, List.getElem_cons_succ, List.getElem_cons_zero, List.setIfInBounds_toArray, List.set_cons_zero, List.set_cons_succ])
      refine wpAnyH_take (i := 9) (v := .bool false) rfl (by kernel_rfl) (by kernel_rfl) (by kernel_rfl) (fun _ _ _ h => h) (Or.inl ⟨by rfl, ?_⟩) (by assumption) ?_
      · intro wx hs1; clear hs1; cases b <;> go_simp
      (try simp only [Act.put, List.getElem_toArray, List.getElem_cons_succ, List.getElem_cons_zero, List.setIfInBounds_toArray, List.set_cons_zero, List.set_cons_succ])
      refine wpAnyH_take (i := 10) (v := .bool false) rfl (by kernel_rfl) (by kernel_rfl) (by kernel_rfl) (fun _ _ _ h => h) (Or.inl ⟨by rfl, ?_⟩) (by assumption) ?_
      · intro wx hs1; go_simp
      (try simp only [Act.put, List.getElem_toArray, List.getElem_cons_succ, List.getElem_cons_zero, List.setIfInBounds_toArray, List.set_cons_zero, List.set_cons_succ])
      refine wpAnyH_take (i := 11) (v := .bool false) rfl (by kernel_rfl) (by kernel_rfl) (by kernel_rfl) (fun _ _ _ h => h) (Or.inl ⟨by rfl, ?_⟩) (by assumption) ?_
      · intro wx hs1; go_simp
      (try simp only [Act.put, List.getElem_toArray, List.getElem_cons_succ, List.getElem_cons_zero, List.setIfInBounds_toArray, List.set_cons_zero, List.set_cons_succ])
      refine wpAnyH_take (i := 12) (v := .pointer (some ⟨po, 0, none⟩)) rfl (by kernel_rfl) (by kernel_rfl) (by kernel_rfl) (fun _ _ _ h => h) (Or.inl ⟨by rfl, ?_⟩) (by assumption) ?_
      · intro wx hs1; go_simp
      (try simp only [Act.put, List.getElem_toArray, List.getElem_cons_succ, List.getElem_cons_zero, List.setIfInBounds_toArray, List.set_cons_zero, List.set_cons_succ])
      refine wpAnyH_take (i := 13) (v := .pointer (some ⟨p, 0, none⟩)) rfl (by kernel_rfl) (by kernel_rfl) (by kernel_rfl) (fun _ _ _ h => h) (Or.inl ⟨by rfl, ?_⟩) (by assumption) ?_
      · intro wx hs1; go_simp
      (try simp only [Act.put, List.getElem_toArray, List.getElem_cons_succ, List.getElem_cons_zero, List.setIfInBounds_toArray, List.set_cons_zero, List.set_cons_succ])
      refine wpAnyH_take (i := 15) (v := .agg #[.int .i64 N.c, .int .i64 N.s, .int .i64 N.pr, .int .i64 N.pp, .int .i64 N.ar, .int .i64 N.ap, .int .i64 N.k, .int .i64 N.m, .int .i64 N.n, .string N.t]) rfl (by kernel_rfl) (by kernel_rfl) (by kernel_rfl) (fun _ _ _ h => h) (Or.inl ⟨by rfl, ?_⟩) (by assumption) ?_
      · intro wx hs1; obtain ⟨⟨s0, s1, s2, s3, s4, s5, s6, s7, s8, s9⟩, ⟨u0, u1, u2, u3, u4, u5, u6, u7, u8, u9⟩⟩ := hs1; go_simp
      (try simp only [Act.put, List.getElem_toArray, List.getElem_cons_succ, List.getElem_cons_zero, List.setIfInBounds_toArray, List.set_cons_zero, List.set_cons_succ])
      refine wpAnyH_take (i := 16) (v := .agg #[.int .i64 M.c, .int .i64 M.s, .int .i64 M.pr, .int .i64 M.pp, .int .i64 M.ar, .int .i64 M.ap, .int .i64 M.k, .int .i64 M.m, .int .i64 M.n, .string M.t]) rfl (by kernel_rfl) (by kernel_rfl) (by kernel_rfl) (fun _ _ _ h => h) (Or.inl ⟨by rfl, ?_⟩) (by assumption) ?_
      · intro wx hs1; obtain ⟨⟨s0, s1, s2, s3, s4, s5, s6, s7, s8, s9⟩, ⟨u0, u1, u2, u3, u4, u5, u6, u7, u8, u9⟩⟩ := hs1; go_simp
      (try simp only [Act.put, List.getElem_toArray, List.getElem_cons_succ, List.getElem_cons_zero, List.setIfInBounds_toArray, List.set_cons_zero, List.set_cons_succ])
      refine wpAnyH_take (i := 17) (v := .bool b) rfl (by kernel_rfl) (by kernel_rfl) (by kernel_rfl) (fun _ _ _ h => h) (Or.inl ⟨by rfl, ?_⟩) (by assumption) ?_
      · intro wx hs1; clear hs1; have e3 := he38 wx; go_simp
      (try simp only [Act.put, List.getElem_toArray, List.getElem_cons_succ, List.getElem_cons_zero, List.setIfInBounds_toArray, List.set_cons_zero, List.set_cons_succ])
      refine wpAnyH_ready (rs := [14]) (by kernel_rfl) (by simp) (AllReadyH.cons rfl (fun K hK => ?_) AllReadyH.nil)
      go_simp
      go_at_call 16
      (with_reducible refine (HS2.out _ HB14.out).mono ?_)
      rintro e w15 ⟨rfl, hb15⟩
      try dsimp only
      have HB15 := Lib.hid hb15; clear hb15; have hS := HSo.out _ HB15.out
      refine hK.out _ _ hS (fun _ => ?_)
      clear hK K
      (try simp only [Act.put, List.getElem_toArray, List.getElem_cons_succ, List.getElem_cons_zero, List.setIfInBounds_toArray, List.set_cons_zero, List.set_cons_succ])
      refine wpAnyH_take (i := 18) (v := .bool false) rfl (by kernel_rfl) (by kernel_rfl) (by kernel_rfl) (fun _ _ _ h => h) (Or.inl ⟨by rfl, ?_⟩) (by assumption) ?_
      · intro wx hs1; clear hs1; cases b <;> go_simp
      (try simp only [Act.put, List.getElem_toArray, List.getElem_cons_succ, List.getElem_cons_zero, List.setIfInBounds_toArray, List.set_cons_zero, List.set_cons_succ])
      refine wpAnyH_take (i := 19) (v := .bool false) rfl (by kernel_rfl) (by kernel_rfl) (by kernel_rfl) (fun _ _ _ h => h) (Or.inl ⟨by rfl, ?_⟩) (by assumption) ?_
      · intro wx hs1; go_simp
      (try simp only [Act.put, List.getElem_toArray, List.getElem_cons_succ, List.getElem_cons_zero, List.setIfInBounds_toArray, List.set_cons_zero, List.set_cons_succ])
      refine wpAnyH_done (by kernel_rfl) ?_ _
      have k15 := HK13.out _ HB15.out
      obtain ⟨⟨d0, d1, d2, d3, d4, d5, d6, d7, d8, d9⟩, _⟩ := ten k15.2.1
      obtain ⟨x0, x1, x2, x3, x4, x5, x6⟩ := seven k15.2.2.1
      have hb15 := HB13.out.trans (HB15.out.mono HB13.out.size)
      have hs15 := HB15.out.size
      have hact := act_row y hcy hys w15 po M c s k15.1.2 hc0 HOKK.out (HL.out.keep hb15)
      have hokl : OkM c s (stX M y) := HOKK.out.step y hys
      obtain ⟨L, hL9⟩ : ∃ L, stX M y = L := ⟨_, rfl⟩
      rw [hL9] at hact hokl
      have HOKL := Lib.hid hokl
      have HK15 := Lib.hid k15
      have HB15w := Lib.hid hb15
      clear hL9 hokl k15 hb15 HS1 HS2 he38
      go_upto_region 16 with (go_at_call 17; (with_reducible refine hact.mono ?_); clear hact; rintro e w16 ⟨rfl, hA16, hB16⟩)
      clear d0 d1 d2 d3 d4 d5 d6 d7 d8 d9 x0 x1 x2 x3 x4 x5 x6
      have hs16 := hB16.size
      have m1 : AAt (w16.alloc (.cells #[.int .i64 L.c, .int .i64 L.s, .int .i64 L.pr, .int .i64 L.pp, .int .i64 L.ar, .int .i64 L.ap, .int .i64 L.k, .int .i64 L.m, .int .i64 L.n, .string L.t] 38)) po L := (Below.heap_alloc w16 _ po hA16.lt).trans hA16
      have m2 : AAt (w16.alloc (.cells #[.int .i64 L.c, .int .i64 L.s, .int .i64 L.pr, .int .i64 L.pp, .int .i64 L.ar, .int .i64 L.ap, .int .i64 L.k, .int .i64 L.m, .int .i64 L.n, .string L.t] 38)) p N := (Below.heap_alloc w16 _ p (by omega)).trans (hB16.box HK15.out.1.1 (by show ¬ (p = po); omega))
      have m3 := (Below.heap_alloc w16 (.cells #[.int .i64 L.c, .int .i64 L.s, .int .i64 L.pr, .int .i64 L.pp, .int .i64 L.ar, .int .i64 L.ap, .int .i64 L.k, .int .i64 L.m, .int .i64 L.n, .string L.t] 38) w12.heap.size (by omega)).trans (hB16.box HK15.out.2.2.2 (by show ¬ (w12.heap.size = po); omega))
      have m5 := World.alloc_heap_new w16 (.cells #[.int .i64 L.c, .int .i64 L.s, .int .i64 L.pr, .int .i64 L.pp, .int .i64 L.ar, .int .i64 L.ap, .int .i64 L.k, .int .i64 L.m, .int .i64 L.n, .string L.t] 38)
      have m6 : Below w.heap.size w (w16.alloc (.cells #[.int .i64 L.c, .int .i64 L.s, .int .i64 L.pr, .int .i64 L.pp, .int .i64 L.ar, .int .i64 L.ap, .int .i64 L.k, .int .i64 L.m, .int .i64 L.n, .string L.t] 38)) := (below_but HB15w.out hB16 HB15w.out.size (by omega)).alloc (by have := HB15w.out.size; omega) _
      have m7 : (w16.alloc (.cells #[.int .i64 L.c, .int .i64 L.s, .int .i64 L.pr, .int .i64 L.pp, .int .i64 L.ar, .int .i64 L.ap, .int .i64 L.k, .int .i64 L.m, .int .i64 L.n, .string L.t] 38)).heap.size = w16.heap.size + 1 := by simp
      obtain ⟨w17, hw17⟩ : ∃ v, w16.alloc (.cells #[.int .i64 L.c, .int .i64 L.s, .int .i64 L.pr, .int .i64 L.pp, .int .i64 L.ar, .int .i64 L.ap, .int .i64 L.k, .int .i64 L.m, .int .i64 L.n, .string L.t] 38) = v := ⟨_, rfl⟩
      rw [hw17] at m1 m2 m3 m5 m6 m7 ⊢
      have m8 : w16.heap.size < w17.heap.size := by omega
      have m9 : w12.heap.size < w17.heap.size := by omega
      clear hw17 m7 hA16 hB16
      obtain ⟨⟨d0, d1, d2, d3, d4, d5, d6, d7, d8, d9⟩, _⟩ := ten m3
      have hi1 := is_row w17 p N c s m2 hc0 HOKN.out
      have HK17 : Hid (∀ W, Below w17.heap.size w17 W → AAt W po L ∧ W.heap[w16.heap.size]? = some (.cells #[.int .i64 L.c, .int .i64 L.s, .int .i64 L.pr, .int .i64 L.pp, .int .i64 L.ar, .int .i64 L.ap, .int .i64 L.k, .int .i64 L.m, .int .i64 L.n, .string L.t] 38 (0, 0))) := Lib.hid fun W h => ⟨AAt.keep m1 h, (h.block _ m8).trans m5⟩
      have HI2 : Hid (∀ W, Below w17.heap.size w17 W → Calls Tryz.prog 18 #[.pointer (some ⟨po, 0, none⟩), .agg #[.int .i64 L.c, .int .i64 L.s, .int .i64 L.pr, .int .i64 L.pp, .int .i64 L.ar, .int .i64 L.ap, .int .i64 L.k, .int .i64 L.m, .int .i64 L.n, .string L.t]] W fun e w' => e = .returned (.bool true) ∧ Below w17.heap.size w17 w') := Lib.hid fun W h => (is_row W po L c s (HK17.out _ h).1 hc0 HOKL.out).mono fun e w' ⟨h1, h2⟩ => ⟨h1, h.trans (h2.mono h.size)⟩
      have HW9 : Hid (∀ W, Below w17.heap.size w17 W → Calls Tryz.prog 7 #[] W fun e w' => e = .returned (.bool true) ∧ Below w17.heap.size w17 w') := Lib.hid fun W h => (works_any W ((HL.out.keep m6).keep h)).mono fun e w' ⟨h1, h2⟩ => ⟨h1, h.trans (h2.mono h.size)⟩
      have HB17 := Lib.hid m6
      clear m1 m2 m3 m5 m6
      go_wp2_with (first
        | (go_at_call 18; (with_reducible refine hi1.mono ?_); clear hi1; rintro e w18 ⟨rfl, hb18⟩; clear d0 d1 d2 d3 d4 d5 d6 d7 d8 d9; obtain ⟨⟨d0, d1, d2, d3, d4, d5, d6, d7, d8, d9⟩, _⟩ := ten (HK17.out _ hb18).2)
        | (go_at_call 18; (with_reducible refine (HI2.out _ hb18).mono ?_); clear HI2 hb18; rintro e w19 ⟨rfl, hb19⟩)
        | (go_at_call 7; (with_reducible refine (HW9.out _ hb19).mono ?_); clear HW9 hb19; rintro e w20 ⟨rfl, hb20⟩))
      go_ret
      exact ⟨rfl, HB17.out.trans (hb20.mono HB17.out.size)⟩
theorem Sm.copies_law (c s : Int) (A : Option Addr) (n cap : Nat) (xs : List XV) (x y : XV) (w : World) (hn : xs.length = n) (hnc : n ≤ cap) (hc9 : cap ≤ 9223372036854775807) (hx : RdX w A xs) (hcm : ∀ y ∈ xs, XV.came y) (hcx : x.came) (hcy : y.came) (hL : LaysT w) :
    Calls Tryz.prog 5 #[.int .i64 c, .int .i64 s, .slice A n cap, .agg #[.int .i64 x.x, .int .i64 x.r, .int .i64 x.q, .int .i64 x.k, .int .i64 x.m, .int .i64 x.n, .string x.t], .agg #[.int .i64 y.x, .int .i64 y.r, .int .i64 y.q, .int .i64 y.k, .int .i64 y.m, .int .i64 y.n, .string y.t]] w fun e w' => e = .returned (.bool true) ∧ Below w.heap.size w w' := by
  cases hf : fewB xs 20 with
  | false => exact copies_many c s A n cap xs x y w hn hnc hc9 hx hcm hcx hcy hL hf
  | true =>
    cases hf2 : fewB [x, y] 2 with
    | false => exact copies_two c s A n cap xs x y w hn hnc hc9 hx hcm hcx hcy hL hf hf2
    | true =>
      cases hv : (chB c && slB s) with
      | false => exact copies_err c s A n cap xs x y w hn hnc hc9 hx hcm hcx hcy hL hf hf2 hv
      | true =>
        rw [Bool.and_eq_true] at hv
        exact copies_good c s A n cap xs x y w hn hnc hc9 hx hcm hcx hcy hL hf hf2 hv.1 hv.2
end Go.Proofs
