/-
  acceptor: the walk of AcceptorPlays. Conditions: as the theorem names them.
-/
import Derived.Test.YtamlacofmihldaaGreatDoorMd
namespace Go.Proofs
open Go Go.RowKit Sm Go.Lib
attribute [local go_sem] Oper.semAt_some
/-- an act of a row's, told with what stands apart of it -/
theorem Sm.act_row (y : XV) (hy : y.came) (ht : y.t.size ≤ 300) (w : World) (p : Nat) (M : AcM) (c s : Int) (hp : AAt w p M) (hc : c ≠ 0) (hM : OkM c s M) (hL : LaysT w) :
    Calls Tryz.prog 17 #[.pointer (some ⟨p, 0, none⟩), .agg #[.int .i64 M.c, .int .i64 M.s, .int .i64 M.pr, .int .i64 M.pp, .int .i64 M.ar, .int .i64 M.ap, .int .i64 M.k, .int .i64 M.m, .int .i64 M.n, .string M.t], .agg #[.int .i64 y.x, .int .i64 y.r, .int .i64 y.q, .int .i64 y.k, .int .i64 y.m, .int .i64 y.n, .string y.t]] w fun e w' => e = .returned (.tuple #[.agg #[.int .i64 ((stX M y).c), .int .i64 ((stX M y).s), .int .i64 ((stX M y).pr), .int .i64 ((stX M y).pp), .int .i64 ((stX M y).ar), .int .i64 ((stX M y).ap), .int .i64 ((stX M y).k), .int .i64 ((stX M y).m), .int .i64 ((stX M y).n), .string ((stX M y).t)], .bool true]) ∧ AAt w' p (stX M y) ∧ But (Xp p) w w' :=
  act_any y.x y.r y.q y.k y.m y.n y.t w p M hp (by rw [hM.c]; exact hc) (by have := hM.t; omega) (by omega) hy.kd hL
theorem Sm.is_row (w : World) (p : Nat) (M : AcM) (c s : Int) (hp : AAt w p M) (hc : c ≠ 0) (hM : OkM c s M) : Calls Tryz.prog 18 #[.pointer (some ⟨p, 0, none⟩), .agg #[.int .i64 M.c, .int .i64 M.s, .int .i64 M.pr, .int .i64 M.pp, .int .i64 M.ar, .int .i64 M.ap, .int .i64 M.k, .int .i64 M.m, .int .i64 M.n, .string M.t]] w fun e w' => e = .returned (.bool true) ∧ Below w.heap.size w w' :=
  is_any w p M hp (by rw [hM.c]; exact hc) (by have := hM.t; omega) hM.good
theorem Sm.chB_ne {c : Int} (h : chB c = true) : c ≠ 0 := by have := chB_pos h; omega
/-- a call's outcome, told from a base -/
theorem Sm.below_but {N : Nat} {w w1 w2 : World} {p : Nat} (h : Below N w w1) (hb : But (Xp p) w1 w2) (h1 : N ≤ w1.heap.size) (hp : N ≤ p) : Below N w w2 := h.trans (hb.to_below h1 (fun b e => by rw [show b = p from e]; exact hp))
set_option maxRecDepth 100000 in
set_option maxHeartbeats 1000000 in
theorem Sm.plays_many (c s : Int) (A : Option Addr) (n cap : Nat) (xs : List XV) (w : World) (hn : xs.length = n) (hnc : n ≤ cap) (hc9 : cap ≤ 9223372036854775807) (hx : RdX w A xs) (hcm : ∀ y ∈ xs, XV.came y) (hL : LaysT w) (hf : fewB xs 40 = false) :
    Calls Tryz.prog 3 #[.int .i64 c, .int .i64 s, .slice A n cap] w fun e w' => e = .returned (.bool true) ∧ Below w.heap.size w w' := by
  have h1 := few_any A n cap xs 40 w hn hnc hc9 hx hcm
  rw [hf] at h1
  have HW := Lib.hid (fun W (hb : Below w.heap.size w W) => works_any W (hL.keep hb))
  clear hn hx hcm hL hf
  go_enter Tryz.func3, Tryz.ntmps3
  go_wp2_with (first
    | (go_at_call 6; (with_reducible refine h1.mono ?_); clear h1; rintro e w1 ⟨rfl, hb1⟩)
    | (go_at_call 7; (with_reducible refine (HW.out _ hb1).mono ?_); clear HW; rintro e w2 ⟨rfl, hb2⟩))
  go_ret
  exact ⟨rfl, hb1.trans (hb2.mono hb1.size)⟩
/-- what is asked of none -/
theorem Sm.none_pro (w : World) (P : Option Nat) (h : OAt w P zeroM) (r q : Int) : Calls Tryz.prog 10 #[pV P, .agg #[.int .i64 r, .int .i64 q]] w fun e w' => e = .returned (.tuple #[.agg #[.int .i64 0, .int .i64 0, .int .i64 0, .int .i64 0, .int .i64 0, .string ⟨#[]⟩], .bool false, .int .i64 1]) ∧ Below w.heap.size w w' := by
  cases P with
  | none => exact promise_no r q w
  | some p => exact promise_zero r q w p zeroM h rfl
theorem Sm.none_acc (w : World) (P : Option Nat) (h : OAt w P zeroM) (r q : Int) (hL : LaysT w) : Calls Tryz.prog 11 #[pV P, .agg #[.int .i64 r, .int .i64 q], .agg #[.int .i64 0, .int .i64 0, .int .i64 0, .string ⟨#[]⟩]] w fun e w' => e = .returned (.tuple #[.bool false, .int .i64 1]) ∧ Below w.heap.size w w' := by
  cases P with
  | none => exact accept_no r q 0 0 0 ⟨#[]⟩ w (by unfold I64; omega) (by decide) hL
  | some p => exact accept_zero r q 0 0 0 ⟨#[]⟩ w p zeroM h rfl (by unfold I64; omega) (by decide) hL
/-- what holds from round to round: an acceptor and the document's stand alike -/
structure Sm.LpP (w w5 : World) (p b9 : Nat) (P : Option Nat) (M : AcM) (wr : World) : Prop where
  at_ : AAt wr p M
  doc : wr.heap[b9]? = some (.cells #[.int .i64 M.c, .int .i64 M.s, .int .i64 M.pr, .int .i64 M.pp, .int .i64 M.ar, .int .i64 M.ap, .int .i64 M.k, .int .i64 M.m, .int .i64 M.n, .string M.t] 38 (0, 0))
  none_ : OAt wr P zeroM
  below : Below w.heap.size w wr
  size : w5.heap.size ≤ wr.heap.size
theorem Sm.OAt.but {w w' : World} {P : Option Nat} {M : AcM} {p : Nat} (h : OAt w P M) (hb : But (Xp p) w w') (hn : ∀ z, P = some z → z ≠ p) : OAt w' P M := by
  cases P with
  | none => exact h
  | some z => exact hb.box h (hn z rfl)
theorem Sm.OAt.of_heap {w w' : World} {P : Option Nat} {M : AcM} (h : OAt w P M) (hb : ∀ z, P = some z → w'.heap[z]? = w.heap[z]?) : OAt w' P M := by
  cases P with
  | none => exact h
  | some z => exact (hb z rfl).trans h
set_option maxRecDepth 100000 in
set_option maxHeartbeats 4000000 in
theorem Sm.plays_err_false (c s : Int) (A : Option Addr) (n cap : Nat) (xs : List XV) (w : World) (hn : xs.length = n) (hnc : n ≤ cap) (hc9 : cap ≤ 9223372036854775807) (hx : RdX w A xs) (hcm : ∀ y ∈ xs, XV.came y) (hL : LaysT w) (hf : fewB xs 40 = true) (hpar : ((n : Int) % 2 == 1) = false) (hv : ¬ (chB c = true ∧ slB s = true)) :
    Calls Tryz.prog 3 #[.int .i64 c, .int .i64 s, .slice A n cap] w fun e w' => e = .returned (.bool true) ∧ Below w.heap.size w w' := by
  have h1 := few_any A n cap xs 40 w hn hnc hc9 hx hcm
  obtain ⟨hsm, hmost⟩ := few_small hf
  rw [hf] at h1
  have HX := Lib.hid hx
  have HN := Lib.hid hn
  have HCM := Lib.hid hcm
  have HSM := Lib.hid hsm
  have HL := Lib.hid hL
  have hs0 := hL.size
  have hn40 : n ≤ 40 := by omega
  clear hx hn hcm hL hf hsm hmost
  have H2 := Lib.hid (fun W => new_no c s W hv)
  obtain ⟨ev, hev⟩ : ∃ ev, (slotV c s (s % c)).2 = ev := ⟨_, rfl⟩
  have hev0 : (ev != 0) = true := by rw [← hev]; simp only [bne_iff_ne, ne_eq, slotV_e]; exact hv
  have H3 : Hid (∀ W, Calls Tryz.prog 9 #[.int .i64 c, .int .i64 s] W fun e w' => e = .returned (.tuple #[.agg #[.int .i64 0, .int .i64 0, .int .i64 0, .int .i64 0, .int .i64 0, .int .i64 0, .int .i64 0, .int .i64 0, .int .i64 0, .string ⟨#[]⟩], .int .i64 ev]) ∧ Below W.heap.size W w') := Lib.hid fun W => by
    rw [← hev]
    unfold slotV
    cases hc : chB c with
    | false => exact (rNew_arg c s W hc).mono fun e w' ⟨h1, h2⟩ => ⟨by rw [h1]; simp, h2⟩
    | true =>
      cases hs : slB s with
      | false => exact (rNew_range c s W hc hs).mono fun e w' ⟨h1, h2⟩ => ⟨by rw [h1]; simp, h2⟩
      | true => exact absurd ⟨hc, hs⟩ hv
  rw [hev] at H2
  clear hv hev
  go_enter Tryz.func3, Tryz.ntmps3
  go_upto_region 3 with (go_at_call 6; (with_reducible refine h1.mono ?_); clear h1; rintro e w1 ⟨rfl, hb1⟩)
  go_upto_region 4 with (go_at_call 8; (with_reducible refine (H2.out _).mono ?_); rintro e w2 ⟨rfl, hb2⟩)
  go_upto_region 5 with (go_at_call 9; (with_reducible refine (H3.out _).mono ?_); rintro e w3 ⟨rfl, hb3⟩)
  have hb03 := hb1.trans ((hb2.trans (hb3.mono hb2.size)).mono hb1.size)
  have q9 := World.alloc_heap_new w3 (.cells #[.int .i64 0, .int .i64 0, .int .i64 0, .int .i64 0, .int .i64 0, .int .i64 0, .int .i64 0, .int .i64 0, .int .i64 0, .string ⟨#[]⟩] 38)
  have hb4 := hb03.alloc hb03.size (.cells #[.int .i64 0, .int .i64 0, .int .i64 0, .int .i64 0, .int .i64 0, .int .i64 0, .int .i64 0, .int .i64 0, .int .i64 0, .string ⟨#[]⟩] 38)
  obtain ⟨w4, hw4⟩ : ∃ v, w3.alloc (.cells #[.int .i64 0, .int .i64 0, .int .i64 0, .int .i64 0, .int .i64 0, .int .i64 0, .int .i64 0, .int .i64 0, .int .i64 0, .string ⟨#[]⟩] 38) = v := ⟨_, rfl⟩
  rw [hw4] at q9 hb4 ⊢
  have hw34 : w3.heap.size < w4.heap.size := (Array.getElem?_eq_some_iff.1 q9).1
  clear hw4 hb03 hb1 hb2 hb3 H2 H3
  go_upto_region 8 with fail
  obtain ⟨w5, hw5⟩ : ∃ v, w4 = v := ⟨_, rfl⟩
  rw [hw5] at q9 hb4 ⊢
  have hO : OAt w5 none zeroM := rfl
  have hb5 := hb4
  have q95 := q9
  clear hw5 q9 hb4 hpar
  have hL5 := HL.out.keep hb5
  have C10 : Hid (∀ W, Below w5.heap.size w5 W → Calls Tryz.prog 10 #[.pointer none, .agg #[.int .i64 1, .int .i64 0]] W fun e w' => e = .returned (.tuple #[.agg #[.int .i64 0, .int .i64 0, .int .i64 0, .int .i64 0, .int .i64 0, .string ⟨#[]⟩], .bool false, .int .i64 1]) ∧ Below w5.heap.size w5 w') := Lib.hid fun W hb => (none_pro W none (hO.keep hb) 1 0).mono fun e w' ⟨h1, h2⟩ => ⟨h1, hb.trans (h2.mono hb.size)⟩
  have C11 : Hid (∀ W, Below w5.heap.size w5 W → Calls Tryz.prog 11 #[.pointer none, .agg #[.int .i64 1, .int .i64 0], .agg #[.int .i64 0, .int .i64 0, .int .i64 0, .string ⟨#[]⟩]] W fun e w' => e = .returned (.tuple #[.bool false, .int .i64 1]) ∧ Below w5.heap.size w5 w') := Lib.hid fun W hb => (none_acc W none (hO.keep hb) 1 0 (hL5.keep hb)).mono fun e w' ⟨h1, h2⟩ => ⟨h1, hb.trans (h2.mono hb.size)⟩
  have C12 : Hid (∀ W, Below w5.heap.size w5 W → Calls Tryz.prog 12 #[.pointer none] W fun e w' => e = .returned (.tuple #[.agg #[.int .i64 0, .int .i64 0, .int .i64 0, .int .i64 0, .int .i64 0, .string ⟨#[]⟩], .bool false]) ∧ Below w5.heap.size w5 w') := Lib.hid fun W hb => (accd_no W none zeroM (hO.keep hb) rfl).mono fun e w' ⟨h1, h2⟩ => ⟨h1, hb.trans (h2.mono hb.size)⟩
  have C14 : Hid (∀ W, Below w5.heap.size w5 W → Calls Tryz.prog 14 #[.pointer none] W fun e w' => e = .returned (.agg #[.int .i64 0, .int .i64 0]) ∧ Below w5.heap.size w5 w') := Lib.hid fun W hb => (Promised_any W none zeroM (hO.keep hb)).mono fun e w' ⟨h1, h2⟩ => ⟨h1, hb.trans (h2.mono hb.size)⟩
  have C15 : Hid (∀ W, Below w5.heap.size w5 W → Calls Tryz.prog 15 #[.pointer none] W fun e w' => e = .returned (.pointer none) ∧ Below w5.heap.size w5 w') := Lib.hid fun W hb => (copy_no W none zeroM (hO.keep hb) rfl).mono fun e w' ⟨h1, h2⟩ => ⟨h1, hb.trans (h2.mono hb.size)⟩
  have C16 : Hid (∀ W, Below w5.heap.size w5 W → Calls Tryz.prog 16 #[.pointer none, .pointer none] W fun e w' => e = .returned (.bool true) ∧ Below w5.heap.size w5 w') := Lib.hid fun W hb => (Same_any W none none zeroM zeroM (hO.keep hb) rfl).mono fun e w' ⟨h1, h2⟩ => ⟨h1, hb.trans (h2.mono hb.size)⟩
  have hnum := fun x W => num_any x W
  have HO := Lib.hid hO
  have HL5 := Lib.hid hL5
  have HB5 := Lib.hid hb5
  have H95 := Lib.hid q95
  clear hO hL5 hb5 q95
  go_upto_region 13 with (first
    | (go_at_call 10; (with_reducible refine (C10.out _ (Below.refl _ _)).mono ?_); clear C10; rintro e w6 ⟨rfl, hb6⟩; have hb7 := hb6.alloc hb6.size (.cells #[.int .i64 0, .int .i64 0, .int .i64 0, .int .i64 0, .int .i64 0, .string ⟨#[]⟩] 36); clear hb6)
    | (go_at_call 11; (with_reducible refine (C11.out _ hb7).mono ?_); clear C11 hb7; rintro e w8 ⟨rfl, hb8⟩)
    | (go_at_call 12; (with_reducible refine (C12.out _ hb8).mono ?_); clear C12 hb8; rintro e w9 ⟨rfl, hb9⟩; have hb10 := hb9.alloc hb9.size (.cells #[.int .i64 0, .int .i64 0, .int .i64 0, .int .i64 0, .int .i64 0, .string ⟨#[]⟩] 36); clear hb9)
    | (go_at_call 13; (with_reducible refine (hnum _ _).mono ?_); rintro e w' ⟨rfl, rfl⟩)
    | (go_at_call 14; (with_reducible refine (C14.out _ hb10).mono ?_); clear C14 hb10; rintro e w11 ⟨rfl, hb11⟩)
    | (go_at_call 15; (with_reducible refine (C15.out _ hb11).mono ?_); clear C15 hb11; rintro e w12 ⟨rfl, hb12⟩)
    | (go_at_call 16; (with_reducible refine (C16.out _ hb12).mono ?_); clear C16 hb12; rintro e w13 ⟨rfl, hb13⟩))
  have HW := Lib.hid (works_any w13 (HL5.out.keep hb13))
  go_wp2_with (first
    | (go_at_call 13; (with_reducible refine (hnum _ _).mono ?_); rintro e w' ⟨rfl, rfl⟩)
    | (go_at_call 7; (with_reducible refine HW.out.mono ?_); clear HW; rintro e w14 ⟨rfl, hb14⟩))
  go_ret
  exact ⟨rfl, HB5.out.trans ((hb13.trans (hb14.mono hb13.size)).mono HB5.out.size)⟩
set_option maxRecDepth 100000 in
set_option maxHeartbeats 4000000 in
theorem Sm.plays_err_true (c s : Int) (A : Option Addr) (n cap : Nat) (xs : List XV) (w : World) (hn : xs.length = n) (hnc : n ≤ cap) (hc9 : cap ≤ 9223372036854775807) (hx : RdX w A xs) (hcm : ∀ y ∈ xs, XV.came y) (hL : LaysT w) (hf : fewB xs 40 = true) (hpar : ((n : Int) % 2 == 1) = true) (hv : ¬ (chB c = true ∧ slB s = true)) :
    Calls Tryz.prog 3 #[.int .i64 c, .int .i64 s, .slice A n cap] w fun e w' => e = .returned (.bool true) ∧ Below w.heap.size w w' := by
  have h1 := few_any A n cap xs 40 w hn hnc hc9 hx hcm
  obtain ⟨hsm, hmost⟩ := few_small hf
  rw [hf] at h1
  have HX := Lib.hid hx
  have HN := Lib.hid hn
  have HCM := Lib.hid hcm
  have HSM := Lib.hid hsm
  have HL := Lib.hid hL
  have hs0 := hL.size
  have hn40 : n ≤ 40 := by omega
  clear hx hn hcm hL hf hsm hmost
  have H2 := Lib.hid (fun W => new_no c s W hv)
  obtain ⟨ev, hev⟩ : ∃ ev, (slotV c s (s % c)).2 = ev := ⟨_, rfl⟩
  have hev0 : (ev != 0) = true := by rw [← hev]; simp only [bne_iff_ne, ne_eq, slotV_e]; exact hv
  have H3 : Hid (∀ W, Calls Tryz.prog 9 #[.int .i64 c, .int .i64 s] W fun e w' => e = .returned (.tuple #[.agg #[.int .i64 0, .int .i64 0, .int .i64 0, .int .i64 0, .int .i64 0, .int .i64 0, .int .i64 0, .int .i64 0, .int .i64 0, .string ⟨#[]⟩], .int .i64 ev]) ∧ Below W.heap.size W w') := Lib.hid fun W => by
    rw [← hev]
    unfold slotV
    cases hc : chB c with
    | false => exact (rNew_arg c s W hc).mono fun e w' ⟨h1, h2⟩ => ⟨by rw [h1]; simp, h2⟩
    | true =>
      cases hs : slB s with
      | false => exact (rNew_range c s W hc hs).mono fun e w' ⟨h1, h2⟩ => ⟨by rw [h1]; simp, h2⟩
      | true => exact absurd ⟨hc, hs⟩ hv
  rw [hev] at H2
  clear hv hev
  go_enter Tryz.func3, Tryz.ntmps3
  go_upto_region 3 with (go_at_call 6; (with_reducible refine h1.mono ?_); clear h1; rintro e w1 ⟨rfl, hb1⟩)
  go_upto_region 4 with (go_at_call 8; (with_reducible refine (H2.out _).mono ?_); rintro e w2 ⟨rfl, hb2⟩)
  go_upto_region 5 with (go_at_call 9; (with_reducible refine (H3.out _).mono ?_); rintro e w3 ⟨rfl, hb3⟩)
  have hb03 := hb1.trans ((hb2.trans (hb3.mono hb2.size)).mono hb1.size)
  have q9 := World.alloc_heap_new w3 (.cells #[.int .i64 0, .int .i64 0, .int .i64 0, .int .i64 0, .int .i64 0, .int .i64 0, .int .i64 0, .int .i64 0, .int .i64 0, .string ⟨#[]⟩] 38)
  have hb4 := hb03.alloc hb03.size (.cells #[.int .i64 0, .int .i64 0, .int .i64 0, .int .i64 0, .int .i64 0, .int .i64 0, .int .i64 0, .int .i64 0, .int .i64 0, .string ⟨#[]⟩] 38)
  obtain ⟨w4, hw4⟩ : ∃ v, w3.alloc (.cells #[.int .i64 0, .int .i64 0, .int .i64 0, .int .i64 0, .int .i64 0, .int .i64 0, .int .i64 0, .int .i64 0, .int .i64 0, .string ⟨#[]⟩] 38) = v := ⟨_, rfl⟩
  rw [hw4] at q9 hb4 ⊢
  have hw34 : w3.heap.size < w4.heap.size := (Array.getElem?_eq_some_iff.1 q9).1
  clear hw4 hb03 hb1 hb2 hb3 H2 H3
  go_upto_region 8 with fail
  have hz := World.alloc_heap_new w4 (.cells #[.int .i64 0, .int .i64 0, .int .i64 0, .int .i64 0, .int .i64 0, .int .i64 0, .int .i64 0, .int .i64 0, .int .i64 0, .string ⟨#[]⟩] 44)
  have hb5 := hb4.alloc hb4.size (.cells #[.int .i64 0, .int .i64 0, .int .i64 0, .int .i64 0, .int .i64 0, .int .i64 0, .int .i64 0, .int .i64 0, .int .i64 0, .string ⟨#[]⟩] 44)
  have q95 := (Below.heap_alloc w4 (.cells #[.int .i64 0, .int .i64 0, .int .i64 0, .int .i64 0, .int .i64 0, .int .i64 0, .int .i64 0, .int .i64 0, .int .i64 0, .string ⟨#[]⟩] 44) w3.heap.size (Array.getElem?_eq_some_iff.1 q9).1).trans q9
  obtain ⟨w5, hw5⟩ : ∃ v, w4.alloc (.cells #[.int .i64 0, .int .i64 0, .int .i64 0, .int .i64 0, .int .i64 0, .int .i64 0, .int .i64 0, .int .i64 0, .int .i64 0, .string ⟨#[]⟩] 44) = v := ⟨_, rfl⟩
  rw [hw5] at hz hb5 q95 ⊢
  have hO : OAt w5 (some w4.heap.size) zeroM := hz
  clear hw5 q9 hb4 hz hpar
  have hL5 := HL.out.keep hb5
  have C10 : Hid (∀ W, Below w5.heap.size w5 W → Calls Tryz.prog 10 #[.pointer (some ⟨w4.heap.size, 0, none⟩), .agg #[.int .i64 1, .int .i64 0]] W fun e w' => e = .returned (.tuple #[.agg #[.int .i64 0, .int .i64 0, .int .i64 0, .int .i64 0, .int .i64 0, .string ⟨#[]⟩], .bool false, .int .i64 1]) ∧ Below w5.heap.size w5 w') := Lib.hid fun W hb => (none_pro W (some w4.heap.size) (hO.keep hb) 1 0).mono fun e w' ⟨h1, h2⟩ => ⟨h1, hb.trans (h2.mono hb.size)⟩
  have C11 : Hid (∀ W, Below w5.heap.size w5 W → Calls Tryz.prog 11 #[.pointer (some ⟨w4.heap.size, 0, none⟩), .agg #[.int .i64 1, .int .i64 0], .agg #[.int .i64 0, .int .i64 0, .int .i64 0, .string ⟨#[]⟩]] W fun e w' => e = .returned (.tuple #[.bool false, .int .i64 1]) ∧ Below w5.heap.size w5 w') := Lib.hid fun W hb => (none_acc W (some w4.heap.size) (hO.keep hb) 1 0 (hL5.keep hb)).mono fun e w' ⟨h1, h2⟩ => ⟨h1, hb.trans (h2.mono hb.size)⟩
  have C12 : Hid (∀ W, Below w5.heap.size w5 W → Calls Tryz.prog 12 #[.pointer (some ⟨w4.heap.size, 0, none⟩)] W fun e w' => e = .returned (.tuple #[.agg #[.int .i64 0, .int .i64 0, .int .i64 0, .int .i64 0, .int .i64 0, .string ⟨#[]⟩], .bool false]) ∧ Below w5.heap.size w5 w') := Lib.hid fun W hb => (accd_no W (some w4.heap.size) zeroM (hO.keep hb) rfl).mono fun e w' ⟨h1, h2⟩ => ⟨h1, hb.trans (h2.mono hb.size)⟩
  have C14 : Hid (∀ W, Below w5.heap.size w5 W → Calls Tryz.prog 14 #[.pointer (some ⟨w4.heap.size, 0, none⟩)] W fun e w' => e = .returned (.agg #[.int .i64 0, .int .i64 0]) ∧ Below w5.heap.size w5 w') := Lib.hid fun W hb => (Promised_any W (some w4.heap.size) zeroM (hO.keep hb)).mono fun e w' ⟨h1, h2⟩ => ⟨h1, hb.trans (h2.mono hb.size)⟩
  have C15 : Hid (∀ W, Below w5.heap.size w5 W → Calls Tryz.prog 15 #[.pointer (some ⟨w4.heap.size, 0, none⟩)] W fun e w' => e = .returned (.pointer none) ∧ Below w5.heap.size w5 w') := Lib.hid fun W hb => (copy_no W (some w4.heap.size) zeroM (hO.keep hb) rfl).mono fun e w' ⟨h1, h2⟩ => ⟨h1, hb.trans (h2.mono hb.size)⟩
  have C16 : Hid (∀ W, Below w5.heap.size w5 W → Calls Tryz.prog 16 #[.pointer (some ⟨w4.heap.size, 0, none⟩), .pointer none] W fun e w' => e = .returned (.bool true) ∧ Below w5.heap.size w5 w') := Lib.hid fun W hb => (Same_any W (some w4.heap.size) none zeroM zeroM (hO.keep hb) rfl).mono fun e w' ⟨h1, h2⟩ => ⟨h1, hb.trans (h2.mono hb.size)⟩
  have hnum := fun x W => num_any x W
  have HO := Lib.hid hO
  have HL5 := Lib.hid hL5
  have HB5 := Lib.hid hb5
  have H95 := Lib.hid q95
  clear hO hL5 hb5 q95
  go_upto_region 13 with (first
    | (go_at_call 10; (with_reducible refine (C10.out _ (Below.refl _ _)).mono ?_); clear C10; rintro e w6 ⟨rfl, hb6⟩; have hb7 := hb6.alloc hb6.size (.cells #[.int .i64 0, .int .i64 0, .int .i64 0, .int .i64 0, .int .i64 0, .string ⟨#[]⟩] 36); clear hb6)
    | (go_at_call 11; (with_reducible refine (C11.out _ hb7).mono ?_); clear C11 hb7; rintro e w8 ⟨rfl, hb8⟩)
    | (go_at_call 12; (with_reducible refine (C12.out _ hb8).mono ?_); clear C12 hb8; rintro e w9 ⟨rfl, hb9⟩; have hb10 := hb9.alloc hb9.size (.cells #[.int .i64 0, .int .i64 0, .int .i64 0, .int .i64 0, .int .i64 0, .string ⟨#[]⟩] 36); clear hb9)
    | (go_at_call 13; (with_reducible refine (hnum _ _).mono ?_); rintro e w' ⟨rfl, rfl⟩)
    | (go_at_call 14; (with_reducible refine (C14.out _ hb10).mono ?_); clear C14 hb10; rintro e w11 ⟨rfl, hb11⟩)
    | (go_at_call 15; (with_reducible refine (C15.out _ hb11).mono ?_); clear C15 hb11; rintro e w12 ⟨rfl, hb12⟩)
    | (go_at_call 16; (with_reducible refine (C16.out _ hb12).mono ?_); clear C16 hb12; rintro e w13 ⟨rfl, hb13⟩))
  have HW := Lib.hid (works_any w13 (HL5.out.keep hb13))
  go_wp2_with (first
    | (go_at_call 13; (with_reducible refine (hnum _ _).mono ?_); rintro e w' ⟨rfl, rfl⟩)
    | (go_at_call 7; (with_reducible refine HW.out.mono ?_); clear HW; rintro e w14 ⟨rfl, hb14⟩))
  go_ret
  exact ⟨rfl, HB5.out.trans ((hb13.trans (hb14.mono hb13.size)).mono HB5.out.size)⟩
set_option maxRecDepth 100000 in
set_option maxHeartbeats 4000000 in
theorem Sm.plays_good_false (c s : Int) (A : Option Addr) (n cap : Nat) (xs : List XV) (w : World) (hn : xs.length = n) (hnc : n ≤ cap) (hc9 : cap ≤ 9223372036854775807) (hx : RdX w A xs) (hcm : ∀ y ∈ xs, XV.came y) (hL : LaysT w) (hf : fewB xs 40 = true) (hpar : ((n : Int) % 2 == 1) = false) (hc : chB c = true) (hs : slB s = true) :
    Calls Tryz.prog 3 #[.int .i64 c, .int .i64 s, .slice A n cap] w fun e w' => e = .returned (.bool true) ∧ Below w.heap.size w w' := by
  have h1 := few_any A n cap xs 40 w hn hnc hc9 hx hcm
  obtain ⟨hsm, hmost⟩ := few_small hf
  rw [hf] at h1
  have HX := Lib.hid hx
  have HN := Lib.hid hn
  have HCM := Lib.hid hcm
  have HSM := Lib.hid hsm
  have HL := Lib.hid hL
  have hs0 := hL.size
  have hn40 : n ≤ 40 := by omega
  clear hx hn hcm hL hf hsm hmost
  have H2 := Lib.hid (fun W => new_yes c s W hc hs)
  have H3 := Lib.hid (fun W => rNew_yes c s W hc hs)
  have hc0 := chB_ne hc
  have hok := okNew c s
  obtain ⟨M0, hM0⟩ : ∃ M, newM c s = M := ⟨_, rfl⟩
  have H3 : Hid (∀ W, Calls Tryz.prog 9 #[.int .i64 c, .int .i64 s] W fun e w' => e = .returned (.tuple #[.agg #[.int .i64 M0.c, .int .i64 M0.s, .int .i64 M0.pr, .int .i64 M0.pp, .int .i64 M0.ar, .int .i64 M0.ap, .int .i64 M0.k, .int .i64 M0.m, .int .i64 M0.n, .string M0.t], .int .i64 0]) ∧ Below W.heap.size W w') := by rw [← hM0]; exact H3
  rw [hM0] at H2 hok
  have HOK := Lib.hid hok
  clear hc hs hM0 hok
  go_enter Tryz.func3, Tryz.ntmps3
  go_upto_region 3 with (go_at_call 6; (with_reducible refine h1.mono ?_); clear h1; rintro e w1 ⟨rfl, hb1⟩)
  go_upto_region 4 with (go_at_call 8; (with_reducible refine (H2.out _).mono ?_); rintro e w2 ⟨p, rfl, hp, hA2, hb2⟩)
  go_upto_region 5 with (go_at_call 9; (with_reducible refine (H3.out _).mono ?_); rintro e w3 ⟨rfl, hb3⟩)
  have hA3 := hA2.keep hb3
  have hb03 := hb1.trans ((hb2.trans (hb3.mono hb2.size)).mono hb1.size)
  have hw1 := hb1.size
  have hpw : w.heap.size ≤ p := by omega
  have hp9 : p < w3.heap.size := hA3.lt
  have q9 := World.alloc_heap_new w3 (.cells #[.int .i64 M0.c, .int .i64 M0.s, .int .i64 M0.pr, .int .i64 M0.pp, .int .i64 M0.ar, .int .i64 M0.ap, .int .i64 M0.k, .int .i64 M0.m, .int .i64 M0.n, .string M0.t] 38)
  have hb4 := hb03.alloc hb03.size (.cells #[.int .i64 M0.c, .int .i64 M0.s, .int .i64 M0.pr, .int .i64 M0.pp, .int .i64 M0.ar, .int .i64 M0.ap, .int .i64 M0.k, .int .i64 M0.m, .int .i64 M0.n, .string M0.t] 38)
  have hA4 : AAt (w3.alloc (.cells #[.int .i64 M0.c, .int .i64 M0.s, .int .i64 M0.pr, .int .i64 M0.pp, .int .i64 M0.ar, .int .i64 M0.ap, .int .i64 M0.k, .int .i64 M0.m, .int .i64 M0.n, .string M0.t] 38)) p M0 := (Below.heap_alloc w3 _ p hA3.lt).trans hA3
  obtain ⟨w4, hw4⟩ : ∃ v, w3.alloc (.cells #[.int .i64 M0.c, .int .i64 M0.s, .int .i64 M0.pr, .int .i64 M0.pp, .int .i64 M0.ar, .int .i64 M0.ap, .int .i64 M0.k, .int .i64 M0.m, .int .i64 M0.n, .string M0.t] 38) = v := ⟨_, rfl⟩
  rw [hw4] at q9 hb4 hA4 ⊢
  have hw34 : w3.heap.size < w4.heap.size := (Array.getElem?_eq_some_iff.1 q9).1
  clear hw4 hb03 hb1 hb2 hb3 H2 H3 hA2 hA3
  go_upto_region 8 with fail
  obtain ⟨w5, hw5⟩ : ∃ v, w4 = v := ⟨_, rfl⟩
  rw [hw5] at q9 hb4 hA4 ⊢
  have hO : OAt w5 none zeroM := rfl
  have hb5 := hb4
  have q95 := q9
  have hA5 := hA4
  clear hw5 q9 hb4 hA4 hpar
  have hL5 := HL.out.keep hb5
  have C10 : Hid (∀ W, Below w5.heap.size w5 W → Calls Tryz.prog 10 #[.pointer none, .agg #[.int .i64 1, .int .i64 0]] W fun e w' => e = .returned (.tuple #[.agg #[.int .i64 0, .int .i64 0, .int .i64 0, .int .i64 0, .int .i64 0, .string ⟨#[]⟩], .bool false, .int .i64 1]) ∧ Below w5.heap.size w5 w') := Lib.hid fun W hb => (none_pro W none (hO.keep hb) 1 0).mono fun e w' ⟨h1, h2⟩ => ⟨h1, hb.trans (h2.mono hb.size)⟩
  have C11 : Hid (∀ W, Below w5.heap.size w5 W → Calls Tryz.prog 11 #[.pointer none, .agg #[.int .i64 1, .int .i64 0], .agg #[.int .i64 0, .int .i64 0, .int .i64 0, .string ⟨#[]⟩]] W fun e w' => e = .returned (.tuple #[.bool false, .int .i64 1]) ∧ Below w5.heap.size w5 w') := Lib.hid fun W hb => (none_acc W none (hO.keep hb) 1 0 (hL5.keep hb)).mono fun e w' ⟨h1, h2⟩ => ⟨h1, hb.trans (h2.mono hb.size)⟩
  have C12 : Hid (∀ W, Below w5.heap.size w5 W → Calls Tryz.prog 12 #[.pointer none] W fun e w' => e = .returned (.tuple #[.agg #[.int .i64 0, .int .i64 0, .int .i64 0, .int .i64 0, .int .i64 0, .string ⟨#[]⟩], .bool false]) ∧ Below w5.heap.size w5 w') := Lib.hid fun W hb => (accd_no W none zeroM (hO.keep hb) rfl).mono fun e w' ⟨h1, h2⟩ => ⟨h1, hb.trans (h2.mono hb.size)⟩
  have C14 : Hid (∀ W, Below w5.heap.size w5 W → Calls Tryz.prog 14 #[.pointer none] W fun e w' => e = .returned (.agg #[.int .i64 0, .int .i64 0]) ∧ Below w5.heap.size w5 w') := Lib.hid fun W hb => (Promised_any W none zeroM (hO.keep hb)).mono fun e w' ⟨h1, h2⟩ => ⟨h1, hb.trans (h2.mono hb.size)⟩
  have C15 : Hid (∀ W, Below w5.heap.size w5 W → Calls Tryz.prog 15 #[.pointer none] W fun e w' => e = .returned (.pointer none) ∧ Below w5.heap.size w5 w') := Lib.hid fun W hb => (copy_no W none zeroM (hO.keep hb) rfl).mono fun e w' ⟨h1, h2⟩ => ⟨h1, hb.trans (h2.mono hb.size)⟩
  have C16 : Hid (∀ W, Below w5.heap.size w5 W → Calls Tryz.prog 16 #[.pointer none, .pointer none] W fun e w' => e = .returned (.bool true) ∧ Below w5.heap.size w5 w') := Lib.hid fun W hb => (Same_any W none none zeroM zeroM (hO.keep hb) rfl).mono fun e w' ⟨h1, h2⟩ => ⟨h1, hb.trans (h2.mono hb.size)⟩
  have hnum := fun x W => num_any x W
  have HO := Lib.hid hO
  have HL5 := Lib.hid hL5
  have HB5 := Lib.hid hb5
  have H95 := Lib.hid q95
  clear hO hL5 hb5 q95
  go_upto_region 13 with (first
    | (go_at_call 10; (with_reducible refine (C10.out _ (Below.refl _ _)).mono ?_); clear C10; rintro e w6 ⟨rfl, hb6⟩; have hb7 := hb6.alloc hb6.size (.cells #[.int .i64 0, .int .i64 0, .int .i64 0, .int .i64 0, .int .i64 0, .string ⟨#[]⟩] 36); clear hb6)
    | (go_at_call 11; (with_reducible refine (C11.out _ hb7).mono ?_); clear C11 hb7; rintro e w8 ⟨rfl, hb8⟩)
    | (go_at_call 12; (with_reducible refine (C12.out _ hb8).mono ?_); clear C12 hb8; rintro e w9 ⟨rfl, hb9⟩; have hb10 := hb9.alloc hb9.size (.cells #[.int .i64 0, .int .i64 0, .int .i64 0, .int .i64 0, .int .i64 0, .string ⟨#[]⟩] 36); clear hb9)
    | (go_at_call 13; (with_reducible refine (hnum _ _).mono ?_); rintro e w' ⟨rfl, rfl⟩)
    | (go_at_call 14; (with_reducible refine (C14.out _ hb10).mono ?_); clear C14 hb10; rintro e w11 ⟨rfl, hb11⟩)
    | (go_at_call 15; (with_reducible refine (C15.out _ hb11).mono ?_); clear C15 hb11; rintro e w12 ⟨rfl, hb12⟩)
    | (go_at_call 16; (with_reducible refine (C16.out _ hb12).mono ?_); clear C16 hb12; rintro e w13 ⟨rfl, hb13⟩))
  have hLp0 : LpP w w5 p w3.heap.size none M0 w13 := ⟨hA5.keep hb13, (hb13.block _ (Array.getElem?_eq_some_iff.1 H95.out).1).trans H95.out, HO.out.keep hb13, HB5.out.trans (hb13.mono HB5.out.size), hb13.size⟩
  have HLp0 := Lib.hid hLp0
  have hz : ∀ z, none = some z → z ≠ p := by
    intro z e
    exact absurd e (by simp)
  have HZ := Lib.hid hz
  have hz9 : ∀ z, none = some z → z ≠ w3.heap.size := by
    intro z e
    exact absurd e (by simp)
  have HZ9 := Lib.hid hz9
  have hw5 : w.heap.size ≤ w5.heap.size := HB5.out.size
  have hw35 : w3.heap.size < w5.heap.size := (Array.getElem?_eq_some_iff.1 H95.out).1
  have hww3 : w.heap.size ≤ w3.heap.size := by omega
  clear hA5 hb13 HO hz hz9 hLp0 H95
  go_wp2
  go_loopw [19] (fun v19 wr => ∃ k : Nat, k ≤ n ∧ v19 = .int .i64 (k : Int) ∧ Hid (LpP w w5 p w3.heap.size none (playM M0 (xs.take k)) wr)) (fun v19 _ => n - (RowKit.intOf v19).toNat)
  case atStart => exact ⟨0, Nat.zero_le _, rfl, HLp0⟩
  case round =>
    obtain ⟨k, hk, rfl, HLP⟩ := hrel
    have hcr := HLP.out.below
    have hokk : OkM c s (playM M0 (xs.take k)) := HOK.out.play _ (fun y hy => HSM.out y (List.mem_of_mem_take hy))
    obtain ⟨M, hM⟩ : ∃ M, playM M0 (xs.take k) = M := ⟨_, rfl⟩
    rw [hM] at HLP hokk
    have HOKK := Lib.hid hokk
    have HCR := Lib.hid hcr
    clear hokk hcr
    obtain ⟨⟨d0, d1, d2, d3, d4, d5, d6, d7, d8, d9⟩, ⟨f0, f1, f2, f3, f4, f5, f6, f7, f8, f9⟩⟩ := ten HLP.out.doc
    have hl9 : w3.heap.size < wr.heap.size := (Array.getElem?_eq_some_iff.1 HLP.out.doc).1
    by_cases hlt : k < n
    · have hkx : k < xs.length := by rw [HN.out]; exact hlt
      have hst := take_play M0 hkx
      rw [hM] at hst
      have HST := Lib.hid hst
      obtain ⟨b, off, rfl, hbl, hcl⟩ := HX.out.one hkx
      obtain ⟨y, hy⟩ : ∃ y, xs[k] = y := ⟨_, rfl⟩
      have hyc : y.came := by rw [← hy]; exact HCM.out _ (List.getElem_mem hkx)
      have hys : y.t.size ≤ 300 := by rw [← hy]; exact HSM.out _ (List.getElem_mem hkx)
      rw [hy] at hcl HST
      obtain ⟨x0, x1, x2, x3, x4, x5, x6⟩ := hcl wr HCR.out
      have HCL := Lib.hid hcl
      clear hst hcl hy hM
      have hLr : LaysT wr := HL.out.keep HCR.out
      have hact : ∀ W, AAt W p M → LaysT W → Calls Tryz.prog 17 #[.pointer (some ⟨p, 0, none⟩), .agg #[.int .i64 M.c, .int .i64 M.s, .int .i64 M.pr, .int .i64 M.pp, .int .i64 M.ar, .int .i64 M.ap, .int .i64 M.k, .int .i64 M.m, .int .i64 M.n, .string M.t], .agg #[.int .i64 y.x, .int .i64 y.r, .int .i64 y.q, .int .i64 y.k, .int .i64 y.m, .int .i64 y.n, .string y.t]] W fun e w' => e = .returned (.tuple #[.agg #[.int .i64 ((stX M y).c), .int .i64 ((stX M y).s), .int .i64 ((stX M y).pr), .int .i64 ((stX M y).pp), .int .i64 ((stX M y).ar), .int .i64 ((stX M y).ap), .int .i64 ((stX M y).k), .int .i64 ((stX M y).m), .int .i64 ((stX M y).n), .string ((stX M y).t)], .bool true]) ∧ AAt w' p (stX M y) ∧ But (Xp p) W w' := fun W h1 h2 => act_row y hyc hys W p M c s h1 hc0 HOKK.out h2
      have hokn : OkM c s (stX M y) := HOKK.out.step y hys
      obtain ⟨N, hN⟩ : ∃ N, stX M y = N := ⟨_, rfl⟩
      rw [hN] at hact HST hokn
      clear hN
      have HSo : Hid (∀ W, But (Xp p) wr W → (W.cell? ⟨w3.heap.size, 0, none⟩ = some (.int .i64 M.c) ∧ W.cell? ⟨w3.heap.size, 1, none⟩ = some (.int .i64 M.s) ∧ W.cell? ⟨w3.heap.size, 2, none⟩ = some (.int .i64 M.pr) ∧ W.cell? ⟨w3.heap.size, 3, none⟩ = some (.int .i64 M.pp) ∧ W.cell? ⟨w3.heap.size, 4, none⟩ = some (.int .i64 M.ar) ∧ W.cell? ⟨w3.heap.size, 5, none⟩ = some (.int .i64 M.ap) ∧ W.cell? ⟨w3.heap.size, 6, none⟩ = some (.int .i64 M.k) ∧ W.cell? ⟨w3.heap.size, 7, none⟩ = some (.int .i64 M.m) ∧ W.cell? ⟨w3.heap.size, 8, none⟩ = some (.int .i64 M.n) ∧ W.cell? ⟨w3.heap.size, 9, none⟩ = some (.string M.t)) ∧ (W.cell? ⟨b, off + k * 7, none⟩ = some (.int .i64 y.x) ∧ W.cell? ⟨b, off + k * 7 + 1, none⟩ = some (.int .i64 y.r) ∧ W.cell? ⟨b, off + k * 7 + 2, none⟩ = some (.int .i64 y.q) ∧ W.cell? ⟨b, off + k * 7 + 3, none⟩ = some (.int .i64 y.k) ∧ W.cell? ⟨b, off + k * 7 + 4, none⟩ = some (.int .i64 y.m) ∧ W.cell? ⟨b, off + k * 7 + 5, none⟩ = some (.int .i64 y.n) ∧ W.cell? ⟨b, off + k * 7 + 6, none⟩ = some (.string y.t))) := Lib.hid fun W hb => by
        have h9 := (ten (hb.box HLP.out.doc (by show ¬ (w3.heap.size = p); omega))).1
        have g : ∀ j v, wr.cell? ⟨b, j, none⟩ = some v → W.cell? ⟨b, j, none⟩ = some v := fun j v h => (hb.cell (p := ⟨b, j, none⟩) (Nat.lt_of_lt_of_le hbl HCR.out.size) (by show ¬ (b = p); omega)).trans h
        obtain ⟨g0, g1, g2, g3, g4, g5, g6⟩ := HCL.out wr HCR.out
        exact ⟨h9, g _ _ g0, g _ _ g1, g _ _ g2, g _ _ g3, g _ _ g4, g _ _ g5, g _ _ g6⟩
      have zo := HSo.out wr (But.refl _ _)
      clear x0 x1 x2 x3 x4 x5 x6 d0 d1 d2 d3 d4 d5 d6 d7 d8 d9 f0 f1 f2 f3 f4 f5 f6 f7 f8 f9
      go_upto_region 18 with fail
      go_cut [20, 21] from 109 to 118 (fun s20 s21 wx => ∃ b20 : Nat, s20 = .pointer (some ⟨b20, 0, none⟩) ∧ s21 = .bool true ∧ Hid (wx.heap[b20]? = some (.cells #[.int .i64 N.c, .int .i64 N.s, .int .i64 N.pr, .int .i64 N.pp, .int .i64 N.ar, .int .i64 N.ap, .int .i64 N.k, .int .i64 N.m, .int .i64 N.n, .string N.t] 38 (0, 0)) ∧ AAt wx p N ∧ But (Xp p) wr wx ∧ wr.heap.size ≤ b20))
      case first =>
        have hAd : AAt wr.drew p M := HLP.out.at_
        have hLd : LaysT wr.drew := hLr.keep (Below.refl _ _).drew
        have hS0 : (fun W => (W.cell? ⟨w3.heap.size, 0, none⟩ = some (.int .i64 M.c) ∧ W.cell? ⟨w3.heap.size, 1, none⟩ = some (.int .i64 M.s) ∧ W.cell? ⟨w3.heap.size, 2, none⟩ = some (.int .i64 M.pr) ∧ W.cell? ⟨w3.heap.size, 3, none⟩ = some (.int .i64 M.pp) ∧ W.cell? ⟨w3.heap.size, 4, none⟩ = some (.int .i64 M.ar) ∧ W.cell? ⟨w3.heap.size, 5, none⟩ = some (.int .i64 M.ap) ∧ W.cell? ⟨w3.heap.size, 6, none⟩ = some (.int .i64 M.k) ∧ W.cell? ⟨w3.heap.size, 7, none⟩ = some (.int .i64 M.m) ∧ W.cell? ⟨w3.heap.size, 8, none⟩ = some (.int .i64 M.n) ∧ W.cell? ⟨w3.heap.size, 9, none⟩ = some (.string M.t)) ∧ (W.cell? ⟨b, off + k * 7, none⟩ = some (.int .i64 y.x) ∧ W.cell? ⟨b, off + k * 7 + 1, none⟩ = some (.int .i64 y.r) ∧ W.cell? ⟨b, off + k * 7 + 2, none⟩ = some (.int .i64 y.q) ∧ W.cell? ⟨b, off + k * 7 + 3, none⟩ = some (.int .i64 y.k) ∧ W.cell? ⟨b, off + k * 7 + 4, none⟩ = some (.int .i64 y.m) ∧ W.cell? ⟨b, off + k * 7 + 5, none⟩ = some (.int .i64 y.n) ∧ W.cell? ⟨b, off + k * 7 + 6, none⟩ = some (.string y.t))) wr.drew := zo
        refine wp_region_held_drew (S := fun W => (W.cell? ⟨w3.heap.size, 0, none⟩ = some (.int .i64 M.c) ∧ W.cell? ⟨w3.heap.size, 1, none⟩ = some (.int .i64 M.s) ∧ W.cell? ⟨w3.heap.size, 2, none⟩ = some (.int .i64 M.pr) ∧ W.cell? ⟨w3.heap.size, 3, none⟩ = some (.int .i64 M.pp) ∧ W.cell? ⟨w3.heap.size, 4, none⟩ = some (.int .i64 M.ar) ∧ W.cell? ⟨w3.heap.size, 5, none⟩ = some (.int .i64 M.ap) ∧ W.cell? ⟨w3.heap.size, 6, none⟩ = some (.int .i64 M.k) ∧ W.cell? ⟨w3.heap.size, 7, none⟩ = some (.int .i64 M.m) ∧ W.cell? ⟨w3.heap.size, 8, none⟩ = some (.int .i64 M.n) ∧ W.cell? ⟨w3.heap.size, 9, none⟩ = some (.string M.t)) ∧ (W.cell? ⟨b, off + k * 7, none⟩ = some (.int .i64 y.x) ∧ W.cell? ⟨b, off + k * 7 + 1, none⟩ = some (.int .i64 y.r) ∧ W.cell? ⟨b, off + k * 7 + 2, none⟩ = some (.int .i64 y.q) ∧ W.cell? ⟨b, off + k * 7 + 3, none⟩ = some (.int .i64 y.k) ∧ W.cell? ⟨b, off + k * 7 + 4, none⟩ = some (.int .i64 y.m) ∧ W.cell? ⟨b, off + k * 7 + 5, none⟩ = some (.int .i64 y.n) ∧ W.cell? ⟨b, off + k * 7 + 6, none⟩ = some (.string y.t))) rfl hS0 (fun hHeld => ?_)
        simp only [List.size_toArray, List.length_cons, List.length_nil, Nat.reduceAdd]
        have HB0 : Hid (But (Xp p) wr wr.drew) := Lib.hid (But.refl _ _).drew
        obtain ⟨V0, hV0⟩ : ∃ V, wr.drew = V := ⟨_, rfl⟩
        rw [hV0] at hHeld hS0 HB0 hAd hLd ⊢
        clear hV0
        refine wpAnyH_take (i := 0) (v := .pointer (some ⟨p, 0, none⟩)) rfl (by kernel_rfl) (by kernel_rfl) (by kernel_rfl) (fun _ _ _ h => h) (Or.inl ⟨by rfl, ?_⟩) (by assumption) ?_
        · intro wx hs1; go_simp
        (try simp only [Act.put, List.getElem_toArray, List.getElem_cons_zero, List.setIfInBounds_toArray, List.set_cons_zero, List.set_cons_succ])
        refine wpAnyH_take (i := 1) (v := .agg #[.int .i64 M.c, .int .i64 M.s, .int .i64 M.pr, .int .i64 M.pp, .int .i64 M.ar, .int .i64 M.ap, .int .i64 M.k, .int .i64 M.m, .int .i64 M.n, .string M.t]) rfl (by kernel_rfl) (by kernel_rfl) (by kernel_rfl) (fun _ _ _ h => h) (Or.inl ⟨by rfl, ?_⟩) (by assumption) ?_
        · intro wx hs1; obtain ⟨⟨s0, s1, s2, s3, s4, s5, s6, s7, s8, s9⟩, ⟨x0, x1, x2, x3, x4, x5, x6⟩⟩ := hs1; go_simp
        (try simp only [Act.put, List.getElem_toArray, List.getElem_cons_succ, List.getElem_cons_zero, List.setIfInBounds_toArray, List.set_cons_zero, List.set_cons_succ])
        refine wpAnyH_take (i := 2) (v := .slice (some ⟨b, off, none⟩) n cap) rfl (by kernel_rfl) (by kernel_rfl) (by kernel_rfl) (fun _ _ _ h => h) (Or.inl ⟨by rfl, ?_⟩) (by assumption) ?_
        · intro wx hs1; go_simp
        (try simp only [Act.put, List.getElem_toArray, List.getElem_cons_succ, List.getElem_cons_zero, List.setIfInBounds_toArray, List.set_cons_zero, List.set_cons_succ])
        refine wpAnyH_take (i := 3) (v := .int .i64 (k : Int)) rfl (by kernel_rfl) (by kernel_rfl) (by kernel_rfl) (fun _ _ _ h => h) (Or.inl ⟨by rfl, ?_⟩) (by assumption) ?_
        · intro wx hs1; go_simp
        (try simp only [Act.put, List.getElem_toArray, List.getElem_cons_succ, List.getElem_cons_zero, List.setIfInBounds_toArray, List.set_cons_zero, List.set_cons_succ])
        refine wpAnyH_take (i := 4) (v := .pointer (some ⟨b, off + k * 7, none⟩)) rfl (by kernel_rfl) (by kernel_rfl) (by kernel_rfl) (fun _ _ _ h => h) (Or.inl ⟨by rfl, ?_⟩) (by assumption) ?_
        · intro wx hs1; go_simp
        (try simp only [Act.put, List.getElem_toArray, List.getElem_cons_succ, List.getElem_cons_zero, List.setIfInBounds_toArray, List.set_cons_zero, List.set_cons_succ])
        refine wpAnyH_take (i := 5) (v := .agg #[.int .i64 y.x, .int .i64 y.r, .int .i64 y.q, .int .i64 y.k, .int .i64 y.m, .int .i64 y.n, .string y.t]) rfl (by kernel_rfl) (by kernel_rfl) (by kernel_rfl) (fun _ _ _ h => h) (Or.inl ⟨by rfl, ?_⟩) (by assumption) ?_
        · intro wx hs1; obtain ⟨⟨s0, s1, s2, s3, s4, s5, s6, s7, s8, s9⟩, ⟨x0, x1, x2, x3, x4, x5, x6⟩⟩ := hs1; go_simp
        (try simp only [Act.put, List.getElem_toArray, List.getElem_cons_succ, List.getElem_cons_zero, List.setIfInBounds_toArray, List.set_cons_zero, List.set_cons_succ])
        refine wpAnyH_ready (rs := [6, 10]) (by kernel_rfl) (by simp) (AllReadyH.cons rfl (fun K hK => ?_) (AllReadyH.cons rfl (fun K hK => ?_) AllReadyH.nil))
        · go_simp
          go_at_call 17
          (with_reducible refine (hact _ hAd hLd).mono ?_)
          rintro e w9 ⟨rfl, hA9, hB9⟩
          try dsimp only
          have hb9o : But (Xp p) wr w9 := HB0.out.trans hB9 (fun _ _ e => e)
          refine hK.out _ _ (HSo.out _ hb9o) (fun _ => ?_)
          clear hK K hB9
          (try simp only [Act.put, List.getElem_toArray, List.getElem_cons_succ, List.getElem_cons_zero, List.setIfInBounds_toArray, List.set_cons_zero, List.set_cons_succ])
          refine wpAnyH_take (i := 7) (v := .tuple #[.agg #[.int .i64 N.c, .int .i64 N.s, .int .i64 N.pr, .int .i64 N.pp, .int .i64 N.ar, .int .i64 N.ap, .int .i64 N.k, .int .i64 N.m, .int .i64 N.n, .string N.t], .bool true]) rfl (by kernel_rfl) (by kernel_rfl) (by kernel_rfl) (fun _ _ _ h => h) (Or.inl ⟨by rfl, ?_⟩) (by assumption) ?_
          · intro wx hs1; go_simp
          (try simp only [Act.put, List.getElem_toArray, List.getElem_cons_succ, List.getElem_cons_zero, List.setIfInBounds_toArray, List.set_cons_zero, List.set_cons_succ])
          refine wpAnyH_take (i := 8) (v := .agg #[.int .i64 N.c, .int .i64 N.s, .int .i64 N.pr, .int .i64 N.pp, .int .i64 N.ar, .int .i64 N.ap, .int .i64 N.k, .int .i64 N.m, .int .i64 N.n, .string N.t]) rfl (by kernel_rfl) (by kernel_rfl) (by kernel_rfl) (fun _ _ _ h => h) (Or.inl ⟨by rfl, ?_⟩) (by assumption) ?_
          · intro wx hs1; go_simp
          (try simp only [Act.put, List.getElem_toArray, List.getElem_cons_succ, List.getElem_cons_zero, List.setIfInBounds_toArray, List.set_cons_zero, List.set_cons_succ])
          refine wpAnyH_take (i := 9) (v := .bool true) rfl (by kernel_rfl) (by kernel_rfl) (by kernel_rfl) (fun _ _ _ h => h) (Or.inl ⟨by rfl, ?_⟩) (by assumption) ?_
          · intro wx hs1; go_simp
          (try simp only [Act.put, List.getElem_toArray, List.getElem_cons_succ, List.getElem_cons_zero, List.setIfInBounds_toArray, List.set_cons_zero, List.set_cons_succ])
          refine wpAnyH_ready (rs := [10]) (by kernel_rfl) (by simp) (AllReadyH.cons rfl (fun K hK => ?_) AllReadyH.nil)
          go_simp
          have hb9a : But (Xp p) wr (w9.alloc (.cells #[.int .i64 0, .int .i64 0, .int .i64 0, .int .i64 0, .int .i64 0, .int .i64 0, .int .i64 0, .int .i64 0, .int .i64 0, .string ⟨#[]⟩] 38)) := hb9o.alloc _
          try dsimp only
          have hS := HSo.out _ hb9a
          refine hK.out _ _ hS (fun _ => ?_)
          clear hK K
          (try simp only [Act.put, List.getElem_toArray, List.getElem_cons_succ, List.getElem_cons_zero, List.setIfInBounds_toArray, List.set_cons_zero, List.set_cons_succ])
          have hAA : AAt (w9.alloc (.cells #[.int .i64 0, .int .i64 0, .int .i64 0, .int .i64 0, .int .i64 0, .int .i64 0, .int .i64 0, .int .i64 0, .int .i64 0, .string ⟨#[]⟩] 38)) p N := (Below.heap_alloc w9 _ p hA9.lt).trans hA9
          obtain ⟨VB, hVB⟩ : ∃ v, w9.alloc (.cells #[.int .i64 0, .int .i64 0, .int .i64 0, .int .i64 0, .int .i64 0, .int .i64 0, .int .i64 0, .int .i64 0, .int .i64 0, .string ⟨#[]⟩] 38) = v := ⟨_, rfl⟩
          have hZA : VB.heap[w9.heap.size]? = some (.cells #[.int .i64 0, .int .i64 0, .int .i64 0, .int .i64 0, .int .i64 0, .int .i64 0, .int .i64 0, .int .i64 0, .int .i64 0, .string ⟨#[]⟩] 38 (0, 0)) := by rw [← hVB]; exact World.alloc_heap_new _ _
          rw [hVB] at hb9a hAA ⊢
          clear hVB
          have hSB := HSo.out VB hb9a
          have HBW := Lib.hid hb9a
          have HAW := Lib.hid hAA
          have hnp : p ≠ w9.heap.size := by have := hA9.lt; omega
          obtain ⟨b20, hb20'⟩ : ∃ x, w9.heap.size = x := ⟨_, rfl⟩
          have hb20 : wr.heap.size ≤ b20 := by rw [← hb20']; exact hb9o.size
          rw [hb20'] at hZA hnp ⊢
          clear hb20'
          have HZ := Lib.hid hZA
          obtain ⟨⟨a0, a1, a2, a3, a4, a5, a6, a7, a8, a9⟩, ⟨f0, f1, f2, f3, f4, f5, f6, f7, f8, f9⟩⟩ := ten HZ.out
          have HPZ := Lib.hid (set10 HZ.out (.int .i64 N.c) (.int .i64 N.s) (.int .i64 N.pr) (.int .i64 N.pp) (.int .i64 N.ar) (.int .i64 N.ap) (.int .i64 N.k) (.int .i64 N.m) (.int .i64 N.n) (.string N.t))
          have HPB := Lib.hid (buts10 (b := b20) HBW.out hb20 (.int .i64 N.c) (.int .i64 N.s) (.int .i64 N.pr) (.int .i64 N.pp) (.int .i64 N.ar) (.int .i64 N.ap) (.int .i64 N.k) (.int .i64 N.m) (.int .i64 N.n) (.string N.t))
          have HPA := Lib.hid (other10 (b := b20) HAW.out hnp (.int .i64 N.c) (.int .i64 N.s) (.int .i64 N.pr) (.int .i64 N.pp) (.int .i64 N.ar) (.int .i64 N.ap) (.int .i64 N.k) (.int .i64 N.m) (.int .i64 N.n) (.string N.t))
          refine wpAnyH_ready (rs := [11]) (by kernel_rfl) (by simp) (AllReadyH.cons rfl (fun K hK => ?_) AllReadyH.nil)
          go_simp
          obtain ⟨w10, hw10⟩ : ∃ v, ((((((((((VB.setCell ⟨b20, 0, none⟩ (.int .i64 N.c)).setCell ⟨b20, 1, none⟩ (.int .i64 N.s)).setCell ⟨b20, 2, none⟩ (.int .i64 N.pr)).setCell ⟨b20, 3, none⟩ (.int .i64 N.pp)).setCell ⟨b20, 4, none⟩ (.int .i64 N.ar)).setCell ⟨b20, 5, none⟩ (.int .i64 N.ap)).setCell ⟨b20, 6, none⟩ (.int .i64 N.k)).setCell ⟨b20, 7, none⟩ (.int .i64 N.m)).setCell ⟨b20, 8, none⟩ (.int .i64 N.n)).setCell ⟨b20, 9, none⟩ (.string N.t)) = v := ⟨_, rfl⟩
          rw [hw10] at HPZ HPB HPA ⊢
          clear hw10 f0 f1 f2 f3 f4 f5 f6 f7 f8 f9 a0 a1 a2 a3 a4 a5 a6 a7 a8 a9
          try dsimp only
          have hS := HSo.out w10 HPB.out
          refine hK.out _ _ hS (fun _ => ?_)
          clear hK K
          (try simp only [Act.put, List.getElem_toArray, List.getElem_cons_succ, List.getElem_cons_zero, List.setIfInBounds_toArray, List.set_cons_zero, List.set_cons_succ])
          refine wpAnyH_take (i := 12) (v := .bool true) rfl (by kernel_rfl) (by kernel_rfl) (by kernel_rfl) (fun _ _ _ h => h) (Or.inl ⟨by rfl, ?_⟩) (by assumption) ?_
          · intro wx hs1; go_simp
          (try simp only [Act.put, List.getElem_toArray, List.getElem_cons_succ, List.getElem_cons_zero, List.setIfInBounds_toArray, List.set_cons_zero, List.set_cons_succ])
          refine wpAnyH_done (by kernel_rfl) ?_ _
          go_wp2_with fail
          go_meet
          exact ⟨b20, rfl, rfl, Lib.hid ⟨HPZ.out, HPA.out, HPB.out, hb20⟩⟩
        · go_simp
          have hbA : But (Xp p) wr (V0.alloc (.cells #[.int .i64 0, .int .i64 0, .int .i64 0, .int .i64 0, .int .i64 0, .int .i64 0, .int .i64 0, .int .i64 0, .int .i64 0, .string ⟨#[]⟩] 38)) := HB0.out.alloc _
          refine hK.out _ _ (HSo.out _ hbA) (fun _ => ?_)
          clear hK K
          (try simp only [Act.put, List.getElem_toArray, List.getElem_cons_succ, List.getElem_cons_zero, List.setIfInBounds_toArray, List.set_cons_zero, List.set_cons_succ])
          have hAA : AAt (V0.alloc (.cells #[.int .i64 0, .int .i64 0, .int .i64 0, .int .i64 0, .int .i64 0, .int .i64 0, .int .i64 0, .int .i64 0, .int .i64 0, .string ⟨#[]⟩] 38)) p M := (Below.heap_alloc V0 _ p hAd.lt).trans hAd
          have hLA := hLd.keep ((Below.refl _ V0).alloc (Nat.le_refl _) (.cells #[.int .i64 0, .int .i64 0, .int .i64 0, .int .i64 0, .int .i64 0, .int .i64 0, .int .i64 0, .int .i64 0, .int .i64 0, .string ⟨#[]⟩] 38))
          obtain ⟨VA, hVA⟩ : ∃ v, V0.alloc (.cells #[.int .i64 0, .int .i64 0, .int .i64 0, .int .i64 0, .int .i64 0, .int .i64 0, .int .i64 0, .int .i64 0, .int .i64 0, .string ⟨#[]⟩] 38) = v := ⟨_, rfl⟩
          have hZA : VA.heap[V0.heap.size]? = some (.cells #[.int .i64 0, .int .i64 0, .int .i64 0, .int .i64 0, .int .i64 0, .int .i64 0, .int .i64 0, .int .i64 0, .int .i64 0, .string ⟨#[]⟩] 38 (0, 0)) := by rw [← hVA]; exact World.alloc_heap_new _ _
          rw [hVA] at hbA hAA hLA ⊢
          clear hVA
          have hSA := HSo.out VA hbA
          have hnp : p ≠ V0.heap.size := by have := hAd.lt; omega
          obtain ⟨b20, hb20'⟩ : ∃ x, V0.heap.size = x := ⟨_, rfl⟩
          have hb20 : wr.heap.size ≤ b20 := by rw [← hb20']; exact HB0.out.size
          rw [hb20'] at hZA hnp ⊢
          clear hb20'
          refine wpAnyH_ready (rs := [6]) (by kernel_rfl) (by simp) (AllReadyH.cons rfl (fun K hK => ?_) AllReadyH.nil)
          go_simp
          go_at_call 17
          (with_reducible refine (hact _ hAA hLA).mono ?_)
          rintro e w9 ⟨rfl, hA9, hB9⟩
          try dsimp only
          have HBW : Hid (But (Xp p) wr w9) := Lib.hid (hbA.trans hB9 (fun _ _ e => e)); have HZ := Lib.hid (hB9.box hZA (fun e => hnp (show b20 = p from e).symm)); have HAW := Lib.hid hA9; clear hB9 hA9; have hS := HSo.out w9 HBW.out
          refine hK.out _ _ hS (fun _ => ?_)
          clear hK K
          (try simp only [Act.put, List.getElem_toArray, List.getElem_cons_succ, List.getElem_cons_zero, List.setIfInBounds_toArray, List.set_cons_zero, List.set_cons_succ])
          refine wpAnyH_take (i := 7) (v := .tuple #[.agg #[.int .i64 N.c, .int .i64 N.s, .int .i64 N.pr, .int .i64 N.pp, .int .i64 N.ar, .int .i64 N.ap, .int .i64 N.k, .int .i64 N.m, .int .i64 N.n, .string N.t], .bool true]) rfl (by kernel_rfl) (by kernel_rfl) (by kernel_rfl) (fun _ _ _ h => h) (Or.inl ⟨by rfl, ?_⟩) (by assumption) ?_
          · intro wx hs1; go_simp
          (try simp only [Act.put, List.getElem_toArray, List.getElem_cons_succ, List.getElem_cons_zero, List.setIfInBounds_toArray, List.set_cons_zero, List.set_cons_succ])
          refine wpAnyH_take (i := 8) (v := .agg #[.int .i64 N.c, .int .i64 N.s, .int .i64 N.pr, .int .i64 N.pp, .int .i64 N.ar, .int .i64 N.ap, .int .i64 N.k, .int .i64 N.m, .int .i64 N.n, .string N.t]) rfl (by kernel_rfl) (by kernel_rfl) (by kernel_rfl) (fun _ _ _ h => h) (Or.inl ⟨by rfl, ?_⟩) (by assumption) ?_
          · intro wx hs1; go_simp
          (try simp only [Act.put, List.getElem_toArray, List.getElem_cons_succ, List.getElem_cons_zero, List.setIfInBounds_toArray, List.set_cons_zero, List.set_cons_succ])
          refine wpAnyH_take (i := 9) (v := .bool true) rfl (by kernel_rfl) (by kernel_rfl) (by kernel_rfl) (fun _ _ _ h => h) (Or.inl ⟨by rfl, ?_⟩) (by assumption) ?_
          · intro wx hs1; go_simp
          (try simp only [Act.put, List.getElem_toArray, List.getElem_cons_succ, List.getElem_cons_zero, List.setIfInBounds_toArray, List.set_cons_zero, List.set_cons_succ])
          obtain ⟨⟨a0, a1, a2, a3, a4, a5, a6, a7, a8, a9⟩, ⟨f0, f1, f2, f3, f4, f5, f6, f7, f8, f9⟩⟩ := ten HZ.out
          have HPZ := Lib.hid (set10 HZ.out (.int .i64 N.c) (.int .i64 N.s) (.int .i64 N.pr) (.int .i64 N.pp) (.int .i64 N.ar) (.int .i64 N.ap) (.int .i64 N.k) (.int .i64 N.m) (.int .i64 N.n) (.string N.t))
          have HPB := Lib.hid (buts10 (b := b20) HBW.out hb20 (.int .i64 N.c) (.int .i64 N.s) (.int .i64 N.pr) (.int .i64 N.pp) (.int .i64 N.ar) (.int .i64 N.ap) (.int .i64 N.k) (.int .i64 N.m) (.int .i64 N.n) (.string N.t))
          have HPA := Lib.hid (other10 (b := b20) HAW.out hnp (.int .i64 N.c) (.int .i64 N.s) (.int .i64 N.pr) (.int .i64 N.pp) (.int .i64 N.ar) (.int .i64 N.ap) (.int .i64 N.k) (.int .i64 N.m) (.int .i64 N.n) (.string N.t))
          refine wpAnyH_ready (rs := [11]) (by kernel_rfl) (by simp) (AllReadyH.cons rfl (fun K hK => ?_) AllReadyH.nil)
          go_simp
          obtain ⟨w10, hw10⟩ : ∃ v, ((((((((((w9.setCell ⟨b20, 0, none⟩ (.int .i64 N.c)).setCell ⟨b20, 1, none⟩ (.int .i64 N.s)).setCell ⟨b20, 2, none⟩ (.int .i64 N.pr)).setCell ⟨b20, 3, none⟩ (.int .i64 N.pp)).setCell ⟨b20, 4, none⟩ (.int .i64 N.ar)).setCell ⟨b20, 5, none⟩ (.int .i64 N.ap)).setCell ⟨b20, 6, none⟩ (.int .i64 N.k)).setCell ⟨b20, 7, none⟩ (.int .i64 N.m)).setCell ⟨b20, 8, none⟩ (.int .i64 N.n)).setCell ⟨b20, 9, none⟩ (.string N.t)) = v := ⟨_, rfl⟩
          rw [hw10] at HPZ HPB HPA ⊢
          clear hw10 f0 f1 f2 f3 f4 f5 f6 f7 f8 f9 a0 a1 a2 a3 a4 a5 a6 a7 a8 a9
          try dsimp only
          have hS := HSo.out w10 HPB.out
          refine hK.out _ _ hS (fun _ => ?_)
          clear hK K
          (try simp only [Act.put, List.getElem_toArray, List.getElem_cons_succ, List.getElem_cons_zero, List.setIfInBounds_toArray, List.set_cons_zero, List.set_cons_succ])
          refine wpAnyH_take (i := 12) (v := .bool true) rfl (by kernel_rfl) (by kernel_rfl) (by kernel_rfl) (fun _ _ _ h => h) (Or.inl ⟨by rfl, ?_⟩) (by assumption) ?_
          · intro wx hs1; go_simp
          (try simp only [Act.put, List.getElem_toArray, List.getElem_cons_succ, List.getElem_cons_zero, List.setIfInBounds_toArray, List.set_cons_zero, List.set_cons_succ])
          refine wpAnyH_done (by kernel_rfl) ?_ _
          go_wp2_with fail
          go_meet
          exact ⟨b20, rfl, rfl, Lib.hid ⟨HPZ.out, HPA.out, HPB.out, hb20⟩⟩
      case rest =>
        obtain ⟨b20, rfl, rfl, HX20⟩ := hcut
        obtain ⟨⟨d0, d1, d2, d3, d4, d5, d6, d7, d8, d9⟩, _⟩ := ten HX20.out.1
        have h9x := HX20.out.2.2.1.box HLP.out.doc (by show ¬ (w3.heap.size = p); omega)
        obtain ⟨_, ⟨f0, f1, f2, f3, f4, f5, f6, f7, f8, f9⟩⟩ := ten h9x
        have hn9 : b20 ≠ w3.heap.size := by have := HX20.out.2.2.2; omega
        have K9 := Lib.hid (set10 h9x (.int .i64 N.c) (.int .i64 N.s) (.int .i64 N.pr) (.int .i64 N.pp) (.int .i64 N.ar) (.int .i64 N.ap) (.int .i64 N.k) (.int .i64 N.m) (.int .i64 N.n) (.string N.t))
        have KA := Lib.hid (other10 (b := w3.heap.size) HX20.out.2.1 (by omega) (.int .i64 N.c) (.int .i64 N.s) (.int .i64 N.pr) (.int .i64 N.pp) (.int .i64 N.ar) (.int .i64 N.ap) (.int .i64 N.k) (.int .i64 N.m) (.int .i64 N.n) (.string N.t))
        have KB := Lib.hid (bset10 (p := w3.heap.size) (below_but HCR.out HX20.out.2.2.1 HCR.out.size hpw) hww3 (.int .i64 N.c) (.int .i64 N.s) (.int .i64 N.pr) (.int .i64 N.pp) (.int .i64 N.ar) (.int .i64 N.ap) (.int .i64 N.k) (.int .i64 N.m) (.int .i64 N.n) (.string N.t))
        have KS : w5.heap.size ≤ wc.heap.size := Nat.le_trans HLP.out.size HX20.out.2.2.1.size
        have KO := Lib.hid (OAt.of_heap (HLP.out.none_.but HX20.out.2.2.1 HZ.out) (fun z e => other10 (b := w3.heap.size) rfl (HZ9.out z e) (.int .i64 N.c) (.int .i64 N.s) (.int .i64 N.pr) (.int .i64 N.pp) (.int .i64 N.ar) (.int .i64 N.ap) (.int .i64 N.k) (.int .i64 N.m) (.int .i64 N.n) (.string N.t)))
        clear h9x
        go_upto_region 20 with fail
        obtain ⟨w20, hw20⟩ : ∃ v, ((((((((((wc.setCell ⟨w3.heap.size, 0, none⟩ (.int .i64 N.c)).setCell ⟨w3.heap.size, 1, none⟩ (.int .i64 N.s)).setCell ⟨w3.heap.size, 2, none⟩ (.int .i64 N.pr)).setCell ⟨w3.heap.size, 3, none⟩ (.int .i64 N.pp)).setCell ⟨w3.heap.size, 4, none⟩ (.int .i64 N.ar)).setCell ⟨w3.heap.size, 5, none⟩ (.int .i64 N.ap)).setCell ⟨w3.heap.size, 6, none⟩ (.int .i64 N.k)).setCell ⟨w3.heap.size, 7, none⟩ (.int .i64 N.m)).setCell ⟨w3.heap.size, 8, none⟩ (.int .i64 N.n)).setCell ⟨w3.heap.size, 9, none⟩ (.string N.t)) = v := ⟨_, rfl⟩
        have KS2 : w5.heap.size ≤ w20.heap.size := by rw [← hw20]; simpa using KS
        rw [hw20] at K9 KA KB KO ⊢
        clear hw20 d0 d1 d2 d3 d4 d5 d6 d7 d8 d9 f0 f1 f2 f3 f4 f5 f6 f7 f8 f9 KS HX20
        obtain ⟨⟨d0, d1, d2, d3, d4, d5, d6, d7, d8, d9⟩, _⟩ := ten K9.out
        have his := is_row w20 p N c s KA.out hc0 hokn
        go_wp2_with (go_at_call 18; (with_reducible refine his.mono ?_); clear his; rintro e w22 ⟨rfl, hb22⟩)
        clear d0 d1 d2 d3 d4 d5 d6 d7 d8 d9
        go_roundw
        case rel => exact ⟨k + 1, by omega, by go_num, Lib.hid (by rw [HST.out]; exact ⟨AAt.keep KA.out hb22, (hb22.block _ (Array.getElem?_eq_some_iff.1 K9.out).1).trans K9.out, OAt.keep KO.out hb22, KB.out.trans (hb22.mono KB.out.size), Nat.le_trans KS2 hb22.size⟩)⟩
        case measure => simp [RowKit.intOf]; omega
    · obtain rfl : k = n := by omega
      have hne : sameM M zeroM = false := by
        cases e : sameM M zeroM with
        | false => rfl
        | true => exact absurd ((congrArg AcM.c (sameM_eq.1 e)).symm.trans HOKK.out.c) (fun e2 => hc0 e2.symm)
      have hne2 : sameM zeroM M = false := by
        cases e : sameM zeroM M with
        | false => rfl
        | true => exact absurd ((congrArg AcM.c (sameM_eq.1 e)).trans HOKK.out.c) (fun e2 => hc0 e2.symm)
      have his := is_row wr p M c s HLP.out.at_ hc0 HOKK.out
      have HS1 : Hid (∀ W, Below wr.heap.size wr W → Calls Tryz.prog 16 #[.pointer (some ⟨p, 0, none⟩), .pointer none] W fun e w' => e = .returned (.bool false) ∧ Below wr.heap.size wr w') := Lib.hid fun W hb => (Same_any W (some p) none M zeroM (AAt.keep HLP.out.at_ hb) (HLP.out.none_.keep hb)).mono fun e w' ⟨h1, h2⟩ => ⟨by rw [h1, hne], hb.trans (h2.mono hb.size)⟩
      have HS2 : Hid (∀ W, Below wr.heap.size wr W → Calls Tryz.prog 16 #[.pointer none, .pointer (some ⟨p, 0, none⟩)] W fun e w' => e = .returned (.bool false) ∧ Below wr.heap.size wr w') := Lib.hid fun W hb => (Same_any W none (some p) zeroM M (HLP.out.none_.keep hb) (AAt.keep HLP.out.at_ hb)).mono fun e w' ⟨h1, h2⟩ => ⟨by rw [h1, hne2], hb.trans (h2.mono hb.size)⟩
      have HWk : Hid (∀ W, Below wr.heap.size wr W → Calls Tryz.prog 7 #[] W fun e w' => e = .returned (.bool true) ∧ Below wr.heap.size wr w') := Lib.hid fun W hb => (works_any W ((HL.out.keep HCR.out).keep hb)).mono fun e w' ⟨h1, h2⟩ => ⟨h1, hb.trans (h2.mono hb.size)⟩
      clear hne hne2 hM
      go_wp2_with (first
        | (go_at_call 13; (with_reducible refine (hnum _ _).mono ?_); rintro e w' ⟨rfl, rfl⟩)
        | (go_at_call 18; (with_reducible refine his.mono ?_); clear his; rintro e w22 ⟨rfl, hb22⟩)
        | (go_at_call 16; (with_reducible refine (HS1.out _ hb22).mono ?_); clear HS1 hb22; rintro e w23 ⟨rfl, hb23⟩)
        | (go_at_call 16; (with_reducible refine (HS2.out _ hb23).mono ?_); clear HS2 hb23; rintro e w24 ⟨rfl, hb24⟩)
        | (go_at_call 7; (with_reducible refine (HWk.out _ hb24).mono ?_); clear HWk hb24; rintro e w25 ⟨rfl, hb25⟩))
      go_ret
      exact ⟨rfl, HCR.out.trans (hb25.mono HCR.out.size)⟩
set_option maxRecDepth 100000 in
set_option maxHeartbeats 4000000 in
theorem Sm.plays_good_true (c s : Int) (A : Option Addr) (n cap : Nat) (xs : List XV) (w : World) (hn : xs.length = n) (hnc : n ≤ cap) (hc9 : cap ≤ 9223372036854775807) (hx : RdX w A xs) (hcm : ∀ y ∈ xs, XV.came y) (hL : LaysT w) (hf : fewB xs 40 = true) (hpar : ((n : Int) % 2 == 1) = true) (hc : chB c = true) (hs : slB s = true) :
    Calls Tryz.prog 3 #[.int .i64 c, .int .i64 s, .slice A n cap] w fun e w' => e = .returned (.bool true) ∧ Below w.heap.size w w' := by
  have h1 := few_any A n cap xs 40 w hn hnc hc9 hx hcm
  obtain ⟨hsm, hmost⟩ := few_small hf
  rw [hf] at h1
  have HX := Lib.hid hx
  have HN := Lib.hid hn
  have HCM := Lib.hid hcm
  have HSM := Lib.hid hsm
  have HL := Lib.hid hL
  have hs0 := hL.size
  have hn40 : n ≤ 40 := by omega
  clear hx hn hcm hL hf hsm hmost
  have H2 := Lib.hid (fun W => new_yes c s W hc hs)
  have H3 := Lib.hid (fun W => rNew_yes c s W hc hs)
  have hc0 := chB_ne hc
  have hok := okNew c s
  obtain ⟨M0, hM0⟩ : ∃ M, newM c s = M := ⟨_, rfl⟩
  have H3 : Hid (∀ W, Calls Tryz.prog 9 #[.int .i64 c, .int .i64 s] W fun e w' => e = .returned (.tuple #[.agg #[.int .i64 M0.c, .int .i64 M0.s, .int .i64 M0.pr, .int .i64 M0.pp, .int .i64 M0.ar, .int .i64 M0.ap, .int .i64 M0.k, .int .i64 M0.m, .int .i64 M0.n, .string M0.t], .int .i64 0]) ∧ Below W.heap.size W w') := by rw [← hM0]; exact H3
  rw [hM0] at H2 hok
  have HOK := Lib.hid hok
  clear hc hs hM0 hok
  go_enter Tryz.func3, Tryz.ntmps3
  go_upto_region 3 with (go_at_call 6; (with_reducible refine h1.mono ?_); clear h1; rintro e w1 ⟨rfl, hb1⟩)
  go_upto_region 4 with (go_at_call 8; (with_reducible refine (H2.out _).mono ?_); rintro e w2 ⟨p, rfl, hp, hA2, hb2⟩)
  go_upto_region 5 with (go_at_call 9; (with_reducible refine (H3.out _).mono ?_); rintro e w3 ⟨rfl, hb3⟩)
  have hA3 := hA2.keep hb3
  have hb03 := hb1.trans ((hb2.trans (hb3.mono hb2.size)).mono hb1.size)
  have hw1 := hb1.size
  have hpw : w.heap.size ≤ p := by omega
  have hp9 : p < w3.heap.size := hA3.lt
  have q9 := World.alloc_heap_new w3 (.cells #[.int .i64 M0.c, .int .i64 M0.s, .int .i64 M0.pr, .int .i64 M0.pp, .int .i64 M0.ar, .int .i64 M0.ap, .int .i64 M0.k, .int .i64 M0.m, .int .i64 M0.n, .string M0.t] 38)
  have hb4 := hb03.alloc hb03.size (.cells #[.int .i64 M0.c, .int .i64 M0.s, .int .i64 M0.pr, .int .i64 M0.pp, .int .i64 M0.ar, .int .i64 M0.ap, .int .i64 M0.k, .int .i64 M0.m, .int .i64 M0.n, .string M0.t] 38)
  have hA4 : AAt (w3.alloc (.cells #[.int .i64 M0.c, .int .i64 M0.s, .int .i64 M0.pr, .int .i64 M0.pp, .int .i64 M0.ar, .int .i64 M0.ap, .int .i64 M0.k, .int .i64 M0.m, .int .i64 M0.n, .string M0.t] 38)) p M0 := (Below.heap_alloc w3 _ p hA3.lt).trans hA3
  obtain ⟨w4, hw4⟩ : ∃ v, w3.alloc (.cells #[.int .i64 M0.c, .int .i64 M0.s, .int .i64 M0.pr, .int .i64 M0.pp, .int .i64 M0.ar, .int .i64 M0.ap, .int .i64 M0.k, .int .i64 M0.m, .int .i64 M0.n, .string M0.t] 38) = v := ⟨_, rfl⟩
  rw [hw4] at q9 hb4 hA4 ⊢
  have hw34 : w3.heap.size < w4.heap.size := (Array.getElem?_eq_some_iff.1 q9).1
  clear hw4 hb03 hb1 hb2 hb3 H2 H3 hA2 hA3
  go_upto_region 8 with fail
  have hz := World.alloc_heap_new w4 (.cells #[.int .i64 0, .int .i64 0, .int .i64 0, .int .i64 0, .int .i64 0, .int .i64 0, .int .i64 0, .int .i64 0, .int .i64 0, .string ⟨#[]⟩] 44)
  have hb5 := hb4.alloc hb4.size (.cells #[.int .i64 0, .int .i64 0, .int .i64 0, .int .i64 0, .int .i64 0, .int .i64 0, .int .i64 0, .int .i64 0, .int .i64 0, .string ⟨#[]⟩] 44)
  have q95 := (Below.heap_alloc w4 (.cells #[.int .i64 0, .int .i64 0, .int .i64 0, .int .i64 0, .int .i64 0, .int .i64 0, .int .i64 0, .int .i64 0, .int .i64 0, .string ⟨#[]⟩] 44) w3.heap.size (Array.getElem?_eq_some_iff.1 q9).1).trans q9
  have hA5 : AAt (w4.alloc (.cells #[.int .i64 0, .int .i64 0, .int .i64 0, .int .i64 0, .int .i64 0, .int .i64 0, .int .i64 0, .int .i64 0, .int .i64 0, .string ⟨#[]⟩] 44)) p M0 := (Below.heap_alloc w4 _ p hA4.lt).trans hA4
  obtain ⟨w5, hw5⟩ : ∃ v, w4.alloc (.cells #[.int .i64 0, .int .i64 0, .int .i64 0, .int .i64 0, .int .i64 0, .int .i64 0, .int .i64 0, .int .i64 0, .int .i64 0, .string ⟨#[]⟩] 44) = v := ⟨_, rfl⟩
  rw [hw5] at hz hb5 q95 hA5 ⊢
  have hO : OAt w5 (some w4.heap.size) zeroM := hz
  have hpz : p ≠ w4.heap.size := by have := AAt.lt hA4; omega
  clear hw5 q9 hb4 hz hA4 hpar
  have hL5 := HL.out.keep hb5
  have C10 : Hid (∀ W, Below w5.heap.size w5 W → Calls Tryz.prog 10 #[.pointer (some ⟨w4.heap.size, 0, none⟩), .agg #[.int .i64 1, .int .i64 0]] W fun e w' => e = .returned (.tuple #[.agg #[.int .i64 0, .int .i64 0, .int .i64 0, .int .i64 0, .int .i64 0, .string ⟨#[]⟩], .bool false, .int .i64 1]) ∧ Below w5.heap.size w5 w') := Lib.hid fun W hb => (none_pro W (some w4.heap.size) (hO.keep hb) 1 0).mono fun e w' ⟨h1, h2⟩ => ⟨h1, hb.trans (h2.mono hb.size)⟩
  have C11 : Hid (∀ W, Below w5.heap.size w5 W → Calls Tryz.prog 11 #[.pointer (some ⟨w4.heap.size, 0, none⟩), .agg #[.int .i64 1, .int .i64 0], .agg #[.int .i64 0, .int .i64 0, .int .i64 0, .string ⟨#[]⟩]] W fun e w' => e = .returned (.tuple #[.bool false, .int .i64 1]) ∧ Below w5.heap.size w5 w') := Lib.hid fun W hb => (none_acc W (some w4.heap.size) (hO.keep hb) 1 0 (hL5.keep hb)).mono fun e w' ⟨h1, h2⟩ => ⟨h1, hb.trans (h2.mono hb.size)⟩
  have C12 : Hid (∀ W, Below w5.heap.size w5 W → Calls Tryz.prog 12 #[.pointer (some ⟨w4.heap.size, 0, none⟩)] W fun e w' => e = .returned (.tuple #[.agg #[.int .i64 0, .int .i64 0, .int .i64 0, .int .i64 0, .int .i64 0, .string ⟨#[]⟩], .bool false]) ∧ Below w5.heap.size w5 w') := Lib.hid fun W hb => (accd_no W (some w4.heap.size) zeroM (hO.keep hb) rfl).mono fun e w' ⟨h1, h2⟩ => ⟨h1, hb.trans (h2.mono hb.size)⟩
  have C14 : Hid (∀ W, Below w5.heap.size w5 W → Calls Tryz.prog 14 #[.pointer (some ⟨w4.heap.size, 0, none⟩)] W fun e w' => e = .returned (.agg #[.int .i64 0, .int .i64 0]) ∧ Below w5.heap.size w5 w') := Lib.hid fun W hb => (Promised_any W (some w4.heap.size) zeroM (hO.keep hb)).mono fun e w' ⟨h1, h2⟩ => ⟨h1, hb.trans (h2.mono hb.size)⟩
  have C15 : Hid (∀ W, Below w5.heap.size w5 W → Calls Tryz.prog 15 #[.pointer (some ⟨w4.heap.size, 0, none⟩)] W fun e w' => e = .returned (.pointer none) ∧ Below w5.heap.size w5 w') := Lib.hid fun W hb => (copy_no W (some w4.heap.size) zeroM (hO.keep hb) rfl).mono fun e w' ⟨h1, h2⟩ => ⟨h1, hb.trans (h2.mono hb.size)⟩
  have C16 : Hid (∀ W, Below w5.heap.size w5 W → Calls Tryz.prog 16 #[.pointer (some ⟨w4.heap.size, 0, none⟩), .pointer none] W fun e w' => e = .returned (.bool true) ∧ Below w5.heap.size w5 w') := Lib.hid fun W hb => (Same_any W (some w4.heap.size) none zeroM zeroM (hO.keep hb) rfl).mono fun e w' ⟨h1, h2⟩ => ⟨h1, hb.trans (h2.mono hb.size)⟩
  have hnum := fun x W => num_any x W
  have HO := Lib.hid hO
  have HL5 := Lib.hid hL5
  have HB5 := Lib.hid hb5
  have H95 := Lib.hid q95
  clear hO hL5 hb5 q95
  go_upto_region 13 with (first
    | (go_at_call 10; (with_reducible refine (C10.out _ (Below.refl _ _)).mono ?_); clear C10; rintro e w6 ⟨rfl, hb6⟩; have hb7 := hb6.alloc hb6.size (.cells #[.int .i64 0, .int .i64 0, .int .i64 0, .int .i64 0, .int .i64 0, .string ⟨#[]⟩] 36); clear hb6)
    | (go_at_call 11; (with_reducible refine (C11.out _ hb7).mono ?_); clear C11 hb7; rintro e w8 ⟨rfl, hb8⟩)
    | (go_at_call 12; (with_reducible refine (C12.out _ hb8).mono ?_); clear C12 hb8; rintro e w9 ⟨rfl, hb9⟩; have hb10 := hb9.alloc hb9.size (.cells #[.int .i64 0, .int .i64 0, .int .i64 0, .int .i64 0, .int .i64 0, .string ⟨#[]⟩] 36); clear hb9)
    | (go_at_call 13; (with_reducible refine (hnum _ _).mono ?_); rintro e w' ⟨rfl, rfl⟩)
    | (go_at_call 14; (with_reducible refine (C14.out _ hb10).mono ?_); clear C14 hb10; rintro e w11 ⟨rfl, hb11⟩)
    | (go_at_call 15; (with_reducible refine (C15.out _ hb11).mono ?_); clear C15 hb11; rintro e w12 ⟨rfl, hb12⟩)
    | (go_at_call 16; (with_reducible refine (C16.out _ hb12).mono ?_); clear C16 hb12; rintro e w13 ⟨rfl, hb13⟩))
  have hLp0 : LpP w w5 p w3.heap.size (some w4.heap.size) M0 w13 := ⟨hA5.keep hb13, (hb13.block _ (Array.getElem?_eq_some_iff.1 H95.out).1).trans H95.out, HO.out.keep hb13, HB5.out.trans (hb13.mono HB5.out.size), hb13.size⟩
  have HLp0 := Lib.hid hLp0
  have hz : ∀ z, (some w4.heap.size) = some z → z ≠ p := by
    intro z e
    obtain rfl := Option.some.inj e; exact fun e => hpz e.symm
  have HZ := Lib.hid hz
  have hz9 : ∀ z, (some w4.heap.size) = some z → z ≠ w3.heap.size := by
    intro z e
    obtain rfl := Option.some.inj e; exact fun e => by omega
  have HZ9 := Lib.hid hz9
  have hw5 : w.heap.size ≤ w5.heap.size := HB5.out.size
  have hw35 : w3.heap.size < w5.heap.size := (Array.getElem?_eq_some_iff.1 H95.out).1
  have hww3 : w.heap.size ≤ w3.heap.size := by omega
  clear hA5 hb13 HO hz hz9 hLp0 H95
  go_wp2
  go_loopw [19] (fun v19 wr => ∃ k : Nat, k ≤ n ∧ v19 = .int .i64 (k : Int) ∧ Hid (LpP w w5 p w3.heap.size (some w4.heap.size) (playM M0 (xs.take k)) wr)) (fun v19 _ => n - (RowKit.intOf v19).toNat)
  case atStart => exact ⟨0, Nat.zero_le _, rfl, HLp0⟩
  case round =>
    obtain ⟨k, hk, rfl, HLP⟩ := hrel
    have hcr := HLP.out.below
    have hokk : OkM c s (playM M0 (xs.take k)) := HOK.out.play _ (fun y hy => HSM.out y (List.mem_of_mem_take hy))
    obtain ⟨M, hM⟩ : ∃ M, playM M0 (xs.take k) = M := ⟨_, rfl⟩
    rw [hM] at HLP hokk
    have HOKK := Lib.hid hokk
    have HCR := Lib.hid hcr
    clear hokk hcr
    obtain ⟨⟨d0, d1, d2, d3, d4, d5, d6, d7, d8, d9⟩, ⟨f0, f1, f2, f3, f4, f5, f6, f7, f8, f9⟩⟩ := ten HLP.out.doc
    have hl9 : w3.heap.size < wr.heap.size := (Array.getElem?_eq_some_iff.1 HLP.out.doc).1
    by_cases hlt : k < n
    · have hkx : k < xs.length := by rw [HN.out]; exact hlt
      have hst := take_play M0 hkx
      rw [hM] at hst
      have HST := Lib.hid hst
      obtain ⟨b, off, rfl, hbl, hcl⟩ := HX.out.one hkx
      obtain ⟨y, hy⟩ : ∃ y, xs[k] = y := ⟨_, rfl⟩
      have hyc : y.came := by rw [← hy]; exact HCM.out _ (List.getElem_mem hkx)
      have hys : y.t.size ≤ 300 := by rw [← hy]; exact HSM.out _ (List.getElem_mem hkx)
      rw [hy] at hcl HST
      obtain ⟨x0, x1, x2, x3, x4, x5, x6⟩ := hcl wr HCR.out
      have HCL := Lib.hid hcl
      clear hst hcl hy hM
      have hLr : LaysT wr := HL.out.keep HCR.out
      have hact : ∀ W, AAt W p M → LaysT W → Calls Tryz.prog 17 #[.pointer (some ⟨p, 0, none⟩), .agg #[.int .i64 M.c, .int .i64 M.s, .int .i64 M.pr, .int .i64 M.pp, .int .i64 M.ar, .int .i64 M.ap, .int .i64 M.k, .int .i64 M.m, .int .i64 M.n, .string M.t], .agg #[.int .i64 y.x, .int .i64 y.r, .int .i64 y.q, .int .i64 y.k, .int .i64 y.m, .int .i64 y.n, .string y.t]] W fun e w' => e = .returned (.tuple #[.agg #[.int .i64 ((stX M y).c), .int .i64 ((stX M y).s), .int .i64 ((stX M y).pr), .int .i64 ((stX M y).pp), .int .i64 ((stX M y).ar), .int .i64 ((stX M y).ap), .int .i64 ((stX M y).k), .int .i64 ((stX M y).m), .int .i64 ((stX M y).n), .string ((stX M y).t)], .bool true]) ∧ AAt w' p (stX M y) ∧ But (Xp p) W w' := fun W h1 h2 => act_row y hyc hys W p M c s h1 hc0 HOKK.out h2
      have hokn : OkM c s (stX M y) := HOKK.out.step y hys
      obtain ⟨N, hN⟩ : ∃ N, stX M y = N := ⟨_, rfl⟩
      rw [hN] at hact HST hokn
      clear hN
      have HSo : Hid (∀ W, But (Xp p) wr W → (W.cell? ⟨w3.heap.size, 0, none⟩ = some (.int .i64 M.c) ∧ W.cell? ⟨w3.heap.size, 1, none⟩ = some (.int .i64 M.s) ∧ W.cell? ⟨w3.heap.size, 2, none⟩ = some (.int .i64 M.pr) ∧ W.cell? ⟨w3.heap.size, 3, none⟩ = some (.int .i64 M.pp) ∧ W.cell? ⟨w3.heap.size, 4, none⟩ = some (.int .i64 M.ar) ∧ W.cell? ⟨w3.heap.size, 5, none⟩ = some (.int .i64 M.ap) ∧ W.cell? ⟨w3.heap.size, 6, none⟩ = some (.int .i64 M.k) ∧ W.cell? ⟨w3.heap.size, 7, none⟩ = some (.int .i64 M.m) ∧ W.cell? ⟨w3.heap.size, 8, none⟩ = some (.int .i64 M.n) ∧ W.cell? ⟨w3.heap.size, 9, none⟩ = some (.string M.t)) ∧ (W.cell? ⟨b, off + k * 7, none⟩ = some (.int .i64 y.x) ∧ W.cell? ⟨b, off + k * 7 + 1, none⟩ = some (.int .i64 y.r) ∧ W.cell? ⟨b, off + k * 7 + 2, none⟩ = some (.int .i64 y.q) ∧ W.cell? ⟨b, off + k * 7 + 3, none⟩ = some (.int .i64 y.k) ∧ W.cell? ⟨b, off + k * 7 + 4, none⟩ = some (.int .i64 y.m) ∧ W.cell? ⟨b, off + k * 7 + 5, none⟩ = some (.int .i64 y.n) ∧ W.cell? ⟨b, off + k * 7 + 6, none⟩ = some (.string y.t))) := Lib.hid fun W hb => by
        have h9 := (ten (hb.box HLP.out.doc (by show ¬ (w3.heap.size = p); omega))).1
        have g : ∀ j v, wr.cell? ⟨b, j, none⟩ = some v → W.cell? ⟨b, j, none⟩ = some v := fun j v h => (hb.cell (p := ⟨b, j, none⟩) (Nat.lt_of_lt_of_le hbl HCR.out.size) (by show ¬ (b = p); omega)).trans h
        obtain ⟨g0, g1, g2, g3, g4, g5, g6⟩ := HCL.out wr HCR.out
        exact ⟨h9, g _ _ g0, g _ _ g1, g _ _ g2, g _ _ g3, g _ _ g4, g _ _ g5, g _ _ g6⟩
      have zo := HSo.out wr (But.refl _ _)
      clear x0 x1 x2 x3 x4 x5 x6 d0 d1 d2 d3 d4 d5 d6 d7 d8 d9 f0 f1 f2 f3 f4 f5 f6 f7 f8 f9
      go_upto_region 18 with fail
      go_cut [20, 21] from 109 to 118 (fun s20 s21 wx => ∃ b20 : Nat, s20 = .pointer (some ⟨b20, 0, none⟩) ∧ s21 = .bool true ∧ Hid (wx.heap[b20]? = some (.cells #[.int .i64 N.c, .int .i64 N.s, .int .i64 N.pr, .int .i64 N.pp, .int .i64 N.ar, .int .i64 N.ap, .int .i64 N.k, .int .i64 N.m, .int .i64 N.n, .string N.t] 38 (0, 0)) ∧ AAt wx p N ∧ But (Xp p) wr wx ∧ wr.heap.size ≤ b20))
      case first =>
        have hAd : AAt wr.drew p M := HLP.out.at_
        have hLd : LaysT wr.drew := hLr.keep (Below.refl _ _).drew
        have hS0 : (fun W => (W.cell? ⟨w3.heap.size, 0, none⟩ = some (.int .i64 M.c) ∧ W.cell? ⟨w3.heap.size, 1, none⟩ = some (.int .i64 M.s) ∧ W.cell? ⟨w3.heap.size, 2, none⟩ = some (.int .i64 M.pr) ∧ W.cell? ⟨w3.heap.size, 3, none⟩ = some (.int .i64 M.pp) ∧ W.cell? ⟨w3.heap.size, 4, none⟩ = some (.int .i64 M.ar) ∧ W.cell? ⟨w3.heap.size, 5, none⟩ = some (.int .i64 M.ap) ∧ W.cell? ⟨w3.heap.size, 6, none⟩ = some (.int .i64 M.k) ∧ W.cell? ⟨w3.heap.size, 7, none⟩ = some (.int .i64 M.m) ∧ W.cell? ⟨w3.heap.size, 8, none⟩ = some (.int .i64 M.n) ∧ W.cell? ⟨w3.heap.size, 9, none⟩ = some (.string M.t)) ∧ (W.cell? ⟨b, off + k * 7, none⟩ = some (.int .i64 y.x) ∧ W.cell? ⟨b, off + k * 7 + 1, none⟩ = some (.int .i64 y.r) ∧ W.cell? ⟨b, off + k * 7 + 2, none⟩ = some (.int .i64 y.q) ∧ W.cell? ⟨b, off + k * 7 + 3, none⟩ = some (.int .i64 y.k) ∧ W.cell? ⟨b, off + k * 7 + 4, none⟩ = some (.int .i64 y.m) ∧ W.cell? ⟨b, off + k * 7 + 5, none⟩ = some (.int .i64 y.n) ∧ W.cell? ⟨b, off + k * 7 + 6, none⟩ = some (.string y.t))) wr.drew := zo
        refine wp_region_held_drew (S := fun W => (W.cell? ⟨w3.heap.size, 0, none⟩ = some (.int .i64 M.c) ∧ W.cell? ⟨w3.heap.size, 1, none⟩ = some (.int .i64 M.s) ∧ W.cell? ⟨w3.heap.size, 2, none⟩ = some (.int .i64 M.pr) ∧ W.cell? ⟨w3.heap.size, 3, none⟩ = some (.int .i64 M.pp) ∧ W.cell? ⟨w3.heap.size, 4, none⟩ = some (.int .i64 M.ar) ∧ W.cell? ⟨w3.heap.size, 5, none⟩ = some (.int .i64 M.ap) ∧ W.cell? ⟨w3.heap.size, 6, none⟩ = some (.int .i64 M.k) ∧ W.cell? ⟨w3.heap.size, 7, none⟩ = some (.int .i64 M.m) ∧ W.cell? ⟨w3.heap.size, 8, none⟩ = some (.int .i64 M.n) ∧ W.cell? ⟨w3.heap.size, 9, none⟩ = some (.string M.t)) ∧ (W.cell? ⟨b, off + k * 7, none⟩ = some (.int .i64 y.x) ∧ W.cell? ⟨b, off + k * 7 + 1, none⟩ = some (.int .i64 y.r) ∧ W.cell? ⟨b, off + k * 7 + 2, none⟩ = some (.int .i64 y.q) ∧ W.cell? ⟨b, off + k * 7 + 3, none⟩ = some (.int .i64 y.k) ∧ W.cell? ⟨b, off + k * 7 + 4, none⟩ = some (.int .i64 y.m) ∧ W.cell? ⟨b, off + k * 7 + 5, none⟩ = some (.int .i64 y.n) ∧ W.cell? ⟨b, off + k * 7 + 6, none⟩ = some (.string y.t))) rfl hS0 (fun hHeld => ?_)
        simp only [List.size_toArray, List.length_cons, List.length_nil, Nat.reduceAdd]
        have HB0 : Hid (But (Xp p) wr wr.drew) := Lib.hid (But.refl _ _).drew
        obtain ⟨V0, hV0⟩ : ∃ V, wr.drew = V := ⟨_, rfl⟩
        rw [hV0] at hHeld hS0 HB0 hAd hLd ⊢
        clear hV0
        refine wpAnyH_take (i := 0) (v := .pointer (some ⟨p, 0, none⟩)) rfl (by kernel_rfl) (by kernel_rfl) (by kernel_rfl) (fun _ _ _ h => h) (Or.inl ⟨by rfl, ?_⟩) (by assumption) ?_
        · intro wx hs1; go_simp
        (try simp only [Act.put, List.getElem_toArray, List.getElem_cons_zero, List.setIfInBounds_toArray, List.set_cons_zero, List.set_cons_succ])
        refine wpAnyH_take (i := 1) (v := .agg #[.int .i64 M.c, .int .i64 M.s, .int .i64 M.pr, .int .i64 M.pp, .int .i64 M.ar, .int .i64 M.ap, .int .i64 M.k, .int .i64 M.m, .int .i64 M.n, .string M.t]) rfl (by kernel_rfl) (by kernel_rfl) (by kernel_rfl) (fun _ _ _ h => h) (Or.inl ⟨by rfl, ?_⟩) (by assumption) ?_
        · intro wx hs1; obtain ⟨⟨s0, s1, s2, s3, s4, s5, s6, s7, s8, s9⟩, ⟨x0, x1, x2, x3, x4, x5, x6⟩⟩ := hs1; go_simp
        (try simp only [Act.put, List.getElem_toArray, List.getElem_cons_succ, List.getElem_cons_zero, List.setIfInBounds_toArray, List.set_cons_zero, List.set_cons_succ])
        refine wpAnyH_take (i := 2) (v := .slice (some ⟨b, off, none⟩) n cap) rfl (by kernel_rfl) (by kernel_rfl) (by kernel_rfl) (fun _ _ _ h => h) (Or.inl ⟨by rfl, ?_⟩) (by assumption) ?_
        · intro wx hs1; go_simp
        (try simp only [Act.put, List.getElem_toArray, List.getElem_cons_succ, List.getElem_cons_zero, List.setIfInBounds_toArray, List.set_cons_zero, List.set_cons_succ])
        refine wpAnyH_take (i := 3) (v := .int .i64 (k : Int)) rfl (by kernel_rfl) (by kernel_rfl) (by kernel_rfl) (fun _ _ _ h => h) (Or.inl ⟨by rfl, ?_⟩) (by assumption) ?_
        · intro wx hs1; go_simp
        (try simp only [Act.put, List.getElem_toArray, List.getElem_cons_succ, List.getElem_cons_zero, List.setIfInBounds_toArray, List.set_cons_zero, List.set_cons_succ])
        refine wpAnyH_take (i := 4) (v := .pointer (some ⟨b, off + k * 7, none⟩)) rfl (by kernel_rfl) (by kernel_rfl) (by kernel_rfl) (fun _ _ _ h => h) (Or.inl ⟨by rfl, ?_⟩) (by assumption) ?_
        · intro wx hs1; go_simp
        (try simp only [Act.put, List.getElem_toArray, List.getElem_cons_succ, List.getElem_cons_zero, List.setIfInBounds_toArray, List.set_cons_zero, List.set_cons_succ])
        refine wpAnyH_take (i := 5) (v := .agg #[.int .i64 y.x, .int .i64 y.r, .int .i64 y.q, .int .i64 y.k, .int .i64 y.m, .int .i64 y.n, .string y.t]) rfl (by kernel_rfl) (by kernel_rfl) (by kernel_rfl) (fun _ _ _ h => h) (Or.inl ⟨by rfl, ?_⟩) (by assumption) ?_
        · intro wx hs1; obtain ⟨⟨s0, s1, s2, s3, s4, s5, s6, s7, s8, s9⟩, ⟨x0, x1, x2, x3, x4, x5, x6⟩⟩ := hs1; go_simp
        (try simp only [Act.put, List.getElem_toArray, List.getElem_cons_succ, List.getElem_cons_zero, List.setIfInBounds_toArray, List.set_cons_zero, List.set_cons_succ])
        refine wpAnyH_ready (rs := [6, 10]) (by kernel_rfl) (by simp) (AllReadyH.cons rfl (fun K hK => ?_) (AllReadyH.cons rfl (fun K hK => ?_) AllReadyH.nil))
        · go_simp
          go_at_call 17
          (with_reducible refine (hact _ hAd hLd).mono ?_)
          rintro e w9 ⟨rfl, hA9, hB9⟩
          try dsimp only
          have hb9o : But (Xp p) wr w9 := HB0.out.trans hB9 (fun _ _ e => e)
          refine hK.out _ _ (HSo.out _ hb9o) (fun _ => ?_)
          clear hK K hB9
          (try simp only [Act.put, List.getElem_toArray, List.getElem_cons_succ, List.getElem_cons_zero, List.setIfInBounds_toArray, List.set_cons_zero, List.set_cons_succ])
          refine wpAnyH_take (i := 7) (v := .tuple #[.agg #[.int .i64 N.c, .int .i64 N.s, .int .i64 N.pr, .int .i64 N.pp, .int .i64 N.ar, .int .i64 N.ap, .int .i64 N.k, .int .i64 N.m, .int .i64 N.n, .string N.t], .bool true]) rfl (by kernel_rfl) (by kernel_rfl) (by kernel_rfl) (fun _ _ _ h => h) (Or.inl ⟨by rfl, ?_⟩) (by assumption) ?_
          · intro wx hs1; go_simp
          (try simp only [Act.put, List.getElem_toArray, List.getElem_cons_succ, List.getElem_cons_zero, List.setIfInBounds_toArray, List.set_cons_zero, List.set_cons_succ])
          refine wpAnyH_take (i := 8) (v := .agg #[.int .i64 N.c, .int .i64 N.s, .int .i64 N.pr, .int .i64 N.pp, .int .i64 N.ar, .int .i64 N.ap, .int .i64 N.k, .int .i64 N.m, .int .i64 N.n, .string N.t]) rfl (by kernel_rfl) (by kernel_rfl) (by kernel_rfl) (fun _ _ _ h => h) (Or.inl ⟨by rfl, ?_⟩) (by assumption) ?_
          · intro wx hs1; go_simp
          (try simp only [Act.put, List.getElem_toArray, List.getElem_cons_succ, List.getElem_cons_zero, List.setIfInBounds_toArray, List.set_cons_zero, List.set_cons_succ])
          refine wpAnyH_take (i := 9) (v := .bool true) rfl (by kernel_rfl) (by kernel_rfl) (by kernel_rfl) (fun _ _ _ h => h) (Or.inl ⟨by rfl, ?_⟩) (by assumption) ?_
          · intro wx hs1; go_simp
          (try simp only [Act.put, List.getElem_toArray, List.getElem_cons_succ, List.getElem_cons_zero, List.setIfInBounds_toArray, List.set_cons_zero, List.set_cons_succ])
          refine wpAnyH_ready (rs := [10]) (by kernel_rfl) (by simp) (AllReadyH.cons rfl (fun K hK => ?_) AllReadyH.nil)
          go_simp
          have hb9a : But (Xp p) wr (w9.alloc (.cells #[.int .i64 0, .int .i64 0, .int .i64 0, .int .i64 0, .int .i64 0, .int .i64 0, .int .i64 0, .int .i64 0, .int .i64 0, .string ⟨#[]⟩] 38)) := hb9o.alloc _
          try dsimp only
          have hS := HSo.out _ hb9a
          refine hK.out _ _ hS (fun _ => ?_)
          clear hK K
          (try simp only [Act.put, List.getElem_toArray, List.getElem_cons_succ, List.getElem_cons_zero, List.setIfInBounds_toArray, List.set_cons_zero, List.set_cons_succ])
          have hAA : AAt (w9.alloc (.cells #[.int .i64 0, .int .i64 0, .int .i64 0, .int .i64 0, .int .i64 0, .int .i64 0, .int .i64 0, .int .i64 0, .int .i64 0, .string ⟨#[]⟩] 38)) p N := (Below.heap_alloc w9 _ p hA9.lt).trans hA9
          obtain ⟨VB, hVB⟩ : ∃ v, w9.alloc (.cells #[.int .i64 0, .int .i64 0, .int .i64 0, .int .i64 0, .int .i64 0, .int .i64 0, .int .i64 0, .int .i64 0, .int .i64 0, .string ⟨#[]⟩] 38) = v := ⟨_, rfl⟩
          have hZA : VB.heap[w9.heap.size]? = some (.cells #[.int .i64 0, .int .i64 0, .int .i64 0, .int .i64 0, .int .i64 0, .int .i64 0, .int .i64 0, .int .i64 0, .int .i64 0, .string ⟨#[]⟩] 38 (0, 0)) := by rw [← hVB]; exact World.alloc_heap_new _ _
          rw [hVB] at hb9a hAA ⊢
          clear hVB
          have hSB := HSo.out VB hb9a
          have HBW := Lib.hid hb9a
          have HAW := Lib.hid hAA
          have hnp : p ≠ w9.heap.size := by have := hA9.lt; omega
          obtain ⟨b20, hb20'⟩ : ∃ x, w9.heap.size = x := ⟨_, rfl⟩
          have hb20 : wr.heap.size ≤ b20 := by rw [← hb20']; exact hb9o.size
          rw [hb20'] at hZA hnp ⊢
          clear hb20'
          have HZ := Lib.hid hZA
          obtain ⟨⟨a0, a1, a2, a3, a4, a5, a6, a7, a8, a9⟩, ⟨f0, f1, f2, f3, f4, f5, f6, f7, f8, f9⟩⟩ := ten HZ.out
          have HPZ := Lib.hid (set10 HZ.out (.int .i64 N.c) (.int .i64 N.s) (.int .i64 N.pr) (.int .i64 N.pp) (.int .i64 N.ar) (.int .i64 N.ap) (.int .i64 N.k) (.int .i64 N.m) (.int .i64 N.n) (.string N.t))
          have HPB := Lib.hid (buts10 (b := b20) HBW.out hb20 (.int .i64 N.c) (.int .i64 N.s) (.int .i64 N.pr) (.int .i64 N.pp) (.int .i64 N.ar) (.int .i64 N.ap) (.int .i64 N.k) (.int .i64 N.m) (.int .i64 N.n) (.string N.t))
          have HPA := Lib.hid (other10 (b := b20) HAW.out hnp (.int .i64 N.c) (.int .i64 N.s) (.int .i64 N.pr) (.int .i64 N.pp) (.int .i64 N.ar) (.int .i64 N.ap) (.int .i64 N.k) (.int .i64 N.m) (.int .i64 N.n) (.string N.t))
          refine wpAnyH_ready (rs := [11]) (by kernel_rfl) (by simp) (AllReadyH.cons rfl (fun K hK => ?_) AllReadyH.nil)
          go_simp
          obtain ⟨w10, hw10⟩ : ∃ v, ((((((((((VB.setCell ⟨b20, 0, none⟩ (.int .i64 N.c)).setCell ⟨b20, 1, none⟩ (.int .i64 N.s)).setCell ⟨b20, 2, none⟩ (.int .i64 N.pr)).setCell ⟨b20, 3, none⟩ (.int .i64 N.pp)).setCell ⟨b20, 4, none⟩ (.int .i64 N.ar)).setCell ⟨b20, 5, none⟩ (.int .i64 N.ap)).setCell ⟨b20, 6, none⟩ (.int .i64 N.k)).setCell ⟨b20, 7, none⟩ (.int .i64 N.m)).setCell ⟨b20, 8, none⟩ (.int .i64 N.n)).setCell ⟨b20, 9, none⟩ (.string N.t)) = v := ⟨_, rfl⟩
          rw [hw10] at HPZ HPB HPA ⊢
          clear hw10 f0 f1 f2 f3 f4 f5 f6 f7 f8 f9 a0 a1 a2 a3 a4 a5 a6 a7 a8 a9
          try dsimp only
          have hS := HSo.out w10 HPB.out
          refine hK.out _ _ hS (fun _ => ?_)
          clear hK K
          (try simp only [Act.put, List.getElem_toArray, List.getElem_cons_succ, List.getElem_cons_zero, List.setIfInBounds_toArray, List.set_cons_zero, List.set_cons_succ])
          refine wpAnyH_take (i := 12) (v := .bool true) rfl (by kernel_rfl) (by kernel_rfl) (by kernel_rfl) (fun _ _ _ h => h) (Or.inl ⟨by rfl, ?_⟩) (by assumption) ?_
          · intro wx hs1; go_simp
          (try simp only [Act.put, List.getElem_toArray, List.getElem_cons_succ, List.getElem_cons_zero, List.setIfInBounds_toArray, List.set_cons_zero, List.set_cons_succ])
          refine wpAnyH_done (by kernel_rfl) ?_ _
          go_wp2_with fail
          go_meet
          exact ⟨b20, rfl, rfl, Lib.hid ⟨HPZ.out, HPA.out, HPB.out, hb20⟩⟩
        · go_simp
          have hbA : But (Xp p) wr (V0.alloc (.cells #[.int .i64 0, .int .i64 0, .int .i64 0, .int .i64 0, .int .i64 0, .int .i64 0, .int .i64 0, .int .i64 0, .int .i64 0, .string ⟨#[]⟩] 38)) := HB0.out.alloc _
          refine hK.out _ _ (HSo.out _ hbA) (fun _ => ?_)
          clear hK K
          (try simp only [Act.put, List.getElem_toArray, List.getElem_cons_succ, List.getElem_cons_zero, List.setIfInBounds_toArray, List.set_cons_zero, List.set_cons_succ])
          have hAA : AAt (V0.alloc (.cells #[.int .i64 0, .int .i64 0, .int .i64 0, .int .i64 0, .int .i64 0, .int .i64 0, .int .i64 0, .int .i64 0, .int .i64 0, .string ⟨#[]⟩] 38)) p M := (Below.heap_alloc V0 _ p hAd.lt).trans hAd
          have hLA := hLd.keep ((Below.refl _ V0).alloc (Nat.le_refl _) (.cells #[.int .i64 0, .int .i64 0, .int .i64 0, .int .i64 0, .int .i64 0, .int .i64 0, .int .i64 0, .int .i64 0, .int .i64 0, .string ⟨#[]⟩] 38))
          obtain ⟨VA, hVA⟩ : ∃ v, V0.alloc (.cells #[.int .i64 0, .int .i64 0, .int .i64 0, .int .i64 0, .int .i64 0, .int .i64 0, .int .i64 0, .int .i64 0, .int .i64 0, .string ⟨#[]⟩] 38) = v := ⟨_, rfl⟩
          have hZA : VA.heap[V0.heap.size]? = some (.cells #[.int .i64 0, .int .i64 0, .int .i64 0, .int .i64 0, .int .i64 0, .int .i64 0, .int .i64 0, .int .i64 0, .int .i64 0, .string ⟨#[]⟩] 38 (0, 0)) := by rw [← hVA]; exact World.alloc_heap_new _ _
          rw [hVA] at hbA hAA hLA ⊢
          clear hVA
          have hSA := HSo.out VA hbA
          have hnp : p ≠ V0.heap.size := by have := hAd.lt; omega
          obtain ⟨b20, hb20'⟩ : ∃ x, V0.heap.size = x := ⟨_, rfl⟩
          have hb20 : wr.heap.size ≤ b20 := by rw [← hb20']; exact HB0.out.size
          rw [hb20'] at hZA hnp ⊢
          clear hb20'
          refine wpAnyH_ready (rs := [6]) (by kernel_rfl) (by simp) (AllReadyH.cons rfl (fun K hK => ?_) AllReadyH.nil)
          go_simp
          go_at_call 17
          (with_reducible refine (hact _ hAA hLA).mono ?_)
          rintro e w9 ⟨rfl, hA9, hB9⟩
          try dsimp only
          have HBW : Hid (But (Xp p) wr w9) := Lib.hid (hbA.trans hB9 (fun _ _ e => e)); have HZ := Lib.hid (hB9.box hZA (fun e => hnp (show b20 = p from e).symm)); have HAW := Lib.hid hA9; clear hB9 hA9; have hS := HSo.out w9 HBW.out
          refine hK.out _ _ hS (fun _ => ?_)
          clear hK K
          (try simp only [Act.put, List.getElem_toArray, List.getElem_cons_succ, List.getElem_cons_zero, List.setIfInBounds_toArray, List.set_cons_zero, List.set_cons_succ])
          refine wpAnyH_take (i := 7) (v := .tuple #[.agg #[.int .i64 N.c, .int .i64 N.s, .int .i64 N.pr, .int .i64 N.pp, .int .i64 N.ar, .int .i64 N.ap, .int .i64 N.k, .int .i64 N.m, .int .i64 N.n, .string N.t], .bool true]) rfl (by kernel_rfl) (by kernel_rfl) (by kernel_rfl) (fun _ _ _ h => h) (Or.inl ⟨by rfl, ?_⟩) (by assumption) ?_
          · intro wx hs1; go_simp
          (try simp only [Act.put, List.getElem_toArray, List.getElem_cons_succ, List.getElem_cons_zero, List.setIfInBounds_toArray, List.set_cons_zero, List.set_cons_succ])
          refine wpAnyH_take (i := 8) (v := .agg #[.int .i64 N.c, .int .i64 N.s, .int .i64 N.pr, .int .i64 N.pp, .int .i64 N.ar, .int .i64 N.ap, .int .i64 N.k, .int .i64 N.m, .int .i64 N.n, .string N.t]) rfl (by kernel_rfl) (by kernel_rfl) (by kernel_rfl) (fun _ _ _ h => h) (Or.inl ⟨by rfl, ?_⟩) (by assumption) ?_
          · intro wx hs1; go_simp
          (try simp only [Act.put, List.getElem_toArray, List.getElem_cons_succ, List.getElem_cons_zero, List.setIfInBounds_toArray, List.set_cons_zero, List.set_cons_succ])
          refine wpAnyH_take (i := 9) (v := .bool true) rfl (by kernel_rfl) (by kernel_rfl) (by kernel_rfl) (fun _ _ _ h => h) (Or.inl ⟨by rfl, ?_⟩) (by assumption) ?_
          · intro wx hs1; go_simp
          (try simp only [Act.put, List.getElem_toArray, List.getElem_cons_succ, List.getElem_cons_zero, List.setIfInBounds_toArray, List.set_cons_zero, List.set_cons_succ])
          obtain ⟨⟨a0, a1, a2, a3, a4, a5, a6, a7, a8, a9⟩, ⟨f0, f1, f2, f3, f4, f5, f6, f7, f8, f9⟩⟩ := ten HZ.out
          have HPZ := Lib.hid (set10 HZ.out (.int .i64 N.c) (.int .i64 N.s) (.int .i64 N.pr) (.int .i64 N.pp) (.int .i64 N.ar) (.int .i64 N.ap) (.int .i64 N.k) (.int .i64 N.m) (.int .i64 N.n) (.string N.t))
          have HPB := Lib.hid (buts10 (b := b20) HBW.out hb20 (.int .i64 N.c) (.int .i64 N.s) (.int .i64 N.pr) (.int .i64 N.pp) (.int .i64 N.ar) (.int .i64 N.ap) (.int .i64 N.k) (.int .i64 N.m) (.int .i64 N.n) (.string N.t))
          have HPA := Lib.hid (other10 (b := b20) HAW.out hnp (.int .i64 N.c) (.int .i64 N.s) (.int .i64 N.pr) (.int .i64 N.pp) (.int .i64 N.ar) (.int .i64 N.ap) (.int .i64 N.k) (.int .i64 N.m) (.int .i64 N.n) (.string N.t))
          refine wpAnyH_ready (rs := [11]) (by kernel_rfl) (by simp) (AllReadyH.cons rfl (fun K hK => ?_) AllReadyH.nil)
          go_simp
          obtain ⟨w10, hw10⟩ : ∃ v, ((((((((((w9.setCell ⟨b20, 0, none⟩ (.int .i64 N.c)).setCell ⟨b20, 1, none⟩ (.int .i64 N.s)).setCell ⟨b20, 2, none⟩ (.int .i64 N.pr)).setCell ⟨b20, 3, none⟩ (.int .i64 N.pp)).setCell ⟨b20, 4, none⟩ (.int .i64 N.ar)).setCell ⟨b20, 5, none⟩ (.int .i64 N.ap)).setCell ⟨b20, 6, none⟩ (.int .i64 N.k)).setCell ⟨b20, 7, none⟩ (.int .i64 N.m)).setCell ⟨b20, 8, none⟩ (.int .i64 N.n)).setCell ⟨b20, 9, none⟩ (.string N.t)) = v := ⟨_, rfl⟩
          rw [hw10] at HPZ HPB HPA ⊢
          clear hw10 f0 f1 f2 f3 f4 f5 f6 f7 f8 f9 a0 a1 a2 a3 a4 a5 a6 a7 a8 a9
          try dsimp only
          have hS := HSo.out w10 HPB.out
          refine hK.out _ _ hS (fun _ => ?_)
          clear hK K
          (try simp only [Act.put, List.getElem_toArray, List.getElem_cons_succ, List.getElem_cons_zero, List.setIfInBounds_toArray, List.set_cons_zero, List.set_cons_succ])
          refine wpAnyH_take (i := 12) (v := .bool true) rfl (by kernel_rfl) (by kernel_rfl) (by kernel_rfl) (fun _ _ _ h => h) (Or.inl ⟨by rfl, ?_⟩) (by assumption) ?_
          · intro wx hs1; go_simp
          (try simp only [Act.put, List.getElem_toArray, List.getElem_cons_succ, List.getElem_cons_zero, List.setIfInBounds_toArray, List.set_cons_zero, List.set_cons_succ])
          refine wpAnyH_done (by kernel_rfl) ?_ _
          go_wp2_with fail
          go_meet
          exact ⟨b20, rfl, rfl, Lib.hid ⟨HPZ.out, HPA.out, HPB.out, hb20⟩⟩
      case rest =>
        obtain ⟨b20, rfl, rfl, HX20⟩ := hcut
        obtain ⟨⟨d0, d1, d2, d3, d4, d5, d6, d7, d8, d9⟩, _⟩ := ten HX20.out.1
        have h9x := HX20.out.2.2.1.box HLP.out.doc (by show ¬ (w3.heap.size = p); omega)
        obtain ⟨_, ⟨f0, f1, f2, f3, f4, f5, f6, f7, f8, f9⟩⟩ := ten h9x
        have hn9 : b20 ≠ w3.heap.size := by have := HX20.out.2.2.2; omega
        have K9 := Lib.hid (set10 h9x (.int .i64 N.c) (.int .i64 N.s) (.int .i64 N.pr) (.int .i64 N.pp) (.int .i64 N.ar) (.int .i64 N.ap) (.int .i64 N.k) (.int .i64 N.m) (.int .i64 N.n) (.string N.t))
        have KA := Lib.hid (other10 (b := w3.heap.size) HX20.out.2.1 (by omega) (.int .i64 N.c) (.int .i64 N.s) (.int .i64 N.pr) (.int .i64 N.pp) (.int .i64 N.ar) (.int .i64 N.ap) (.int .i64 N.k) (.int .i64 N.m) (.int .i64 N.n) (.string N.t))
        have KB := Lib.hid (bset10 (p := w3.heap.size) (below_but HCR.out HX20.out.2.2.1 HCR.out.size hpw) hww3 (.int .i64 N.c) (.int .i64 N.s) (.int .i64 N.pr) (.int .i64 N.pp) (.int .i64 N.ar) (.int .i64 N.ap) (.int .i64 N.k) (.int .i64 N.m) (.int .i64 N.n) (.string N.t))
        have KS : w5.heap.size ≤ wc.heap.size := Nat.le_trans HLP.out.size HX20.out.2.2.1.size
        have KO := Lib.hid (OAt.of_heap (HLP.out.none_.but HX20.out.2.2.1 HZ.out) (fun z e => other10 (b := w3.heap.size) rfl (HZ9.out z e) (.int .i64 N.c) (.int .i64 N.s) (.int .i64 N.pr) (.int .i64 N.pp) (.int .i64 N.ar) (.int .i64 N.ap) (.int .i64 N.k) (.int .i64 N.m) (.int .i64 N.n) (.string N.t)))
        clear h9x
        go_upto_region 20 with fail
        obtain ⟨w20, hw20⟩ : ∃ v, ((((((((((wc.setCell ⟨w3.heap.size, 0, none⟩ (.int .i64 N.c)).setCell ⟨w3.heap.size, 1, none⟩ (.int .i64 N.s)).setCell ⟨w3.heap.size, 2, none⟩ (.int .i64 N.pr)).setCell ⟨w3.heap.size, 3, none⟩ (.int .i64 N.pp)).setCell ⟨w3.heap.size, 4, none⟩ (.int .i64 N.ar)).setCell ⟨w3.heap.size, 5, none⟩ (.int .i64 N.ap)).setCell ⟨w3.heap.size, 6, none⟩ (.int .i64 N.k)).setCell ⟨w3.heap.size, 7, none⟩ (.int .i64 N.m)).setCell ⟨w3.heap.size, 8, none⟩ (.int .i64 N.n)).setCell ⟨w3.heap.size, 9, none⟩ (.string N.t)) = v := ⟨_, rfl⟩
        have KS2 : w5.heap.size ≤ w20.heap.size := by rw [← hw20]; simpa using KS
        rw [hw20] at K9 KA KB KO ⊢
        clear hw20 d0 d1 d2 d3 d4 d5 d6 d7 d8 d9 f0 f1 f2 f3 f4 f5 f6 f7 f8 f9 KS HX20
        obtain ⟨⟨d0, d1, d2, d3, d4, d5, d6, d7, d8, d9⟩, _⟩ := ten K9.out
        have his := is_row w20 p N c s KA.out hc0 hokn
        go_wp2_with (go_at_call 18; (with_reducible refine his.mono ?_); clear his; rintro e w22 ⟨rfl, hb22⟩)
        clear d0 d1 d2 d3 d4 d5 d6 d7 d8 d9
        go_roundw
        case rel => exact ⟨k + 1, by omega, by go_num, Lib.hid (by rw [HST.out]; exact ⟨AAt.keep KA.out hb22, (hb22.block _ (Array.getElem?_eq_some_iff.1 K9.out).1).trans K9.out, OAt.keep KO.out hb22, KB.out.trans (hb22.mono KB.out.size), Nat.le_trans KS2 hb22.size⟩)⟩
        case measure => simp [RowKit.intOf]; omega
    · obtain rfl : k = n := by omega
      have hne : sameM M zeroM = false := by
        cases e : sameM M zeroM with
        | false => rfl
        | true => exact absurd ((congrArg AcM.c (sameM_eq.1 e)).symm.trans HOKK.out.c) (fun e2 => hc0 e2.symm)
      have hne2 : sameM zeroM M = false := by
        cases e : sameM zeroM M with
        | false => rfl
        | true => exact absurd ((congrArg AcM.c (sameM_eq.1 e)).trans HOKK.out.c) (fun e2 => hc0 e2.symm)
      have his := is_row wr p M c s HLP.out.at_ hc0 HOKK.out
      have HS1 : Hid (∀ W, Below wr.heap.size wr W → Calls Tryz.prog 16 #[.pointer (some ⟨p, 0, none⟩), .pointer (some ⟨w4.heap.size, 0, none⟩)] W fun e w' => e = .returned (.bool false) ∧ Below wr.heap.size wr w') := Lib.hid fun W hb => (Same_any W (some p) (some w4.heap.size) M zeroM (AAt.keep HLP.out.at_ hb) (HLP.out.none_.keep hb)).mono fun e w' ⟨h1, h2⟩ => ⟨by rw [h1, hne], hb.trans (h2.mono hb.size)⟩
      have HS2 : Hid (∀ W, Below wr.heap.size wr W → Calls Tryz.prog 16 #[.pointer (some ⟨w4.heap.size, 0, none⟩), .pointer (some ⟨p, 0, none⟩)] W fun e w' => e = .returned (.bool false) ∧ Below wr.heap.size wr w') := Lib.hid fun W hb => (Same_any W (some w4.heap.size) (some p) zeroM M (HLP.out.none_.keep hb) (AAt.keep HLP.out.at_ hb)).mono fun e w' ⟨h1, h2⟩ => ⟨by rw [h1, hne2], hb.trans (h2.mono hb.size)⟩
      have HWk : Hid (∀ W, Below wr.heap.size wr W → Calls Tryz.prog 7 #[] W fun e w' => e = .returned (.bool true) ∧ Below wr.heap.size wr w') := Lib.hid fun W hb => (works_any W ((HL.out.keep HCR.out).keep hb)).mono fun e w' ⟨h1, h2⟩ => ⟨h1, hb.trans (h2.mono hb.size)⟩
      clear hne hne2 hM
      go_wp2_with (first
        | (go_at_call 13; (with_reducible refine (hnum _ _).mono ?_); rintro e w' ⟨rfl, rfl⟩)
        | (go_at_call 18; (with_reducible refine his.mono ?_); clear his; rintro e w22 ⟨rfl, hb22⟩)
        | (go_at_call 16; (with_reducible refine (HS1.out _ hb22).mono ?_); clear HS1 hb22; rintro e w23 ⟨rfl, hb23⟩)
        | (go_at_call 16; (with_reducible refine (HS2.out _ hb23).mono ?_); clear HS2 hb23; rintro e w24 ⟨rfl, hb24⟩)
        | (go_at_call 7; (with_reducible refine (HWk.out _ hb24).mono ?_); clear HWk hb24; rintro e w25 ⟨rfl, hb25⟩))
      go_ret
      exact ⟨rfl, HCR.out.trans (hb25.mono HCR.out.size)⟩
theorem Sm.plays_law (c s : Int) (A : Option Addr) (n cap : Nat) (xs : List XV) (w : World) (hn : xs.length = n) (hnc : n ≤ cap) (hc9 : cap ≤ 9223372036854775807) (hx : RdX w A xs) (hcm : ∀ y ∈ xs, XV.came y) (hL : LaysT w) :
    Calls Tryz.prog 3 #[.int .i64 c, .int .i64 s, .slice A n cap] w fun e w' => e = .returned (.bool true) ∧ Below w.heap.size w w' := by
  cases hf : fewB xs 40 with
  | false => exact plays_many c s A n cap xs w hn hnc hc9 hx hcm hL hf
  | true =>
    by_cases hv : chB c = true ∧ slB s = true
    · cases hp : ((n : Int) % 2 == 1) with
      | false => exact plays_good_false c s A n cap xs w hn hnc hc9 hx hcm hL hf hp hv.1 hv.2
      | true => exact plays_good_true c s A n cap xs w hn hnc hc9 hx hcm hL hf hp hv.1 hv.2
    · cases hp : ((n : Int) % 2 == 1) with
      | false => exact plays_err_false c s A n cap xs w hn hnc hc9 hx hcm hL hf hp hv
      | true => exact plays_err_true c s A n cap xs w hn hnc hc9 hx hcm hL hf hp hv
end Go.Proofs
