/-
  learner: the chapter's rows: works. Condition: the library's two tables of UTF-8 lie as they are laid.
-/
import Derived.Test.YtohidbkhccepnaaDoorLeI
namespace Go.Proofs
open Go Go.RowKit Sm Go.Lib Go.Maps Go.WideMaps
attribute [local go_sem] Oper.semAt_some
theorem Sm.num_any (x : Int) (w : World) : Calls Tryd.prog 7 #[.int .i64 x] w fun e w' => e = .returned (.int .i64 x) ∧ w = w' := by
  go_enter Tryd.func7, Tryd.ntmps7
  go_wp2
  go_ret
  exact ⟨rfl, rfl⟩
theorem Sm.say_any (t : ByteArray) (w : World) : Calls Tryd.prog 12 #[.string t] w fun e w' => e = .returned (.agg #[.int .i64 4, .int .i64 0, .int .i64 1, .string t]) ∧ Below w.heap.size w w' := by
  have hb0 : ∀ X t, Below w.heap.size w (w.alloc (.cells X t)) := fun X t => (Below.refl _ w).alloc (Nat.le_refl _) _
  go_enter Tryd.func12, Tryd.ntmps12
  go_wp2
  refine bodyPost_ret (v := .agg #[.int .i64 4, .int .i64 0, .int .i64 1, .string t]) (by simp [results, Tryd.results12, go_sem]) rfl ⟨rfl, hb0 _ _⟩
theorem Sm.LaysT.butL {w w' : World} {p Mb : Nat} (h : LaysT w) (hb : But (SL p Mb) w w') (hp : 3 ≤ p) (hM : 3 ≤ Mb) : LaysT w' := by
  have hs := h.size
  have k : ∀ b o, b < 3 → w'.cell? ⟨b, o, none⟩ = w.cell? ⟨b, o, none⟩ := fun b o hlt => hb.cell (p := ⟨b, o, none⟩) (by show b < _; omega) (by show ¬ (b = p ∨ b = Mb); omega)
  exact ⟨Nat.le_trans hs hb.size, ⟨fun c hc => (k 0 c (by omega)).trans (h.tabs.1 c hc), fun i hi => ⟨(k 1 _ (by omega)).trans (h.tabs.2 i hi).1, (k 1 _ (by omega)).trans (h.tabs.2 i hi).2⟩⟩⟩
def Sm.hiE : EntM := ⟨4, 0, 1, ⟨#[104, 105]⟩⟩
def Sm.hoE : EntM := ⟨4, 0, 1, ⟨#[104, 111]⟩⟩
def Sm.wS : LSt := ⟨3, 1, noE, false⟩
def Sm.wG : HrdM := fun _ _ => none
def Sm.wH1 := hearD wS wG 0 1 0 hiE
def Sm.wH2 := hearD wH1.1 wH1.2.1 0 1 0 hiE
def Sm.wH3 := hearD wH2.1 wH2.2.1 0 1 2 hiE
def Sm.wT4 := toldD wH3.1 skipE
def Sm.wT5 := toldD wT4.1 skipE
def Sm.wH6 := hearD wT5.1 wH3.2.1 0 1 1 hoE
def Sm.wI1 := hearD wS wG 1 0 0 hiE
def Sm.wI2 := hearD wI1.1 wI1.2.1 2 0 1 hiE
def Sm.wI3 := toldD wI2.1 skipE
/-- a Hear, told from a base -/
theorem Sm.wHear (s : LSt) (g : HrdM) (n : Nat) (r q : Int) (pl : Nat) (e0 : EntM) (b : Bool) (E : Int) (hx : (!ckB s.c 0 pl || !mayB s.c s.s r q || !e0.right) = false) (h1 : ((hearD s g r q pl e0).1.kn != s.kn) = b) (h2 : (hearD s g r q pl e0).2.2 = E) (hr : I64 r) (hq : I64 q) (he : e0.ok) (hn : n < 1000000)
    (w2 : World) (p Mb : Nat) (hp : 3 ≤ p) (hM : 3 ≤ Mb) (hL : LaysT w2) :
    ∀ W, But (SL p Mb) w2 W → LAt W p Mb s g n → Calls Tryd.prog 9 #[.pointer (some ⟨p, 0, none⟩), .int .i64 (pl : Int), .agg #[.int .i64 r, .int .i64 q], .agg #[.int .i64 e0.k, .int .i64 e0.m, .int .i64 e0.n, .string e0.t]] W fun e w' => e = .returned (.tuple #[.bool b, .int .i64 E]) ∧ LAt w' p Mb (hearD s g r q pl e0).1 (hearD s g r q pl e0).2.1 (n + 1) ∧ But (SL p Mb) w2 w' := fun W hB hA => by
  refine (Hear_do hA hn hr hq he (hL.butL hB hp hM) hx).mono ?_
  simp only [Int.toNat_natCast]
  rintro e w' ⟨e1, e2, e3⟩
  rw [h1, h2] at e1
  exact ⟨e1, e2, hB.trans e3 (fun _ _ e => e)⟩
theorem Sm.wTold (s : LSt) (g : HrdM) (n : Nat) (e0 : EntM) (b : Bool) (E : Int) (hx : e0.right = true) (h1 : ((toldD s e0).1.kn != s.kn) = b) (h2 : (toldD s e0).2 = E) (he : e0.ok)
    (w2 : World) (p Mb : Nat) (hp : 3 ≤ p) (hM : 3 ≤ Mb) (hL : LaysT w2) :
    ∀ W, But (SL p Mb) w2 W → LAt W p Mb s g n → Calls Tryd.prog 10 #[.pointer (some ⟨p, 0, none⟩), .agg #[.int .i64 e0.k, .int .i64 e0.m, .int .i64 e0.n, .string e0.t]] W fun e w' => e = .returned (.tuple #[.bool b, .int .i64 E]) ∧ LAt w' p Mb (toldD s e0).1 g n ∧ But (SL p Mb) w2 w' := fun W hB hA => by
  refine (Told_do hA he (hL.butL hB hp hM) hx).mono ?_
  rintro e w' ⟨e1, e2, e3⟩
  rw [h1, h2] at e1
  exact ⟨e1, e2, hB.trans e3 (fun _ _ e => e)⟩
theorem Sm.wSkip (s : LSt) (g : HrdM) (n : Nat) (b : Bool) (E : Int) (h1 : ((toldD s skipE).1.kn != s.kn) = b) (h2 : (toldD s skipE).2 = E)
    (w2 : World) (p Mb : Nat) (hp : 3 ≤ p) (hM : 3 ≤ Mb) (hL : LaysT w2) :
    ∀ W, But (SL p Mb) w2 W → LAt W p Mb s g n → Calls Tryd.prog 11 #[.pointer (some ⟨p, 0, none⟩)] W fun e w' => e = .returned (.tuple #[.bool b, .int .i64 E]) ∧ LAt w' p Mb (toldD s skipE).1 g n ∧ But (SL p Mb) w2 w' := fun W hB hA => by
  refine (Skipped_any hA (hL.butL hB hp hM)).mono ?_
  rintro e w' ⟨e1, e2, e3⟩
  rw [h1, h2] at e1
  exact ⟨e1, e2, hB.trans e3 (fun _ _ e => e)⟩
theorem Sm.hi_ok : hiE.ok := ok_small 4 0 1 ⟨#[104, 105]⟩ (by decide)
theorem Sm.ho_ok : hoE.ok := ok_small 4 0 1 ⟨#[104, 111]⟩ (by decide)
theorem Sm.i64_small {a : Int} (h : 0 ≤ a ∧ a ≤ 100) : I64 a := by unfold I64; omega
set_option maxRecDepth 100000 in
set_option maxHeartbeats 40000000 in
theorem Sm.works_any (w : World) (hL : LaysT w) : Calls Tryd.prog 5 #[] w fun e w' => e = .returned (.bool true) ∧ Below w.heap.size w w' := by
  obtain ⟨w1, hw1⟩ : ∃ v, w.alloc (.cells #[.int .i64 0, .int .i64 1] 37) = v := ⟨_, rfl⟩
  have q1 : w1.heap[w.heap.size]? = some (.cells #[.int .i64 0, .int .i64 1] 37 (0, 0)) := by rw [← hw1]; exact World.alloc_heap_new w _
  have hb1 : Below w.heap.size w w1 := by rw [← hw1]; exact (Below.refl _ w).alloc (Nat.le_refl _) _
  have HN : Hid (∀ W, Calls Tryd.prog 6 #[.int .i64 3, .int .i64 1] W fun e w' => ∃ p Mb, e = .returned (.tuple #[.pointer (some ⟨p, 0, none⟩), .int .i64 0]) ∧ LAt w' p Mb wS wG 0 ∧ W.heap.size ≤ p ∧ W.heap.size ≤ Mb ∧ Below W.heap.size W w') := Lib.hid fun W => New_yes 3 1 W ⟨by decide, by decide⟩
  have hl1 := (Array.getElem?_eq_some_iff.1 q1).1
  have hs := hL.size
  have hs1 := hb1.size
  have HB1 := Lib.hid hb1
  have HL1 := Lib.hid (hL.keep hb1)
  have HQ1 := Lib.hid q1
  have HSAY : Hid (∀ t W, Calls Tryd.prog 12 #[.string t] W fun e w' => e = .returned (.agg #[.int .i64 4, .int .i64 0, .int .i64 1, .string t]) ∧ Below W.heap.size W w') := Lib.hid say_any
  clear q1 hb1 hL
  go_enter Tryd.func5, Tryd.ntmps5
  go_upto_region 2 with fail
  try rw [hw1]
  clear hw1
  go_upto_region 3 with (go_at_call 6; (with_reducible refine (HN.out _).mono ?_); rintro e w2 ⟨p, Mb, rfl, hA2, hp, hM, hb2⟩)
  have hpN : ¬ SL p Mb w.heap.size := by show ¬ (_ = _ ∨ _ = _); omega
  have h3p : 3 ≤ p := by omega
  have h3M : 3 ≤ Mb := by omega
  have hs2 := hb2.size
  have q2 := (hb2.block _ hl1).trans HQ1.out
  have HB2 := Lib.hid (HB1.out.trans (hb2.mono HB1.out.size))
  have hL2 := HL1.out.keep hb2
  have HL2 := Lib.hid hL2
  have HQ : Hid (∀ W, But (SL p Mb) w2 W → W.cell? ⟨w.heap.size, 0, none⟩ = some (.int .i64 0) ∧ W.cell? ⟨w.heap.size, 1, none⟩ = some (.int .i64 1)) := Lib.hid fun W hB => (two (hB.box q2 hpN)).1
  clear hb2 q2 HQ1 HB1 HL1
  have C3 : Hid (∀ W, But (SL p Mb) w2 W → LAt W p Mb wS wG 0 → Calls Tryd.prog 9 #[.pointer (some ⟨p, 0, none⟩), .int .i64 0, .agg #[.int .i64 0, .int .i64 1], .agg #[.int .i64 4, .int .i64 0, .int .i64 1, .string ⟨#[104, 105]⟩]] W fun e w' => e = .returned (.tuple #[.bool false, .int .i64 0]) ∧ LAt w' p Mb wH1.1 wH1.2.1 1 ∧ But (SL p Mb) w2 w') := Lib.hid (wHear wS wG 0 0 1 0 hiE false 0 (by decide +kernel) (by decide +kernel) (by decide +kernel) (i64_small (by decide)) (i64_small (by decide)) hi_ok (by decide) w2 p Mb h3p h3M hL2)
  have C4 : Hid (∀ W, But (SL p Mb) w2 W → LAt W p Mb wH1.1 wH1.2.1 1 → Calls Tryd.prog 9 #[.pointer (some ⟨p, 0, none⟩), .int .i64 0, .agg #[.int .i64 0, .int .i64 1], .agg #[.int .i64 4, .int .i64 0, .int .i64 1, .string ⟨#[104, 105]⟩]] W fun e w' => e = .returned (.tuple #[.bool false, .int .i64 0]) ∧ LAt w' p Mb wH2.1 wH2.2.1 2 ∧ But (SL p Mb) w2 w') := Lib.hid (wHear wH1.1 wH1.2.1 1 0 1 0 hiE false 0 (by decide +kernel) (by decide +kernel) (by decide +kernel) (i64_small (by decide)) (i64_small (by decide)) hi_ok (by decide) w2 p Mb h3p h3M hL2)
  have C5 : Hid (∀ W, But (SL p Mb) w2 W → LAt W p Mb wH2.1 wH2.2.1 2 → Calls Tryd.prog 9 #[.pointer (some ⟨p, 0, none⟩), .int .i64 2, .agg #[.int .i64 0, .int .i64 1], .agg #[.int .i64 4, .int .i64 0, .int .i64 1, .string ⟨#[104, 105]⟩]] W fun e w' => e = .returned (.tuple #[.bool true, .int .i64 0]) ∧ LAt w' p Mb wH3.1 wH3.2.1 3 ∧ But (SL p Mb) w2 w') := Lib.hid (wHear wH2.1 wH2.2.1 2 0 1 2 hiE true 0 (by decide +kernel) (by decide +kernel) (by decide +kernel) (i64_small (by decide)) (i64_small (by decide)) hi_ok (by decide) w2 p Mb h3p h3M hL2)
  have HPL := Lib.hid hA2.lt
  have hA2 := Lib.hid hA2
  have hB2 : Hid (But (SL p Mb) w2 w2) := Lib.hid (But.refl _ _)
  clear hL2
  have z0 := HQ.out _ hB2.out
  have zd : w2.drew.cell? ⟨w.heap.size, 0, none⟩ = some (.int .i64 0) ∧ w2.drew.cell? ⟨w.heap.size, 1, none⟩ = some (.int .i64 1) := z0
  go_region_held_law (fun W => W.cell? ⟨w.heap.size, 0, none⟩ = some (.int .i64 0) ∧ W.cell? ⟨w.heap.size, 1, none⟩ = some (.int .i64 1))
    (first | with_reducible exact z0 | with_reducible exact zd | with_reducible exact zs | with_reducible exact zh)
    (first
      | (go_at_call 12; (with_reducible refine (HSAY.out _ _).mono ?_); rintro e ws ⟨rfl, hbs⟩; have hbs : Below w2.heap.size w2 ws := (by first | exact hbs | exact (Below.refl _ w2).drew.trans hbs); have hAs := Lib.hid (hA2.out.keep hbs); have hBs : Hid (But (SL p Mb) w2 ws) := Lib.hid (hB2.out.trans (But.of_all hbs (SL p Mb)) (fun _ _ e => e)); have zs := HQ.out _ hBs.out; clear hbs)
      | (go_at_call 9; (with_reducible refine (C3.out _ hBs.out hAs.out).mono ?_); rintro e w3 ⟨rfl, hA, hB⟩; have hA3 := Lib.hid hA; have hB3 := Lib.hid hB; have zh := HQ.out _ hB; clear hA hB))
  clear z0 zd zs zh hAs hBs hA2 hB2
  go_upto_region 4 with fail
  have z0 := HQ.out _ hB3.out
  have zd : w3.drew.cell? ⟨w.heap.size, 0, none⟩ = some (.int .i64 0) ∧ w3.drew.cell? ⟨w.heap.size, 1, none⟩ = some (.int .i64 1) := z0
  go_region_held_law (fun W => W.cell? ⟨w.heap.size, 0, none⟩ = some (.int .i64 0) ∧ W.cell? ⟨w.heap.size, 1, none⟩ = some (.int .i64 1))
    (first | with_reducible exact z0 | with_reducible exact zd | with_reducible exact zs | with_reducible exact zh)
    (first
      | (go_at_call 12; (with_reducible refine (HSAY.out _ _).mono ?_); rintro e ws ⟨rfl, hbs⟩; have hbs : Below w3.heap.size w3 ws := (by first | exact hbs | exact (Below.refl _ w3).drew.trans hbs); have hAs := Lib.hid (hA3.out.keep hbs); have hBs : Hid (But (SL p Mb) w2 ws) := Lib.hid (hB3.out.trans (But.of_all hbs (SL p Mb)) (fun _ _ e => e)); have zs := HQ.out _ hBs.out; clear hbs)
      | (go_at_call 9; (with_reducible refine (C4.out _ hBs.out hAs.out).mono ?_); rintro e w4 ⟨rfl, hA, hB⟩; have hA4 := Lib.hid hA; have hB4 := Lib.hid hB; have zh := HQ.out _ hB; clear hA hB))
  clear z0 zd zs zh hAs hBs hA3 hB3
  go_upto_region 5 with fail
  have z0 := HQ.out _ hB4.out
  have zd : w4.drew.cell? ⟨w.heap.size, 0, none⟩ = some (.int .i64 0) ∧ w4.drew.cell? ⟨w.heap.size, 1, none⟩ = some (.int .i64 1) := z0
  go_region_held_law (fun W => W.cell? ⟨w.heap.size, 0, none⟩ = some (.int .i64 0) ∧ W.cell? ⟨w.heap.size, 1, none⟩ = some (.int .i64 1))
    (first | with_reducible exact z0 | with_reducible exact zd | with_reducible exact zs | with_reducible exact zh)
    (first
      | (go_at_call 12; (with_reducible refine (HSAY.out _ _).mono ?_); rintro e ws ⟨rfl, hbs⟩; have hbs : Below w4.heap.size w4 ws := (by first | exact hbs | exact (Below.refl _ w4).drew.trans hbs); have hAs := Lib.hid (hA4.out.keep hbs); have hBs : Hid (But (SL p Mb) w2 ws) := Lib.hid (hB4.out.trans (But.of_all hbs (SL p Mb)) (fun _ _ e => e)); have zs := HQ.out _ hBs.out; clear hbs)
      | (go_at_call 9; (with_reducible refine (C5.out _ hBs.out hAs.out).mono ?_); rintro e w5 ⟨rfl, hA, hB⟩; have hA5 := Lib.hid hA; have hB5 := Lib.hid hB; have zh := HQ.out _ hB; clear hA hB))
  clear z0 zd zs zh hAs hBs hA4 hB4
  have hCh := Chosen_any hA5.out
  rw [show wH3.1.e.k = 4 from by decide +kernel, show wH3.1.e.m = 0 from by decide +kernel, show wH3.1.e.n = 1 from by decide +kernel, show wH3.1.e.t = ⟨#[104, 105]⟩ from by decide +kernel, show wH3.1.kn = true from by decide +kernel] at hCh
  go_upto_region 7 with (go_at_call 8; (with_reducible refine hCh.mono ?_); clear hCh; rintro e w6 ⟨rfl, hb6⟩)
  have hs5 := hB5.out.size
  have hs6 := hb6.size
  obtain ⟨w7, hw7⟩ : ∃ v, w6.alloc (.cells #[.int .i64 4, .int .i64 0, .int .i64 1, .string ⟨#[104, 105]⟩] 33) = v := ⟨_, rfl⟩
  have qx : w7.heap[w6.heap.size]? = some (.cells #[.int .i64 4, .int .i64 0, .int .i64 1, .string ⟨#[104, 105]⟩] 33 (0, 0)) := by rw [← hw7]; exact World.alloc_heap_new w6 _
  have hb7 : Below w5.heap.size w5 w7 := by rw [← hw7]; exact hb6.alloc hb6.size _
  try rw [hw7]
  clear hw7
  have hA7 := Lib.hid (hA5.out.keep hb7)
  have hB7 : Hid (But (SL p Mb) w2 w7) := Lib.hid (hB5.out.trans (But.of_all hb7 (SL p Mb)) (fun _ _ e => e))
  have hxl := (Array.getElem?_eq_some_iff.1 qx).1
  have hpx : p < w2.heap.size ∧ Mb < w2.heap.size := HPL.out
  have HX7 : Hid (∀ W, But (SL p Mb) w7 W → W.heap[w6.heap.size]? = some (.cells #[.int .i64 4, .int .i64 0, .int .i64 1, .string ⟨#[104, 105]⟩] 33 (0, 0))) := Lib.hid fun W hB => hB.box qx (by show ¬ (_ = _ ∨ _ = _); omega)
  have hL7 := HL2.out.butL hB7.out h3p h3M
  have HQ7 : Hid (∀ W, But (SL p Mb) w7 W → W.cell? ⟨w.heap.size, 0, none⟩ = some (.int .i64 0) ∧ W.cell? ⟨w.heap.size, 1, none⟩ = some (.int .i64 1)) := Lib.hid fun W hB => HQ.out W (hB7.out.trans hB (fun _ _ e => e))
  have C7 : Hid (∀ W, But (SL p Mb) w7 W → LAt W p Mb wH3.1 wH3.2.1 3 → Calls Tryd.prog 10 #[.pointer (some ⟨p, 0, none⟩), .agg #[.int .i64 1, .int .i64 0, .int .i64 0, .string ⟨#[]⟩]] W fun e w' => e = .returned (.tuple #[.bool false, .int .i64 260]) ∧ LAt w' p Mb wT4.1 wH3.2.1 3 ∧ But (SL p Mb) w7 w') := Lib.hid (wTold wH3.1 wH3.2.1 3 skipE false 260 skip_right (by decide +kernel) (by decide +kernel) skip_ok w7 p Mb h3p h3M hL7)
  have C8 : Hid (∀ W, But (SL p Mb) w7 W → LAt W p Mb wT4.1 wH3.2.1 3 → Calls Tryd.prog 11 #[.pointer (some ⟨p, 0, none⟩)] W fun e w' => e = .returned (.tuple #[.bool false, .int .i64 260]) ∧ LAt w' p Mb wT5.1 wH3.2.1 3 ∧ But (SL p Mb) w7 w') := Lib.hid (wSkip wT4.1 wH3.2.1 3 false 260 (by decide +kernel) (by decide +kernel) w7 p Mb h3p h3M hL7)
  have C9 : Hid (∀ W, But (SL p Mb) w7 W → LAt W p Mb wT5.1 wH3.2.1 3 → Calls Tryd.prog 9 #[.pointer (some ⟨p, 0, none⟩), .int .i64 1, .agg #[.int .i64 0, .int .i64 1], .agg #[.int .i64 4, .int .i64 0, .int .i64 1, .string ⟨#[104, 111]⟩]] W fun e w' => e = .returned (.tuple #[.bool false, .int .i64 260]) ∧ LAt w' p Mb wH6.1 wH6.2.1 4 ∧ But (SL p Mb) w7 w') := Lib.hid (wHear wT5.1 wH3.2.1 3 0 1 1 hoE false 260 (by decide +kernel) (by decide +kernel) (by decide +kernel) (i64_small (by decide)) (i64_small (by decide)) ho_ok (by decide) w7 p Mb h3p h3M hL7)
  have HL7 := Lib.hid hL7
  have hB77 : Hid (But (SL p Mb) w7 w7) := Lib.hid (But.refl _ _)
  clear hb7 qx hA5 hB5 hL7
  go_upto_region 8 with (go_at_call 10; (with_reducible refine (C7.out _ hB77.out hA7.out).mono ?_); rintro e w8 ⟨rfl, hA, hB⟩; have hA8 := Lib.hid hA; have hB8 := Lib.hid hB; clear hA hB)
  go_upto_region 9 with (go_at_call 11; (with_reducible refine (C8.out _ hB8.out hA8.out).mono ?_); rintro e w9 ⟨rfl, hA, hB⟩; have hA9 := Lib.hid hA; have hB9 := Lib.hid hB; clear hA hB)
  have z0 := HQ7.out _ hB9.out
  have zd : w9.drew.cell? ⟨w.heap.size, 0, none⟩ = some (.int .i64 0) ∧ w9.drew.cell? ⟨w.heap.size, 1, none⟩ = some (.int .i64 1) := z0
  go_region_held_law (fun W => W.cell? ⟨w.heap.size, 0, none⟩ = some (.int .i64 0) ∧ W.cell? ⟨w.heap.size, 1, none⟩ = some (.int .i64 1))
    (first | with_reducible exact z0 | with_reducible exact zd | with_reducible exact zs | with_reducible exact zh)
    (first
      | (go_at_call 12; (with_reducible refine (HSAY.out _ _).mono ?_); rintro e ws ⟨rfl, hbs⟩; have hbs : Below w9.heap.size w9 ws := (by first | exact hbs | exact (Below.refl _ w9).drew.trans hbs); have hAs := Lib.hid (hA9.out.keep hbs); have hBs : Hid (But (SL p Mb) w7 ws) := Lib.hid (hB9.out.trans (But.of_all hbs (SL p Mb)) (fun _ _ e => e)); have zs := HQ7.out _ hBs.out; clear hbs)
      | (go_at_call 9; (with_reducible refine (C9.out _ hBs.out hAs.out).mono ?_); rintro e w10 ⟨rfl, hA, hB⟩; have hA10 := Lib.hid hA; have hB10 := Lib.hid hB; have zh := HQ7.out _ hB; clear hA hB))
  clear z0 zd zs zh hAs hBs hA9 hB9
  have HX10 := Lib.hid (HX7.out _ hB10.out)
  have hs710 := hB10.out.size
  have HL10 := Lib.hid (HL7.out.butL hB10.out h3p h3M)
  have HB10 : Hid (Below w.heap.size w w10) := Lib.hid (HB2.out.trans ((hB7.out.trans (But.mono (S' := fun q => q = p ∨ q = Mb) (But.of_all (Below.refl _ w7) (SL p Mb)) (fun _ _ e => e)) (fun _ _ e => e)).to_below (by have := HB2.out.size; omega) (fun b e => by rcases e with e | e <;> omega) |>.trans (hB10.out.to_below (by omega) (fun b e => by rcases e with e | e <;> omega))))
  clear hA7 hB7 hB77 hA8 hB8 hA10 hB10 HX7 HL7 HQ HQ7 C3 C4 C5 C7 C8 C9 HL2
  go_upto_region 11 with (go_at_call 6; (with_reducible refine (HN.out _).mono ?_); rintro e w11 ⟨p2, M2, rfl, hA11, hp2, hM2, hb11⟩)
  have hs11 := hb11.size
  have hx11 := (hb11.block _ (by omega)).trans HX10.out
  have hL11 := HL10.out.keep hb11
  have hs10 := HB10.out.size
  have h3p2 : 3 ≤ p2 := by omega
  have h3M2 : 3 ≤ M2 := by omega
  have HB11 := Lib.hid (HB10.out.trans (hb11.mono HB10.out.size))
  have HX : Hid (∀ W, But (SL p2 M2) w11 W → W.heap[w6.heap.size]? = some (.cells #[.int .i64 4, .int .i64 0, .int .i64 1, .string ⟨#[104, 105]⟩] 33 (0, 0)) ) := Lib.hid fun W hB => hB.box hx11 (by show ¬ (_ = _ ∨ _ = _); omega)
  have D1 : Hid (∀ W, But (SL p2 M2) w11 W → LAt W p2 M2 wS wG 0 → Calls Tryd.prog 9 #[.pointer (some ⟨p2, 0, none⟩), .int .i64 0, .agg #[.int .i64 1, .int .i64 0], .agg #[.int .i64 4, .int .i64 0, .int .i64 1, .string ⟨#[104, 105]⟩]] W fun e w' => e = .returned (.tuple #[.bool false, .int .i64 0]) ∧ LAt w' p2 M2 wI1.1 wI1.2.1 1 ∧ But (SL p2 M2) w11 w') := Lib.hid (wHear wS wG 0 1 0 0 hiE false 0 (by decide +kernel) (by decide +kernel) (by decide +kernel) (i64_small (by decide)) (i64_small (by decide)) hi_ok (by decide) w11 p2 M2 h3p2 h3M2 hL11)
  have D2 : Hid (∀ W, But (SL p2 M2) w11 W → LAt W p2 M2 wI1.1 wI1.2.1 1 → Calls Tryd.prog 9 #[.pointer (some ⟨p2, 0, none⟩), .int .i64 1, .agg #[.int .i64 2, .int .i64 0], .agg #[.int .i64 4, .int .i64 0, .int .i64 1, .string ⟨#[104, 105]⟩]] W fun e w' => e = .returned (.tuple #[.bool false, .int .i64 0]) ∧ LAt w' p2 M2 wI2.1 wI2.2.1 2 ∧ But (SL p2 M2) w11 w') := Lib.hid (wHear wI1.1 wI1.2.1 1 2 0 1 hiE false 0 (by decide +kernel) (by decide +kernel) (by decide +kernel) (i64_small (by decide)) (i64_small (by decide)) hi_ok (by decide) w11 p2 M2 h3p2 h3M2 hL11)
  have D3 : Hid (∀ W, But (SL p2 M2) w11 W → LAt W p2 M2 wI2.1 wI2.2.1 2 → Calls Tryd.prog 11 #[.pointer (some ⟨p2, 0, none⟩)] W fun e w' => e = .returned (.tuple #[.bool true, .int .i64 0]) ∧ LAt w' p2 M2 wI3.1 wI2.2.1 2 ∧ But (SL p2 M2) w11 w') := Lib.hid (wSkip wI2.1 wI2.2.1 2 true 0 (by decide +kernel) (by decide +kernel) w11 p2 M2 h3p2 h3M2 hL11)
  have HA11 := Lib.hid hA11
  clear hb11 hx11 hL11 hA11 HB10 HX10 HL10 HN
  go_upto_region 12 with (first | (go_at_call 12; (with_reducible refine (HSAY.out _ _).mono ?_); rintro e ws1 ⟨rfl, hbs⟩; have hAs := Lib.hid (HA11.out.keep hbs); have hBs : Hid (But (SL p2 M2) w11 ws1) := Lib.hid ((But.refl (SL p2 M2) w11).trans (But.of_all hbs (SL p2 M2)) (fun _ _ e => e)); clear hbs) | (go_at_call 9; (with_reducible refine (D1.out _ hBs.out hAs.out).mono ?_); clear hAs hBs; rintro e w12 ⟨rfl, hA, hB⟩; have HA12 := Lib.hid hA; have HB12 := Lib.hid hB; clear hA hB))
  go_upto_region 13 with (first | (go_at_call 12; (with_reducible refine (HSAY.out _ _).mono ?_); rintro e ws2 ⟨rfl, hbs⟩; have hAs := Lib.hid (HA12.out.keep hbs); have hBs : Hid (But (SL p2 M2) w11 ws2) := Lib.hid (HB12.out.trans (But.of_all hbs (SL p2 M2)) (fun _ _ e => e)); clear hbs) | (go_at_call 9; (with_reducible refine (D2.out _ hBs.out hAs.out).mono ?_); clear hAs hBs; rintro e w13 ⟨rfl, hA, hB⟩; have HA13 := Lib.hid hA; have HB13 := Lib.hid hB; clear hA hB))
  go_upto_region 14 with (go_at_call 11; (with_reducible refine (D3.out _ HB13.out HA13.out).mono ?_); rintro e w14 ⟨rfl, hA, hB⟩; have HB14 := Lib.hid hB; clear hA hB)
  have hx14 := HX.out _ HB14.out
  have HE14 : Hid (Below w.heap.size w w14) := Lib.hid (HB11.out.trans (HB14.out.to_below (by omega) (fun b e => by rcases e with e | e <;> omega)))
  have hnum := fun x W => num_any x W
  have HXS : Hid (∀ W, Below w14.heap.size w14 W → W.cell? ⟨w6.heap.size, 0, none⟩ = some (.int .i64 4) ∧ W.cell? ⟨w6.heap.size, 1, none⟩ = some (.int .i64 0) ∧ W.cell? ⟨w6.heap.size, 2, none⟩ = some (.int .i64 1) ∧ W.cell? ⟨w6.heap.size, 3, none⟩ = some (.string ⟨#[104, 105]⟩)) := Lib.hid fun W hb => (four ((hb.block _ (Array.getElem?_eq_some_iff.1 hx14).1).trans hx14)).1
  have hbq := Below.refl w14.heap.size w14
  have z0 := HXS.out _ (Below.refl _ _)
  have zd := HXS.out _ (Below.refl _ w14).drew
  have hqe := eql34
  have hqe := fun W => eql34 W 4 4 0 0 1 1 ⟨#[104, 105]⟩ ⟨#[104, 105]⟩
  simp only [and_self, decide_true] at hqe
  clear HX D1 D2 D3 HA11 HA12 HA13 HB12 HB13 HB14 hx14 zd hbq
  have hS0 : (fun W => W.cell? ⟨w6.heap.size, 0, none⟩ = some (.int .i64 4) ∧ W.cell? ⟨w6.heap.size, 1, none⟩ = some (.int .i64 0) ∧ W.cell? ⟨w6.heap.size, 2, none⟩ = some (.int .i64 1) ∧ W.cell? ⟨w6.heap.size, 3, none⟩ = some (.string ⟨#[104, 105]⟩)) w14.drew := z0
  refine wp_region_held_drew (S := fun W => W.cell? ⟨w6.heap.size, 0, none⟩ = some (.int .i64 4) ∧ W.cell? ⟨w6.heap.size, 1, none⟩ = some (.int .i64 0) ∧ W.cell? ⟨w6.heap.size, 2, none⟩ = some (.int .i64 1) ∧ W.cell? ⟨w6.heap.size, 3, none⟩ = some (.string ⟨#[104, 105]⟩)) rfl hS0 (fun hHeld => ?_)
  simp only [List.append_eq, List.cons_append, List.nil_append]
  simp only [List.size_toArray, List.length_cons, List.length_nil, Nat.reduceAdd]
  have HB0 : Hid (Below w14.heap.size w14 w14.drew) := Lib.hid (Below.refl _ _).drew
  obtain ⟨V0, hV0⟩ : ∃ V, w14.drew = V := ⟨_, rfl⟩
  rw [hV0] at hHeld hS0 HB0 ⊢
  clear hV0
  refine wpAnyH_take (i := 0) (v := .int .i64 0) rfl (by kernel_rfl) (by kernel_rfl) (by kernel_rfl) (fun _ _ _ h => h) (Or.inl ⟨by rfl, ?_⟩) (by assumption) ?_
  · intro wx hs1; go_simp
  (try simp only [Act.put, List.getElem_toArray, List.getElem_cons_zero, List.setIfInBounds_toArray, List.set_cons_zero, List.set_cons_succ])
  refine wpAnyH_take (i := 2) (v := .int .i64 0) rfl (by kernel_rfl) (by kernel_rfl) (by kernel_rfl) (fun _ _ _ h => h) (Or.inl ⟨by rfl, ?_⟩) (by assumption) ?_
  · intro wx hs1; go_simp
  (try simp only [Act.put, List.getElem_toArray, List.getElem_cons_succ, List.getElem_cons_zero, List.setIfInBounds_toArray, List.set_cons_zero, List.set_cons_succ])
  refine wpAnyH_take (i := 5) (v := .int .i64 0) rfl (by kernel_rfl) (by kernel_rfl) (by kernel_rfl) (fun _ _ _ h => h) (Or.inl ⟨by rfl, ?_⟩) (by assumption) ?_
  · intro wx hs1; go_simp
  (try simp only [Act.put, List.getElem_toArray, List.getElem_cons_succ, List.getElem_cons_zero, List.setIfInBounds_toArray, List.set_cons_zero, List.set_cons_succ])
  refine wpAnyH_take (i := 8) (v := .int .i64 0) rfl (by kernel_rfl) (by kernel_rfl) (by kernel_rfl) (fun _ _ _ h => h) (Or.inl ⟨by rfl, ?_⟩) (by assumption) ?_
  · intro wx hs1; go_simp
  (try simp only [Act.put, List.getElem_toArray, List.getElem_cons_succ, List.getElem_cons_zero, List.setIfInBounds_toArray, List.set_cons_zero, List.set_cons_succ])
  refine wpAnyH_take (i := 11) (v := .int .i64 0) rfl (by kernel_rfl) (by kernel_rfl) (by kernel_rfl) (fun _ _ _ h => h) (Or.inl ⟨by rfl, ?_⟩) (by assumption) ?_
  · intro wx hs1; go_simp
  (try simp only [Act.put, List.getElem_toArray, List.getElem_cons_succ, List.getElem_cons_zero, List.setIfInBounds_toArray, List.set_cons_zero, List.set_cons_succ])
  refine wpAnyH_take (i := 14) (v := .int .i64 0) rfl (by kernel_rfl) (by kernel_rfl) (by kernel_rfl) (fun _ _ _ h => h) (Or.inl ⟨by rfl, ?_⟩) (by assumption) ?_
  · intro wx hs1; go_simp
  (try simp only [Act.put, List.getElem_toArray, List.getElem_cons_succ, List.getElem_cons_zero, List.setIfInBounds_toArray, List.set_cons_zero, List.set_cons_succ])
  refine wpAnyH_take (i := 17) (v := .int .i64 0) rfl (by kernel_rfl) (by kernel_rfl) (by kernel_rfl) (fun _ _ _ h => h) (Or.inl ⟨by rfl, ?_⟩) (by assumption) ?_
  · intro wx hs1; go_simp
  (try simp only [Act.put, List.getElem_toArray, List.getElem_cons_succ, List.getElem_cons_zero, List.setIfInBounds_toArray, List.set_cons_zero, List.set_cons_succ])
  refine wpAnyH_take (i := 20) (v := .int .i64 0) rfl (by kernel_rfl) (by kernel_rfl) (by kernel_rfl) (fun _ _ _ h => h) (Or.inl ⟨by rfl, ?_⟩) (by assumption) ?_
  · intro wx hs1; go_simp
  (try simp only [Act.put, List.getElem_toArray, List.getElem_cons_succ, List.getElem_cons_zero, List.setIfInBounds_toArray, List.set_cons_zero, List.set_cons_succ])
  refine wpAnyH_ready (rs := [1]) (by kernel_rfl) (by simp) (AllReadyH.cons rfl (fun K hK => ?_) AllReadyH.nil)
  go_simp
  go_at_call 7
  (with_reducible refine (hnum _ _).mono ?_)
  rintro e w' ⟨rfl, rfl⟩
  try dsimp only
  have hS := hS0
  refine hK.out _ _ hS (fun _ => ?_)
  clear hK K
  (try simp only [Act.put, List.getElem_toArray, List.getElem_cons_succ, List.getElem_cons_zero, List.setIfInBounds_toArray, List.set_cons_zero, List.set_cons_succ])
  refine wpAnyH_ready (rs := [3]) (by kernel_rfl) (by simp) (AllReadyH.cons rfl (fun K hK => ?_) AllReadyH.nil)
  go_simp
  go_at_call 7
  (with_reducible refine (hnum _ _).mono ?_)
  rintro e w' ⟨rfl, rfl⟩
  try dsimp only
  have hS := hS0
  refine hK.out _ _ hS (fun _ => ?_)
  clear hK K
  (try simp only [Act.put, List.getElem_toArray, List.getElem_cons_succ, List.getElem_cons_zero, List.setIfInBounds_toArray, List.set_cons_zero, List.set_cons_succ])
  refine wpAnyH_take (i := 4) (v := .int .i64 0) rfl (by kernel_rfl) (by kernel_rfl) (by kernel_rfl) (fun _ _ _ h => h) (Or.inl ⟨by rfl, ?_⟩) (by assumption) ?_
  · intro wx hs1; go_simp; first | rfl | decide
  (try simp only [Act.put, List.getElem_toArray, List.getElem_cons_succ, List.getElem_cons_zero, List.setIfInBounds_toArray, List.set_cons_zero, List.set_cons_succ])
  refine wpAnyH_ready (rs := [6]) (by kernel_rfl) (by simp) (AllReadyH.cons rfl (fun K hK => ?_) AllReadyH.nil)
  go_simp
  go_at_call 7
  (with_reducible refine (hnum _ _).mono ?_)
  rintro e w' ⟨rfl, rfl⟩
  try dsimp only
  have hS := hS0
  refine hK.out _ _ hS (fun _ => ?_)
  clear hK K
  (try simp only [Act.put, List.getElem_toArray, List.getElem_cons_succ, List.getElem_cons_zero, List.setIfInBounds_toArray, List.set_cons_zero, List.set_cons_succ])
  refine wpAnyH_take (i := 7) (v := .int .i64 0) rfl (by kernel_rfl) (by kernel_rfl) (by kernel_rfl) (fun _ _ _ h => h) (Or.inl ⟨by rfl, ?_⟩) (by assumption) ?_
  · intro wx hs1; go_simp; first | rfl | decide
  (try simp only [Act.put, List.getElem_toArray, List.getElem_cons_succ, List.getElem_cons_zero, List.setIfInBounds_toArray, List.set_cons_zero, List.set_cons_succ])
  refine wpAnyH_ready (rs := [9]) (by kernel_rfl) (by simp) (AllReadyH.cons rfl (fun K hK => ?_) AllReadyH.nil)
  go_simp
  go_at_call 7
  (with_reducible refine (hnum _ _).mono ?_)
  rintro e w' ⟨rfl, rfl⟩
  try dsimp only
  have hS := hS0
  refine hK.out _ _ hS (fun _ => ?_)
  clear hK K
  (try simp only [Act.put, List.getElem_toArray, List.getElem_cons_succ, List.getElem_cons_zero, List.setIfInBounds_toArray, List.set_cons_zero, List.set_cons_succ])
  refine wpAnyH_take (i := 10) (v := .int .i64 0) rfl (by kernel_rfl) (by kernel_rfl) (by kernel_rfl) (fun _ _ _ h => h) (Or.inl ⟨by rfl, ?_⟩) (by assumption) ?_
  · intro wx hs1; go_simp; first | rfl | decide
  (try simp only [Act.put, List.getElem_toArray, List.getElem_cons_succ, List.getElem_cons_zero, List.setIfInBounds_toArray, List.set_cons_zero, List.set_cons_succ])
  refine wpAnyH_ready (rs := [12]) (by kernel_rfl) (by simp) (AllReadyH.cons rfl (fun K hK => ?_) AllReadyH.nil)
  go_simp
  go_at_call 7
  (with_reducible refine (hnum _ _).mono ?_)
  rintro e w' ⟨rfl, rfl⟩
  try dsimp only
  have hS := hS0
  refine hK.out _ _ hS (fun _ => ?_)
  clear hK K
  (try simp only [Act.put, List.getElem_toArray, List.getElem_cons_succ, List.getElem_cons_zero, List.setIfInBounds_toArray, List.set_cons_zero, List.set_cons_succ])
  refine wpAnyH_take (i := 13) (v := .int .i64 0) rfl (by kernel_rfl) (by kernel_rfl) (by kernel_rfl) (fun _ _ _ h => h) (Or.inl ⟨by rfl, ?_⟩) (by assumption) ?_
  · intro wx hs1; go_simp; first | rfl | decide
  (try simp only [Act.put, List.getElem_toArray, List.getElem_cons_succ, List.getElem_cons_zero, List.setIfInBounds_toArray, List.set_cons_zero, List.set_cons_succ])
  refine wpAnyH_ready (rs := [15]) (by kernel_rfl) (by simp) (AllReadyH.cons rfl (fun K hK => ?_) AllReadyH.nil)
  go_simp
  go_at_call 7
  (with_reducible refine (hnum _ _).mono ?_)
  rintro e w' ⟨rfl, rfl⟩
  try dsimp only
  have hS := hS0
  refine hK.out _ _ hS (fun _ => ?_)
  clear hK K
  (try simp only [Act.put, List.getElem_toArray, List.getElem_cons_succ, List.getElem_cons_zero, List.setIfInBounds_toArray, List.set_cons_zero, List.set_cons_succ])
  refine wpAnyH_take (i := 16) (v := .int .i64 0) rfl (by kernel_rfl) (by kernel_rfl) (by kernel_rfl) (fun _ _ _ h => h) (Or.inl ⟨by rfl, ?_⟩) (by assumption) ?_
  · intro wx hs1; go_simp; first | rfl | decide
  (try simp only [Act.put, List.getElem_toArray, List.getElem_cons_succ, List.getElem_cons_zero, List.setIfInBounds_toArray, List.set_cons_zero, List.set_cons_succ])
  refine wpAnyH_ready (rs := [18]) (by kernel_rfl) (by simp) (AllReadyH.cons rfl (fun K hK => ?_) AllReadyH.nil)
  go_simp
  go_at_call 7
  (with_reducible refine (hnum _ _).mono ?_)
  rintro e w' ⟨rfl, rfl⟩
  try dsimp only
  have hS := hS0
  refine hK.out _ _ hS (fun _ => ?_)
  clear hK K
  (try simp only [Act.put, List.getElem_toArray, List.getElem_cons_succ, List.getElem_cons_zero, List.setIfInBounds_toArray, List.set_cons_zero, List.set_cons_succ])
  refine wpAnyH_take (i := 19) (v := .int .i64 0) rfl (by kernel_rfl) (by kernel_rfl) (by kernel_rfl) (fun _ _ _ h => h) (Or.inl ⟨by rfl, ?_⟩) (by assumption) ?_
  · intro wx hs1; go_simp; first | rfl | decide
  (try simp only [Act.put, List.getElem_toArray, List.getElem_cons_succ, List.getElem_cons_zero, List.setIfInBounds_toArray, List.set_cons_zero, List.set_cons_succ])
  refine wpAnyH_ready (rs := [21]) (by kernel_rfl) (by simp) (AllReadyH.cons rfl (fun K hK => ?_) AllReadyH.nil)
  go_simp
  go_at_call 7
  (with_reducible refine (hnum _ _).mono ?_)
  rintro e w' ⟨rfl, rfl⟩
  try dsimp only
  have hS := hS0
  refine hK.out _ _ hS (fun _ => ?_)
  clear hK K
  (try simp only [Act.put, List.getElem_toArray, List.getElem_cons_succ, List.getElem_cons_zero, List.setIfInBounds_toArray, List.set_cons_zero, List.set_cons_succ])
  refine wpAnyH_take (i := 22) (v := .int .i64 0) rfl (by kernel_rfl) (by kernel_rfl) (by kernel_rfl) (fun _ _ _ h => h) (Or.inl ⟨by rfl, ?_⟩) (by assumption) ?_
  · intro wx hs1; go_simp; first | rfl | decide
  (try simp only [Act.put, List.getElem_toArray, List.getElem_cons_succ, List.getElem_cons_zero, List.setIfInBounds_toArray, List.set_cons_zero, List.set_cons_succ])
  refine wpAnyH_take (i := 23) (v := .bool true) rfl (by kernel_rfl) (by kernel_rfl) (by kernel_rfl) (fun _ _ _ h => h) (Or.inl ⟨by rfl, ?_⟩) (by assumption) ?_
  · intro wx hs1; go_simp
  (try simp only [Act.put, List.getElem_toArray, List.getElem_cons_succ, List.getElem_cons_zero, List.setIfInBounds_toArray, List.set_cons_zero, List.set_cons_succ])
  refine wpAnyH_take (i := 24) (v := .bool true) rfl (by kernel_rfl) (by kernel_rfl) (by kernel_rfl) (fun _ _ _ h => h) (Or.inl ⟨by rfl, ?_⟩) (by assumption) ?_
  · intro wx hs1; go_simp
  (try simp only [Act.put, List.getElem_toArray, List.getElem_cons_succ, List.getElem_cons_zero, List.setIfInBounds_toArray, List.set_cons_zero, List.set_cons_succ])
  refine wpAnyH_take (i := 25) (v := .bool false) rfl (by kernel_rfl) (by kernel_rfl) (by kernel_rfl) (fun _ _ _ h => h) (Or.inl ⟨by rfl, ?_⟩) (by assumption) ?_
  · intro wx hs1; go_simp
  (try simp only [Act.put, List.getElem_toArray, List.getElem_cons_succ, List.getElem_cons_zero, List.setIfInBounds_toArray, List.set_cons_zero, List.set_cons_succ])
  refine wpAnyH_take (i := 26) (v := .bool true) rfl (by kernel_rfl) (by kernel_rfl) (by kernel_rfl) (fun _ _ _ h => h) (Or.inl ⟨by rfl, ?_⟩) (by assumption) ?_
  · intro wx hs1; go_simp
  (try simp only [Act.put, List.getElem_toArray, List.getElem_cons_succ, List.getElem_cons_zero, List.setIfInBounds_toArray, List.set_cons_zero, List.set_cons_succ])
  refine wpAnyH_take (i := 27) (v := .bool true) rfl (by kernel_rfl) (by kernel_rfl) (by kernel_rfl) (fun _ _ _ h => h) (Or.inl ⟨by rfl, ?_⟩) (by assumption) ?_
  · intro wx hs1; go_simp
  (try simp only [Act.put, List.getElem_toArray, List.getElem_cons_succ, List.getElem_cons_zero, List.setIfInBounds_toArray, List.set_cons_zero, List.set_cons_succ])
  refine wpAnyH_take (i := 28) (v := .bool true) rfl (by kernel_rfl) (by kernel_rfl) (by kernel_rfl) (fun _ _ _ h => h) (Or.inl ⟨by rfl, ?_⟩) (by assumption) ?_
  · intro wx hs1; go_simp
  (try simp only [Act.put, List.getElem_toArray, List.getElem_cons_succ, List.getElem_cons_zero, List.setIfInBounds_toArray, List.set_cons_zero, List.set_cons_succ])
  refine wpAnyH_take (i := 29) (v := .bool false) rfl (by kernel_rfl) (by kernel_rfl) (by kernel_rfl) (fun _ _ _ h => h) (Or.inl ⟨by rfl, ?_⟩) (by assumption) ?_
  · intro wx hs1; go_simp
  (try simp only [Act.put, List.getElem_toArray, List.getElem_cons_succ, List.getElem_cons_zero, List.setIfInBounds_toArray, List.set_cons_zero, List.set_cons_succ])
  refine wpAnyH_take (i := 30) (v := .bool true) rfl (by kernel_rfl) (by kernel_rfl) (by kernel_rfl) (fun _ _ _ h => h) (Or.inl ⟨by rfl, ?_⟩) (by assumption) ?_
  · intro wx hs1; go_simp
  (try simp only [Act.put, List.getElem_toArray, List.getElem_cons_succ, List.getElem_cons_zero, List.setIfInBounds_toArray, List.set_cons_zero, List.set_cons_succ])
  refine wpAnyH_take (i := 31) (v := .bool true) rfl (by kernel_rfl) (by kernel_rfl) (by kernel_rfl) (fun _ _ _ h => h) (Or.inl ⟨by rfl, ?_⟩) (by assumption) ?_
  · intro wx hs1; go_simp
  (try simp only [Act.put, List.getElem_toArray, List.getElem_cons_succ, List.getElem_cons_zero, List.setIfInBounds_toArray, List.set_cons_zero, List.set_cons_succ])
  refine wpAnyH_take (i := 32) (v := .bool true) rfl (by kernel_rfl) (by kernel_rfl) (by kernel_rfl) (fun _ _ _ h => h) (Or.inl ⟨by rfl, ?_⟩) (by assumption) ?_
  · intro wx hs1; go_simp
  (try simp only [Act.put, List.getElem_toArray, List.getElem_cons_succ, List.getElem_cons_zero, List.setIfInBounds_toArray, List.set_cons_zero, List.set_cons_succ])
  refine wpAnyH_take (i := 33) (v := .bool true) rfl (by kernel_rfl) (by kernel_rfl) (by kernel_rfl) (fun _ _ _ h => h) (Or.inl ⟨by rfl, ?_⟩) (by assumption) ?_
  · intro wx hs1; go_simp
  (try simp only [Act.put, List.getElem_toArray, List.getElem_cons_succ, List.getElem_cons_zero, List.setIfInBounds_toArray, List.set_cons_zero, List.set_cons_succ])
  refine wpAnyH_take (i := 34) (v := .bool true) rfl (by kernel_rfl) (by kernel_rfl) (by kernel_rfl) (fun _ _ _ h => h) (Or.inl ⟨by rfl, ?_⟩) (by assumption) ?_
  · intro wx hs1; go_simp
  (try simp only [Act.put, List.getElem_toArray, List.getElem_cons_succ, List.getElem_cons_zero, List.setIfInBounds_toArray, List.set_cons_zero, List.set_cons_succ])
  refine wpAnyH_take (i := 35) (v := .bool true) rfl (by kernel_rfl) (by kernel_rfl) (by kernel_rfl) (fun _ _ _ h => h) (Or.inl ⟨by rfl, ?_⟩) (by assumption) ?_
  · intro wx hs1; go_simp
  (try simp only [Act.put, List.getElem_toArray, List.getElem_cons_succ, List.getElem_cons_zero, List.setIfInBounds_toArray, List.set_cons_zero, List.set_cons_succ])
  refine wpAnyH_take (i := 36) (v := .bool true) rfl (by kernel_rfl) (by kernel_rfl) (by kernel_rfl) (fun _ _ _ h => h) (Or.inl ⟨by rfl, ?_⟩) (by assumption) ?_
  · intro wx hs1; go_simp
  (try simp only [Act.put, List.getElem_toArray, List.getElem_cons_succ, List.getElem_cons_zero, List.setIfInBounds_toArray, List.set_cons_zero, List.set_cons_succ])
  refine wpAnyH_take (i := 37) (v := .bool true) rfl (by kernel_rfl) (by kernel_rfl) (by kernel_rfl) (fun _ _ _ h => h) (Or.inl ⟨by rfl, ?_⟩) (by assumption) ?_
  · intro wx hs1; go_simp
  (try simp only [Act.put, List.getElem_toArray, List.getElem_cons_succ, List.getElem_cons_zero, List.setIfInBounds_toArray, List.set_cons_zero, List.set_cons_succ])
  refine wpAnyH_take (i := 38) (v := .bool true) rfl (by kernel_rfl) (by kernel_rfl) (by kernel_rfl) (fun _ _ _ h => h) (Or.inl ⟨by rfl, ?_⟩) (by assumption) ?_
  · intro wx hs1; go_simp
  (try simp only [Act.put, List.getElem_toArray, List.getElem_cons_succ, List.getElem_cons_zero, List.setIfInBounds_toArray, List.set_cons_zero, List.set_cons_succ])
  refine wpAnyH_take (i := 39) (v := .agg #[.int .i64 4, .int .i64 0, .int .i64 1, .string ⟨#[104, 105]⟩]) rfl (by kernel_rfl) (by kernel_rfl) (by kernel_rfl) (fun _ _ _ h => h) (Or.inl ⟨by rfl, ?_⟩) (by assumption) ?_
  · intro wx hs1; obtain ⟨s0, s1, s2, s3⟩ := hs1; go_simp
  (try simp only [Act.put, List.getElem_toArray, List.getElem_cons_succ, List.getElem_cons_zero, List.setIfInBounds_toArray, List.set_cons_zero, List.set_cons_succ])
  refine wpAnyH_ready (rs := [40]) (by kernel_rfl) (by simp) (AllReadyH.cons rfl (fun K hK => ?_) AllReadyH.nil)
  go_simp
  go_at_call 12
  (with_reducible refine (HSAY.out _ _).mono ?_)
  rintro e W15 ⟨rfl, hb⟩
  try dsimp only
  have HB15 : Hid (Below w14.heap.size w14 W15) := Lib.hid (HB0.out.trans (hb.mono HB0.out.size)); clear hb; have hS := HXS.out _ HB15.out
  refine hK.out _ _ hS (fun _ => ?_)
  clear hK K
  (try simp only [Act.put, List.getElem_toArray, List.getElem_cons_succ, List.getElem_cons_zero, List.setIfInBounds_toArray, List.set_cons_zero, List.set_cons_succ])
  refine wpAnyH_take (i := 41) (v := .bool true) rfl (by kernel_rfl) (by kernel_rfl) (by kernel_rfl) (fun _ _ _ h => h) (Or.inl ⟨by rfl, ?_⟩) (by assumption) ?_
  · intro wx hs1; go_simp
  (try simp only [Act.put, List.getElem_toArray, List.getElem_cons_succ, List.getElem_cons_zero, List.setIfInBounds_toArray, List.set_cons_zero, List.set_cons_succ])
  refine wpAnyH_take (i := 42) (v := .bool true) rfl (by kernel_rfl) (by kernel_rfl) (by kernel_rfl) (fun _ _ _ h => h) (Or.inl ⟨by rfl, ?_⟩) (by assumption) ?_
  · intro wx hs1; go_simp
  (try simp only [Act.put, List.getElem_toArray, List.getElem_cons_succ, List.getElem_cons_zero, List.setIfInBounds_toArray, List.set_cons_zero, List.set_cons_succ])
  refine wpAnyH_take (i := 43) (v := .bool true) rfl (by kernel_rfl) (by kernel_rfl) (by kernel_rfl) (fun _ _ _ h => h) (Or.inl ⟨by rfl, ?_⟩) (by assumption) ?_
  · intro wx hs1; go_simp
  (try simp only [Act.put, List.getElem_toArray, List.getElem_cons_succ, List.getElem_cons_zero, List.setIfInBounds_toArray, List.set_cons_zero, List.set_cons_succ])
  refine wpAnyH_take (i := 44) (v := .int .i64 260) rfl (by kernel_rfl) (by kernel_rfl) (by kernel_rfl) (fun _ _ _ h => h) (Or.inl ⟨by rfl, ?_⟩) (by assumption) ?_
  · intro wx hs1; go_simp
  (try simp only [Act.put, List.getElem_toArray, List.getElem_cons_succ, List.getElem_cons_zero, List.setIfInBounds_toArray, List.set_cons_zero, List.set_cons_succ])
  refine wpAnyH_ready (rs := [45]) (by kernel_rfl) (by simp) (AllReadyH.cons rfl (fun K hK => ?_) AllReadyH.nil)
  go_simp
  go_at_call 7
  (with_reducible refine (hnum _ _).mono ?_)
  rintro e w' ⟨rfl, rfl⟩
  try dsimp only
  have hS := hS
  refine hK.out _ _ hS (fun _ => ?_)
  clear hK K
  (try simp only [Act.put, List.getElem_toArray, List.getElem_cons_succ, List.getElem_cons_zero, List.setIfInBounds_toArray, List.set_cons_zero, List.set_cons_succ])
  refine wpAnyH_take (i := 46) (v := .bool true) rfl (by kernel_rfl) (by kernel_rfl) (by kernel_rfl) (fun _ _ _ h => h) (Or.inl ⟨by rfl, ?_⟩) (by assumption) ?_
  · intro wx hs1; go_simp
  (try simp only [Act.put, List.getElem_toArray, List.getElem_cons_succ, List.getElem_cons_zero, List.setIfInBounds_toArray, List.set_cons_zero, List.set_cons_succ])
  refine wpAnyH_take (i := 47) (v := .bool true) rfl (by kernel_rfl) (by kernel_rfl) (by kernel_rfl) (fun _ _ _ h => h) (Or.inl ⟨by rfl, ?_⟩) (by assumption) ?_
  · intro wx hs1; go_simp
  (try simp only [Act.put, List.getElem_toArray, List.getElem_cons_succ, List.getElem_cons_zero, List.setIfInBounds_toArray, List.set_cons_zero, List.set_cons_succ])
  refine wpAnyH_take (i := 48) (v := .bool true) rfl (by kernel_rfl) (by kernel_rfl) (by kernel_rfl) (fun _ _ _ h => h) (Or.inl ⟨by rfl, ?_⟩) (by assumption) ?_
  · intro wx hs1; go_simp
  (try simp only [Act.put, List.getElem_toArray, List.getElem_cons_succ, List.getElem_cons_zero, List.setIfInBounds_toArray, List.set_cons_zero, List.set_cons_succ])
  refine wpAnyH_take (i := 49) (v := .int .i64 260) rfl (by kernel_rfl) (by kernel_rfl) (by kernel_rfl) (fun _ _ _ h => h) (Or.inl ⟨by rfl, ?_⟩) (by assumption) ?_
  · intro wx hs1; go_simp
  (try simp only [Act.put, List.getElem_toArray, List.getElem_cons_succ, List.getElem_cons_zero, List.setIfInBounds_toArray, List.set_cons_zero, List.set_cons_succ])
  refine wpAnyH_ready (rs := [50]) (by kernel_rfl) (by simp) (AllReadyH.cons rfl (fun K hK => ?_) AllReadyH.nil)
  go_simp
  go_at_call 7
  (with_reducible refine (hnum _ _).mono ?_)
  rintro e w' ⟨rfl, rfl⟩
  try dsimp only
  have hS := hS
  refine hK.out _ _ hS (fun _ => ?_)
  clear hK K
  (try simp only [Act.put, List.getElem_toArray, List.getElem_cons_succ, List.getElem_cons_zero, List.setIfInBounds_toArray, List.set_cons_zero, List.set_cons_succ])
  refine wpAnyH_take (i := 51) (v := .bool true) rfl (by kernel_rfl) (by kernel_rfl) (by kernel_rfl) (fun _ _ _ h => h) (Or.inl ⟨by rfl, ?_⟩) (by assumption) ?_
  · intro wx hs1; go_simp
  (try simp only [Act.put, List.getElem_toArray, List.getElem_cons_succ, List.getElem_cons_zero, List.setIfInBounds_toArray, List.set_cons_zero, List.set_cons_succ])
  refine wpAnyH_take (i := 52) (v := .bool true) rfl (by kernel_rfl) (by kernel_rfl) (by kernel_rfl) (fun _ _ _ h => h) (Or.inl ⟨by rfl, ?_⟩) (by assumption) ?_
  · intro wx hs1; go_simp
  (try simp only [Act.put, List.getElem_toArray, List.getElem_cons_succ, List.getElem_cons_zero, List.setIfInBounds_toArray, List.set_cons_zero, List.set_cons_succ])
  refine wpAnyH_take (i := 53) (v := .bool true) rfl (by kernel_rfl) (by kernel_rfl) (by kernel_rfl) (fun _ _ _ h => h) (Or.inl ⟨by rfl, ?_⟩) (by assumption) ?_
  · intro wx hs1; go_simp
  (try simp only [Act.put, List.getElem_toArray, List.getElem_cons_succ, List.getElem_cons_zero, List.setIfInBounds_toArray, List.set_cons_zero, List.set_cons_succ])
  refine wpAnyH_take (i := 54) (v := .int .i64 260) rfl (by kernel_rfl) (by kernel_rfl) (by kernel_rfl) (fun _ _ _ h => h) (Or.inl ⟨by rfl, ?_⟩) (by assumption) ?_
  · intro wx hs1; go_simp
  (try simp only [Act.put, List.getElem_toArray, List.getElem_cons_succ, List.getElem_cons_zero, List.setIfInBounds_toArray, List.set_cons_zero, List.set_cons_succ])
  refine wpAnyH_ready (rs := [55]) (by kernel_rfl) (by simp) (AllReadyH.cons rfl (fun K hK => ?_) AllReadyH.nil)
  go_simp
  go_at_call 7
  (with_reducible refine (hnum _ _).mono ?_)
  rintro e w' ⟨rfl, rfl⟩
  try dsimp only
  have hS := hS
  refine hK.out _ _ hS (fun _ => ?_)
  clear hK K
  (try simp only [Act.put, List.getElem_toArray, List.getElem_cons_succ, List.getElem_cons_zero, List.setIfInBounds_toArray, List.set_cons_zero, List.set_cons_succ])
  refine wpAnyH_take (i := 56) (v := .bool true) rfl (by kernel_rfl) (by kernel_rfl) (by kernel_rfl) (fun _ _ _ h => h) (Or.inl ⟨by rfl, ?_⟩) (by assumption) ?_
  · intro wx hs1; go_simp
  (try simp only [Act.put, List.getElem_toArray, List.getElem_cons_succ, List.getElem_cons_zero, List.setIfInBounds_toArray, List.set_cons_zero, List.set_cons_succ])
  refine wpAnyH_take (i := 57) (v := .bool true) rfl (by kernel_rfl) (by kernel_rfl) (by kernel_rfl) (fun _ _ _ h => h) (Or.inl ⟨by rfl, ?_⟩) (by assumption) ?_
  · intro wx hs1; go_simp
  (try simp only [Act.put, List.getElem_toArray, List.getElem_cons_succ, List.getElem_cons_zero, List.setIfInBounds_toArray, List.set_cons_zero, List.set_cons_succ])
  refine wpAnyH_take (i := 58) (v := .bool true) rfl (by kernel_rfl) (by kernel_rfl) (by kernel_rfl) (fun _ _ _ h => h) (Or.inl ⟨by rfl, ?_⟩) (by assumption) ?_
  · intro wx hs1; go_simp
  (try simp only [Act.put, List.getElem_toArray, List.getElem_cons_succ, List.getElem_cons_zero, List.setIfInBounds_toArray, List.set_cons_zero, List.set_cons_succ])
  refine wpAnyH_take (i := 59) (v := .bool false) rfl (by kernel_rfl) (by kernel_rfl) (by kernel_rfl) (fun _ _ _ h => h) (Or.inl ⟨by rfl, ?_⟩) (by assumption) ?_
  · intro wx hs1; go_simp
  (try simp only [Act.put, List.getElem_toArray, List.getElem_cons_succ, List.getElem_cons_zero, List.setIfInBounds_toArray, List.set_cons_zero, List.set_cons_succ])
  refine wpAnyH_take (i := 60) (v := .bool true) rfl (by kernel_rfl) (by kernel_rfl) (by kernel_rfl) (fun _ _ _ h => h) (Or.inl ⟨by rfl, ?_⟩) (by assumption) ?_
  · intro wx hs1; go_simp
  (try simp only [Act.put, List.getElem_toArray, List.getElem_cons_succ, List.getElem_cons_zero, List.setIfInBounds_toArray, List.set_cons_zero, List.set_cons_succ])
  refine wpAnyH_take (i := 61) (v := .bool true) rfl (by kernel_rfl) (by kernel_rfl) (by kernel_rfl) (fun _ _ _ h => h) (Or.inl ⟨by rfl, ?_⟩) (by assumption) ?_
  · intro wx hs1; go_simp
  (try simp only [Act.put, List.getElem_toArray, List.getElem_cons_succ, List.getElem_cons_zero, List.setIfInBounds_toArray, List.set_cons_zero, List.set_cons_succ])
  refine wpAnyH_take (i := 62) (v := .bool true) rfl (by kernel_rfl) (by kernel_rfl) (by kernel_rfl) (fun _ _ _ h => h) (Or.inl ⟨by rfl, ?_⟩) (by assumption) ?_
  · intro wx hs1; go_simp
  (try simp only [Act.put, List.getElem_toArray, List.getElem_cons_succ, List.getElem_cons_zero, List.setIfInBounds_toArray, List.set_cons_zero, List.set_cons_succ])
  refine wpAnyH_take (i := 63) (v := .bool false) rfl (by kernel_rfl) (by kernel_rfl) (by kernel_rfl) (fun _ _ _ h => h) (Or.inl ⟨by rfl, ?_⟩) (by assumption) ?_
  · intro wx hs1; go_simp
  (try simp only [Act.put, List.getElem_toArray, List.getElem_cons_succ, List.getElem_cons_zero, List.setIfInBounds_toArray, List.set_cons_zero, List.set_cons_succ])
  refine wpAnyH_take (i := 64) (v := .bool true) rfl (by kernel_rfl) (by kernel_rfl) (by kernel_rfl) (fun _ _ _ h => h) (Or.inl ⟨by rfl, ?_⟩) (by assumption) ?_
  · intro wx hs1; go_simp
  (try simp only [Act.put, List.getElem_toArray, List.getElem_cons_succ, List.getElem_cons_zero, List.setIfInBounds_toArray, List.set_cons_zero, List.set_cons_succ])
  refine wpAnyH_take (i := 65) (v := .bool true) rfl (by kernel_rfl) (by kernel_rfl) (by kernel_rfl) (fun _ _ _ h => h) (Or.inl ⟨by rfl, ?_⟩) (by assumption) ?_
  · intro wx hs1; go_simp
  (try simp only [Act.put, List.getElem_toArray, List.getElem_cons_succ, List.getElem_cons_zero, List.setIfInBounds_toArray, List.set_cons_zero, List.set_cons_succ])
  refine wpAnyH_take (i := 66) (v := .bool true) rfl (by kernel_rfl) (by kernel_rfl) (by kernel_rfl) (fun _ _ _ h => h) (Or.inl ⟨by rfl, ?_⟩) (by assumption) ?_
  · intro wx hs1; go_simp
  (try simp only [Act.put, List.getElem_toArray, List.getElem_cons_succ, List.getElem_cons_zero, List.setIfInBounds_toArray, List.set_cons_zero, List.set_cons_succ])
  refine wpAnyH_take (i := 67) (v := .bool true) rfl (by kernel_rfl) (by kernel_rfl) (by kernel_rfl) (fun _ _ _ h => h) (Or.inl ⟨by rfl, ?_⟩) (by assumption) ?_
  · intro wx hs1; go_simp
  (try simp only [Act.put, List.getElem_toArray, List.getElem_cons_succ, List.getElem_cons_zero, List.setIfInBounds_toArray, List.set_cons_zero, List.set_cons_succ])
  refine wpAnyH_take (i := 68) (v := .bool true) rfl (by kernel_rfl) (by kernel_rfl) (by kernel_rfl) (fun _ _ _ h => h) (Or.inl ⟨by rfl, ?_⟩) (by assumption) ?_
  · intro wx hs1; go_simp
  (try simp only [Act.put, List.getElem_toArray, List.getElem_cons_succ, List.getElem_cons_zero, List.setIfInBounds_toArray, List.set_cons_zero, List.set_cons_succ])
  refine wpAnyH_take (i := 69) (v := .bool true) rfl (by kernel_rfl) (by kernel_rfl) (by kernel_rfl) (fun _ _ _ h => h) (Or.inl ⟨by rfl, ?_⟩) (by assumption) ?_
  · intro wx hs1; go_simp
  (try simp only [Act.put, List.getElem_toArray, List.getElem_cons_succ, List.getElem_cons_zero, List.setIfInBounds_toArray, List.set_cons_zero])
  refine wpAnyH_done (by kernel_rfl) ?_ _
  go_wp2
  go_ret
  exact ⟨rfl, HE14.out.trans (HB15.out.mono HE14.out.size)⟩
end Go.Proofs
