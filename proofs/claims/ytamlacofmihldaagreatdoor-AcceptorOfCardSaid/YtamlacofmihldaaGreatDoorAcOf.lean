/-
  acceptor: the walk of AcceptorOf. Conditions: as the theorem names them.
-/
import Derived.Test.YtamlacofmihldaaGreatDoorAcNr
import Derived.Test.YtamlacofmihldaaGreatDoorAcZ
namespace Go.Proofs
open Go Go.RowKit Sm Go.Lib
attribute [local go_sem] Oper.semAt_some
theorem Sm.Of_good (c s r q cr cq k m n : Int) (t : ByteArray) (w : World) (hc : chB c = true) (hs : slB s = true) (hk : I64 k) (ht : t.size ≤ 1000000) (hL : LaysT w) (hg : ofB c s r q cr cq k m n t = true) : Calls Tryz.prog 20 #[.int .i64 c, .int .i64 s, .agg #[.int .i64 r, .int .i64 q], .agg #[.int .i64 cr, .int .i64 cq, .int .i64 k, .int .i64 m, .int .i64 n, .string t]] w fun e w' => ∃ p, e = .returned (.tuple #[.pointer (some ⟨p, 0, none⟩), .int .i64 0]) ∧ w.heap.size ≤ p ∧ AAt w' p (ofM c s r q cr cq k m n t) ∧ Below w.heap.size w w' := by
  unfold ofB at hg
  rw [Bool.and_eq_true] at hg
  obtain ⟨hm, hg⟩ := hg
  cases hnt : ntB cr cq k m n t with
  | true => exact of_yes0 c s r q cr cq k m n t w hc hs ht hm hnt
  | false =>
    by_cases hn : cr = -1 ∧ cq = 0
    · rw [if_pos hn] at hg
      have h2 := of_decide_eq_true hg
      unfold ntB at hnt
      exact absurd ⟨hn.1, hn.2, h2⟩ (of_decide_eq_false hnt)
    · rw [if_neg hn] at hg
      simp only [Bool.and_eq_true, Bool.not_eq_true'] at hg
      refine of_yes1 c s r q cr cq k m n t w hc hs hk ht hL hm hnt ?_
      have h0 := lt0_less r q cr cq
      rw [hg.2] at h0
      have h1 := of_decide_eq_false h0
      rw [hg.1.1, hg.1.2, decide_eq_true (by omega : 0 ≤ cmpB r q cr cq)]
      rfl
theorem Sm.Of_wrong (c s r q cr cq k m n : Int) (t : ByteArray) (w : World) (hc : chB c = true) (hs : slB s = true) (hk : I64 k) (ht : t.size ≤ 1000000) (hL : LaysT w) (hg : ofB c s r q cr cq k m n t = false) : Calls Tryz.prog 20 #[.int .i64 c, .int .i64 s, .agg #[.int .i64 r, .int .i64 q], .agg #[.int .i64 cr, .int .i64 cq, .int .i64 k, .int .i64 m, .int .i64 n, .string t]] w fun e w' => e = .returned (.tuple #[.pointer none, .int .i64 2]) ∧ Below w.heap.size w w' := by
  unfold ofB at hg
  cases hm : mayB c s r q with
  | false => exact of_may c s r q cr cq k m n t w hc hs hm
  | true =>
    rw [hm, Bool.true_and] at hg
    cases hnt : ntB cr cq k m n t with
    | true =>
      unfold ntB at hnt
      have h2 := of_decide_eq_true hnt
      rw [if_pos ⟨h2.1, h2.2.1⟩, decide_eq_true h2.2.2] at hg
      exact absurd hg (by simp)
    | false =>
      refine of_bad c s r q cr cq k m n t w hc hs hk ht hL hm hnt ?_
      by_cases hn : cr = -1 ∧ cq = 0
      · have : mayB c s cr cq = false := by
          cases h3 : mayB c s cr cq with
          | false => rfl
          | true => exact absurd (may_round h3) (by omega)
        rw [this]; rfl
      · rw [if_neg hn] at hg
        have h0 := lt0_less r q cr cq
        cases hl : lessB r q cr cq with
        | true =>
          rw [hl] at h0
          have h1 := of_decide_eq_true h0
          rw [decide_eq_false (by omega : ¬ 0 ≤ cmpB r q cr cq)]
          simp
        | false =>
          rw [hl] at hg
          simp only [Bool.not_false, Bool.and_true] at hg
          cases h3 : mayB c s cr cq with
          | false => rfl
          | true => rw [h3] at hg; rw [show entB k m n t = false by simpa using hg]; simp
theorem Sm.okOf {c s r q cr cq k m n : Int} {t : ByteArray} (ht : t.size ≤ 300) (hg : ofB c s r q cr cq k m n t = true) : OkM c s (ofM c s r q cr cq k m n t) := by
  refine ⟨rfl, rfl, ht, fun h1 h2 => ?_⟩
  unfold ofB at hg
  rw [Bool.and_eq_true, if_pos (show cr = -1 ∧ cq = 0 from ⟨h1, h2⟩)] at hg
  exact of_decide_eq_true hg.2
set_option maxRecDepth 100000 in
set_option maxHeartbeats 4000000 in
theorem Sm.of_long (c s r q cr cq ek em en : Int) (et : ByteArray) (A : Option Addr) (n cap : Nat) (xs : List XV) (w : World) (hn : xs.length = n) (hnc : n ≤ cap) (hc9 : cap ≤ 9223372036854775807) (hx : RdX w A xs) (hcm : ∀ y ∈ xs, XV.came y) (hL : LaysT w) (h9 : et.size ≤ 9223372036854775807) (hlg : 300 < et.size) : Calls Tryz.prog 4 #[.int .i64 c, .int .i64 s, .agg #[.int .i64 r, .int .i64 q], .agg #[.int .i64 cr, .int .i64 cq, .int .i64 ek, .int .i64 em, .int .i64 en, .string et], .slice A n cap] w fun e w' => e = .returned (.bool true) ∧ Below w.heap.size w w' := by
  obtain ⟨w2, hw2, k0, k1, hb2, hz2⟩ := of_box w r q cr cq ek em en et
  have HS : Hid (∀ W, Below w2.heap.size w2 W → ((W.cell? ⟨w.heap.size, 0, none⟩ = some (.int .i64 r) ∧ W.cell? ⟨w.heap.size, 1, none⟩ = some (.int .i64 q)) ∧ W.cell? ⟨w.heap.size + 1, 0, none⟩ = some (.int .i64 cr) ∧ W.cell? ⟨w.heap.size + 1, 1, none⟩ = some (.int .i64 cq) ∧ W.cell? ⟨w.heap.size + 1, 2, none⟩ = some (.int .i64 ek) ∧ W.cell? ⟨w.heap.size + 1, 3, none⟩ = some (.int .i64 em) ∧ W.cell? ⟨w.heap.size + 1, 4, none⟩ = some (.int .i64 en) ∧ W.cell? ⟨w.heap.size + 1, 5, none⟩ = some (.string et))) := Lib.hid fun W hb => ⟨(two ((hb.block _ (by omega)).trans k0)).1, (six ((hb.block _ (by omega)).trans k1)).1⟩
  have HB2 := Lib.hid hb2
  have HL := Lib.hid hL
  have h19 := fun W (h : et.size ≤ 9223372036854775807) => elong_any ek em en et W h
  have HF : Hid (∀ W, Below w2.heap.size w2 W → Calls Tryz.prog 6 #[.slice A n cap, .int .i64 10] W fun e w' => e = .returned (.bool (fewB xs 10)) ∧ Below W.heap.size W w') := Lib.hid fun W hb => few_any A n cap xs 10 W hn hnc hc9 (hx.keep (hb2.trans (hb.mono hb2.size))) hcm
  have HWK : Hid (∀ W, Below w2.heap.size w2 W → Calls Tryz.prog 7 #[] W fun e w' => e = .returned (.bool true) ∧ Below W.heap.size W w') := Lib.hid fun W hb => works_any W (hL.keep (hb2.trans (hb.mono hb2.size)))
  obtain ⟨⟨b0, b1⟩, a0, a1, a2, a3, a4, a5⟩ := HS.out _ (Below.refl _ w2)
  clear k0 k1 hb2 hL hz2
  have h19 : ∀ W, Calls Tryz.prog 19 #[.agg #[.int .i64 ek, .int .i64 em, .int .i64 en, .string et]] W fun e w' => e = .returned (.bool true) ∧ Below W.heap.size W w' := fun W => by
    have h := h19 W h9
    rw [decide_eq_true hlg] at h
    exact h
  clear HF hn hnc hc9 hx hcm hlg h9
  go_enter Tryz.func4, Tryz.ntmps4
  go_wp2_with (first
    | (go_at_call 19; (with_reducible refine (h19 _).mono ?_); rintro e w1 ⟨rfl, hb⟩; clear hw2; have HBa := Lib.hid hb; clear hb b0 b1 a0 a1 a2 a3 a4 a5; obtain ⟨⟨b0, b1⟩, a0, a1, a2, a3, a4, a5⟩ := HS.out _ HBa.out)
    | (go_at_call 7; (with_reducible refine (HWK.out _ HBa.out).mono ?_); rintro e w9 ⟨rfl, hb⟩))
  go_ret
  exact ⟨rfl, HB2.out.trans ((HBa.out.trans (hb.mono HBa.out.size)).mono HB2.out.size)⟩
set_option maxRecDepth 100000 in
set_option maxHeartbeats 4000000 in
theorem Sm.of_many (c s r q cr cq ek em en : Int) (et : ByteArray) (A : Option Addr) (n cap : Nat) (xs : List XV) (w : World) (hn : xs.length = n) (hnc : n ≤ cap) (hc9 : cap ≤ 9223372036854775807) (hx : RdX w A xs) (hcm : ∀ y ∈ xs, XV.came y) (hL : LaysT w) (hlg : et.size ≤ 300) (hf : fewB xs 10 = false) : Calls Tryz.prog 4 #[.int .i64 c, .int .i64 s, .agg #[.int .i64 r, .int .i64 q], .agg #[.int .i64 cr, .int .i64 cq, .int .i64 ek, .int .i64 em, .int .i64 en, .string et], .slice A n cap] w fun e w' => e = .returned (.bool true) ∧ Below w.heap.size w w' := by
  obtain ⟨w2, hw2, k0, k1, hb2, hz2⟩ := of_box w r q cr cq ek em en et
  have HS : Hid (∀ W, Below w2.heap.size w2 W → ((W.cell? ⟨w.heap.size, 0, none⟩ = some (.int .i64 r) ∧ W.cell? ⟨w.heap.size, 1, none⟩ = some (.int .i64 q)) ∧ W.cell? ⟨w.heap.size + 1, 0, none⟩ = some (.int .i64 cr) ∧ W.cell? ⟨w.heap.size + 1, 1, none⟩ = some (.int .i64 cq) ∧ W.cell? ⟨w.heap.size + 1, 2, none⟩ = some (.int .i64 ek) ∧ W.cell? ⟨w.heap.size + 1, 3, none⟩ = some (.int .i64 em) ∧ W.cell? ⟨w.heap.size + 1, 4, none⟩ = some (.int .i64 en) ∧ W.cell? ⟨w.heap.size + 1, 5, none⟩ = some (.string et))) := Lib.hid fun W hb => ⟨(two ((hb.block _ (by omega)).trans k0)).1, (six ((hb.block _ (by omega)).trans k1)).1⟩
  have HB2 := Lib.hid hb2
  have HL := Lib.hid hL
  have h19 := fun W (h : et.size ≤ 9223372036854775807) => elong_any ek em en et W h
  have HF : Hid (∀ W, Below w2.heap.size w2 W → Calls Tryz.prog 6 #[.slice A n cap, .int .i64 10] W fun e w' => e = .returned (.bool (fewB xs 10)) ∧ Below W.heap.size W w') := Lib.hid fun W hb => few_any A n cap xs 10 W hn hnc hc9 (hx.keep (hb2.trans (hb.mono hb2.size))) hcm
  have HWK : Hid (∀ W, Below w2.heap.size w2 W → Calls Tryz.prog 7 #[] W fun e w' => e = .returned (.bool true) ∧ Below W.heap.size W w') := Lib.hid fun W hb => works_any W (hL.keep (hb2.trans (hb.mono hb2.size)))
  obtain ⟨⟨b0, b1⟩, a0, a1, a2, a3, a4, a5⟩ := HS.out _ (Below.refl _ w2)
  clear k0 k1 hb2 hL hz2
  have h19 : ∀ W, Calls Tryz.prog 19 #[.agg #[.int .i64 ek, .int .i64 em, .int .i64 en, .string et]] W fun e w' => e = .returned (.bool false) ∧ Below W.heap.size W w' := fun W => by
    have h := h19 W (by omega)
    rw [decide_eq_false (by omega : ¬ 300 < et.size)] at h
    exact h
  rw [hf] at HF
  clear hn hnc hc9 hx hcm hlg hf
  go_enter Tryz.func4, Tryz.ntmps4
  go_wp2_with (first
    | (go_at_call 19; (with_reducible refine (h19 _).mono ?_); rintro e w1 ⟨rfl, hb⟩; clear hw2; have HBa := Lib.hid hb; clear hb b0 b1 a0 a1 a2 a3 a4 a5; obtain ⟨⟨b0, b1⟩, a0, a1, a2, a3, a4, a5⟩ := HS.out _ HBa.out)
    | (go_at_call 6; (with_reducible refine (HF.out _ HBa.out).mono ?_); clear HF; rintro e w1b ⟨rfl, hb⟩; have HBb := Lib.hid (HBa.out.trans (hb.mono HBa.out.size)); clear hb b0 b1 a0 a1 a2 a3 a4 a5; obtain ⟨⟨b0, b1⟩, a0, a1, a2, a3, a4, a5⟩ := HS.out _ HBb.out)
    | (go_at_call 7; (with_reducible refine (HWK.out _ HBb.out).mono ?_); rintro e w9 ⟨rfl, hb⟩))
  go_ret
  exact ⟨rfl, HB2.out.trans ((HBb.out.trans (hb.mono HBb.out.size)).mono HB2.out.size)⟩
set_option maxRecDepth 100000 in
set_option maxHeartbeats 4000000 in
theorem Sm.of_err (c s r q cr cq ek em en : Int) (et : ByteArray) (A : Option Addr) (n cap : Nat) (xs : List XV) (w : World) (hn : xs.length = n) (hnc : n ≤ cap) (hc9 : cap ≤ 9223372036854775807) (hx : RdX w A xs) (hcm : ∀ y ∈ xs, XV.came y) (hL : LaysT w) (hlg : et.size ≤ 300) (hf : fewB xs 10 = true) (ev : Int) (hev0 : (ev != 0) = true)
    (h20 : ∀ W, LaysT W → Calls Tryz.prog 20 #[.int .i64 c, .int .i64 s, .agg #[.int .i64 r, .int .i64 q], .agg #[.int .i64 cr, .int .i64 cq, .int .i64 ek, .int .i64 em, .int .i64 en, .string et]] W fun e w' => e = .returned (.tuple #[.pointer none, .int .i64 ev]) ∧ Below W.heap.size W w')
    (h21 : ∀ W, Calls Tryz.prog 21 #[.int .i64 c, .int .i64 s, .agg #[.int .i64 r, .int .i64 q], .agg #[.int .i64 cr, .int .i64 cq, .int .i64 ek, .int .i64 em, .int .i64 en, .string et]] W fun e w' => e = .returned (.tuple #[.agg #[.int .i64 0, .int .i64 0, .int .i64 0, .int .i64 0, .int .i64 0, .int .i64 0, .int .i64 0, .int .i64 0, .int .i64 0, .string ⟨#[]⟩], .int .i64 ev]) ∧ Below W.heap.size W w') : Calls Tryz.prog 4 #[.int .i64 c, .int .i64 s, .agg #[.int .i64 r, .int .i64 q], .agg #[.int .i64 cr, .int .i64 cq, .int .i64 ek, .int .i64 em, .int .i64 en, .string et], .slice A n cap] w fun e w' => e = .returned (.bool true) ∧ Below w.heap.size w w' := by
  obtain ⟨w2, hw2, k0, k1, hb2, hz2⟩ := of_box w r q cr cq ek em en et
  have HS : Hid (∀ W, Below w2.heap.size w2 W → ((W.cell? ⟨w.heap.size, 0, none⟩ = some (.int .i64 r) ∧ W.cell? ⟨w.heap.size, 1, none⟩ = some (.int .i64 q)) ∧ W.cell? ⟨w.heap.size + 1, 0, none⟩ = some (.int .i64 cr) ∧ W.cell? ⟨w.heap.size + 1, 1, none⟩ = some (.int .i64 cq) ∧ W.cell? ⟨w.heap.size + 1, 2, none⟩ = some (.int .i64 ek) ∧ W.cell? ⟨w.heap.size + 1, 3, none⟩ = some (.int .i64 em) ∧ W.cell? ⟨w.heap.size + 1, 4, none⟩ = some (.int .i64 en) ∧ W.cell? ⟨w.heap.size + 1, 5, none⟩ = some (.string et))) := Lib.hid fun W hb => ⟨(two ((hb.block _ (by omega)).trans k0)).1, (six ((hb.block _ (by omega)).trans k1)).1⟩
  have HB2 := Lib.hid hb2
  have HL := Lib.hid hL
  have h19 := fun W (h : et.size ≤ 9223372036854775807) => elong_any ek em en et W h
  have HF : Hid (∀ W, Below w2.heap.size w2 W → Calls Tryz.prog 6 #[.slice A n cap, .int .i64 10] W fun e w' => e = .returned (.bool (fewB xs 10)) ∧ Below W.heap.size W w') := Lib.hid fun W hb => few_any A n cap xs 10 W hn hnc hc9 (hx.keep (hb2.trans (hb.mono hb2.size))) hcm
  have HWK : Hid (∀ W, Below w2.heap.size w2 W → Calls Tryz.prog 7 #[] W fun e w' => e = .returned (.bool true) ∧ Below W.heap.size W w') := Lib.hid fun W hb => works_any W (hL.keep (hb2.trans (hb.mono hb2.size)))
  obtain ⟨⟨b0, b1⟩, a0, a1, a2, a3, a4, a5⟩ := HS.out _ (Below.refl _ w2)
  clear k0 k1 hb2 hL hz2
  have h19 : ∀ W, Calls Tryz.prog 19 #[.agg #[.int .i64 ek, .int .i64 em, .int .i64 en, .string et]] W fun e w' => e = .returned (.bool false) ∧ Below W.heap.size W w' := fun W => by
    have h := h19 W (by omega)
    rw [decide_eq_false (by omega : ¬ 300 < et.size)] at h
    exact h
  rw [hf] at HF
  have H20 : Hid (∀ W, Below w2.heap.size w2 W → Calls Tryz.prog 20 #[.int .i64 c, .int .i64 s, .agg #[.int .i64 r, .int .i64 q], .agg #[.int .i64 cr, .int .i64 cq, .int .i64 ek, .int .i64 em, .int .i64 en, .string et]] W fun e w' => e = .returned (.tuple #[.pointer none, .int .i64 ev]) ∧ Below W.heap.size W w') := Lib.hid fun W hb => h20 W (HL.out.keep (HB2.out.trans (hb.mono HB2.out.size)))
  have H21 := Lib.hid h21
  have hnum := fun x W => num_any x W
  clear hn hnc hc9 hx hcm hlg hf h20 h21
  go_enter Tryz.func4, Tryz.ntmps4
  go_upto_region 5 with (first
    | (go_at_call 19; (with_reducible refine (h19 _).mono ?_); rintro e w1 ⟨rfl, hb⟩; clear hw2; have HBa := Lib.hid hb; clear hb b0 b1 a0 a1 a2 a3 a4 a5; obtain ⟨⟨b0, b1⟩, a0, a1, a2, a3, a4, a5⟩ := HS.out _ HBa.out)
    | (go_at_call 6; (with_reducible refine (HF.out _ HBa.out).mono ?_); clear HF; rintro e w1b ⟨rfl, hb⟩; have HBb := Lib.hid (HBa.out.trans (hb.mono HBa.out.size)); clear hb b0 b1 a0 a1 a2 a3 a4 a5; obtain ⟨⟨b0, b1⟩, a0, a1, a2, a3, a4, a5⟩ := HS.out _ HBb.out)
    | (go_at_call 20; (with_reducible refine (H20.out _ HBb.out).mono ?_); clear H20; rintro e w2c ⟨rfl, hb⟩; have HBc := Lib.hid (HBb.out.trans (hb.mono HBb.out.size)); clear hb b0 b1 a0 a1 a2 a3 a4 a5; obtain ⟨⟨b0, b1⟩, a0, a1, a2, a3, a4, a5⟩ := HS.out _ HBc.out)
    | (go_at_call 21; (with_reducible refine (H21.out _).mono ?_); clear H21; rintro e w3 ⟨rfl, hb⟩; have HBd := Lib.hid (HBc.out.trans (hb.mono HBc.out.size)); clear hb b0 b1 a0 a1 a2 a3 a4 a5))
  have HBe := Lib.hid (HBd.out.alloc HBd.out.size (.cells #[.int .i64 0, .int .i64 0, .int .i64 0, .int .i64 0, .int .i64 0, .int .i64 0, .int .i64 0, .int .i64 0, .int .i64 0, .string ⟨#[]⟩] 38))
  obtain ⟨w5, hw5⟩ : ∃ v, w3.alloc (.cells #[.int .i64 0, .int .i64 0, .int .i64 0, .int .i64 0, .int .i64 0, .int .i64 0, .int .i64 0, .int .i64 0, .int .i64 0, .string ⟨#[]⟩] 38) = v := ⟨_, rfl⟩
  rw [hw5] at HBe ⊢
  clear hw5
  go_wp2_with (first
    | (go_at_call 13; (with_reducible refine (hnum _ _).mono ?_); rintro e w' ⟨rfl, rfl⟩)
    | (go_at_call 7; (with_reducible refine (HWK.out _ HBe.out).mono ?_); rintro e w9 ⟨rfl, hb⟩))
  go_ret
  exact ⟨rfl, HB2.out.trans ((HBe.out.trans (hb.mono HBe.out.size)).mono HB2.out.size)⟩
set_option maxRecDepth 100000 in
set_option maxHeartbeats 4000000 in
theorem Sm.of_good (c s r q cr cq ek em en : Int) (et : ByteArray) (A : Option Addr) (n cap : Nat) (xs : List XV) (w : World) (hn : xs.length = n) (hnc : n ≤ cap) (hc9 : cap ≤ 9223372036854775807) (hx : RdX w A xs) (hcm : ∀ y ∈ xs, XV.came y) (hL : LaysT w) (hlg : et.size ≤ 300) (hf : fewB xs 10 = true) (hk : I64 ek) (hc : chB c = true) (hs : slB s = true) (hg : ofB c s r q cr cq ek em en et = true) : Calls Tryz.prog 4 #[.int .i64 c, .int .i64 s, .agg #[.int .i64 r, .int .i64 q], .agg #[.int .i64 cr, .int .i64 cq, .int .i64 ek, .int .i64 em, .int .i64 en, .string et], .slice A n cap] w fun e w' => e = .returned (.bool true) ∧ Below w.heap.size w w' := by
  obtain ⟨w2, hw2, k0, k1, hb2, hz2⟩ := of_box w r q cr cq ek em en et
  have HS : Hid (∀ W, Below w2.heap.size w2 W → ((W.cell? ⟨w.heap.size, 0, none⟩ = some (.int .i64 r) ∧ W.cell? ⟨w.heap.size, 1, none⟩ = some (.int .i64 q)) ∧ W.cell? ⟨w.heap.size + 1, 0, none⟩ = some (.int .i64 cr) ∧ W.cell? ⟨w.heap.size + 1, 1, none⟩ = some (.int .i64 cq) ∧ W.cell? ⟨w.heap.size + 1, 2, none⟩ = some (.int .i64 ek) ∧ W.cell? ⟨w.heap.size + 1, 3, none⟩ = some (.int .i64 em) ∧ W.cell? ⟨w.heap.size + 1, 4, none⟩ = some (.int .i64 en) ∧ W.cell? ⟨w.heap.size + 1, 5, none⟩ = some (.string et))) := Lib.hid fun W hb => ⟨(two ((hb.block _ (by omega)).trans k0)).1, (six ((hb.block _ (by omega)).trans k1)).1⟩
  have HB2 := Lib.hid hb2
  have HL := Lib.hid hL
  have h19 := fun W (h : et.size ≤ 9223372036854775807) => elong_any ek em en et W h
  have HF : Hid (∀ W, Below w2.heap.size w2 W → Calls Tryz.prog 6 #[.slice A n cap, .int .i64 10] W fun e w' => e = .returned (.bool (fewB xs 10)) ∧ Below W.heap.size W w') := Lib.hid fun W hb => few_any A n cap xs 10 W hn hnc hc9 (hx.keep (hb2.trans (hb.mono hb2.size))) hcm
  have HWK : Hid (∀ W, Below w2.heap.size w2 W → Calls Tryz.prog 7 #[] W fun e w' => e = .returned (.bool true) ∧ Below W.heap.size W w') := Lib.hid fun W hb => works_any W (hL.keep (hb2.trans (hb.mono hb2.size)))
  obtain ⟨⟨b0, b1⟩, a0, a1, a2, a3, a4, a5⟩ := HS.out _ (Below.refl _ w2)
  clear k0 k1 hb2 hL hz2
  have h19 : ∀ W, Calls Tryz.prog 19 #[.agg #[.int .i64 ek, .int .i64 em, .int .i64 en, .string et]] W fun e w' => e = .returned (.bool false) ∧ Below W.heap.size W w' := fun W => by
    have h := h19 W (by omega)
    rw [decide_eq_false (by omega : ¬ 300 < et.size)] at h
    exact h
  obtain ⟨hsm, hmost⟩ := few_small hf
  rw [hf] at HF
  have hok := okOf (c := c) (s := s) (r := r) (q := q) (cr := cr) (cq := cq) (k := ek) (m := em) (n := en) hlg hg
  have H20 : Hid (∀ W, Below w2.heap.size w2 W → Calls Tryz.prog 20 #[.int .i64 c, .int .i64 s, .agg #[.int .i64 r, .int .i64 q], .agg #[.int .i64 cr, .int .i64 cq, .int .i64 ek, .int .i64 em, .int .i64 en, .string et]] W fun e w' => ∃ p, e = .returned (.tuple #[.pointer (some ⟨p, 0, none⟩), .int .i64 0]) ∧ W.heap.size ≤ p ∧ AAt w' p (ofM c s r q cr cq ek em en et) ∧ Below W.heap.size W w') := Lib.hid fun W hb => Of_good c s r q cr cq ek em en et W hc hs hk (by omega) (HL.out.keep (HB2.out.trans (hb.mono HB2.out.size))) hg
  have H21 := Lib.hid (fun W => rOf_good c s r q cr cq ek em en et W hc hs (by omega) hg)
  have hc0 := chB_ne hc
  obtain ⟨M0, hM0⟩ : ∃ M, ofM c s r q cr cq ek em en et = M := ⟨_, rfl⟩
  have H21 : Hid (∀ W, Calls Tryz.prog 21 #[.int .i64 c, .int .i64 s, .agg #[.int .i64 r, .int .i64 q], .agg #[.int .i64 cr, .int .i64 cq, .int .i64 ek, .int .i64 em, .int .i64 en, .string et]] W fun e w' => e = .returned (.tuple #[.agg #[.int .i64 M0.c, .int .i64 M0.s, .int .i64 M0.pr, .int .i64 M0.pp, .int .i64 M0.ar, .int .i64 M0.ap, .int .i64 M0.k, .int .i64 M0.m, .int .i64 M0.n, .string M0.t], .int .i64 0]) ∧ Below W.heap.size W w') := by rw [← hM0]; exact H21
  rw [hM0] at H20 hok
  have HOK := Lib.hid hok
  have HX := Lib.hid hx
  have HN := Lib.hid hn
  have HCM := Lib.hid hcm
  have HSM := Lib.hid hsm
  have hnum := fun x W => num_any x W
  have hn40 : n ≤ 10 := by omega
  clear hn hx hcm hsm hmost hlg hf hk hc hs hg hM0 hok
  go_enter Tryz.func4, Tryz.ntmps4
  go_upto_region 5 with (first
    | (go_at_call 19; (with_reducible refine (h19 _).mono ?_); rintro e w1 ⟨rfl, hb⟩; clear hw2; have HBa := Lib.hid hb; clear hb b0 b1 a0 a1 a2 a3 a4 a5; obtain ⟨⟨b0, b1⟩, a0, a1, a2, a3, a4, a5⟩ := HS.out _ HBa.out)
    | (go_at_call 6; (with_reducible refine (HF.out _ HBa.out).mono ?_); clear HF; rintro e w1b ⟨rfl, hb⟩; have HBb := Lib.hid (HBa.out.trans (hb.mono HBa.out.size)); clear hb b0 b1 a0 a1 a2 a3 a4 a5; obtain ⟨⟨b0, b1⟩, a0, a1, a2, a3, a4, a5⟩ := HS.out _ HBb.out)
    | (go_at_call 20; (with_reducible refine (H20.out _ HBb.out).mono ?_); clear H20; rintro e w2c ⟨p, rfl, hp, hA2, hb⟩; have HBc := Lib.hid (HBb.out.trans (hb.mono HBb.out.size)); clear hb b0 b1 a0 a1 a2 a3 a4 a5; obtain ⟨⟨b0, b1⟩, a0, a1, a2, a3, a4, a5⟩ := HS.out _ HBc.out)
    | (go_at_call 21; (with_reducible refine (H21.out _).mono ?_); clear H21; rintro e w3 ⟨rfl, hb⟩; have hA3 := hA2.keep hb; have HBd := Lib.hid (HBc.out.trans (hb.mono HBc.out.size)); clear hb hA2 b0 b1 a0 a1 a2 a3 a4 a5))
  have hb03 := HB2.out.trans (HBd.out.mono HB2.out.size)
  have hpw : w.heap.size ≤ p := Nat.le_trans (HB2.out.trans (HBb.out.mono HB2.out.size)).size hp
  have hp9 : p < w3.heap.size := hA3.lt
  have hww3 : w.heap.size ≤ w3.heap.size := hb03.size
  have q9 := World.alloc_heap_new w3 (.cells #[.int .i64 M0.c, .int .i64 M0.s, .int .i64 M0.pr, .int .i64 M0.pp, .int .i64 M0.ar, .int .i64 M0.ap, .int .i64 M0.k, .int .i64 M0.m, .int .i64 M0.n, .string M0.t] 38)
  have hb5 := hb03.alloc hb03.size (.cells #[.int .i64 M0.c, .int .i64 M0.s, .int .i64 M0.pr, .int .i64 M0.pp, .int .i64 M0.ar, .int .i64 M0.ap, .int .i64 M0.k, .int .i64 M0.m, .int .i64 M0.n, .string M0.t] 38)
  have hA5 : AAt (w3.alloc (.cells #[.int .i64 M0.c, .int .i64 M0.s, .int .i64 M0.pr, .int .i64 M0.pp, .int .i64 M0.ar, .int .i64 M0.ap, .int .i64 M0.k, .int .i64 M0.m, .int .i64 M0.n, .string M0.t] 38)) p M0 := (Below.heap_alloc w3 _ p hA3.lt).trans hA3
  have HBe := Lib.hid (HBd.out.alloc HBd.out.size (.cells #[.int .i64 M0.c, .int .i64 M0.s, .int .i64 M0.pr, .int .i64 M0.pp, .int .i64 M0.ar, .int .i64 M0.ap, .int .i64 M0.k, .int .i64 M0.m, .int .i64 M0.n, .string M0.t] 38))
  obtain ⟨w5, hw5⟩ : ∃ v, w3.alloc (.cells #[.int .i64 M0.c, .int .i64 M0.s, .int .i64 M0.pr, .int .i64 M0.pp, .int .i64 M0.ar, .int .i64 M0.ap, .int .i64 M0.k, .int .i64 M0.m, .int .i64 M0.n, .string M0.t] 38) = v := ⟨_, rfl⟩
  rw [hw5] at q9 hb5 hA5 HBe ⊢
  have hw35 : w3.heap.size < w5.heap.size := (Array.getElem?_eq_some_iff.1 q9).1
  have hw5w : w.heap.size ≤ w5.heap.size := hb5.size
  have his0 := is_row w5 p M0 c s hA5 hc0 HOK.out
  obtain ⟨⟨d0, d1, d2, d3, d4, d5, d6, d7, d8, d9⟩, _⟩ := ten q9
  have HB5 := Lib.hid hb5
  have H95 := Lib.hid q9
  clear hw5 hb03 hA3 hb5 q9 hp HBa HBb HBc HBd h19
  go_upto_region 9 with (first
    | (go_at_call 13; (with_reducible refine (hnum _ _).mono ?_); rintro e w' ⟨rfl, rfl⟩)
    | (go_at_call 18; (with_reducible refine his0.mono ?_); clear his0; rintro e w13 ⟨rfl, hb13⟩))
  have hLp0 : LpP w w5 p w3.heap.size none M0 w13 := ⟨hA5.keep hb13, (hb13.block _ hw35).trans H95.out, rfl, HB5.out.trans (hb13.mono HB5.out.size), hb13.size⟩
  have HLp0 := Lib.hid hLp0
  have HZ : Hid (∀ z, (none : Option Nat) = some z → z ≠ p) := Lib.hid fun z e => absurd e (by simp)
  have HZ9 : Hid (∀ z, (none : Option Nat) = some z → z ≠ w3.heap.size) := Lib.hid fun z e => absurd e (by simp)
  clear hA5 hb13 hLp0 H95 d0 d1 d2 d3 d4 d5 d6 d7 d8 d9
  go_wp2
  go_loopw [15] (fun v19 wr => ∃ k : Nat, k ≤ n ∧ v19 = .int .i64 (k : Int) ∧ Hid (LpP w w5 p w3.heap.size none (playM M0 (xs.take k)) wr)) (fun v19 _ => n - (RowKit.intOf v19).toNat)
  case atStart => exact ⟨0, Nat.zero_le _, rfl, HLp0⟩
  case round =>
    obtain ⟨k, hk, rfl, HLP⟩ := hrel
    have hcr := HLP.out.below
    have hokk : OkM c s (playM M0 (xs.take k)) := HOK.out.play _ (fun y hy => HSM.out y (List.mem_of_mem_take hy))
    obtain ⟨M, hM⟩ : ∃ M, playM M0 (xs.take k) = M := ⟨_, rfl⟩
    rw [hM] at HLP hokk
    have HOKK := Lib.hid hokk
    have HCR := Lib.hid hcr
    clear hokk hcr
    obtain ⟨⟨d0, d1, d2, d3, d4, d5, d6, d7, d8, d9⟩, ⟨f0, f1, f2, f3, f4, f5, f6, f7, f8, f9⟩⟩ := ten HLP.out.doc
    have hl9 : w3.heap.size < wr.heap.size := (Array.getElem?_eq_some_iff.1 HLP.out.doc).1
    by_cases hlt : k < n
    · have hkx : k < xs.length := by rw [HN.out]; exact hlt
      have hst := take_play M0 hkx
      rw [hM] at hst
      have HST := Lib.hid hst
      obtain ⟨b, off, rfl, hbl, hcl⟩ := HX.out.one hkx
      obtain ⟨y, hy⟩ : ∃ y, xs[k] = y := ⟨_, rfl⟩
      have hyc : y.came := by rw [← hy]; exact HCM.out _ (List.getElem_mem hkx)
      have hys : y.t.size ≤ 300 := by rw [← hy]; exact HSM.out _ (List.getElem_mem hkx)
      rw [hy] at hcl HST
      obtain ⟨x0, x1, x2, x3, x4, x5, x6⟩ := hcl wr HCR.out
      have HCL := Lib.hid hcl
      clear hst hcl hy hM
      have hLr : LaysT wr := HL.out.keep HCR.out
      have hact : ∀ W, AAt W p M → LaysT W → Calls Tryz.prog 17 #[.pointer (some ⟨p, 0, none⟩), .agg #[.int .i64 M.c, .int .i64 M.s, .int .i64 M.pr, .int .i64 M.pp, .int .i64 M.ar, .int .i64 M.ap, .int .i64 M.k, .int .i64 M.m, .int .i64 M.n, .string M.t], .agg #[.int .i64 y.x, .int .i64 y.r, .int .i64 y.q, .int .i64 y.k, .int .i64 y.m, .int .i64 y.n, .string y.t]] W fun e w' => e = .returned (.tuple #[.agg #[.int .i64 ((stX M y).c), .int .i64 ((stX M y).s), .int .i64 ((stX M y).pr), .int .i64 ((stX M y).pp), .int .i64 ((stX M y).ar), .int .i64 ((stX M y).ap), .int .i64 ((stX M y).k), .int .i64 ((stX M y).m), .int .i64 ((stX M y).n), .string ((stX M y).t)], .bool true]) ∧ AAt w' p (stX M y) ∧ But (Xp p) W w' := fun W h1 h2 => act_row y hyc hys W p M c s h1 hc0 HOKK.out h2
      have hokn : OkM c s (stX M y) := HOKK.out.step y hys
      obtain ⟨N, hN⟩ : ∃ N, stX M y = N := ⟨_, rfl⟩
      rw [hN] at hact HST hokn
      clear hN
      have HSo : Hid (∀ W, But (Xp p) wr W → (W.cell? ⟨w3.heap.size, 0, none⟩ = some (.int .i64 M.c) ∧ W.cell? ⟨w3.heap.size, 1, none⟩ = some (.int .i64 M.s) ∧ W.cell? ⟨w3.heap.size, 2, none⟩ = some (.int .i64 M.pr) ∧ W.cell? ⟨w3.heap.size, 3, none⟩ = some (.int .i64 M.pp) ∧ W.cell? ⟨w3.heap.size, 4, none⟩ = some (.int .i64 M.ar) ∧ W.cell? ⟨w3.heap.size, 5, none⟩ = some (.int .i64 M.ap) ∧ W.cell? ⟨w3.heap.size, 6, none⟩ = some (.int .i64 M.k) ∧ W.cell? ⟨w3.heap.size, 7, none⟩ = some (.int .i64 M.m) ∧ W.cell? ⟨w3.heap.size, 8, none⟩ = some (.int .i64 M.n) ∧ W.cell? ⟨w3.heap.size, 9, none⟩ = some (.string M.t)) ∧ (W.cell? ⟨b, off + k * 7, none⟩ = some (.int .i64 y.x) ∧ W.cell? ⟨b, off + k * 7 + 1, none⟩ = some (.int .i64 y.r) ∧ W.cell? ⟨b, off + k * 7 + 2, none⟩ = some (.int .i64 y.q) ∧ W.cell? ⟨b, off + k * 7 + 3, none⟩ = some (.int .i64 y.k) ∧ W.cell? ⟨b, off + k * 7 + 4, none⟩ = some (.int .i64 y.m) ∧ W.cell? ⟨b, off + k * 7 + 5, none⟩ = some (.int .i64 y.n) ∧ W.cell? ⟨b, off + k * 7 + 6, none⟩ = some (.string y.t))) := Lib.hid fun W hb => by
        have h9 := (ten (hb.box HLP.out.doc (by show ¬ (w3.heap.size = p); omega))).1
        have g : ∀ j v, wr.cell? ⟨b, j, none⟩ = some v → W.cell? ⟨b, j, none⟩ = some v := fun j v h => (hb.cell (p := ⟨b, j, none⟩) (Nat.lt_of_lt_of_le hbl HCR.out.size) (by show ¬ (b = p); omega)).trans h
        obtain ⟨g0, g1, g2, g3, g4, g5, g6⟩ := HCL.out wr HCR.out
        exact ⟨h9, g _ _ g0, g _ _ g1, g _ _ g2, g _ _ g3, g _ _ g4, g _ _ g5, g _ _ g6⟩
      have zo := HSo.out wr (But.refl _ _)
      clear x0 x1 x2 x3 x4 x5 x6 d0 d1 d2 d3 d4 d5 d6 d7 d8 d9 f0 f1 f2 f3 f4 f5 f6 f7 f8 f9
      go_upto_region 12 with fail
      go_cut [16, 17] from 71 to 80 (fun s20 s21 wx => ∃ b20 : Nat, s20 = .pointer (some ⟨b20, 0, none⟩) ∧ s21 = .bool true ∧ Hid (wx.heap[b20]? = some (.cells #[.int .i64 N.c, .int .i64 N.s, .int .i64 N.pr, .int .i64 N.pp, .int .i64 N.ar, .int .i64 N.ap, .int .i64 N.k, .int .i64 N.m, .int .i64 N.n, .string N.t] 38 (0, 0)) ∧ AAt wx p N ∧ But (Xp p) wr wx ∧ wr.heap.size ≤ b20))
      case first =>
        have hAd : AAt wr.drew p M := HLP.out.at_
        have hLd : LaysT wr.drew := hLr.keep (Below.refl _ _).drew
        have hS0 : (fun W => (W.cell? ⟨w3.heap.size, 0, none⟩ = some (.int .i64 M.c) ∧ W.cell? ⟨w3.heap.size, 1, none⟩ = some (.int .i64 M.s) ∧ W.cell? ⟨w3.heap.size, 2, none⟩ = some (.int .i64 M.pr) ∧ W.cell? ⟨w3.heap.size, 3, none⟩ = some (.int .i64 M.pp) ∧ W.cell? ⟨w3.heap.size, 4, none⟩ = some (.int .i64 M.ar) ∧ W.cell? ⟨w3.heap.size, 5, none⟩ = some (.int .i64 M.ap) ∧ W.cell? ⟨w3.heap.size, 6, none⟩ = some (.int .i64 M.k) ∧ W.cell? ⟨w3.heap.size, 7, none⟩ = some (.int .i64 M.m) ∧ W.cell? ⟨w3.heap.size, 8, none⟩ = some (.int .i64 M.n) ∧ W.cell? ⟨w3.heap.size, 9, none⟩ = some (.string M.t)) ∧ (W.cell? ⟨b, off + k * 7, none⟩ = some (.int .i64 y.x) ∧ W.cell? ⟨b, off + k * 7 + 1, none⟩ = some (.int .i64 y.r) ∧ W.cell? ⟨b, off + k * 7 + 2, none⟩ = some (.int .i64 y.q) ∧ W.cell? ⟨b, off + k * 7 + 3, none⟩ = some (.int .i64 y.k) ∧ W.cell? ⟨b, off + k * 7 + 4, none⟩ = some (.int .i64 y.m) ∧ W.cell? ⟨b, off + k * 7 + 5, none⟩ = some (.int .i64 y.n) ∧ W.cell? ⟨b, off + k * 7 + 6, none⟩ = some (.string y.t))) wr.drew := zo
        refine wp_region_held_drew (S := fun W => (W.cell? ⟨w3.heap.size, 0, none⟩ = some (.int .i64 M.c) ∧ W.cell? ⟨w3.heap.size, 1, none⟩ = some (.int .i64 M.s) ∧ W.cell? ⟨w3.heap.size, 2, none⟩ = some (.int .i64 M.pr) ∧ W.cell? ⟨w3.heap.size, 3, none⟩ = some (.int .i64 M.pp) ∧ W.cell? ⟨w3.heap.size, 4, none⟩ = some (.int .i64 M.ar) ∧ W.cell? ⟨w3.heap.size, 5, none⟩ = some (.int .i64 M.ap) ∧ W.cell? ⟨w3.heap.size, 6, none⟩ = some (.int .i64 M.k) ∧ W.cell? ⟨w3.heap.size, 7, none⟩ = some (.int .i64 M.m) ∧ W.cell? ⟨w3.heap.size, 8, none⟩ = some (.int .i64 M.n) ∧ W.cell? ⟨w3.heap.size, 9, none⟩ = some (.string M.t)) ∧ (W.cell? ⟨b, off + k * 7, none⟩ = some (.int .i64 y.x) ∧ W.cell? ⟨b, off + k * 7 + 1, none⟩ = some (.int .i64 y.r) ∧ W.cell? ⟨b, off + k * 7 + 2, none⟩ = some (.int .i64 y.q) ∧ W.cell? ⟨b, off + k * 7 + 3, none⟩ = some (.int .i64 y.k) ∧ W.cell? ⟨b, off + k * 7 + 4, none⟩ = some (.int .i64 y.m) ∧ W.cell? ⟨b, off + k * 7 + 5, none⟩ = some (.int .i64 y.n) ∧ W.cell? ⟨b, off + k * 7 + 6, none⟩ = some (.string y.t))) rfl hS0 (fun hHeld => ?_)
        simp only [List.size_toArray, List.length_cons, List.length_nil, Nat.reduceAdd]
        have HB0 : Hid (But (Xp p) wr wr.drew) := Lib.hid (But.refl _ _).drew
        obtain ⟨V0, hV0⟩ : ∃ V, wr.drew = V := ⟨_, rfl⟩
        rw [hV0] at hHeld hS0 HB0 hAd hLd ⊢
        clear hV0
        refine wpAnyH_take (i := 0) (v := .pointer (some ⟨p, 0, none⟩)) rfl (by kernel_rfl) (by kernel_rfl) (by kernel_rfl) (fun _ _ _ h => h) (Or.inl ⟨by rfl, ?_⟩) (by assumption) ?_
        · intro wx hs1; go_simp
        (try simp only [Act.put, List.getElem_toArray, List.getElem_cons_zero, List.setIfInBounds_toArray, List.set_cons_zero, List.set_cons_succ])
        refine wpAnyH_take (i := 1) (v := .agg #[.int .i64 M.c, .int .i64 M.s, .int .i64 M.pr, .int .i64 M.pp, .int .i64 M.ar, .int .i64 M.ap, .int .i64 M.k, .int .i64 M.m, .int .i64 M.n, .string M.t]) rfl (by kernel_rfl) (by kernel_rfl) (by kernel_rfl) (fun _ _ _ h => h) (Or.inl ⟨by rfl, ?_⟩) (by assumption) ?_
        · intro wx hs1; obtain ⟨⟨s0, s1, s2, s3, s4, s5, s6, s7, s8, s9⟩, ⟨x0, x1, x2, x3, x4, x5, x6⟩⟩ := hs1; go_simp
        (try simp only [Act.put, List.getElem_toArray, List.getElem_cons_succ, List.getElem_cons_zero, List.setIfInBounds_toArray, List.set_cons_zero, List.set_cons_succ])
        refine wpAnyH_take (i := 2) (v := .slice (some ⟨b, off, none⟩) n cap) rfl (by kernel_rfl) (by kernel_rfl) (by kernel_rfl) (fun _ _ _ h => h) (Or.inl ⟨by rfl, ?_⟩) (by assumption) ?_
        · intro wx hs1; go_simp
        (try simp only [Act.put, List.getElem_toArray, List.getElem_cons_succ, List.getElem_cons_zero, List.setIfInBounds_toArray, List.set_cons_zero, List.set_cons_succ])
        refine wpAnyH_take (i := 3) (v := .int .i64 (k : Int)) rfl (by kernel_rfl) (by kernel_rfl) (by kernel_rfl) (fun _ _ _ h => h) (Or.inl ⟨by rfl, ?_⟩) (by assumption) ?_
        · intro wx hs1; go_simp
        (try simp only [Act.put, List.getElem_toArray, List.getElem_cons_succ, List.getElem_cons_zero, List.setIfInBounds_toArray, List.set_cons_zero, List.set_cons_succ])
        refine wpAnyH_take (i := 4) (v := .pointer (some ⟨b, off + k * 7, none⟩)) rfl (by kernel_rfl) (by kernel_rfl) (by kernel_rfl) (fun _ _ _ h => h) (Or.inl ⟨by rfl, ?_⟩) (by assumption) ?_
        · intro wx hs1; go_simp
        (try simp only [Act.put, List.getElem_toArray, List.getElem_cons_succ, List.getElem_cons_zero, List.setIfInBounds_toArray, List.set_cons_zero, List.set_cons_succ])
        refine wpAnyH_take (i := 5) (v := .agg #[.int .i64 y.x, .int .i64 y.r, .int .i64 y.q, .int .i64 y.k, .int .i64 y.m, .int .i64 y.n, .string y.t]) rfl (by kernel_rfl) (by kernel_rfl) (by kernel_rfl) (fun _ _ _ h => h) (Or.inl ⟨by rfl, ?_⟩) (by assumption) ?_
        · intro wx hs1; obtain ⟨⟨s0, s1, s2, s3, s4, s5, s6, s7, s8, s9⟩, ⟨x0, x1, x2, x3, x4, x5, x6⟩⟩ := hs1; go_simp
        (try simp only [Act.put, List.getElem_toArray, List.getElem_cons_succ, List.getElem_cons_zero, List.setIfInBounds_toArray, List.set_cons_zero, List.set_cons_succ])
        refine wpAnyH_ready (rs := [6, 10]) (by kernel_rfl) (by simp) (AllReadyH.cons rfl (fun K hK => ?_) (AllReadyH.cons rfl (fun K hK => ?_) AllReadyH.nil))
        · go_simp
          go_at_call 17
          (with_reducible refine (hact _ hAd hLd).mono ?_)
          rintro e w9 ⟨rfl, hA9, hB9⟩
          try dsimp only
          have hb9o : But (Xp p) wr w9 := HB0.out.trans hB9 (fun _ _ e => e)
          refine hK.out _ _ (HSo.out _ hb9o) (fun _ => ?_)
          clear hK K hB9
          (try simp only [Act.put, List.getElem_toArray, List.getElem_cons_succ, List.getElem_cons_zero, List.setIfInBounds_toArray, List.set_cons_zero, List.set_cons_succ])
          refine wpAnyH_take (i := 7) (v := .tuple #[.agg #[.int .i64 N.c, .int .i64 N.s, .int .i64 N.pr, .int .i64 N.pp, .int .i64 N.ar, .int .i64 N.ap, .int .i64 N.k, .int .i64 N.m, .int .i64 N.n, .string N.t], .bool true]) rfl (by kernel_rfl) (by kernel_rfl) (by kernel_rfl) (fun _ _ _ h => h) (Or.inl ⟨by rfl, ?_⟩) (by assumption) ?_
          · intro wx hs1; go_simp
          (try simp only [Act.put, List.getElem_toArray, List.getElem_cons_succ, List.getElem_cons_zero, List.setIfInBounds_toArray, List.set_cons_zero, List.set_cons_succ])
          refine wpAnyH_take (i := 8) (v := .agg #[.int .i64 N.c, .int .i64 N.s, .int .i64 N.pr, .int .i64 N.pp, .int .i64 N.ar, .int .i64 N.ap, .int .i64 N.k, .int .i64 N.m, .int .i64 N.n, .string N.t]) rfl (by kernel_rfl) (by kernel_rfl) (by kernel_rfl) (fun _ _ _ h => h) (Or.inl ⟨by rfl, ?_⟩) (by assumption) ?_
          · intro wx hs1; go_simp
          (try simp only [Act.put, List.getElem_toArray, List.getElem_cons_succ, List.getElem_cons_zero, List.setIfInBounds_toArray, List.set_cons_zero, List.set_cons_succ])
          refine wpAnyH_take (i := 9) (v := .bool true) rfl (by kernel_rfl) (by kernel_rfl) (by kernel_rfl) (fun _ _ _ h => h) (Or.inl ⟨by rfl, ?_⟩) (by assumption) ?_
          · intro wx hs1; go_simp
          (try simp only [Act.put, List.getElem_toArray, List.getElem_cons_succ, List.getElem_cons_zero, List.setIfInBounds_toArray, List.set_cons_zero, List.set_cons_succ])
          refine wpAnyH_ready (rs := [10]) (by kernel_rfl) (by simp) (AllReadyH.cons rfl (fun K hK => ?_) AllReadyH.nil)
          go_simp
          have hb9a : But (Xp p) wr (w9.alloc (.cells #[.int .i64 0, .int .i64 0, .int .i64 0, .int .i64 0, .int .i64 0, .int .i64 0, .int .i64 0, .int .i64 0, .int .i64 0, .string ⟨#[]⟩] 38)) := hb9o.alloc _
          try dsimp only
          have hS := HSo.out _ hb9a
          refine hK.out _ _ hS (fun _ => ?_)
          clear hK K
          (try simp only [Act.put, List.getElem_toArray, List.getElem_cons_succ, List.getElem_cons_zero, List.setIfInBounds_toArray, List.set_cons_zero, List.set_cons_succ])
          have hAA : AAt (w9.alloc (.cells #[.int .i64 0, .int .i64 0, .int .i64 0, .int .i64 0, .int .i64 0, .int .i64 0, .int .i64 0, .int .i64 0, .int .i64 0, .string ⟨#[]⟩] 38)) p N := (Below.heap_alloc w9 _ p hA9.lt).trans hA9
          obtain ⟨VB, hVB⟩ : ∃ v, w9.alloc (.cells #[.int .i64 0, .int .i64 0, .int .i64 0, .int .i64 0, .int .i64 0, .int .i64 0, .int .i64 0, .int .i64 0, .int .i64 0, .string ⟨#[]⟩] 38) = v := ⟨_, rfl⟩
          have hZA : VB.heap[w9.heap.size]? = some (.cells #[.int .i64 0, .int .i64 0, .int .i64 0, .int .i64 0, .int .i64 0, .int .i64 0, .int .i64 0, .int .i64 0, .int .i64 0, .string ⟨#[]⟩] 38 (0, 0)) := by rw [← hVB]; exact World.alloc_heap_new _ _
          rw [hVB] at hb9a hAA ⊢
          clear hVB
          have hSB := HSo.out VB hb9a
          have HBW := Lib.hid hb9a
          have HAW := Lib.hid hAA
          have hnp : p ≠ w9.heap.size := by have := hA9.lt; omega
          obtain ⟨b20, hb20'⟩ : ∃ x, w9.heap.size = x := ⟨_, rfl⟩
          have hb20 : wr.heap.size ≤ b20 := by rw [← hb20']; exact hb9o.size
          rw [hb20'] at hZA hnp ⊢
          clear hb20'
          have HZ := Lib.hid hZA
          obtain ⟨⟨a0, a1, a2, a3, a4, a5, a6, a7, a8, a9⟩, ⟨f0, f1, f2, f3, f4, f5, f6, f7, f8, f9⟩⟩ := ten HZ.out
          have HPZ := Lib.hid (set10 HZ.out (.int .i64 N.c) (.int .i64 N.s) (.int .i64 N.pr) (.int .i64 N.pp) (.int .i64 N.ar) (.int .i64 N.ap) (.int .i64 N.k) (.int .i64 N.m) (.int .i64 N.n) (.string N.t))
          have HPB := Lib.hid (buts10 (b := b20) HBW.out hb20 (.int .i64 N.c) (.int .i64 N.s) (.int .i64 N.pr) (.int .i64 N.pp) (.int .i64 N.ar) (.int .i64 N.ap) (.int .i64 N.k) (.int .i64 N.m) (.int .i64 N.n) (.string N.t))
          have HPA := Lib.hid (other10 (b := b20) HAW.out hnp (.int .i64 N.c) (.int .i64 N.s) (.int .i64 N.pr) (.int .i64 N.pp) (.int .i64 N.ar) (.int .i64 N.ap) (.int .i64 N.k) (.int .i64 N.m) (.int .i64 N.n) (.string N.t))
          refine wpAnyH_ready (rs := [11]) (by kernel_rfl) (by simp) (AllReadyH.cons rfl (fun K hK => ?_) AllReadyH.nil)
          go_simp
          obtain ⟨w10, hw10⟩ : ∃ v, ((((((((((VB.setCell ⟨b20, 0, none⟩ (.int .i64 N.c)).setCell ⟨b20, 1, none⟩ (.int .i64 N.s)).setCell ⟨b20, 2, none⟩ (.int .i64 N.pr)).setCell ⟨b20, 3, none⟩ (.int .i64 N.pp)).setCell ⟨b20, 4, none⟩ (.int .i64 N.ar)).setCell ⟨b20, 5, none⟩ (.int .i64 N.ap)).setCell ⟨b20, 6, none⟩ (.int .i64 N.k)).setCell ⟨b20, 7, none⟩ (.int .i64 N.m)).setCell ⟨b20, 8, none⟩ (.int .i64 N.n)).setCell ⟨b20, 9, none⟩ (.string N.t)) = v := ⟨_, rfl⟩
          rw [hw10] at HPZ HPB HPA ⊢
          clear hw10 f0 f1 f2 f3 f4 f5 f6 f7 f8 f9 a0 a1 a2 a3 a4 a5 a6 a7 a8 a9
          try dsimp only
          have hS := HSo.out w10 HPB.out
          refine hK.out _ _ hS (fun _ => ?_)
          clear hK K
          (try simp only [Act.put, List.getElem_toArray, List.getElem_cons_succ, List.getElem_cons_zero, List.setIfInBounds_toArray, List.set_cons_zero, List.set_cons_succ])
          refine wpAnyH_take (i := 12) (v := .bool true) rfl (by kernel_rfl) (by kernel_rfl) (by kernel_rfl) (fun _ _ _ h => h) (Or.inl ⟨by rfl, ?_⟩) (by assumption) ?_
          · intro wx hs1; go_simp
          (try simp only [Act.put, List.getElem_toArray, List.getElem_cons_succ, List.getElem_cons_zero, List.setIfInBounds_toArray, List.set_cons_zero, List.set_cons_succ])
          refine wpAnyH_done (by kernel_rfl) ?_ _
          go_wp2_with fail
          go_meet
          exact ⟨b20, rfl, rfl, Lib.hid ⟨HPZ.out, HPA.out, HPB.out, hb20⟩⟩
        · go_simp
          have hbA : But (Xp p) wr (V0.alloc (.cells #[.int .i64 0, .int .i64 0, .int .i64 0, .int .i64 0, .int .i64 0, .int .i64 0, .int .i64 0, .int .i64 0, .int .i64 0, .string ⟨#[]⟩] 38)) := HB0.out.alloc _
          refine hK.out _ _ (HSo.out _ hbA) (fun _ => ?_)
          clear hK K
          (try simp only [Act.put, List.getElem_toArray, List.getElem_cons_succ, List.getElem_cons_zero, List.setIfInBounds_toArray, List.set_cons_zero, List.set_cons_succ])
          have hAA : AAt (V0.alloc (.cells #[.int .i64 0, .int .i64 0, .int .i64 0, .int .i64 0, .int .i64 0, .int .i64 0, .int .i64 0, .int .i64 0, .int .i64 0, .string ⟨#[]⟩] 38)) p M := (Below.heap_alloc V0 _ p hAd.lt).trans hAd
          have hLA := hLd.keep ((Below.refl _ V0).alloc (Nat.le_refl _) (.cells #[.int .i64 0, .int .i64 0, .int .i64 0, .int .i64 0, .int .i64 0, .int .i64 0, .int .i64 0, .int .i64 0, .int .i64 0, .string ⟨#[]⟩] 38))
          obtain ⟨VA, hVA⟩ : ∃ v, V0.alloc (.cells #[.int .i64 0, .int .i64 0, .int .i64 0, .int .i64 0, .int .i64 0, .int .i64 0, .int .i64 0, .int .i64 0, .int .i64 0, .string ⟨#[]⟩] 38) = v := ⟨_, rfl⟩
          have hZA : VA.heap[V0.heap.size]? = some (.cells #[.int .i64 0, .int .i64 0, .int .i64 0, .int .i64 0, .int .i64 0, .int .i64 0, .int .i64 0, .int .i64 0, .int .i64 0, .string ⟨#[]⟩] 38 (0, 0)) := by rw [← hVA]; exact World.alloc_heap_new _ _
          rw [hVA] at hbA hAA hLA ⊢
          clear hVA
          have hSA := HSo.out VA hbA
          have hnp : p ≠ V0.heap.size := by have := hAd.lt; omega
          obtain ⟨b20, hb20'⟩ : ∃ x, V0.heap.size = x := ⟨_, rfl⟩
          have hb20 : wr.heap.size ≤ b20 := by rw [← hb20']; exact HB0.out.size
          rw [hb20'] at hZA hnp ⊢
          clear hb20'
          refine wpAnyH_ready (rs := [6]) (by kernel_rfl) (by simp) (AllReadyH.cons rfl (fun K hK => ?_) AllReadyH.nil)
          go_simp
          go_at_call 17
          (with_reducible refine (hact _ hAA hLA).mono ?_)
          rintro e w9 ⟨rfl, hA9, hB9⟩
          try dsimp only
          have HBW : Hid (But (Xp p) wr w9) := Lib.hid (hbA.trans hB9 (fun _ _ e => e)); have HZ := Lib.hid (hB9.box hZA (fun e => hnp (show b20 = p from e).symm)); have HAW := Lib.hid hA9; clear hB9 hA9; have hS := HSo.out w9 HBW.out
          refine hK.out _ _ hS (fun _ => ?_)
          clear hK K
          (try simp only [Act.put, List.getElem_toArray, List.getElem_cons_succ, List.getElem_cons_zero, List.setIfInBounds_toArray, List.set_cons_zero, List.set_cons_succ])
          refine wpAnyH_take (i := 7) (v := .tuple #[.agg #[.int .i64 N.c, .int .i64 N.s, .int .i64 N.pr, .int .i64 N.pp, .int .i64 N.ar, .int .i64 N.ap, .int .i64 N.k, .int .i64 N.m, .int .i64 N.n, .string N.t], .bool true]) rfl (by kernel_rfl) (by kernel_rfl) (by kernel_rfl) (fun _ _ _ h => h) (Or.inl ⟨by rfl, ?_⟩) (by assumption) ?_
          · intro wx hs1; go_simp
          (try simp only [Act.put, List.getElem_toArray, List.getElem_cons_succ, List.getElem_cons_zero, List.setIfInBounds_toArray, List.set_cons_zero, List.set_cons_succ])
          refine wpAnyH_take (i := 8) (v := .agg #[.int .i64 N.c, .int .i64 N.s, .int .i64 N.pr, .int .i64 N.pp, .int .i64 N.ar, .int .i64 N.ap, .int .i64 N.k, .int .i64 N.m, .int .i64 N.n, .string N.t]) rfl (by kernel_rfl) (by kernel_rfl) (by kernel_rfl) (fun _ _ _ h => h) (Or.inl ⟨by rfl, ?_⟩) (by assumption) ?_
          · intro wx hs1; go_simp
          (try simp only [Act.put, List.getElem_toArray, List.getElem_cons_succ, List.getElem_cons_zero, List.setIfInBounds_toArray, List.set_cons_zero, List.set_cons_succ])
          refine wpAnyH_take (i := 9) (v := .bool true) rfl (by kernel_rfl) (by kernel_rfl) (by kernel_rfl) (fun _ _ _ h => h) (Or.inl ⟨by rfl, ?_⟩) (by assumption) ?_
          · intro wx hs1; go_simp
          (try simp only [Act.put, List.getElem_toArray, List.getElem_cons_succ, List.getElem_cons_zero, List.setIfInBounds_toArray, List.set_cons_zero, List.set_cons_succ])
          obtain ⟨⟨a0, a1, a2, a3, a4, a5, a6, a7, a8, a9⟩, ⟨f0, f1, f2, f3, f4, f5, f6, f7, f8, f9⟩⟩ := ten HZ.out
          have HPZ := Lib.hid (set10 HZ.out (.int .i64 N.c) (.int .i64 N.s) (.int .i64 N.pr) (.int .i64 N.pp) (.int .i64 N.ar) (.int .i64 N.ap) (.int .i64 N.k) (.int .i64 N.m) (.int .i64 N.n) (.string N.t))
          have HPB := Lib.hid (buts10 (b := b20) HBW.out hb20 (.int .i64 N.c) (.int .i64 N.s) (.int .i64 N.pr) (.int .i64 N.pp) (.int .i64 N.ar) (.int .i64 N.ap) (.int .i64 N.k) (.int .i64 N.m) (.int .i64 N.n) (.string N.t))
          have HPA := Lib.hid (other10 (b := b20) HAW.out hnp (.int .i64 N.c) (.int .i64 N.s) (.int .i64 N.pr) (.int .i64 N.pp) (.int .i64 N.ar) (.int .i64 N.ap) (.int .i64 N.k) (.int .i64 N.m) (.int .i64 N.n) (.string N.t))
          refine wpAnyH_ready (rs := [11]) (by kernel_rfl) (by simp) (AllReadyH.cons rfl (fun K hK => ?_) AllReadyH.nil)
          go_simp
          obtain ⟨w10, hw10⟩ : ∃ v, ((((((((((w9.setCell ⟨b20, 0, none⟩ (.int .i64 N.c)).setCell ⟨b20, 1, none⟩ (.int .i64 N.s)).setCell ⟨b20, 2, none⟩ (.int .i64 N.pr)).setCell ⟨b20, 3, none⟩ (.int .i64 N.pp)).setCell ⟨b20, 4, none⟩ (.int .i64 N.ar)).setCell ⟨b20, 5, none⟩ (.int .i64 N.ap)).setCell ⟨b20, 6, none⟩ (.int .i64 N.k)).setCell ⟨b20, 7, none⟩ (.int .i64 N.m)).setCell ⟨b20, 8, none⟩ (.int .i64 N.n)).setCell ⟨b20, 9, none⟩ (.string N.t)) = v := ⟨_, rfl⟩
          rw [hw10] at HPZ HPB HPA ⊢
          clear hw10 f0 f1 f2 f3 f4 f5 f6 f7 f8 f9 a0 a1 a2 a3 a4 a5 a6 a7 a8 a9
          try dsimp only
          have hS := HSo.out w10 HPB.out
          refine hK.out _ _ hS (fun _ => ?_)
          clear hK K
          (try simp only [Act.put, List.getElem_toArray, List.getElem_cons_succ, List.getElem_cons_zero, List.setIfInBounds_toArray, List.set_cons_zero, List.set_cons_succ])
          refine wpAnyH_take (i := 12) (v := .bool true) rfl (by kernel_rfl) (by kernel_rfl) (by kernel_rfl) (fun _ _ _ h => h) (Or.inl ⟨by rfl, ?_⟩) (by assumption) ?_
          · intro wx hs1; go_simp
          (try simp only [Act.put, List.getElem_toArray, List.getElem_cons_succ, List.getElem_cons_zero, List.setIfInBounds_toArray, List.set_cons_zero, List.set_cons_succ])
          refine wpAnyH_done (by kernel_rfl) ?_ _
          go_wp2_with fail
          go_meet
          exact ⟨b20, rfl, rfl, Lib.hid ⟨HPZ.out, HPA.out, HPB.out, hb20⟩⟩
      case rest =>
        obtain ⟨b20, rfl, rfl, HX20⟩ := hcut
        obtain ⟨⟨d0, d1, d2, d3, d4, d5, d6, d7, d8, d9⟩, _⟩ := ten HX20.out.1
        have h9x := HX20.out.2.2.1.box HLP.out.doc (by show ¬ (w3.heap.size = p); omega)
        obtain ⟨_, ⟨f0, f1, f2, f3, f4, f5, f6, f7, f8, f9⟩⟩ := ten h9x
        have hn9 : b20 ≠ w3.heap.size := by have := HX20.out.2.2.2; omega
        have K9 := Lib.hid (set10 h9x (.int .i64 N.c) (.int .i64 N.s) (.int .i64 N.pr) (.int .i64 N.pp) (.int .i64 N.ar) (.int .i64 N.ap) (.int .i64 N.k) (.int .i64 N.m) (.int .i64 N.n) (.string N.t))
        have KA := Lib.hid (other10 (b := w3.heap.size) HX20.out.2.1 (by omega) (.int .i64 N.c) (.int .i64 N.s) (.int .i64 N.pr) (.int .i64 N.pp) (.int .i64 N.ar) (.int .i64 N.ap) (.int .i64 N.k) (.int .i64 N.m) (.int .i64 N.n) (.string N.t))
        have KB := Lib.hid (bset10 (p := w3.heap.size) (below_but HCR.out HX20.out.2.2.1 HCR.out.size hpw) hww3 (.int .i64 N.c) (.int .i64 N.s) (.int .i64 N.pr) (.int .i64 N.pp) (.int .i64 N.ar) (.int .i64 N.ap) (.int .i64 N.k) (.int .i64 N.m) (.int .i64 N.n) (.string N.t))
        have KS : w5.heap.size ≤ wc.heap.size := Nat.le_trans HLP.out.size HX20.out.2.2.1.size
        have KO := Lib.hid (OAt.of_heap (HLP.out.none_.but HX20.out.2.2.1 HZ.out) (fun z e => other10 (b := w3.heap.size) rfl (HZ9.out z e) (.int .i64 N.c) (.int .i64 N.s) (.int .i64 N.pr) (.int .i64 N.pp) (.int .i64 N.ar) (.int .i64 N.ap) (.int .i64 N.k) (.int .i64 N.m) (.int .i64 N.n) (.string N.t)))
        clear h9x
        go_upto_region 14 with fail
        obtain ⟨w20, hw20⟩ : ∃ v, ((((((((((wc.setCell ⟨w3.heap.size, 0, none⟩ (.int .i64 N.c)).setCell ⟨w3.heap.size, 1, none⟩ (.int .i64 N.s)).setCell ⟨w3.heap.size, 2, none⟩ (.int .i64 N.pr)).setCell ⟨w3.heap.size, 3, none⟩ (.int .i64 N.pp)).setCell ⟨w3.heap.size, 4, none⟩ (.int .i64 N.ar)).setCell ⟨w3.heap.size, 5, none⟩ (.int .i64 N.ap)).setCell ⟨w3.heap.size, 6, none⟩ (.int .i64 N.k)).setCell ⟨w3.heap.size, 7, none⟩ (.int .i64 N.m)).setCell ⟨w3.heap.size, 8, none⟩ (.int .i64 N.n)).setCell ⟨w3.heap.size, 9, none⟩ (.string N.t)) = v := ⟨_, rfl⟩
        have KS2 : w5.heap.size ≤ w20.heap.size := by rw [← hw20]; simpa using KS
        rw [hw20] at K9 KA KB KO ⊢
        clear hw20 d0 d1 d2 d3 d4 d5 d6 d7 d8 d9 f0 f1 f2 f3 f4 f5 f6 f7 f8 f9 KS HX20
        obtain ⟨⟨d0, d1, d2, d3, d4, d5, d6, d7, d8, d9⟩, _⟩ := ten K9.out
        have his := is_row w20 p N c s KA.out hc0 hokn
        go_wp2_with (go_at_call 18; (with_reducible refine his.mono ?_); clear his; rintro e w22 ⟨rfl, hb22⟩)
        clear d0 d1 d2 d3 d4 d5 d6 d7 d8 d9
        go_roundw
        case rel => exact ⟨k + 1, by omega, by go_num, Lib.hid (by rw [HST.out]; exact ⟨AAt.keep KA.out hb22, (hb22.block _ (Array.getElem?_eq_some_iff.1 K9.out).1).trans K9.out, OAt.keep KO.out hb22, KB.out.trans (hb22.mono KB.out.size), Nat.le_trans KS2 hb22.size⟩)⟩
        case measure => simp [RowKit.intOf]; omega
    · obtain rfl : k = n := by omega
      have hwk := works_any wr (HL.out.keep HCR.out)
      clear hM
      go_wp2_with (go_at_call 7; (with_reducible refine hwk.mono ?_); clear hwk; rintro e w25 ⟨rfl, hb25⟩)
      go_ret
      exact ⟨rfl, HCR.out.trans (hb25.mono HCR.out.size)⟩
theorem Sm.of_law (c s r q cr cq ek em en : Int) (et : ByteArray) (A : Option Addr) (n cap : Nat) (xs : List XV) (w : World) (hk : I64 ek) (ht : et.size ≤ 9223372036854775807) (hn : xs.length = n) (hnc : n ≤ cap) (hc9 : cap ≤ 9223372036854775807) (hx : RdX w A xs) (hcm : ∀ y ∈ xs, XV.came y) (hL : LaysT w) :
    Calls Tryz.prog 4 #[.int .i64 c, .int .i64 s, .agg #[.int .i64 r, .int .i64 q], .agg #[.int .i64 cr, .int .i64 cq, .int .i64 ek, .int .i64 em, .int .i64 en, .string et], .slice A n cap] w fun e w' => e = .returned (.bool true) ∧ Below w.heap.size w w' := by
  by_cases hlg : 300 < et.size
  · exact of_long c s r q cr cq ek em en et A n cap xs w hn hnc hc9 hx hcm hL ht hlg
  · have hlg' : et.size ≤ 300 := by omega
    cases hf : fewB xs 10 with
    | false => exact of_many c s r q cr cq ek em en et A n cap xs w hn hnc hc9 hx hcm hL hlg' hf
    | true =>
      cases hc : chB c with
      | false => exact of_err c s r q cr cq ek em en et A n cap xs w hn hnc hc9 hx hcm hL hlg' hf 2 rfl (fun W _ => (of_no c s r q cr cq ek em en et W (by rw [hc]; simp)).mono fun e w' ⟨h1, h2⟩ => ⟨by rw [h1]; unfold slotV; rw [hc]; simp, h2⟩) (fun W => rOf_ch c s r q cr cq ek em en et W hc)
      | true =>
        cases hs : slB s with
        | false => exact of_err c s r q cr cq ek em en et A n cap xs w hn hnc hc9 hx hcm hL hlg' hf 4 rfl (fun W _ => (of_no c s r q cr cq ek em en et W (by rw [hs]; simp)).mono fun e w' ⟨h1, h2⟩ => ⟨by rw [h1]; unfold slotV; rw [hc, hs]; simp, h2⟩) (fun W => rOf_sl c s r q cr cq ek em en et W hc hs)
        | true =>
          cases hg : ofB c s r q cr cq ek em en et with
          | false => exact of_err c s r q cr cq ek em en et A n cap xs w hn hnc hc9 hx hcm hL hlg' hf 2 rfl (fun W hW => Of_wrong c s r q cr cq ek em en et W hc hs hk (by omega) hW hg) (fun W => rOf_wrong c s r q cr cq ek em en et W hc hs (by omega) hg)
          | true => exact of_good c s r q cr cq ek em en et A n cap xs w hn hnc hc9 hx hcm hL hlg' hf hk hc hs hg
end Go.Proofs
