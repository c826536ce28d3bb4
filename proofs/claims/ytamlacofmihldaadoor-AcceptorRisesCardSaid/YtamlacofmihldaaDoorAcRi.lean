/-
  acceptor: the walk of AcceptorRises. Conditions: as the theorem names them.
-/
import Derived.Test.YtamlacofmihldaaDoorAcRq
namespace Go.Proofs
open Go Go.RowKit Sm Go.Lib
attribute [local go_sem] Oper.semAt_some
set_option maxRecDepth 100000 in
set_option maxHeartbeats 4000000 in
theorem Sm.rises_good (c s : Int) (A : Option Addr) (n cap : Nat) (xs : List XV) (w : World) (hn : xs.length = n) (hnc : n ≤ cap) (hc9 : cap ≤ 9223372036854775807) (hx : RdX w A xs) (hcm : ∀ y ∈ xs, XV.came y) (hL : LaysT w) (hf : fewB xs 40 = true) (hc : chB c = true) (hs : slB s = true) : Calls Tryd.prog 4 #[.int .i64 c, .int .i64 s, .slice A n cap] w fun e w' => e = .returned (.bool true) ∧ Below w.heap.size w w' := by
  have h1 := few_any A n cap xs 40 w hn hnc hc9 hx hcm
  obtain ⟨hsm, hmost⟩ := few_small hf
  rw [hf] at h1
  have HX := Lib.hid hx
  have HN := Lib.hid hn
  have HCM := Lib.hid hcm
  have HSM := Lib.hid hsm
  have HL := Lib.hid hL
  have hn40 : n ≤ 40 := by omega
  have H2 := Lib.hid (fun W => new_yes c s W hc hs)
  have hc0 : c ≠ 0 := by have := chB_pos hc; omega
  have hri0 := RiM.new c s
  have ht0 : (newM c s).t.size ≤ 300 := by show (⟨#[]⟩ : ByteArray).size ≤ 300; decide
  have hmc0 : (newM c s).c ≠ 0 := hc0
  obtain ⟨M0, hM0⟩ : ∃ M, newM c s = M := ⟨_, rfl⟩
  rw [hM0] at H2 hri0 ht0 hmc0
  have HRI0 := Lib.hid hri0
  have HT0 := Lib.hid ht0
  have HMC0 := Lib.hid hmc0
  have hnum := fun x W => num_any x W
  clear hx hn hcm hL hf hsm hmost hc hs hM0 hri0 ht0 hmc0 hc0
  go_enter Tryd.func4, Tryd.ntmps4
  go_upto_region 6 with (first
    | (go_at_call 9; (with_reducible refine h1.mono ?_); clear h1; rintro e w1 ⟨rfl, hb1⟩)
    | (go_at_call 10; (with_reducible refine (H2.out _).mono ?_); clear H2; rintro e w2 ⟨p, rfl, hp, hA2, hb2⟩)
    | (go_at_call 11; (with_reducible refine (hnum _ _).mono ?_); rintro e w' ⟨rfl, rfl⟩))
  have hpw : w.heap.size ≤ p := Nat.le_trans hb1.size hp
  have hb02 := hb1.trans (hb2.mono hb1.size)
  have HLp0 : Hid (AAt w2 p M0 ∧ Below w.heap.size w w2) := Lib.hid ⟨hA2, hb02⟩
  clear hA2 hb02 hb1 hb2 hp
  go_wp2
  go_loopw [9] (fun v9 wr => ∃ k : Nat, k ≤ n ∧ v9 = .int .i64 (k : Int) ∧ Hid (AAt wr p (playM M0 (xs.take k)) ∧ Below w.heap.size w wr)) (fun v9 _ => n - (RowKit.intOf v9).toNat)
  case atStart => exact ⟨0, Nat.zero_le _, rfl, HLp0⟩
  case round =>
    obtain ⟨k, hk, rfl, HLP⟩ := hrel
    have HCR := Lib.hid HLP.out.2
    have hri := HRI0.out.play (xs.take k)
    have hct := play_cst (M := M0) (xs.take k) HT0.out (fun y hy => HSM.out y (List.mem_of_mem_take hy))
    obtain ⟨M, hM⟩ : ∃ M, playM M0 (xs.take k) = M := ⟨_, rfl⟩
    rw [hM] at HLP hri hct
    have HRI := Lib.hid hri
    have hmc : M.c ≠ 0 := by rw [hct.1]; exact HMC0.out
    have hmt := hct.2
    clear hri hct
    by_cases hlt : k < n
    · have hkx : k < xs.length := by rw [HN.out]; exact hlt
      have hst := take_play M0 hkx
      rw [hM] at hst
      obtain ⟨b, off, rfl, hbl, hcl⟩ := HX.out.one hkx
      obtain ⟨y, hy⟩ : ∃ y, xs[k] = y := ⟨_, rfl⟩
      have hyc : y.came := by rw [← hy]; exact HCM.out _ (List.getElem_mem hkx)
      have hys : y.t.size ≤ 300 := by rw [← hy]; exact HSM.out _ (List.getElem_mem hkx)
      rw [hy] at hcl hst
      have HCL := Lib.hid hcl
      have hnc2 : (stX M y).c ≠ 0 := by rw [stX_c]; exact hmc
      have hnt := stX_t hmt hys
      obtain ⟨N, hN⟩ : ∃ N, stX M y = N := ⟨_, rfl⟩
      rw [hN] at hst hnc2 hnt
      have HST := Lib.hid hst
      clear hst hcl hy hM
      by_cases hx : y.x = 0
      · obtain ⟨ev, hev⟩ : ∃ e, prE M y.r y.q = e := ⟨_, rfl⟩
        obtain ⟨ok, hok⟩ : ∃ b, prOk M y.r y.q = b := ⟨_, rfl⟩
        obtain ⟨tv, htv⟩ : ∃ v, acVal ok M = v := ⟨_, rfl⟩
        have hri : RiX M N y ok := by have h := (HRI.out.step y).1; unfold okX at h; rw [if_pos hx, hok, hN] at h; exact h
        have hact : ∀ W, AAt W p M → LaysT W → Calls Tryd.prog 14 #[.pointer (some ⟨p, 0, none⟩), .agg #[.int .i64 y.r, .int .i64 y.q]] W fun e w' => e = .returned (.tuple #[tv, .bool ok, .int .i64 ev]) ∧ AAt w' p N ∧ But (Xp p) W w' := fun W h1 h2 => by
          have h := promise_any y.r y.q W p M h1 (by omega) hmc
          rw [hok, hev, htv] at h
          rw [← hN]; unfold stX stM; rw [if_pos hx]; exact h
        have hx0 : (y.x == 0) = true := by simpa using hx
        obtain ⟨had, hhad⟩ : ∃ b, (!noAcc M) = b := ⟨_, rfl⟩
        obtain ⟨has, hhas⟩ : ∃ b, (!noAcc N) = b := ⟨_, rfl⟩
        obtain ⟨X, hX⟩ : ∃ X, shM M = X := ⟨_, rfl⟩
        obtain ⟨Y, hY⟩ : ∃ Y, shM N = Y := ⟨_, rfl⟩
        have e1 : ∀ {M : AcM} {b : Bool}, (!noAcc M) = b → b = true → noAcc M = false := fun h e => by rw [e] at h; simpa using h
        have K1 := Lib.hid (show had = true → has = true from fun e => by rw [← hhas, hri.has (e1 hhad e)]; rfl)
        have K2 := Lib.hid (show ok = false → has = had ∧ N.pr = M.pr ∧ N.pp = M.pp ∧ Y = X from fun e => by have h := hri.same e; rw [h] at hhas hY; exact ⟨hhas.symm.trans hhad, by rw [h], by rw [h], hY.symm.trans hX⟩)
        have HL1 : Hid (∀ W, Calls Tryd.prog 16 #[.agg #[.int .i64 N.pr, .int .i64 N.pp], .agg #[.int .i64 M.pr, .int .i64 M.pp]] W fun e w' => e = .returned (.bool false) ∧ Below W.heap.size W w') := Lib.hid fun W => by rw [← hri.prom]; exact Less_any _ _ _ _ W
        have HL2a : Hid (had = true → ∀ W, Calls Tryd.prog 16 #[.agg #[.int .i64 Y.ar, .int .i64 Y.ap], .agg #[.int .i64 X.ar, .int .i64 X.ap]] W fun e w' => e = .returned (.bool false) ∧ Below W.heap.size W w') := Lib.hid fun e W => by have hm := e1 hhad e; rw [← hri.acc hm, ← hX, ← hY, shM_of hm, shM_of (hri.has hm)]; exact Less_any _ _ _ _ W
        have HL3a : Hid (has = true → ∀ W, Calls Tryd.prog 16 #[.agg #[.int .i64 N.pr, .int .i64 N.pp], .agg #[.int .i64 Y.ar, .int .i64 Y.ap]] W fun e w' => e = .returned (.bool false) ∧ Below W.heap.size W w') := Lib.hid fun e W => by have hm := e1 hhas e; rw [← hri.top hm, ← hY, shM_of hm]; exact Less_any _ _ _ _ W
        have HL4a : Hid (ok = true → ∀ W, Calls Tryd.prog 16 #[.agg #[.int .i64 y.r, .int .i64 y.q], .agg #[.int .i64 M.pr, .int .i64 M.pp]] W fun e w' => e = .returned (.bool false) ∧ Below W.heap.size W w') := Lib.hid fun e W => by rw [← hri.low e]; exact Less_any _ _ _ _ W
        have H13 : Hid (∀ W, AAt W p M → Calls Tryd.prog 13 #[.pointer (some ⟨p, 0, none⟩)] W fun e w' => e = .returned (.tuple #[.agg #[.int .i64 X.ar, .int .i64 X.ap, .int .i64 X.k, .int .i64 X.m, .int .i64 X.n, .string X.t], .bool had]) ∧ Below W.heap.size W w') := Lib.hid fun W h => by have h := accd_any W p M h (by omega) hmc; rw [acVal_sh, hX, hhad] at h; exact h
        have H13b : Hid (∀ W, AAt W p N → Calls Tryd.prog 13 #[.pointer (some ⟨p, 0, none⟩)] W fun e w' => e = .returned (.tuple #[.agg #[.int .i64 Y.ar, .int .i64 Y.ap, .int .i64 Y.k, .int .i64 Y.m, .int .i64 Y.n, .string Y.t], .bool has]) ∧ Below W.heap.size W w') := Lib.hid fun W h => by have h := accd_any W p N h (by omega) hnc2; rw [acVal_sh, hY, hhas] at h; exact h
        have H12 : Hid (∀ W K, AAt W p K → Calls Tryd.prog 12 #[.pointer (some ⟨p, 0, none⟩)] W fun e w' => e = .returned (.agg #[.int .i64 K.pr, .int .i64 K.pp]) ∧ Below W.heap.size W w') := Lib.hid fun W K h => Promised_any W (some p) K h
        have HACT := Lib.hid hact
        clear hact hri hhad hhas hX hY e1 hok hev hN hx htv
        have hAr := HLP.out.1
        go_upto_region 10 with (go_at_call 12; (with_reducible refine (H12.out _ _ hAr).mono ?_); rintro e w1 ⟨rfl, hb1⟩)
        have hA1 := hAr.keep hb1
        have hA2 : AAt (w1.alloc (.cells #[.int .i64 M.pr, .int .i64 M.pp] 36)) p M := (Below.heap_alloc w1 _ p hA1.lt).trans hA1
        have k10 := World.alloc_heap_new w1 (.cells #[.int .i64 M.pr, .int .i64 M.pp] 36)
        have hb2 := hb1.alloc hb1.size (.cells #[.int .i64 M.pr, .int .i64 M.pp] 36)
        have l10 : wr.heap.size ≤ w1.heap.size := hb1.size
        obtain ⟨w2, hw2⟩ : ∃ v, w1.alloc (.cells #[.int .i64 M.pr, .int .i64 M.pp] 36) = v := ⟨_, rfl⟩
        rw [hw2] at hA2 k10 hb2 ⊢
        obtain ⟨b10, hb10⟩ : ∃ v, w1.heap.size = v := ⟨_, rfl⟩
        rw [hb10] at k10 l10 ⊢
        clear hw2 hb10 hA1 hb1
        go_upto_region 11 with (go_at_call 13; (with_reducible refine (H13.out _ hA2).mono ?_); rintro e w3 ⟨rfl, hb3⟩)
        have hA3 := hA2.keep hb3
        have k10 := (hb3.block _ (Array.getElem?_eq_some_iff.1 k10).1).trans k10
        have hb3 := hb2.trans (hb3.mono hb2.size)
        have hA4 : AAt (w3.alloc (.cells #[.int .i64 X.ar, .int .i64 X.ap, .int .i64 X.k, .int .i64 X.m, .int .i64 X.n, .string X.t] 39)) p M := (Below.heap_alloc w3 _ p hA3.lt).trans hA3
        have k11 := World.alloc_heap_new w3 (.cells #[.int .i64 X.ar, .int .i64 X.ap, .int .i64 X.k, .int .i64 X.m, .int .i64 X.n, .string X.t] 39)
        have k10 := (Below.heap_alloc w3 (.cells #[.int .i64 X.ar, .int .i64 X.ap, .int .i64 X.k, .int .i64 X.m, .int .i64 X.n, .string X.t] 39) _ (Array.getElem?_eq_some_iff.1 k10).1).trans k10
        have hb4 := hb3.alloc hb3.size (.cells #[.int .i64 X.ar, .int .i64 X.ap, .int .i64 X.k, .int .i64 X.m, .int .i64 X.n, .string X.t] 39)
        have l11 : wr.heap.size ≤ w3.heap.size := hb3.size
        obtain ⟨w4, hw4⟩ : ∃ v, w3.alloc (.cells #[.int .i64 X.ar, .int .i64 X.ap, .int .i64 X.k, .int .i64 X.m, .int .i64 X.n, .string X.t] 39) = v := ⟨_, rfl⟩
        rw [hw4] at hA4 k10 k11 hb4 ⊢
        obtain ⟨b11, hb11⟩ : ∃ v, w3.heap.size = v := ⟨_, rfl⟩
        rw [hb11] at k11 l11 ⊢
        clear hw4 hb11 hA2 hA3 hb2 hb3 hAr
        have HX4 : Hid (∀ W, But (Xp p) w4 W → W.cell? ⟨b, off + k * 7, none⟩ = some (.int .i64 y.x) ∧ W.cell? ⟨b, off + k * 7 + 1, none⟩ = some (.int .i64 y.r) ∧ W.cell? ⟨b, off + k * 7 + 2, none⟩ = some (.int .i64 y.q) ∧ W.cell? ⟨b, off + k * 7 + 3, none⟩ = some (.int .i64 y.k) ∧ W.cell? ⟨b, off + k * 7 + 4, none⟩ = some (.int .i64 y.m) ∧ W.cell? ⟨b, off + k * 7 + 5, none⟩ = some (.int .i64 y.n) ∧ W.cell? ⟨b, off + k * 7 + 6, none⟩ = some (.string y.t)) := Lib.hid fun W hb => by
          have g : ∀ j v, w4.cell? ⟨b, j, none⟩ = some v → W.cell? ⟨b, j, none⟩ = some v := fun j v h => (hb.cell (p := ⟨b, j, none⟩) (Nat.lt_of_lt_of_le hbl (Nat.le_trans HCR.out.size hb4.size)) (by show ¬ (b = p); omega)).trans h
          obtain ⟨g0, g1, g2, g3, g4, g5, g6⟩ := HCL.out w4 (HCR.out.trans (hb4.mono HCR.out.size))
          exact ⟨g _ _ g0, g _ _ g1, g _ _ g2, g _ _ g3, g _ _ g4, g _ _ g5, g _ _ g6⟩
        have z4 := HX4.out w4 (But.refl _ _)
        have hL4 : LaysT w4 := HL.out.keep (HCR.out.trans (hb4.mono HCR.out.size))
        have hlp : p < wr.heap.size := HLP.out.1.lt
        obtain ⟨x0, x1, x2, x3, x4, x5, x6⟩ := z4
        go_upto_region 15 with (go_at_call 14; (with_reducible refine (HACT.out _ hA4 hL4).mono ?_); rintro e w5 ⟨rfl, hA5, hB5⟩)
        clear x0 x1 x2 x3 x4 x5 x6
        have l45 : w4.heap.size ≤ w5.heap.size := hB5.size
        have d10 : b10 < w4.heap.size := (Array.getElem?_eq_some_iff.1 k10).1
        have d11 : b11 < w4.heap.size := (Array.getElem?_eq_some_iff.1 k11).1
        have k10 := hB5.box k10 (by show ¬ (b10 = p); omega)
        have k11 := hB5.box k11 (by show ¬ (b11 = p); omega)
        have HX5 : Hid (∀ W, Below w5.heap.size w5 W → W.cell? ⟨b, off + k * 7, none⟩ = some (.int .i64 y.x) ∧ W.cell? ⟨b, off + k * 7 + 1, none⟩ = some (.int .i64 y.r) ∧ W.cell? ⟨b, off + k * 7 + 2, none⟩ = some (.int .i64 y.q) ∧ W.cell? ⟨b, off + k * 7 + 3, none⟩ = some (.int .i64 y.k) ∧ W.cell? ⟨b, off + k * 7 + 4, none⟩ = some (.int .i64 y.m) ∧ W.cell? ⟨b, off + k * 7 + 5, none⟩ = some (.int .i64 y.n) ∧ W.cell? ⟨b, off + k * 7 + 6, none⟩ = some (.string y.t)) := Lib.hid fun W hb => HX4.out W (hB5.trans (But.of_all hb _) (fun _ _ e => e))
        have hBW := below_but (HCR.out.trans (hb4.mono HCR.out.size)) hB5 (Nat.le_trans HCR.out.size hb4.size) hpw
        clear hA4 hL4 hb4 l10 l11
        go_upto_region 16 with (go_at_call 12; (with_reducible refine (H12.out _ _ hA5).mono ?_); rintro e w6 ⟨rfl, hb6⟩)
        have hA6 := hA5.keep hb6
        have hA7 : AAt (w6.alloc (.cells #[.int .i64 N.pr, .int .i64 N.pp] 36)) p N := (Below.heap_alloc w6 _ p hA6.lt).trans hA6
        have k14 := World.alloc_heap_new w6 (.cells #[.int .i64 N.pr, .int .i64 N.pp] 36)
        have hb7 := hb6.alloc hb6.size (.cells #[.int .i64 N.pr, .int .i64 N.pp] 36)
        obtain ⟨w7, hw7⟩ : ∃ v, w6.alloc (.cells #[.int .i64 N.pr, .int .i64 N.pp] 36) = v := ⟨_, rfl⟩
        rw [hw7] at hA7 k14 hb7 ⊢
        obtain ⟨b14, hb14⟩ : ∃ v, w6.heap.size = v := ⟨_, rfl⟩
        rw [hb14] at k14 ⊢
        clear hw7 hb14 hA6 hb6
        go_upto_region 17 with (go_at_call 13; (with_reducible refine (H13b.out _ hA7).mono ?_); rintro e w8 ⟨rfl, hb8⟩)
        have hA8 := hA7.keep hb8
        have k14 := (hb8.block _ (Array.getElem?_eq_some_iff.1 k14).1).trans k14
        have hb8 := hb7.trans (hb8.mono hb7.size)
        have hA9 : AAt (w8.alloc (.cells #[.int .i64 Y.ar, .int .i64 Y.ap, .int .i64 Y.k, .int .i64 Y.m, .int .i64 Y.n, .string Y.t] 39)) p N := (Below.heap_alloc w8 _ p hA8.lt).trans hA8
        have k15 := World.alloc_heap_new w8 (.cells #[.int .i64 Y.ar, .int .i64 Y.ap, .int .i64 Y.k, .int .i64 Y.m, .int .i64 Y.n, .string Y.t] 39)
        have k14 := (Below.heap_alloc w8 (.cells #[.int .i64 Y.ar, .int .i64 Y.ap, .int .i64 Y.k, .int .i64 Y.m, .int .i64 Y.n, .string Y.t] 39) _ (Array.getElem?_eq_some_iff.1 k14).1).trans k14
        have hb9 := hb8.alloc hb8.size (.cells #[.int .i64 Y.ar, .int .i64 Y.ap, .int .i64 Y.k, .int .i64 Y.m, .int .i64 Y.n, .string Y.t] 39)
        obtain ⟨w9, hw9⟩ : ∃ v, w8.alloc (.cells #[.int .i64 Y.ar, .int .i64 Y.ap, .int .i64 Y.k, .int .i64 Y.m, .int .i64 Y.n, .string Y.t] 39) = v := ⟨_, rfl⟩
        rw [hw9] at hA9 k14 k15 hb9 ⊢
        obtain ⟨b15, hb15⟩ : ∃ v, w8.heap.size = v := ⟨_, rfl⟩
        rw [hb15] at k15 ⊢
        clear hw9 hb15 hA7 hA8 hb7 hb8
        have k10 := (hb9.block _ (Array.getElem?_eq_some_iff.1 k10).1).trans k10
        have k11 := (hb9.block _ (Array.getElem?_eq_some_iff.1 k11).1).trans k11
        have HS9 : Hid (∀ W, Below w9.heap.size w9 W → ((W.cell? ⟨b10, 0, none⟩ = some (.int .i64 M.pr) ∧ W.cell? ⟨b10, 1, none⟩ = some (.int .i64 M.pp)) ∧ (W.cell? ⟨b11, 0, none⟩ = some (.int .i64 X.ar) ∧ W.cell? ⟨b11, 1, none⟩ = some (.int .i64 X.ap) ∧ W.cell? ⟨b11, 2, none⟩ = some (.int .i64 X.k) ∧ W.cell? ⟨b11, 3, none⟩ = some (.int .i64 X.m) ∧ W.cell? ⟨b11, 4, none⟩ = some (.int .i64 X.n) ∧ W.cell? ⟨b11, 5, none⟩ = some (.string X.t)) ∧ (W.cell? ⟨b14, 0, none⟩ = some (.int .i64 N.pr) ∧ W.cell? ⟨b14, 1, none⟩ = some (.int .i64 N.pp)) ∧ (W.cell? ⟨b15, 0, none⟩ = some (.int .i64 Y.ar) ∧ W.cell? ⟨b15, 1, none⟩ = some (.int .i64 Y.ap) ∧ W.cell? ⟨b15, 2, none⟩ = some (.int .i64 Y.k) ∧ W.cell? ⟨b15, 3, none⟩ = some (.int .i64 Y.m) ∧ W.cell? ⟨b15, 4, none⟩ = some (.int .i64 Y.n) ∧ W.cell? ⟨b15, 5, none⟩ = some (.string Y.t)) ∧ (W.cell? ⟨b, off + k * 7, none⟩ = some (.int .i64 y.x) ∧ W.cell? ⟨b, off + k * 7 + 1, none⟩ = some (.int .i64 y.r) ∧ W.cell? ⟨b, off + k * 7 + 2, none⟩ = some (.int .i64 y.q) ∧ W.cell? ⟨b, off + k * 7 + 3, none⟩ = some (.int .i64 y.k) ∧ W.cell? ⟨b, off + k * 7 + 4, none⟩ = some (.int .i64 y.m) ∧ W.cell? ⟨b, off + k * 7 + 5, none⟩ = some (.int .i64 y.n) ∧ W.cell? ⟨b, off + k * 7 + 6, none⟩ = some (.string y.t)))) := Lib.hid fun W hb =>
          have g : ∀ {q o}, w9.heap[q]? = some o → W.heap[q]? = some o := fun h => (hb.block _ (Array.getElem?_eq_some_iff.1 h).1).trans h
          ⟨(two (g k10)).1, (six (g k11)).1, (two (g k14)).1, (six (g k15)).1, HX5.out W (hb9.trans (hb.mono hb9.size))⟩
        have z9 := HS9.out _ (Below.refl _ w9)
        have HA9 := Lib.hid hA9
        have HBW := Lib.hid (hBW.trans (hb9.mono hBW.size))
        clear hA9 k10 k11 k14 k15 hb9 hBW hA5 hB5 HX4 HX5 HACT H12 H13 H13b l45 d10 d11
        cases had
        · cases has
          · cases ok
            · have hne36 : ∀ W, (binOp .neq 36 (.agg #[.int .i64 N.pr, .int .i64 N.pp]) (.agg #[.int .i64 M.pr, .int .i64 M.pp])).run Tryd.prog W = .ok (.bool false) W := fun W => by have h := K2.out rfl; rw [neq31, decide_eq_true ⟨h.2.1, h.2.2.1⟩]; rfl
              have hne39 : ∀ W, (binOp .neq 39 (.agg #[.int .i64 X.ar, .int .i64 X.ap, .int .i64 X.k, .int .i64 X.m, .int .i64 X.n, .string X.t]) (.agg #[.int .i64 Y.ar, .int .i64 Y.ap, .int .i64 Y.k, .int .i64 Y.m, .int .i64 Y.n, .string Y.t])).run Tryd.prog W = .ok (.bool false) W := fun W => by have h := K2.out rfl; rw [neq36, h.2.2.2, decide_eq_true ⟨rfl, rfl, rfl, rfl, rfl, rfl⟩]; rfl
              clear HL2a HL3a HL4a K1 K2
              have hS0 : (fun W => ((W.cell? ⟨b10, 0, none⟩ = some (.int .i64 M.pr) ∧ W.cell? ⟨b10, 1, none⟩ = some (.int .i64 M.pp)) ∧ (W.cell? ⟨b11, 0, none⟩ = some (.int .i64 X.ar) ∧ W.cell? ⟨b11, 1, none⟩ = some (.int .i64 X.ap) ∧ W.cell? ⟨b11, 2, none⟩ = some (.int .i64 X.k) ∧ W.cell? ⟨b11, 3, none⟩ = some (.int .i64 X.m) ∧ W.cell? ⟨b11, 4, none⟩ = some (.int .i64 X.n) ∧ W.cell? ⟨b11, 5, none⟩ = some (.string X.t)) ∧ (W.cell? ⟨b14, 0, none⟩ = some (.int .i64 N.pr) ∧ W.cell? ⟨b14, 1, none⟩ = some (.int .i64 N.pp)) ∧ (W.cell? ⟨b15, 0, none⟩ = some (.int .i64 Y.ar) ∧ W.cell? ⟨b15, 1, none⟩ = some (.int .i64 Y.ap) ∧ W.cell? ⟨b15, 2, none⟩ = some (.int .i64 Y.k) ∧ W.cell? ⟨b15, 3, none⟩ = some (.int .i64 Y.m) ∧ W.cell? ⟨b15, 4, none⟩ = some (.int .i64 Y.n) ∧ W.cell? ⟨b15, 5, none⟩ = some (.string Y.t)) ∧ (W.cell? ⟨b, off + k * 7, none⟩ = some (.int .i64 y.x) ∧ W.cell? ⟨b, off + k * 7 + 1, none⟩ = some (.int .i64 y.r) ∧ W.cell? ⟨b, off + k * 7 + 2, none⟩ = some (.int .i64 y.q) ∧ W.cell? ⟨b, off + k * 7 + 3, none⟩ = some (.int .i64 y.k) ∧ W.cell? ⟨b, off + k * 7 + 4, none⟩ = some (.int .i64 y.m) ∧ W.cell? ⟨b, off + k * 7 + 5, none⟩ = some (.int .i64 y.n) ∧ W.cell? ⟨b, off + k * 7 + 6, none⟩ = some (.string y.t)))) w9.drew := z9
              refine wp_region_held_drew (S := fun W => ((W.cell? ⟨b10, 0, none⟩ = some (.int .i64 M.pr) ∧ W.cell? ⟨b10, 1, none⟩ = some (.int .i64 M.pp)) ∧ (W.cell? ⟨b11, 0, none⟩ = some (.int .i64 X.ar) ∧ W.cell? ⟨b11, 1, none⟩ = some (.int .i64 X.ap) ∧ W.cell? ⟨b11, 2, none⟩ = some (.int .i64 X.k) ∧ W.cell? ⟨b11, 3, none⟩ = some (.int .i64 X.m) ∧ W.cell? ⟨b11, 4, none⟩ = some (.int .i64 X.n) ∧ W.cell? ⟨b11, 5, none⟩ = some (.string X.t)) ∧ (W.cell? ⟨b14, 0, none⟩ = some (.int .i64 N.pr) ∧ W.cell? ⟨b14, 1, none⟩ = some (.int .i64 N.pp)) ∧ (W.cell? ⟨b15, 0, none⟩ = some (.int .i64 Y.ar) ∧ W.cell? ⟨b15, 1, none⟩ = some (.int .i64 Y.ap) ∧ W.cell? ⟨b15, 2, none⟩ = some (.int .i64 Y.k) ∧ W.cell? ⟨b15, 3, none⟩ = some (.int .i64 Y.m) ∧ W.cell? ⟨b15, 4, none⟩ = some (.int .i64 Y.n) ∧ W.cell? ⟨b15, 5, none⟩ = some (.string Y.t)) ∧ (W.cell? ⟨b, off + k * 7, none⟩ = some (.int .i64 y.x) ∧ W.cell? ⟨b, off + k * 7 + 1, none⟩ = some (.int .i64 y.r) ∧ W.cell? ⟨b, off + k * 7 + 2, none⟩ = some (.int .i64 y.q) ∧ W.cell? ⟨b, off + k * 7 + 3, none⟩ = some (.int .i64 y.k) ∧ W.cell? ⟨b, off + k * 7 + 4, none⟩ = some (.int .i64 y.m) ∧ W.cell? ⟨b, off + k * 7 + 5, none⟩ = some (.int .i64 y.n) ∧ W.cell? ⟨b, off + k * 7 + 6, none⟩ = some (.string y.t)))) rfl hS0 (fun hHeld => ?_)
              simp only [List.size_toArray, List.length_cons, List.length_nil, Nat.reduceAdd]
              have HB0 : Hid (Below w9.heap.size w9 w9.drew) := Lib.hid (Below.refl _ _).drew
              obtain ⟨V0, hV0⟩ : ∃ V, w9.drew = V := ⟨_, rfl⟩
              rw [hV0] at hHeld hS0 HB0 ⊢
              clear hV0
              refine wpAnyH_take (i := 0) (v := .agg #[.int .i64 N.pr, .int .i64 N.pp]) rfl (by kernel_rfl) (by kernel_rfl) (by kernel_rfl) (fun _ _ _ h => h) (Or.inl ⟨by rfl, ?_⟩) (by assumption) ?_
              · intro wx hs1; obtain ⟨⟨s0, s1⟩, ⟨p0, p1, p2, p3, p4, p5⟩, ⟨t0, t1⟩, ⟨q0, q1, q2, q3, q4, q5⟩, ⟨x0, x1, x2, x3, x4, x5, x6⟩⟩ := hs1; go_simp
              (try simp only [Act.put, List.getElem_toArray, List.getElem_cons_zero, List.setIfInBounds_toArray, List.set_cons_zero, List.set_cons_succ])
              refine wpAnyH_take (i := 1) (v := .agg #[.int .i64 M.pr, .int .i64 M.pp]) rfl (by kernel_rfl) (by kernel_rfl) (by kernel_rfl) (fun _ _ _ h => h) (Or.inl ⟨by rfl, ?_⟩) (by assumption) ?_
              · intro wx hs1; obtain ⟨⟨s0, s1⟩, ⟨p0, p1, p2, p3, p4, p5⟩, ⟨t0, t1⟩, ⟨q0, q1, q2, q3, q4, q5⟩, ⟨x0, x1, x2, x3, x4, x5, x6⟩⟩ := hs1; go_simp
              (try simp only [Act.put, List.getElem_toArray, List.getElem_cons_succ, List.getElem_cons_zero, List.setIfInBounds_toArray, List.set_cons_zero, List.set_cons_succ])
              refine wpAnyH_ready (rs := [2]) (by kernel_rfl) (by simp) (AllReadyH.cons rfl (fun K hK => ?_) AllReadyH.nil)
              go_simp
              go_at_call 16
              (with_reducible refine (HL1.out _).mono ?_)
              rintro e v1 ⟨rfl, hb⟩
              try dsimp only
              have HC1 : Hid (Below w9.heap.size w9 v1) := Lib.hid (HB0.out.trans (hb.mono HB0.out.size)); clear hb; have hS := HS9.out _ HC1.out
              refine hK.out _ _ hS (fun _ => ?_)
              clear hK K
              (try simp only [Act.put, List.getElem_toArray, List.getElem_cons_succ, List.getElem_cons_zero, List.setIfInBounds_toArray, List.set_cons_zero, List.set_cons_succ])
              refine wpAnyH_take (i := 3) (v := .bool false) rfl (by kernel_rfl) (by kernel_rfl) (by kernel_rfl) (fun _ _ _ h => h) (Or.inl ⟨by rfl, ?_⟩) (by assumption) ?_
              · intro wx hs1; go_simp
              (try simp only [Act.put, List.getElem_toArray, List.getElem_cons_succ, List.getElem_cons_zero, List.setIfInBounds_toArray, List.set_cons_zero, List.set_cons_succ])
              refine wpAnyH_take (i := 4) (v := .bool false) rfl (by kernel_rfl) (by kernel_rfl) (by kernel_rfl) (fun _ _ _ h => h) (Or.inl ⟨by rfl, ?_⟩) (by assumption) ?_
              · intro wx hs1; go_simp
              (try simp only [Act.put, List.getElem_toArray, List.getElem_cons_succ, List.getElem_cons_zero, List.setIfInBounds_toArray, List.set_cons_zero, List.set_cons_succ])
              refine wpAnyH_take (i := 5) (v := .bool false) rfl (by kernel_rfl) (by kernel_rfl) (by kernel_rfl) (fun _ _ _ h => h) (Or.inl ⟨by rfl, ?_⟩) (by assumption) ?_
              · intro wx hs1; go_simp
              (try simp only [Act.put, List.getElem_toArray, List.getElem_cons_succ, List.getElem_cons_zero, List.setIfInBounds_toArray, List.set_cons_zero, List.set_cons_succ])
              refine wpAnyH_take (i := 6) (v := undef) rfl (by kernel_rfl) (by kernel_rfl) (by kernel_rfl) (fun _ _ _ h => h) (Or.inr ⟨by rfl, rfl⟩) (by assumption) ?_
              (try simp only [Act.put, List.getElem_toArray, List.getElem_cons_succ, List.getElem_cons_zero, List.setIfInBounds_toArray, List.set_cons_zero, List.set_cons_succ])
              refine wpAnyH_take (i := 7) (v := undef) rfl (by kernel_rfl) (by kernel_rfl) (by kernel_rfl) (fun _ _ _ h => h) (Or.inr ⟨by rfl, rfl⟩) (by assumption) ?_
              (try simp only [Act.put, List.getElem_toArray, List.getElem_cons_succ, List.getElem_cons_zero, List.setIfInBounds_toArray, List.set_cons_zero, List.set_cons_succ])
              refine wpAnyH_take (i := 8) (v := undef) rfl (by kernel_rfl) (by kernel_rfl) (by kernel_rfl) (fun _ _ _ h => h) (Or.inr ⟨by rfl, rfl⟩) (by assumption) ?_
              (try simp only [Act.put, List.getElem_toArray, List.getElem_cons_succ, List.getElem_cons_zero, List.setIfInBounds_toArray, List.set_cons_zero, List.set_cons_succ])
              refine wpAnyH_take (i := 9) (v := undef) rfl (by kernel_rfl) (by kernel_rfl) (by kernel_rfl) (fun _ _ _ h => h) (Or.inr ⟨by rfl, rfl⟩) (by assumption) ?_
              (try simp only [Act.put, List.getElem_toArray, List.getElem_cons_succ, List.getElem_cons_zero, List.setIfInBounds_toArray, List.set_cons_zero, List.set_cons_succ])
              refine wpAnyH_take (i := 10) (v := undef) rfl (by kernel_rfl) (by kernel_rfl) (by kernel_rfl) (fun _ _ _ h => h) (Or.inr ⟨by rfl, rfl⟩) (by assumption) ?_
              (try simp only [Act.put, List.getElem_toArray, List.getElem_cons_succ, List.getElem_cons_zero, List.setIfInBounds_toArray, List.set_cons_zero, List.set_cons_succ])
              refine wpAnyH_take (i := 11) (v := undef) rfl (by kernel_rfl) (by kernel_rfl) (by kernel_rfl) (fun _ _ _ h => h) (Or.inr ⟨by rfl, rfl⟩) (by assumption) ?_
              (try simp only [Act.put, List.getElem_toArray, List.getElem_cons_succ, List.getElem_cons_zero, List.setIfInBounds_toArray, List.set_cons_zero, List.set_cons_succ])
              refine wpAnyH_take (i := 12) (v := undef) rfl (by kernel_rfl) (by kernel_rfl) (by kernel_rfl) (fun _ _ _ h => h) (Or.inr ⟨by rfl, rfl⟩) (by assumption) ?_
              (try simp only [Act.put, List.getElem_toArray, List.getElem_cons_succ, List.getElem_cons_zero, List.setIfInBounds_toArray, List.set_cons_zero, List.set_cons_succ])
              refine wpAnyH_take (i := 13) (v := undef) rfl (by kernel_rfl) (by kernel_rfl) (by kernel_rfl) (fun _ _ _ h => h) (Or.inr ⟨by rfl, rfl⟩) (by assumption) ?_
              (try simp only [Act.put, List.getElem_toArray, List.getElem_cons_succ, List.getElem_cons_zero, List.setIfInBounds_toArray, List.set_cons_zero, List.set_cons_succ])
              refine wpAnyH_take (i := 14) (v := undef) rfl (by kernel_rfl) (by kernel_rfl) (by kernel_rfl) (fun _ _ _ h => h) (Or.inr ⟨by rfl, rfl⟩) (by assumption) ?_
              (try simp only [Act.put, List.getElem_toArray, List.getElem_cons_succ, List.getElem_cons_zero, List.setIfInBounds_toArray, List.set_cons_zero, List.set_cons_succ])
              refine wpAnyH_take (i := 15) (v := .bool false) rfl (by kernel_rfl) (by kernel_rfl) (by kernel_rfl) (fun _ _ _ h => h) (Or.inl ⟨by rfl, ?_⟩) (by assumption) ?_
              · intro wx hs1; go_simp
              (try simp only [Act.put, List.getElem_toArray, List.getElem_cons_succ, List.getElem_cons_zero, List.setIfInBounds_toArray, List.set_cons_zero, List.set_cons_succ])
              refine wpAnyH_take (i := 16) (v := .bool false) rfl (by kernel_rfl) (by kernel_rfl) (by kernel_rfl) (fun _ _ _ h => h) (Or.inl ⟨by rfl, ?_⟩) (by assumption) ?_
              · intro wx hs1; go_simp
              (try simp only [Act.put, List.getElem_toArray, List.getElem_cons_succ, List.getElem_cons_zero, List.setIfInBounds_toArray, List.set_cons_zero, List.set_cons_succ])
              refine wpAnyH_take (i := 17) (v := .bool false) rfl (by kernel_rfl) (by kernel_rfl) (by kernel_rfl) (fun _ _ _ h => h) (Or.inl ⟨by rfl, ?_⟩) (by assumption) ?_
              · intro wx hs1; go_simp
              (try simp only [Act.put, List.getElem_toArray, List.getElem_cons_succ, List.getElem_cons_zero, List.setIfInBounds_toArray, List.set_cons_zero, List.set_cons_succ])
              refine wpAnyH_take (i := 18) (v := .bool false) rfl (by kernel_rfl) (by kernel_rfl) (by kernel_rfl) (fun _ _ _ h => h) (Or.inl ⟨by rfl, ?_⟩) (by assumption) ?_
              · intro wx hs1; go_simp
              (try simp only [Act.put, List.getElem_toArray, List.getElem_cons_succ, List.getElem_cons_zero, List.setIfInBounds_toArray, List.set_cons_zero, List.set_cons_succ])
              refine wpAnyH_take (i := 19) (v := .bool false) rfl (by kernel_rfl) (by kernel_rfl) (by kernel_rfl) (fun _ _ _ h => h) (Or.inl ⟨by rfl, ?_⟩) (by assumption) ?_
              · intro wx hs1; go_simp
              (try simp only [Act.put, List.getElem_toArray, List.getElem_cons_succ, List.getElem_cons_zero, List.setIfInBounds_toArray, List.set_cons_zero, List.set_cons_succ])
              refine wpAnyH_take (i := 20) (v := undef) rfl (by kernel_rfl) (by kernel_rfl) (by kernel_rfl) (fun _ _ _ h => h) (Or.inr ⟨by rfl, rfl⟩) (by assumption) ?_
              (try simp only [Act.put, List.getElem_toArray, List.getElem_cons_succ, List.getElem_cons_zero, List.setIfInBounds_toArray, List.set_cons_zero, List.set_cons_succ])
              refine wpAnyH_take (i := 21) (v := undef) rfl (by kernel_rfl) (by kernel_rfl) (by kernel_rfl) (fun _ _ _ h => h) (Or.inr ⟨by rfl, rfl⟩) (by assumption) ?_
              (try simp only [Act.put, List.getElem_toArray, List.getElem_cons_succ, List.getElem_cons_zero, List.setIfInBounds_toArray, List.set_cons_zero, List.set_cons_succ])
              refine wpAnyH_take (i := 22) (v := undef) rfl (by kernel_rfl) (by kernel_rfl) (by kernel_rfl) (fun _ _ _ h => h) (Or.inr ⟨by rfl, rfl⟩) (by assumption) ?_
              (try simp only [Act.put, List.getElem_toArray, List.getElem_cons_succ, List.getElem_cons_zero, List.setIfInBounds_toArray, List.set_cons_zero, List.set_cons_succ])
              refine wpAnyH_take (i := 23) (v := undef) rfl (by kernel_rfl) (by kernel_rfl) (by kernel_rfl) (fun _ _ _ h => h) (Or.inr ⟨by rfl, rfl⟩) (by assumption) ?_
              (try simp only [Act.put, List.getElem_toArray, List.getElem_cons_succ, List.getElem_cons_zero, List.setIfInBounds_toArray, List.set_cons_zero, List.set_cons_succ])
              refine wpAnyH_take (i := 24) (v := .bool false) rfl (by kernel_rfl) (by kernel_rfl) (by kernel_rfl) (fun _ _ _ h => h) (Or.inl ⟨by rfl, ?_⟩) (by assumption) ?_
              · intro wx hs1; go_simp
              (try simp only [Act.put, List.getElem_toArray, List.getElem_cons_succ, List.getElem_cons_zero, List.setIfInBounds_toArray, List.set_cons_zero, List.set_cons_succ])
              refine wpAnyH_take (i := 25) (v := .bool false) rfl (by kernel_rfl) (by kernel_rfl) (by kernel_rfl) (fun _ _ _ h => h) (Or.inl ⟨by rfl, ?_⟩) (by assumption) ?_
              · intro wx hs1; go_simp
              (try simp only [Act.put, List.getElem_toArray, List.getElem_cons_succ, List.getElem_cons_zero, List.setIfInBounds_toArray, List.set_cons_zero, List.set_cons_succ])
              refine wpAnyH_take (i := 26) (v := .bool false) rfl (by kernel_rfl) (by kernel_rfl) (by kernel_rfl) (fun _ _ _ h => h) (Or.inl ⟨by rfl, ?_⟩) (by assumption) ?_
              · intro wx hs1; go_simp
              (try simp only [Act.put, List.getElem_toArray, List.getElem_cons_succ, List.getElem_cons_zero, List.setIfInBounds_toArray, List.set_cons_zero, List.set_cons_succ])
              refine wpAnyH_take (i := 27) (v := .bool false) rfl (by kernel_rfl) (by kernel_rfl) (by kernel_rfl) (fun _ _ _ h => h) (Or.inl ⟨by rfl, ?_⟩) (by assumption) ?_
              · intro wx hs1; go_simp
              (try simp only [Act.put, List.getElem_toArray, List.getElem_cons_succ, List.getElem_cons_zero, List.setIfInBounds_toArray, List.set_cons_zero, List.set_cons_succ])
              refine wpAnyH_take (i := 28) (v := .bool false) rfl (by kernel_rfl) (by kernel_rfl) (by kernel_rfl) (fun _ _ _ h => h) (Or.inl ⟨by rfl, ?_⟩) (by assumption) ?_
              · intro wx hs1; go_simp
              (try simp only [Act.put, List.getElem_toArray, List.getElem_cons_succ, List.getElem_cons_zero, List.setIfInBounds_toArray, List.set_cons_zero, List.set_cons_succ])
              refine wpAnyH_take (i := 29) (v := undef) rfl (by kernel_rfl) (by kernel_rfl) (by kernel_rfl) (fun _ _ _ h => h) (Or.inr ⟨by rfl, rfl⟩) (by assumption) ?_
              (try simp only [Act.put, List.getElem_toArray, List.getElem_cons_succ, List.getElem_cons_zero, List.setIfInBounds_toArray, List.set_cons_zero, List.set_cons_succ])
              refine wpAnyH_take (i := 30) (v := undef) rfl (by kernel_rfl) (by kernel_rfl) (by kernel_rfl) (fun _ _ _ h => h) (Or.inr ⟨by rfl, rfl⟩) (by assumption) ?_
              (try simp only [Act.put, List.getElem_toArray, List.getElem_cons_succ, List.getElem_cons_zero, List.setIfInBounds_toArray, List.set_cons_zero, List.set_cons_succ])
              refine wpAnyH_take (i := 31) (v := undef) rfl (by kernel_rfl) (by kernel_rfl) (by kernel_rfl) (fun _ _ _ h => h) (Or.inr ⟨by rfl, rfl⟩) (by assumption) ?_
              (try simp only [Act.put, List.getElem_toArray, List.getElem_cons_succ, List.getElem_cons_zero, List.setIfInBounds_toArray, List.set_cons_zero, List.set_cons_succ])
              refine wpAnyH_take (i := 32) (v := undef) rfl (by kernel_rfl) (by kernel_rfl) (by kernel_rfl) (fun _ _ _ h => h) (Or.inr ⟨by rfl, rfl⟩) (by assumption) ?_
              (try simp only [Act.put, List.getElem_toArray, List.getElem_cons_succ, List.getElem_cons_zero, List.setIfInBounds_toArray, List.set_cons_zero, List.set_cons_succ])
              refine wpAnyH_take (i := 33) (v := undef) rfl (by kernel_rfl) (by kernel_rfl) (by kernel_rfl) (fun _ _ _ h => h) (Or.inr ⟨by rfl, rfl⟩) (by assumption) ?_
              (try simp only [Act.put, List.getElem_toArray, List.getElem_cons_succ, List.getElem_cons_zero, List.setIfInBounds_toArray, List.set_cons_zero, List.set_cons_succ])
              refine wpAnyH_take (i := 34) (v := undef) rfl (by kernel_rfl) (by kernel_rfl) (by kernel_rfl) (fun _ _ _ h => h) (Or.inr ⟨by rfl, rfl⟩) (by assumption) ?_
              (try simp only [Act.put, List.getElem_toArray, List.getElem_cons_succ, List.getElem_cons_zero, List.setIfInBounds_toArray, List.set_cons_zero, List.set_cons_succ])
              refine wpAnyH_take (i := 35) (v := undef) rfl (by kernel_rfl) (by kernel_rfl) (by kernel_rfl) (fun _ _ _ h => h) (Or.inr ⟨by rfl, rfl⟩) (by assumption) ?_
              (try simp only [Act.put, List.getElem_toArray, List.getElem_cons_succ, List.getElem_cons_zero, List.setIfInBounds_toArray, List.set_cons_zero, List.set_cons_succ])
              refine wpAnyH_take (i := 36) (v := .bool false) rfl (by kernel_rfl) (by kernel_rfl) (by kernel_rfl) (fun _ _ _ h => h) (Or.inl ⟨by rfl, ?_⟩) (by assumption) ?_
              · intro wx hs1; go_simp
              (try simp only [Act.put, List.getElem_toArray, List.getElem_cons_succ, List.getElem_cons_zero, List.setIfInBounds_toArray, List.set_cons_zero, List.set_cons_succ])
              refine wpAnyH_take (i := 37) (v := .bool false) rfl (by kernel_rfl) (by kernel_rfl) (by kernel_rfl) (fun _ _ _ h => h) (Or.inl ⟨by rfl, ?_⟩) (by assumption) ?_
              · intro wx hs1; go_simp
              (try simp only [Act.put, List.getElem_toArray, List.getElem_cons_succ, List.getElem_cons_zero, List.setIfInBounds_toArray, List.set_cons_zero, List.set_cons_succ])
              refine wpAnyH_take (i := 38) (v := .bool false) rfl (by kernel_rfl) (by kernel_rfl) (by kernel_rfl) (fun _ _ _ h => h) (Or.inl ⟨by rfl, ?_⟩) (by assumption) ?_
              · intro wx hs1; go_simp
              (try simp only [Act.put, List.getElem_toArray, List.getElem_cons_succ, List.getElem_cons_zero, List.setIfInBounds_toArray, List.set_cons_zero, List.set_cons_succ])
              refine wpAnyH_take (i := 39) (v := .bool false) rfl (by kernel_rfl) (by kernel_rfl) (by kernel_rfl) (fun _ _ _ h => h) (Or.inl ⟨by rfl, ?_⟩) (by assumption) ?_
              · intro wx hs1; go_simp
              (try simp only [Act.put, List.getElem_toArray, List.getElem_cons_succ, List.getElem_cons_zero, List.setIfInBounds_toArray, List.set_cons_zero, List.set_cons_succ])
              refine wpAnyH_take (i := 40) (v := .bool true) rfl (by kernel_rfl) (by kernel_rfl) (by kernel_rfl) (fun _ _ _ h => h) (Or.inl ⟨by rfl, ?_⟩) (by assumption) ?_
              · intro wx hs1; go_simp
              (try simp only [Act.put, List.getElem_toArray, List.getElem_cons_succ, List.getElem_cons_zero, List.setIfInBounds_toArray, List.set_cons_zero, List.set_cons_succ])
              refine wpAnyH_take (i := 41) (v := .bool true) rfl (by kernel_rfl) (by kernel_rfl) (by kernel_rfl) (fun _ _ _ h => h) (Or.inl ⟨by rfl, ?_⟩) (by assumption) ?_
              · intro wx hs1; go_simp
              (try simp only [Act.put, List.getElem_toArray, List.getElem_cons_succ, List.getElem_cons_zero, List.setIfInBounds_toArray, List.set_cons_zero, List.set_cons_succ])
              refine wpAnyH_take (i := 42) (v := .agg #[.int .i64 N.pr, .int .i64 N.pp]) rfl (by kernel_rfl) (by kernel_rfl) (by kernel_rfl) (fun _ _ _ h => h) (Or.inl ⟨by rfl, ?_⟩) (by assumption) ?_
              · intro wx hs1; obtain ⟨⟨s0, s1⟩, ⟨p0, p1, p2, p3, p4, p5⟩, ⟨t0, t1⟩, ⟨q0, q1, q2, q3, q4, q5⟩, ⟨x0, x1, x2, x3, x4, x5, x6⟩⟩ := hs1; go_simp
              (try simp only [Act.put, List.getElem_toArray, List.getElem_cons_succ, List.getElem_cons_zero, List.setIfInBounds_toArray, List.set_cons_zero, List.set_cons_succ])
              refine wpAnyH_take (i := 43) (v := .agg #[.int .i64 M.pr, .int .i64 M.pp]) rfl (by kernel_rfl) (by kernel_rfl) (by kernel_rfl) (fun _ _ _ h => h) (Or.inl ⟨by rfl, ?_⟩) (by assumption) ?_
              · intro wx hs1; obtain ⟨⟨s0, s1⟩, ⟨p0, p1, p2, p3, p4, p5⟩, ⟨t0, t1⟩, ⟨q0, q1, q2, q3, q4, q5⟩, ⟨x0, x1, x2, x3, x4, x5, x6⟩⟩ := hs1; go_simp
              (try simp only [Act.put, List.getElem_toArray, List.getElem_cons_succ, List.getElem_cons_zero, List.setIfInBounds_toArray, List.set_cons_zero, List.set_cons_succ])
              refine wpAnyH_take (i := 44) (v := .bool false) rfl (by kernel_rfl) (by kernel_rfl) (by kernel_rfl) (fun _ _ _ h => h) (Or.inl ⟨by rfl, ?_⟩) (by assumption) ?_
              · intro wx hs1; clear hs1; have e3 := hne36 wx; go_simp
              (try simp only [Act.put, List.getElem_toArray, List.getElem_cons_succ, List.getElem_cons_zero, List.setIfInBounds_toArray, List.set_cons_zero, List.set_cons_succ])
              refine wpAnyH_take (i := 45) (v := .bool false) rfl (by kernel_rfl) (by kernel_rfl) (by kernel_rfl) (fun _ _ _ h => h) (Or.inl ⟨by rfl, ?_⟩) (by assumption) ?_
              · intro wx hs1; go_simp
              (try simp only [Act.put, List.getElem_toArray, List.getElem_cons_succ, List.getElem_cons_zero, List.setIfInBounds_toArray, List.set_cons_zero, List.set_cons_succ])
              refine wpAnyH_take (i := 46) (v := .agg #[.int .i64 X.ar, .int .i64 X.ap, .int .i64 X.k, .int .i64 X.m, .int .i64 X.n, .string X.t]) rfl (by kernel_rfl) (by kernel_rfl) (by kernel_rfl) (fun _ _ _ h => h) (Or.inl ⟨by rfl, ?_⟩) (by assumption) ?_
              · intro wx hs1; obtain ⟨⟨s0, s1⟩, ⟨p0, p1, p2, p3, p4, p5⟩, ⟨t0, t1⟩, ⟨q0, q1, q2, q3, q4, q5⟩, ⟨x0, x1, x2, x3, x4, x5, x6⟩⟩ := hs1; go_simp
              (try simp only [Act.put, List.getElem_toArray, List.getElem_cons_succ, List.getElem_cons_zero, List.setIfInBounds_toArray, List.set_cons_zero, List.set_cons_succ])
              refine wpAnyH_take (i := 47) (v := .agg #[.int .i64 Y.ar, .int .i64 Y.ap, .int .i64 Y.k, .int .i64 Y.m, .int .i64 Y.n, .string Y.t]) rfl (by kernel_rfl) (by kernel_rfl) (by kernel_rfl) (fun _ _ _ h => h) (Or.inl ⟨by rfl, ?_⟩) (by assumption) ?_
              · intro wx hs1; obtain ⟨⟨s0, s1⟩, ⟨p0, p1, p2, p3, p4, p5⟩, ⟨t0, t1⟩, ⟨q0, q1, q2, q3, q4, q5⟩, ⟨x0, x1, x2, x3, x4, x5, x6⟩⟩ := hs1; go_simp
              (try simp only [Act.put, List.getElem_toArray, List.getElem_cons_succ, List.getElem_cons_zero, List.setIfInBounds_toArray, List.set_cons_zero, List.set_cons_succ])
              refine wpAnyH_take (i := 48) (v := .bool false) rfl (by kernel_rfl) (by kernel_rfl) (by kernel_rfl) (fun _ _ _ h => h) (Or.inl ⟨by rfl, ?_⟩) (by assumption) ?_
              · intro wx hs1; clear hs1; have e3 := hne39 wx; go_simp
              (try simp only [Act.put, List.getElem_toArray, List.getElem_cons_succ, List.getElem_cons_zero, List.setIfInBounds_toArray, List.set_cons_zero, List.set_cons_succ])
              refine wpAnyH_take (i := 49) (v := .bool false) rfl (by kernel_rfl) (by kernel_rfl) (by kernel_rfl) (fun _ _ _ h => h) (Or.inl ⟨by rfl, ?_⟩) (by assumption) ?_
              · intro wx hs1; go_simp
              (try simp only [Act.put, List.getElem_toArray, List.getElem_cons_succ, List.getElem_cons_zero, List.setIfInBounds_toArray, List.set_cons_zero, List.set_cons_succ])
              refine wpAnyH_take (i := 50) (v := .bool false) rfl (by kernel_rfl) (by kernel_rfl) (by kernel_rfl) (fun _ _ _ h => h) (Or.inl ⟨by rfl, ?_⟩) (by assumption) ?_
              · intro wx hs1; go_simp
              (try simp only [Act.put, List.getElem_toArray, List.getElem_cons_succ, List.getElem_cons_zero, List.setIfInBounds_toArray, List.set_cons_zero, List.set_cons_succ])
              refine wpAnyH_take (i := 51) (v := .bool false) rfl (by kernel_rfl) (by kernel_rfl) (by kernel_rfl) (fun _ _ _ h => h) (Or.inl ⟨by rfl, ?_⟩) (by assumption) ?_
              · intro wx hs1; go_simp
              (try simp only [Act.put, List.getElem_toArray, List.getElem_cons_succ, List.getElem_cons_zero, List.setIfInBounds_toArray, List.set_cons_zero, List.set_cons_succ])
              refine wpAnyH_done (by kernel_rfl) ?_ _
              go_wp2_with fail
              go_roundw
              case rel => exact ⟨k + 1, by omega, by go_num, Lib.hid (by rw [HST.out]; exact ⟨AAt.keep HA9.out HC1.out, HBW.out.trans (HC1.out.mono HBW.out.size)⟩)⟩
              case measure => simp [RowKit.intOf]; omega
            · have HL4 := Lib.hid (HL4a.out rfl)
              clear HL2a HL3a HL4a K1 K2
              have hS0 : (fun W => ((W.cell? ⟨b10, 0, none⟩ = some (.int .i64 M.pr) ∧ W.cell? ⟨b10, 1, none⟩ = some (.int .i64 M.pp)) ∧ (W.cell? ⟨b11, 0, none⟩ = some (.int .i64 X.ar) ∧ W.cell? ⟨b11, 1, none⟩ = some (.int .i64 X.ap) ∧ W.cell? ⟨b11, 2, none⟩ = some (.int .i64 X.k) ∧ W.cell? ⟨b11, 3, none⟩ = some (.int .i64 X.m) ∧ W.cell? ⟨b11, 4, none⟩ = some (.int .i64 X.n) ∧ W.cell? ⟨b11, 5, none⟩ = some (.string X.t)) ∧ (W.cell? ⟨b14, 0, none⟩ = some (.int .i64 N.pr) ∧ W.cell? ⟨b14, 1, none⟩ = some (.int .i64 N.pp)) ∧ (W.cell? ⟨b15, 0, none⟩ = some (.int .i64 Y.ar) ∧ W.cell? ⟨b15, 1, none⟩ = some (.int .i64 Y.ap) ∧ W.cell? ⟨b15, 2, none⟩ = some (.int .i64 Y.k) ∧ W.cell? ⟨b15, 3, none⟩ = some (.int .i64 Y.m) ∧ W.cell? ⟨b15, 4, none⟩ = some (.int .i64 Y.n) ∧ W.cell? ⟨b15, 5, none⟩ = some (.string Y.t)) ∧ (W.cell? ⟨b, off + k * 7, none⟩ = some (.int .i64 y.x) ∧ W.cell? ⟨b, off + k * 7 + 1, none⟩ = some (.int .i64 y.r) ∧ W.cell? ⟨b, off + k * 7 + 2, none⟩ = some (.int .i64 y.q) ∧ W.cell? ⟨b, off + k * 7 + 3, none⟩ = some (.int .i64 y.k) ∧ W.cell? ⟨b, off + k * 7 + 4, none⟩ = some (.int .i64 y.m) ∧ W.cell? ⟨b, off + k * 7 + 5, none⟩ = some (.int .i64 y.n) ∧ W.cell? ⟨b, off + k * 7 + 6, none⟩ = some (.string y.t)))) w9.drew := z9
              refine wp_region_held_drew (S := fun W => ((W.cell? ⟨b10, 0, none⟩ = some (.int .i64 M.pr) ∧ W.cell? ⟨b10, 1, none⟩ = some (.int .i64 M.pp)) ∧ (W.cell? ⟨b11, 0, none⟩ = some (.int .i64 X.ar) ∧ W.cell? ⟨b11, 1, none⟩ = some (.int .i64 X.ap) ∧ W.cell? ⟨b11, 2, none⟩ = some (.int .i64 X.k) ∧ W.cell? ⟨b11, 3, none⟩ = some (.int .i64 X.m) ∧ W.cell? ⟨b11, 4, none⟩ = some (.int .i64 X.n) ∧ W.cell? ⟨b11, 5, none⟩ = some (.string X.t)) ∧ (W.cell? ⟨b14, 0, none⟩ = some (.int .i64 N.pr) ∧ W.cell? ⟨b14, 1, none⟩ = some (.int .i64 N.pp)) ∧ (W.cell? ⟨b15, 0, none⟩ = some (.int .i64 Y.ar) ∧ W.cell? ⟨b15, 1, none⟩ = some (.int .i64 Y.ap) ∧ W.cell? ⟨b15, 2, none⟩ = some (.int .i64 Y.k) ∧ W.cell? ⟨b15, 3, none⟩ = some (.int .i64 Y.m) ∧ W.cell? ⟨b15, 4, none⟩ = some (.int .i64 Y.n) ∧ W.cell? ⟨b15, 5, none⟩ = some (.string Y.t)) ∧ (W.cell? ⟨b, off + k * 7, none⟩ = some (.int .i64 y.x) ∧ W.cell? ⟨b, off + k * 7 + 1, none⟩ = some (.int .i64 y.r) ∧ W.cell? ⟨b, off + k * 7 + 2, none⟩ = some (.int .i64 y.q) ∧ W.cell? ⟨b, off + k * 7 + 3, none⟩ = some (.int .i64 y.k) ∧ W.cell? ⟨b, off + k * 7 + 4, none⟩ = some (.int .i64 y.m) ∧ W.cell? ⟨b, off + k * 7 + 5, none⟩ = some (.int .i64 y.n) ∧ W.cell? ⟨b, off + k * 7 + 6, none⟩ = some (.string y.t)))) rfl hS0 (fun hHeld => ?_)
              simp only [List.size_toArray, List.length_cons, List.length_nil, Nat.reduceAdd]
              have HB0 : Hid (Below w9.heap.size w9 w9.drew) := Lib.hid (Below.refl _ _).drew
              obtain ⟨V0, hV0⟩ : ∃ V, w9.drew = V := ⟨_, rfl⟩
              rw [hV0] at hHeld hS0 HB0 ⊢
              clear hV0
              refine wpAnyH_take (i := 0) (v := .agg #[.int .i64 N.pr, .int .i64 N.pp]) rfl (by kernel_rfl) (by kernel_rfl) (by kernel_rfl) (fun _ _ _ h => h) (Or.inl ⟨by rfl, ?_⟩) (by assumption) ?_
              · intro wx hs1; obtain ⟨⟨s0, s1⟩, ⟨p0, p1, p2, p3, p4, p5⟩, ⟨t0, t1⟩, ⟨q0, q1, q2, q3, q4, q5⟩, ⟨x0, x1, x2, x3, x4, x5, x6⟩⟩ := hs1; go_simp
              (try simp only [Act.put, List.getElem_toArray, List.getElem_cons_zero, List.setIfInBounds_toArray, List.set_cons_zero, List.set_cons_succ])
              refine wpAnyH_take (i := 1) (v := .agg #[.int .i64 M.pr, .int .i64 M.pp]) rfl (by kernel_rfl) (by kernel_rfl) (by kernel_rfl) (fun _ _ _ h => h) (Or.inl ⟨by rfl, ?_⟩) (by assumption) ?_
              · intro wx hs1; obtain ⟨⟨s0, s1⟩, ⟨p0, p1, p2, p3, p4, p5⟩, ⟨t0, t1⟩, ⟨q0, q1, q2, q3, q4, q5⟩, ⟨x0, x1, x2, x3, x4, x5, x6⟩⟩ := hs1; go_simp
              (try simp only [Act.put, List.getElem_toArray, List.getElem_cons_succ, List.getElem_cons_zero, List.setIfInBounds_toArray, List.set_cons_zero, List.set_cons_succ])
              refine wpAnyH_ready (rs := [2]) (by kernel_rfl) (by simp) (AllReadyH.cons rfl (fun K hK => ?_) AllReadyH.nil)
              go_simp
              go_at_call 16
              (with_reducible refine (HL1.out _).mono ?_)
              rintro e v1 ⟨rfl, hb⟩
              try dsimp only
              have HC1 : Hid (Below w9.heap.size w9 v1) := Lib.hid (HB0.out.trans (hb.mono HB0.out.size)); clear hb; have hS := HS9.out _ HC1.out
              refine hK.out _ _ hS (fun _ => ?_)
              clear hK K
              (try simp only [Act.put, List.getElem_toArray, List.getElem_cons_succ, List.getElem_cons_zero, List.setIfInBounds_toArray, List.set_cons_zero, List.set_cons_succ])
              refine wpAnyH_take (i := 3) (v := .bool false) rfl (by kernel_rfl) (by kernel_rfl) (by kernel_rfl) (fun _ _ _ h => h) (Or.inl ⟨by rfl, ?_⟩) (by assumption) ?_
              · intro wx hs1; go_simp
              (try simp only [Act.put, List.getElem_toArray, List.getElem_cons_succ, List.getElem_cons_zero, List.setIfInBounds_toArray, List.set_cons_zero, List.set_cons_succ])
              refine wpAnyH_take (i := 4) (v := .bool false) rfl (by kernel_rfl) (by kernel_rfl) (by kernel_rfl) (fun _ _ _ h => h) (Or.inl ⟨by rfl, ?_⟩) (by assumption) ?_
              · intro wx hs1; go_simp
              (try simp only [Act.put, List.getElem_toArray, List.getElem_cons_succ, List.getElem_cons_zero, List.setIfInBounds_toArray, List.set_cons_zero, List.set_cons_succ])
              refine wpAnyH_take (i := 5) (v := .bool false) rfl (by kernel_rfl) (by kernel_rfl) (by kernel_rfl) (fun _ _ _ h => h) (Or.inl ⟨by rfl, ?_⟩) (by assumption) ?_
              · intro wx hs1; go_simp
              (try simp only [Act.put, List.getElem_toArray, List.getElem_cons_succ, List.getElem_cons_zero, List.setIfInBounds_toArray, List.set_cons_zero, List.set_cons_succ])
              refine wpAnyH_take (i := 6) (v := undef) rfl (by kernel_rfl) (by kernel_rfl) (by kernel_rfl) (fun _ _ _ h => h) (Or.inr ⟨by rfl, rfl⟩) (by assumption) ?_
              (try simp only [Act.put, List.getElem_toArray, List.getElem_cons_succ, List.getElem_cons_zero, List.setIfInBounds_toArray, List.set_cons_zero, List.set_cons_succ])
              refine wpAnyH_take (i := 7) (v := undef) rfl (by kernel_rfl) (by kernel_rfl) (by kernel_rfl) (fun _ _ _ h => h) (Or.inr ⟨by rfl, rfl⟩) (by assumption) ?_
              (try simp only [Act.put, List.getElem_toArray, List.getElem_cons_succ, List.getElem_cons_zero, List.setIfInBounds_toArray, List.set_cons_zero, List.set_cons_succ])
              refine wpAnyH_take (i := 8) (v := undef) rfl (by kernel_rfl) (by kernel_rfl) (by kernel_rfl) (fun _ _ _ h => h) (Or.inr ⟨by rfl, rfl⟩) (by assumption) ?_
              (try simp only [Act.put, List.getElem_toArray, List.getElem_cons_succ, List.getElem_cons_zero, List.setIfInBounds_toArray, List.set_cons_zero, List.set_cons_succ])
              refine wpAnyH_take (i := 9) (v := undef) rfl (by kernel_rfl) (by kernel_rfl) (by kernel_rfl) (fun _ _ _ h => h) (Or.inr ⟨by rfl, rfl⟩) (by assumption) ?_
              (try simp only [Act.put, List.getElem_toArray, List.getElem_cons_succ, List.getElem_cons_zero, List.setIfInBounds_toArray, List.set_cons_zero, List.set_cons_succ])
              refine wpAnyH_take (i := 10) (v := undef) rfl (by kernel_rfl) (by kernel_rfl) (by kernel_rfl) (fun _ _ _ h => h) (Or.inr ⟨by rfl, rfl⟩) (by assumption) ?_
              (try simp only [Act.put, List.getElem_toArray, List.getElem_cons_succ, List.getElem_cons_zero, List.setIfInBounds_toArray, List.set_cons_zero, List.set_cons_succ])
              refine wpAnyH_take (i := 11) (v := undef) rfl (by kernel_rfl) (by kernel_rfl) (by kernel_rfl) (fun _ _ _ h => h) (Or.inr ⟨by rfl, rfl⟩) (by assumption) ?_
              (try simp only [Act.put, List.getElem_toArray, List.getElem_cons_succ, List.getElem_cons_zero, List.setIfInBounds_toArray, List.set_cons_zero, List.set_cons_succ])
              refine wpAnyH_take (i := 12) (v := undef) rfl (by kernel_rfl) (by kernel_rfl) (by kernel_rfl) (fun _ _ _ h => h) (Or.inr ⟨by rfl, rfl⟩) (by assumption) ?_
              (try simp only [Act.put, List.getElem_toArray, List.getElem_cons_succ, List.getElem_cons_zero, List.setIfInBounds_toArray, List.set_cons_zero, List.set_cons_succ])
              refine wpAnyH_take (i := 13) (v := undef) rfl (by kernel_rfl) (by kernel_rfl) (by kernel_rfl) (fun _ _ _ h => h) (Or.inr ⟨by rfl, rfl⟩) (by assumption) ?_
              (try simp only [Act.put, List.getElem_toArray, List.getElem_cons_succ, List.getElem_cons_zero, List.setIfInBounds_toArray, List.set_cons_zero, List.set_cons_succ])
              refine wpAnyH_take (i := 14) (v := undef) rfl (by kernel_rfl) (by kernel_rfl) (by kernel_rfl) (fun _ _ _ h => h) (Or.inr ⟨by rfl, rfl⟩) (by assumption) ?_
              (try simp only [Act.put, List.getElem_toArray, List.getElem_cons_succ, List.getElem_cons_zero, List.setIfInBounds_toArray, List.set_cons_zero, List.set_cons_succ])
              refine wpAnyH_take (i := 15) (v := .bool false) rfl (by kernel_rfl) (by kernel_rfl) (by kernel_rfl) (fun _ _ _ h => h) (Or.inl ⟨by rfl, ?_⟩) (by assumption) ?_
              · intro wx hs1; go_simp
              (try simp only [Act.put, List.getElem_toArray, List.getElem_cons_succ, List.getElem_cons_zero, List.setIfInBounds_toArray, List.set_cons_zero, List.set_cons_succ])
              refine wpAnyH_take (i := 16) (v := .bool false) rfl (by kernel_rfl) (by kernel_rfl) (by kernel_rfl) (fun _ _ _ h => h) (Or.inl ⟨by rfl, ?_⟩) (by assumption) ?_
              · intro wx hs1; go_simp
              (try simp only [Act.put, List.getElem_toArray, List.getElem_cons_succ, List.getElem_cons_zero, List.setIfInBounds_toArray, List.set_cons_zero, List.set_cons_succ])
              refine wpAnyH_take (i := 17) (v := .bool false) rfl (by kernel_rfl) (by kernel_rfl) (by kernel_rfl) (fun _ _ _ h => h) (Or.inl ⟨by rfl, ?_⟩) (by assumption) ?_
              · intro wx hs1; go_simp
              (try simp only [Act.put, List.getElem_toArray, List.getElem_cons_succ, List.getElem_cons_zero, List.setIfInBounds_toArray, List.set_cons_zero, List.set_cons_succ])
              refine wpAnyH_take (i := 18) (v := .bool false) rfl (by kernel_rfl) (by kernel_rfl) (by kernel_rfl) (fun _ _ _ h => h) (Or.inl ⟨by rfl, ?_⟩) (by assumption) ?_
              · intro wx hs1; go_simp
              (try simp only [Act.put, List.getElem_toArray, List.getElem_cons_succ, List.getElem_cons_zero, List.setIfInBounds_toArray, List.set_cons_zero, List.set_cons_succ])
              refine wpAnyH_take (i := 19) (v := .bool false) rfl (by kernel_rfl) (by kernel_rfl) (by kernel_rfl) (fun _ _ _ h => h) (Or.inl ⟨by rfl, ?_⟩) (by assumption) ?_
              · intro wx hs1; go_simp
              (try simp only [Act.put, List.getElem_toArray, List.getElem_cons_succ, List.getElem_cons_zero, List.setIfInBounds_toArray, List.set_cons_zero, List.set_cons_succ])
              refine wpAnyH_take (i := 20) (v := undef) rfl (by kernel_rfl) (by kernel_rfl) (by kernel_rfl) (fun _ _ _ h => h) (Or.inr ⟨by rfl, rfl⟩) (by assumption) ?_
              (try simp only [Act.put, List.getElem_toArray, List.getElem_cons_succ, List.getElem_cons_zero, List.setIfInBounds_toArray, List.set_cons_zero, List.set_cons_succ])
              refine wpAnyH_take (i := 21) (v := undef) rfl (by kernel_rfl) (by kernel_rfl) (by kernel_rfl) (fun _ _ _ h => h) (Or.inr ⟨by rfl, rfl⟩) (by assumption) ?_
              (try simp only [Act.put, List.getElem_toArray, List.getElem_cons_succ, List.getElem_cons_zero, List.setIfInBounds_toArray, List.set_cons_zero, List.set_cons_succ])
              refine wpAnyH_take (i := 22) (v := undef) rfl (by kernel_rfl) (by kernel_rfl) (by kernel_rfl) (fun _ _ _ h => h) (Or.inr ⟨by rfl, rfl⟩) (by assumption) ?_
              (try simp only [Act.put, List.getElem_toArray, List.getElem_cons_succ, List.getElem_cons_zero, List.setIfInBounds_toArray, List.set_cons_zero, List.set_cons_succ])
              refine wpAnyH_take (i := 23) (v := undef) rfl (by kernel_rfl) (by kernel_rfl) (by kernel_rfl) (fun _ _ _ h => h) (Or.inr ⟨by rfl, rfl⟩) (by assumption) ?_
              (try simp only [Act.put, List.getElem_toArray, List.getElem_cons_succ, List.getElem_cons_zero, List.setIfInBounds_toArray, List.set_cons_zero, List.set_cons_succ])
              refine wpAnyH_take (i := 24) (v := .bool false) rfl (by kernel_rfl) (by kernel_rfl) (by kernel_rfl) (fun _ _ _ h => h) (Or.inl ⟨by rfl, ?_⟩) (by assumption) ?_
              · intro wx hs1; go_simp
              (try simp only [Act.put, List.getElem_toArray, List.getElem_cons_succ, List.getElem_cons_zero, List.setIfInBounds_toArray, List.set_cons_zero, List.set_cons_succ])
              refine wpAnyH_take (i := 25) (v := .bool false) rfl (by kernel_rfl) (by kernel_rfl) (by kernel_rfl) (fun _ _ _ h => h) (Or.inl ⟨by rfl, ?_⟩) (by assumption) ?_
              · intro wx hs1; go_simp
              (try simp only [Act.put, List.getElem_toArray, List.getElem_cons_succ, List.getElem_cons_zero, List.setIfInBounds_toArray, List.set_cons_zero, List.set_cons_succ])
              refine wpAnyH_take (i := 26) (v := .bool false) rfl (by kernel_rfl) (by kernel_rfl) (by kernel_rfl) (fun _ _ _ h => h) (Or.inl ⟨by rfl, ?_⟩) (by assumption) ?_
              · intro wx hs1; go_simp
              (try simp only [Act.put, List.getElem_toArray, List.getElem_cons_succ, List.getElem_cons_zero, List.setIfInBounds_toArray, List.set_cons_zero, List.set_cons_succ])
              refine wpAnyH_take (i := 27) (v := .bool true) rfl (by kernel_rfl) (by kernel_rfl) (by kernel_rfl) (fun _ _ _ h => h) (Or.inl ⟨by rfl, ?_⟩) (by assumption) ?_
              · intro wx hs1; go_simp
              (try simp only [Act.put, List.getElem_toArray, List.getElem_cons_succ, List.getElem_cons_zero, List.setIfInBounds_toArray, List.set_cons_zero, List.set_cons_succ])
              refine wpAnyH_take (i := 28) (v := .bool true) rfl (by kernel_rfl) (by kernel_rfl) (by kernel_rfl) (fun _ _ _ h => h) (Or.inl ⟨by rfl, ?_⟩) (by assumption) ?_
              · intro wx hs1; go_simp
              (try simp only [Act.put, List.getElem_toArray, List.getElem_cons_succ, List.getElem_cons_zero, List.setIfInBounds_toArray, List.set_cons_zero, List.set_cons_succ])
              refine wpAnyH_take (i := 29) (v := .slice (some ⟨b, off, none⟩) n cap) rfl (by kernel_rfl) (by kernel_rfl) (by kernel_rfl) (fun _ _ _ h => h) (Or.inl ⟨by rfl, ?_⟩) (by assumption) ?_
              · intro wx hs1; go_simp
              (try simp only [Act.put, List.getElem_toArray, List.getElem_cons_succ, List.getElem_cons_zero, List.setIfInBounds_toArray, List.set_cons_zero, List.set_cons_succ])
              refine wpAnyH_take (i := 30) (v := .int .i64 (k : Int)) rfl (by kernel_rfl) (by kernel_rfl) (by kernel_rfl) (fun _ _ _ h => h) (Or.inl ⟨by rfl, ?_⟩) (by assumption) ?_
              · intro wx hs1; go_simp
              (try simp only [Act.put, List.getElem_toArray, List.getElem_cons_succ, List.getElem_cons_zero, List.setIfInBounds_toArray, List.set_cons_zero, List.set_cons_succ])
              refine wpAnyH_take (i := 31) (v := .pointer (some ⟨b, off + k * 7, none⟩)) rfl (by kernel_rfl) (by kernel_rfl) (by kernel_rfl) (fun _ _ _ h => h) (Or.inl ⟨by rfl, ?_⟩) (by assumption) ?_
              · intro wx hs1; go_simp
              (try simp only [Act.put, List.getElem_toArray, List.getElem_cons_succ, List.getElem_cons_zero, List.setIfInBounds_toArray, List.set_cons_zero, List.set_cons_succ])
              refine wpAnyH_take (i := 32) (v := .pointer (some ⟨b, off + k * 7 + 1, none⟩)) rfl (by kernel_rfl) (by kernel_rfl) (by kernel_rfl) (fun _ _ _ h => h) (Or.inl ⟨by rfl, ?_⟩) (by assumption) ?_
              · intro wx hs1; go_simp
              (try simp only [Act.put, List.getElem_toArray, List.getElem_cons_succ, List.getElem_cons_zero, List.setIfInBounds_toArray, List.set_cons_zero, List.set_cons_succ])
              refine wpAnyH_take (i := 33) (v := .agg #[.int .i64 y.r, .int .i64 y.q]) rfl (by kernel_rfl) (by kernel_rfl) (by kernel_rfl) (fun _ _ _ h => h) (Or.inl ⟨by rfl, ?_⟩) (by assumption) ?_
              · intro wx hs1; obtain ⟨⟨s0, s1⟩, ⟨p0, p1, p2, p3, p4, p5⟩, ⟨t0, t1⟩, ⟨q0, q1, q2, q3, q4, q5⟩, ⟨x0, x1, x2, x3, x4, x5, x6⟩⟩ := hs1; go_simp
              (try simp only [Act.put, List.getElem_toArray, List.getElem_cons_succ, List.getElem_cons_zero, List.setIfInBounds_toArray, List.set_cons_zero, List.set_cons_succ])
              refine wpAnyH_take (i := 34) (v := .agg #[.int .i64 M.pr, .int .i64 M.pp]) rfl (by kernel_rfl) (by kernel_rfl) (by kernel_rfl) (fun _ _ _ h => h) (Or.inl ⟨by rfl, ?_⟩) (by assumption) ?_
              · intro wx hs1; obtain ⟨⟨s0, s1⟩, ⟨p0, p1, p2, p3, p4, p5⟩, ⟨t0, t1⟩, ⟨q0, q1, q2, q3, q4, q5⟩, ⟨x0, x1, x2, x3, x4, x5, x6⟩⟩ := hs1; go_simp
              (try simp only [Act.put, List.getElem_toArray, List.getElem_cons_succ, List.getElem_cons_zero, List.setIfInBounds_toArray, List.set_cons_zero, List.set_cons_succ])
              refine wpAnyH_ready (rs := [35]) (by kernel_rfl) (by simp) (AllReadyH.cons rfl (fun K hK => ?_) AllReadyH.nil)
              go_simp
              go_at_call 16
              (with_reducible refine (HL4.out _).mono ?_)
              rintro e v2 ⟨rfl, hb⟩
              try dsimp only
              have HC2 : Hid (Below w9.heap.size w9 v2) := Lib.hid (HC1.out.trans (hb.mono HC1.out.size)); clear hb; have hS := HS9.out _ HC2.out
              refine hK.out _ _ hS (fun _ => ?_)
              clear hK K
              (try simp only [Act.put, List.getElem_toArray, List.getElem_cons_succ, List.getElem_cons_zero, List.setIfInBounds_toArray, List.set_cons_zero, List.set_cons_succ])
              refine wpAnyH_take (i := 36) (v := .bool false) rfl (by kernel_rfl) (by kernel_rfl) (by kernel_rfl) (fun _ _ _ h => h) (Or.inl ⟨by rfl, ?_⟩) (by assumption) ?_
              · intro wx hs1; go_simp
              (try simp only [Act.put, List.getElem_toArray, List.getElem_cons_succ, List.getElem_cons_zero, List.setIfInBounds_toArray, List.set_cons_zero, List.set_cons_succ])
              refine wpAnyH_take (i := 37) (v := .bool false) rfl (by kernel_rfl) (by kernel_rfl) (by kernel_rfl) (fun _ _ _ h => h) (Or.inl ⟨by rfl, ?_⟩) (by assumption) ?_
              · intro wx hs1; go_simp
              (try simp only [Act.put, List.getElem_toArray, List.getElem_cons_succ, List.getElem_cons_zero, List.setIfInBounds_toArray, List.set_cons_zero, List.set_cons_succ])
              refine wpAnyH_take (i := 38) (v := .bool false) rfl (by kernel_rfl) (by kernel_rfl) (by kernel_rfl) (fun _ _ _ h => h) (Or.inl ⟨by rfl, ?_⟩) (by assumption) ?_
              · intro wx hs1; go_simp
              (try simp only [Act.put, List.getElem_toArray, List.getElem_cons_succ, List.getElem_cons_zero, List.setIfInBounds_toArray, List.set_cons_zero, List.set_cons_succ])
              refine wpAnyH_take (i := 39) (v := .bool true) rfl (by kernel_rfl) (by kernel_rfl) (by kernel_rfl) (fun _ _ _ h => h) (Or.inl ⟨by rfl, ?_⟩) (by assumption) ?_
              · intro wx hs1; go_simp
              (try simp only [Act.put, List.getElem_toArray, List.getElem_cons_succ, List.getElem_cons_zero, List.setIfInBounds_toArray, List.set_cons_zero, List.set_cons_succ])
              refine wpAnyH_take (i := 40) (v := .bool false) rfl (by kernel_rfl) (by kernel_rfl) (by kernel_rfl) (fun _ _ _ h => h) (Or.inl ⟨by rfl, ?_⟩) (by assumption) ?_
              · intro wx hs1; go_simp
              (try simp only [Act.put, List.getElem_toArray, List.getElem_cons_succ, List.getElem_cons_zero, List.setIfInBounds_toArray, List.set_cons_zero, List.set_cons_succ])
              refine wpAnyH_take (i := 41) (v := .bool false) rfl (by kernel_rfl) (by kernel_rfl) (by kernel_rfl) (fun _ _ _ h => h) (Or.inl ⟨by rfl, ?_⟩) (by assumption) ?_
              · intro wx hs1; go_simp
              (try simp only [Act.put, List.getElem_toArray, List.getElem_cons_succ, List.getElem_cons_zero, List.setIfInBounds_toArray, List.set_cons_zero, List.set_cons_succ])
              refine wpAnyH_take (i := 42) (v := undef) rfl (by kernel_rfl) (by kernel_rfl) (by kernel_rfl) (fun _ _ _ h => h) (Or.inr ⟨by rfl, rfl⟩) (by assumption) ?_
              (try simp only [Act.put, List.getElem_toArray, List.getElem_cons_succ, List.getElem_cons_zero, List.setIfInBounds_toArray, List.set_cons_zero, List.set_cons_succ])
              refine wpAnyH_take (i := 43) (v := undef) rfl (by kernel_rfl) (by kernel_rfl) (by kernel_rfl) (fun _ _ _ h => h) (Or.inr ⟨by rfl, rfl⟩) (by assumption) ?_
              (try simp only [Act.put, List.getElem_toArray, List.getElem_cons_succ, List.getElem_cons_zero, List.setIfInBounds_toArray, List.set_cons_zero, List.set_cons_succ])
              refine wpAnyH_take (i := 44) (v := undef) rfl (by kernel_rfl) (by kernel_rfl) (by kernel_rfl) (fun _ _ _ h => h) (Or.inr ⟨by rfl, rfl⟩) (by assumption) ?_
              (try simp only [Act.put, List.getElem_toArray, List.getElem_cons_succ, List.getElem_cons_zero, List.setIfInBounds_toArray, List.set_cons_zero, List.set_cons_succ])
              refine wpAnyH_take (i := 45) (v := undef) rfl (by kernel_rfl) (by kernel_rfl) (by kernel_rfl) (fun _ _ _ h => h) (Or.inr ⟨by rfl, rfl⟩) (by assumption) ?_
              (try simp only [Act.put, List.getElem_toArray, List.getElem_cons_succ, List.getElem_cons_zero, List.setIfInBounds_toArray, List.set_cons_zero, List.set_cons_succ])
              refine wpAnyH_take (i := 46) (v := undef) rfl (by kernel_rfl) (by kernel_rfl) (by kernel_rfl) (fun _ _ _ h => h) (Or.inr ⟨by rfl, rfl⟩) (by assumption) ?_
              (try simp only [Act.put, List.getElem_toArray, List.getElem_cons_succ, List.getElem_cons_zero, List.setIfInBounds_toArray, List.set_cons_zero, List.set_cons_succ])
              refine wpAnyH_take (i := 47) (v := undef) rfl (by kernel_rfl) (by kernel_rfl) (by kernel_rfl) (fun _ _ _ h => h) (Or.inr ⟨by rfl, rfl⟩) (by assumption) ?_
              (try simp only [Act.put, List.getElem_toArray, List.getElem_cons_succ, List.getElem_cons_zero, List.setIfInBounds_toArray, List.set_cons_zero, List.set_cons_succ])
              refine wpAnyH_take (i := 48) (v := undef) rfl (by kernel_rfl) (by kernel_rfl) (by kernel_rfl) (fun _ _ _ h => h) (Or.inr ⟨by rfl, rfl⟩) (by assumption) ?_
              (try simp only [Act.put, List.getElem_toArray, List.getElem_cons_succ, List.getElem_cons_zero, List.setIfInBounds_toArray, List.set_cons_zero, List.set_cons_succ])
              refine wpAnyH_take (i := 49) (v := undef) rfl (by kernel_rfl) (by kernel_rfl) (by kernel_rfl) (fun _ _ _ h => h) (Or.inr ⟨by rfl, rfl⟩) (by assumption) ?_
              (try simp only [Act.put, List.getElem_toArray, List.getElem_cons_succ, List.getElem_cons_zero, List.setIfInBounds_toArray, List.set_cons_zero, List.set_cons_succ])
              refine wpAnyH_take (i := 50) (v := .bool false) rfl (by kernel_rfl) (by kernel_rfl) (by kernel_rfl) (fun _ _ _ h => h) (Or.inl ⟨by rfl, ?_⟩) (by assumption) ?_
              · intro wx hs1; go_simp
              (try simp only [Act.put, List.getElem_toArray, List.getElem_cons_succ, List.getElem_cons_zero, List.setIfInBounds_toArray, List.set_cons_zero, List.set_cons_succ])
              refine wpAnyH_take (i := 51) (v := .bool false) rfl (by kernel_rfl) (by kernel_rfl) (by kernel_rfl) (fun _ _ _ h => h) (Or.inl ⟨by rfl, ?_⟩) (by assumption) ?_
              · intro wx hs1; go_simp
              (try simp only [Act.put, List.getElem_toArray, List.getElem_cons_succ, List.getElem_cons_zero, List.setIfInBounds_toArray, List.set_cons_zero, List.set_cons_succ])
              refine wpAnyH_done (by kernel_rfl) ?_ _
              go_wp2_with fail
              go_roundw
              case rel => exact ⟨k + 1, by omega, by go_num, Lib.hid (by rw [HST.out]; exact ⟨AAt.keep HA9.out HC2.out, HBW.out.trans (HC2.out.mono HBW.out.size)⟩)⟩
              case measure => simp [RowKit.intOf]; omega
          · cases ok
            · exact absurd (K2.out rfl).1 (by simp)
            · have HL3 := Lib.hid (HL3a.out rfl)
              have HL4 := Lib.hid (HL4a.out rfl)
              clear HL2a HL3a HL4a K1 K2
              have hS0 : (fun W => ((W.cell? ⟨b10, 0, none⟩ = some (.int .i64 M.pr) ∧ W.cell? ⟨b10, 1, none⟩ = some (.int .i64 M.pp)) ∧ (W.cell? ⟨b11, 0, none⟩ = some (.int .i64 X.ar) ∧ W.cell? ⟨b11, 1, none⟩ = some (.int .i64 X.ap) ∧ W.cell? ⟨b11, 2, none⟩ = some (.int .i64 X.k) ∧ W.cell? ⟨b11, 3, none⟩ = some (.int .i64 X.m) ∧ W.cell? ⟨b11, 4, none⟩ = some (.int .i64 X.n) ∧ W.cell? ⟨b11, 5, none⟩ = some (.string X.t)) ∧ (W.cell? ⟨b14, 0, none⟩ = some (.int .i64 N.pr) ∧ W.cell? ⟨b14, 1, none⟩ = some (.int .i64 N.pp)) ∧ (W.cell? ⟨b15, 0, none⟩ = some (.int .i64 Y.ar) ∧ W.cell? ⟨b15, 1, none⟩ = some (.int .i64 Y.ap) ∧ W.cell? ⟨b15, 2, none⟩ = some (.int .i64 Y.k) ∧ W.cell? ⟨b15, 3, none⟩ = some (.int .i64 Y.m) ∧ W.cell? ⟨b15, 4, none⟩ = some (.int .i64 Y.n) ∧ W.cell? ⟨b15, 5, none⟩ = some (.string Y.t)) ∧ (W.cell? ⟨b, off + k * 7, none⟩ = some (.int .i64 y.x) ∧ W.cell? ⟨b, off + k * 7 + 1, none⟩ = some (.int .i64 y.r) ∧ W.cell? ⟨b, off + k * 7 + 2, none⟩ = some (.int .i64 y.q) ∧ W.cell? ⟨b, off + k * 7 + 3, none⟩ = some (.int .i64 y.k) ∧ W.cell? ⟨b, off + k * 7 + 4, none⟩ = some (.int .i64 y.m) ∧ W.cell? ⟨b, off + k * 7 + 5, none⟩ = some (.int .i64 y.n) ∧ W.cell? ⟨b, off + k * 7 + 6, none⟩ = some (.string y.t)))) w9.drew := z9
              refine wp_region_held_drew (S := fun W => ((W.cell? ⟨b10, 0, none⟩ = some (.int .i64 M.pr) ∧ W.cell? ⟨b10, 1, none⟩ = some (.int .i64 M.pp)) ∧ (W.cell? ⟨b11, 0, none⟩ = some (.int .i64 X.ar) ∧ W.cell? ⟨b11, 1, none⟩ = some (.int .i64 X.ap) ∧ W.cell? ⟨b11, 2, none⟩ = some (.int .i64 X.k) ∧ W.cell? ⟨b11, 3, none⟩ = some (.int .i64 X.m) ∧ W.cell? ⟨b11, 4, none⟩ = some (.int .i64 X.n) ∧ W.cell? ⟨b11, 5, none⟩ = some (.string X.t)) ∧ (W.cell? ⟨b14, 0, none⟩ = some (.int .i64 N.pr) ∧ W.cell? ⟨b14, 1, none⟩ = some (.int .i64 N.pp)) ∧ (W.cell? ⟨b15, 0, none⟩ = some (.int .i64 Y.ar) ∧ W.cell? ⟨b15, 1, none⟩ = some (.int .i64 Y.ap) ∧ W.cell? ⟨b15, 2, none⟩ = some (.int .i64 Y.k) ∧ W.cell? ⟨b15, 3, none⟩ = some (.int .i64 Y.m) ∧ W.cell? ⟨b15, 4, none⟩ = some (.int .i64 Y.n) ∧ W.cell? ⟨b15, 5, none⟩ = some (.string Y.t)) ∧ (W.cell? ⟨b, off + k * 7, none⟩ = some (.int .i64 y.x) ∧ W.cell? ⟨b, off + k * 7 + 1, none⟩ = some (.int .i64 y.r) ∧ W.cell? ⟨b, off + k * 7 + 2, none⟩ = some (.int .i64 y.q) ∧ W.cell? ⟨b, off + k * 7 + 3, none⟩ = some (.int .i64 y.k) ∧ W.cell? ⟨b, off + k * 7 + 4, none⟩ = some (.int .i64 y.m) ∧ W.cell? ⟨b, off + k * 7 + 5, none⟩ = some (.int .i64 y.n) ∧ W.cell? ⟨b, off + k * 7 + 6, none⟩ = some (.string y.t)))) rfl hS0 (fun hHeld => ?_)
              simp only [List.size_toArray, List.length_cons, List.length_nil, Nat.reduceAdd]
              have HB0 : Hid (Below w9.heap.size w9 w9.drew) := Lib.hid (Below.refl _ _).drew
              obtain ⟨V0, hV0⟩ : ∃ V, w9.drew = V := ⟨_, rfl⟩
              rw [hV0] at hHeld hS0 HB0 ⊢
              clear hV0
              refine wpAnyH_take (i := 0) (v := .agg #[.int .i64 N.pr, .int .i64 N.pp]) rfl (by kernel_rfl) (by kernel_rfl) (by kernel_rfl) (fun _ _ _ h => h) (Or.inl ⟨by rfl, ?_⟩) (by assumption) ?_
              · intro wx hs1; obtain ⟨⟨s0, s1⟩, ⟨p0, p1, p2, p3, p4, p5⟩, ⟨t0, t1⟩, ⟨q0, q1, q2, q3, q4, q5⟩, ⟨x0, x1, x2, x3, x4, x5, x6⟩⟩ := hs1; go_simp
              (try simp only [Act.put, List.getElem_toArray, List.getElem_cons_zero, List.setIfInBounds_toArray, List.set_cons_zero, List.set_cons_succ])
              refine wpAnyH_take (i := 1) (v := .agg #[.int .i64 M.pr, .int .i64 M.pp]) rfl (by kernel_rfl) (by kernel_rfl) (by kernel_rfl) (fun _ _ _ h => h) (Or.inl ⟨by rfl, ?_⟩) (by assumption) ?_
              · intro wx hs1; obtain ⟨⟨s0, s1⟩, ⟨p0, p1, p2, p3, p4, p5⟩, ⟨t0, t1⟩, ⟨q0, q1, q2, q3, q4, q5⟩, ⟨x0, x1, x2, x3, x4, x5, x6⟩⟩ := hs1; go_simp
              (try simp only [Act.put, List.getElem_toArray, List.getElem_cons_succ, List.getElem_cons_zero, List.setIfInBounds_toArray, List.set_cons_zero, List.set_cons_succ])
              refine wpAnyH_ready (rs := [2]) (by kernel_rfl) (by simp) (AllReadyH.cons rfl (fun K hK => ?_) AllReadyH.nil)
              go_simp
              go_at_call 16
              (with_reducible refine (HL1.out _).mono ?_)
              rintro e v1 ⟨rfl, hb⟩
              try dsimp only
              have HC1 : Hid (Below w9.heap.size w9 v1) := Lib.hid (HB0.out.trans (hb.mono HB0.out.size)); clear hb; have hS := HS9.out _ HC1.out
              refine hK.out _ _ hS (fun _ => ?_)
              clear hK K
              (try simp only [Act.put, List.getElem_toArray, List.getElem_cons_succ, List.getElem_cons_zero, List.setIfInBounds_toArray, List.set_cons_zero, List.set_cons_succ])
              refine wpAnyH_take (i := 3) (v := .bool false) rfl (by kernel_rfl) (by kernel_rfl) (by kernel_rfl) (fun _ _ _ h => h) (Or.inl ⟨by rfl, ?_⟩) (by assumption) ?_
              · intro wx hs1; go_simp
              (try simp only [Act.put, List.getElem_toArray, List.getElem_cons_succ, List.getElem_cons_zero, List.setIfInBounds_toArray, List.set_cons_zero, List.set_cons_succ])
              refine wpAnyH_take (i := 4) (v := .bool false) rfl (by kernel_rfl) (by kernel_rfl) (by kernel_rfl) (fun _ _ _ h => h) (Or.inl ⟨by rfl, ?_⟩) (by assumption) ?_
              · intro wx hs1; go_simp
              (try simp only [Act.put, List.getElem_toArray, List.getElem_cons_succ, List.getElem_cons_zero, List.setIfInBounds_toArray, List.set_cons_zero, List.set_cons_succ])
              refine wpAnyH_take (i := 5) (v := .bool false) rfl (by kernel_rfl) (by kernel_rfl) (by kernel_rfl) (fun _ _ _ h => h) (Or.inl ⟨by rfl, ?_⟩) (by assumption) ?_
              · intro wx hs1; go_simp
              (try simp only [Act.put, List.getElem_toArray, List.getElem_cons_succ, List.getElem_cons_zero, List.setIfInBounds_toArray, List.set_cons_zero, List.set_cons_succ])
              refine wpAnyH_take (i := 6) (v := undef) rfl (by kernel_rfl) (by kernel_rfl) (by kernel_rfl) (fun _ _ _ h => h) (Or.inr ⟨by rfl, rfl⟩) (by assumption) ?_
              (try simp only [Act.put, List.getElem_toArray, List.getElem_cons_succ, List.getElem_cons_zero, List.setIfInBounds_toArray, List.set_cons_zero, List.set_cons_succ])
              refine wpAnyH_take (i := 7) (v := undef) rfl (by kernel_rfl) (by kernel_rfl) (by kernel_rfl) (fun _ _ _ h => h) (Or.inr ⟨by rfl, rfl⟩) (by assumption) ?_
              (try simp only [Act.put, List.getElem_toArray, List.getElem_cons_succ, List.getElem_cons_zero, List.setIfInBounds_toArray, List.set_cons_zero, List.set_cons_succ])
              refine wpAnyH_take (i := 8) (v := undef) rfl (by kernel_rfl) (by kernel_rfl) (by kernel_rfl) (fun _ _ _ h => h) (Or.inr ⟨by rfl, rfl⟩) (by assumption) ?_
              (try simp only [Act.put, List.getElem_toArray, List.getElem_cons_succ, List.getElem_cons_zero, List.setIfInBounds_toArray, List.set_cons_zero, List.set_cons_succ])
              refine wpAnyH_take (i := 9) (v := undef) rfl (by kernel_rfl) (by kernel_rfl) (by kernel_rfl) (fun _ _ _ h => h) (Or.inr ⟨by rfl, rfl⟩) (by assumption) ?_
              (try simp only [Act.put, List.getElem_toArray, List.getElem_cons_succ, List.getElem_cons_zero, List.setIfInBounds_toArray, List.set_cons_zero, List.set_cons_succ])
              refine wpAnyH_take (i := 10) (v := undef) rfl (by kernel_rfl) (by kernel_rfl) (by kernel_rfl) (fun _ _ _ h => h) (Or.inr ⟨by rfl, rfl⟩) (by assumption) ?_
              (try simp only [Act.put, List.getElem_toArray, List.getElem_cons_succ, List.getElem_cons_zero, List.setIfInBounds_toArray, List.set_cons_zero, List.set_cons_succ])
              refine wpAnyH_take (i := 11) (v := undef) rfl (by kernel_rfl) (by kernel_rfl) (by kernel_rfl) (fun _ _ _ h => h) (Or.inr ⟨by rfl, rfl⟩) (by assumption) ?_
              (try simp only [Act.put, List.getElem_toArray, List.getElem_cons_succ, List.getElem_cons_zero, List.setIfInBounds_toArray, List.set_cons_zero, List.set_cons_succ])
              refine wpAnyH_take (i := 12) (v := undef) rfl (by kernel_rfl) (by kernel_rfl) (by kernel_rfl) (fun _ _ _ h => h) (Or.inr ⟨by rfl, rfl⟩) (by assumption) ?_
              (try simp only [Act.put, List.getElem_toArray, List.getElem_cons_succ, List.getElem_cons_zero, List.setIfInBounds_toArray, List.set_cons_zero, List.set_cons_succ])
              refine wpAnyH_take (i := 13) (v := undef) rfl (by kernel_rfl) (by kernel_rfl) (by kernel_rfl) (fun _ _ _ h => h) (Or.inr ⟨by rfl, rfl⟩) (by assumption) ?_
              (try simp only [Act.put, List.getElem_toArray, List.getElem_cons_succ, List.getElem_cons_zero, List.setIfInBounds_toArray, List.set_cons_zero, List.set_cons_succ])
              refine wpAnyH_take (i := 14) (v := undef) rfl (by kernel_rfl) (by kernel_rfl) (by kernel_rfl) (fun _ _ _ h => h) (Or.inr ⟨by rfl, rfl⟩) (by assumption) ?_
              (try simp only [Act.put, List.getElem_toArray, List.getElem_cons_succ, List.getElem_cons_zero, List.setIfInBounds_toArray, List.set_cons_zero, List.set_cons_succ])
              refine wpAnyH_take (i := 15) (v := .bool false) rfl (by kernel_rfl) (by kernel_rfl) (by kernel_rfl) (fun _ _ _ h => h) (Or.inl ⟨by rfl, ?_⟩) (by assumption) ?_
              · intro wx hs1; go_simp
              (try simp only [Act.put, List.getElem_toArray, List.getElem_cons_succ, List.getElem_cons_zero, List.setIfInBounds_toArray, List.set_cons_zero, List.set_cons_succ])
              refine wpAnyH_take (i := 16) (v := .bool false) rfl (by kernel_rfl) (by kernel_rfl) (by kernel_rfl) (fun _ _ _ h => h) (Or.inl ⟨by rfl, ?_⟩) (by assumption) ?_
              · intro wx hs1; go_simp
              (try simp only [Act.put, List.getElem_toArray, List.getElem_cons_succ, List.getElem_cons_zero, List.setIfInBounds_toArray, List.set_cons_zero, List.set_cons_succ])
              refine wpAnyH_take (i := 17) (v := .bool false) rfl (by kernel_rfl) (by kernel_rfl) (by kernel_rfl) (fun _ _ _ h => h) (Or.inl ⟨by rfl, ?_⟩) (by assumption) ?_
              · intro wx hs1; go_simp
              (try simp only [Act.put, List.getElem_toArray, List.getElem_cons_succ, List.getElem_cons_zero, List.setIfInBounds_toArray, List.set_cons_zero, List.set_cons_succ])
              refine wpAnyH_take (i := 18) (v := .bool true) rfl (by kernel_rfl) (by kernel_rfl) (by kernel_rfl) (fun _ _ _ h => h) (Or.inl ⟨by rfl, ?_⟩) (by assumption) ?_
              · intro wx hs1; go_simp
              (try simp only [Act.put, List.getElem_toArray, List.getElem_cons_succ, List.getElem_cons_zero, List.setIfInBounds_toArray, List.set_cons_zero, List.set_cons_succ])
              refine wpAnyH_take (i := 19) (v := .bool true) rfl (by kernel_rfl) (by kernel_rfl) (by kernel_rfl) (fun _ _ _ h => h) (Or.inl ⟨by rfl, ?_⟩) (by assumption) ?_
              · intro wx hs1; go_simp
              (try simp only [Act.put, List.getElem_toArray, List.getElem_cons_succ, List.getElem_cons_zero, List.setIfInBounds_toArray, List.set_cons_zero, List.set_cons_succ])
              refine wpAnyH_take (i := 20) (v := .agg #[.int .i64 N.pr, .int .i64 N.pp]) rfl (by kernel_rfl) (by kernel_rfl) (by kernel_rfl) (fun _ _ _ h => h) (Or.inl ⟨by rfl, ?_⟩) (by assumption) ?_
              · intro wx hs1; obtain ⟨⟨s0, s1⟩, ⟨p0, p1, p2, p3, p4, p5⟩, ⟨t0, t1⟩, ⟨q0, q1, q2, q3, q4, q5⟩, ⟨x0, x1, x2, x3, x4, x5, x6⟩⟩ := hs1; go_simp
              (try simp only [Act.put, List.getElem_toArray, List.getElem_cons_succ, List.getElem_cons_zero, List.setIfInBounds_toArray, List.set_cons_zero, List.set_cons_succ])
              refine wpAnyH_take (i := 21) (v := .pointer (some ⟨b15, 0, none⟩)) rfl (by kernel_rfl) (by kernel_rfl) (by kernel_rfl) (fun _ _ _ h => h) (Or.inl ⟨by rfl, ?_⟩) (by assumption) ?_
              · intro wx hs1; go_simp
              (try simp only [Act.put, List.getElem_toArray, List.getElem_cons_succ, List.getElem_cons_zero, List.setIfInBounds_toArray, List.set_cons_zero, List.set_cons_succ])
              refine wpAnyH_take (i := 22) (v := .agg #[.int .i64 Y.ar, .int .i64 Y.ap]) rfl (by kernel_rfl) (by kernel_rfl) (by kernel_rfl) (fun _ _ _ h => h) (Or.inl ⟨by rfl, ?_⟩) (by assumption) ?_
              · intro wx hs1; obtain ⟨⟨s0, s1⟩, ⟨p0, p1, p2, p3, p4, p5⟩, ⟨t0, t1⟩, ⟨q0, q1, q2, q3, q4, q5⟩, ⟨x0, x1, x2, x3, x4, x5, x6⟩⟩ := hs1; go_simp
              (try simp only [Act.put, List.getElem_toArray, List.getElem_cons_succ, List.getElem_cons_zero, List.setIfInBounds_toArray, List.set_cons_zero, List.set_cons_succ])
              refine wpAnyH_ready (rs := [23]) (by kernel_rfl) (by simp) (AllReadyH.cons rfl (fun K hK => ?_) AllReadyH.nil)
              go_simp
              go_at_call 16
              (with_reducible refine (HL3.out _).mono ?_)
              rintro e v2 ⟨rfl, hb⟩
              try dsimp only
              have HC2 : Hid (Below w9.heap.size w9 v2) := Lib.hid (HC1.out.trans (hb.mono HC1.out.size)); clear hb; have hS := HS9.out _ HC2.out
              refine hK.out _ _ hS (fun _ => ?_)
              clear hK K
              (try simp only [Act.put, List.getElem_toArray, List.getElem_cons_succ, List.getElem_cons_zero, List.setIfInBounds_toArray, List.set_cons_zero, List.set_cons_succ])
              refine wpAnyH_take (i := 24) (v := .bool false) rfl (by kernel_rfl) (by kernel_rfl) (by kernel_rfl) (fun _ _ _ h => h) (Or.inl ⟨by rfl, ?_⟩) (by assumption) ?_
              · intro wx hs1; go_simp
              (try simp only [Act.put, List.getElem_toArray, List.getElem_cons_succ, List.getElem_cons_zero, List.setIfInBounds_toArray, List.set_cons_zero, List.set_cons_succ])
              refine wpAnyH_take (i := 25) (v := .bool false) rfl (by kernel_rfl) (by kernel_rfl) (by kernel_rfl) (fun _ _ _ h => h) (Or.inl ⟨by rfl, ?_⟩) (by assumption) ?_
              · intro wx hs1; go_simp
              (try simp only [Act.put, List.getElem_toArray, List.getElem_cons_succ, List.getElem_cons_zero, List.setIfInBounds_toArray, List.set_cons_zero, List.set_cons_succ])
              refine wpAnyH_take (i := 26) (v := .bool false) rfl (by kernel_rfl) (by kernel_rfl) (by kernel_rfl) (fun _ _ _ h => h) (Or.inl ⟨by rfl, ?_⟩) (by assumption) ?_
              · intro wx hs1; go_simp
              (try simp only [Act.put, List.getElem_toArray, List.getElem_cons_succ, List.getElem_cons_zero, List.setIfInBounds_toArray, List.set_cons_zero, List.set_cons_succ])
              refine wpAnyH_take (i := 27) (v := .bool true) rfl (by kernel_rfl) (by kernel_rfl) (by kernel_rfl) (fun _ _ _ h => h) (Or.inl ⟨by rfl, ?_⟩) (by assumption) ?_
              · intro wx hs1; go_simp
              (try simp only [Act.put, List.getElem_toArray, List.getElem_cons_succ, List.getElem_cons_zero, List.setIfInBounds_toArray, List.set_cons_zero, List.set_cons_succ])
              refine wpAnyH_take (i := 28) (v := .bool true) rfl (by kernel_rfl) (by kernel_rfl) (by kernel_rfl) (fun _ _ _ h => h) (Or.inl ⟨by rfl, ?_⟩) (by assumption) ?_
              · intro wx hs1; go_simp
              (try simp only [Act.put, List.getElem_toArray, List.getElem_cons_succ, List.getElem_cons_zero, List.setIfInBounds_toArray, List.set_cons_zero, List.set_cons_succ])
              refine wpAnyH_take (i := 29) (v := .slice (some ⟨b, off, none⟩) n cap) rfl (by kernel_rfl) (by kernel_rfl) (by kernel_rfl) (fun _ _ _ h => h) (Or.inl ⟨by rfl, ?_⟩) (by assumption) ?_
              · intro wx hs1; go_simp
              (try simp only [Act.put, List.getElem_toArray, List.getElem_cons_succ, List.getElem_cons_zero, List.setIfInBounds_toArray, List.set_cons_zero, List.set_cons_succ])
              refine wpAnyH_take (i := 30) (v := .int .i64 (k : Int)) rfl (by kernel_rfl) (by kernel_rfl) (by kernel_rfl) (fun _ _ _ h => h) (Or.inl ⟨by rfl, ?_⟩) (by assumption) ?_
              · intro wx hs1; go_simp
              (try simp only [Act.put, List.getElem_toArray, List.getElem_cons_succ, List.getElem_cons_zero, List.setIfInBounds_toArray, List.set_cons_zero, List.set_cons_succ])
              refine wpAnyH_take (i := 31) (v := .pointer (some ⟨b, off + k * 7, none⟩)) rfl (by kernel_rfl) (by kernel_rfl) (by kernel_rfl) (fun _ _ _ h => h) (Or.inl ⟨by rfl, ?_⟩) (by assumption) ?_
              · intro wx hs1; go_simp
              (try simp only [Act.put, List.getElem_toArray, List.getElem_cons_succ, List.getElem_cons_zero, List.setIfInBounds_toArray, List.set_cons_zero, List.set_cons_succ])
              refine wpAnyH_take (i := 32) (v := .pointer (some ⟨b, off + k * 7 + 1, none⟩)) rfl (by kernel_rfl) (by kernel_rfl) (by kernel_rfl) (fun _ _ _ h => h) (Or.inl ⟨by rfl, ?_⟩) (by assumption) ?_
              · intro wx hs1; go_simp
              (try simp only [Act.put, List.getElem_toArray, List.getElem_cons_succ, List.getElem_cons_zero, List.setIfInBounds_toArray, List.set_cons_zero, List.set_cons_succ])
              refine wpAnyH_take (i := 33) (v := .agg #[.int .i64 y.r, .int .i64 y.q]) rfl (by kernel_rfl) (by kernel_rfl) (by kernel_rfl) (fun _ _ _ h => h) (Or.inl ⟨by rfl, ?_⟩) (by assumption) ?_
              · intro wx hs1; obtain ⟨⟨s0, s1⟩, ⟨p0, p1, p2, p3, p4, p5⟩, ⟨t0, t1⟩, ⟨q0, q1, q2, q3, q4, q5⟩, ⟨x0, x1, x2, x3, x4, x5, x6⟩⟩ := hs1; go_simp
              (try simp only [Act.put, List.getElem_toArray, List.getElem_cons_succ, List.getElem_cons_zero, List.setIfInBounds_toArray, List.set_cons_zero, List.set_cons_succ])
              refine wpAnyH_take (i := 34) (v := .agg #[.int .i64 M.pr, .int .i64 M.pp]) rfl (by kernel_rfl) (by kernel_rfl) (by kernel_rfl) (fun _ _ _ h => h) (Or.inl ⟨by rfl, ?_⟩) (by assumption) ?_
              · intro wx hs1; obtain ⟨⟨s0, s1⟩, ⟨p0, p1, p2, p3, p4, p5⟩, ⟨t0, t1⟩, ⟨q0, q1, q2, q3, q4, q5⟩, ⟨x0, x1, x2, x3, x4, x5, x6⟩⟩ := hs1; go_simp
              (try simp only [Act.put, List.getElem_toArray, List.getElem_cons_succ, List.getElem_cons_zero, List.setIfInBounds_toArray, List.set_cons_zero, List.set_cons_succ])
              refine wpAnyH_ready (rs := [35]) (by kernel_rfl) (by simp) (AllReadyH.cons rfl (fun K hK => ?_) AllReadyH.nil)
              go_simp
              go_at_call 16
              (with_reducible refine (HL4.out _).mono ?_)
              rintro e v3 ⟨rfl, hb⟩
              try dsimp only
              have HC3 : Hid (Below w9.heap.size w9 v3) := Lib.hid (HC2.out.trans (hb.mono HC2.out.size)); clear hb; have hS := HS9.out _ HC3.out
              refine hK.out _ _ hS (fun _ => ?_)
              clear hK K
              (try simp only [Act.put, List.getElem_toArray, List.getElem_cons_succ, List.getElem_cons_zero, List.setIfInBounds_toArray, List.set_cons_zero, List.set_cons_succ])
              refine wpAnyH_take (i := 36) (v := .bool false) rfl (by kernel_rfl) (by kernel_rfl) (by kernel_rfl) (fun _ _ _ h => h) (Or.inl ⟨by rfl, ?_⟩) (by assumption) ?_
              · intro wx hs1; go_simp
              (try simp only [Act.put, List.getElem_toArray, List.getElem_cons_succ, List.getElem_cons_zero, List.setIfInBounds_toArray, List.set_cons_zero, List.set_cons_succ])
              refine wpAnyH_take (i := 37) (v := .bool false) rfl (by kernel_rfl) (by kernel_rfl) (by kernel_rfl) (fun _ _ _ h => h) (Or.inl ⟨by rfl, ?_⟩) (by assumption) ?_
              · intro wx hs1; go_simp
              (try simp only [Act.put, List.getElem_toArray, List.getElem_cons_succ, List.getElem_cons_zero, List.setIfInBounds_toArray, List.set_cons_zero, List.set_cons_succ])
              refine wpAnyH_take (i := 38) (v := .bool false) rfl (by kernel_rfl) (by kernel_rfl) (by kernel_rfl) (fun _ _ _ h => h) (Or.inl ⟨by rfl, ?_⟩) (by assumption) ?_
              · intro wx hs1; go_simp
              (try simp only [Act.put, List.getElem_toArray, List.getElem_cons_succ, List.getElem_cons_zero, List.setIfInBounds_toArray, List.set_cons_zero, List.set_cons_succ])
              refine wpAnyH_take (i := 39) (v := .bool true) rfl (by kernel_rfl) (by kernel_rfl) (by kernel_rfl) (fun _ _ _ h => h) (Or.inl ⟨by rfl, ?_⟩) (by assumption) ?_
              · intro wx hs1; go_simp
              (try simp only [Act.put, List.getElem_toArray, List.getElem_cons_succ, List.getElem_cons_zero, List.setIfInBounds_toArray, List.set_cons_zero, List.set_cons_succ])
              refine wpAnyH_take (i := 40) (v := .bool false) rfl (by kernel_rfl) (by kernel_rfl) (by kernel_rfl) (fun _ _ _ h => h) (Or.inl ⟨by rfl, ?_⟩) (by assumption) ?_
              · intro wx hs1; go_simp
              (try simp only [Act.put, List.getElem_toArray, List.getElem_cons_succ, List.getElem_cons_zero, List.setIfInBounds_toArray, List.set_cons_zero, List.set_cons_succ])
              refine wpAnyH_take (i := 41) (v := .bool false) rfl (by kernel_rfl) (by kernel_rfl) (by kernel_rfl) (fun _ _ _ h => h) (Or.inl ⟨by rfl, ?_⟩) (by assumption) ?_
              · intro wx hs1; go_simp
              (try simp only [Act.put, List.getElem_toArray, List.getElem_cons_succ, List.getElem_cons_zero, List.setIfInBounds_toArray, List.set_cons_zero, List.set_cons_succ])
              refine wpAnyH_take (i := 42) (v := undef) rfl (by kernel_rfl) (by kernel_rfl) (by kernel_rfl) (fun _ _ _ h => h) (Or.inr ⟨by rfl, rfl⟩) (by assumption) ?_
              (try simp only [Act.put, List.getElem_toArray, List.getElem_cons_succ, List.getElem_cons_zero, List.setIfInBounds_toArray, List.set_cons_zero, List.set_cons_succ])
              refine wpAnyH_take (i := 43) (v := undef) rfl (by kernel_rfl) (by kernel_rfl) (by kernel_rfl) (fun _ _ _ h => h) (Or.inr ⟨by rfl, rfl⟩) (by assumption) ?_
              (try simp only [Act.put, List.getElem_toArray, List.getElem_cons_succ, List.getElem_cons_zero, List.setIfInBounds_toArray, List.set_cons_zero, List.set_cons_succ])
              refine wpAnyH_take (i := 44) (v := undef) rfl (by kernel_rfl) (by kernel_rfl) (by kernel_rfl) (fun _ _ _ h => h) (Or.inr ⟨by rfl, rfl⟩) (by assumption) ?_
              (try simp only [Act.put, List.getElem_toArray, List.getElem_cons_succ, List.getElem_cons_zero, List.setIfInBounds_toArray, List.set_cons_zero, List.set_cons_succ])
              refine wpAnyH_take (i := 45) (v := undef) rfl (by kernel_rfl) (by kernel_rfl) (by kernel_rfl) (fun _ _ _ h => h) (Or.inr ⟨by rfl, rfl⟩) (by assumption) ?_
              (try simp only [Act.put, List.getElem_toArray, List.getElem_cons_succ, List.getElem_cons_zero, List.setIfInBounds_toArray, List.set_cons_zero, List.set_cons_succ])
              refine wpAnyH_take (i := 46) (v := undef) rfl (by kernel_rfl) (by kernel_rfl) (by kernel_rfl) (fun _ _ _ h => h) (Or.inr ⟨by rfl, rfl⟩) (by assumption) ?_
              (try simp only [Act.put, List.getElem_toArray, List.getElem_cons_succ, List.getElem_cons_zero, List.setIfInBounds_toArray, List.set_cons_zero, List.set_cons_succ])
              refine wpAnyH_take (i := 47) (v := undef) rfl (by kernel_rfl) (by kernel_rfl) (by kernel_rfl) (fun _ _ _ h => h) (Or.inr ⟨by rfl, rfl⟩) (by assumption) ?_
              (try simp only [Act.put, List.getElem_toArray, List.getElem_cons_succ, List.getElem_cons_zero, List.setIfInBounds_toArray, List.set_cons_zero, List.set_cons_succ])
              refine wpAnyH_take (i := 48) (v := undef) rfl (by kernel_rfl) (by kernel_rfl) (by kernel_rfl) (fun _ _ _ h => h) (Or.inr ⟨by rfl, rfl⟩) (by assumption) ?_
              (try simp only [Act.put, List.getElem_toArray, List.getElem_cons_succ, List.getElem_cons_zero, List.setIfInBounds_toArray, List.set_cons_zero, List.set_cons_succ])
              refine wpAnyH_take (i := 49) (v := undef) rfl (by kernel_rfl) (by kernel_rfl) (by kernel_rfl) (fun _ _ _ h => h) (Or.inr ⟨by rfl, rfl⟩) (by assumption) ?_
              (try simp only [Act.put, List.getElem_toArray, List.getElem_cons_succ, List.getElem_cons_zero, List.setIfInBounds_toArray, List.set_cons_zero, List.set_cons_succ])
              refine wpAnyH_take (i := 50) (v := .bool false) rfl (by kernel_rfl) (by kernel_rfl) (by kernel_rfl) (fun _ _ _ h => h) (Or.inl ⟨by rfl, ?_⟩) (by assumption) ?_
              · intro wx hs1; go_simp
              (try simp only [Act.put, List.getElem_toArray, List.getElem_cons_succ, List.getElem_cons_zero, List.setIfInBounds_toArray, List.set_cons_zero, List.set_cons_succ])
              refine wpAnyH_take (i := 51) (v := .bool false) rfl (by kernel_rfl) (by kernel_rfl) (by kernel_rfl) (fun _ _ _ h => h) (Or.inl ⟨by rfl, ?_⟩) (by assumption) ?_
              · intro wx hs1; go_simp
              (try simp only [Act.put, List.getElem_toArray, List.getElem_cons_succ, List.getElem_cons_zero, List.setIfInBounds_toArray, List.set_cons_zero, List.set_cons_succ])
              refine wpAnyH_done (by kernel_rfl) ?_ _
              go_wp2_with fail
              go_roundw
              case rel => exact ⟨k + 1, by omega, by go_num, Lib.hid (by rw [HST.out]; exact ⟨AAt.keep HA9.out HC3.out, HBW.out.trans (HC3.out.mono HBW.out.size)⟩)⟩
              case measure => simp [RowKit.intOf]; omega
        · cases has
          · cases ok
            · exact absurd (K1.out rfl) (by simp)
            · exact absurd (K1.out rfl) (by simp)
          · cases ok
            · have HL2 := Lib.hid (HL2a.out rfl)
              have HL3 := Lib.hid (HL3a.out rfl)
              have hne36 : ∀ W, (binOp .neq 36 (.agg #[.int .i64 N.pr, .int .i64 N.pp]) (.agg #[.int .i64 M.pr, .int .i64 M.pp])).run Tryd.prog W = .ok (.bool false) W := fun W => by have h := K2.out rfl; rw [neq31, decide_eq_true ⟨h.2.1, h.2.2.1⟩]; rfl
              have hne39 : ∀ W, (binOp .neq 39 (.agg #[.int .i64 X.ar, .int .i64 X.ap, .int .i64 X.k, .int .i64 X.m, .int .i64 X.n, .string X.t]) (.agg #[.int .i64 Y.ar, .int .i64 Y.ap, .int .i64 Y.k, .int .i64 Y.m, .int .i64 Y.n, .string Y.t])).run Tryd.prog W = .ok (.bool false) W := fun W => by have h := K2.out rfl; rw [neq36, h.2.2.2, decide_eq_true ⟨rfl, rfl, rfl, rfl, rfl, rfl⟩]; rfl
              clear HL2a HL3a HL4a K1 K2
              have hS0 : (fun W => ((W.cell? ⟨b10, 0, none⟩ = some (.int .i64 M.pr) ∧ W.cell? ⟨b10, 1, none⟩ = some (.int .i64 M.pp)) ∧ (W.cell? ⟨b11, 0, none⟩ = some (.int .i64 X.ar) ∧ W.cell? ⟨b11, 1, none⟩ = some (.int .i64 X.ap) ∧ W.cell? ⟨b11, 2, none⟩ = some (.int .i64 X.k) ∧ W.cell? ⟨b11, 3, none⟩ = some (.int .i64 X.m) ∧ W.cell? ⟨b11, 4, none⟩ = some (.int .i64 X.n) ∧ W.cell? ⟨b11, 5, none⟩ = some (.string X.t)) ∧ (W.cell? ⟨b14, 0, none⟩ = some (.int .i64 N.pr) ∧ W.cell? ⟨b14, 1, none⟩ = some (.int .i64 N.pp)) ∧ (W.cell? ⟨b15, 0, none⟩ = some (.int .i64 Y.ar) ∧ W.cell? ⟨b15, 1, none⟩ = some (.int .i64 Y.ap) ∧ W.cell? ⟨b15, 2, none⟩ = some (.int .i64 Y.k) ∧ W.cell? ⟨b15, 3, none⟩ = some (.int .i64 Y.m) ∧ W.cell? ⟨b15, 4, none⟩ = some (.int .i64 Y.n) ∧ W.cell? ⟨b15, 5, none⟩ = some (.string Y.t)) ∧ (W.cell? ⟨b, off + k * 7, none⟩ = some (.int .i64 y.x) ∧ W.cell? ⟨b, off + k * 7 + 1, none⟩ = some (.int .i64 y.r) ∧ W.cell? ⟨b, off + k * 7 + 2, none⟩ = some (.int .i64 y.q) ∧ W.cell? ⟨b, off + k * 7 + 3, none⟩ = some (.int .i64 y.k) ∧ W.cell? ⟨b, off + k * 7 + 4, none⟩ = some (.int .i64 y.m) ∧ W.cell? ⟨b, off + k * 7 + 5, none⟩ = some (.int .i64 y.n) ∧ W.cell? ⟨b, off + k * 7 + 6, none⟩ = some (.string y.t)))) w9.drew := z9
              refine wp_region_held_drew (S := fun W => ((W.cell? ⟨b10, 0, none⟩ = some (.int .i64 M.pr) ∧ W.cell? ⟨b10, 1, none⟩ = some (.int .i64 M.pp)) ∧ (W.cell? ⟨b11, 0, none⟩ = some (.int .i64 X.ar) ∧ W.cell? ⟨b11, 1, none⟩ = some (.int .i64 X.ap) ∧ W.cell? ⟨b11, 2, none⟩ = some (.int .i64 X.k) ∧ W.cell? ⟨b11, 3, none⟩ = some (.int .i64 X.m) ∧ W.cell? ⟨b11, 4, none⟩ = some (.int .i64 X.n) ∧ W.cell? ⟨b11, 5, none⟩ = some (.string X.t)) ∧ (W.cell? ⟨b14, 0, none⟩ = some (.int .i64 N.pr) ∧ W.cell? ⟨b14, 1, none⟩ = some (.int .i64 N.pp)) ∧ (W.cell? ⟨b15, 0, none⟩ = some (.int .i64 Y.ar) ∧ W.cell? ⟨b15, 1, none⟩ = some (.int .i64 Y.ap) ∧ W.cell? ⟨b15, 2, none⟩ = some (.int .i64 Y.k) ∧ W.cell? ⟨b15, 3, none⟩ = some (.int .i64 Y.m) ∧ W.cell? ⟨b15, 4, none⟩ = some (.int .i64 Y.n) ∧ W.cell? ⟨b15, 5, none⟩ = some (.string Y.t)) ∧ (W.cell? ⟨b, off + k * 7, none⟩ = some (.int .i64 y.x) ∧ W.cell? ⟨b, off + k * 7 + 1, none⟩ = some (.int .i64 y.r) ∧ W.cell? ⟨b, off + k * 7 + 2, none⟩ = some (.int .i64 y.q) ∧ W.cell? ⟨b, off + k * 7 + 3, none⟩ = some (.int .i64 y.k) ∧ W.cell? ⟨b, off + k * 7 + 4, none⟩ = some (.int .i64 y.m) ∧ W.cell? ⟨b, off + k * 7 + 5, none⟩ = some (.int .i64 y.n) ∧ W.cell? ⟨b, off + k * 7 + 6, none⟩ = some (.string y.t)))) rfl hS0 (fun hHeld => ?_)
              simp only [List.size_toArray, List.length_cons, List.length_nil, Nat.reduceAdd]
              have HB0 : Hid (Below w9.heap.size w9 w9.drew) := Lib.hid (Below.refl _ _).drew
              obtain ⟨V0, hV0⟩ : ∃ V, w9.drew = V := ⟨_, rfl⟩
              rw [hV0] at hHeld hS0 HB0 ⊢
              clear hV0
              refine wpAnyH_take (i := 0) (v := .agg #[.int .i64 N.pr, .int .i64 N.pp]) rfl (by kernel_rfl) (by kernel_rfl) (by kernel_rfl) (fun _ _ _ h => h) (Or.inl ⟨by rfl, ?_⟩) (by assumption) ?_
              · intro wx hs1; obtain ⟨⟨s0, s1⟩, ⟨p0, p1, p2, p3, p4, p5⟩, ⟨t0, t1⟩, ⟨q0, q1, q2, q3, q4, q5⟩, ⟨x0, x1, x2, x3, x4, x5, x6⟩⟩ := hs1; go_simp
              (try simp only [Act.put, List.getElem_toArray, List.getElem_cons_zero, List.setIfInBounds_toArray, List.set_cons_zero, List.set_cons_succ])
              refine wpAnyH_take (i := 1) (v := .agg #[.int .i64 M.pr, .int .i64 M.pp]) rfl (by kernel_rfl) (by kernel_rfl) (by kernel_rfl) (fun _ _ _ h => h) (Or.inl ⟨by rfl, ?_⟩) (by assumption) ?_
              · intro wx hs1; obtain ⟨⟨s0, s1⟩, ⟨p0, p1, p2, p3, p4, p5⟩, ⟨t0, t1⟩, ⟨q0, q1, q2, q3, q4, q5⟩, ⟨x0, x1, x2, x3, x4, x5, x6⟩⟩ := hs1; go_simp
              (try simp only [Act.put, List.getElem_toArray, List.getElem_cons_succ, List.getElem_cons_zero, List.setIfInBounds_toArray, List.set_cons_zero, List.set_cons_succ])
              refine wpAnyH_ready (rs := [2]) (by kernel_rfl) (by simp) (AllReadyH.cons rfl (fun K hK => ?_) AllReadyH.nil)
              go_simp
              go_at_call 16
              (with_reducible refine (HL1.out _).mono ?_)
              rintro e v1 ⟨rfl, hb⟩
              try dsimp only
              have HC1 : Hid (Below w9.heap.size w9 v1) := Lib.hid (HB0.out.trans (hb.mono HB0.out.size)); clear hb; have hS := HS9.out _ HC1.out
              refine hK.out _ _ hS (fun _ => ?_)
              clear hK K
              (try simp only [Act.put, List.getElem_toArray, List.getElem_cons_succ, List.getElem_cons_zero, List.setIfInBounds_toArray, List.set_cons_zero, List.set_cons_succ])
              refine wpAnyH_take (i := 3) (v := .bool false) rfl (by kernel_rfl) (by kernel_rfl) (by kernel_rfl) (fun _ _ _ h => h) (Or.inl ⟨by rfl, ?_⟩) (by assumption) ?_
              · intro wx hs1; go_simp
              (try simp only [Act.put, List.getElem_toArray, List.getElem_cons_succ, List.getElem_cons_zero, List.setIfInBounds_toArray, List.set_cons_zero, List.set_cons_succ])
              refine wpAnyH_take (i := 4) (v := .bool true) rfl (by kernel_rfl) (by kernel_rfl) (by kernel_rfl) (fun _ _ _ h => h) (Or.inl ⟨by rfl, ?_⟩) (by assumption) ?_
              · intro wx hs1; go_simp
              (try simp only [Act.put, List.getElem_toArray, List.getElem_cons_succ, List.getElem_cons_zero, List.setIfInBounds_toArray, List.set_cons_zero, List.set_cons_succ])
              refine wpAnyH_take (i := 5) (v := .bool true) rfl (by kernel_rfl) (by kernel_rfl) (by kernel_rfl) (fun _ _ _ h => h) (Or.inl ⟨by rfl, ?_⟩) (by assumption) ?_
              · intro wx hs1; go_simp
              (try simp only [Act.put, List.getElem_toArray, List.getElem_cons_succ, List.getElem_cons_zero, List.setIfInBounds_toArray, List.set_cons_zero, List.set_cons_succ])
              refine wpAnyH_take (i := 6) (v := .bool true) rfl (by kernel_rfl) (by kernel_rfl) (by kernel_rfl) (fun _ _ _ h => h) (Or.inl ⟨by rfl, ?_⟩) (by assumption) ?_
              · intro wx hs1; go_simp
              (try simp only [Act.put, List.getElem_toArray, List.getElem_cons_succ, List.getElem_cons_zero, List.setIfInBounds_toArray, List.set_cons_zero, List.set_cons_succ])
              refine wpAnyH_take (i := 7) (v := .bool false) rfl (by kernel_rfl) (by kernel_rfl) (by kernel_rfl) (fun _ _ _ h => h) (Or.inl ⟨by rfl, ?_⟩) (by assumption) ?_
              · intro wx hs1; go_simp
              (try simp only [Act.put, List.getElem_toArray, List.getElem_cons_succ, List.getElem_cons_zero, List.setIfInBounds_toArray, List.set_cons_zero, List.set_cons_succ])
              refine wpAnyH_take (i := 8) (v := .bool false) rfl (by kernel_rfl) (by kernel_rfl) (by kernel_rfl) (fun _ _ _ h => h) (Or.inl ⟨by rfl, ?_⟩) (by assumption) ?_
              · intro wx hs1; go_simp
              (try simp only [Act.put, List.getElem_toArray, List.getElem_cons_succ, List.getElem_cons_zero, List.setIfInBounds_toArray, List.set_cons_zero, List.set_cons_succ])
              refine wpAnyH_take (i := 9) (v := .pointer (some ⟨b15, 0, none⟩)) rfl (by kernel_rfl) (by kernel_rfl) (by kernel_rfl) (fun _ _ _ h => h) (Or.inl ⟨by rfl, ?_⟩) (by assumption) ?_
              · intro wx hs1; go_simp
              (try simp only [Act.put, List.getElem_toArray, List.getElem_cons_succ, List.getElem_cons_zero, List.setIfInBounds_toArray, List.set_cons_zero, List.set_cons_succ])
              refine wpAnyH_take (i := 10) (v := .agg #[.int .i64 Y.ar, .int .i64 Y.ap]) rfl (by kernel_rfl) (by kernel_rfl) (by kernel_rfl) (fun _ _ _ h => h) (Or.inl ⟨by rfl, ?_⟩) (by assumption) ?_
              · intro wx hs1; obtain ⟨⟨s0, s1⟩, ⟨p0, p1, p2, p3, p4, p5⟩, ⟨t0, t1⟩, ⟨q0, q1, q2, q3, q4, q5⟩, ⟨x0, x1, x2, x3, x4, x5, x6⟩⟩ := hs1; go_simp
              (try simp only [Act.put, List.getElem_toArray, List.getElem_cons_succ, List.getElem_cons_zero, List.setIfInBounds_toArray, List.set_cons_zero, List.set_cons_succ])
              refine wpAnyH_take (i := 11) (v := .pointer (some ⟨b11, 0, none⟩)) rfl (by kernel_rfl) (by kernel_rfl) (by kernel_rfl) (fun _ _ _ h => h) (Or.inl ⟨by rfl, ?_⟩) (by assumption) ?_
              · intro wx hs1; go_simp
              (try simp only [Act.put, List.getElem_toArray, List.getElem_cons_succ, List.getElem_cons_zero, List.setIfInBounds_toArray, List.set_cons_zero, List.set_cons_succ])
              refine wpAnyH_take (i := 12) (v := .agg #[.int .i64 X.ar, .int .i64 X.ap]) rfl (by kernel_rfl) (by kernel_rfl) (by kernel_rfl) (fun _ _ _ h => h) (Or.inl ⟨by rfl, ?_⟩) (by assumption) ?_
              · intro wx hs1; obtain ⟨⟨s0, s1⟩, ⟨p0, p1, p2, p3, p4, p5⟩, ⟨t0, t1⟩, ⟨q0, q1, q2, q3, q4, q5⟩, ⟨x0, x1, x2, x3, x4, x5, x6⟩⟩ := hs1; go_simp
              (try simp only [Act.put, List.getElem_toArray, List.getElem_cons_succ, List.getElem_cons_zero, List.setIfInBounds_toArray, List.set_cons_zero, List.set_cons_succ])
              refine wpAnyH_ready (rs := [13]) (by kernel_rfl) (by simp) (AllReadyH.cons rfl (fun K hK => ?_) AllReadyH.nil)
              go_simp
              go_at_call 16
              (with_reducible refine (HL2.out _).mono ?_)
              rintro e v2 ⟨rfl, hb⟩
              try dsimp only
              have HC2 : Hid (Below w9.heap.size w9 v2) := Lib.hid (HC1.out.trans (hb.mono HC1.out.size)); clear hb; have hS := HS9.out _ HC2.out
              refine hK.out _ _ hS (fun _ => ?_)
              clear hK K
              (try simp only [Act.put, List.getElem_toArray, List.getElem_cons_succ, List.getElem_cons_zero, List.setIfInBounds_toArray, List.set_cons_zero, List.set_cons_succ])
              refine wpAnyH_take (i := 14) (v := .bool false) rfl (by kernel_rfl) (by kernel_rfl) (by kernel_rfl) (fun _ _ _ h => h) (Or.inl ⟨by rfl, ?_⟩) (by assumption) ?_
              · intro wx hs1; go_simp
              (try simp only [Act.put, List.getElem_toArray, List.getElem_cons_succ, List.getElem_cons_zero, List.setIfInBounds_toArray, List.set_cons_zero, List.set_cons_succ])
              refine wpAnyH_take (i := 15) (v := .bool false) rfl (by kernel_rfl) (by kernel_rfl) (by kernel_rfl) (fun _ _ _ h => h) (Or.inl ⟨by rfl, ?_⟩) (by assumption) ?_
              · intro wx hs1; go_simp
              (try simp only [Act.put, List.getElem_toArray, List.getElem_cons_succ, List.getElem_cons_zero, List.setIfInBounds_toArray, List.set_cons_zero, List.set_cons_succ])
              refine wpAnyH_take (i := 16) (v := .bool false) rfl (by kernel_rfl) (by kernel_rfl) (by kernel_rfl) (fun _ _ _ h => h) (Or.inl ⟨by rfl, ?_⟩) (by assumption) ?_
              · intro wx hs1; go_simp
              (try simp only [Act.put, List.getElem_toArray, List.getElem_cons_succ, List.getElem_cons_zero, List.setIfInBounds_toArray, List.set_cons_zero, List.set_cons_succ])
              refine wpAnyH_take (i := 17) (v := .bool false) rfl (by kernel_rfl) (by kernel_rfl) (by kernel_rfl) (fun _ _ _ h => h) (Or.inl ⟨by rfl, ?_⟩) (by assumption) ?_
              · intro wx hs1; go_simp
              (try simp only [Act.put, List.getElem_toArray, List.getElem_cons_succ, List.getElem_cons_zero, List.setIfInBounds_toArray, List.set_cons_zero, List.set_cons_succ])
              refine wpAnyH_take (i := 18) (v := .bool true) rfl (by kernel_rfl) (by kernel_rfl) (by kernel_rfl) (fun _ _ _ h => h) (Or.inl ⟨by rfl, ?_⟩) (by assumption) ?_
              · intro wx hs1; go_simp
              (try simp only [Act.put, List.getElem_toArray, List.getElem_cons_succ, List.getElem_cons_zero, List.setIfInBounds_toArray, List.set_cons_zero, List.set_cons_succ])
              refine wpAnyH_take (i := 19) (v := .bool true) rfl (by kernel_rfl) (by kernel_rfl) (by kernel_rfl) (fun _ _ _ h => h) (Or.inl ⟨by rfl, ?_⟩) (by assumption) ?_
              · intro wx hs1; go_simp
              (try simp only [Act.put, List.getElem_toArray, List.getElem_cons_succ, List.getElem_cons_zero, List.setIfInBounds_toArray, List.set_cons_zero, List.set_cons_succ])
              refine wpAnyH_take (i := 20) (v := .agg #[.int .i64 N.pr, .int .i64 N.pp]) rfl (by kernel_rfl) (by kernel_rfl) (by kernel_rfl) (fun _ _ _ h => h) (Or.inl ⟨by rfl, ?_⟩) (by assumption) ?_
              · intro wx hs1; obtain ⟨⟨s0, s1⟩, ⟨p0, p1, p2, p3, p4, p5⟩, ⟨t0, t1⟩, ⟨q0, q1, q2, q3, q4, q5⟩, ⟨x0, x1, x2, x3, x4, x5, x6⟩⟩ := hs1; go_simp
              (try simp only [Act.put, List.getElem_toArray, List.getElem_cons_succ, List.getElem_cons_zero, List.setIfInBounds_toArray, List.set_cons_zero, List.set_cons_succ])
              refine wpAnyH_take (i := 21) (v := .pointer (some ⟨b15, 0, none⟩)) rfl (by kernel_rfl) (by kernel_rfl) (by kernel_rfl) (fun _ _ _ h => h) (Or.inl ⟨by rfl, ?_⟩) (by assumption) ?_
              · intro wx hs1; go_simp
              (try simp only [Act.put, List.getElem_toArray, List.getElem_cons_succ, List.getElem_cons_zero, List.setIfInBounds_toArray, List.set_cons_zero, List.set_cons_succ])
              refine wpAnyH_take (i := 22) (v := .agg #[.int .i64 Y.ar, .int .i64 Y.ap]) rfl (by kernel_rfl) (by kernel_rfl) (by kernel_rfl) (fun _ _ _ h => h) (Or.inl ⟨by rfl, ?_⟩) (by assumption) ?_
              · intro wx hs1; obtain ⟨⟨s0, s1⟩, ⟨p0, p1, p2, p3, p4, p5⟩, ⟨t0, t1⟩, ⟨q0, q1, q2, q3, q4, q5⟩, ⟨x0, x1, x2, x3, x4, x5, x6⟩⟩ := hs1; go_simp
              (try simp only [Act.put, List.getElem_toArray, List.getElem_cons_succ, List.getElem_cons_zero, List.setIfInBounds_toArray, List.set_cons_zero, List.set_cons_succ])
              refine wpAnyH_ready (rs := [23]) (by kernel_rfl) (by simp) (AllReadyH.cons rfl (fun K hK => ?_) AllReadyH.nil)
              go_simp
              go_at_call 16
              (with_reducible refine (HL3.out _).mono ?_)
              rintro e v3 ⟨rfl, hb⟩
              try dsimp only
              have HC3 : Hid (Below w9.heap.size w9 v3) := Lib.hid (HC2.out.trans (hb.mono HC2.out.size)); clear hb; have hS := HS9.out _ HC3.out
              refine hK.out _ _ hS (fun _ => ?_)
              clear hK K
              (try simp only [Act.put, List.getElem_toArray, List.getElem_cons_succ, List.getElem_cons_zero, List.setIfInBounds_toArray, List.set_cons_zero, List.set_cons_succ])
              refine wpAnyH_take (i := 24) (v := .bool false) rfl (by kernel_rfl) (by kernel_rfl) (by kernel_rfl) (fun _ _ _ h => h) (Or.inl ⟨by rfl, ?_⟩) (by assumption) ?_
              · intro wx hs1; go_simp
              (try simp only [Act.put, List.getElem_toArray, List.getElem_cons_succ, List.getElem_cons_zero, List.setIfInBounds_toArray, List.set_cons_zero, List.set_cons_succ])
              refine wpAnyH_take (i := 25) (v := .bool false) rfl (by kernel_rfl) (by kernel_rfl) (by kernel_rfl) (fun _ _ _ h => h) (Or.inl ⟨by rfl, ?_⟩) (by assumption) ?_
              · intro wx hs1; go_simp
              (try simp only [Act.put, List.getElem_toArray, List.getElem_cons_succ, List.getElem_cons_zero, List.setIfInBounds_toArray, List.set_cons_zero, List.set_cons_succ])
              refine wpAnyH_take (i := 26) (v := .bool false) rfl (by kernel_rfl) (by kernel_rfl) (by kernel_rfl) (fun _ _ _ h => h) (Or.inl ⟨by rfl, ?_⟩) (by assumption) ?_
              · intro wx hs1; go_simp
              (try simp only [Act.put, List.getElem_toArray, List.getElem_cons_succ, List.getElem_cons_zero, List.setIfInBounds_toArray, List.set_cons_zero, List.set_cons_succ])
              refine wpAnyH_take (i := 27) (v := .bool false) rfl (by kernel_rfl) (by kernel_rfl) (by kernel_rfl) (fun _ _ _ h => h) (Or.inl ⟨by rfl, ?_⟩) (by assumption) ?_
              · intro wx hs1; go_simp
              (try simp only [Act.put, List.getElem_toArray, List.getElem_cons_succ, List.getElem_cons_zero, List.setIfInBounds_toArray, List.set_cons_zero, List.set_cons_succ])
              refine wpAnyH_take (i := 28) (v := .bool false) rfl (by kernel_rfl) (by kernel_rfl) (by kernel_rfl) (fun _ _ _ h => h) (Or.inl ⟨by rfl, ?_⟩) (by assumption) ?_
              · intro wx hs1; go_simp
              (try simp only [Act.put, List.getElem_toArray, List.getElem_cons_succ, List.getElem_cons_zero, List.setIfInBounds_toArray, List.set_cons_zero, List.set_cons_succ])
              refine wpAnyH_take (i := 29) (v := undef) rfl (by kernel_rfl) (by kernel_rfl) (by kernel_rfl) (fun _ _ _ h => h) (Or.inr ⟨by rfl, rfl⟩) (by assumption) ?_
              (try simp only [Act.put, List.getElem_toArray, List.getElem_cons_succ, List.getElem_cons_zero, List.setIfInBounds_toArray, List.set_cons_zero, List.set_cons_succ])
              refine wpAnyH_take (i := 30) (v := undef) rfl (by kernel_rfl) (by kernel_rfl) (by kernel_rfl) (fun _ _ _ h => h) (Or.inr ⟨by rfl, rfl⟩) (by assumption) ?_
              (try simp only [Act.put, List.getElem_toArray, List.getElem_cons_succ, List.getElem_cons_zero, List.setIfInBounds_toArray, List.set_cons_zero, List.set_cons_succ])
              refine wpAnyH_take (i := 31) (v := undef) rfl (by kernel_rfl) (by kernel_rfl) (by kernel_rfl) (fun _ _ _ h => h) (Or.inr ⟨by rfl, rfl⟩) (by assumption) ?_
              (try simp only [Act.put, List.getElem_toArray, List.getElem_cons_succ, List.getElem_cons_zero, List.setIfInBounds_toArray, List.set_cons_zero, List.set_cons_succ])
              refine wpAnyH_take (i := 32) (v := undef) rfl (by kernel_rfl) (by kernel_rfl) (by kernel_rfl) (fun _ _ _ h => h) (Or.inr ⟨by rfl, rfl⟩) (by assumption) ?_
              (try simp only [Act.put, List.getElem_toArray, List.getElem_cons_succ, List.getElem_cons_zero, List.setIfInBounds_toArray, List.set_cons_zero, List.set_cons_succ])
              refine wpAnyH_take (i := 33) (v := undef) rfl (by kernel_rfl) (by kernel_rfl) (by kernel_rfl) (fun _ _ _ h => h) (Or.inr ⟨by rfl, rfl⟩) (by assumption) ?_
              (try simp only [Act.put, List.getElem_toArray, List.getElem_cons_succ, List.getElem_cons_zero, List.setIfInBounds_toArray, List.set_cons_zero, List.set_cons_succ])
              refine wpAnyH_take (i := 34) (v := undef) rfl (by kernel_rfl) (by kernel_rfl) (by kernel_rfl) (fun _ _ _ h => h) (Or.inr ⟨by rfl, rfl⟩) (by assumption) ?_
              (try simp only [Act.put, List.getElem_toArray, List.getElem_cons_succ, List.getElem_cons_zero, List.setIfInBounds_toArray, List.set_cons_zero, List.set_cons_succ])
              refine wpAnyH_take (i := 35) (v := undef) rfl (by kernel_rfl) (by kernel_rfl) (by kernel_rfl) (fun _ _ _ h => h) (Or.inr ⟨by rfl, rfl⟩) (by assumption) ?_
              (try simp only [Act.put, List.getElem_toArray, List.getElem_cons_succ, List.getElem_cons_zero, List.setIfInBounds_toArray, List.set_cons_zero, List.set_cons_succ])
              refine wpAnyH_take (i := 36) (v := .bool false) rfl (by kernel_rfl) (by kernel_rfl) (by kernel_rfl) (fun _ _ _ h => h) (Or.inl ⟨by rfl, ?_⟩) (by assumption) ?_
              · intro wx hs1; go_simp
              (try simp only [Act.put, List.getElem_toArray, List.getElem_cons_succ, List.getElem_cons_zero, List.setIfInBounds_toArray, List.set_cons_zero, List.set_cons_succ])
              refine wpAnyH_take (i := 37) (v := .bool false) rfl (by kernel_rfl) (by kernel_rfl) (by kernel_rfl) (fun _ _ _ h => h) (Or.inl ⟨by rfl, ?_⟩) (by assumption) ?_
              · intro wx hs1; go_simp
              (try simp only [Act.put, List.getElem_toArray, List.getElem_cons_succ, List.getElem_cons_zero, List.setIfInBounds_toArray, List.set_cons_zero, List.set_cons_succ])
              refine wpAnyH_take (i := 38) (v := .bool false) rfl (by kernel_rfl) (by kernel_rfl) (by kernel_rfl) (fun _ _ _ h => h) (Or.inl ⟨by rfl, ?_⟩) (by assumption) ?_
              · intro wx hs1; go_simp
              (try simp only [Act.put, List.getElem_toArray, List.getElem_cons_succ, List.getElem_cons_zero, List.setIfInBounds_toArray, List.set_cons_zero, List.set_cons_succ])
              refine wpAnyH_take (i := 39) (v := .bool false) rfl (by kernel_rfl) (by kernel_rfl) (by kernel_rfl) (fun _ _ _ h => h) (Or.inl ⟨by rfl, ?_⟩) (by assumption) ?_
              · intro wx hs1; go_simp
              (try simp only [Act.put, List.getElem_toArray, List.getElem_cons_succ, List.getElem_cons_zero, List.setIfInBounds_toArray, List.set_cons_zero, List.set_cons_succ])
              refine wpAnyH_take (i := 40) (v := .bool true) rfl (by kernel_rfl) (by kernel_rfl) (by kernel_rfl) (fun _ _ _ h => h) (Or.inl ⟨by rfl, ?_⟩) (by assumption) ?_
              · intro wx hs1; go_simp
              (try simp only [Act.put, List.getElem_toArray, List.getElem_cons_succ, List.getElem_cons_zero, List.setIfInBounds_toArray, List.set_cons_zero, List.set_cons_succ])
              refine wpAnyH_take (i := 41) (v := .bool true) rfl (by kernel_rfl) (by kernel_rfl) (by kernel_rfl) (fun _ _ _ h => h) (Or.inl ⟨by rfl, ?_⟩) (by assumption) ?_
              · intro wx hs1; go_simp
              (try simp only [Act.put, List.getElem_toArray, List.getElem_cons_succ, List.getElem_cons_zero, List.setIfInBounds_toArray, List.set_cons_zero, List.set_cons_succ])
              refine wpAnyH_take (i := 42) (v := .agg #[.int .i64 N.pr, .int .i64 N.pp]) rfl (by kernel_rfl) (by kernel_rfl) (by kernel_rfl) (fun _ _ _ h => h) (Or.inl ⟨by rfl, ?_⟩) (by assumption) ?_
              · intro wx hs1; obtain ⟨⟨s0, s1⟩, ⟨p0, p1, p2, p3, p4, p5⟩, ⟨t0, t1⟩, ⟨q0, q1, q2, q3, q4, q5⟩, ⟨x0, x1, x2, x3, x4, x5, x6⟩⟩ := hs1; go_simp
              (try simp only [Act.put, List.getElem_toArray, List.getElem_cons_succ, List.getElem_cons_zero, List.setIfInBounds_toArray, List.set_cons_zero, List.set_cons_succ])
              refine wpAnyH_take (i := 43) (v := .agg #[.int .i64 M.pr, .int .i64 M.pp]) rfl (by kernel_rfl) (by kernel_rfl) (by kernel_rfl) (fun _ _ _ h => h) (Or.inl ⟨by rfl, ?_⟩) (by assumption) ?_
              · intro wx hs1; obtain ⟨⟨s0, s1⟩, ⟨p0, p1, p2, p3, p4, p5⟩, ⟨t0, t1⟩, ⟨q0, q1, q2, q3, q4, q5⟩, ⟨x0, x1, x2, x3, x4, x5, x6⟩⟩ := hs1; go_simp
              (try simp only [Act.put, List.getElem_toArray, List.getElem_cons_succ, List.getElem_cons_zero, List.setIfInBounds_toArray, List.set_cons_zero, List.set_cons_succ])
              refine wpAnyH_take (i := 44) (v := .bool false) rfl (by kernel_rfl) (by kernel_rfl) (by kernel_rfl) (fun _ _ _ h => h) (Or.inl ⟨by rfl, ?_⟩) (by assumption) ?_
              · intro wx hs1; clear hs1; have e3 := hne36 wx; go_simp
              (try simp only [Act.put, List.getElem_toArray, List.getElem_cons_succ, List.getElem_cons_zero, List.setIfInBounds_toArray, List.set_cons_zero, List.set_cons_succ])
              refine wpAnyH_take (i := 45) (v := .bool false) rfl (by kernel_rfl) (by kernel_rfl) (by kernel_rfl) (fun _ _ _ h => h) (Or.inl ⟨by rfl, ?_⟩) (by assumption) ?_
              · intro wx hs1; go_simp
              (try simp only [Act.put, List.getElem_toArray, List.getElem_cons_succ, List.getElem_cons_zero, List.setIfInBounds_toArray, List.set_cons_zero, List.set_cons_succ])
              refine wpAnyH_take (i := 46) (v := .agg #[.int .i64 X.ar, .int .i64 X.ap, .int .i64 X.k, .int .i64 X.m, .int .i64 X.n, .string X.t]) rfl (by kernel_rfl) (by kernel_rfl) (by kernel_rfl) (fun _ _ _ h => h) (Or.inl ⟨by rfl, ?_⟩) (by assumption) ?_
              · intro wx hs1; obtain ⟨⟨s0, s1⟩, ⟨p0, p1, p2, p3, p4, p5⟩, ⟨t0, t1⟩, ⟨q0, q1, q2, q3, q4, q5⟩, ⟨x0, x1, x2, x3, x4, x5, x6⟩⟩ := hs1; go_simp
              (try simp only [Act.put, List.getElem_toArray, List.getElem_cons_succ, List.getElem_cons_zero, List.setIfInBounds_toArray, List.set_cons_zero, List.set_cons_succ])
              refine wpAnyH_take (i := 47) (v := .agg #[.int .i64 Y.ar, .int .i64 Y.ap, .int .i64 Y.k, .int .i64 Y.m, .int .i64 Y.n, .string Y.t]) rfl (by kernel_rfl) (by kernel_rfl) (by kernel_rfl) (fun _ _ _ h => h) (Or.inl ⟨by rfl, ?_⟩) (by assumption) ?_
              · intro wx hs1; obtain ⟨⟨s0, s1⟩, ⟨p0, p1, p2, p3, p4, p5⟩, ⟨t0, t1⟩, ⟨q0, q1, q2, q3, q4, q5⟩, ⟨x0, x1, x2, x3, x4, x5, x6⟩⟩ := hs1; go_simp
              (try simp only [Act.put, List.getElem_toArray, List.getElem_cons_succ, List.getElem_cons_zero, List.setIfInBounds_toArray, List.set_cons_zero, List.set_cons_succ])
              refine wpAnyH_take (i := 48) (v := .bool false) rfl (by kernel_rfl) (by kernel_rfl) (by kernel_rfl) (fun _ _ _ h => h) (Or.inl ⟨by rfl, ?_⟩) (by assumption) ?_
              · intro wx hs1; clear hs1; have e3 := hne39 wx; go_simp
              (try simp only [Act.put, List.getElem_toArray, List.getElem_cons_succ, List.getElem_cons_zero, List.setIfInBounds_toArray, List.set_cons_zero, List.set_cons_succ])
              refine wpAnyH_take (i := 49) (v := .bool false) rfl (by kernel_rfl) (by kernel_rfl) (by kernel_rfl) (fun _ _ _ h => h) (Or.inl ⟨by rfl, ?_⟩) (by assumption) ?_
              · intro wx hs1; go_simp
              (try simp only [Act.put, List.getElem_toArray, List.getElem_cons_succ, List.getElem_cons_zero, List.setIfInBounds_toArray, List.set_cons_zero, List.set_cons_succ])
              refine wpAnyH_take (i := 50) (v := .bool false) rfl (by kernel_rfl) (by kernel_rfl) (by kernel_rfl) (fun _ _ _ h => h) (Or.inl ⟨by rfl, ?_⟩) (by assumption) ?_
              · intro wx hs1; go_simp
              (try simp only [Act.put, List.getElem_toArray, List.getElem_cons_succ, List.getElem_cons_zero, List.setIfInBounds_toArray, List.set_cons_zero, List.set_cons_succ])
              refine wpAnyH_take (i := 51) (v := .bool false) rfl (by kernel_rfl) (by kernel_rfl) (by kernel_rfl) (fun _ _ _ h => h) (Or.inl ⟨by rfl, ?_⟩) (by assumption) ?_
              · intro wx hs1; go_simp
              (try simp only [Act.put, List.getElem_toArray, List.getElem_cons_succ, List.getElem_cons_zero, List.setIfInBounds_toArray, List.set_cons_zero, List.set_cons_succ])
              refine wpAnyH_done (by kernel_rfl) ?_ _
              go_wp2_with fail
              go_roundw
              case rel => exact ⟨k + 1, by omega, by go_num, Lib.hid (by rw [HST.out]; exact ⟨AAt.keep HA9.out HC3.out, HBW.out.trans (HC3.out.mono HBW.out.size)⟩)⟩
              case measure => simp [RowKit.intOf]; omega
            · have HL2 := Lib.hid (HL2a.out rfl)
              have HL3 := Lib.hid (HL3a.out rfl)
              have HL4 := Lib.hid (HL4a.out rfl)
              clear HL2a HL3a HL4a K1 K2
              have hS0 : (fun W => ((W.cell? ⟨b10, 0, none⟩ = some (.int .i64 M.pr) ∧ W.cell? ⟨b10, 1, none⟩ = some (.int .i64 M.pp)) ∧ (W.cell? ⟨b11, 0, none⟩ = some (.int .i64 X.ar) ∧ W.cell? ⟨b11, 1, none⟩ = some (.int .i64 X.ap) ∧ W.cell? ⟨b11, 2, none⟩ = some (.int .i64 X.k) ∧ W.cell? ⟨b11, 3, none⟩ = some (.int .i64 X.m) ∧ W.cell? ⟨b11, 4, none⟩ = some (.int .i64 X.n) ∧ W.cell? ⟨b11, 5, none⟩ = some (.string X.t)) ∧ (W.cell? ⟨b14, 0, none⟩ = some (.int .i64 N.pr) ∧ W.cell? ⟨b14, 1, none⟩ = some (.int .i64 N.pp)) ∧ (W.cell? ⟨b15, 0, none⟩ = some (.int .i64 Y.ar) ∧ W.cell? ⟨b15, 1, none⟩ = some (.int .i64 Y.ap) ∧ W.cell? ⟨b15, 2, none⟩ = some (.int .i64 Y.k) ∧ W.cell? ⟨b15, 3, none⟩ = some (.int .i64 Y.m) ∧ W.cell? ⟨b15, 4, none⟩ = some (.int .i64 Y.n) ∧ W.cell? ⟨b15, 5, none⟩ = some (.string Y.t)) ∧ (W.cell? ⟨b, off + k * 7, none⟩ = some (.int .i64 y.x) ∧ W.cell? ⟨b, off + k * 7 + 1, none⟩ = some (.int .i64 y.r) ∧ W.cell? ⟨b, off + k * 7 + 2, none⟩ = some (.int .i64 y.q) ∧ W.cell? ⟨b, off + k * 7 + 3, none⟩ = some (.int .i64 y.k) ∧ W.cell? ⟨b, off + k * 7 + 4, none⟩ = some (.int .i64 y.m) ∧ W.cell? ⟨b, off + k * 7 + 5, none⟩ = some (.int .i64 y.n) ∧ W.cell? ⟨b, off + k * 7 + 6, none⟩ = some (.string y.t)))) w9.drew := z9
              refine wp_region_held_drew (S := fun W => ((W.cell? ⟨b10, 0, none⟩ = some (.int .i64 M.pr) ∧ W.cell? ⟨b10, 1, none⟩ = some (.int .i64 M.pp)) ∧ (W.cell? ⟨b11, 0, none⟩ = some (.int .i64 X.ar) ∧ W.cell? ⟨b11, 1, none⟩ = some (.int .i64 X.ap) ∧ W.cell? ⟨b11, 2, none⟩ = some (.int .i64 X.k) ∧ W.cell? ⟨b11, 3, none⟩ = some (.int .i64 X.m) ∧ W.cell? ⟨b11, 4, none⟩ = some (.int .i64 X.n) ∧ W.cell? ⟨b11, 5, none⟩ = some (.string X.t)) ∧ (W.cell? ⟨b14, 0, none⟩ = some (.int .i64 N.pr) ∧ W.cell? ⟨b14, 1, none⟩ = some (.int .i64 N.pp)) ∧ (W.cell? ⟨b15, 0, none⟩ = some (.int .i64 Y.ar) ∧ W.cell? ⟨b15, 1, none⟩ = some (.int .i64 Y.ap) ∧ W.cell? ⟨b15, 2, none⟩ = some (.int .i64 Y.k) ∧ W.cell? ⟨b15, 3, none⟩ = some (.int .i64 Y.m) ∧ W.cell? ⟨b15, 4, none⟩ = some (.int .i64 Y.n) ∧ W.cell? ⟨b15, 5, none⟩ = some (.string Y.t)) ∧ (W.cell? ⟨b, off + k * 7, none⟩ = some (.int .i64 y.x) ∧ W.cell? ⟨b, off + k * 7 + 1, none⟩ = some (.int .i64 y.r) ∧ W.cell? ⟨b, off + k * 7 + 2, none⟩ = some (.int .i64 y.q) ∧ W.cell? ⟨b, off + k * 7 + 3, none⟩ = some (.int .i64 y.k) ∧ W.cell? ⟨b, off + k * 7 + 4, none⟩ = some (.int .i64 y.m) ∧ W.cell? ⟨b, off + k * 7 + 5, none⟩ = some (.int .i64 y.n) ∧ W.cell? ⟨b, off + k * 7 + 6, none⟩ = some (.string y.t)))) rfl hS0 (fun hHeld => ?_)
              simp only [List.size_toArray, List.length_cons, List.length_nil, Nat.reduceAdd]
              have HB0 : Hid (Below w9.heap.size w9 w9.drew) := Lib.hid (Below.refl _ _).drew
              obtain ⟨V0, hV0⟩ : ∃ V, w9.drew = V := ⟨_, rfl⟩
              rw [hV0] at hHeld hS0 HB0 ⊢
              clear hV0
              refine wpAnyH_take (i := 0) (v := .agg #[.int .i64 N.pr, .int .i64 N.pp]) rfl (by kernel_rfl) (by kernel_rfl) (by kernel_rfl) (fun _ _ _ h => h) (Or.inl ⟨by rfl, ?_⟩) (by assumption) ?_
              · intro wx hs1; obtain ⟨⟨s0, s1⟩, ⟨p0, p1, p2, p3, p4, p5⟩, ⟨t0, t1⟩, ⟨q0, q1, q2, q3, q4, q5⟩, ⟨x0, x1, x2, x3, x4, x5, x6⟩⟩ := hs1; go_simp
              (try simp only [Act.put, List.getElem_toArray, List.getElem_cons_zero, List.setIfInBounds_toArray, List.set_cons_zero, List.set_cons_succ])
              refine wpAnyH_take (i := 1) (v := .agg #[.int .i64 M.pr, .int .i64 M.pp]) rfl (by kernel_rfl) (by kernel_rfl) (by kernel_rfl) (fun _ _ _ h => h) (Or.inl ⟨by rfl, ?_⟩) (by assumption) ?_
              · intro wx hs1; obtain ⟨⟨s0, s1⟩, ⟨p0, p1, p2, p3, p4, p5⟩, ⟨t0, t1⟩, ⟨q0, q1, q2, q3, q4, q5⟩, ⟨x0, x1, x2, x3, x4, x5, x6⟩⟩ := hs1; go_simp
              (try simp only [Act.put, List.getElem_toArray, List.getElem_cons_succ, List.getElem_cons_zero, List.setIfInBounds_toArray, List.set_cons_zero, List.set_cons_succ])
              refine wpAnyH_ready (rs := [2]) (by kernel_rfl) (by simp) (AllReadyH.cons rfl (fun K hK => ?_) AllReadyH.nil)
              go_simp
              go_at_call 16
              (with_reducible refine (HL1.out _).mono ?_)
              rintro e v1 ⟨rfl, hb⟩
              try dsimp only
              have HC1 : Hid (Below w9.heap.size w9 v1) := Lib.hid (HB0.out.trans (hb.mono HB0.out.size)); clear hb; have hS := HS9.out _ HC1.out
              refine hK.out _ _ hS (fun _ => ?_)
              clear hK K
              (try simp only [Act.put, List.getElem_toArray, List.getElem_cons_succ, List.getElem_cons_zero, List.setIfInBounds_toArray, List.set_cons_zero, List.set_cons_succ])
              refine wpAnyH_take (i := 3) (v := .bool false) rfl (by kernel_rfl) (by kernel_rfl) (by kernel_rfl) (fun _ _ _ h => h) (Or.inl ⟨by rfl, ?_⟩) (by assumption) ?_
              · intro wx hs1; go_simp
              (try simp only [Act.put, List.getElem_toArray, List.getElem_cons_succ, List.getElem_cons_zero, List.setIfInBounds_toArray, List.set_cons_zero, List.set_cons_succ])
              refine wpAnyH_take (i := 4) (v := .bool true) rfl (by kernel_rfl) (by kernel_rfl) (by kernel_rfl) (fun _ _ _ h => h) (Or.inl ⟨by rfl, ?_⟩) (by assumption) ?_
              · intro wx hs1; go_simp
              (try simp only [Act.put, List.getElem_toArray, List.getElem_cons_succ, List.getElem_cons_zero, List.setIfInBounds_toArray, List.set_cons_zero, List.set_cons_succ])
              refine wpAnyH_take (i := 5) (v := .bool true) rfl (by kernel_rfl) (by kernel_rfl) (by kernel_rfl) (fun _ _ _ h => h) (Or.inl ⟨by rfl, ?_⟩) (by assumption) ?_
              · intro wx hs1; go_simp
              (try simp only [Act.put, List.getElem_toArray, List.getElem_cons_succ, List.getElem_cons_zero, List.setIfInBounds_toArray, List.set_cons_zero, List.set_cons_succ])
              refine wpAnyH_take (i := 6) (v := .bool true) rfl (by kernel_rfl) (by kernel_rfl) (by kernel_rfl) (fun _ _ _ h => h) (Or.inl ⟨by rfl, ?_⟩) (by assumption) ?_
              · intro wx hs1; go_simp
              (try simp only [Act.put, List.getElem_toArray, List.getElem_cons_succ, List.getElem_cons_zero, List.setIfInBounds_toArray, List.set_cons_zero, List.set_cons_succ])
              refine wpAnyH_take (i := 7) (v := .bool false) rfl (by kernel_rfl) (by kernel_rfl) (by kernel_rfl) (fun _ _ _ h => h) (Or.inl ⟨by rfl, ?_⟩) (by assumption) ?_
              · intro wx hs1; go_simp
              (try simp only [Act.put, List.getElem_toArray, List.getElem_cons_succ, List.getElem_cons_zero, List.setIfInBounds_toArray, List.set_cons_zero, List.set_cons_succ])
              refine wpAnyH_take (i := 8) (v := .bool false) rfl (by kernel_rfl) (by kernel_rfl) (by kernel_rfl) (fun _ _ _ h => h) (Or.inl ⟨by rfl, ?_⟩) (by assumption) ?_
              · intro wx hs1; go_simp
              (try simp only [Act.put, List.getElem_toArray, List.getElem_cons_succ, List.getElem_cons_zero, List.setIfInBounds_toArray, List.set_cons_zero, List.set_cons_succ])
              refine wpAnyH_take (i := 9) (v := .pointer (some ⟨b15, 0, none⟩)) rfl (by kernel_rfl) (by kernel_rfl) (by kernel_rfl) (fun _ _ _ h => h) (Or.inl ⟨by rfl, ?_⟩) (by assumption) ?_
              · intro wx hs1; go_simp
              (try simp only [Act.put, List.getElem_toArray, List.getElem_cons_succ, List.getElem_cons_zero, List.setIfInBounds_toArray, List.set_cons_zero, List.set_cons_succ])
              refine wpAnyH_take (i := 10) (v := .agg #[.int .i64 Y.ar, .int .i64 Y.ap]) rfl (by kernel_rfl) (by kernel_rfl) (by kernel_rfl) (fun _ _ _ h => h) (Or.inl ⟨by rfl, ?_⟩) (by assumption) ?_
              · intro wx hs1; obtain ⟨⟨s0, s1⟩, ⟨p0, p1, p2, p3, p4, p5⟩, ⟨t0, t1⟩, ⟨q0, q1, q2, q3, q4, q5⟩, ⟨x0, x1, x2, x3, x4, x5, x6⟩⟩ := hs1; go_simp
              (try simp only [Act.put, List.getElem_toArray, List.getElem_cons_succ, List.getElem_cons_zero, List.setIfInBounds_toArray, List.set_cons_zero, List.set_cons_succ])
              refine wpAnyH_take (i := 11) (v := .pointer (some ⟨b11, 0, none⟩)) rfl (by kernel_rfl) (by kernel_rfl) (by kernel_rfl) (fun _ _ _ h => h) (Or.inl ⟨by rfl, ?_⟩) (by assumption) ?_
              · intro wx hs1; go_simp
              (try simp only [Act.put, List.getElem_toArray, List.getElem_cons_succ, List.getElem_cons_zero, List.setIfInBounds_toArray, List.set_cons_zero, List.set_cons_succ])
              refine wpAnyH_take (i := 12) (v := .agg #[.int .i64 X.ar, .int .i64 X.ap]) rfl (by kernel_rfl) (by kernel_rfl) (by kernel_rfl) (fun _ _ _ h => h) (Or.inl ⟨by rfl, ?_⟩) (by assumption) ?_
              · intro wx hs1; obtain ⟨⟨s0, s1⟩, ⟨p0, p1, p2, p3, p4, p5⟩, ⟨t0, t1⟩, ⟨q0, q1, q2, q3, q4, q5⟩, ⟨x0, x1, x2, x3, x4, x5, x6⟩⟩ := hs1; go_simp
              (try simp only [Act.put, List.getElem_toArray, List.getElem_cons_succ, List.getElem_cons_zero, List.setIfInBounds_toArray, List.set_cons_zero, List.set_cons_succ])
              refine wpAnyH_ready (rs := [13]) (by kernel_rfl) (by simp) (AllReadyH.cons rfl (fun K hK => ?_) AllReadyH.nil)
              go_simp
              go_at_call 16
              (with_reducible refine (HL2.out _).mono ?_)
              rintro e v2 ⟨rfl, hb⟩
              try dsimp only
              have HC2 : Hid (Below w9.heap.size w9 v2) := Lib.hid (HC1.out.trans (hb.mono HC1.out.size)); clear hb; have hS := HS9.out _ HC2.out
              refine hK.out _ _ hS (fun _ => ?_)
              clear hK K
              (try simp only [Act.put, List.getElem_toArray, List.getElem_cons_succ, List.getElem_cons_zero, List.setIfInBounds_toArray, List.set_cons_zero, List.set_cons_succ])
              refine wpAnyH_take (i := 14) (v := .bool false) rfl (by kernel_rfl) (by kernel_rfl) (by kernel_rfl) (fun _ _ _ h => h) (Or.inl ⟨by rfl, ?_⟩) (by assumption) ?_
              · intro wx hs1; go_simp
              (try simp only [Act.put, List.getElem_toArray, List.getElem_cons_succ, List.getElem_cons_zero, List.setIfInBounds_toArray, List.set_cons_zero, List.set_cons_succ])
              refine wpAnyH_take (i := 15) (v := .bool false) rfl (by kernel_rfl) (by kernel_rfl) (by kernel_rfl) (fun _ _ _ h => h) (Or.inl ⟨by rfl, ?_⟩) (by assumption) ?_
              · intro wx hs1; go_simp
              (try simp only [Act.put, List.getElem_toArray, List.getElem_cons_succ, List.getElem_cons_zero, List.setIfInBounds_toArray, List.set_cons_zero, List.set_cons_succ])
              refine wpAnyH_take (i := 16) (v := .bool false) rfl (by kernel_rfl) (by kernel_rfl) (by kernel_rfl) (fun _ _ _ h => h) (Or.inl ⟨by rfl, ?_⟩) (by assumption) ?_
              · intro wx hs1; go_simp
              (try simp only [Act.put, List.getElem_toArray, List.getElem_cons_succ, List.getElem_cons_zero, List.setIfInBounds_toArray, List.set_cons_zero, List.set_cons_succ])
              refine wpAnyH_take (i := 17) (v := .bool false) rfl (by kernel_rfl) (by kernel_rfl) (by kernel_rfl) (fun _ _ _ h => h) (Or.inl ⟨by rfl, ?_⟩) (by assumption) ?_
              · intro wx hs1; go_simp
              (try simp only [Act.put, List.getElem_toArray, List.getElem_cons_succ, List.getElem_cons_zero, List.setIfInBounds_toArray, List.set_cons_zero, List.set_cons_succ])
              refine wpAnyH_take (i := 18) (v := .bool true) rfl (by kernel_rfl) (by kernel_rfl) (by kernel_rfl) (fun _ _ _ h => h) (Or.inl ⟨by rfl, ?_⟩) (by assumption) ?_
              · intro wx hs1; go_simp
              (try simp only [Act.put, List.getElem_toArray, List.getElem_cons_succ, List.getElem_cons_zero, List.setIfInBounds_toArray, List.set_cons_zero, List.set_cons_succ])
              refine wpAnyH_take (i := 19) (v := .bool true) rfl (by kernel_rfl) (by kernel_rfl) (by kernel_rfl) (fun _ _ _ h => h) (Or.inl ⟨by rfl, ?_⟩) (by assumption) ?_
              · intro wx hs1; go_simp
              (try simp only [Act.put, List.getElem_toArray, List.getElem_cons_succ, List.getElem_cons_zero, List.setIfInBounds_toArray, List.set_cons_zero, List.set_cons_succ])
              refine wpAnyH_take (i := 20) (v := .agg #[.int .i64 N.pr, .int .i64 N.pp]) rfl (by kernel_rfl) (by kernel_rfl) (by kernel_rfl) (fun _ _ _ h => h) (Or.inl ⟨by rfl, ?_⟩) (by assumption) ?_
              · intro wx hs1; obtain ⟨⟨s0, s1⟩, ⟨p0, p1, p2, p3, p4, p5⟩, ⟨t0, t1⟩, ⟨q0, q1, q2, q3, q4, q5⟩, ⟨x0, x1, x2, x3, x4, x5, x6⟩⟩ := hs1; go_simp
              (try simp only [Act.put, List.getElem_toArray, List.getElem_cons_succ, List.getElem_cons_zero, List.setIfInBounds_toArray, List.set_cons_zero, List.set_cons_succ])
              refine wpAnyH_take (i := 21) (v := .pointer (some ⟨b15, 0, none⟩)) rfl (by kernel_rfl) (by kernel_rfl) (by kernel_rfl) (fun _ _ _ h => h) (Or.inl ⟨by rfl, ?_⟩) (by assumption) ?_
              · intro wx hs1; go_simp
              (try simp only [Act.put, List.getElem_toArray, List.getElem_cons_succ, List.getElem_cons_zero, List.setIfInBounds_toArray, List.set_cons_zero, List.set_cons_succ])
              refine wpAnyH_take (i := 22) (v := .agg #[.int .i64 Y.ar, .int .i64 Y.ap]) rfl (by kernel_rfl) (by kernel_rfl) (by kernel_rfl) (fun _ _ _ h => h) (Or.inl ⟨by rfl, ?_⟩) (by assumption) ?_
              · intro wx hs1; obtain ⟨⟨s0, s1⟩, ⟨p0, p1, p2, p3, p4, p5⟩, ⟨t0, t1⟩, ⟨q0, q1, q2, q3, q4, q5⟩, ⟨x0, x1, x2, x3, x4, x5, x6⟩⟩ := hs1; go_simp
              (try simp only [Act.put, List.getElem_toArray, List.getElem_cons_succ, List.getElem_cons_zero, List.setIfInBounds_toArray, List.set_cons_zero, List.set_cons_succ])
              refine wpAnyH_ready (rs := [23]) (by kernel_rfl) (by simp) (AllReadyH.cons rfl (fun K hK => ?_) AllReadyH.nil)
              go_simp
              go_at_call 16
              (with_reducible refine (HL3.out _).mono ?_)
              rintro e v3 ⟨rfl, hb⟩
              try dsimp only
              have HC3 : Hid (Below w9.heap.size w9 v3) := Lib.hid (HC2.out.trans (hb.mono HC2.out.size)); clear hb; have hS := HS9.out _ HC3.out
              refine hK.out _ _ hS (fun _ => ?_)
              clear hK K
              (try simp only [Act.put, List.getElem_toArray, List.getElem_cons_succ, List.getElem_cons_zero, List.setIfInBounds_toArray, List.set_cons_zero, List.set_cons_succ])
              refine wpAnyH_take (i := 24) (v := .bool false) rfl (by kernel_rfl) (by kernel_rfl) (by kernel_rfl) (fun _ _ _ h => h) (Or.inl ⟨by rfl, ?_⟩) (by assumption) ?_
              · intro wx hs1; go_simp
              (try simp only [Act.put, List.getElem_toArray, List.getElem_cons_succ, List.getElem_cons_zero, List.setIfInBounds_toArray, List.set_cons_zero, List.set_cons_succ])
              refine wpAnyH_take (i := 25) (v := .bool false) rfl (by kernel_rfl) (by kernel_rfl) (by kernel_rfl) (fun _ _ _ h => h) (Or.inl ⟨by rfl, ?_⟩) (by assumption) ?_
              · intro wx hs1; go_simp
              (try simp only [Act.put, List.getElem_toArray, List.getElem_cons_succ, List.getElem_cons_zero, List.setIfInBounds_toArray, List.set_cons_zero, List.set_cons_succ])
              refine wpAnyH_take (i := 26) (v := .bool false) rfl (by kernel_rfl) (by kernel_rfl) (by kernel_rfl) (fun _ _ _ h => h) (Or.inl ⟨by rfl, ?_⟩) (by assumption) ?_
              · intro wx hs1; go_simp
              (try simp only [Act.put, List.getElem_toArray, List.getElem_cons_succ, List.getElem_cons_zero, List.setIfInBounds_toArray, List.set_cons_zero, List.set_cons_succ])
              refine wpAnyH_take (i := 27) (v := .bool true) rfl (by kernel_rfl) (by kernel_rfl) (by kernel_rfl) (fun _ _ _ h => h) (Or.inl ⟨by rfl, ?_⟩) (by assumption) ?_
              · intro wx hs1; go_simp
              (try simp only [Act.put, List.getElem_toArray, List.getElem_cons_succ, List.getElem_cons_zero, List.setIfInBounds_toArray, List.set_cons_zero, List.set_cons_succ])
              refine wpAnyH_take (i := 28) (v := .bool true) rfl (by kernel_rfl) (by kernel_rfl) (by kernel_rfl) (fun _ _ _ h => h) (Or.inl ⟨by rfl, ?_⟩) (by assumption) ?_
              · intro wx hs1; go_simp
              (try simp only [Act.put, List.getElem_toArray, List.getElem_cons_succ, List.getElem_cons_zero, List.setIfInBounds_toArray, List.set_cons_zero, List.set_cons_succ])
              refine wpAnyH_take (i := 29) (v := .slice (some ⟨b, off, none⟩) n cap) rfl (by kernel_rfl) (by kernel_rfl) (by kernel_rfl) (fun _ _ _ h => h) (Or.inl ⟨by rfl, ?_⟩) (by assumption) ?_
              · intro wx hs1; go_simp
              (try simp only [Act.put, List.getElem_toArray, List.getElem_cons_succ, List.getElem_cons_zero, List.setIfInBounds_toArray, List.set_cons_zero, List.set_cons_succ])
              refine wpAnyH_take (i := 30) (v := .int .i64 (k : Int)) rfl (by kernel_rfl) (by kernel_rfl) (by kernel_rfl) (fun _ _ _ h => h) (Or.inl ⟨by rfl, ?_⟩) (by assumption) ?_
              · intro wx hs1; go_simp
              (try simp only [Act.put, List.getElem_toArray, List.getElem_cons_succ, List.getElem_cons_zero, List.setIfInBounds_toArray, List.set_cons_zero, List.set_cons_succ])
              refine wpAnyH_take (i := 31) (v := .pointer (some ⟨b, off + k * 7, none⟩)) rfl (by kernel_rfl) (by kernel_rfl) (by kernel_rfl) (fun _ _ _ h => h) (Or.inl ⟨by rfl, ?_⟩) (by assumption) ?_
              · intro wx hs1; go_simp
              (try simp only [Act.put, List.getElem_toArray, List.getElem_cons_succ, List.getElem_cons_zero, List.setIfInBounds_toArray, List.set_cons_zero, List.set_cons_succ])
              refine wpAnyH_take (i := 32) (v := .pointer (some ⟨b, off + k * 7 + 1, none⟩)) rfl (by kernel_rfl) (by kernel_rfl) (by kernel_rfl) (fun _ _ _ h => h) (Or.inl ⟨by rfl, ?_⟩) (by assumption) ?_
              · intro wx hs1; go_simp
              (try simp only [Act.put, List.getElem_toArray, List.getElem_cons_succ, List.getElem_cons_zero, List.setIfInBounds_toArray, List.set_cons_zero, List.set_cons_succ])
              refine wpAnyH_take (i := 33) (v := .agg #[.int .i64 y.r, .int .i64 y.q]) rfl (by kernel_rfl) (by kernel_rfl) (by kernel_rfl) (fun _ _ _ h => h) (Or.inl ⟨by rfl, ?_⟩) (by assumption) ?_
              · intro wx hs1; obtain ⟨⟨s0, s1⟩, ⟨p0, p1, p2, p3, p4, p5⟩, ⟨t0, t1⟩, ⟨q0, q1, q2, q3, q4, q5⟩, ⟨x0, x1, x2, x3, x4, x5, x6⟩⟩ := hs1; go_simp
              (try simp only [Act.put, List.getElem_toArray, List.getElem_cons_succ, List.getElem_cons_zero, List.setIfInBounds_toArray, List.set_cons_zero, List.set_cons_succ])
              refine wpAnyH_take (i := 34) (v := .agg #[.int .i64 M.pr, .int .i64 M.pp]) rfl (by kernel_rfl) (by kernel_rfl) (by kernel_rfl) (fun _ _ _ h => h) (Or.inl ⟨by rfl, ?_⟩) (by assumption) ?_
              · intro wx hs1; obtain ⟨⟨s0, s1⟩, ⟨p0, p1, p2, p3, p4, p5⟩, ⟨t0, t1⟩, ⟨q0, q1, q2, q3, q4, q5⟩, ⟨x0, x1, x2, x3, x4, x5, x6⟩⟩ := hs1; go_simp
              (try simp only [Act.put, List.getElem_toArray, List.getElem_cons_succ, List.getElem_cons_zero, List.setIfInBounds_toArray, List.set_cons_zero, List.set_cons_succ])
              refine wpAnyH_ready (rs := [35]) (by kernel_rfl) (by simp) (AllReadyH.cons rfl (fun K hK => ?_) AllReadyH.nil)
              go_simp
              go_at_call 16
              (with_reducible refine (HL4.out _).mono ?_)
              rintro e v4 ⟨rfl, hb⟩
              try dsimp only
              have HC4 : Hid (Below w9.heap.size w9 v4) := Lib.hid (HC3.out.trans (hb.mono HC3.out.size)); clear hb; have hS := HS9.out _ HC4.out
              refine hK.out _ _ hS (fun _ => ?_)
              clear hK K
              (try simp only [Act.put, List.getElem_toArray, List.getElem_cons_succ, List.getElem_cons_zero, List.setIfInBounds_toArray, List.set_cons_zero, List.set_cons_succ])
              refine wpAnyH_take (i := 36) (v := .bool false) rfl (by kernel_rfl) (by kernel_rfl) (by kernel_rfl) (fun _ _ _ h => h) (Or.inl ⟨by rfl, ?_⟩) (by assumption) ?_
              · intro wx hs1; go_simp
              (try simp only [Act.put, List.getElem_toArray, List.getElem_cons_succ, List.getElem_cons_zero, List.setIfInBounds_toArray, List.set_cons_zero, List.set_cons_succ])
              refine wpAnyH_take (i := 37) (v := .bool false) rfl (by kernel_rfl) (by kernel_rfl) (by kernel_rfl) (fun _ _ _ h => h) (Or.inl ⟨by rfl, ?_⟩) (by assumption) ?_
              · intro wx hs1; go_simp
              (try simp only [Act.put, List.getElem_toArray, List.getElem_cons_succ, List.getElem_cons_zero, List.setIfInBounds_toArray, List.set_cons_zero, List.set_cons_succ])
              refine wpAnyH_take (i := 38) (v := .bool false) rfl (by kernel_rfl) (by kernel_rfl) (by kernel_rfl) (fun _ _ _ h => h) (Or.inl ⟨by rfl, ?_⟩) (by assumption) ?_
              · intro wx hs1; go_simp
              (try simp only [Act.put, List.getElem_toArray, List.getElem_cons_succ, List.getElem_cons_zero, List.setIfInBounds_toArray, List.set_cons_zero, List.set_cons_succ])
              refine wpAnyH_take (i := 39) (v := .bool true) rfl (by kernel_rfl) (by kernel_rfl) (by kernel_rfl) (fun _ _ _ h => h) (Or.inl ⟨by rfl, ?_⟩) (by assumption) ?_
              · intro wx hs1; go_simp
              (try simp only [Act.put, List.getElem_toArray, List.getElem_cons_succ, List.getElem_cons_zero, List.setIfInBounds_toArray, List.set_cons_zero, List.set_cons_succ])
              refine wpAnyH_take (i := 40) (v := .bool false) rfl (by kernel_rfl) (by kernel_rfl) (by kernel_rfl) (fun _ _ _ h => h) (Or.inl ⟨by rfl, ?_⟩) (by assumption) ?_
              · intro wx hs1; go_simp
              (try simp only [Act.put, List.getElem_toArray, List.getElem_cons_succ, List.getElem_cons_zero, List.setIfInBounds_toArray, List.set_cons_zero, List.set_cons_succ])
              refine wpAnyH_take (i := 41) (v := .bool false) rfl (by kernel_rfl) (by kernel_rfl) (by kernel_rfl) (fun _ _ _ h => h) (Or.inl ⟨by rfl, ?_⟩) (by assumption) ?_
              · intro wx hs1; go_simp
              (try simp only [Act.put, List.getElem_toArray, List.getElem_cons_succ, List.getElem_cons_zero, List.setIfInBounds_toArray, List.set_cons_zero, List.set_cons_succ])
              refine wpAnyH_take (i := 42) (v := undef) rfl (by kernel_rfl) (by kernel_rfl) (by kernel_rfl) (fun _ _ _ h => h) (Or.inr ⟨by rfl, rfl⟩) (by assumption) ?_
              (try simp only [Act.put, List.getElem_toArray, List.getElem_cons_succ, List.getElem_cons_zero, List.setIfInBounds_toArray, List.set_cons_zero, List.set_cons_succ])
              refine wpAnyH_take (i := 43) (v := undef) rfl (by kernel_rfl) (by kernel_rfl) (by kernel_rfl) (fun _ _ _ h => h) (Or.inr ⟨by rfl, rfl⟩) (by assumption) ?_
              (try simp only [Act.put, List.getElem_toArray, List.getElem_cons_succ, List.getElem_cons_zero, List.setIfInBounds_toArray, List.set_cons_zero, List.set_cons_succ])
              refine wpAnyH_take (i := 44) (v := undef) rfl (by kernel_rfl) (by kernel_rfl) (by kernel_rfl) (fun _ _ _ h => h) (Or.inr ⟨by rfl, rfl⟩) (by assumption) ?_
              (try simp only [Act.put, List.getElem_toArray, List.getElem_cons_succ, List.getElem_cons_zero, List.setIfInBounds_toArray, List.set_cons_zero, List.set_cons_succ])
              refine wpAnyH_take (i := 45) (v := undef) rfl (by kernel_rfl) (by kernel_rfl) (by kernel_rfl) (fun _ _ _ h => h) (Or.inr ⟨by rfl, rfl⟩) (by assumption) ?_
              (try simp only [Act.put, List.getElem_toArray, List.getElem_cons_succ, List.getElem_cons_zero, List.setIfInBounds_toArray, List.set_cons_zero, List.set_cons_succ])
              refine wpAnyH_take (i := 46) (v := undef) rfl (by kernel_rfl) (by kernel_rfl) (by kernel_rfl) (fun _ _ _ h => h) (Or.inr ⟨by rfl, rfl⟩) (by assumption) ?_
              (try simp only [Act.put, List.getElem_toArray, List.getElem_cons_succ, List.getElem_cons_zero, List.setIfInBounds_toArray, List.set_cons_zero, List.set_cons_succ])
              refine wpAnyH_take (i := 47) (v := undef) rfl (by kernel_rfl) (by kernel_rfl) (by kernel_rfl) (fun _ _ _ h => h) (Or.inr ⟨by rfl, rfl⟩) (by assumption) ?_
              (try simp only [Act.put, List.getElem_toArray, List.getElem_cons_succ, List.getElem_cons_zero, List.setIfInBounds_toArray, List.set_cons_zero, List.set_cons_succ])
              refine wpAnyH_take (i := 48) (v := undef) rfl (by kernel_rfl) (by kernel_rfl) (by kernel_rfl) (fun _ _ _ h => h) (Or.inr ⟨by rfl, rfl⟩) (by assumption) ?_
              (try simp only [Act.put, List.getElem_toArray, List.getElem_cons_succ, List.getElem_cons_zero, List.setIfInBounds_toArray, List.set_cons_zero, List.set_cons_succ])
              refine wpAnyH_take (i := 49) (v := undef) rfl (by kernel_rfl) (by kernel_rfl) (by kernel_rfl) (fun _ _ _ h => h) (Or.inr ⟨by rfl, rfl⟩) (by assumption) ?_
              (try simp only [Act.put, List.getElem_toArray, List.getElem_cons_succ, List.getElem_cons_zero, List.setIfInBounds_toArray, List.set_cons_zero, List.set_cons_succ])
              refine wpAnyH_take (i := 50) (v := .bool false) rfl (by kernel_rfl) (by kernel_rfl) (by kernel_rfl) (fun _ _ _ h => h) (Or.inl ⟨by rfl, ?_⟩) (by assumption) ?_
              · intro wx hs1; go_simp
              (try simp only [Act.put, List.getElem_toArray, List.getElem_cons_succ, List.getElem_cons_zero, List.setIfInBounds_toArray, List.set_cons_zero, List.set_cons_succ])
              refine wpAnyH_take (i := 51) (v := .bool false) rfl (by kernel_rfl) (by kernel_rfl) (by kernel_rfl) (fun _ _ _ h => h) (Or.inl ⟨by rfl, ?_⟩) (by assumption) ?_
              · intro wx hs1; go_simp
              (try simp only [Act.put, List.getElem_toArray, List.getElem_cons_succ, List.getElem_cons_zero, List.setIfInBounds_toArray, List.set_cons_zero, List.set_cons_succ])
              refine wpAnyH_done (by kernel_rfl) ?_ _
              go_wp2_with fail
              go_roundw
              case rel => exact ⟨k + 1, by omega, by go_num, Lib.hid (by rw [HST.out]; exact ⟨AAt.keep HA9.out HC4.out, HBW.out.trans (HC4.out.mono HBW.out.size)⟩)⟩
              case measure => simp [RowKit.intOf]; omega
      · obtain ⟨ev, hev⟩ : ∃ e, acE M y.r y.q (entB y.k y.m y.n y.t) = e := ⟨_, rfl⟩
        obtain ⟨ok, hok⟩ : ∃ b, acOk M y.r y.q (entB y.k y.m y.n y.t) = b := ⟨_, rfl⟩
        have hri : RiX M N y ok := by have h := (HRI.out.step y).1; unfold okX at h; rw [if_neg hx, hok, hN] at h; exact h
        have hact : ∀ W, AAt W p M → LaysT W → Calls Tryd.prog 15 #[.pointer (some ⟨p, 0, none⟩), .agg #[.int .i64 y.r, .int .i64 y.q], .agg #[.int .i64 y.k, .int .i64 y.m, .int .i64 y.n, .string y.t]] W fun e w' => e = .returned (.tuple #[.bool ok, .int .i64 ev]) ∧ AAt w' p N ∧ But (Xp p) W w' := fun W h1 h2 => by
          have h := accept_any y.r y.q y.k y.m y.n y.t W p M h1 hmc hyc.kd (by omega) h2
          rw [hok, hev] at h
          rw [← hN]; unfold stX stM; rw [if_neg hx]; exact h
        have hx0 : (y.x == 0) = false := by simpa using hx
        obtain ⟨had, hhad⟩ : ∃ b, (!noAcc M) = b := ⟨_, rfl⟩
        obtain ⟨has, hhas⟩ : ∃ b, (!noAcc N) = b := ⟨_, rfl⟩
        obtain ⟨X, hX⟩ : ∃ X, shM M = X := ⟨_, rfl⟩
        obtain ⟨Y, hY⟩ : ∃ Y, shM N = Y := ⟨_, rfl⟩
        have e1 : ∀ {M : AcM} {b : Bool}, (!noAcc M) = b → b = true → noAcc M = false := fun h e => by rw [e] at h; simpa using h
        have K1 := Lib.hid (show had = true → has = true from fun e => by rw [← hhas, hri.has (e1 hhad e)]; rfl)
        have K2 := Lib.hid (show ok = false → has = had ∧ N.pr = M.pr ∧ N.pp = M.pp ∧ Y = X from fun e => by have h := hri.same e; rw [h] at hhas hY; exact ⟨hhas.symm.trans hhad, by rw [h], by rw [h], hY.symm.trans hX⟩)
        have HL1 : Hid (∀ W, Calls Tryd.prog 16 #[.agg #[.int .i64 N.pr, .int .i64 N.pp], .agg #[.int .i64 M.pr, .int .i64 M.pp]] W fun e w' => e = .returned (.bool false) ∧ Below W.heap.size W w') := Lib.hid fun W => by rw [← hri.prom]; exact Less_any _ _ _ _ W
        have HL2a : Hid (had = true → ∀ W, Calls Tryd.prog 16 #[.agg #[.int .i64 Y.ar, .int .i64 Y.ap], .agg #[.int .i64 X.ar, .int .i64 X.ap]] W fun e w' => e = .returned (.bool false) ∧ Below W.heap.size W w') := Lib.hid fun e W => by have hm := e1 hhad e; rw [← hri.acc hm, ← hX, ← hY, shM_of hm, shM_of (hri.has hm)]; exact Less_any _ _ _ _ W
        have HL3a : Hid (has = true → ∀ W, Calls Tryd.prog 16 #[.agg #[.int .i64 N.pr, .int .i64 N.pp], .agg #[.int .i64 Y.ar, .int .i64 Y.ap]] W fun e w' => e = .returned (.bool false) ∧ Below W.heap.size W w') := Lib.hid fun e W => by have hm := e1 hhas e; rw [← hri.top hm, ← hY, shM_of hm]; exact Less_any _ _ _ _ W
        have HL4a : Hid (ok = true → ∀ W, Calls Tryd.prog 16 #[.agg #[.int .i64 y.r, .int .i64 y.q], .agg #[.int .i64 M.pr, .int .i64 M.pp]] W fun e w' => e = .returned (.bool false) ∧ Below W.heap.size W w') := Lib.hid fun e W => by rw [← hri.low e]; exact Less_any _ _ _ _ W
        have H13 : Hid (∀ W, AAt W p M → Calls Tryd.prog 13 #[.pointer (some ⟨p, 0, none⟩)] W fun e w' => e = .returned (.tuple #[.agg #[.int .i64 X.ar, .int .i64 X.ap, .int .i64 X.k, .int .i64 X.m, .int .i64 X.n, .string X.t], .bool had]) ∧ Below W.heap.size W w') := Lib.hid fun W h => by have h := accd_any W p M h (by omega) hmc; rw [acVal_sh, hX, hhad] at h; exact h
        have H13b : Hid (∀ W, AAt W p N → Calls Tryd.prog 13 #[.pointer (some ⟨p, 0, none⟩)] W fun e w' => e = .returned (.tuple #[.agg #[.int .i64 Y.ar, .int .i64 Y.ap, .int .i64 Y.k, .int .i64 Y.m, .int .i64 Y.n, .string Y.t], .bool has]) ∧ Below W.heap.size W w') := Lib.hid fun W h => by have h := accd_any W p N h (by omega) hnc2; rw [acVal_sh, hY, hhas] at h; exact h
        have H12 : Hid (∀ W K, AAt W p K → Calls Tryd.prog 12 #[.pointer (some ⟨p, 0, none⟩)] W fun e w' => e = .returned (.agg #[.int .i64 K.pr, .int .i64 K.pp]) ∧ Below W.heap.size W w') := Lib.hid fun W K h => Promised_any W (some p) K h
        have HACT := Lib.hid hact
        clear hact hri hhad hhas hX hY e1 hok hev hN hx 
        have hAr := HLP.out.1
        go_upto_region 10 with (go_at_call 12; (with_reducible refine (H12.out _ _ hAr).mono ?_); rintro e w1 ⟨rfl, hb1⟩)
        have hA1 := hAr.keep hb1
        have hA2 : AAt (w1.alloc (.cells #[.int .i64 M.pr, .int .i64 M.pp] 36)) p M := (Below.heap_alloc w1 _ p hA1.lt).trans hA1
        have k10 := World.alloc_heap_new w1 (.cells #[.int .i64 M.pr, .int .i64 M.pp] 36)
        have hb2 := hb1.alloc hb1.size (.cells #[.int .i64 M.pr, .int .i64 M.pp] 36)
        have l10 : wr.heap.size ≤ w1.heap.size := hb1.size
        obtain ⟨w2, hw2⟩ : ∃ v, w1.alloc (.cells #[.int .i64 M.pr, .int .i64 M.pp] 36) = v := ⟨_, rfl⟩
        rw [hw2] at hA2 k10 hb2 ⊢
        obtain ⟨b10, hb10⟩ : ∃ v, w1.heap.size = v := ⟨_, rfl⟩
        rw [hb10] at k10 l10 ⊢
        clear hw2 hb10 hA1 hb1
        go_upto_region 11 with (go_at_call 13; (with_reducible refine (H13.out _ hA2).mono ?_); rintro e w3 ⟨rfl, hb3⟩)
        have hA3 := hA2.keep hb3
        have k10 := (hb3.block _ (Array.getElem?_eq_some_iff.1 k10).1).trans k10
        have hb3 := hb2.trans (hb3.mono hb2.size)
        have hA4 : AAt (w3.alloc (.cells #[.int .i64 X.ar, .int .i64 X.ap, .int .i64 X.k, .int .i64 X.m, .int .i64 X.n, .string X.t] 39)) p M := (Below.heap_alloc w3 _ p hA3.lt).trans hA3
        have k11 := World.alloc_heap_new w3 (.cells #[.int .i64 X.ar, .int .i64 X.ap, .int .i64 X.k, .int .i64 X.m, .int .i64 X.n, .string X.t] 39)
        have k10 := (Below.heap_alloc w3 (.cells #[.int .i64 X.ar, .int .i64 X.ap, .int .i64 X.k, .int .i64 X.m, .int .i64 X.n, .string X.t] 39) _ (Array.getElem?_eq_some_iff.1 k10).1).trans k10
        have hb4 := hb3.alloc hb3.size (.cells #[.int .i64 X.ar, .int .i64 X.ap, .int .i64 X.k, .int .i64 X.m, .int .i64 X.n, .string X.t] 39)
        have l11 : wr.heap.size ≤ w3.heap.size := hb3.size
        obtain ⟨w4, hw4⟩ : ∃ v, w3.alloc (.cells #[.int .i64 X.ar, .int .i64 X.ap, .int .i64 X.k, .int .i64 X.m, .int .i64 X.n, .string X.t] 39) = v := ⟨_, rfl⟩
        rw [hw4] at hA4 k10 k11 hb4 ⊢
        obtain ⟨b11, hb11⟩ : ∃ v, w3.heap.size = v := ⟨_, rfl⟩
        rw [hb11] at k11 l11 ⊢
        clear hw4 hb11 hA2 hA3 hb2 hb3 hAr
        have HX4 : Hid (∀ W, But (Xp p) w4 W → W.cell? ⟨b, off + k * 7, none⟩ = some (.int .i64 y.x) ∧ W.cell? ⟨b, off + k * 7 + 1, none⟩ = some (.int .i64 y.r) ∧ W.cell? ⟨b, off + k * 7 + 2, none⟩ = some (.int .i64 y.q) ∧ W.cell? ⟨b, off + k * 7 + 3, none⟩ = some (.int .i64 y.k) ∧ W.cell? ⟨b, off + k * 7 + 4, none⟩ = some (.int .i64 y.m) ∧ W.cell? ⟨b, off + k * 7 + 5, none⟩ = some (.int .i64 y.n) ∧ W.cell? ⟨b, off + k * 7 + 6, none⟩ = some (.string y.t)) := Lib.hid fun W hb => by
          have g : ∀ j v, w4.cell? ⟨b, j, none⟩ = some v → W.cell? ⟨b, j, none⟩ = some v := fun j v h => (hb.cell (p := ⟨b, j, none⟩) (Nat.lt_of_lt_of_le hbl (Nat.le_trans HCR.out.size hb4.size)) (by show ¬ (b = p); omega)).trans h
          obtain ⟨g0, g1, g2, g3, g4, g5, g6⟩ := HCL.out w4 (HCR.out.trans (hb4.mono HCR.out.size))
          exact ⟨g _ _ g0, g _ _ g1, g _ _ g2, g _ _ g3, g _ _ g4, g _ _ g5, g _ _ g6⟩
        have z4 := HX4.out w4 (But.refl _ _)
        have hL4 : LaysT w4 := HL.out.keep (HCR.out.trans (hb4.mono HCR.out.size))
        have hlp : p < wr.heap.size := HLP.out.1.lt
        obtain ⟨x0, x1, x2, x3, x4, x5, x6⟩ := z4
        go_upto_region 14 with fail
        have z4 : (fun W => W.cell? ⟨b, off + k * 7, none⟩ = some (.int .i64 y.x) ∧ W.cell? ⟨b, off + k * 7 + 1, none⟩ = some (.int .i64 y.r) ∧ W.cell? ⟨b, off + k * 7 + 2, none⟩ = some (.int .i64 y.q) ∧ W.cell? ⟨b, off + k * 7 + 3, none⟩ = some (.int .i64 y.k) ∧ W.cell? ⟨b, off + k * 7 + 4, none⟩ = some (.int .i64 y.m) ∧ W.cell? ⟨b, off + k * 7 + 5, none⟩ = some (.int .i64 y.n) ∧ W.cell? ⟨b, off + k * 7 + 6, none⟩ = some (.string y.t)) w4 := ⟨x0, x1, x2, x3, x4, x5, x6⟩
        clear x0 x1 x2 x3 x4 x5 x6
        have hA4d : AAt w4.drew p M := hA4
        have hL4d : LaysT w4.drew := hL4.keep (Below.refl _ _).drew
        have hS0 : (fun W => W.cell? ⟨b, off + k * 7, none⟩ = some (.int .i64 y.x) ∧ W.cell? ⟨b, off + k * 7 + 1, none⟩ = some (.int .i64 y.r) ∧ W.cell? ⟨b, off + k * 7 + 2, none⟩ = some (.int .i64 y.q) ∧ W.cell? ⟨b, off + k * 7 + 3, none⟩ = some (.int .i64 y.k) ∧ W.cell? ⟨b, off + k * 7 + 4, none⟩ = some (.int .i64 y.m) ∧ W.cell? ⟨b, off + k * 7 + 5, none⟩ = some (.int .i64 y.n) ∧ W.cell? ⟨b, off + k * 7 + 6, none⟩ = some (.string y.t)) w4.drew := z4
        refine wp_region_held_drew (S := fun W => W.cell? ⟨b, off + k * 7, none⟩ = some (.int .i64 y.x) ∧ W.cell? ⟨b, off + k * 7 + 1, none⟩ = some (.int .i64 y.r) ∧ W.cell? ⟨b, off + k * 7 + 2, none⟩ = some (.int .i64 y.q) ∧ W.cell? ⟨b, off + k * 7 + 3, none⟩ = some (.int .i64 y.k) ∧ W.cell? ⟨b, off + k * 7 + 4, none⟩ = some (.int .i64 y.m) ∧ W.cell? ⟨b, off + k * 7 + 5, none⟩ = some (.int .i64 y.n) ∧ W.cell? ⟨b, off + k * 7 + 6, none⟩ = some (.string y.t)) rfl hS0 (fun hHeld => ?_)
        simp only [List.size_toArray, List.length_cons, List.length_nil, Nat.reduceAdd]
        have HB0 : Hid (Below w4.heap.size w4 w4.drew) := Lib.hid (Below.refl _ _).drew
        obtain ⟨V0, hV0⟩ : ∃ V, w4.drew = V := ⟨_, rfl⟩
        rw [hV0] at hHeld hS0 HB0 hA4d hL4d ⊢
        clear hV0
        refine wpAnyH_take (i := 0) (v := .pointer (some ⟨p, 0, none⟩)) rfl (by kernel_rfl) (by kernel_rfl) (by kernel_rfl) (fun _ _ _ h => h) (Or.inl ⟨by rfl, ?_⟩) (by assumption) ?_
        · intro wx hs1; go_simp
        (try simp only [Act.put, List.getElem_toArray, List.getElem_cons_zero, List.setIfInBounds_toArray, List.set_cons_zero, List.set_cons_succ])
        refine wpAnyH_take (i := 1) (v := .slice (some ⟨b, off, none⟩) n cap) rfl (by kernel_rfl) (by kernel_rfl) (by kernel_rfl) (fun _ _ _ h => h) (Or.inl ⟨by rfl, ?_⟩) (by assumption) ?_
        · intro wx hs1; go_simp
        (try simp only [Act.put, List.getElem_toArray, List.getElem_cons_succ, List.getElem_cons_zero, List.setIfInBounds_toArray, List.set_cons_zero, List.set_cons_succ])
        refine wpAnyH_take (i := 2) (v := .int .i64 (k : Int)) rfl (by kernel_rfl) (by kernel_rfl) (by kernel_rfl) (fun _ _ _ h => h) (Or.inl ⟨by rfl, ?_⟩) (by assumption) ?_
        · intro wx hs1; go_simp
        (try simp only [Act.put, List.getElem_toArray, List.getElem_cons_succ, List.getElem_cons_zero, List.setIfInBounds_toArray, List.set_cons_zero, List.set_cons_succ])
        refine wpAnyH_take (i := 3) (v := .pointer (some ⟨b, off + k * 7, none⟩)) rfl (by kernel_rfl) (by kernel_rfl) (by kernel_rfl) (fun _ _ _ h => h) (Or.inl ⟨by rfl, ?_⟩) (by assumption) ?_
        · intro wx hs1; go_simp
        (try simp only [Act.put, List.getElem_toArray, List.getElem_cons_succ, List.getElem_cons_zero, List.setIfInBounds_toArray, List.set_cons_zero, List.set_cons_succ])
        refine wpAnyH_take (i := 4) (v := .pointer (some ⟨b, off + k * 7 + 1, none⟩)) rfl (by kernel_rfl) (by kernel_rfl) (by kernel_rfl) (fun _ _ _ h => h) (Or.inl ⟨by rfl, ?_⟩) (by assumption) ?_
        · intro wx hs1; go_simp
        (try simp only [Act.put, List.getElem_toArray, List.getElem_cons_succ, List.getElem_cons_zero, List.setIfInBounds_toArray, List.set_cons_zero, List.set_cons_succ])
        refine wpAnyH_take (i := 5) (v := .agg #[.int .i64 y.r, .int .i64 y.q]) rfl (by kernel_rfl) (by kernel_rfl) (by kernel_rfl) (fun _ _ _ h => h) (Or.inl ⟨by rfl, ?_⟩) (by assumption) ?_
        · intro wx hs1; obtain ⟨x0, x1, x2, x3, x4, x5, x6⟩ := hs1; go_simp
        (try simp only [Act.put, List.getElem_toArray, List.getElem_cons_succ, List.getElem_cons_zero, List.setIfInBounds_toArray, List.set_cons_zero, List.set_cons_succ])
        refine wpAnyH_take (i := 6) (v := .slice (some ⟨b, off, none⟩) n cap) rfl (by kernel_rfl) (by kernel_rfl) (by kernel_rfl) (fun _ _ _ h => h) (Or.inl ⟨by rfl, ?_⟩) (by assumption) ?_
        · intro wx hs1; go_simp
        (try simp only [Act.put, List.getElem_toArray, List.getElem_cons_succ, List.getElem_cons_zero, List.setIfInBounds_toArray, List.set_cons_zero, List.set_cons_succ])
        refine wpAnyH_take (i := 7) (v := .int .i64 (k : Int)) rfl (by kernel_rfl) (by kernel_rfl) (by kernel_rfl) (fun _ _ _ h => h) (Or.inl ⟨by rfl, ?_⟩) (by assumption) ?_
        · intro wx hs1; go_simp
        (try simp only [Act.put, List.getElem_toArray, List.getElem_cons_succ, List.getElem_cons_zero, List.setIfInBounds_toArray, List.set_cons_zero, List.set_cons_succ])
        refine wpAnyH_take (i := 8) (v := .pointer (some ⟨b, off + k * 7, none⟩)) rfl (by kernel_rfl) (by kernel_rfl) (by kernel_rfl) (fun _ _ _ h => h) (Or.inl ⟨by rfl, ?_⟩) (by assumption) ?_
        · intro wx hs1; go_simp
        (try simp only [Act.put, List.getElem_toArray, List.getElem_cons_succ, List.getElem_cons_zero, List.setIfInBounds_toArray, List.set_cons_zero, List.set_cons_succ])
        refine wpAnyH_take (i := 9) (v := .pointer (some ⟨b, off + k * 7 + 3, none⟩)) rfl (by kernel_rfl) (by kernel_rfl) (by kernel_rfl) (fun _ _ _ h => h) (Or.inl ⟨by rfl, ?_⟩) (by assumption) ?_
        · intro wx hs1; go_simp
        (try simp only [Act.put, List.getElem_toArray, List.getElem_cons_succ, List.getElem_cons_zero, List.setIfInBounds_toArray, List.set_cons_zero, List.set_cons_succ])
        refine wpAnyH_take (i := 10) (v := .agg #[.int .i64 y.k, .int .i64 y.m, .int .i64 y.n, .string y.t]) rfl (by kernel_rfl) (by kernel_rfl) (by kernel_rfl) (fun _ _ _ h => h) (Or.inl ⟨by rfl, ?_⟩) (by assumption) ?_
        · intro wx hs1; obtain ⟨x0, x1, x2, x3, x4, x5, x6⟩ := hs1; go_simp
        (try simp only [Act.put, List.getElem_toArray, List.getElem_cons_succ, List.getElem_cons_zero, List.setIfInBounds_toArray, List.set_cons_zero, List.set_cons_succ])
        refine wpAnyH_ready (rs := [11]) (by kernel_rfl) (by simp) (AllReadyH.cons rfl (fun K hK => ?_) AllReadyH.nil)
        go_simp
        go_at_call 15
        (with_reducible refine (HACT.out _ hA4d hL4d).mono ?_)
        rintro e w5 ⟨rfl, hA5, hB5⟩
        try dsimp only
        have hB5 : But (Xp p) w4 w5 := (But.of_all HB0.out _).trans hB5 (fun _ _ e => e); have hS := HX4.out _ hB5
        refine hK.out _ _ hS (fun _ => ?_)
        clear hK K
        (try simp only [Act.put, List.getElem_toArray, List.getElem_cons_succ, List.getElem_cons_zero, List.setIfInBounds_toArray, List.set_cons_zero, List.set_cons_succ])
        refine wpAnyH_take (i := 12) (v := .tuple #[.bool ok, .int .i64 ev]) rfl (by kernel_rfl) (by kernel_rfl) (by kernel_rfl) (fun _ _ _ h => h) (Or.inl ⟨by rfl, ?_⟩) (by assumption) ?_
        · intro wx hs1; go_simp
        (try simp only [Act.put, List.getElem_toArray, List.getElem_cons_succ, List.getElem_cons_zero, List.setIfInBounds_toArray, List.set_cons_zero, List.set_cons_succ])
        refine wpAnyH_take (i := 13) (v := .bool ok) rfl (by kernel_rfl) (by kernel_rfl) (by kernel_rfl) (fun _ _ _ h => h) (Or.inl ⟨by rfl, ?_⟩) (by assumption) ?_
        · intro wx hs1; go_simp
        (try simp only [Act.put, List.getElem_toArray, List.getElem_cons_succ, List.getElem_cons_zero, List.setIfInBounds_toArray, List.set_cons_zero, List.set_cons_succ])
        refine wpAnyH_take (i := 14) (v := .int .i64 ev) rfl (by kernel_rfl) (by kernel_rfl) (by kernel_rfl) (fun _ _ _ h => h) (Or.inl ⟨by rfl, ?_⟩) (by assumption) ?_
        · intro wx hs1; go_simp
        (try simp only [Act.put, List.getElem_toArray, List.getElem_cons_succ, List.getElem_cons_zero, List.setIfInBounds_toArray, List.set_cons_zero, List.set_cons_succ])
        refine wpAnyH_take (i := 15) (v := .bool ok) rfl (by kernel_rfl) (by kernel_rfl) (by kernel_rfl) (fun _ _ _ h => h) (Or.inl ⟨by rfl, ?_⟩) (by assumption) ?_
        · intro wx hs1; go_simp
        (try simp only [Act.put, List.getElem_toArray, List.getElem_cons_succ, List.getElem_cons_zero, List.setIfInBounds_toArray, List.set_cons_zero, List.set_cons_succ])
        refine wpAnyH_done (by kernel_rfl) ?_ _
        have l45 : w4.heap.size ≤ w5.heap.size := hB5.size
        have d10 : b10 < w4.heap.size := (Array.getElem?_eq_some_iff.1 k10).1
        have d11 : b11 < w4.heap.size := (Array.getElem?_eq_some_iff.1 k11).1
        have k10 := hB5.box k10 (by show ¬ (b10 = p); omega)
        have k11 := hB5.box k11 (by show ¬ (b11 = p); omega)
        have HX5 : Hid (∀ W, Below w5.heap.size w5 W → W.cell? ⟨b, off + k * 7, none⟩ = some (.int .i64 y.x) ∧ W.cell? ⟨b, off + k * 7 + 1, none⟩ = some (.int .i64 y.r) ∧ W.cell? ⟨b, off + k * 7 + 2, none⟩ = some (.int .i64 y.q) ∧ W.cell? ⟨b, off + k * 7 + 3, none⟩ = some (.int .i64 y.k) ∧ W.cell? ⟨b, off + k * 7 + 4, none⟩ = some (.int .i64 y.m) ∧ W.cell? ⟨b, off + k * 7 + 5, none⟩ = some (.int .i64 y.n) ∧ W.cell? ⟨b, off + k * 7 + 6, none⟩ = some (.string y.t)) := Lib.hid fun W hb => HX4.out W (hB5.trans (But.of_all hb _) (fun _ _ e => e))
        have hBW := below_but (HCR.out.trans (hb4.mono HCR.out.size)) hB5 (Nat.le_trans HCR.out.size hb4.size) hpw
        clear hA4 hL4 hb4 l10 l11
        go_upto_region 16 with (go_at_call 12; (with_reducible refine (H12.out _ _ hA5).mono ?_); rintro e w6 ⟨rfl, hb6⟩)
        have hA6 := hA5.keep hb6
        have hA7 : AAt (w6.alloc (.cells #[.int .i64 N.pr, .int .i64 N.pp] 36)) p N := (Below.heap_alloc w6 _ p hA6.lt).trans hA6
        have k14 := World.alloc_heap_new w6 (.cells #[.int .i64 N.pr, .int .i64 N.pp] 36)
        have hb7 := hb6.alloc hb6.size (.cells #[.int .i64 N.pr, .int .i64 N.pp] 36)
        obtain ⟨w7, hw7⟩ : ∃ v, w6.alloc (.cells #[.int .i64 N.pr, .int .i64 N.pp] 36) = v := ⟨_, rfl⟩
        rw [hw7] at hA7 k14 hb7 ⊢
        obtain ⟨b14, hb14⟩ : ∃ v, w6.heap.size = v := ⟨_, rfl⟩
        rw [hb14] at k14 ⊢
        clear hw7 hb14 hA6 hb6
        go_upto_region 17 with (go_at_call 13; (with_reducible refine (H13b.out _ hA7).mono ?_); rintro e w8 ⟨rfl, hb8⟩)
        have hA8 := hA7.keep hb8
        have k14 := (hb8.block _ (Array.getElem?_eq_some_iff.1 k14).1).trans k14
        have hb8 := hb7.trans (hb8.mono hb7.size)
        have hA9 : AAt (w8.alloc (.cells #[.int .i64 Y.ar, .int .i64 Y.ap, .int .i64 Y.k, .int .i64 Y.m, .int .i64 Y.n, .string Y.t] 39)) p N := (Below.heap_alloc w8 _ p hA8.lt).trans hA8
        have k15 := World.alloc_heap_new w8 (.cells #[.int .i64 Y.ar, .int .i64 Y.ap, .int .i64 Y.k, .int .i64 Y.m, .int .i64 Y.n, .string Y.t] 39)
        have k14 := (Below.heap_alloc w8 (.cells #[.int .i64 Y.ar, .int .i64 Y.ap, .int .i64 Y.k, .int .i64 Y.m, .int .i64 Y.n, .string Y.t] 39) _ (Array.getElem?_eq_some_iff.1 k14).1).trans k14
        have hb9 := hb8.alloc hb8.size (.cells #[.int .i64 Y.ar, .int .i64 Y.ap, .int .i64 Y.k, .int .i64 Y.m, .int .i64 Y.n, .string Y.t] 39)
        obtain ⟨w9, hw9⟩ : ∃ v, w8.alloc (.cells #[.int .i64 Y.ar, .int .i64 Y.ap, .int .i64 Y.k, .int .i64 Y.m, .int .i64 Y.n, .string Y.t] 39) = v := ⟨_, rfl⟩
        rw [hw9] at hA9 k14 k15 hb9 ⊢
        obtain ⟨b15, hb15⟩ : ∃ v, w8.heap.size = v := ⟨_, rfl⟩
        rw [hb15] at k15 ⊢
        clear hw9 hb15 hA7 hA8 hb7 hb8
        have k10 := (hb9.block _ (Array.getElem?_eq_some_iff.1 k10).1).trans k10
        have k11 := (hb9.block _ (Array.getElem?_eq_some_iff.1 k11).1).trans k11
        have HS9 : Hid (∀ W, Below w9.heap.size w9 W → ((W.cell? ⟨b10, 0, none⟩ = some (.int .i64 M.pr) ∧ W.cell? ⟨b10, 1, none⟩ = some (.int .i64 M.pp)) ∧ (W.cell? ⟨b11, 0, none⟩ = some (.int .i64 X.ar) ∧ W.cell? ⟨b11, 1, none⟩ = some (.int .i64 X.ap) ∧ W.cell? ⟨b11, 2, none⟩ = some (.int .i64 X.k) ∧ W.cell? ⟨b11, 3, none⟩ = some (.int .i64 X.m) ∧ W.cell? ⟨b11, 4, none⟩ = some (.int .i64 X.n) ∧ W.cell? ⟨b11, 5, none⟩ = some (.string X.t)) ∧ (W.cell? ⟨b14, 0, none⟩ = some (.int .i64 N.pr) ∧ W.cell? ⟨b14, 1, none⟩ = some (.int .i64 N.pp)) ∧ (W.cell? ⟨b15, 0, none⟩ = some (.int .i64 Y.ar) ∧ W.cell? ⟨b15, 1, none⟩ = some (.int .i64 Y.ap) ∧ W.cell? ⟨b15, 2, none⟩ = some (.int .i64 Y.k) ∧ W.cell? ⟨b15, 3, none⟩ = some (.int .i64 Y.m) ∧ W.cell? ⟨b15, 4, none⟩ = some (.int .i64 Y.n) ∧ W.cell? ⟨b15, 5, none⟩ = some (.string Y.t)) ∧ (W.cell? ⟨b, off + k * 7, none⟩ = some (.int .i64 y.x) ∧ W.cell? ⟨b, off + k * 7 + 1, none⟩ = some (.int .i64 y.r) ∧ W.cell? ⟨b, off + k * 7 + 2, none⟩ = some (.int .i64 y.q) ∧ W.cell? ⟨b, off + k * 7 + 3, none⟩ = some (.int .i64 y.k) ∧ W.cell? ⟨b, off + k * 7 + 4, none⟩ = some (.int .i64 y.m) ∧ W.cell? ⟨b, off + k * 7 + 5, none⟩ = some (.int .i64 y.n) ∧ W.cell? ⟨b, off + k * 7 + 6, none⟩ = some (.string y.t)))) := Lib.hid fun W hb =>
          have g : ∀ {q o}, w9.heap[q]? = some o → W.heap[q]? = some o := fun h => (hb.block _ (Array.getElem?_eq_some_iff.1 h).1).trans h
          ⟨(two (g k10)).1, (six (g k11)).1, (two (g k14)).1, (six (g k15)).1, HX5.out W (hb9.trans (hb.mono hb9.size))⟩
        have z9 := HS9.out _ (Below.refl _ w9)
        have HA9 := Lib.hid hA9
        have HBW := Lib.hid (hBW.trans (hb9.mono hBW.size))
        clear hA9 k10 k11 k14 k15 hb9 hBW hA5 hB5 HX4 HX5 HACT H12 H13 H13b l45 d10 d11
        cases had
        · cases has
          · cases ok
            · have hne36 : ∀ W, (binOp .neq 36 (.agg #[.int .i64 N.pr, .int .i64 N.pp]) (.agg #[.int .i64 M.pr, .int .i64 M.pp])).run Tryd.prog W = .ok (.bool false) W := fun W => by have h := K2.out rfl; rw [neq31, decide_eq_true ⟨h.2.1, h.2.2.1⟩]; rfl
              have hne39 : ∀ W, (binOp .neq 39 (.agg #[.int .i64 X.ar, .int .i64 X.ap, .int .i64 X.k, .int .i64 X.m, .int .i64 X.n, .string X.t]) (.agg #[.int .i64 Y.ar, .int .i64 Y.ap, .int .i64 Y.k, .int .i64 Y.m, .int .i64 Y.n, .string Y.t])).run Tryd.prog W = .ok (.bool false) W := fun W => by have h := K2.out rfl; rw [neq36, h.2.2.2, decide_eq_true ⟨rfl, rfl, rfl, rfl, rfl, rfl⟩]; rfl
              clear HL2a HL3a HL4a K1 K2
              have hS0 : (fun W => ((W.cell? ⟨b10, 0, none⟩ = some (.int .i64 M.pr) ∧ W.cell? ⟨b10, 1, none⟩ = some (.int .i64 M.pp)) ∧ (W.cell? ⟨b11, 0, none⟩ = some (.int .i64 X.ar) ∧ W.cell? ⟨b11, 1, none⟩ = some (.int .i64 X.ap) ∧ W.cell? ⟨b11, 2, none⟩ = some (.int .i64 X.k) ∧ W.cell? ⟨b11, 3, none⟩ = some (.int .i64 X.m) ∧ W.cell? ⟨b11, 4, none⟩ = some (.int .i64 X.n) ∧ W.cell? ⟨b11, 5, none⟩ = some (.string X.t)) ∧ (W.cell? ⟨b14, 0, none⟩ = some (.int .i64 N.pr) ∧ W.cell? ⟨b14, 1, none⟩ = some (.int .i64 N.pp)) ∧ (W.cell? ⟨b15, 0, none⟩ = some (.int .i64 Y.ar) ∧ W.cell? ⟨b15, 1, none⟩ = some (.int .i64 Y.ap) ∧ W.cell? ⟨b15, 2, none⟩ = some (.int .i64 Y.k) ∧ W.cell? ⟨b15, 3, none⟩ = some (.int .i64 Y.m) ∧ W.cell? ⟨b15, 4, none⟩ = some (.int .i64 Y.n) ∧ W.cell? ⟨b15, 5, none⟩ = some (.string Y.t)) ∧ (W.cell? ⟨b, off + k * 7, none⟩ = some (.int .i64 y.x) ∧ W.cell? ⟨b, off + k * 7 + 1, none⟩ = some (.int .i64 y.r) ∧ W.cell? ⟨b, off + k * 7 + 2, none⟩ = some (.int .i64 y.q) ∧ W.cell? ⟨b, off + k * 7 + 3, none⟩ = some (.int .i64 y.k) ∧ W.cell? ⟨b, off + k * 7 + 4, none⟩ = some (.int .i64 y.m) ∧ W.cell? ⟨b, off + k * 7 + 5, none⟩ = some (.int .i64 y.n) ∧ W.cell? ⟨b, off + k * 7 + 6, none⟩ = some (.string y.t)))) w9.drew := z9
              refine wp_region_held_drew (S := fun W => ((W.cell? ⟨b10, 0, none⟩ = some (.int .i64 M.pr) ∧ W.cell? ⟨b10, 1, none⟩ = some (.int .i64 M.pp)) ∧ (W.cell? ⟨b11, 0, none⟩ = some (.int .i64 X.ar) ∧ W.cell? ⟨b11, 1, none⟩ = some (.int .i64 X.ap) ∧ W.cell? ⟨b11, 2, none⟩ = some (.int .i64 X.k) ∧ W.cell? ⟨b11, 3, none⟩ = some (.int .i64 X.m) ∧ W.cell? ⟨b11, 4, none⟩ = some (.int .i64 X.n) ∧ W.cell? ⟨b11, 5, none⟩ = some (.string X.t)) ∧ (W.cell? ⟨b14, 0, none⟩ = some (.int .i64 N.pr) ∧ W.cell? ⟨b14, 1, none⟩ = some (.int .i64 N.pp)) ∧ (W.cell? ⟨b15, 0, none⟩ = some (.int .i64 Y.ar) ∧ W.cell? ⟨b15, 1, none⟩ = some (.int .i64 Y.ap) ∧ W.cell? ⟨b15, 2, none⟩ = some (.int .i64 Y.k) ∧ W.cell? ⟨b15, 3, none⟩ = some (.int .i64 Y.m) ∧ W.cell? ⟨b15, 4, none⟩ = some (.int .i64 Y.n) ∧ W.cell? ⟨b15, 5, none⟩ = some (.string Y.t)) ∧ (W.cell? ⟨b, off + k * 7, none⟩ = some (.int .i64 y.x) ∧ W.cell? ⟨b, off + k * 7 + 1, none⟩ = some (.int .i64 y.r) ∧ W.cell? ⟨b, off + k * 7 + 2, none⟩ = some (.int .i64 y.q) ∧ W.cell? ⟨b, off + k * 7 + 3, none⟩ = some (.int .i64 y.k) ∧ W.cell? ⟨b, off + k * 7 + 4, none⟩ = some (.int .i64 y.m) ∧ W.cell? ⟨b, off + k * 7 + 5, none⟩ = some (.int .i64 y.n) ∧ W.cell? ⟨b, off + k * 7 + 6, none⟩ = some (.string y.t)))) rfl hS0 (fun hHeld => ?_)
              simp only [List.size_toArray, List.length_cons, List.length_nil, Nat.reduceAdd]
              have HB0 : Hid (Below w9.heap.size w9 w9.drew) := Lib.hid (Below.refl _ _).drew
              obtain ⟨V0, hV0⟩ : ∃ V, w9.drew = V := ⟨_, rfl⟩
              rw [hV0] at hHeld hS0 HB0 ⊢
              clear hV0
              refine wpAnyH_take (i := 0) (v := .agg #[.int .i64 N.pr, .int .i64 N.pp]) rfl (by kernel_rfl) (by kernel_rfl) (by kernel_rfl) (fun _ _ _ h => h) (Or.inl ⟨by rfl, ?_⟩) (by assumption) ?_
              · intro wx hs1; obtain ⟨⟨s0, s1⟩, ⟨p0, p1, p2, p3, p4, p5⟩, ⟨t0, t1⟩, ⟨q0, q1, q2, q3, q4, q5⟩, ⟨x0, x1, x2, x3, x4, x5, x6⟩⟩ := hs1; go_simp
              (try simp only [Act.put, List.getElem_toArray, List.getElem_cons_zero, List.setIfInBounds_toArray, List.set_cons_zero, List.set_cons_succ])
              refine wpAnyH_take (i := 1) (v := .agg #[.int .i64 M.pr, .int .i64 M.pp]) rfl (by kernel_rfl) (by kernel_rfl) (by kernel_rfl) (fun _ _ _ h => h) (Or.inl ⟨by rfl, ?_⟩) (by assumption) ?_
              · intro wx hs1; obtain ⟨⟨s0, s1⟩, ⟨p0, p1, p2, p3, p4, p5⟩, ⟨t0, t1⟩, ⟨q0, q1, q2, q3, q4, q5⟩, ⟨x0, x1, x2, x3, x4, x5, x6⟩⟩ := hs1; go_simp
              (try simp only [Act.put, List.getElem_toArray, List.getElem_cons_succ, List.getElem_cons_zero, List.setIfInBounds_toArray, List.set_cons_zero, List.set_cons_succ])
              refine wpAnyH_ready (rs := [2]) (by kernel_rfl) (by simp) (AllReadyH.cons rfl (fun K hK => ?_) AllReadyH.nil)
              go_simp
              go_at_call 16
              (with_reducible refine (HL1.out _).mono ?_)
              rintro e v1 ⟨rfl, hb⟩
              try dsimp only
              have HC1 : Hid (Below w9.heap.size w9 v1) := Lib.hid (HB0.out.trans (hb.mono HB0.out.size)); clear hb; have hS := HS9.out _ HC1.out
              refine hK.out _ _ hS (fun _ => ?_)
              clear hK K
              (try simp only [Act.put, List.getElem_toArray, List.getElem_cons_succ, List.getElem_cons_zero, List.setIfInBounds_toArray, List.set_cons_zero, List.set_cons_succ])
              refine wpAnyH_take (i := 3) (v := .bool false) rfl (by kernel_rfl) (by kernel_rfl) (by kernel_rfl) (fun _ _ _ h => h) (Or.inl ⟨by rfl, ?_⟩) (by assumption) ?_
              · intro wx hs1; go_simp
              (try simp only [Act.put, List.getElem_toArray, List.getElem_cons_succ, List.getElem_cons_zero, List.setIfInBounds_toArray, List.set_cons_zero, List.set_cons_succ])
              refine wpAnyH_take (i := 4) (v := .bool false) rfl (by kernel_rfl) (by kernel_rfl) (by kernel_rfl) (fun _ _ _ h => h) (Or.inl ⟨by rfl, ?_⟩) (by assumption) ?_
              · intro wx hs1; go_simp
              (try simp only [Act.put, List.getElem_toArray, List.getElem_cons_succ, List.getElem_cons_zero, List.setIfInBounds_toArray, List.set_cons_zero, List.set_cons_succ])
              refine wpAnyH_take (i := 5) (v := .bool false) rfl (by kernel_rfl) (by kernel_rfl) (by kernel_rfl) (fun _ _ _ h => h) (Or.inl ⟨by rfl, ?_⟩) (by assumption) ?_
              · intro wx hs1; go_simp
              (try simp only [Act.put, List.getElem_toArray, List.getElem_cons_succ, List.getElem_cons_zero, List.setIfInBounds_toArray, List.set_cons_zero, List.set_cons_succ])
              refine wpAnyH_take (i := 6) (v := undef) rfl (by kernel_rfl) (by kernel_rfl) (by kernel_rfl) (fun _ _ _ h => h) (Or.inr ⟨by rfl, rfl⟩) (by assumption) ?_
              (try simp only [Act.put, List.getElem_toArray, List.getElem_cons_succ, List.getElem_cons_zero, List.setIfInBounds_toArray, List.set_cons_zero, List.set_cons_succ])
              refine wpAnyH_take (i := 7) (v := undef) rfl (by kernel_rfl) (by kernel_rfl) (by kernel_rfl) (fun _ _ _ h => h) (Or.inr ⟨by rfl, rfl⟩) (by assumption) ?_
              (try simp only [Act.put, List.getElem_toArray, List.getElem_cons_succ, List.getElem_cons_zero, List.setIfInBounds_toArray, List.set_cons_zero, List.set_cons_succ])
              refine wpAnyH_take (i := 8) (v := undef) rfl (by kernel_rfl) (by kernel_rfl) (by kernel_rfl) (fun _ _ _ h => h) (Or.inr ⟨by rfl, rfl⟩) (by assumption) ?_
              (try simp only [Act.put, List.getElem_toArray, List.getElem_cons_succ, List.getElem_cons_zero, List.setIfInBounds_toArray, List.set_cons_zero, List.set_cons_succ])
              refine wpAnyH_take (i := 9) (v := undef) rfl (by kernel_rfl) (by kernel_rfl) (by kernel_rfl) (fun _ _ _ h => h) (Or.inr ⟨by rfl, rfl⟩) (by assumption) ?_
              (try simp only [Act.put, List.getElem_toArray, List.getElem_cons_succ, List.getElem_cons_zero, List.setIfInBounds_toArray, List.set_cons_zero, List.set_cons_succ])
              refine wpAnyH_take (i := 10) (v := undef) rfl (by kernel_rfl) (by kernel_rfl) (by kernel_rfl) (fun _ _ _ h => h) (Or.inr ⟨by rfl, rfl⟩) (by assumption) ?_
              (try simp only [Act.put, List.getElem_toArray, List.getElem_cons_succ, List.getElem_cons_zero, List.setIfInBounds_toArray, List.set_cons_zero, List.set_cons_succ])
              refine wpAnyH_take (i := 11) (v := undef) rfl (by kernel_rfl) (by kernel_rfl) (by kernel_rfl) (fun _ _ _ h => h) (Or.inr ⟨by rfl, rfl⟩) (by assumption) ?_
              (try simp only [Act.put, List.getElem_toArray, List.getElem_cons_succ, List.getElem_cons_zero, List.setIfInBounds_toArray, List.set_cons_zero, List.set_cons_succ])
              refine wpAnyH_take (i := 12) (v := undef) rfl (by kernel_rfl) (by kernel_rfl) (by kernel_rfl) (fun _ _ _ h => h) (Or.inr ⟨by rfl, rfl⟩) (by assumption) ?_
              (try simp only [Act.put, List.getElem_toArray, List.getElem_cons_succ, List.getElem_cons_zero, List.setIfInBounds_toArray, List.set_cons_zero, List.set_cons_succ])
              refine wpAnyH_take (i := 13) (v := undef) rfl (by kernel_rfl) (by kernel_rfl) (by kernel_rfl) (fun _ _ _ h => h) (Or.inr ⟨by rfl, rfl⟩) (by assumption) ?_
              (try simp only [Act.put, List.getElem_toArray, List.getElem_cons_succ, List.getElem_cons_zero, List.setIfInBounds_toArray, List.set_cons_zero, List.set_cons_succ])
              refine wpAnyH_take (i := 14) (v := undef) rfl (by kernel_rfl) (by kernel_rfl) (by kernel_rfl) (fun _ _ _ h => h) (Or.inr ⟨by rfl, rfl⟩) (by assumption) ?_
              (try simp only [Act.put, List.getElem_toArray, List.getElem_cons_succ, List.getElem_cons_zero, List.setIfInBounds_toArray, List.set_cons_zero, List.set_cons_succ])
              refine wpAnyH_take (i := 15) (v := .bool false) rfl (by kernel_rfl) (by kernel_rfl) (by kernel_rfl) (fun _ _ _ h => h) (Or.inl ⟨by rfl, ?_⟩) (by assumption) ?_
              · intro wx hs1; go_simp
              (try simp only [Act.put, List.getElem_toArray, List.getElem_cons_succ, List.getElem_cons_zero, List.setIfInBounds_toArray, List.set_cons_zero, List.set_cons_succ])
              refine wpAnyH_take (i := 16) (v := .bool false) rfl (by kernel_rfl) (by kernel_rfl) (by kernel_rfl) (fun _ _ _ h => h) (Or.inl ⟨by rfl, ?_⟩) (by assumption) ?_
              · intro wx hs1; go_simp
              (try simp only [Act.put, List.getElem_toArray, List.getElem_cons_succ, List.getElem_cons_zero, List.setIfInBounds_toArray, List.set_cons_zero, List.set_cons_succ])
              refine wpAnyH_take (i := 17) (v := .bool false) rfl (by kernel_rfl) (by kernel_rfl) (by kernel_rfl) (fun _ _ _ h => h) (Or.inl ⟨by rfl, ?_⟩) (by assumption) ?_
              · intro wx hs1; go_simp
              (try simp only [Act.put, List.getElem_toArray, List.getElem_cons_succ, List.getElem_cons_zero, List.setIfInBounds_toArray, List.set_cons_zero, List.set_cons_succ])
              refine wpAnyH_take (i := 18) (v := .bool false) rfl (by kernel_rfl) (by kernel_rfl) (by kernel_rfl) (fun _ _ _ h => h) (Or.inl ⟨by rfl, ?_⟩) (by assumption) ?_
              · intro wx hs1; go_simp
              (try simp only [Act.put, List.getElem_toArray, List.getElem_cons_succ, List.getElem_cons_zero, List.setIfInBounds_toArray, List.set_cons_zero, List.set_cons_succ])
              refine wpAnyH_take (i := 19) (v := .bool false) rfl (by kernel_rfl) (by kernel_rfl) (by kernel_rfl) (fun _ _ _ h => h) (Or.inl ⟨by rfl, ?_⟩) (by assumption) ?_
              · intro wx hs1; go_simp
              (try simp only [Act.put, List.getElem_toArray, List.getElem_cons_succ, List.getElem_cons_zero, List.setIfInBounds_toArray, List.set_cons_zero, List.set_cons_succ])
              refine wpAnyH_take (i := 20) (v := undef) rfl (by kernel_rfl) (by kernel_rfl) (by kernel_rfl) (fun _ _ _ h => h) (Or.inr ⟨by rfl, rfl⟩) (by assumption) ?_
              (try simp only [Act.put, List.getElem_toArray, List.getElem_cons_succ, List.getElem_cons_zero, List.setIfInBounds_toArray, List.set_cons_zero, List.set_cons_succ])
              refine wpAnyH_take (i := 21) (v := undef) rfl (by kernel_rfl) (by kernel_rfl) (by kernel_rfl) (fun _ _ _ h => h) (Or.inr ⟨by rfl, rfl⟩) (by assumption) ?_
              (try simp only [Act.put, List.getElem_toArray, List.getElem_cons_succ, List.getElem_cons_zero, List.setIfInBounds_toArray, List.set_cons_zero, List.set_cons_succ])
              refine wpAnyH_take (i := 22) (v := undef) rfl (by kernel_rfl) (by kernel_rfl) (by kernel_rfl) (fun _ _ _ h => h) (Or.inr ⟨by rfl, rfl⟩) (by assumption) ?_
              (try simp only [Act.put, List.getElem_toArray, List.getElem_cons_succ, List.getElem_cons_zero, List.setIfInBounds_toArray, List.set_cons_zero, List.set_cons_succ])
              refine wpAnyH_take (i := 23) (v := undef) rfl (by kernel_rfl) (by kernel_rfl) (by kernel_rfl) (fun _ _ _ h => h) (Or.inr ⟨by rfl, rfl⟩) (by assumption) ?_
              (try simp only [Act.put, List.getElem_toArray, List.getElem_cons_succ, List.getElem_cons_zero, List.setIfInBounds_toArray, List.set_cons_zero, List.set_cons_succ])
              refine wpAnyH_take (i := 24) (v := .bool false) rfl (by kernel_rfl) (by kernel_rfl) (by kernel_rfl) (fun _ _ _ h => h) (Or.inl ⟨by rfl, ?_⟩) (by assumption) ?_
              · intro wx hs1; go_simp
              (try simp only [Act.put, List.getElem_toArray, List.getElem_cons_succ, List.getElem_cons_zero, List.setIfInBounds_toArray, List.set_cons_zero, List.set_cons_succ])
              refine wpAnyH_take (i := 25) (v := .bool false) rfl (by kernel_rfl) (by kernel_rfl) (by kernel_rfl) (fun _ _ _ h => h) (Or.inl ⟨by rfl, ?_⟩) (by assumption) ?_
              · intro wx hs1; go_simp
              (try simp only [Act.put, List.getElem_toArray, List.getElem_cons_succ, List.getElem_cons_zero, List.setIfInBounds_toArray, List.set_cons_zero, List.set_cons_succ])
              refine wpAnyH_take (i := 26) (v := .bool false) rfl (by kernel_rfl) (by kernel_rfl) (by kernel_rfl) (fun _ _ _ h => h) (Or.inl ⟨by rfl, ?_⟩) (by assumption) ?_
              · intro wx hs1; go_simp
              (try simp only [Act.put, List.getElem_toArray, List.getElem_cons_succ, List.getElem_cons_zero, List.setIfInBounds_toArray, List.set_cons_zero, List.set_cons_succ])
              refine wpAnyH_take (i := 27) (v := .bool false) rfl (by kernel_rfl) (by kernel_rfl) (by kernel_rfl) (fun _ _ _ h => h) (Or.inl ⟨by rfl, ?_⟩) (by assumption) ?_
              · intro wx hs1; go_simp
              (try simp only [Act.put, List.getElem_toArray, List.getElem_cons_succ, List.getElem_cons_zero, List.setIfInBounds_toArray, List.set_cons_zero, List.set_cons_succ])
              refine wpAnyH_take (i := 28) (v := .bool false) rfl (by kernel_rfl) (by kernel_rfl) (by kernel_rfl) (fun _ _ _ h => h) (Or.inl ⟨by rfl, ?_⟩) (by assumption) ?_
              · intro wx hs1; go_simp
              (try simp only [Act.put, List.getElem_toArray, List.getElem_cons_succ, List.getElem_cons_zero, List.setIfInBounds_toArray, List.set_cons_zero, List.set_cons_succ])
              refine wpAnyH_take (i := 29) (v := undef) rfl (by kernel_rfl) (by kernel_rfl) (by kernel_rfl) (fun _ _ _ h => h) (Or.inr ⟨by rfl, rfl⟩) (by assumption) ?_
              (try simp only [Act.put, List.getElem_toArray, List.getElem_cons_succ, List.getElem_cons_zero, List.setIfInBounds_toArray, List.set_cons_zero, List.set_cons_succ])
              refine wpAnyH_take (i := 30) (v := undef) rfl (by kernel_rfl) (by kernel_rfl) (by kernel_rfl) (fun _ _ _ h => h) (Or.inr ⟨by rfl, rfl⟩) (by assumption) ?_
              (try simp only [Act.put, List.getElem_toArray, List.getElem_cons_succ, List.getElem_cons_zero, List.setIfInBounds_toArray, List.set_cons_zero, List.set_cons_succ])
              refine wpAnyH_take (i := 31) (v := undef) rfl (by kernel_rfl) (by kernel_rfl) (by kernel_rfl) (fun _ _ _ h => h) (Or.inr ⟨by rfl, rfl⟩) (by assumption) ?_
              (try simp only [Act.put, List.getElem_toArray, List.getElem_cons_succ, List.getElem_cons_zero, List.setIfInBounds_toArray, List.set_cons_zero, List.set_cons_succ])
              refine wpAnyH_take (i := 32) (v := undef) rfl (by kernel_rfl) (by kernel_rfl) (by kernel_rfl) (fun _ _ _ h => h) (Or.inr ⟨by rfl, rfl⟩) (by assumption) ?_
              (try simp only [Act.put, List.getElem_toArray, List.getElem_cons_succ, List.getElem_cons_zero, List.setIfInBounds_toArray, List.set_cons_zero, List.set_cons_succ])
              refine wpAnyH_take (i := 33) (v := undef) rfl (by kernel_rfl) (by kernel_rfl) (by kernel_rfl) (fun _ _ _ h => h) (Or.inr ⟨by rfl, rfl⟩) (by assumption) ?_
              (try simp only [Act.put, List.getElem_toArray, List.getElem_cons_succ, List.getElem_cons_zero, List.setIfInBounds_toArray, List.set_cons_zero, List.set_cons_succ])
              refine wpAnyH_take (i := 34) (v := undef) rfl (by kernel_rfl) (by kernel_rfl) (by kernel_rfl) (fun _ _ _ h => h) (Or.inr ⟨by rfl, rfl⟩) (by assumption) ?_
              (try simp only [Act.put, List.getElem_toArray, List.getElem_cons_succ, List.getElem_cons_zero, List.setIfInBounds_toArray, List.set_cons_zero, List.set_cons_succ])
              refine wpAnyH_take (i := 35) (v := undef) rfl (by kernel_rfl) (by kernel_rfl) (by kernel_rfl) (fun _ _ _ h => h) (Or.inr ⟨by rfl, rfl⟩) (by assumption) ?_
              (try simp only [Act.put, List.getElem_toArray, List.getElem_cons_succ, List.getElem_cons_zero, List.setIfInBounds_toArray, List.set_cons_zero, List.set_cons_succ])
              refine wpAnyH_take (i := 36) (v := .bool false) rfl (by kernel_rfl) (by kernel_rfl) (by kernel_rfl) (fun _ _ _ h => h) (Or.inl ⟨by rfl, ?_⟩) (by assumption) ?_
              · intro wx hs1; go_simp
              (try simp only [Act.put, List.getElem_toArray, List.getElem_cons_succ, List.getElem_cons_zero, List.setIfInBounds_toArray, List.set_cons_zero, List.set_cons_succ])
              refine wpAnyH_take (i := 37) (v := .bool false) rfl (by kernel_rfl) (by kernel_rfl) (by kernel_rfl) (fun _ _ _ h => h) (Or.inl ⟨by rfl, ?_⟩) (by assumption) ?_
              · intro wx hs1; go_simp
              (try simp only [Act.put, List.getElem_toArray, List.getElem_cons_succ, List.getElem_cons_zero, List.setIfInBounds_toArray, List.set_cons_zero, List.set_cons_succ])
              refine wpAnyH_take (i := 38) (v := .bool false) rfl (by kernel_rfl) (by kernel_rfl) (by kernel_rfl) (fun _ _ _ h => h) (Or.inl ⟨by rfl, ?_⟩) (by assumption) ?_
              · intro wx hs1; go_simp
              (try simp only [Act.put, List.getElem_toArray, List.getElem_cons_succ, List.getElem_cons_zero, List.setIfInBounds_toArray, List.set_cons_zero, List.set_cons_succ])
              refine wpAnyH_take (i := 39) (v := .bool false) rfl (by kernel_rfl) (by kernel_rfl) (by kernel_rfl) (fun _ _ _ h => h) (Or.inl ⟨by rfl, ?_⟩) (by assumption) ?_
              · intro wx hs1; go_simp
              (try simp only [Act.put, List.getElem_toArray, List.getElem_cons_succ, List.getElem_cons_zero, List.setIfInBounds_toArray, List.set_cons_zero, List.set_cons_succ])
              refine wpAnyH_take (i := 40) (v := .bool true) rfl (by kernel_rfl) (by kernel_rfl) (by kernel_rfl) (fun _ _ _ h => h) (Or.inl ⟨by rfl, ?_⟩) (by assumption) ?_
              · intro wx hs1; go_simp
              (try simp only [Act.put, List.getElem_toArray, List.getElem_cons_succ, List.getElem_cons_zero, List.setIfInBounds_toArray, List.set_cons_zero, List.set_cons_succ])
              refine wpAnyH_take (i := 41) (v := .bool true) rfl (by kernel_rfl) (by kernel_rfl) (by kernel_rfl) (fun _ _ _ h => h) (Or.inl ⟨by rfl, ?_⟩) (by assumption) ?_
              · intro wx hs1; go_simp
              (try simp only [Act.put, List.getElem_toArray, List.getElem_cons_succ, List.getElem_cons_zero, List.setIfInBounds_toArray, List.set_cons_zero, List.set_cons_succ])
              refine wpAnyH_take (i := 42) (v := .agg #[.int .i64 N.pr, .int .i64 N.pp]) rfl (by kernel_rfl) (by kernel_rfl) (by kernel_rfl) (fun _ _ _ h => h) (Or.inl ⟨by rfl, ?_⟩) (by assumption) ?_
              · intro wx hs1; obtain ⟨⟨s0, s1⟩, ⟨p0, p1, p2, p3, p4, p5⟩, ⟨t0, t1⟩, ⟨q0, q1, q2, q3, q4, q5⟩, ⟨x0, x1, x2, x3, x4, x5, x6⟩⟩ := hs1; go_simp
              (try simp only [Act.put, List.getElem_toArray, List.getElem_cons_succ, List.getElem_cons_zero, List.setIfInBounds_toArray, List.set_cons_zero, List.set_cons_succ])
              refine wpAnyH_take (i := 43) (v := .agg #[.int .i64 M.pr, .int .i64 M.pp]) rfl (by kernel_rfl) (by kernel_rfl) (by kernel_rfl) (fun _ _ _ h => h) (Or.inl ⟨by rfl, ?_⟩) (by assumption) ?_
              · intro wx hs1; obtain ⟨⟨s0, s1⟩, ⟨p0, p1, p2, p3, p4, p5⟩, ⟨t0, t1⟩, ⟨q0, q1, q2, q3, q4, q5⟩, ⟨x0, x1, x2, x3, x4, x5, x6⟩⟩ := hs1; go_simp
              (try simp only [Act.put, List.getElem_toArray, List.getElem_cons_succ, List.getElem_cons_zero, List.setIfInBounds_toArray, List.set_cons_zero, List.set_cons_succ])
              refine wpAnyH_take (i := 44) (v := .bool false) rfl (by kernel_rfl) (by kernel_rfl) (by kernel_rfl) (fun _ _ _ h => h) (Or.inl ⟨by rfl, ?_⟩) (by assumption) ?_
              · intro wx hs1; clear hs1; have e3 := hne36 wx; go_simp
              (try simp only [Act.put, List.getElem_toArray, List.getElem_cons_succ, List.getElem_cons_zero, List.setIfInBounds_toArray, List.set_cons_zero, List.set_cons_succ])
              refine wpAnyH_take (i := 45) (v := .bool false) rfl (by kernel_rfl) (by kernel_rfl) (by kernel_rfl) (fun _ _ _ h => h) (Or.inl ⟨by rfl, ?_⟩) (by assumption) ?_
              · intro wx hs1; go_simp
              (try simp only [Act.put, List.getElem_toArray, List.getElem_cons_succ, List.getElem_cons_zero, List.setIfInBounds_toArray, List.set_cons_zero, List.set_cons_succ])
              refine wpAnyH_take (i := 46) (v := .agg #[.int .i64 X.ar, .int .i64 X.ap, .int .i64 X.k, .int .i64 X.m, .int .i64 X.n, .string X.t]) rfl (by kernel_rfl) (by kernel_rfl) (by kernel_rfl) (fun _ _ _ h => h) (Or.inl ⟨by rfl, ?_⟩) (by assumption) ?_
              · intro wx hs1; obtain ⟨⟨s0, s1⟩, ⟨p0, p1, p2, p3, p4, p5⟩, ⟨t0, t1⟩, ⟨q0, q1, q2, q3, q4, q5⟩, ⟨x0, x1, x2, x3, x4, x5, x6⟩⟩ := hs1; go_simp
              (try simp only [Act.put, List.getElem_toArray, List.getElem_cons_succ, List.getElem_cons_zero, List.setIfInBounds_toArray, List.set_cons_zero, List.set_cons_succ])
              refine wpAnyH_take (i := 47) (v := .agg #[.int .i64 Y.ar, .int .i64 Y.ap, .int .i64 Y.k, .int .i64 Y.m, .int .i64 Y.n, .string Y.t]) rfl (by kernel_rfl) (by kernel_rfl) (by kernel_rfl) (fun _ _ _ h => h) (Or.inl ⟨by rfl, ?_⟩) (by assumption) ?_
              · intro wx hs1; obtain ⟨⟨s0, s1⟩, ⟨p0, p1, p2, p3, p4, p5⟩, ⟨t0, t1⟩, ⟨q0, q1, q2, q3, q4, q5⟩, ⟨x0, x1, x2, x3, x4, x5, x6⟩⟩ := hs1; go_simp
              (try simp only [Act.put, List.getElem_toArray, List.getElem_cons_succ, List.getElem_cons_zero, List.setIfInBounds_toArray, List.set_cons_zero, List.set_cons_succ])
              refine wpAnyH_take (i := 48) (v := .bool false) rfl (by kernel_rfl) (by kernel_rfl) (by kernel_rfl) (fun _ _ _ h => h) (Or.inl ⟨by rfl, ?_⟩) (by assumption) ?_
              · intro wx hs1; clear hs1; have e3 := hne39 wx; go_simp
              (try simp only [Act.put, List.getElem_toArray, List.getElem_cons_succ, List.getElem_cons_zero, List.setIfInBounds_toArray, List.set_cons_zero, List.set_cons_succ])
              refine wpAnyH_take (i := 49) (v := .bool false) rfl (by kernel_rfl) (by kernel_rfl) (by kernel_rfl) (fun _ _ _ h => h) (Or.inl ⟨by rfl, ?_⟩) (by assumption) ?_
              · intro wx hs1; go_simp
              (try simp only [Act.put, List.getElem_toArray, List.getElem_cons_succ, List.getElem_cons_zero, List.setIfInBounds_toArray, List.set_cons_zero, List.set_cons_succ])
              refine wpAnyH_take (i := 50) (v := .bool false) rfl (by kernel_rfl) (by kernel_rfl) (by kernel_rfl) (fun _ _ _ h => h) (Or.inl ⟨by rfl, ?_⟩) (by assumption) ?_
              · intro wx hs1; go_simp
              (try simp only [Act.put, List.getElem_toArray, List.getElem_cons_succ, List.getElem_cons_zero, List.setIfInBounds_toArray, List.set_cons_zero, List.set_cons_succ])
              refine wpAnyH_take (i := 51) (v := .bool false) rfl (by kernel_rfl) (by kernel_rfl) (by kernel_rfl) (fun _ _ _ h => h) (Or.inl ⟨by rfl, ?_⟩) (by assumption) ?_
              · intro wx hs1; go_simp
              (try simp only [Act.put, List.getElem_toArray, List.getElem_cons_succ, List.getElem_cons_zero, List.setIfInBounds_toArray, List.set_cons_zero, List.set_cons_succ])
              refine wpAnyH_done (by kernel_rfl) ?_ _
              go_wp2_with fail
              go_roundw
              case rel => exact ⟨k + 1, by omega, by go_num, Lib.hid (by rw [HST.out]; exact ⟨AAt.keep HA9.out HC1.out, HBW.out.trans (HC1.out.mono HBW.out.size)⟩)⟩
              case measure => simp [RowKit.intOf]; omega
            · have HL4 := Lib.hid (HL4a.out rfl)
              clear HL2a HL3a HL4a K1 K2
              have hS0 : (fun W => ((W.cell? ⟨b10, 0, none⟩ = some (.int .i64 M.pr) ∧ W.cell? ⟨b10, 1, none⟩ = some (.int .i64 M.pp)) ∧ (W.cell? ⟨b11, 0, none⟩ = some (.int .i64 X.ar) ∧ W.cell? ⟨b11, 1, none⟩ = some (.int .i64 X.ap) ∧ W.cell? ⟨b11, 2, none⟩ = some (.int .i64 X.k) ∧ W.cell? ⟨b11, 3, none⟩ = some (.int .i64 X.m) ∧ W.cell? ⟨b11, 4, none⟩ = some (.int .i64 X.n) ∧ W.cell? ⟨b11, 5, none⟩ = some (.string X.t)) ∧ (W.cell? ⟨b14, 0, none⟩ = some (.int .i64 N.pr) ∧ W.cell? ⟨b14, 1, none⟩ = some (.int .i64 N.pp)) ∧ (W.cell? ⟨b15, 0, none⟩ = some (.int .i64 Y.ar) ∧ W.cell? ⟨b15, 1, none⟩ = some (.int .i64 Y.ap) ∧ W.cell? ⟨b15, 2, none⟩ = some (.int .i64 Y.k) ∧ W.cell? ⟨b15, 3, none⟩ = some (.int .i64 Y.m) ∧ W.cell? ⟨b15, 4, none⟩ = some (.int .i64 Y.n) ∧ W.cell? ⟨b15, 5, none⟩ = some (.string Y.t)) ∧ (W.cell? ⟨b, off + k * 7, none⟩ = some (.int .i64 y.x) ∧ W.cell? ⟨b, off + k * 7 + 1, none⟩ = some (.int .i64 y.r) ∧ W.cell? ⟨b, off + k * 7 + 2, none⟩ = some (.int .i64 y.q) ∧ W.cell? ⟨b, off + k * 7 + 3, none⟩ = some (.int .i64 y.k) ∧ W.cell? ⟨b, off + k * 7 + 4, none⟩ = some (.int .i64 y.m) ∧ W.cell? ⟨b, off + k * 7 + 5, none⟩ = some (.int .i64 y.n) ∧ W.cell? ⟨b, off + k * 7 + 6, none⟩ = some (.string y.t)))) w9.drew := z9
              refine wp_region_held_drew (S := fun W => ((W.cell? ⟨b10, 0, none⟩ = some (.int .i64 M.pr) ∧ W.cell? ⟨b10, 1, none⟩ = some (.int .i64 M.pp)) ∧ (W.cell? ⟨b11, 0, none⟩ = some (.int .i64 X.ar) ∧ W.cell? ⟨b11, 1, none⟩ = some (.int .i64 X.ap) ∧ W.cell? ⟨b11, 2, none⟩ = some (.int .i64 X.k) ∧ W.cell? ⟨b11, 3, none⟩ = some (.int .i64 X.m) ∧ W.cell? ⟨b11, 4, none⟩ = some (.int .i64 X.n) ∧ W.cell? ⟨b11, 5, none⟩ = some (.string X.t)) ∧ (W.cell? ⟨b14, 0, none⟩ = some (.int .i64 N.pr) ∧ W.cell? ⟨b14, 1, none⟩ = some (.int .i64 N.pp)) ∧ (W.cell? ⟨b15, 0, none⟩ = some (.int .i64 Y.ar) ∧ W.cell? ⟨b15, 1, none⟩ = some (.int .i64 Y.ap) ∧ W.cell? ⟨b15, 2, none⟩ = some (.int .i64 Y.k) ∧ W.cell? ⟨b15, 3, none⟩ = some (.int .i64 Y.m) ∧ W.cell? ⟨b15, 4, none⟩ = some (.int .i64 Y.n) ∧ W.cell? ⟨b15, 5, none⟩ = some (.string Y.t)) ∧ (W.cell? ⟨b, off + k * 7, none⟩ = some (.int .i64 y.x) ∧ W.cell? ⟨b, off + k * 7 + 1, none⟩ = some (.int .i64 y.r) ∧ W.cell? ⟨b, off + k * 7 + 2, none⟩ = some (.int .i64 y.q) ∧ W.cell? ⟨b, off + k * 7 + 3, none⟩ = some (.int .i64 y.k) ∧ W.cell? ⟨b, off + k * 7 + 4, none⟩ = some (.int .i64 y.m) ∧ W.cell? ⟨b, off + k * 7 + 5, none⟩ = some (.int .i64 y.n) ∧ W.cell? ⟨b, off + k * 7 + 6, none⟩ = some (.string y.t)))) rfl hS0 (fun hHeld => ?_)
              simp only [List.size_toArray, List.length_cons, List.length_nil, Nat.reduceAdd]
              have HB0 : Hid (Below w9.heap.size w9 w9.drew) := Lib.hid (Below.refl _ _).drew
              obtain ⟨V0, hV0⟩ : ∃ V, w9.drew = V := ⟨_, rfl⟩
              rw [hV0] at hHeld hS0 HB0 ⊢
              clear hV0
              refine wpAnyH_take (i := 0) (v := .agg #[.int .i64 N.pr, .int .i64 N.pp]) rfl (by kernel_rfl) (by kernel_rfl) (by kernel_rfl) (fun _ _ _ h => h) (Or.inl ⟨by rfl, ?_⟩) (by assumption) ?_
              · intro wx hs1; obtain ⟨⟨s0, s1⟩, ⟨p0, p1, p2, p3, p4, p5⟩, ⟨t0, t1⟩, ⟨q0, q1, q2, q3, q4, q5⟩, ⟨x0, x1, x2, x3, x4, x5, x6⟩⟩ := hs1; go_simp
              (try simp only [Act.put, List.getElem_toArray, List.getElem_cons_zero, List.setIfInBounds_toArray, List.set_cons_zero, List.set_cons_succ])
              refine wpAnyH_take (i := 1) (v := .agg #[.int .i64 M.pr, .int .i64 M.pp]) rfl (by kernel_rfl) (by kernel_rfl) (by kernel_rfl) (fun _ _ _ h => h) (Or.inl ⟨by rfl, ?_⟩) (by assumption) ?_
              · intro wx hs1; obtain ⟨⟨s0, s1⟩, ⟨p0, p1, p2, p3, p4, p5⟩, ⟨t0, t1⟩, ⟨q0, q1, q2, q3, q4, q5⟩, ⟨x0, x1, x2, x3, x4, x5, x6⟩⟩ := hs1; go_simp
              (try simp only [Act.put, List.getElem_toArray, List.getElem_cons_succ, List.getElem_cons_zero, List.setIfInBounds_toArray, List.set_cons_zero, List.set_cons_succ])
              refine wpAnyH_ready (rs := [2]) (by kernel_rfl) (by simp) (AllReadyH.cons rfl (fun K hK => ?_) AllReadyH.nil)
              go_simp
              go_at_call 16
              (with_reducible refine (HL1.out _).mono ?_)
              rintro e v1 ⟨rfl, hb⟩
              try dsimp only
              have HC1 : Hid (Below w9.heap.size w9 v1) := Lib.hid (HB0.out.trans (hb.mono HB0.out.size)); clear hb; have hS := HS9.out _ HC1.out
              refine hK.out _ _ hS (fun _ => ?_)
              clear hK K
              (try simp only [Act.put, List.getElem_toArray, List.getElem_cons_succ, List.getElem_cons_zero, List.setIfInBounds_toArray, List.set_cons_zero, List.set_cons_succ])
              refine wpAnyH_take (i := 3) (v := .bool false) rfl (by kernel_rfl) (by kernel_rfl) (by kernel_rfl) (fun _ _ _ h => h) (Or.inl ⟨by rfl, ?_⟩) (by assumption) ?_
              · intro wx hs1; go_simp
              (try simp only [Act.put, List.getElem_toArray, List.getElem_cons_succ, List.getElem_cons_zero, List.setIfInBounds_toArray, List.set_cons_zero, List.set_cons_succ])
              refine wpAnyH_take (i := 4) (v := .bool false) rfl (by kernel_rfl) (by kernel_rfl) (by kernel_rfl) (fun _ _ _ h => h) (Or.inl ⟨by rfl, ?_⟩) (by assumption) ?_
              · intro wx hs1; go_simp
              (try simp only [Act.put, List.getElem_toArray, List.getElem_cons_succ, List.getElem_cons_zero, List.setIfInBounds_toArray, List.set_cons_zero, List.set_cons_succ])
              refine wpAnyH_take (i := 5) (v := .bool false) rfl (by kernel_rfl) (by kernel_rfl) (by kernel_rfl) (fun _ _ _ h => h) (Or.inl ⟨by rfl, ?_⟩) (by assumption) ?_
              · intro wx hs1; go_simp
              (try simp only [Act.put, List.getElem_toArray, List.getElem_cons_succ, List.getElem_cons_zero, List.setIfInBounds_toArray, List.set_cons_zero, List.set_cons_succ])
              refine wpAnyH_take (i := 6) (v := undef) rfl (by kernel_rfl) (by kernel_rfl) (by kernel_rfl) (fun _ _ _ h => h) (Or.inr ⟨by rfl, rfl⟩) (by assumption) ?_
              (try simp only [Act.put, List.getElem_toArray, List.getElem_cons_succ, List.getElem_cons_zero, List.setIfInBounds_toArray, List.set_cons_zero, List.set_cons_succ])
              refine wpAnyH_take (i := 7) (v := undef) rfl (by kernel_rfl) (by kernel_rfl) (by kernel_rfl) (fun _ _ _ h => h) (Or.inr ⟨by rfl, rfl⟩) (by assumption) ?_
              (try simp only [Act.put, List.getElem_toArray, List.getElem_cons_succ, List.getElem_cons_zero, List.setIfInBounds_toArray, List.set_cons_zero, List.set_cons_succ])
              refine wpAnyH_take (i := 8) (v := undef) rfl (by kernel_rfl) (by kernel_rfl) (by kernel_rfl) (fun _ _ _ h => h) (Or.inr ⟨by rfl, rfl⟩) (by assumption) ?_
              (try simp only [Act.put, List.getElem_toArray, List.getElem_cons_succ, List.getElem_cons_zero, List.setIfInBounds_toArray, List.set_cons_zero, List.set_cons_succ])
              refine wpAnyH_take (i := 9) (v := undef) rfl (by kernel_rfl) (by kernel_rfl) (by kernel_rfl) (fun _ _ _ h => h) (Or.inr ⟨by rfl, rfl⟩) (by assumption) ?_
              (try simp only [Act.put, List.getElem_toArray, List.getElem_cons_succ, List.getElem_cons_zero, List.setIfInBounds_toArray, List.set_cons_zero, List.set_cons_succ])
              refine wpAnyH_take (i := 10) (v := undef) rfl (by kernel_rfl) (by kernel_rfl) (by kernel_rfl) (fun _ _ _ h => h) (Or.inr ⟨by rfl, rfl⟩) (by assumption) ?_
              (try simp only [Act.put, List.getElem_toArray, List.getElem_cons_succ, List.getElem_cons_zero, List.setIfInBounds_toArray, List.set_cons_zero, List.set_cons_succ])
              refine wpAnyH_take (i := 11) (v := undef) rfl (by kernel_rfl) (by kernel_rfl) (by kernel_rfl) (fun _ _ _ h => h) (Or.inr ⟨by rfl, rfl⟩) (by assumption) ?_
              (try simp only [Act.put, List.getElem_toArray, List.getElem_cons_succ, List.getElem_cons_zero, List.setIfInBounds_toArray, List.set_cons_zero, List.set_cons_succ])
              refine wpAnyH_take (i := 12) (v := undef) rfl (by kernel_rfl) (by kernel_rfl) (by kernel_rfl) (fun _ _ _ h => h) (Or.inr ⟨by rfl, rfl⟩) (by assumption) ?_
              (try simp only [Act.put, List.getElem_toArray, List.getElem_cons_succ, List.getElem_cons_zero, List.setIfInBounds_toArray, List.set_cons_zero, List.set_cons_succ])
              refine wpAnyH_take (i := 13) (v := undef) rfl (by kernel_rfl) (by kernel_rfl) (by kernel_rfl) (fun _ _ _ h => h) (Or.inr ⟨by rfl, rfl⟩) (by assumption) ?_
              (try simp only [Act.put, List.getElem_toArray, List.getElem_cons_succ, List.getElem_cons_zero, List.setIfInBounds_toArray, List.set_cons_zero, List.set_cons_succ])
              refine wpAnyH_take (i := 14) (v := undef) rfl (by kernel_rfl) (by kernel_rfl) (by kernel_rfl) (fun _ _ _ h => h) (Or.inr ⟨by rfl, rfl⟩) (by assumption) ?_
              (try simp only [Act.put, List.getElem_toArray, List.getElem_cons_succ, List.getElem_cons_zero, List.setIfInBounds_toArray, List.set_cons_zero, List.set_cons_succ])
              refine wpAnyH_take (i := 15) (v := .bool false) rfl (by kernel_rfl) (by kernel_rfl) (by kernel_rfl) (fun _ _ _ h => h) (Or.inl ⟨by rfl, ?_⟩) (by assumption) ?_
              · intro wx hs1; go_simp
              (try simp only [Act.put, List.getElem_toArray, List.getElem_cons_succ, List.getElem_cons_zero, List.setIfInBounds_toArray, List.set_cons_zero, List.set_cons_succ])
              refine wpAnyH_take (i := 16) (v := .bool false) rfl (by kernel_rfl) (by kernel_rfl) (by kernel_rfl) (fun _ _ _ h => h) (Or.inl ⟨by rfl, ?_⟩) (by assumption) ?_
              · intro wx hs1; go_simp
              (try simp only [Act.put, List.getElem_toArray, List.getElem_cons_succ, List.getElem_cons_zero, List.setIfInBounds_toArray, List.set_cons_zero, List.set_cons_succ])
              refine wpAnyH_take (i := 17) (v := .bool false) rfl (by kernel_rfl) (by kernel_rfl) (by kernel_rfl) (fun _ _ _ h => h) (Or.inl ⟨by rfl, ?_⟩) (by assumption) ?_
              · intro wx hs1; go_simp
              (try simp only [Act.put, List.getElem_toArray, List.getElem_cons_succ, List.getElem_cons_zero, List.setIfInBounds_toArray, List.set_cons_zero, List.set_cons_succ])
              refine wpAnyH_take (i := 18) (v := .bool false) rfl (by kernel_rfl) (by kernel_rfl) (by kernel_rfl) (fun _ _ _ h => h) (Or.inl ⟨by rfl, ?_⟩) (by assumption) ?_
              · intro wx hs1; go_simp
              (try simp only [Act.put, List.getElem_toArray, List.getElem_cons_succ, List.getElem_cons_zero, List.setIfInBounds_toArray, List.set_cons_zero, List.set_cons_succ])
              refine wpAnyH_take (i := 19) (v := .bool false) rfl (by kernel_rfl) (by kernel_rfl) (by kernel_rfl) (fun _ _ _ h => h) (Or.inl ⟨by rfl, ?_⟩) (by assumption) ?_
              · intro wx hs1; go_simp
              (try simp only [Act.put, List.getElem_toArray, List.getElem_cons_succ, List.getElem_cons_zero, List.setIfInBounds_toArray, List.set_cons_zero, List.set_cons_succ])
              refine wpAnyH_take (i := 20) (v := undef) rfl (by kernel_rfl) (by kernel_rfl) (by kernel_rfl) (fun _ _ _ h => h) (Or.inr ⟨by rfl, rfl⟩) (by assumption) ?_
              (try simp only [Act.put, List.getElem_toArray, List.getElem_cons_succ, List.getElem_cons_zero, List.setIfInBounds_toArray, List.set_cons_zero, List.set_cons_succ])
              refine wpAnyH_take (i := 21) (v := undef) rfl (by kernel_rfl) (by kernel_rfl) (by kernel_rfl) (fun _ _ _ h => h) (Or.inr ⟨by rfl, rfl⟩) (by assumption) ?_
              (try simp only [Act.put, List.getElem_toArray, List.getElem_cons_succ, List.getElem_cons_zero, List.setIfInBounds_toArray, List.set_cons_zero, List.set_cons_succ])
              refine wpAnyH_take (i := 22) (v := undef) rfl (by kernel_rfl) (by kernel_rfl) (by kernel_rfl) (fun _ _ _ h => h) (Or.inr ⟨by rfl, rfl⟩) (by assumption) ?_
              (try simp only [Act.put, List.getElem_toArray, List.getElem_cons_succ, List.getElem_cons_zero, List.setIfInBounds_toArray, List.set_cons_zero, List.set_cons_succ])
              refine wpAnyH_take (i := 23) (v := undef) rfl (by kernel_rfl) (by kernel_rfl) (by kernel_rfl) (fun _ _ _ h => h) (Or.inr ⟨by rfl, rfl⟩) (by assumption) ?_
              (try simp only [Act.put, List.getElem_toArray, List.getElem_cons_succ, List.getElem_cons_zero, List.setIfInBounds_toArray, List.set_cons_zero, List.set_cons_succ])
              refine wpAnyH_take (i := 24) (v := .bool false) rfl (by kernel_rfl) (by kernel_rfl) (by kernel_rfl) (fun _ _ _ h => h) (Or.inl ⟨by rfl, ?_⟩) (by assumption) ?_
              · intro wx hs1; go_simp
              (try simp only [Act.put, List.getElem_toArray, List.getElem_cons_succ, List.getElem_cons_zero, List.setIfInBounds_toArray, List.set_cons_zero, List.set_cons_succ])
              refine wpAnyH_take (i := 25) (v := .bool false) rfl (by kernel_rfl) (by kernel_rfl) (by kernel_rfl) (fun _ _ _ h => h) (Or.inl ⟨by rfl, ?_⟩) (by assumption) ?_
              · intro wx hs1; go_simp
              (try simp only [Act.put, List.getElem_toArray, List.getElem_cons_succ, List.getElem_cons_zero, List.setIfInBounds_toArray, List.set_cons_zero, List.set_cons_succ])
              refine wpAnyH_take (i := 26) (v := .bool false) rfl (by kernel_rfl) (by kernel_rfl) (by kernel_rfl) (fun _ _ _ h => h) (Or.inl ⟨by rfl, ?_⟩) (by assumption) ?_
              · intro wx hs1; go_simp
              (try simp only [Act.put, List.getElem_toArray, List.getElem_cons_succ, List.getElem_cons_zero, List.setIfInBounds_toArray, List.set_cons_zero, List.set_cons_succ])
              refine wpAnyH_take (i := 27) (v := .bool true) rfl (by kernel_rfl) (by kernel_rfl) (by kernel_rfl) (fun _ _ _ h => h) (Or.inl ⟨by rfl, ?_⟩) (by assumption) ?_
              · intro wx hs1; go_simp
              (try simp only [Act.put, List.getElem_toArray, List.getElem_cons_succ, List.getElem_cons_zero, List.setIfInBounds_toArray, List.set_cons_zero, List.set_cons_succ])
              refine wpAnyH_take (i := 28) (v := .bool true) rfl (by kernel_rfl) (by kernel_rfl) (by kernel_rfl) (fun _ _ _ h => h) (Or.inl ⟨by rfl, ?_⟩) (by assumption) ?_
              · intro wx hs1; go_simp
              (try simp only [Act.put, List.getElem_toArray, List.getElem_cons_succ, List.getElem_cons_zero, List.setIfInBounds_toArray, List.set_cons_zero, List.set_cons_succ])
              refine wpAnyH_take (i := 29) (v := .slice (some ⟨b, off, none⟩) n cap) rfl (by kernel_rfl) (by kernel_rfl) (by kernel_rfl) (fun _ _ _ h => h) (Or.inl ⟨by rfl, ?_⟩) (by assumption) ?_
              · intro wx hs1; go_simp
              (try simp only [Act.put, List.getElem_toArray, List.getElem_cons_succ, List.getElem_cons_zero, List.setIfInBounds_toArray, List.set_cons_zero, List.set_cons_succ])
              refine wpAnyH_take (i := 30) (v := .int .i64 (k : Int)) rfl (by kernel_rfl) (by kernel_rfl) (by kernel_rfl) (fun _ _ _ h => h) (Or.inl ⟨by rfl, ?_⟩) (by assumption) ?_
              · intro wx hs1; go_simp
              (try simp only [Act.put, List.getElem_toArray, List.getElem_cons_succ, List.getElem_cons_zero, List.setIfInBounds_toArray, List.set_cons_zero, List.set_cons_succ])
              refine wpAnyH_take (i := 31) (v := .pointer (some ⟨b, off + k * 7, none⟩)) rfl (by kernel_rfl) (by kernel_rfl) (by kernel_rfl) (fun _ _ _ h => h) (Or.inl ⟨by rfl, ?_⟩) (by assumption) ?_
              · intro wx hs1; go_simp
              (try simp only [Act.put, List.getElem_toArray, List.getElem_cons_succ, List.getElem_cons_zero, List.setIfInBounds_toArray, List.set_cons_zero, List.set_cons_succ])
              refine wpAnyH_take (i := 32) (v := .pointer (some ⟨b, off + k * 7 + 1, none⟩)) rfl (by kernel_rfl) (by kernel_rfl) (by kernel_rfl) (fun _ _ _ h => h) (Or.inl ⟨by rfl, ?_⟩) (by assumption) ?_
              · intro wx hs1; go_simp
              (try simp only [Act.put, List.getElem_toArray, List.getElem_cons_succ, List.getElem_cons_zero, List.setIfInBounds_toArray, List.set_cons_zero, List.set_cons_succ])
              refine wpAnyH_take (i := 33) (v := .agg #[.int .i64 y.r, .int .i64 y.q]) rfl (by kernel_rfl) (by kernel_rfl) (by kernel_rfl) (fun _ _ _ h => h) (Or.inl ⟨by rfl, ?_⟩) (by assumption) ?_
              · intro wx hs1; obtain ⟨⟨s0, s1⟩, ⟨p0, p1, p2, p3, p4, p5⟩, ⟨t0, t1⟩, ⟨q0, q1, q2, q3, q4, q5⟩, ⟨x0, x1, x2, x3, x4, x5, x6⟩⟩ := hs1; go_simp
              (try simp only [Act.put, List.getElem_toArray, List.getElem_cons_succ, List.getElem_cons_zero, List.setIfInBounds_toArray, List.set_cons_zero, List.set_cons_succ])
              refine wpAnyH_take (i := 34) (v := .agg #[.int .i64 M.pr, .int .i64 M.pp]) rfl (by kernel_rfl) (by kernel_rfl) (by kernel_rfl) (fun _ _ _ h => h) (Or.inl ⟨by rfl, ?_⟩) (by assumption) ?_
              · intro wx hs1; obtain ⟨⟨s0, s1⟩, ⟨p0, p1, p2, p3, p4, p5⟩, ⟨t0, t1⟩, ⟨q0, q1, q2, q3, q4, q5⟩, ⟨x0, x1, x2, x3, x4, x5, x6⟩⟩ := hs1; go_simp
              (try simp only [Act.put, List.getElem_toArray, List.getElem_cons_succ, List.getElem_cons_zero, List.setIfInBounds_toArray, List.set_cons_zero, List.set_cons_succ])
              refine wpAnyH_ready (rs := [35]) (by kernel_rfl) (by simp) (AllReadyH.cons rfl (fun K hK => ?_) AllReadyH.nil)
              go_simp
              go_at_call 16
              (with_reducible refine (HL4.out _).mono ?_)
              rintro e v2 ⟨rfl, hb⟩
              try dsimp only
              have HC2 : Hid (Below w9.heap.size w9 v2) := Lib.hid (HC1.out.trans (hb.mono HC1.out.size)); clear hb; have hS := HS9.out _ HC2.out
              refine hK.out _ _ hS (fun _ => ?_)
              clear hK K
              (try simp only [Act.put, List.getElem_toArray, List.getElem_cons_succ, List.getElem_cons_zero, List.setIfInBounds_toArray, List.set_cons_zero, List.set_cons_succ])
              refine wpAnyH_take (i := 36) (v := .bool false) rfl (by kernel_rfl) (by kernel_rfl) (by kernel_rfl) (fun _ _ _ h => h) (Or.inl ⟨by rfl, ?_⟩) (by assumption) ?_
              · intro wx hs1; go_simp
              (try simp only [Act.put, List.getElem_toArray, List.getElem_cons_succ, List.getElem_cons_zero, List.setIfInBounds_toArray, List.set_cons_zero, List.set_cons_succ])
              refine wpAnyH_take (i := 37) (v := .bool false) rfl (by kernel_rfl) (by kernel_rfl) (by kernel_rfl) (fun _ _ _ h => h) (Or.inl ⟨by rfl, ?_⟩) (by assumption) ?_
              · intro wx hs1; go_simp
              (try simp only [Act.put, List.getElem_toArray, List.getElem_cons_succ, List.getElem_cons_zero, List.setIfInBounds_toArray, List.set_cons_zero, List.set_cons_succ])
              refine wpAnyH_take (i := 38) (v := .bool false) rfl (by kernel_rfl) (by kernel_rfl) (by kernel_rfl) (fun _ _ _ h => h) (Or.inl ⟨by rfl, ?_⟩) (by assumption) ?_
              · intro wx hs1; go_simp
              (try simp only [Act.put, List.getElem_toArray, List.getElem_cons_succ, List.getElem_cons_zero, List.setIfInBounds_toArray, List.set_cons_zero, List.set_cons_succ])
              refine wpAnyH_take (i := 39) (v := .bool true) rfl (by kernel_rfl) (by kernel_rfl) (by kernel_rfl) (fun _ _ _ h => h) (Or.inl ⟨by rfl, ?_⟩) (by assumption) ?_
              · intro wx hs1; go_simp
              (try simp only [Act.put, List.getElem_toArray, List.getElem_cons_succ, List.getElem_cons_zero, List.setIfInBounds_toArray, List.set_cons_zero, List.set_cons_succ])
              refine wpAnyH_take (i := 40) (v := .bool false) rfl (by kernel_rfl) (by kernel_rfl) (by kernel_rfl) (fun _ _ _ h => h) (Or.inl ⟨by rfl, ?_⟩) (by assumption) ?_
              · intro wx hs1; go_simp
              (try simp only [Act.put, List.getElem_toArray, List.getElem_cons_succ, List.getElem_cons_zero, List.setIfInBounds_toArray, List.set_cons_zero, List.set_cons_succ])
              refine wpAnyH_take (i := 41) (v := .bool false) rfl (by kernel_rfl) (by kernel_rfl) (by kernel_rfl) (fun _ _ _ h => h) (Or.inl ⟨by rfl, ?_⟩) (by assumption) ?_
              · intro wx hs1; go_simp
              (try simp only [Act.put, List.getElem_toArray, List.getElem_cons_succ, List.getElem_cons_zero, List.setIfInBounds_toArray, List.set_cons_zero, List.set_cons_succ])
              refine wpAnyH_take (i := 42) (v := undef) rfl (by kernel_rfl) (by kernel_rfl) (by kernel_rfl) (fun _ _ _ h => h) (Or.inr ⟨by rfl, rfl⟩) (by assumption) ?_
              (try simp only [Act.put, List.getElem_toArray, List.getElem_cons_succ, List.getElem_cons_zero, List.setIfInBounds_toArray, List.set_cons_zero, List.set_cons_succ])
              refine wpAnyH_take (i := 43) (v := undef) rfl (by kernel_rfl) (by kernel_rfl) (by kernel_rfl) (fun _ _ _ h => h) (Or.inr ⟨by rfl, rfl⟩) (by assumption) ?_
              (try simp only [Act.put, List.getElem_toArray, List.getElem_cons_succ, List.getElem_cons_zero, List.setIfInBounds_toArray, List.set_cons_zero, List.set_cons_succ])
              refine wpAnyH_take (i := 44) (v := undef) rfl (by kernel_rfl) (by kernel_rfl) (by kernel_rfl) (fun _ _ _ h => h) (Or.inr ⟨by rfl, rfl⟩) (by assumption) ?_
              (try simp only [Act.put, List.getElem_toArray, List.getElem_cons_succ, List.getElem_cons_zero, List.setIfInBounds_toArray, List.set_cons_zero, List.set_cons_succ])
              refine wpAnyH_take (i := 45) (v := undef) rfl (by kernel_rfl) (by kernel_rfl) (by kernel_rfl) (fun _ _ _ h => h) (Or.inr ⟨by rfl, rfl⟩) (by assumption) ?_
              (try simp only [Act.put, List.getElem_toArray, List.getElem_cons_succ, List.getElem_cons_zero, List.setIfInBounds_toArray, List.set_cons_zero, List.set_cons_succ])
              refine wpAnyH_take (i := 46) (v := undef) rfl (by kernel_rfl) (by kernel_rfl) (by kernel_rfl) (fun _ _ _ h => h) (Or.inr ⟨by rfl, rfl⟩) (by assumption) ?_
              (try simp only [Act.put, List.getElem_toArray, List.getElem_cons_succ, List.getElem_cons_zero, List.setIfInBounds_toArray, List.set_cons_zero, List.set_cons_succ])
              refine wpAnyH_take (i := 47) (v := undef) rfl (by kernel_rfl) (by kernel_rfl) (by kernel_rfl) (fun _ _ _ h => h) (Or.inr ⟨by rfl, rfl⟩) (by assumption) ?_
              (try simp only [Act.put, List.getElem_toArray, List.getElem_cons_succ, List.getElem_cons_zero, List.setIfInBounds_toArray, List.set_cons_zero, List.set_cons_succ])
              refine wpAnyH_take (i := 48) (v := undef) rfl (by kernel_rfl) (by kernel_rfl) (by kernel_rfl) (fun _ _ _ h => h) (Or.inr ⟨by rfl, rfl⟩) (by assumption) ?_
              (try simp only [Act.put, List.getElem_toArray, List.getElem_cons_succ, List.getElem_cons_zero, List.setIfInBounds_toArray, List.set_cons_zero, List.set_cons_succ])
              refine wpAnyH_take (i := 49) (v := undef) rfl (by kernel_rfl) (by kernel_rfl) (by kernel_rfl) (fun _ _ _ h => h) (Or.inr ⟨by rfl, rfl⟩) (by assumption) ?_
              (try simp only [Act.put, List.getElem_toArray, List.getElem_cons_succ, List.getElem_cons_zero, List.setIfInBounds_toArray, List.set_cons_zero, List.set_cons_succ])
              refine wpAnyH_take (i := 50) (v := .bool false) rfl (by kernel_rfl) (by kernel_rfl) (by kernel_rfl) (fun _ _ _ h => h) (Or.inl ⟨by rfl, ?_⟩) (by assumption) ?_
              · intro wx hs1; go_simp
              (try simp only [Act.put, List.getElem_toArray, List.getElem_cons_succ, List.getElem_cons_zero, List.setIfInBounds_toArray, List.set_cons_zero, List.set_cons_succ])
              refine wpAnyH_take (i := 51) (v := .bool false) rfl (by kernel_rfl) (by kernel_rfl) (by kernel_rfl) (fun _ _ _ h => h) (Or.inl ⟨by rfl, ?_⟩) (by assumption) ?_
              · intro wx hs1; go_simp
              (try simp only [Act.put, List.getElem_toArray, List.getElem_cons_succ, List.getElem_cons_zero, List.setIfInBounds_toArray, List.set_cons_zero, List.set_cons_succ])
              refine wpAnyH_done (by kernel_rfl) ?_ _
              go_wp2_with fail
              go_roundw
              case rel => exact ⟨k + 1, by omega, by go_num, Lib.hid (by rw [HST.out]; exact ⟨AAt.keep HA9.out HC2.out, HBW.out.trans (HC2.out.mono HBW.out.size)⟩)⟩
              case measure => simp [RowKit.intOf]; omega
          · cases ok
            · exact absurd (K2.out rfl).1 (by simp)
            · have HL3 := Lib.hid (HL3a.out rfl)
              have HL4 := Lib.hid (HL4a.out rfl)
              clear HL2a HL3a HL4a K1 K2
              have hS0 : (fun W => ((W.cell? ⟨b10, 0, none⟩ = some (.int .i64 M.pr) ∧ W.cell? ⟨b10, 1, none⟩ = some (.int .i64 M.pp)) ∧ (W.cell? ⟨b11, 0, none⟩ = some (.int .i64 X.ar) ∧ W.cell? ⟨b11, 1, none⟩ = some (.int .i64 X.ap) ∧ W.cell? ⟨b11, 2, none⟩ = some (.int .i64 X.k) ∧ W.cell? ⟨b11, 3, none⟩ = some (.int .i64 X.m) ∧ W.cell? ⟨b11, 4, none⟩ = some (.int .i64 X.n) ∧ W.cell? ⟨b11, 5, none⟩ = some (.string X.t)) ∧ (W.cell? ⟨b14, 0, none⟩ = some (.int .i64 N.pr) ∧ W.cell? ⟨b14, 1, none⟩ = some (.int .i64 N.pp)) ∧ (W.cell? ⟨b15, 0, none⟩ = some (.int .i64 Y.ar) ∧ W.cell? ⟨b15, 1, none⟩ = some (.int .i64 Y.ap) ∧ W.cell? ⟨b15, 2, none⟩ = some (.int .i64 Y.k) ∧ W.cell? ⟨b15, 3, none⟩ = some (.int .i64 Y.m) ∧ W.cell? ⟨b15, 4, none⟩ = some (.int .i64 Y.n) ∧ W.cell? ⟨b15, 5, none⟩ = some (.string Y.t)) ∧ (W.cell? ⟨b, off + k * 7, none⟩ = some (.int .i64 y.x) ∧ W.cell? ⟨b, off + k * 7 + 1, none⟩ = some (.int .i64 y.r) ∧ W.cell? ⟨b, off + k * 7 + 2, none⟩ = some (.int .i64 y.q) ∧ W.cell? ⟨b, off + k * 7 + 3, none⟩ = some (.int .i64 y.k) ∧ W.cell? ⟨b, off + k * 7 + 4, none⟩ = some (.int .i64 y.m) ∧ W.cell? ⟨b, off + k * 7 + 5, none⟩ = some (.int .i64 y.n) ∧ W.cell? ⟨b, off + k * 7 + 6, none⟩ = some (.string y.t)))) w9.drew := z9
              refine wp_region_held_drew (S := fun W => ((W.cell? ⟨b10, 0, none⟩ = some (.int .i64 M.pr) ∧ W.cell? ⟨b10, 1, none⟩ = some (.int .i64 M.pp)) ∧ (W.cell? ⟨b11, 0, none⟩ = some (.int .i64 X.ar) ∧ W.cell? ⟨b11, 1, none⟩ = some (.int .i64 X.ap) ∧ W.cell? ⟨b11, 2, none⟩ = some (.int .i64 X.k) ∧ W.cell? ⟨b11, 3, none⟩ = some (.int .i64 X.m) ∧ W.cell? ⟨b11, 4, none⟩ = some (.int .i64 X.n) ∧ W.cell? ⟨b11, 5, none⟩ = some (.string X.t)) ∧ (W.cell? ⟨b14, 0, none⟩ = some (.int .i64 N.pr) ∧ W.cell? ⟨b14, 1, none⟩ = some (.int .i64 N.pp)) ∧ (W.cell? ⟨b15, 0, none⟩ = some (.int .i64 Y.ar) ∧ W.cell? ⟨b15, 1, none⟩ = some (.int .i64 Y.ap) ∧ W.cell? ⟨b15, 2, none⟩ = some (.int .i64 Y.k) ∧ W.cell? ⟨b15, 3, none⟩ = some (.int .i64 Y.m) ∧ W.cell? ⟨b15, 4, none⟩ = some (.int .i64 Y.n) ∧ W.cell? ⟨b15, 5, none⟩ = some (.string Y.t)) ∧ (W.cell? ⟨b, off + k * 7, none⟩ = some (.int .i64 y.x) ∧ W.cell? ⟨b, off + k * 7 + 1, none⟩ = some (.int .i64 y.r) ∧ W.cell? ⟨b, off + k * 7 + 2, none⟩ = some (.int .i64 y.q) ∧ W.cell? ⟨b, off + k * 7 + 3, none⟩ = some (.int .i64 y.k) ∧ W.cell? ⟨b, off + k * 7 + 4, none⟩ = some (.int .i64 y.m) ∧ W.cell? ⟨b, off + k * 7 + 5, none⟩ = some (.int .i64 y.n) ∧ W.cell? ⟨b, off + k * 7 + 6, none⟩ = some (.string y.t)))) rfl hS0 (fun hHeld => ?_)
              simp only [List.size_toArray, List.length_cons, List.length_nil, Nat.reduceAdd]
              have HB0 : Hid (Below w9.heap.size w9 w9.drew) := Lib.hid (Below.refl _ _).drew
              obtain ⟨V0, hV0⟩ : ∃ V, w9.drew = V := ⟨_, rfl⟩
              rw [hV0] at hHeld hS0 HB0 ⊢
              clear hV0
              refine wpAnyH_take (i := 0) (v := .agg #[.int .i64 N.pr, .int .i64 N.pp]) rfl (by kernel_rfl) (by kernel_rfl) (by kernel_rfl) (fun _ _ _ h => h) (Or.inl ⟨by rfl, ?_⟩) (by assumption) ?_
              · intro wx hs1; obtain ⟨⟨s0, s1⟩, ⟨p0, p1, p2, p3, p4, p5⟩, ⟨t0, t1⟩, ⟨q0, q1, q2, q3, q4, q5⟩, ⟨x0, x1, x2, x3, x4, x5, x6⟩⟩ := hs1; go_simp
              (try simp only [Act.put, List.getElem_toArray, List.getElem_cons_zero, List.setIfInBounds_toArray, List.set_cons_zero, List.set_cons_succ])
              refine wpAnyH_take (i := 1) (v := .agg #[.int .i64 M.pr, .int .i64 M.pp]) rfl (by kernel_rfl) (by kernel_rfl) (by kernel_rfl) (fun _ _ _ h => h) (Or.inl ⟨by rfl, ?_⟩) (by assumption) ?_
              · intro wx hs1; obtain ⟨⟨s0, s1⟩, ⟨p0, p1, p2, p3, p4, p5⟩, ⟨t0, t1⟩, ⟨q0, q1, q2, q3, q4, q5⟩, ⟨x0, x1, x2, x3, x4, x5, x6⟩⟩ := hs1; go_simp
              (try simp only [Act.put, List.getElem_toArray, List.getElem_cons_succ, List.getElem_cons_zero, List.setIfInBounds_toArray, List.set_cons_zero, List.set_cons_succ])
              refine wpAnyH_ready (rs := [2]) (by kernel_rfl) (by simp) (AllReadyH.cons rfl (fun K hK => ?_) AllReadyH.nil)
              go_simp
              go_at_call 16
              (with_reducible refine (HL1.out _).mono ?_)
              rintro e v1 ⟨rfl, hb⟩
              try dsimp only
              have HC1 : Hid (Below w9.heap.size w9 v1) := Lib.hid (HB0.out.trans (hb.mono HB0.out.size)); clear hb; have hS := HS9.out _ HC1.out
              refine hK.out _ _ hS (fun _ => ?_)
              clear hK K
              (try simp only [Act.put, List.getElem_toArray, List.getElem_cons_succ, List.getElem_cons_zero, List.setIfInBounds_toArray, List.set_cons_zero, List.set_cons_succ])
              refine wpAnyH_take (i := 3) (v := .bool false) rfl (by kernel_rfl) (by kernel_rfl) (by kernel_rfl) (fun _ _ _ h => h) (Or.inl ⟨by rfl, ?_⟩) (by assumption) ?_
              · intro wx hs1; go_simp
              (try simp only [Act.put, List.getElem_toArray, List.getElem_cons_succ, List.getElem_cons_zero, List.setIfInBounds_toArray, List.set_cons_zero, List.set_cons_succ])
              refine wpAnyH_take (i := 4) (v := .bool false) rfl (by kernel_rfl) (by kernel_rfl) (by kernel_rfl) (fun _ _ _ h => h) (Or.inl ⟨by rfl, ?_⟩) (by assumption) ?_
              · intro wx hs1; go_simp
              (try simp only [Act.put, List.getElem_toArray, List.getElem_cons_succ, List.getElem_cons_zero, List.setIfInBounds_toArray, List.set_cons_zero, List.set_cons_succ])
              refine wpAnyH_take (i := 5) (v := .bool false) rfl (by kernel_rfl) (by kernel_rfl) (by kernel_rfl) (fun _ _ _ h => h) (Or.inl ⟨by rfl, ?_⟩) (by assumption) ?_
              · intro wx hs1; go_simp
              (try simp only [Act.put, List.getElem_toArray, List.getElem_cons_succ, List.getElem_cons_zero, List.setIfInBounds_toArray, List.set_cons_zero, List.set_cons_succ])
              refine wpAnyH_take (i := 6) (v := undef) rfl (by kernel_rfl) (by kernel_rfl) (by kernel_rfl) (fun _ _ _ h => h) (Or.inr ⟨by rfl, rfl⟩) (by assumption) ?_
              (try simp only [Act.put, List.getElem_toArray, List.getElem_cons_succ, List.getElem_cons_zero, List.setIfInBounds_toArray, List.set_cons_zero, List.set_cons_succ])
              refine wpAnyH_take (i := 7) (v := undef) rfl (by kernel_rfl) (by kernel_rfl) (by kernel_rfl) (fun _ _ _ h => h) (Or.inr ⟨by rfl, rfl⟩) (by assumption) ?_
              (try simp only [Act.put, List.getElem_toArray, List.getElem_cons_succ, List.getElem_cons_zero, List.setIfInBounds_toArray, List.set_cons_zero, List.set_cons_succ])
              refine wpAnyH_take (i := 8) (v := undef) rfl (by kernel_rfl) (by kernel_rfl) (by kernel_rfl) (fun _ _ _ h => h) (Or.inr ⟨by rfl, rfl⟩) (by assumption) ?_
              (try simp only [Act.put, List.getElem_toArray, List.getElem_cons_succ, List.getElem_cons_zero, List.setIfInBounds_toArray, List.set_cons_zero, List.set_cons_succ])
              refine wpAnyH_take (i := 9) (v := undef) rfl (by kernel_rfl) (by kernel_rfl) (by kernel_rfl) (fun _ _ _ h => h) (Or.inr ⟨by rfl, rfl⟩) (by assumption) ?_
              (try simp only [Act.put, List.getElem_toArray, List.getElem_cons_succ, List.getElem_cons_zero, List.setIfInBounds_toArray, List.set_cons_zero, List.set_cons_succ])
              refine wpAnyH_take (i := 10) (v := undef) rfl (by kernel_rfl) (by kernel_rfl) (by kernel_rfl) (fun _ _ _ h => h) (Or.inr ⟨by rfl, rfl⟩) (by assumption) ?_
              (try simp only [Act.put, List.getElem_toArray, List.getElem_cons_succ, List.getElem_cons_zero, List.setIfInBounds_toArray, List.set_cons_zero, List.set_cons_succ])
              refine wpAnyH_take (i := 11) (v := undef) rfl (by kernel_rfl) (by kernel_rfl) (by kernel_rfl) (fun _ _ _ h => h) (Or.inr ⟨by rfl, rfl⟩) (by assumption) ?_
              (try simp only [Act.put, List.getElem_toArray, List.getElem_cons_succ, List.getElem_cons_zero, List.setIfInBounds_toArray, List.set_cons_zero, List.set_cons_succ])
              refine wpAnyH_take (i := 12) (v := undef) rfl (by kernel_rfl) (by kernel_rfl) (by kernel_rfl) (fun _ _ _ h => h) (Or.inr ⟨by rfl, rfl⟩) (by assumption) ?_
              (try simp only [Act.put, List.getElem_toArray, List.getElem_cons_succ, List.getElem_cons_zero, List.setIfInBounds_toArray, List.set_cons_zero, List.set_cons_succ])
              refine wpAnyH_take (i := 13) (v := undef) rfl (by kernel_rfl) (by kernel_rfl) (by kernel_rfl) (fun _ _ _ h => h) (Or.inr ⟨by rfl, rfl⟩) (by assumption) ?_
              (try simp only [Act.put, List.getElem_toArray, List.getElem_cons_succ, List.getElem_cons_zero, List.setIfInBounds_toArray, List.set_cons_zero, List.set_cons_succ])
              refine wpAnyH_take (i := 14) (v := undef) rfl (by kernel_rfl) (by kernel_rfl) (by kernel_rfl) (fun _ _ _ h => h) (Or.inr ⟨by rfl, rfl⟩) (by assumption) ?_
              (try simp only [Act.put, List.getElem_toArray, List.getElem_cons_succ, List.getElem_cons_zero, List.setIfInBounds_toArray, List.set_cons_zero, List.set_cons_succ])
              refine wpAnyH_take (i := 15) (v := .bool false) rfl (by kernel_rfl) (by kernel_rfl) (by kernel_rfl) (fun _ _ _ h => h) (Or.inl ⟨by rfl, ?_⟩) (by assumption) ?_
              · intro wx hs1; go_simp
              (try simp only [Act.put, List.getElem_toArray, List.getElem_cons_succ, List.getElem_cons_zero, List.setIfInBounds_toArray, List.set_cons_zero, List.set_cons_succ])
              refine wpAnyH_take (i := 16) (v := .bool false) rfl (by kernel_rfl) (by kernel_rfl) (by kernel_rfl) (fun _ _ _ h => h) (Or.inl ⟨by rfl, ?_⟩) (by assumption) ?_
              · intro wx hs1; go_simp
              (try simp only [Act.put, List.getElem_toArray, List.getElem_cons_succ, List.getElem_cons_zero, List.setIfInBounds_toArray, List.set_cons_zero, List.set_cons_succ])
              refine wpAnyH_take (i := 17) (v := .bool false) rfl (by kernel_rfl) (by kernel_rfl) (by kernel_rfl) (fun _ _ _ h => h) (Or.inl ⟨by rfl, ?_⟩) (by assumption) ?_
              · intro wx hs1; go_simp
              (try simp only [Act.put, List.getElem_toArray, List.getElem_cons_succ, List.getElem_cons_zero, List.setIfInBounds_toArray, List.set_cons_zero, List.set_cons_succ])
              refine wpAnyH_take (i := 18) (v := .bool true) rfl (by kernel_rfl) (by kernel_rfl) (by kernel_rfl) (fun _ _ _ h => h) (Or.inl ⟨by rfl, ?_⟩) (by assumption) ?_
              · intro wx hs1; go_simp
              (try simp only [Act.put, List.getElem_toArray, List.getElem_cons_succ, List.getElem_cons_zero, List.setIfInBounds_toArray, List.set_cons_zero, List.set_cons_succ])
              refine wpAnyH_take (i := 19) (v := .bool true) rfl (by kernel_rfl) (by kernel_rfl) (by kernel_rfl) (fun _ _ _ h => h) (Or.inl ⟨by rfl, ?_⟩) (by assumption) ?_
              · intro wx hs1; go_simp
              (try simp only [Act.put, List.getElem_toArray, List.getElem_cons_succ, List.getElem_cons_zero, List.setIfInBounds_toArray, List.set_cons_zero, List.set_cons_succ])
              refine wpAnyH_take (i := 20) (v := .agg #[.int .i64 N.pr, .int .i64 N.pp]) rfl (by kernel_rfl) (by kernel_rfl) (by kernel_rfl) (fun _ _ _ h => h) (Or.inl ⟨by rfl, ?_⟩) (by assumption) ?_
              · intro wx hs1; obtain ⟨⟨s0, s1⟩, ⟨p0, p1, p2, p3, p4, p5⟩, ⟨t0, t1⟩, ⟨q0, q1, q2, q3, q4, q5⟩, ⟨x0, x1, x2, x3, x4, x5, x6⟩⟩ := hs1; go_simp
              (try simp only [Act.put, List.getElem_toArray, List.getElem_cons_succ, List.getElem_cons_zero, List.setIfInBounds_toArray, List.set_cons_zero, List.set_cons_succ])
              refine wpAnyH_take (i := 21) (v := .pointer (some ⟨b15, 0, none⟩)) rfl (by kernel_rfl) (by kernel_rfl) (by kernel_rfl) (fun _ _ _ h => h) (Or.inl ⟨by rfl, ?_⟩) (by assumption) ?_
              · intro wx hs1; go_simp
              (try simp only [Act.put, List.getElem_toArray, List.getElem_cons_succ, List.getElem_cons_zero, List.setIfInBounds_toArray, List.set_cons_zero, List.set_cons_succ])
              refine wpAnyH_take (i := 22) (v := .agg #[.int .i64 Y.ar, .int .i64 Y.ap]) rfl (by kernel_rfl) (by kernel_rfl) (by kernel_rfl) (fun _ _ _ h => h) (Or.inl ⟨by rfl, ?_⟩) (by assumption) ?_
              · intro wx hs1; obtain ⟨⟨s0, s1⟩, ⟨p0, p1, p2, p3, p4, p5⟩, ⟨t0, t1⟩, ⟨q0, q1, q2, q3, q4, q5⟩, ⟨x0, x1, x2, x3, x4, x5, x6⟩⟩ := hs1; go_simp
              (try simp only [Act.put, List.getElem_toArray, List.getElem_cons_succ, List.getElem_cons_zero, List.setIfInBounds_toArray, List.set_cons_zero, List.set_cons_succ])
              refine wpAnyH_ready (rs := [23]) (by kernel_rfl) (by simp) (AllReadyH.cons rfl (fun K hK => ?_) AllReadyH.nil)
              go_simp
              go_at_call 16
              (with_reducible refine (HL3.out _).mono ?_)
              rintro e v2 ⟨rfl, hb⟩
              try dsimp only
              have HC2 : Hid (Below w9.heap.size w9 v2) := Lib.hid (HC1.out.trans (hb.mono HC1.out.size)); clear hb; have hS := HS9.out _ HC2.out
              refine hK.out _ _ hS (fun _ => ?_)
              clear hK K
              (try simp only [Act.put, List.getElem_toArray, List.getElem_cons_succ, List.getElem_cons_zero, List.setIfInBounds_toArray, List.set_cons_zero, List.set_cons_succ])
              refine wpAnyH_take (i := 24) (v := .bool false) rfl (by kernel_rfl) (by kernel_rfl) (by kernel_rfl) (fun _ _ _ h => h) (Or.inl ⟨by rfl, ?_⟩) (by assumption) ?_
              · intro wx hs1; go_simp
              (try simp only [Act.put, List.getElem_toArray, List.getElem_cons_succ, List.getElem_cons_zero, List.setIfInBounds_toArray, List.set_cons_zero, List.set_cons_succ])
              refine wpAnyH_take (i := 25) (v := .bool false) rfl (by kernel_rfl) (by kernel_rfl) (by kernel_rfl) (fun _ _ _ h => h) (Or.inl ⟨by rfl, ?_⟩) (by assumption) ?_
              · intro wx hs1; go_simp
              (try simp only [Act.put, List.getElem_toArray, List.getElem_cons_succ, List.getElem_cons_zero, List.setIfInBounds_toArray, List.set_cons_zero, List.set_cons_succ])
              refine wpAnyH_take (i := 26) (v := .bool false) rfl (by kernel_rfl) (by kernel_rfl) (by kernel_rfl) (fun _ _ _ h => h) (Or.inl ⟨by rfl, ?_⟩) (by assumption) ?_
              · intro wx hs1; go_simp
              (try simp only [Act.put, List.getElem_toArray, List.getElem_cons_succ, List.getElem_cons_zero, List.setIfInBounds_toArray, List.set_cons_zero, List.set_cons_succ])
              refine wpAnyH_take (i := 27) (v := .bool true) rfl (by kernel_rfl) (by kernel_rfl) (by kernel_rfl) (fun _ _ _ h => h) (Or.inl ⟨by rfl, ?_⟩) (by assumption) ?_
              · intro wx hs1; go_simp
              (try simp only [Act.put, List.getElem_toArray, List.getElem_cons_succ, List.getElem_cons_zero, List.setIfInBounds_toArray, List.set_cons_zero, List.set_cons_succ])
              refine wpAnyH_take (i := 28) (v := .bool true) rfl (by kernel_rfl) (by kernel_rfl) (by kernel_rfl) (fun _ _ _ h => h) (Or.inl ⟨by rfl, ?_⟩) (by assumption) ?_
              · intro wx hs1; go_simp
              (try simp only [Act.put, List.getElem_toArray, List.getElem_cons_succ, List.getElem_cons_zero, List.setIfInBounds_toArray, List.set_cons_zero, List.set_cons_succ])
              refine wpAnyH_take (i := 29) (v := .slice (some ⟨b, off, none⟩) n cap) rfl (by kernel_rfl) (by kernel_rfl) (by kernel_rfl) (fun _ _ _ h => h) (Or.inl ⟨by rfl, ?_⟩) (by assumption) ?_
              · intro wx hs1; go_simp
              (try simp only [Act.put, List.getElem_toArray, List.getElem_cons_succ, List.getElem_cons_zero, List.setIfInBounds_toArray, List.set_cons_zero, List.set_cons_succ])
              refine wpAnyH_take (i := 30) (v := .int .i64 (k : Int)) rfl (by kernel_rfl) (by kernel_rfl) (by kernel_rfl) (fun _ _ _ h => h) (Or.inl ⟨by rfl, ?_⟩) (by assumption) ?_
              · intro wx hs1; go_simp
              (try simp only [Act.put, List.getElem_toArray, List.getElem_cons_succ, List.getElem_cons_zero, List.setIfInBounds_toArray, List.set_cons_zero, List.set_cons_succ])
              refine wpAnyH_take (i := 31) (v := .pointer (some ⟨b, off + k * 7, none⟩)) rfl (by kernel_rfl) (by kernel_rfl) (by kernel_rfl) (fun _ _ _ h => h) (Or.inl ⟨by rfl, ?_⟩) (by assumption) ?_
              · intro wx hs1; go_simp
              (try simp only [Act.put, List.getElem_toArray, List.getElem_cons_succ, List.getElem_cons_zero, List.setIfInBounds_toArray, List.set_cons_zero, List.set_cons_succ])
              refine wpAnyH_take (i := 32) (v := .pointer (some ⟨b, off + k * 7 + 1, none⟩)) rfl (by kernel_rfl) (by kernel_rfl) (by kernel_rfl) (fun _ _ _ h => h) (Or.inl ⟨by rfl, ?_⟩) (by assumption) ?_
              · intro wx hs1; go_simp
              (try simp only [Act.put, List.getElem_toArray, List.getElem_cons_succ, List.getElem_cons_zero, List.setIfInBounds_toArray, List.set_cons_zero, List.set_cons_succ])
              refine wpAnyH_take (i := 33) (v := .agg #[.int .i64 y.r, .int .i64 y.q]) rfl (by kernel_rfl) (by kernel_rfl) (by kernel_rfl) (fun _ _ _ h => h) (Or.inl ⟨by rfl, ?_⟩) (by assumption) ?_
              · intro wx hs1; obtain ⟨⟨s0, s1⟩, ⟨p0, p1, p2, p3, p4, p5⟩, ⟨t0, t1⟩, ⟨q0, q1, q2, q3, q4, q5⟩, ⟨x0, x1, x2, x3, x4, x5, x6⟩⟩ := hs1; go_simp
              (try simp only [Act.put, List.getElem_toArray, List.getElem_cons_succ, List.getElem_cons_zero, List.setIfInBounds_toArray, List.set_cons_zero, List.set_cons_succ])
              refine wpAnyH_take (i := 34) (v := .agg #[.int .i64 M.pr, .int .i64 M.pp]) rfl (by kernel_rfl) (by kernel_rfl) (by kernel_rfl) (fun _ _ _ h => h) (Or.inl ⟨by rfl, ?_⟩) (by assumption) ?_
              · intro wx hs1; obtain ⟨⟨s0, s1⟩, ⟨p0, p1, p2, p3, p4, p5⟩, ⟨t0, t1⟩, ⟨q0, q1, q2, q3, q4, q5⟩, ⟨x0, x1, x2, x3, x4, x5, x6⟩⟩ := hs1; go_simp
              (try simp only [Act.put, List.getElem_toArray, List.getElem_cons_succ, List.getElem_cons_zero, List.setIfInBounds_toArray, List.set_cons_zero, List.set_cons_succ])
              refine wpAnyH_ready (rs := [35]) (by kernel_rfl) (by simp) (AllReadyH.cons rfl (fun K hK => ?_) AllReadyH.nil)
              go_simp
              go_at_call 16
              (with_reducible refine (HL4.out _).mono ?_)
              rintro e v3 ⟨rfl, hb⟩
              try dsimp only
              have HC3 : Hid (Below w9.heap.size w9 v3) := Lib.hid (HC2.out.trans (hb.mono HC2.out.size)); clear hb; have hS := HS9.out _ HC3.out
              refine hK.out _ _ hS (fun _ => ?_)
              clear hK K
              (try simp only [Act.put, List.getElem_toArray, List.getElem_cons_succ, List.getElem_cons_zero, List.setIfInBounds_toArray, List.set_cons_zero, List.set_cons_succ])
              refine wpAnyH_take (i := 36) (v := .bool false) rfl (by kernel_rfl) (by kernel_rfl) (by kernel_rfl) (fun _ _ _ h => h) (Or.inl ⟨by rfl, ?_⟩) (by assumption) ?_
              · intro wx hs1; go_simp
              (try simp only [Act.put, List.getElem_toArray, List.getElem_cons_succ, List.getElem_cons_zero, List.setIfInBounds_toArray, List.set_cons_zero, List.set_cons_succ])
              refine wpAnyH_take (i := 37) (v := .bool false) rfl (by kernel_rfl) (by kernel_rfl) (by kernel_rfl) (fun _ _ _ h => h) (Or.inl ⟨by rfl, ?_⟩) (by assumption) ?_
              · intro wx hs1; go_simp
              (try simp only [Act.put, List.getElem_toArray, List.getElem_cons_succ, List.getElem_cons_zero, List.setIfInBounds_toArray, List.set_cons_zero, List.set_cons_succ])
              refine wpAnyH_take (i := 38) (v := .bool false) rfl (by kernel_rfl) (by kernel_rfl) (by kernel_rfl) (fun _ _ _ h => h) (Or.inl ⟨by rfl, ?_⟩) (by assumption) ?_
              · intro wx hs1; go_simp
              (try simp only [Act.put, List.getElem_toArray, List.getElem_cons_succ, List.getElem_cons_zero, List.setIfInBounds_toArray, List.set_cons_zero, List.set_cons_succ])
              refine wpAnyH_take (i := 39) (v := .bool true) rfl (by kernel_rfl) (by kernel_rfl) (by kernel_rfl) (fun _ _ _ h => h) (Or.inl ⟨by rfl, ?_⟩) (by assumption) ?_
              · intro wx hs1; go_simp
              (try simp only [Act.put, List.getElem_toArray, List.getElem_cons_succ, List.getElem_cons_zero, List.setIfInBounds_toArray, List.set_cons_zero, List.set_cons_succ])
              refine wpAnyH_take (i := 40) (v := .bool false) rfl (by kernel_rfl) (by kernel_rfl) (by kernel_rfl) (fun _ _ _ h => h) (Or.inl ⟨by rfl, ?_⟩) (by assumption) ?_
              · intro wx hs1; go_simp
              (try simp only [Act.put, List.getElem_toArray, List.getElem_cons_succ, List.getElem_cons_zero, List.setIfInBounds_toArray, List.set_cons_zero, List.set_cons_succ])
              refine wpAnyH_take (i := 41) (v := .bool false) rfl (by kernel_rfl) (by kernel_rfl) (by kernel_rfl) (fun _ _ _ h => h) (Or.inl ⟨by rfl, ?_⟩) (by assumption) ?_
              · intro wx hs1; go_simp
              (try simp only [Act.put, List.getElem_toArray, List.getElem_cons_succ, List.getElem_cons_zero, List.setIfInBounds_toArray, List.set_cons_zero, List.set_cons_succ])
              refine wpAnyH_take (i := 42) (v := undef) rfl (by kernel_rfl) (by kernel_rfl) (by kernel_rfl) (fun _ _ _ h => h) (Or.inr ⟨by rfl, rfl⟩) (by assumption) ?_
              (try simp only [Act.put, List.getElem_toArray, List.getElem_cons_succ, List.getElem_cons_zero, List.setIfInBounds_toArray, List.set_cons_zero, List.set_cons_succ])
              refine wpAnyH_take (i := 43) (v := undef) rfl (by kernel_rfl) (by kernel_rfl) (by kernel_rfl) (fun _ _ _ h => h) (Or.inr ⟨by rfl, rfl⟩) (by assumption) ?_
              (try simp only [Act.put, List.getElem_toArray, List.getElem_cons_succ, List.getElem_cons_zero, List.setIfInBounds_toArray, List.set_cons_zero, List.set_cons_succ])
              refine wpAnyH_take (i := 44) (v := undef) rfl (by kernel_rfl) (by kernel_rfl) (by kernel_rfl) (fun _ _ _ h => h) (Or.inr ⟨by rfl, rfl⟩) (by assumption) ?_
              (try simp only [Act.put, List.getElem_toArray, List.getElem_cons_succ, List.getElem_cons_zero, List.setIfInBounds_toArray, List.set_cons_zero, List.set_cons_succ])
              refine wpAnyH_take (i := 45) (v := undef) rfl (by kernel_rfl) (by kernel_rfl) (by kernel_rfl) (fun _ _ _ h => h) (Or.inr ⟨by rfl, rfl⟩) (by assumption) ?_
              (try simp only [Act.put, List.getElem_toArray, List.getElem_cons_succ, List.getElem_cons_zero, List.setIfInBounds_toArray, List.set_cons_zero, List.set_cons_succ])
              refine wpAnyH_take (i := 46) (v := undef) rfl (by kernel_rfl) (by kernel_rfl) (by kernel_rfl) (fun _ _ _ h => h) (Or.inr ⟨by rfl, rfl⟩) (by assumption) ?_
              (try simp only [Act.put, List.getElem_toArray, List.getElem_cons_succ, List.getElem_cons_zero, List.setIfInBounds_toArray, List.set_cons_zero, List.set_cons_succ])
              refine wpAnyH_take (i := 47) (v := undef) rfl (by kernel_rfl) (by kernel_rfl) (by kernel_rfl) (fun _ _ _ h => h) (Or.inr ⟨by rfl, rfl⟩) (by assumption) ?_
              (try simp only [Act.put, List.getElem_toArray, List.getElem_cons_succ, List.getElem_cons_zero, List.setIfInBounds_toArray, List.set_cons_zero, List.set_cons_succ])
              refine wpAnyH_take (i := 48) (v := undef) rfl (by kernel_rfl) (by kernel_rfl) (by kernel_rfl) (fun _ _ _ h => h) (Or.inr ⟨by rfl, rfl⟩) (by assumption) ?_
              (try simp only [Act.put, List.getElem_toArray, List.getElem_cons_succ, List.getElem_cons_zero, List.setIfInBounds_toArray, List.set_cons_zero, List.set_cons_succ])
              refine wpAnyH_take (i := 49) (v := undef) rfl (by kernel_rfl) (by kernel_rfl) (by kernel_rfl) (fun _ _ _ h => h) (Or.inr ⟨by rfl, rfl⟩) (by assumption) ?_
              (try simp only [Act.put, List.getElem_toArray, List.getElem_cons_succ, List.getElem_cons_zero, List.setIfInBounds_toArray, List.set_cons_zero, List.set_cons_succ])
              refine wpAnyH_take (i := 50) (v := .bool false) rfl (by kernel_rfl) (by kernel_rfl) (by kernel_rfl) (fun _ _ _ h => h) (Or.inl ⟨by rfl, ?_⟩) (by assumption) ?_
              · intro wx hs1; go_simp
              (try simp only [Act.put, List.getElem_toArray, List.getElem_cons_succ, List.getElem_cons_zero, List.setIfInBounds_toArray, List.set_cons_zero, List.set_cons_succ])
              refine wpAnyH_take (i := 51) (v := .bool false) rfl (by kernel_rfl) (by kernel_rfl) (by kernel_rfl) (fun _ _ _ h => h) (Or.inl ⟨by rfl, ?_⟩) (by assumption) ?_
              · intro wx hs1; go_simp
              (try simp only [Act.put, List.getElem_toArray, List.getElem_cons_succ, List.getElem_cons_zero, List.setIfInBounds_toArray, List.set_cons_zero, List.set_cons_succ])
              refine wpAnyH_done (by kernel_rfl) ?_ _
              go_wp2_with fail
              go_roundw
              case rel => exact ⟨k + 1, by omega, by go_num, Lib.hid (by rw [HST.out]; exact ⟨AAt.keep HA9.out HC3.out, HBW.out.trans (HC3.out.mono HBW.out.size)⟩)⟩
              case measure => simp [RowKit.intOf]; omega
        · cases has
          · cases ok
            · exact absurd (K1.out rfl) (by simp)
            · exact absurd (K1.out rfl) (by simp)
          · cases ok
            · have HL2 := Lib.hid (HL2a.out rfl)
              have HL3 := Lib.hid (HL3a.out rfl)
              have hne36 : ∀ W, (binOp .neq 36 (.agg #[.int .i64 N.pr, .int .i64 N.pp]) (.agg #[.int .i64 M.pr, .int .i64 M.pp])).run Tryd.prog W = .ok (.bool false) W := fun W => by have h := K2.out rfl; rw [neq31, decide_eq_true ⟨h.2.1, h.2.2.1⟩]; rfl
              have hne39 : ∀ W, (binOp .neq 39 (.agg #[.int .i64 X.ar, .int .i64 X.ap, .int .i64 X.k, .int .i64 X.m, .int .i64 X.n, .string X.t]) (.agg #[.int .i64 Y.ar, .int .i64 Y.ap, .int .i64 Y.k, .int .i64 Y.m, .int .i64 Y.n, .string Y.t])).run Tryd.prog W = .ok (.bool false) W := fun W => by have h := K2.out rfl; rw [neq36, h.2.2.2, decide_eq_true ⟨rfl, rfl, rfl, rfl, rfl, rfl⟩]; rfl
              clear HL2a HL3a HL4a K1 K2
              have hS0 : (fun W => ((W.cell? ⟨b10, 0, none⟩ = some (.int .i64 M.pr) ∧ W.cell? ⟨b10, 1, none⟩ = some (.int .i64 M.pp)) ∧ (W.cell? ⟨b11, 0, none⟩ = some (.int .i64 X.ar) ∧ W.cell? ⟨b11, 1, none⟩ = some (.int .i64 X.ap) ∧ W.cell? ⟨b11, 2, none⟩ = some (.int .i64 X.k) ∧ W.cell? ⟨b11, 3, none⟩ = some (.int .i64 X.m) ∧ W.cell? ⟨b11, 4, none⟩ = some (.int .i64 X.n) ∧ W.cell? ⟨b11, 5, none⟩ = some (.string X.t)) ∧ (W.cell? ⟨b14, 0, none⟩ = some (.int .i64 N.pr) ∧ W.cell? ⟨b14, 1, none⟩ = some (.int .i64 N.pp)) ∧ (W.cell? ⟨b15, 0, none⟩ = some (.int .i64 Y.ar) ∧ W.cell? ⟨b15, 1, none⟩ = some (.int .i64 Y.ap) ∧ W.cell? ⟨b15, 2, none⟩ = some (.int .i64 Y.k) ∧ W.cell? ⟨b15, 3, none⟩ = some (.int .i64 Y.m) ∧ W.cell? ⟨b15, 4, none⟩ = some (.int .i64 Y.n) ∧ W.cell? ⟨b15, 5, none⟩ = some (.string Y.t)) ∧ (W.cell? ⟨b, off + k * 7, none⟩ = some (.int .i64 y.x) ∧ W.cell? ⟨b, off + k * 7 + 1, none⟩ = some (.int .i64 y.r) ∧ W.cell? ⟨b, off + k * 7 + 2, none⟩ = some (.int .i64 y.q) ∧ W.cell? ⟨b, off + k * 7 + 3, none⟩ = some (.int .i64 y.k) ∧ W.cell? ⟨b, off + k * 7 + 4, none⟩ = some (.int .i64 y.m) ∧ W.cell? ⟨b, off + k * 7 + 5, none⟩ = some (.int .i64 y.n) ∧ W.cell? ⟨b, off + k * 7 + 6, none⟩ = some (.string y.t)))) w9.drew := z9
              refine wp_region_held_drew (S := fun W => ((W.cell? ⟨b10, 0, none⟩ = some (.int .i64 M.pr) ∧ W.cell? ⟨b10, 1, none⟩ = some (.int .i64 M.pp)) ∧ (W.cell? ⟨b11, 0, none⟩ = some (.int .i64 X.ar) ∧ W.cell? ⟨b11, 1, none⟩ = some (.int .i64 X.ap) ∧ W.cell? ⟨b11, 2, none⟩ = some (.int .i64 X.k) ∧ W.cell? ⟨b11, 3, none⟩ = some (.int .i64 X.m) ∧ W.cell? ⟨b11, 4, none⟩ = some (.int .i64 X.n) ∧ W.cell? ⟨b11, 5, none⟩ = some (.string X.t)) ∧ (W.cell? ⟨b14, 0, none⟩ = some (.int .i64 N.pr) ∧ W.cell? ⟨b14, 1, none⟩ = some (.int .i64 N.pp)) ∧ (W.cell? ⟨b15, 0, none⟩ = some (.int .i64 Y.ar) ∧ W.cell? ⟨b15, 1, none⟩ = some (.int .i64 Y.ap) ∧ W.cell? ⟨b15, 2, none⟩ = some (.int .i64 Y.k) ∧ W.cell? ⟨b15, 3, none⟩ = some (.int .i64 Y.m) ∧ W.cell? ⟨b15, 4, none⟩ = some (.int .i64 Y.n) ∧ W.cell? ⟨b15, 5, none⟩ = some (.string Y.t)) ∧ (W.cell? ⟨b, off + k * 7, none⟩ = some (.int .i64 y.x) ∧ W.cell? ⟨b, off + k * 7 + 1, none⟩ = some (.int .i64 y.r) ∧ W.cell? ⟨b, off + k * 7 + 2, none⟩ = some (.int .i64 y.q) ∧ W.cell? ⟨b, off + k * 7 + 3, none⟩ = some (.int .i64 y.k) ∧ W.cell? ⟨b, off + k * 7 + 4, none⟩ = some (.int .i64 y.m) ∧ W.cell? ⟨b, off + k * 7 + 5, none⟩ = some (.int .i64 y.n) ∧ W.cell? ⟨b, off + k * 7 + 6, none⟩ = some (.string y.t)))) rfl hS0 (fun hHeld => ?_)
              simp only [List.size_toArray, List.length_cons, List.length_nil, Nat.reduceAdd]
              have HB0 : Hid (Below w9.heap.size w9 w9.drew) := Lib.hid (Below.refl _ _).drew
              obtain ⟨V0, hV0⟩ : ∃ V, w9.drew = V := ⟨_, rfl⟩
              rw [hV0] at hHeld hS0 HB0 ⊢
              clear hV0
              refine wpAnyH_take (i := 0) (v := .agg #[.int .i64 N.pr, .int .i64 N.pp]) rfl (by kernel_rfl) (by kernel_rfl) (by kernel_rfl) (fun _ _ _ h => h) (Or.inl ⟨by rfl, ?_⟩) (by assumption) ?_
              · intro wx hs1; obtain ⟨⟨s0, s1⟩, ⟨p0, p1, p2, p3, p4, p5⟩, ⟨t0, t1⟩, ⟨q0, q1, q2, q3, q4, q5⟩, ⟨x0, x1, x2, x3, x4, x5, x6⟩⟩ := hs1; go_simp
              (try simp only [Act.put, List.getElem_toArray, List.getElem_cons_zero, List.setIfInBounds_toArray, List.set_cons_zero, List.set_cons_succ])
              refine wpAnyH_take (i := 1) (v := .agg #[.int .i64 M.pr, .int .i64 M.pp]) rfl (by kernel_rfl) (by kernel_rfl) (by kernel_rfl) (fun _ _ _ h => h) (Or.inl ⟨by rfl, ?_⟩) (by assumption) ?_
              · intro wx hs1; obtain ⟨⟨s0, s1⟩, ⟨p0, p1, p2, p3, p4, p5⟩, ⟨t0, t1⟩, ⟨q0, q1, q2, q3, q4, q5⟩, ⟨x0, x1, x2, x3, x4, x5, x6⟩⟩ := hs1; go_simp
              (try simp only [Act.put, List.getElem_toArray, List.getElem_cons_succ, List.getElem_cons_zero, List.setIfInBounds_toArray, List.set_cons_zero, List.set_cons_succ])
              refine wpAnyH_ready (rs := [2]) (by kernel_rfl) (by simp) (AllReadyH.cons rfl (fun K hK => ?_) AllReadyH.nil)
              go_simp
              go_at_call 16
              (with_reducible refine (HL1.out _).mono ?_)
              rintro e v1 ⟨rfl, hb⟩
              try dsimp only
              have HC1 : Hid (Below w9.heap.size w9 v1) := Lib.hid (HB0.out.trans (hb.mono HB0.out.size)); clear hb; have hS := HS9.out _ HC1.out
              refine hK.out _ _ hS (fun _ => ?_)
              clear hK K
              (try simp only [Act.put, List.getElem_toArray, List.getElem_cons_succ, List.getElem_cons_zero, List.setIfInBounds_toArray, List.set_cons_zero, List.set_cons_succ])
              refine wpAnyH_take (i := 3) (v := .bool false) rfl (by kernel_rfl) (by kernel_rfl) (by kernel_rfl) (fun _ _ _ h => h) (Or.inl ⟨by rfl, ?_⟩) (by assumption) ?_
              · intro wx hs1; go_simp
              (try simp only [Act.put, List.getElem_toArray, List.getElem_cons_succ, List.getElem_cons_zero, List.setIfInBounds_toArray, List.set_cons_zero, List.set_cons_succ])
              refine wpAnyH_take (i := 4) (v := .bool true) rfl (by kernel_rfl) (by kernel_rfl) (by kernel_rfl) (fun _ _ _ h => h) (Or.inl ⟨by rfl, ?_⟩) (by assumption) ?_
              · intro wx hs1; go_simp
              (try simp only [Act.put, List.getElem_toArray, List.getElem_cons_succ, List.getElem_cons_zero, List.setIfInBounds_toArray, List.set_cons_zero, List.set_cons_succ])
              refine wpAnyH_take (i := 5) (v := .bool true) rfl (by kernel_rfl) (by kernel_rfl) (by kernel_rfl) (fun _ _ _ h => h) (Or.inl ⟨by rfl, ?_⟩) (by assumption) ?_
              · intro wx hs1; go_simp
              (try simp only [Act.put, List.getElem_toArray, List.getElem_cons_succ, List.getElem_cons_zero, List.setIfInBounds_toArray, List.set_cons_zero, List.set_cons_succ])
              refine wpAnyH_take (i := 6) (v := .bool true) rfl (by kernel_rfl) (by kernel_rfl) (by kernel_rfl) (fun _ _ _ h => h) (Or.inl ⟨by rfl, ?_⟩) (by assumption) ?_
              · intro wx hs1; go_simp
              (try simp only [Act.put, List.getElem_toArray, List.getElem_cons_succ, List.getElem_cons_zero, List.setIfInBounds_toArray, List.set_cons_zero, List.set_cons_succ])
              refine wpAnyH_take (i := 7) (v := .bool false) rfl (by kernel_rfl) (by kernel_rfl) (by kernel_rfl) (fun _ _ _ h => h) (Or.inl ⟨by rfl, ?_⟩) (by assumption) ?_
              · intro wx hs1; go_simp
              (try simp only [Act.put, List.getElem_toArray, List.getElem_cons_succ, List.getElem_cons_zero, List.setIfInBounds_toArray, List.set_cons_zero, List.set_cons_succ])
              refine wpAnyH_take (i := 8) (v := .bool false) rfl (by kernel_rfl) (by kernel_rfl) (by kernel_rfl) (fun _ _ _ h => h) (Or.inl ⟨by rfl, ?_⟩) (by assumption) ?_
              · intro wx hs1; go_simp
              (try simp only [Act.put, List.getElem_toArray, List.getElem_cons_succ, List.getElem_cons_zero, List.setIfInBounds_toArray, List.set_cons_zero, List.set_cons_succ])
              refine wpAnyH_take (i := 9) (v := .pointer (some ⟨b15, 0, none⟩)) rfl (by kernel_rfl) (by kernel_rfl) (by kernel_rfl) (fun _ _ _ h => h) (Or.inl ⟨by rfl, ?_⟩) (by assumption) ?_
              · intro wx hs1; go_simp
              (try simp only [Act.put, List.getElem_toArray, List.getElem_cons_succ, List.getElem_cons_zero, List.setIfInBounds_toArray, List.set_cons_zero, List.set_cons_succ])
              refine wpAnyH_take (i := 10) (v := .agg #[.int .i64 Y.ar, .int .i64 Y.ap]) rfl (by kernel_rfl) (by kernel_rfl) (by kernel_rfl) (fun _ _ _ h => h) (Or.inl ⟨by rfl, ?_⟩) (by assumption) ?_
              · intro wx hs1; obtain ⟨⟨s0, s1⟩, ⟨p0, p1, p2, p3, p4, p5⟩, ⟨t0, t1⟩, ⟨q0, q1, q2, q3, q4, q5⟩, ⟨x0, x1, x2, x3, x4, x5, x6⟩⟩ := hs1; go_simp
              (try simp only [Act.put, List.getElem_toArray, List.getElem_cons_succ, List.getElem_cons_zero, List.setIfInBounds_toArray, List.set_cons_zero, List.set_cons_succ])
              refine wpAnyH_take (i := 11) (v := .pointer (some ⟨b11, 0, none⟩)) rfl (by kernel_rfl) (by kernel_rfl) (by kernel_rfl) (fun _ _ _ h => h) (Or.inl ⟨by rfl, ?_⟩) (by assumption) ?_
              · intro wx hs1; go_simp
              (try simp only [Act.put, List.getElem_toArray, List.getElem_cons_succ, List.getElem_cons_zero, List.setIfInBounds_toArray, List.set_cons_zero, List.set_cons_succ])
              refine wpAnyH_take (i := 12) (v := .agg #[.int .i64 X.ar, .int .i64 X.ap]) rfl (by kernel_rfl) (by kernel_rfl) (by kernel_rfl) (fun _ _ _ h => h) (Or.inl ⟨by rfl, ?_⟩) (by assumption) ?_
              · intro wx hs1; obtain ⟨⟨s0, s1⟩, ⟨p0, p1, p2, p3, p4, p5⟩, ⟨t0, t1⟩, ⟨q0, q1, q2, q3, q4, q5⟩, ⟨x0, x1, x2, x3, x4, x5, x6⟩⟩ := hs1; go_simp
              (try simp only [Act.put, List.getElem_toArray, List.getElem_cons_succ, List.getElem_cons_zero, List.setIfInBounds_toArray, List.set_cons_zero, List.set_cons_succ])
              refine wpAnyH_ready (rs := [13]) (by kernel_rfl) (by simp) (AllReadyH.cons rfl (fun K hK => ?_) AllReadyH.nil)
              go_simp
              go_at_call 16
              (with_reducible refine (HL2.out _).mono ?_)
              rintro e v2 ⟨rfl, hb⟩
              try dsimp only
              have HC2 : Hid (Below w9.heap.size w9 v2) := Lib.hid (HC1.out.trans (hb.mono HC1.out.size)); clear hb; have hS := HS9.out _ HC2.out
              refine hK.out _ _ hS (fun _ => ?_)
              clear hK K
              (try simp only [Act.put, List.getElem_toArray, List.getElem_cons_succ, List.getElem_cons_zero, List.setIfInBounds_toArray, List.set_cons_zero, List.set_cons_succ])
              refine wpAnyH_take (i := 14) (v := .bool false) rfl (by kernel_rfl) (by kernel_rfl) (by kernel_rfl) (fun _ _ _ h => h) (Or.inl ⟨by rfl, ?_⟩) (by assumption) ?_
              · intro wx hs1; go_simp
              (try simp only [Act.put, List.getElem_toArray, List.getElem_cons_succ, List.getElem_cons_zero, List.setIfInBounds_toArray, List.set_cons_zero, List.set_cons_succ])
              refine wpAnyH_take (i := 15) (v := .bool false) rfl (by kernel_rfl) (by kernel_rfl) (by kernel_rfl) (fun _ _ _ h => h) (Or.inl ⟨by rfl, ?_⟩) (by assumption) ?_
              · intro wx hs1; go_simp
              (try simp only [Act.put, List.getElem_toArray, List.getElem_cons_succ, List.getElem_cons_zero, List.setIfInBounds_toArray, List.set_cons_zero, List.set_cons_succ])
              refine wpAnyH_take (i := 16) (v := .bool false) rfl (by kernel_rfl) (by kernel_rfl) (by kernel_rfl) (fun _ _ _ h => h) (Or.inl ⟨by rfl, ?_⟩) (by assumption) ?_
              · intro wx hs1; go_simp
              (try simp only [Act.put, List.getElem_toArray, List.getElem_cons_succ, List.getElem_cons_zero, List.setIfInBounds_toArray, List.set_cons_zero, List.set_cons_succ])
              refine wpAnyH_take (i := 17) (v := .bool false) rfl (by kernel_rfl) (by kernel_rfl) (by kernel_rfl) (fun _ _ _ h => h) (Or.inl ⟨by rfl, ?_⟩) (by assumption) ?_
              · intro wx hs1; go_simp
              (try simp only [Act.put, List.getElem_toArray, List.getElem_cons_succ, List.getElem_cons_zero, List.setIfInBounds_toArray, List.set_cons_zero, List.set_cons_succ])
              refine wpAnyH_take (i := 18) (v := .bool true) rfl (by kernel_rfl) (by kernel_rfl) (by kernel_rfl) (fun _ _ _ h => h) (Or.inl ⟨by rfl, ?_⟩) (by assumption) ?_
              · intro wx hs1; go_simp
              (try simp only [Act.put, List.getElem_toArray, List.getElem_cons_succ, List.getElem_cons_zero, List.setIfInBounds_toArray, List.set_cons_zero, List.set_cons_succ])
              refine wpAnyH_take (i := 19) (v := .bool true) rfl (by kernel_rfl) (by kernel_rfl) (by kernel_rfl) (fun _ _ _ h => h) (Or.inl ⟨by rfl, ?_⟩) (by assumption) ?_
              · intro wx hs1; go_simp
              (try simp only [Act.put, List.getElem_toArray, List.getElem_cons_succ, List.getElem_cons_zero, List.setIfInBounds_toArray, List.set_cons_zero, List.set_cons_succ])
              refine wpAnyH_take (i := 20) (v := .agg #[.int .i64 N.pr, .int .i64 N.pp]) rfl (by kernel_rfl) (by kernel_rfl) (by kernel_rfl) (fun _ _ _ h => h) (Or.inl ⟨by rfl, ?_⟩) (by assumption) ?_
              · intro wx hs1; obtain ⟨⟨s0, s1⟩, ⟨p0, p1, p2, p3, p4, p5⟩, ⟨t0, t1⟩, ⟨q0, q1, q2, q3, q4, q5⟩, ⟨x0, x1, x2, x3, x4, x5, x6⟩⟩ := hs1; go_simp
              (try simp only [Act.put, List.getElem_toArray, List.getElem_cons_succ, List.getElem_cons_zero, List.setIfInBounds_toArray, List.set_cons_zero, List.set_cons_succ])
              refine wpAnyH_take (i := 21) (v := .pointer (some ⟨b15, 0, none⟩)) rfl (by kernel_rfl) (by kernel_rfl) (by kernel_rfl) (fun _ _ _ h => h) (Or.inl ⟨by rfl, ?_⟩) (by assumption) ?_
              · intro wx hs1; go_simp
              (try simp only [Act.put, List.getElem_toArray, List.getElem_cons_succ, List.getElem_cons_zero, List.setIfInBounds_toArray, List.set_cons_zero, List.set_cons_succ])
              refine wpAnyH_take (i := 22) (v := .agg #[.int .i64 Y.ar, .int .i64 Y.ap]) rfl (by kernel_rfl) (by kernel_rfl) (by kernel_rfl) (fun _ _ _ h => h) (Or.inl ⟨by rfl, ?_⟩) (by assumption) ?_
              · intro wx hs1; obtain ⟨⟨s0, s1⟩, ⟨p0, p1, p2, p3, p4, p5⟩, ⟨t0, t1⟩, ⟨q0, q1, q2, q3, q4, q5⟩, ⟨x0, x1, x2, x3, x4, x5, x6⟩⟩ := hs1; go_simp
              (try simp only [Act.put, List.getElem_toArray, List.getElem_cons_succ, List.getElem_cons_zero, List.setIfInBounds_toArray, List.set_cons_zero, List.set_cons_succ])
              refine wpAnyH_ready (rs := [23]) (by kernel_rfl) (by simp) (AllReadyH.cons rfl (fun K hK => ?_) AllReadyH.nil)
              go_simp
              go_at_call 16
              (with_reducible refine (HL3.out _).mono ?_)
              rintro e v3 ⟨rfl, hb⟩
              try dsimp only
              have HC3 : Hid (Below w9.heap.size w9 v3) := Lib.hid (HC2.out.trans (hb.mono HC2.out.size)); clear hb; have hS := HS9.out _ HC3.out
              refine hK.out _ _ hS (fun _ => ?_)
              clear hK K
              (try simp only [Act.put, List.getElem_toArray, List.getElem_cons_succ, List.getElem_cons_zero, List.setIfInBounds_toArray, List.set_cons_zero, List.set_cons_succ])
              refine wpAnyH_take (i := 24) (v := .bool false) rfl (by kernel_rfl) (by kernel_rfl) (by kernel_rfl) (fun _ _ _ h => h) (Or.inl ⟨by rfl, ?_⟩) (by assumption) ?_
              · intro wx hs1; go_simp
              (try simp only [Act.put, List.getElem_toArray, List.getElem_cons_succ, List.getElem_cons_zero, List.setIfInBounds_toArray, List.set_cons_zero, List.set_cons_succ])
              refine wpAnyH_take (i := 25) (v := .bool false) rfl (by kernel_rfl) (by kernel_rfl) (by kernel_rfl) (fun _ _ _ h => h) (Or.inl ⟨by rfl, ?_⟩) (by assumption) ?_
              · intro wx hs1; go_simp
              (try simp only [Act.put, List.getElem_toArray, List.getElem_cons_succ, List.getElem_cons_zero, List.setIfInBounds_toArray, List.set_cons_zero, List.set_cons_succ])
              refine wpAnyH_take (i := 26) (v := .bool false) rfl (by kernel_rfl) (by kernel_rfl) (by kernel_rfl) (fun _ _ _ h => h) (Or.inl ⟨by rfl, ?_⟩) (by assumption) ?_
              · intro wx hs1; go_simp
              (try simp only [Act.put, List.getElem_toArray, List.getElem_cons_succ, List.getElem_cons_zero, List.setIfInBounds_toArray, List.set_cons_zero, List.set_cons_succ])
              refine wpAnyH_take (i := 27) (v := .bool false) rfl (by kernel_rfl) (by kernel_rfl) (by kernel_rfl) (fun _ _ _ h => h) (Or.inl ⟨by rfl, ?_⟩) (by assumption) ?_
              · intro wx hs1; go_simp
              (try simp only [Act.put, List.getElem_toArray, List.getElem_cons_succ, List.getElem_cons_zero, List.setIfInBounds_toArray, List.set_cons_zero, List.set_cons_succ])
              refine wpAnyH_take (i := 28) (v := .bool false) rfl (by kernel_rfl) (by kernel_rfl) (by kernel_rfl) (fun _ _ _ h => h) (Or.inl ⟨by rfl, ?_⟩) (by assumption) ?_
              · intro wx hs1; go_simp
              (try simp only [Act.put, List.getElem_toArray, List.getElem_cons_succ, List.getElem_cons_zero, List.setIfInBounds_toArray, List.set_cons_zero, List.set_cons_succ])
              refine wpAnyH_take (i := 29) (v := undef) rfl (by kernel_rfl) (by kernel_rfl) (by kernel_rfl) (fun _ _ _ h => h) (Or.inr ⟨by rfl, rfl⟩) (by assumption) ?_
              (try simp only [Act.put, List.getElem_toArray, List.getElem_cons_succ, List.getElem_cons_zero, List.setIfInBounds_toArray, List.set_cons_zero, List.set_cons_succ])
              refine wpAnyH_take (i := 30) (v := undef) rfl (by kernel_rfl) (by kernel_rfl) (by kernel_rfl) (fun _ _ _ h => h) (Or.inr ⟨by rfl, rfl⟩) (by assumption) ?_
              (try simp only [Act.put, List.getElem_toArray, List.getElem_cons_succ, List.getElem_cons_zero, List.setIfInBounds_toArray, List.set_cons_zero, List.set_cons_succ])
              refine wpAnyH_take (i := 31) (v := undef) rfl (by kernel_rfl) (by kernel_rfl) (by kernel_rfl) (fun _ _ _ h => h) (Or.inr ⟨by rfl, rfl⟩) (by assumption) ?_
              (try simp only [Act.put, List.getElem_toArray, List.getElem_cons_succ, List.getElem_cons_zero, List.setIfInBounds_toArray, List.set_cons_zero, List.set_cons_succ])
              refine wpAnyH_take (i := 32) (v := undef) rfl (by kernel_rfl) (by kernel_rfl) (by kernel_rfl) (fun _ _ _ h => h) (Or.inr ⟨by rfl, rfl⟩) (by assumption) ?_
              (try simp only [Act.put, List.getElem_toArray, List.getElem_cons_succ, List.getElem_cons_zero, List.setIfInBounds_toArray, List.set_cons_zero, List.set_cons_succ])
              refine wpAnyH_take (i := 33) (v := undef) rfl (by kernel_rfl) (by kernel_rfl) (by kernel_rfl) (fun _ _ _ h => h) (Or.inr ⟨by rfl, rfl⟩) (by assumption) ?_
              (try simp only [Act.put, List.getElem_toArray, List.getElem_cons_succ, List.getElem_cons_zero, List.setIfInBounds_toArray, List.set_cons_zero, List.set_cons_succ])
              refine wpAnyH_take (i := 34) (v := undef) rfl (by kernel_rfl) (by kernel_rfl) (by kernel_rfl) (fun _ _ _ h => h) (Or.inr ⟨by rfl, rfl⟩) (by assumption) ?_
              (try simp only [Act.put, List.getElem_toArray, List.getElem_cons_succ, List.getElem_cons_zero, List.setIfInBounds_toArray, List.set_cons_zero, List.set_cons_succ])
              refine wpAnyH_take (i := 35) (v := undef) rfl (by kernel_rfl) (by kernel_rfl) (by kernel_rfl) (fun _ _ _ h => h) (Or.inr ⟨by rfl, rfl⟩) (by assumption) ?_
              (try simp only [Act.put, List.getElem_toArray, List.getElem_cons_succ, List.getElem_cons_zero, List.setIfInBounds_toArray, List.set_cons_zero, List.set_cons_succ])
              refine wpAnyH_take (i := 36) (v := .bool false) rfl (by kernel_rfl) (by kernel_rfl) (by kernel_rfl) (fun _ _ _ h => h) (Or.inl ⟨by rfl, ?_⟩) (by assumption) ?_
              · intro wx hs1; go_simp
              (try simp only [Act.put, List.getElem_toArray, List.getElem_cons_succ, List.getElem_cons_zero, List.setIfInBounds_toArray, List.set_cons_zero, List.set_cons_succ])
              refine wpAnyH_take (i := 37) (v := .bool false) rfl (by kernel_rfl) (by kernel_rfl) (by kernel_rfl) (fun _ _ _ h => h) (Or.inl ⟨by rfl, ?_⟩) (by assumption) ?_
              · intro wx hs1; go_simp
              (try simp only [Act.put, List.getElem_toArray, List.getElem_cons_succ, List.getElem_cons_zero, List.setIfInBounds_toArray, List.set_cons_zero, List.set_cons_succ])
              refine wpAnyH_take (i := 38) (v := .bool false) rfl (by kernel_rfl) (by kernel_rfl) (by kernel_rfl) (fun _ _ _ h => h) (Or.inl ⟨by rfl, ?_⟩) (by assumption) ?_
              · intro wx hs1; go_simp
              (try simp only [Act.put, List.getElem_toArray, List.getElem_cons_succ, List.getElem_cons_zero, List.setIfInBounds_toArray, List.set_cons_zero, List.set_cons_succ])
              refine wpAnyH_take (i := 39) (v := .bool false) rfl (by kernel_rfl) (by kernel_rfl) (by kernel_rfl) (fun _ _ _ h => h) (Or.inl ⟨by rfl, ?_⟩) (by assumption) ?_
              · intro wx hs1; go_simp
              (try simp only [Act.put, List.getElem_toArray, List.getElem_cons_succ, List.getElem_cons_zero, List.setIfInBounds_toArray, List.set_cons_zero, List.set_cons_succ])
              refine wpAnyH_take (i := 40) (v := .bool true) rfl (by kernel_rfl) (by kernel_rfl) (by kernel_rfl) (fun _ _ _ h => h) (Or.inl ⟨by rfl, ?_⟩) (by assumption) ?_
              · intro wx hs1; go_simp
              (try simp only [Act.put, List.getElem_toArray, List.getElem_cons_succ, List.getElem_cons_zero, List.setIfInBounds_toArray, List.set_cons_zero, List.set_cons_succ])
              refine wpAnyH_take (i := 41) (v := .bool true) rfl (by kernel_rfl) (by kernel_rfl) (by kernel_rfl) (fun _ _ _ h => h) (Or.inl ⟨by rfl, ?_⟩) (by assumption) ?_
              · intro wx hs1; go_simp
              (try simp only [Act.put, List.getElem_toArray, List.getElem_cons_succ, List.getElem_cons_zero, List.setIfInBounds_toArray, List.set_cons_zero, List.set_cons_succ])
              refine wpAnyH_take (i := 42) (v := .agg #[.int .i64 N.pr, .int .i64 N.pp]) rfl (by kernel_rfl) (by kernel_rfl) (by kernel_rfl) (fun _ _ _ h => h) (Or.inl ⟨by rfl, ?_⟩) (by assumption) ?_
              · intro wx hs1; obtain ⟨⟨s0, s1⟩, ⟨p0, p1, p2, p3, p4, p5⟩, ⟨t0, t1⟩, ⟨q0, q1, q2, q3, q4, q5⟩, ⟨x0, x1, x2, x3, x4, x5, x6⟩⟩ := hs1; go_simp
              (try simp only [Act.put, List.getElem_toArray, List.getElem_cons_succ, List.getElem_cons_zero, List.setIfInBounds_toArray, List.set_cons_zero, List.set_cons_succ])
              refine wpAnyH_take (i := 43) (v := .agg #[.int .i64 M.pr, .int .i64 M.pp]) rfl (by kernel_rfl) (by kernel_rfl) (by kernel_rfl) (fun _ _ _ h => h) (Or.inl ⟨by rfl, ?_⟩) (by assumption) ?_
              · intro wx hs1; obtain ⟨⟨s0, s1⟩, ⟨p0, p1, p2, p3, p4, p5⟩, ⟨t0, t1⟩, ⟨q0, q1, q2, q3, q4, q5⟩, ⟨x0, x1, x2, x3, x4, x5, x6⟩⟩ := hs1; go_simp
              (try simp only [Act.put, List.getElem_toArray, List.getElem_cons_succ, List.getElem_cons_zero, List.setIfInBounds_toArray, List.set_cons_zero, List.set_cons_succ])
              refine wpAnyH_take (i := 44) (v := .bool false) rfl (by kernel_rfl) (by kernel_rfl) (by kernel_rfl) (fun _ _ _ h => h) (Or.inl ⟨by rfl, ?_⟩) (by assumption) ?_
              · intro wx hs1; clear hs1; have e3 := hne36 wx; go_simp
              (try simp only [Act.put, List.getElem_toArray, List.getElem_cons_succ, List.getElem_cons_zero, List.setIfInBounds_toArray, List.set_cons_zero, List.set_cons_succ])
              refine wpAnyH_take (i := 45) (v := .bool false) rfl (by kernel_rfl) (by kernel_rfl) (by kernel_rfl) (fun _ _ _ h => h) (Or.inl ⟨by rfl, ?_⟩) (by assumption) ?_
              · intro wx hs1; go_simp
              (try simp only [Act.put, List.getElem_toArray, List.getElem_cons_succ, List.getElem_cons_zero, List.setIfInBounds_toArray, List.set_cons_zero, List.set_cons_succ])
              refine wpAnyH_take (i := 46) (v := .agg #[.int .i64 X.ar, .int .i64 X.ap, .int .i64 X.k, .int .i64 X.m, .int .i64 X.n, .string X.t]) rfl (by kernel_rfl) (by kernel_rfl) (by kernel_rfl) (fun _ _ _ h => h) (Or.inl ⟨by rfl, ?_⟩) (by assumption) ?_
              · intro wx hs1; obtain ⟨⟨s0, s1⟩, ⟨p0, p1, p2, p3, p4, p5⟩, ⟨t0, t1⟩, ⟨q0, q1, q2, q3, q4, q5⟩, ⟨x0, x1, x2, x3, x4, x5, x6⟩⟩ := hs1; go_simp
              (try simp only [Act.put, List.getElem_toArray, List.getElem_cons_succ, List.getElem_cons_zero, List.setIfInBounds_toArray, List.set_cons_zero, List.set_cons_succ])
              refine wpAnyH_take (i := 47) (v := .agg #[.int .i64 Y.ar, .int .i64 Y.ap, .int .i64 Y.k, .int .i64 Y.m, .int .i64 Y.n, .string Y.t]) rfl (by kernel_rfl) (by kernel_rfl) (by kernel_rfl) (fun _ _ _ h => h) (Or.inl ⟨by rfl, ?_⟩) (by assumption) ?_
              · intro wx hs1; obtain ⟨⟨s0, s1⟩, ⟨p0, p1, p2, p3, p4, p5⟩, ⟨t0, t1⟩, ⟨q0, q1, q2, q3, q4, q5⟩, ⟨x0, x1, x2, x3, x4, x5, x6⟩⟩ := hs1; go_simp
              (try simp only [Act.put, List.getElem_toArray, List.getElem_cons_succ, List.getElem_cons_zero, List.setIfInBounds_toArray, List.set_cons_zero, List.set_cons_succ])
              refine wpAnyH_take (i := 48) (v := .bool false) rfl (by kernel_rfl) (by kernel_rfl) (by kernel_rfl) (fun _ _ _ h => h) (Or.inl ⟨by rfl, ?_⟩) (by assumption) ?_
              · intro wx hs1; clear hs1; have e3 := hne39 wx; go_simp
              (try simp only [Act.put, List.getElem_toArray, List.getElem_cons_succ, List.getElem_cons_zero, List.setIfInBounds_toArray, List.set_cons_zero, List.set_cons_succ])
              refine wpAnyH_take (i := 49) (v := .bool false) rfl (by kernel_rfl) (by kernel_rfl) (by kernel_rfl) (fun _ _ _ h => h) (Or.inl ⟨by rfl, ?_⟩) (by assumption) ?_
              · intro wx hs1; go_simp
              (try simp only [Act.put, List.getElem_toArray, List.getElem_cons_succ, List.getElem_cons_zero, List.setIfInBounds_toArray, List.set_cons_zero, List.set_cons_succ])
              refine wpAnyH_take (i := 50) (v := .bool false) rfl (by kernel_rfl) (by kernel_rfl) (by kernel_rfl) (fun _ _ _ h => h) (Or.inl ⟨by rfl, ?_⟩) (by assumption) ?_
              · intro wx hs1; go_simp
              (try simp only [Act.put, List.getElem_toArray, List.getElem_cons_succ, List.getElem_cons_zero, List.setIfInBounds_toArray, List.set_cons_zero, List.set_cons_succ])
              refine wpAnyH_take (i := 51) (v := .bool false) rfl (by kernel_rfl) (by kernel_rfl) (by kernel_rfl) (fun _ _ _ h => h) (Or.inl ⟨by rfl, ?_⟩) (by assumption) ?_
              · intro wx hs1; go_simp
              (try simp only [Act.put, List.getElem_toArray, List.getElem_cons_succ, List.getElem_cons_zero, List.setIfInBounds_toArray, List.set_cons_zero, List.set_cons_succ])
              refine wpAnyH_done (by kernel_rfl) ?_ _
              go_wp2_with fail
              go_roundw
              case rel => exact ⟨k + 1, by omega, by go_num, Lib.hid (by rw [HST.out]; exact ⟨AAt.keep HA9.out HC3.out, HBW.out.trans (HC3.out.mono HBW.out.size)⟩)⟩
              case measure => simp [RowKit.intOf]; omega
            · have HL2 := Lib.hid (HL2a.out rfl)
              have HL3 := Lib.hid (HL3a.out rfl)
              have HL4 := Lib.hid (HL4a.out rfl)
              clear HL2a HL3a HL4a K1 K2
              have hS0 : (fun W => ((W.cell? ⟨b10, 0, none⟩ = some (.int .i64 M.pr) ∧ W.cell? ⟨b10, 1, none⟩ = some (.int .i64 M.pp)) ∧ (W.cell? ⟨b11, 0, none⟩ = some (.int .i64 X.ar) ∧ W.cell? ⟨b11, 1, none⟩ = some (.int .i64 X.ap) ∧ W.cell? ⟨b11, 2, none⟩ = some (.int .i64 X.k) ∧ W.cell? ⟨b11, 3, none⟩ = some (.int .i64 X.m) ∧ W.cell? ⟨b11, 4, none⟩ = some (.int .i64 X.n) ∧ W.cell? ⟨b11, 5, none⟩ = some (.string X.t)) ∧ (W.cell? ⟨b14, 0, none⟩ = some (.int .i64 N.pr) ∧ W.cell? ⟨b14, 1, none⟩ = some (.int .i64 N.pp)) ∧ (W.cell? ⟨b15, 0, none⟩ = some (.int .i64 Y.ar) ∧ W.cell? ⟨b15, 1, none⟩ = some (.int .i64 Y.ap) ∧ W.cell? ⟨b15, 2, none⟩ = some (.int .i64 Y.k) ∧ W.cell? ⟨b15, 3, none⟩ = some (.int .i64 Y.m) ∧ W.cell? ⟨b15, 4, none⟩ = some (.int .i64 Y.n) ∧ W.cell? ⟨b15, 5, none⟩ = some (.string Y.t)) ∧ (W.cell? ⟨b, off + k * 7, none⟩ = some (.int .i64 y.x) ∧ W.cell? ⟨b, off + k * 7 + 1, none⟩ = some (.int .i64 y.r) ∧ W.cell? ⟨b, off + k * 7 + 2, none⟩ = some (.int .i64 y.q) ∧ W.cell? ⟨b, off + k * 7 + 3, none⟩ = some (.int .i64 y.k) ∧ W.cell? ⟨b, off + k * 7 + 4, none⟩ = some (.int .i64 y.m) ∧ W.cell? ⟨b, off + k * 7 + 5, none⟩ = some (.int .i64 y.n) ∧ W.cell? ⟨b, off + k * 7 + 6, none⟩ = some (.string y.t)))) w9.drew := z9
              refine wp_region_held_drew (S := fun W => ((W.cell? ⟨b10, 0, none⟩ = some (.int .i64 M.pr) ∧ W.cell? ⟨b10, 1, none⟩ = some (.int .i64 M.pp)) ∧ (W.cell? ⟨b11, 0, none⟩ = some (.int .i64 X.ar) ∧ W.cell? ⟨b11, 1, none⟩ = some (.int .i64 X.ap) ∧ W.cell? ⟨b11, 2, none⟩ = some (.int .i64 X.k) ∧ W.cell? ⟨b11, 3, none⟩ = some (.int .i64 X.m) ∧ W.cell? ⟨b11, 4, none⟩ = some (.int .i64 X.n) ∧ W.cell? ⟨b11, 5, none⟩ = some (.string X.t)) ∧ (W.cell? ⟨b14, 0, none⟩ = some (.int .i64 N.pr) ∧ W.cell? ⟨b14, 1, none⟩ = some (.int .i64 N.pp)) ∧ (W.cell? ⟨b15, 0, none⟩ = some (.int .i64 Y.ar) ∧ W.cell? ⟨b15, 1, none⟩ = some (.int .i64 Y.ap) ∧ W.cell? ⟨b15, 2, none⟩ = some (.int .i64 Y.k) ∧ W.cell? ⟨b15, 3, none⟩ = some (.int .i64 Y.m) ∧ W.cell? ⟨b15, 4, none⟩ = some (.int .i64 Y.n) ∧ W.cell? ⟨b15, 5, none⟩ = some (.string Y.t)) ∧ (W.cell? ⟨b, off + k * 7, none⟩ = some (.int .i64 y.x) ∧ W.cell? ⟨b, off + k * 7 + 1, none⟩ = some (.int .i64 y.r) ∧ W.cell? ⟨b, off + k * 7 + 2, none⟩ = some (.int .i64 y.q) ∧ W.cell? ⟨b, off + k * 7 + 3, none⟩ = some (.int .i64 y.k) ∧ W.cell? ⟨b, off + k * 7 + 4, none⟩ = some (.int .i64 y.m) ∧ W.cell? ⟨b, off + k * 7 + 5, none⟩ = some (.int .i64 y.n) ∧ W.cell? ⟨b, off + k * 7 + 6, none⟩ = some (.string y.t)))) rfl hS0 (fun hHeld => ?_)
              simp only [List.size_toArray, List.length_cons, List.length_nil, Nat.reduceAdd]
              have HB0 : Hid (Below w9.heap.size w9 w9.drew) := Lib.hid (Below.refl _ _).drew
              obtain ⟨V0, hV0⟩ : ∃ V, w9.drew = V := ⟨_, rfl⟩
              rw [hV0] at hHeld hS0 HB0 ⊢
              clear hV0
              refine wpAnyH_take (i := 0) (v := .agg #[.int .i64 N.pr, .int .i64 N.pp]) rfl (by kernel_rfl) (by kernel_rfl) (by kernel_rfl) (fun _ _ _ h => h) (Or.inl ⟨by rfl, ?_⟩) (by assumption) ?_
              · intro wx hs1; obtain ⟨⟨s0, s1⟩, ⟨p0, p1, p2, p3, p4, p5⟩, ⟨t0, t1⟩, ⟨q0, q1, q2, q3, q4, q5⟩, ⟨x0, x1, x2, x3, x4, x5, x6⟩⟩ := hs1; go_simp
              (try simp only [Act.put, List.getElem_toArray, List.getElem_cons_zero, List.setIfInBounds_toArray, List.set_cons_zero, List.set_cons_succ])
              refine wpAnyH_take (i := 1) (v := .agg #[.int .i64 M.pr, .int .i64 M.pp]) rfl (by kernel_rfl) (by kernel_rfl) (by kernel_rfl) (fun _ _ _ h => h) (Or.inl ⟨by rfl, ?_⟩) (by assumption) ?_
              · intro wx hs1; obtain ⟨⟨s0, s1⟩, ⟨p0, p1, p2, p3, p4, p5⟩, ⟨t0, t1⟩, ⟨q0, q1, q2, q3, q4, q5⟩, ⟨x0, x1, x2, x3, x4, x5, x6⟩⟩ := hs1; go_simp
              (try simp only [Act.put, List.getElem_toArray, List.getElem_cons_succ, List.getElem_cons_zero, List.setIfInBounds_toArray, List.set_cons_zero, List.set_cons_succ])
              refine wpAnyH_ready (rs := [2]) (by kernel_rfl) (by simp) (AllReadyH.cons rfl (fun K hK => ?_) AllReadyH.nil)
              go_simp
              go_at_call 16
              (with_reducible refine (HL1.out _).mono ?_)
              rintro e v1 ⟨rfl, hb⟩
              try dsimp only
              have HC1 : Hid (Below w9.heap.size w9 v1) := Lib.hid (HB0.out.trans (hb.mono HB0.out.size)); clear hb; have hS := HS9.out _ HC1.out
              refine hK.out _ _ hS (fun _ => ?_)
              clear hK K
              (try simp only [Act.put, List.getElem_toArray, List.getElem_cons_succ, List.getElem_cons_zero, List.setIfInBounds_toArray, List.set_cons_zero, List.set_cons_succ])
              refine wpAnyH_take (i := 3) (v := .bool false) rfl (by kernel_rfl) (by kernel_rfl) (by kernel_rfl) (fun _ _ _ h => h) (Or.inl ⟨by rfl, ?_⟩) (by assumption) ?_
              · intro wx hs1; go_simp
              (try simp only [Act.put, List.getElem_toArray, List.getElem_cons_succ, List.getElem_cons_zero, List.setIfInBounds_toArray, List.set_cons_zero, List.set_cons_succ])
              refine wpAnyH_take (i := 4) (v := .bool true) rfl (by kernel_rfl) (by kernel_rfl) (by kernel_rfl) (fun _ _ _ h => h) (Or.inl ⟨by rfl, ?_⟩) (by assumption) ?_
              · intro wx hs1; go_simp
              (try simp only [Act.put, List.getElem_toArray, List.getElem_cons_succ, List.getElem_cons_zero, List.setIfInBounds_toArray, List.set_cons_zero, List.set_cons_succ])
              refine wpAnyH_take (i := 5) (v := .bool true) rfl (by kernel_rfl) (by kernel_rfl) (by kernel_rfl) (fun _ _ _ h => h) (Or.inl ⟨by rfl, ?_⟩) (by assumption) ?_
              · intro wx hs1; go_simp
              (try simp only [Act.put, List.getElem_toArray, List.getElem_cons_succ, List.getElem_cons_zero, List.setIfInBounds_toArray, List.set_cons_zero, List.set_cons_succ])
              refine wpAnyH_take (i := 6) (v := .bool true) rfl (by kernel_rfl) (by kernel_rfl) (by kernel_rfl) (fun _ _ _ h => h) (Or.inl ⟨by rfl, ?_⟩) (by assumption) ?_
              · intro wx hs1; go_simp
              (try simp only [Act.put, List.getElem_toArray, List.getElem_cons_succ, List.getElem_cons_zero, List.setIfInBounds_toArray, List.set_cons_zero, List.set_cons_succ])
              refine wpAnyH_take (i := 7) (v := .bool false) rfl (by kernel_rfl) (by kernel_rfl) (by kernel_rfl) (fun _ _ _ h => h) (Or.inl ⟨by rfl, ?_⟩) (by assumption) ?_
              · intro wx hs1; go_simp
              (try simp only [Act.put, List.getElem_toArray, List.getElem_cons_succ, List.getElem_cons_zero, List.setIfInBounds_toArray, List.set_cons_zero, List.set_cons_succ])
              refine wpAnyH_take (i := 8) (v := .bool false) rfl (by kernel_rfl) (by kernel_rfl) (by kernel_rfl) (fun _ _ _ h => h) (Or.inl ⟨by rfl, ?_⟩) (by assumption) ?_
              · intro wx hs1; go_simp
              (try simp only [Act.put, List.getElem_toArray, List.getElem_cons_succ, List.getElem_cons_zero, List.setIfInBounds_toArray, List.set_cons_zero, List.set_cons_succ])
              refine wpAnyH_take (i := 9) (v := .pointer (some ⟨b15, 0, none⟩)) rfl (by kernel_rfl) (by kernel_rfl) (by kernel_rfl) (fun _ _ _ h => h) (Or.inl ⟨by rfl, ?_⟩) (by assumption) ?_
              · intro wx hs1; go_simp
              (try simp only [Act.put, List.getElem_toArray, List.getElem_cons_succ, List.getElem_cons_zero, List.setIfInBounds_toArray, List.set_cons_zero, List.set_cons_succ])
              refine wpAnyH_take (i := 10) (v := .agg #[.int .i64 Y.ar, .int .i64 Y.ap]) rfl (by kernel_rfl) (by kernel_rfl) (by kernel_rfl) (fun _ _ _ h => h) (Or.inl ⟨by rfl, ?_⟩) (by assumption) ?_
              · intro wx hs1; obtain ⟨⟨s0, s1⟩, ⟨p0, p1, p2, p3, p4, p5⟩, ⟨t0, t1⟩, ⟨q0, q1, q2, q3, q4, q5⟩, ⟨x0, x1, x2, x3, x4, x5, x6⟩⟩ := hs1; go_simp
              (try simp only [Act.put, List.getElem_toArray, List.getElem_cons_succ, List.getElem_cons_zero, List.setIfInBounds_toArray, List.set_cons_zero, List.set_cons_succ])
              refine wpAnyH_take (i := 11) (v := .pointer (some ⟨b11, 0, none⟩)) rfl (by kernel_rfl) (by kernel_rfl) (by kernel_rfl) (fun _ _ _ h => h) (Or.inl ⟨by rfl, ?_⟩) (by assumption) ?_
              · intro wx hs1; go_simp
              (try simp only [Act.put, List.getElem_toArray, List.getElem_cons_succ, List.getElem_cons_zero, List.setIfInBounds_toArray, List.set_cons_zero, List.set_cons_succ])
              refine wpAnyH_take (i := 12) (v := .agg #[.int .i64 X.ar, .int .i64 X.ap]) rfl (by kernel_rfl) (by kernel_rfl) (by kernel_rfl) (fun _ _ _ h => h) (Or.inl ⟨by rfl, ?_⟩) (by assumption) ?_
              · intro wx hs1; obtain ⟨⟨s0, s1⟩, ⟨p0, p1, p2, p3, p4, p5⟩, ⟨t0, t1⟩, ⟨q0, q1, q2, q3, q4, q5⟩, ⟨x0, x1, x2, x3, x4, x5, x6⟩⟩ := hs1; go_simp
              (try simp only [Act.put, List.getElem_toArray, List.getElem_cons_succ, List.getElem_cons_zero, List.setIfInBounds_toArray, List.set_cons_zero, List.set_cons_succ])
              refine wpAnyH_ready (rs := [13]) (by kernel_rfl) (by simp) (AllReadyH.cons rfl (fun K hK => ?_) AllReadyH.nil)
              go_simp
              go_at_call 16
              (with_reducible refine (HL2.out _).mono ?_)
              rintro e v2 ⟨rfl, hb⟩
              try dsimp only
              have HC2 : Hid (Below w9.heap.size w9 v2) := Lib.hid (HC1.out.trans (hb.mono HC1.out.size)); clear hb; have hS := HS9.out _ HC2.out
              refine hK.out _ _ hS (fun _ => ?_)
              clear hK K
              (try simp only [Act.put, List.getElem_toArray, List.getElem_cons_succ, List.getElem_cons_zero, List.setIfInBounds_toArray, List.set_cons_zero, List.set_cons_succ])
              refine wpAnyH_take (i := 14) (v := .bool false) rfl (by kernel_rfl) (by kernel_rfl) (by kernel_rfl) (fun _ _ _ h => h) (Or.inl ⟨by rfl, ?_⟩) (by assumption) ?_
              · intro wx hs1; go_simp
              (try simp only [Act.put, List.getElem_toArray, List.getElem_cons_succ, List.getElem_cons_zero, List.setIfInBounds_toArray, List.set_cons_zero, List.set_cons_succ])
              refine wpAnyH_take (i := 15) (v := .bool false) rfl (by kernel_rfl) (by kernel_rfl) (by kernel_rfl) (fun _ _ _ h => h) (Or.inl ⟨by rfl, ?_⟩) (by assumption) ?_
              · intro wx hs1; go_simp
              (try simp only [Act.put, List.getElem_toArray, List.getElem_cons_succ, List.getElem_cons_zero, List.setIfInBounds_toArray, List.set_cons_zero, List.set_cons_succ])
              refine wpAnyH_take (i := 16) (v := .bool false) rfl (by kernel_rfl) (by kernel_rfl) (by kernel_rfl) (fun _ _ _ h => h) (Or.inl ⟨by rfl, ?_⟩) (by assumption) ?_
              · intro wx hs1; go_simp
              (try simp only [Act.put, List.getElem_toArray, List.getElem_cons_succ, List.getElem_cons_zero, List.setIfInBounds_toArray, List.set_cons_zero, List.set_cons_succ])
              refine wpAnyH_take (i := 17) (v := .bool false) rfl (by kernel_rfl) (by kernel_rfl) (by kernel_rfl) (fun _ _ _ h => h) (Or.inl ⟨by rfl, ?_⟩) (by assumption) ?_
              · intro wx hs1; go_simp
              (try simp only [Act.put, List.getElem_toArray, List.getElem_cons_succ, List.getElem_cons_zero, List.setIfInBounds_toArray, List.set_cons_zero, List.set_cons_succ])
              refine wpAnyH_take (i := 18) (v := .bool true) rfl (by kernel_rfl) (by kernel_rfl) (by kernel_rfl) (fun _ _ _ h => h) (Or.inl ⟨by rfl, ?_⟩) (by assumption) ?_
              · intro wx hs1; go_simp
              (try simp only [Act.put, List.getElem_toArray, List.getElem_cons_succ, List.getElem_cons_zero, List.setIfInBounds_toArray, List.set_cons_zero, List.set_cons_succ])
              refine wpAnyH_take (i := 19) (v := .bool true) rfl (by kernel_rfl) (by kernel_rfl) (by kernel_rfl) (fun _ _ _ h => h) (Or.inl ⟨by rfl, ?_⟩) (by assumption) ?_
              · intro wx hs1; go_simp
              (try simp only [Act.put, List.getElem_toArray, List.getElem_cons_succ, List.getElem_cons_zero, List.setIfInBounds_toArray, List.set_cons_zero, List.set_cons_succ])
              refine wpAnyH_take (i := 20) (v := .agg #[.int .i64 N.pr, .int .i64 N.pp]) rfl (by kernel_rfl) (by kernel_rfl) (by kernel_rfl) (fun _ _ _ h => h) (Or.inl ⟨by rfl, ?_⟩) (by assumption) ?_
              · intro wx hs1; obtain ⟨⟨s0, s1⟩, ⟨p0, p1, p2, p3, p4, p5⟩, ⟨t0, t1⟩, ⟨q0, q1, q2, q3, q4, q5⟩, ⟨x0, x1, x2, x3, x4, x5, x6⟩⟩ := hs1; go_simp
              (try simp only [Act.put, List.getElem_toArray, List.getElem_cons_succ, List.getElem_cons_zero, List.setIfInBounds_toArray, List.set_cons_zero, List.set_cons_succ])
              refine wpAnyH_take (i := 21) (v := .pointer (some ⟨b15, 0, none⟩)) rfl (by kernel_rfl) (by kernel_rfl) (by kernel_rfl) (fun _ _ _ h => h) (Or.inl ⟨by rfl, ?_⟩) (by assumption) ?_
              · intro wx hs1; go_simp
              (try simp only [Act.put, List.getElem_toArray, List.getElem_cons_succ, List.getElem_cons_zero, List.setIfInBounds_toArray, List.set_cons_zero, List.set_cons_succ])
              refine wpAnyH_take (i := 22) (v := .agg #[.int .i64 Y.ar, .int .i64 Y.ap]) rfl (by kernel_rfl) (by kernel_rfl) (by kernel_rfl) (fun _ _ _ h => h) (Or.inl ⟨by rfl, ?_⟩) (by assumption) ?_
              · intro wx hs1; obtain ⟨⟨s0, s1⟩, ⟨p0, p1, p2, p3, p4, p5⟩, ⟨t0, t1⟩, ⟨q0, q1, q2, q3, q4, q5⟩, ⟨x0, x1, x2, x3, x4, x5, x6⟩⟩ := hs1; go_simp
              (try simp only [Act.put, List.getElem_toArray, List.getElem_cons_succ, List.getElem_cons_zero, List.setIfInBounds_toArray, List.set_cons_zero, List.set_cons_succ])
              refine wpAnyH_ready (rs := [23]) (by kernel_rfl) (by simp) (AllReadyH.cons rfl (fun K hK => ?_) AllReadyH.nil)
              go_simp
              go_at_call 16
              (with_reducible refine (HL3.out _).mono ?_)
              rintro e v3 ⟨rfl, hb⟩
              try dsimp only
              have HC3 : Hid (Below w9.heap.size w9 v3) := Lib.hid (HC2.out.trans (hb.mono HC2.out.size)); clear hb; have hS := HS9.out _ HC3.out
              refine hK.out _ _ hS (fun _ => ?_)
              clear hK K
              (try simp only [Act.put, List.getElem_toArray, List.getElem_cons_succ, List.getElem_cons_zero, List.setIfInBounds_toArray, List.set_cons_zero, List.set_cons_succ])
              refine wpAnyH_take (i := 24) (v := .bool false) rfl (by kernel_rfl) (by kernel_rfl) (by kernel_rfl) (fun _ _ _ h => h) (Or.inl ⟨by rfl, ?_⟩) (by assumption) ?_
              · intro wx hs1; go_simp
              (try simp only [Act.put, List.getElem_toArray, List.getElem_cons_succ, List.getElem_cons_zero, List.setIfInBounds_toArray, List.set_cons_zero, List.set_cons_succ])
              refine wpAnyH_take (i := 25) (v := .bool false) rfl (by kernel_rfl) (by kernel_rfl) (by kernel_rfl) (fun _ _ _ h => h) (Or.inl ⟨by rfl, ?_⟩) (by assumption) ?_
              · intro wx hs1; go_simp
              (try simp only [Act.put, List.getElem_toArray, List.getElem_cons_succ, List.getElem_cons_zero, List.setIfInBounds_toArray, List.set_cons_zero, List.set_cons_succ])
              refine wpAnyH_take (i := 26) (v := .bool false) rfl (by kernel_rfl) (by kernel_rfl) (by kernel_rfl) (fun _ _ _ h => h) (Or.inl ⟨by rfl, ?_⟩) (by assumption) ?_
              · intro wx hs1; go_simp
              (try simp only [Act.put, List.getElem_toArray, List.getElem_cons_succ, List.getElem_cons_zero, List.setIfInBounds_toArray, List.set_cons_zero, List.set_cons_succ])
              refine wpAnyH_take (i := 27) (v := .bool true) rfl (by kernel_rfl) (by kernel_rfl) (by kernel_rfl) (fun _ _ _ h => h) (Or.inl ⟨by rfl, ?_⟩) (by assumption) ?_
              · intro wx hs1; go_simp
              (try simp only [Act.put, List.getElem_toArray, List.getElem_cons_succ, List.getElem_cons_zero, List.setIfInBounds_toArray, List.set_cons_zero, List.set_cons_succ])
              refine wpAnyH_take (i := 28) (v := .bool true) rfl (by kernel_rfl) (by kernel_rfl) (by kernel_rfl) (fun _ _ _ h => h) (Or.inl ⟨by rfl, ?_⟩) (by assumption) ?_
              · intro wx hs1; go_simp
              (try simp only [Act.put, List.getElem_toArray, List.getElem_cons_succ, List.getElem_cons_zero, List.setIfInBounds_toArray, List.set_cons_zero, List.set_cons_succ])
              refine wpAnyH_take (i := 29) (v := .slice (some ⟨b, off, none⟩) n cap) rfl (by kernel_rfl) (by kernel_rfl) (by kernel_rfl) (fun _ _ _ h => h) (Or.inl ⟨by rfl, ?_⟩) (by assumption) ?_
              · intro wx hs1; go_simp
              (try simp only [Act.put, List.getElem_toArray, List.getElem_cons_succ, List.getElem_cons_zero, List.setIfInBounds_toArray, List.set_cons_zero, List.set_cons_succ])
              refine wpAnyH_take (i := 30) (v := .int .i64 (k : Int)) rfl (by kernel_rfl) (by kernel_rfl) (by kernel_rfl) (fun _ _ _ h => h) (Or.inl ⟨by rfl, ?_⟩) (by assumption) ?_
              · intro wx hs1; go_simp
              (try simp only [Act.put, List.getElem_toArray, List.getElem_cons_succ, List.getElem_cons_zero, List.setIfInBounds_toArray, List.set_cons_zero, List.set_cons_succ])
              refine wpAnyH_take (i := 31) (v := .pointer (some ⟨b, off + k * 7, none⟩)) rfl (by kernel_rfl) (by kernel_rfl) (by kernel_rfl) (fun _ _ _ h => h) (Or.inl ⟨by rfl, ?_⟩) (by assumption) ?_
              · intro wx hs1; go_simp
              (try simp only [Act.put, List.getElem_toArray, List.getElem_cons_succ, List.getElem_cons_zero, List.setIfInBounds_toArray, List.set_cons_zero, List.set_cons_succ])
              refine wpAnyH_take (i := 32) (v := .pointer (some ⟨b, off + k * 7 + 1, none⟩)) rfl (by kernel_rfl) (by kernel_rfl) (by kernel_rfl) (fun _ _ _ h => h) (Or.inl ⟨by rfl, ?_⟩) (by assumption) ?_
              · intro wx hs1; go_simp
              (try simp only [Act.put, List.getElem_toArray, List.getElem_cons_succ, List.getElem_cons_zero, List.setIfInBounds_toArray, List.set_cons_zero, List.set_cons_succ])
              refine wpAnyH_take (i := 33) (v := .agg #[.int .i64 y.r, .int .i64 y.q]) rfl (by kernel_rfl) (by kernel_rfl) (by kernel_rfl) (fun _ _ _ h => h) (Or.inl ⟨by rfl, ?_⟩) (by assumption) ?_
              · intro wx hs1; obtain ⟨⟨s0, s1⟩, ⟨p0, p1, p2, p3, p4, p5⟩, ⟨t0, t1⟩, ⟨q0, q1, q2, q3, q4, q5⟩, ⟨x0, x1, x2, x3, x4, x5, x6⟩⟩ := hs1; go_simp
              (try simp only [Act.put, List.getElem_toArray, List.getElem_cons_succ, List.getElem_cons_zero, List.setIfInBounds_toArray, List.set_cons_zero, List.set_cons_succ])
              refine wpAnyH_take (i := 34) (v := .agg #[.int .i64 M.pr, .int .i64 M.pp]) rfl (by kernel_rfl) (by kernel_rfl) (by kernel_rfl) (fun _ _ _ h => h) (Or.inl ⟨by rfl, ?_⟩) (by assumption) ?_
              · intro wx hs1; obtain ⟨⟨s0, s1⟩, ⟨p0, p1, p2, p3, p4, p5⟩, ⟨t0, t1⟩, ⟨q0, q1, q2, q3, q4, q5⟩, ⟨x0, x1, x2, x3, x4, x5, x6⟩⟩ := hs1; go_simp
              (try simp only [Act.put, List.getElem_toArray, List.getElem_cons_succ, List.getElem_cons_zero, List.setIfInBounds_toArray, List.set_cons_zero, List.set_cons_succ])
              refine wpAnyH_ready (rs := [35]) (by kernel_rfl) (by simp) (AllReadyH.cons rfl (fun K hK => ?_) AllReadyH.nil)
              go_simp
              go_at_call 16
              (with_reducible refine (HL4.out _).mono ?_)
              rintro e v4 ⟨rfl, hb⟩
              try dsimp only
              have HC4 : Hid (Below w9.heap.size w9 v4) := Lib.hid (HC3.out.trans (hb.mono HC3.out.size)); clear hb; have hS := HS9.out _ HC4.out
              refine hK.out _ _ hS (fun _ => ?_)
              clear hK K
              (try simp only [Act.put, List.getElem_toArray, List.getElem_cons_succ, List.getElem_cons_zero, List.setIfInBounds_toArray, List.set_cons_zero, List.set_cons_succ])
              refine wpAnyH_take (i := 36) (v := .bool false) rfl (by kernel_rfl) (by kernel_rfl) (by kernel_rfl) (fun _ _ _ h => h) (Or.inl ⟨by rfl, ?_⟩) (by assumption) ?_
              · intro wx hs1; go_simp
              (try simp only [Act.put, List.getElem_toArray, List.getElem_cons_succ, List.getElem_cons_zero, List.setIfInBounds_toArray, List.set_cons_zero, List.set_cons_succ])
              refine wpAnyH_take (i := 37) (v := .bool false) rfl (by kernel_rfl) (by kernel_rfl) (by kernel_rfl) (fun _ _ _ h => h) (Or.inl ⟨by rfl, ?_⟩) (by assumption) ?_
              · intro wx hs1; go_simp
              (try simp only [Act.put, List.getElem_toArray, List.getElem_cons_succ, List.getElem_cons_zero, List.setIfInBounds_toArray, List.set_cons_zero, List.set_cons_succ])
              refine wpAnyH_take (i := 38) (v := .bool false) rfl (by kernel_rfl) (by kernel_rfl) (by kernel_rfl) (fun _ _ _ h => h) (Or.inl ⟨by rfl, ?_⟩) (by assumption) ?_
              · intro wx hs1; go_simp
              (try simp only [Act.put, List.getElem_toArray, List.getElem_cons_succ, List.getElem_cons_zero, List.setIfInBounds_toArray, List.set_cons_zero, List.set_cons_succ])
              refine wpAnyH_take (i := 39) (v := .bool true) rfl (by kernel_rfl) (by kernel_rfl) (by kernel_rfl) (fun _ _ _ h => h) (Or.inl ⟨by rfl, ?_⟩) (by assumption) ?_
              · intro wx hs1; go_simp
              (try simp only [Act.put, List.getElem_toArray, List.getElem_cons_succ, List.getElem_cons_zero, List.setIfInBounds_toArray, List.set_cons_zero, List.set_cons_succ])
              refine wpAnyH_take (i := 40) (v := .bool false) rfl (by kernel_rfl) (by kernel_rfl) (by kernel_rfl) (fun _ _ _ h => h) (Or.inl ⟨by rfl, ?_⟩) (by assumption) ?_
              · intro wx hs1; go_simp
              (try simp only [Act.put, List.getElem_toArray, List.getElem_cons_succ, List.getElem_cons_zero, List.setIfInBounds_toArray, List.set_cons_zero, List.set_cons_succ])
              refine wpAnyH_take (i := 41) (v := .bool false) rfl (by kernel_rfl) (by kernel_rfl) (by kernel_rfl) (fun _ _ _ h => h) (Or.inl ⟨by rfl, ?_⟩) (by assumption) ?_
              · intro wx hs1; go_simp
              (try simp only [Act.put, List.getElem_toArray, List.getElem_cons_succ, List.getElem_cons_zero, List.setIfInBounds_toArray, List.set_cons_zero, List.set_cons_succ])
              refine wpAnyH_take (i := 42) (v := undef) rfl (by kernel_rfl) (by kernel_rfl) (by kernel_rfl) (fun _ _ _ h => h) (Or.inr ⟨by rfl, rfl⟩) (by assumption) ?_
              (try simp only [Act.put, List.getElem_toArray, List.getElem_cons_succ, List.getElem_cons_zero, List.setIfInBounds_toArray, List.set_cons_zero, List.set_cons_succ])
              refine wpAnyH_take (i := 43) (v := undef) rfl (by kernel_rfl) (by kernel_rfl) (by kernel_rfl) (fun _ _ _ h => h) (Or.inr ⟨by rfl, rfl⟩) (by assumption) ?_
              (try simp only [Act.put, List.getElem_toArray, List.getElem_cons_succ, List.getElem_cons_zero, List.setIfInBounds_toArray, List.set_cons_zero, List.set_cons_succ])
              refine wpAnyH_take (i := 44) (v := undef) rfl (by kernel_rfl) (by kernel_rfl) (by kernel_rfl) (fun _ _ _ h => h) (Or.inr ⟨by rfl, rfl⟩) (by assumption) ?_
              (try simp only [Act.put, List.getElem_toArray, List.getElem_cons_succ, List.getElem_cons_zero, List.setIfInBounds_toArray, List.set_cons_zero, List.set_cons_succ])
              refine wpAnyH_take (i := 45) (v := undef) rfl (by kernel_rfl) (by kernel_rfl) (by kernel_rfl) (fun _ _ _ h => h) (Or.inr ⟨by rfl, rfl⟩) (by assumption) ?_
              (try simp only [Act.put, List.getElem_toArray, List.getElem_cons_succ, List.getElem_cons_zero, List.setIfInBounds_toArray, List.set_cons_zero, List.set_cons_succ])
              refine wpAnyH_take (i := 46) (v := undef) rfl (by kernel_rfl) (by kernel_rfl) (by kernel_rfl) (fun _ _ _ h => h) (Or.inr ⟨by rfl, rfl⟩) (by assumption) ?_
              (try simp only [Act.put, List.getElem_toArray, List.getElem_cons_succ, List.getElem_cons_zero, List.setIfInBounds_toArray, List.set_cons_zero, List.set_cons_succ])
              refine wpAnyH_take (i := 47) (v := undef) rfl (by kernel_rfl) (by kernel_rfl) (by kernel_rfl) (fun _ _ _ h => h) (Or.inr ⟨by rfl, rfl⟩) (by assumption) ?_
              (try simp only [Act.put, List.getElem_toArray, List.getElem_cons_succ, List.getElem_cons_zero, List.setIfInBounds_toArray, List.set_cons_zero, List.set_cons_succ])
              refine wpAnyH_take (i := 48) (v := undef) rfl (by kernel_rfl) (by kernel_rfl) (by kernel_rfl) (fun _ _ _ h => h) (Or.inr ⟨by rfl, rfl⟩) (by assumption) ?_
              (try simp only [Act.put, List.getElem_toArray, List.getElem_cons_succ, List.getElem_cons_zero, List.setIfInBounds_toArray, List.set_cons_zero, List.set_cons_succ])
              refine wpAnyH_take (i := 49) (v := undef) rfl (by kernel_rfl) (by kernel_rfl) (by kernel_rfl) (fun _ _ _ h => h) (Or.inr ⟨by rfl, rfl⟩) (by assumption) ?_
              (try simp only [Act.put, List.getElem_toArray, List.getElem_cons_succ, List.getElem_cons_zero, List.setIfInBounds_toArray, List.set_cons_zero, List.set_cons_succ])
              refine wpAnyH_take (i := 50) (v := .bool false) rfl (by kernel_rfl) (by kernel_rfl) (by kernel_rfl) (fun _ _ _ h => h) (Or.inl ⟨by rfl, ?_⟩) (by assumption) ?_
              · intro wx hs1; go_simp
              (try simp only [Act.put, List.getElem_toArray, List.getElem_cons_succ, List.getElem_cons_zero, List.setIfInBounds_toArray, List.set_cons_zero, List.set_cons_succ])
              refine wpAnyH_take (i := 51) (v := .bool false) rfl (by kernel_rfl) (by kernel_rfl) (by kernel_rfl) (fun _ _ _ h => h) (Or.inl ⟨by rfl, ?_⟩) (by assumption) ?_
              · intro wx hs1; go_simp
              (try simp only [Act.put, List.getElem_toArray, List.getElem_cons_succ, List.getElem_cons_zero, List.setIfInBounds_toArray, List.set_cons_zero, List.set_cons_succ])
              refine wpAnyH_done (by kernel_rfl) ?_ _
              go_wp2_with fail
              go_roundw
              case rel => exact ⟨k + 1, by omega, by go_num, Lib.hid (by rw [HST.out]; exact ⟨AAt.keep HA9.out HC4.out, HBW.out.trans (HC4.out.mono HBW.out.size)⟩)⟩
              case measure => simp [RowKit.intOf]; omega
    · obtain rfl : k = n := by omega
      have hwk := works_any wr (HL.out.keep HCR.out)
      clear hM
      go_wp2_with (go_at_call 6; (with_reducible refine hwk.mono ?_); clear hwk; rintro e w25 ⟨rfl, hb25⟩)
      go_ret
      exact ⟨rfl, HCR.out.trans (hb25.mono HCR.out.size)⟩
theorem Sm.rises_law (c s : Int) (A : Option Addr) (n cap : Nat) (xs : List XV) (w : World) (hn : xs.length = n) (hnc : n ≤ cap) (hc9 : cap ≤ 9223372036854775807) (hx : RdX w A xs) (hcm : ∀ y ∈ xs, XV.came y) (hL : LaysT w) : Calls Tryd.prog 4 #[.int .i64 c, .int .i64 s, .slice A n cap] w fun e w' => e = .returned (.bool true) ∧ Below w.heap.size w w' := by
  cases hf : fewB xs 40 with
  | false => exact rises_many c s A n cap xs w hn hnc hc9 hx hcm hL hf
  | true =>
    by_cases hv : chB c = true ∧ slB s = true
    · exact rises_good c s A n cap xs w hn hnc hc9 hx hcm hL hf hv.1 hv.2
    · exact rises_err c s A n cap xs w hn hnc hc9 hx hcm hL hf hv
end Go.Proofs
