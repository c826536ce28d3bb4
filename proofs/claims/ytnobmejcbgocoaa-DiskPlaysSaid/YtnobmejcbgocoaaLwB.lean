/-
  A disk that is to stop does so many steps, and no more: the walk of DiskStops. Conditions: as the theorem names them.
-/
import Derived.Test.YtnobmejcbgocoaaLwA
namespace Go.Proofs
open Go Go.RowKit Sm Go.Lib Go.Maps Go.WideMaps
attribute [local go_sem] Oper.semAt_some
theorem Sm.len_insL (t : List (BitVec 8) × List (BitVec 8) × Nat) : ∀ L, (insL t L).length = L.length + 1
  | [] => rfl
  | g :: r => by
    unfold insL
    split
    · simp
    · rw [List.length_cons, len_insL t r, List.length_cons]
theorem Sm.len_delL (nm : List (BitVec 8)) (L : List (List (BitVec 8) × List (BitVec 8) × Nat)) : (delL nm L).length ≤ L.length := List.length_filter_le _ _
theorem Sm.len_putL (t : List (BitVec 8) × List (BitVec 8) × Nat) (L : List (List (BitVec 8) × List (BitVec 8) × Nat)) : (putL t L).length ≤ L.length + 1 := by
  unfold putL
  rw [len_insL]
  have := len_delL t.1 L
  omega
/-- a step is refused, or it is one -/
theorem Sm.stepM_cases (s : DSt) (L : List (List (BitVec 8) × List (BitVec 8) × Nat)) (y : ActV) :
    (∃ e, stepM s L y = (s, L, e) ∧ (e = 170 ∨ e = 171 ∨ e = 5 ∨ e = 4)) ∨ ∃ L2, stepM s L y = doneM s L L2 ∧ L2.length ≤ L.length + 1 := by
  unfold stepM
  split
  · unfold appM
    split
    · exact .inl ⟨_, rfl, .inl rfl⟩
    · split
      · exact .inl ⟨_, rfl, .inr (.inl rfl)⟩
      · exact .inr ⟨_, rfl, len_putL _ _⟩
  · split
    · unfold synM
      split
      · exact .inl ⟨_, rfl, .inl rfl⟩
      · split
        · exact .inl ⟨_, rfl, .inr (.inr (.inl rfl))⟩
        · exact .inr ⟨_, rfl, len_putL _ _⟩
    · split
      · unfold cutM
        split
        · exact .inl ⟨_, rfl, .inl rfl⟩
        · split
          · exact .inl ⟨_, rfl, .inr (.inr (.inl rfl))⟩
          · split
            · exact .inl ⟨_, rfl, .inr (.inr (.inr rfl))⟩
            · exact .inr ⟨_, rfl, len_putL _ _⟩
      · split
        · unfold remM
          split
          · exact .inl ⟨_, rfl, .inl rfl⟩
          · split
            · exact .inl ⟨_, rfl, .inr (.inr (.inl rfl))⟩
            · exact .inr ⟨_, rfl, Nat.le_succ_of_le (len_delL _ _)⟩
        · unfold renM
          split
          · exact .inl ⟨_, rfl, .inl rfl⟩
          · split
            · exact .inl ⟨_, rfl, .inr (.inr (.inl rfl))⟩
            · refine .inr ⟨_, rfl, ?_⟩
              have h1 := len_putL (strL y.to_, (by assumption : List (BitVec 8) × List (BitVec 8) × Nat).2.1, (by assumption : List (BitVec 8) × List (BitVec 8) × Nat).2.2) (delL (strL y.name) L)
              have h2 := len_delL (strL y.name) L
              exact Nat.le_trans h1 (by omega)
/-- how far a disk that is to stop is -/
def Sm.StopS (a dn : Nat) (s : DSt) : Prop := (dn ≤ a ∧ s = ⟨true, (a : Int) - dn, false, 60⟩) ∨ (dn = a ∧ s = ⟨false, 0, true, 60⟩)
structure Sm.StopI (w : World) (n0 p a k dn : Nat) (W : World) : Prop where
  st : ∃ s L, DN n0 p W s L ∧ L.length ≤ k ∧ StopS a dn s
  b : Below n0 w W
/-- what a step does to that -/
theorem Sm.stop_step {a dn : Nat} {s : DSt} {L : List (List (BitVec 8) × List (BitVec 8) × Nat)} {y : ActV} {r : DSt × List (List (BitVec 8) × List (BitVec 8) × Nat) × Int} (h : StopS a dn s) (hr : stepM s L y = r) :
    r.2.1.length ≤ L.length + 1 ∧ ((r.2.2 = 0 ∧ r.1.dead = false ∧ dn + 1 ≤ a ∧ StopS a (dn + 1) r.1) ∨ (r.2.2 = 172 ∧ r.1.dead = true ∧ dn = a ∧ StopS a dn r.1) ∨
      ((r.2.2 = 170 ∨ r.2.2 = 171 ∨ r.2.2 = 5 ∨ r.2.2 = 4) ∧ StopS a dn r.1 ∧ ((r.1.dead = true ∧ dn = a) ∨ r.1.dead = false))) := by
  subst hr
  rcases stepM_cases s L y with ⟨e, h1, h2⟩ | ⟨L2, h1, h2⟩
  · rw [h1]
    refine ⟨Nat.le_succ _, .inr (.inr ⟨h2, h, ?_⟩)⟩
    rcases h with ⟨_, rfl⟩ | ⟨h3, rfl⟩
    · exact .inr rfl
    · exact .inl ⟨rfl, h3⟩
  · rw [h1]
    unfold doneM
    rcases h with ⟨h3, rfl⟩ | ⟨h3, rfl⟩
    · by_cases e : dn = a
      · have hn : nextD ⟨true, (a : Int) - dn, false, 60⟩ = ⟨false, 0, true, 60⟩ := by
          unfold nextD nextS
          rw [if_neg (show ¬ (true = false) by decide), if_pos (show (a : Int) - dn = 0 by omega)]
        rw [hn, if_pos rfl]
        exact ⟨Nat.le_succ _, .inr (.inl ⟨rfl, rfl, e, .inr ⟨e, rfl⟩⟩)⟩
      · have hn : nextD ⟨true, (a : Int) - dn, false, 60⟩ = ⟨true, (a : Int) - ((dn + 1 : Nat) : Int), false, 60⟩ := by
          unfold nextD nextS
          rw [if_neg (show ¬ (true = false) by decide), if_neg (show ¬ (a : Int) - dn = 0 by omega)]
          show (⟨true, (a : Int) - dn - 1, false, 60⟩ : DSt) = _
          congr 1
          omega
        rw [hn, if_neg (show ¬ (false = true) by decide)]
        exact ⟨h2, .inl ⟨rfl, rfl, by omega, .inl ⟨by omega, rfl⟩⟩⟩
    · have hn : nextD ⟨false, 0, true, 60⟩ = ⟨false, 0, true, 60⟩ := rfl
      rw [hn, if_pos rfl]
      exact ⟨Nat.le_succ _, .inr (.inl ⟨rfl, rfl, h3, .inr ⟨h3, rfl⟩⟩)⟩
set_option maxRecDepth 100000 in
set_option maxHeartbeats 4000000 in
theorem Sm.stops_law (A : Option Addr) (n c : Nat) (xs : List ActV) (a : Int) (w : World) (hn : xs.length = n) (hc : n ≤ c) (hc2 : c ≤ 9223372036854775807) (hR : RdActs w A xs) (hcame : ∀ x ∈ xs, x.came w) (ha0 : -9223372036854775808 ≤ a) (ha1 : a ≤ 9223372036854775807) :
    Calls Try.prog 7 #[.slice A n c, .int .i64 a] w fun e w' => e = .returned (.bool true) ∧ Below w.heap.size w w' := by
  have hfew := few_any A n c xs 30 w hR hn hc hc2 hcame
  have hw0 := works_any w
  have HR := Lib.hid hR
  have HN := Lib.hid hn
  have HC := Lib.hid hcame
  clear hR hn hcame
  cases hf : fewM xs 30 with
  | false =>
    rw [hf] at hfew
    go_enter Try.func7, Try.ntmps7
    go_wp2_with (first | (go_at_call 9; (with_reducible refine hfew.mono ?_); rintro e w' ⟨rfl, rfl⟩) | (go_at_call 10; (with_reducible refine hw0.mono ?_); rintro e w' ⟨rfl, hb⟩))
    go_ret
    exact ⟨rfl, hb⟩
  | true =>
    rw [hf] at hfew
    by_cases hneg : a < 0
    · go_enter Try.func7, Try.ntmps7
      go_wp2_with (first | (go_at_call 9; (with_reducible refine hfew.mono ?_); rintro e w' ⟨rfl, rfl⟩) | (go_at_call 10; (with_reducible refine hw0.mono ?_); rintro e w' ⟨rfl, hb⟩))
      go_ret
      exact ⟨rfl, hb⟩
    by_cases hbig : 40 < a
    · go_enter Try.func7, Try.ntmps7
      go_wp2_with (first | (go_at_call 9; (with_reducible refine hfew.mono ?_); rintro e w' ⟨rfl, rfl⟩) | (go_at_call 10; (with_reducible refine hw0.mono ?_); rintro e w' ⟨rfl, hb⟩))
      go_ret
      exact ⟨rfl, hb⟩
    obtain ⟨an, rfl⟩ : ∃ an : Nat, a = (an : Int) := ⟨a.toNat, by omega⟩
    have hnew := new_M 60 w (by decide) (by decide)
    obtain ⟨n0, hn0⟩ : ∃ n0, w.heap.size = n0 := ⟨_, rfl⟩
    obtain ⟨p, hp⟩ : ∃ p, n0 + 1 = p := ⟨_, rfl⟩
    rw [hn0, hp] at hnew
    rw [hn0]
    have HN0 := Lib.hid hn0
    have hfs : (∀ x ∈ xs, smallA x = true) ∧ xs.length ≤ 30 := by
      unfold fewM at hf
      simp only [Bool.and_eq_true, decide_eq_true_eq] at hf
      exact ⟨List.all_eq_true.1 hf.1, by omega⟩
    have HFS := Lib.hid hfs
    have hn30 : (n : Int) ≤ 30 := by have := HN.out; omega
    clear hn0 hp hw0 hfs hf
    go_enter Try.func7, Try.ntmps7
    go_upto_region 4 with (first | (go_at_call 9; (with_reducible refine hfew.mono ?_); clear hfew; rintro e w' ⟨rfl, rfl⟩) | (go_at_call 30; (with_reducible refine hnew.mono ?_); clear hnew; rintro e w1 ⟨rfl, hD, hb1⟩))
    have hD1 : DN n0 p w1 ⟨false, 0, false, 60⟩ [] := ⟨hD, by have := hb1.size; have := HN0.out; omega⟩
    have hst := stop_lit (an : Int) w1 hD1 (by omega) (⟨true, (an : Int), false, 60⟩, 0) (by unfold stoM; rw [if_neg (by omega), if_neg (by decide)])
    have HB1 := Lib.hid hb1
    clear hD hD1 hb1
    go_wp2_with (go_at_call 21; (with_reducible refine hst.mono ?_); clear hst; rintro e w2 ⟨rfl, hD2, hb2⟩)
    have hI0 : StopI w n0 p an 0 0 w2 := ⟨⟨_, _, hD2, Nat.le_refl _, .inl ⟨Nat.zero_le _, by simp⟩⟩, HB1.out.trans hb2⟩
    have HI0 := Lib.hid hI0
    clear hI0 hD2 hb2
    go_loopw [8, 9] (fun v8 v9 wr => ∃ k dn : Nat, k ≤ n ∧ dn ≤ an ∧ v8 = .int .i64 (dn : Int) ∧ v9 = .int .i64 (k : Int) ∧ Hid (StopI w n0 p an k dn wr)) (fun _ v9 _ => n - (RowKit.intOf v9).toNat)
    case atStart => exact ⟨0, 0, Nat.zero_le _, Nat.zero_le _, rfl, rfl, HI0⟩
    case round =>
      obtain ⟨wo, rfl⟩ : ∃ wo : World, wo = wr := ⟨_, rfl⟩
      obtain ⟨k, dn, hk, hdn, rfl, rfl, HI⟩ := hrel
      clear HI0
      obtain ⟨⟨s, L, hDN, hLk, hS⟩, hbw⟩ := HI.out
      have hsz := hDN.2
      by_cases hlt : k < n
      · have hkx : k < xs.length := by rw [HN.out]; exact hlt
        have hbw0 : Below w.heap.size w wo := by rw [HN0.out]; exact hbw
        obtain ⟨b, off, rfl, hb, hcl⟩ := (HR.out.keep hbw0) (by omega)
        obtain ⟨X, hX⟩ : ∃ X, xs[k] = X := ⟨_, rfl⟩
        have hXm : X ∈ xs := by rw [← hX]; exact List.getElem_mem hkx
        have hcl2 := hcl k X (by rw [List.getElem?_eq_getElem hkx, hX])
        have q0 : wo.cell? ⟨b, off + k * 8, none⟩ = some (.int .i64 X.what) := hcl2 0 _ rfl
        have q1 := hcl2 1 _ rfl
        have q2 := hcl2 2 _ rfl
        have q3 := hcl2 3 _ rfl
        have q4 := hcl2 4 _ rfl
        have q5 := hcl2 5 _ rfl
        have q6 := hcl2 6 _ rfl
        have hsm := HFS.out.1 X hXm
        have hcX := HC.out X hXm
        have hrd : ∀ W, But (fun b => n0 ≤ b) wo W → Rd W n0 X.A X.bytes := fun W hb2 => by
          have h1 : Below n0 w W := hbw.trans (hb2.to_below hsz (fun _ e => e))
          have h2 := hcX.rd
          rw [HN0.out] at h2
          exact h2.belowTo h1 (Nat.le_refl _)
        have hstep := step_any X n0 wo hDN.1 (by have := HFS.out.2; omega) hsm hcX.len hsz hrd
        obtain ⟨r, hr⟩ : ∃ r, stepM s L X = r := ⟨_, rfl⟩
        rw [hr] at hstep
        obtain ⟨hlen, hcase⟩ := stop_step hS hr
        have HLEN := Lib.hid hlen
        have HLK := Lib.hid hLk
        have HBW := Lib.hid hbw
        unfold ActV.stepV at hstep
        cases hs5 : X.stop with
        | true =>
          rw [hs5] at q5
          have HNX : Hid (StopI w n0 p an (k + 1) dn wo) := Lib.hid ⟨⟨s, L, hDN, by omega, hS⟩, hbw⟩
          clear hcl hcl2 hstep hcase hr hrd hcX hsm hX hDN hS hbw hbw0 hlen hLk HI
          go_wp2
          go_roundw
          case rel => exact ⟨k + 1, dn, by omega, hdn, rfl, by go_num, HNX⟩
          case measure => simp [RowKit.intOf]; omega
        | false =>
          rw [hs5] at q5
          cases hs6 : X.crash with
          | true =>
            rw [hs6] at q6
            have HNX : Hid (StopI w n0 p an (k + 1) dn wo) := Lib.hid ⟨⟨s, L, hDN, by omega, hS⟩, hbw⟩
            clear hcl hcl2 hstep hcase hr hrd hcX hsm hX hDN hS hbw hbw0 hlen hLk HI
            go_wp2
            go_roundw
            case rel => exact ⟨k + 1, dn, by omega, hdn, rfl, by go_num, HNX⟩
            case measure => simp [RowKit.intOf]; omega
          | false =>
            rw [hs6] at q6
            have hnext : ∀ w', StepM (fun b => n0 ≤ b) wo w' p r → DN n0 p w' r.1 r.2.1 ∧ Below n0 w w' := fun w' h => by
              obtain ⟨h1, h2⟩ := DN.step hsz h
              exact ⟨h1, HBW.out.trans h2⟩
            have HNX := Lib.hid hnext
            obtain ⟨er, her⟩ : ∃ er, r.2.2 = er := ⟨_, rfl⟩
            rw [her] at hstep hcase
            obtain ⟨Xw, hXw⟩ : ∃ Xw, X.what = Xw := ⟨_, rfl⟩
            obtain ⟨Xn, hXn⟩ : ∃ Xn, X.name = Xn := ⟨_, rfl⟩
            obtain ⟨Xt, hXt⟩ : ∃ Xt, X.to_ = Xt := ⟨_, rfl⟩
            obtain ⟨XA, hXA⟩ : ∃ XA, X.A = XA := ⟨_, rfl⟩
            obtain ⟨Xl, hXl⟩ : ∃ Xl, X.n = Xl := ⟨_, rfl⟩
            obtain ⟨Xc, hXc⟩ : ∃ Xc, X.c = Xc := ⟨_, rfl⟩
            obtain ⟨XN, hXN⟩ : ∃ XN, X.N = XN := ⟨_, rfl⟩
            rw [hXw, hXn, hXt, hXA, hXl, hXc, hXN] at hstep
            rw [hXw] at q0
            rw [hXn] at q1
            rw [hXt] at q2
            rw [hXA, hXl, hXc] at q3
            rw [hXN] at q4
            clear hXw hXn hXt hXA hXl hXc hXN hcl hcl2 hr hrd hcX hsm hX hDN hS hbw hbw0 hlen hLk HI her hnext
            rcases hcase with ⟨rfl, hde, hdl, hS2⟩ | ⟨rfl, hde, rfl, hS2⟩ | ⟨her4, hS2, ⟨hde, rfl⟩ | hde⟩
            · have HS2 := Lib.hid hS2
              clear hS2
              go_wp2_with (first | (go_at_call 33; (with_reducible refine hstep.mono ?_); clear hstep; rintro e w3 ⟨rfl, hst⟩; obtain ⟨hDN3, hb3⟩ := HNX.out w3 hst; have hdd := dead_M w3 hDN3.1; rw [hde] at hdd; clear hst) | (go_at_call 15; (with_reducible refine (num_any _ _ (by decide) (by decide)).mono ?_); rintro e w' ⟨rfl, rfl⟩) | (go_at_call 24; (with_reducible refine hdd.mono ?_); rintro e w' ⟨rfl, rfl⟩))
              go_roundw
              case rel => exact ⟨k + 1, dn + 1, by omega, hdl, by go_num, by go_num, Lib.hid ⟨⟨_, _, hDN3, by have := HLEN.out; have := HLK.out; omega, HS2.out⟩, hb3⟩⟩
              case measure => simp [RowKit.intOf]; omega
            · have HS2 := Lib.hid hS2
              clear hS2
              go_wp2_with (first | (go_at_call 33; (with_reducible refine hstep.mono ?_); clear hstep; rintro e w3 ⟨rfl, hst⟩; obtain ⟨hDN3, hb3⟩ := HNX.out w3 hst; have hdd := dead_M w3 hDN3.1; rw [hde] at hdd; clear hst) | (go_at_call 15; (with_reducible refine (num_any _ _ (by decide) (by decide)).mono ?_); rintro e w' ⟨rfl, rfl⟩) | (go_at_call 24; (with_reducible refine hdd.mono ?_); rintro e w' ⟨rfl, rfl⟩))
              go_roundw
              case rel => exact ⟨k + 1, dn, by omega, hdn, rfl, by go_num, Lib.hid ⟨⟨_, _, hDN3, by have := HLEN.out; have := HLK.out; omega, HS2.out⟩, hb3⟩⟩
              case measure => simp [RowKit.intOf]; omega
            · have HS2 := Lib.hid hS2
              clear hS2
              have e0 : (er == 0) = false := by rcases her4 with rfl | rfl | rfl | rfl <;> decide
              have e1 : (er == 172) = false := by rcases her4 with rfl | rfl | rfl | rfl <;> decide
              have e2 : 0 ≤ er := by omega
              have e3 : er ≤ 100000 := by omega
              clear her4
              go_wp2_with (first | (go_at_call 33; (with_reducible refine hstep.mono ?_); clear hstep; rintro e w3 ⟨rfl, hst⟩; obtain ⟨hDN3, hb3⟩ := HNX.out w3 hst; have hdd := dead_M w3 hDN3.1; rw [hde] at hdd; clear hst) | (go_at_call 15; (with_reducible refine (num_any _ _ e2 e3).mono ?_); rintro e w' ⟨rfl, rfl⟩) | (go_at_call 24; (with_reducible refine hdd.mono ?_); rintro e w' ⟨rfl, rfl⟩))
              go_roundw
              case rel => exact ⟨k + 1, dn, by omega, hdn, rfl, by go_num, Lib.hid ⟨⟨_, _, hDN3, by have := HLEN.out; have := HLK.out; omega, HS2.out⟩, hb3⟩⟩
              case measure => simp [RowKit.intOf]; omega
            · have HS2 := Lib.hid hS2
              clear hS2
              have e0 : (er == 0) = false := by rcases her4 with rfl | rfl | rfl | rfl <;> decide
              have e1 : (er == 172) = false := by rcases her4 with rfl | rfl | rfl | rfl <;> decide
              have e2 : 0 ≤ er := by omega
              have e3 : er ≤ 100000 := by omega
              clear her4
              go_wp2_with (first | (go_at_call 33; (with_reducible refine hstep.mono ?_); clear hstep; rintro e w3 ⟨rfl, hst⟩; obtain ⟨hDN3, hb3⟩ := HNX.out w3 hst; have hdd := dead_M w3 hDN3.1; rw [hde] at hdd; clear hst) | (go_at_call 15; (with_reducible refine (num_any _ _ e2 e3).mono ?_); rintro e w' ⟨rfl, rfl⟩) | (go_at_call 24; (with_reducible refine hdd.mono ?_); rintro e w' ⟨rfl, rfl⟩))
              go_roundw
              case rel => exact ⟨k + 1, dn, by omega, hdn, rfl, by go_num, Lib.hid ⟨⟨_, _, hDN3, by have := HLEN.out; have := HLK.out; omega, HS2.out⟩, hb3⟩⟩
              case measure => simp [RowKit.intOf]; omega
      · obtain rfl : k = n := by omega
        have hw := works_any wo
        have HBW := Lib.hid hbw
        have hdnI : (dn : Int) ≤ (an : Int) := by omega
        clear hbw hDN hS HI
        go_wp2_with (first | (go_at_call 15; (with_reducible refine (num_any _ _ (by decide) (by decide)).mono ?_); rintro e w' ⟨rfl, rfl⟩) | (go_at_call 10; (with_reducible refine hw.mono ?_); rintro e wf ⟨rfl, hbf⟩))
        go_ret
        exact ⟨rfl, HBW.out.trans (hbf.mono hsz)⟩
end Go.Proofs
