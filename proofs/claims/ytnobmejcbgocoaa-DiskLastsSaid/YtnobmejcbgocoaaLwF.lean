/-
  What a crash leaves, and what is refused: the walk of DiskLasts. Conditions: as the theorem names them.
-/
import Derived.BigQuiet
import Derived.Test.YtnobmejcbgocoaaDkY
import Derived.Test.YtnobmejcbgocoaaLwE
namespace Go.Proofs
open Go Go.RowKit Sm Go.Lib Go.Maps Go.WideMaps
attribute [local go_sem] Oper.semAt_some
theorem Sm.own_cap {w : World} {base n c : Nat} {A : Option Addr} {xs : List Value} (h : w.ownsRow base 5 1 (.slice A n c) n xs) : n ≤ c := by
  rcases h.2 with ⟨h1, _⟩ | ⟨g, cap, cur, h1, _, _, h2, _⟩
  · injection h1 with _ h3 h4
    omega
  · injection h1 with _ _ h4
    omega
structure Sm.LastI (w : World) (n0 k : Nat) (pd : Nat) (W : World) : Prop where
  st : ∃ s L, DN n0 pd W s L ∧ L.length ≤ k ∧ s.room = 60
  b : Below n0 w W
theorem Sm.doneM_room (s : DSt) (L L2 : List (List (BitVec 8) × List (BitVec 8) × Nat)) : (doneM s L L2).1.room = s.room := by
  unfold doneM
  split <;> rfl
theorem Sm.stepM_room (s : DSt) (L : List (List (BitVec 8) × List (BitVec 8) × Nat)) (y : ActV) : (stepM s L y).1.room = s.room := by
  rcases stepM_cases s L y with ⟨e, h1, _⟩ | ⟨L2, h1, _⟩
  · rw [h1]
  · rw [h1, doneM_room]
/-- what a step tells: refused, and nothing is changed; or done; or dead -/
theorem Sm.last_step {s : DSt} {L : List (List (BitVec 8) × List (BitVec 8) × Nat)} {y : ActV} {r : DSt × List (List (BitVec 8) × List (BitVec 8) × Nat) × Int} (hr : stepM s L y = r) :
    r.2.1.length ≤ L.length + 1 ∧ r.1.room = s.room ∧ (r.2.2 = 0 ∨ r.2.2 = 172 ∨ ((r.2.2 = 170 ∨ r.2.2 = 171 ∨ r.2.2 = 5 ∨ r.2.2 = 4) ∧ r.1 = s ∧ r.2.1 = L)) := by
  subst hr
  refine ⟨?_, stepM_room s L y, ?_⟩
  · rcases stepM_cases s L y with ⟨e, h1, _⟩ | ⟨L2, h1, h2⟩
    · rw [h1]; exact Nat.le_succ _
    · rw [h1]
      unfold doneM
      split
      · exact Nat.le_succ _
      · exact h2
  · rcases stepM_cases s L y with ⟨e, h1, h2⟩ | ⟨L2, h1, h2⟩
    · rw [h1]; exact .inr (.inr ⟨h2, rfl, rfl⟩)
    · rw [h1]
      unfold doneM
      split
      · exact .inr (.inl rfl)
      · exact .inl rfl
set_option maxRecDepth 100000 in
set_option maxHeartbeats 8000000 in
theorem Sm.lasts_law (A : Option Addr) (n c : Nat) (xs : List ActV) (A1 : Option Addr) (n1 c1 : Nat) (one : List Int) (A2 : Option Addr) (n2 c2 : Nat) (two : List Int) (w : World) (hn : xs.length = n) (hc : n ≤ c) (hc2 : c ≤ 9223372036854775807) (hR : RdActs w A xs) (hcame : ∀ x ∈ xs, x.came w)
    (h1l : one.length = n1) (h1c : n1 ≤ c1) (h1m : c1 ≤ 9223372036854775807) (h1r : Rds w (fun _ => False) A1 (one.map fun k => .int .i64 k)) (h2l : two.length = n2) (h2c : n2 ≤ c2) (h2m : c2 ≤ 9223372036854775807) (h2r : Rds w (fun _ => False) A2 (two.map fun k => .int .i64 k)) :
    Calls Try.prog 8 #[.slice A n c, .slice A1 n1 c1, .slice A2 n2 c2] w fun e w' => e = .returned (.bool true) ∧ Below w.heap.size w w' := by
  have hfew := few_any A n c xs 30 w hR hn hc hc2 hcame
  have hw0 := works_any w
  have HR := Lib.hid hR
  have HN := Lib.hid hn
  have HC := Lib.hid hcame
  have H1 := Lib.hid h1r
  have H2 := Lib.hid h2r
  clear hR hn hcame h1r h2r
  have b1 : (n1 : Int) ≤ 9223372036854775807 := by omega
  have b2 : (n2 : Int) ≤ 9223372036854775807 := by omega
  cases hf : fewM xs 30 with
  | false =>
    rw [hf] at hfew
    go_enter Try.func8, Try.ntmps8
    go_wp2_with (first | (go_at_call 9; (with_reducible refine hfew.mono ?_); rintro e w' ⟨rfl, rfl⟩) | (go_at_call 10; (with_reducible refine hw0.mono ?_); rintro e w' ⟨rfl, hb⟩))
    go_ret
    exact ⟨rfl, hb⟩
  | true =>
    rw [hf] at hfew
    by_cases hb1 : (20 : Int) < (n1 : Int)
    · go_enter Try.func8, Try.ntmps8
      go_wp2_with (first | (go_at_call 9; (with_reducible refine hfew.mono ?_); rintro e w' ⟨rfl, rfl⟩) | (go_at_call 10; (with_reducible refine hw0.mono ?_); rintro e w' ⟨rfl, hb⟩))
      go_ret
      exact ⟨rfl, hb⟩
    by_cases hb2 : (20 : Int) < (n2 : Int)
    · go_enter Try.func8, Try.ntmps8
      go_wp2_with (first | (go_at_call 9; (with_reducible refine hfew.mono ?_); rintro e w' ⟨rfl, rfl⟩) | (go_at_call 10; (with_reducible refine hw0.mono ?_); rintro e w' ⟨rfl, hb⟩))
      go_ret
      exact ⟨rfl, hb⟩
    have hnew := new_M 60 w (by decide) (by decide)
    obtain ⟨n0, hn0⟩ : ∃ n0, w.heap.size = n0 := ⟨_, rfl⟩
    rw [hn0] at hnew
    rw [hn0]
    have HN0 := Lib.hid hn0
    have hfs : (∀ x ∈ xs, smallA x = true) ∧ xs.length ≤ 30 := by
      unfold fewM at hf
      simp only [Bool.and_eq_true, decide_eq_true_eq] at hf
      exact ⟨List.all_eq_true.1 hf.1, by omega⟩
    have HFS := Lib.hid hfs
    have hn30 : (n : Int) ≤ 30 := by have := HN.out; omega
    clear hn0 hw0 hfs hf
    go_enter Try.func8, Try.ntmps8
    go_wp2_with (first | (go_at_call 9; (with_reducible refine hfew.mono ?_); clear hfew; rintro e w' ⟨rfl, rfl⟩) | (go_at_call 30; (with_reducible refine hnew.mono ?_); clear hnew; rintro e w1 ⟨rfl, hD, hbw⟩) | (go_at_call 15; (with_reducible refine (num_any _ _ (by decide) (by decide)).mono ?_); rintro e w' ⟨rfl, rfl⟩))
    have hI0 : LastI w n0 0 (n0 + 1) w1 := ⟨⟨_, _, ⟨hD, by have := hbw.size; have := HN0.out; omega⟩, Nat.le_refl _, rfl⟩, hbw⟩
    have HI0 := Lib.hid hI0
    clear hI0 hD hbw
    go_loopw [7, 9] (fun v7 v9 wr => ∃ k pd : Nat, k ≤ n ∧ v7 = .pointer (some ⟨pd, 0, none⟩) ∧ v9 = .int .i64 (k : Int) ∧ Hid (LastI w n0 k pd wr)) (fun _ v9 _ => n - (RowKit.intOf v9).toNat)
    case atStart => exact ⟨0, n0 + 1, Nat.zero_le _, rfl, rfl, HI0⟩
    case round =>
      obtain ⟨wo, rfl⟩ : ∃ wo : World, wo = wr := ⟨_, rfl⟩
      obtain ⟨k, pd, hk, rfl, rfl, HI⟩ := hrel
      clear HI0
      obtain ⟨⟨s, L, hDN, hLk, hroom⟩, hbw⟩ := HI.out
      have hsz := hDN.2
      by_cases hlt : k < n
      · have hkx : k < xs.length := by rw [HN.out]; exact hlt
        have hcp := copy_M wo hDN.1 (by have := HFS.out.2; omega)
        obtain ⟨X, hX⟩ : ∃ X, xs[k] = X := ⟨_, rfl⟩
        have hXm : X ∈ xs := by rw [← hX]; exact List.getElem_mem hkx
        have hbw0 : Below w.heap.size w wo := by rw [HN0.out]; exact hbw
        obtain ⟨b, off, hAe, hb, hcl⟩ := HR.out (by omega)
        have HCL := Lib.hid (hcl k X (by rw [List.getElem?_eq_getElem hkx, hX]))
        have HBL := Lib.hid hb
        have hsm := HFS.out.1 X hXm
        have hcX := HC.out X hXm
        have HDN := Lib.hid hDN
        have HBW := Lib.hid hbw
        subst hAe
        clear hDN hbw hbw0 hcl hb HI hX
        go_upto_region 10 with (go_at_call 25; (with_reducible refine hcp.mono ?_); clear hcp; rintro e w2 ⟨q, rfl, hDq, hbq⟩)
        have hDN2 := HDN.out.keep hbq
        have hbw2 : Below n0 w w2 := HBW.out.trans (hbq.mono hsz)
        have hbw20 : Below w.heap.size w w2 := by rw [HN0.out]; exact hbw2
        have hcl2 : ∀ i v, X.cells[i]? = some v → w2.cell? ⟨b, off + k * 8 + i, none⟩ = some v := fun i v hi => (hbw20.cell (p := ⟨b, off + k * 8 + i, none⟩) HBL.out).trans (HCL.out i v hi)
        have q0 : w2.cell? ⟨b, off + k * 8, none⟩ = some (.int .i64 X.what) := hcl2 0 _ rfl
        have q1 := hcl2 1 _ rfl
        have q2 := hcl2 2 _ rfl
        have q3 := hcl2 3 _ rfl
        have q4 := hcl2 4 _ rfl
        have q5 := hcl2 5 _ rfl
        have q6 := hcl2 6 _ rfl
        have q7 := hcl2 7 _ rfl
        have hpk := pkv_came hcX.plen hcX.proom.1 hcX.proom.2 (hcX.prd.but (But.of_all hbw20 (fun _ => False)) (fun _ e => e))
        have hcr := crash_M X.Ap X.np X.cp X.picks w2 hDN2.1 (by have := HFS.out.2; omega) hpk
        have hstp := stop_M X.N w2 hDN2.1 hcX.bd.2
        have hrd : ∀ W, But (fun b => n0 ≤ b ∧ b < wo.heap.size) w2 W → Rd W n0 X.A X.bytes := fun W hb2 => by
          have h1 : Below n0 w W := hbw2.trans (hb2.to_below hDN2.2 (fun _ e => e.1))
          have h2 := hcX.rd
          rw [HN0.out] at h2
          exact h2.belowTo h1 (Nat.le_refl _)
        have hDt : Dk (fun b => n0 ≤ b ∧ b < wo.heap.size) w2 pd s L := (HDN.out.1.mono (fun b h1 h2 => ⟨h2, h1⟩)).keep hbq
        have hstep := step_any X n0 w2 hDt (by have := HFS.out.2; omega) hsm hcX.len hDN2.2 hrd
        obtain ⟨r, hr⟩ : ∃ r, stepM s L X = r := ⟨_, rfl⟩
        rw [hr] at hstep
        obtain ⟨hlen, hrm, hcase⟩ := last_step hr
        have HLEN := Lib.hid hlen
        have HLK := Lib.hid hLk
        have HRM := Lib.hid hrm
        have HROOM := Lib.hid hroom
        have HDQ := Lib.hid hDq
        have HBW2 := Lib.hid hbw2
        have HDN2 := Lib.hid hDN2
        have HBQ := Lib.hid hbq
        obtain ⟨er, her⟩ : ∃ er, r.2.2 = er := ⟨_, rfl⟩
        rw [her] at hstep hcase
        obtain ⟨X1, hX1⟩ : ∃ X1, X.crash = X1 := ⟨_, rfl⟩
        obtain ⟨X2, hX2⟩ : ∃ X2, X.stop = X2 := ⟨_, rfl⟩
        unfold ActV.stepV at hstep
        obtain ⟨what, name, to_, XA, Xn, Xc, bytes, NN, stop, crash, Ap, np, cp, picks⟩ := X
        dsimp only at q0 q1 q2 q3 q4 q5 q6 q7 hcr hstp hstep hX1 hX2
        subst hX1 hX2
        clear hDN2 hbw2 hbw20 hcl2 hpk hrd hDt hr hlen hrm hLk hDq hbq her hcX hsm hXm HCL
        cases crash with
        | true =>
          clear hstep hstp hcase
          go_wp2_with (go_at_call 14; (with_reducible refine hcr.mono ?_); clear hcr; rintro e w3 ⟨qc, rfl, hDc, hbc⟩)
          have hIn : LastI w n0 (k + 1) qc w3 := ⟨⟨_, _, ⟨hDc.mono (fun b _ e => Nat.le_trans HDN2.out.2 e), Nat.le_trans HDN2.out.2 hbc.size⟩, by rw [cr_len]; have := HLK.out; omega, HROOM.out⟩, HBW2.out.trans (hbc.mono HDN2.out.2)⟩
          have HIN := Lib.hid hIn
          clear hIn hDc hbc
          go_roundw
          case rel => exact ⟨k + 1, qc, by omega, rfl, by go_num, HIN⟩
          case measure => simp [RowKit.intOf]; omega
        | false =>
          cases stop with
          | true =>
            clear hstep hcr hcase
            go_wp2_with (go_at_call 21; (with_reducible refine hstp.mono ?_); clear hstp; rintro e w3 ⟨rfl, hst⟩)
            have hd3 := DN.step HDN2.out.2 hst
            have hIn : LastI w n0 (k + 1) pd w3 := ⟨⟨_, _, hd3.1, by have := HLK.out; show L.length ≤ k + 1; omega, by
              show (stoM s NN).1.room = 60
              unfold stoM
              split
              · exact HROOM.out
              · split
                · exact HROOM.out
                · exact HROOM.out⟩, HBW2.out.trans hd3.2⟩
            have HIN := Lib.hid hIn
            clear hIn hd3 hst
            go_roundw
            case rel => exact ⟨k + 1, pd, by omega, rfl, by go_num, HIN⟩
            case measure => simp [RowKit.intOf]; omega
          | false =>
            clear hstp hcr
            have hnext : ∀ w', StepM (fun b => n0 ≤ b ∧ b < wo.heap.size) w2 w' pd r → DN n0 pd w' r.1 r.2.1 ∧ Below n0 w w' ∧ Dk (fun b => wo.heap.size ≤ b) w' q s L := fun w' h => by
              refine ⟨⟨h.1.mono (fun b _ e => by have := HDN2.out.2; omega), Nat.le_trans HDN2.out.2 h.2.size⟩, HBW2.out.trans (h.2.to_below HDN2.out.2 (fun b e => e.1)), HDQ.out.but h.2 (fun b e e2 => by omega)⟩
            have HNX := Lib.hid hnext
            clear hnext
            rcases hcase with rfl | rfl | ⟨her4, hrs, hrL⟩
            · go_wp2_with (first | (go_at_call 33; (with_reducible refine hstep.mono ?_); clear hstep; rintro e w3 ⟨rfl, hst⟩; obtain ⟨hDN3, hb3, hq3⟩ := HNX.out w3 hst; clear hst) | (go_at_call 15; (with_reducible refine (num_any _ _ (by decide) (by decide)).mono ?_); rintro e w' ⟨rfl, rfl⟩))
              have hIn : LastI w n0 (k + 1) pd w3 := ⟨⟨_, _, hDN3, by have := HLEN.out; have := HLK.out; omega, by rw [HRM.out]; exact HROOM.out⟩, hb3⟩
              have HIN := Lib.hid hIn
              clear hIn hDN3 hb3 hq3
              go_roundw
              case rel => exact ⟨k + 1, pd, by omega, rfl, by go_num, HIN⟩
              case measure => simp [RowKit.intOf]; omega
            · go_wp2_with (first | (go_at_call 33; (with_reducible refine hstep.mono ?_); clear hstep; rintro e w3 ⟨rfl, hst⟩; obtain ⟨hDN3, hb3, hq3⟩ := HNX.out w3 hst; clear hst) | (go_at_call 15; (with_reducible refine (num_any _ _ (by decide) (by decide)).mono ?_); rintro e w' ⟨rfl, rfl⟩))
              have hIn : LastI w n0 (k + 1) pd w3 := ⟨⟨_, _, hDN3, by have := HLEN.out; have := HLK.out; omega, by rw [HRM.out]; exact HROOM.out⟩, hb3⟩
              have HIN := Lib.hid hIn
              clear hIn hDN3 hb3 hq3
              go_roundw
              case rel => exact ⟨k + 1, pd, by omega, rfl, by go_num, HIN⟩
              case measure => simp [RowKit.intOf]; omega
            · have e0 : (er == 0) = false := by rcases her4 with rfl | rfl | rfl | rfl <;> decide
              have e1 : (er == 172) = false := by rcases her4 with rfl | rfl | rfl | rfl <;> decide
              have e0n : (er != 0) = true := by rcases her4 with rfl | rfl | rfl | rfl <;> decide
              have e1n : (er != 172) = true := by rcases her4 with rfl | rfl | rfl | rfl <;> decide
              have e2 : 0 ≤ er := by omega
              have e3 : er ≤ 100000 := by omega
              have HRS := Lib.hid hrs
              have HRL := Lib.hid hrL
              have hnm := fun W => num_any er W e2 e3
              clear her4 hrs hrL e2 e3
              go_wp2_with (first | (go_at_call 33; (with_reducible refine hstep.mono ?_); clear hstep; rintro e w3 ⟨rfl, hst⟩; obtain ⟨hDN3, hb3, hq3⟩ := HNX.out w3 hst; clear hst; have hsd := same_M w3 hq3 hDN3.1 (by have := HFS.out.2; have := HLK.out; omega) (by have := HFS.out.2; have := HLK.out; have := HLEN.out; omega); rw [HRS.out, HRL.out, same_self] at hsd) | (go_at_call 15; (with_reducible refine (hnm _).mono ?_); rintro e w' ⟨rfl, rfl⟩) | (go_at_call 26; (with_reducible refine hsd.mono ?_); clear hsd; rintro e w4 ⟨rfl, hb4⟩))
              have hIn : LastI w n0 (k + 1) pd w4 := ⟨⟨_, _, hDN3.keep hb4, by have := HLEN.out; have := HLK.out; omega, by rw [HRM.out]; exact HROOM.out⟩, hb3.trans (hb4.mono hDN3.2)⟩
              have HIN := Lib.hid hIn
              clear hIn hDN3 hb3 hq3 hb4
              go_roundw
              case rel => exact ⟨k + 1, pd, by omega, rfl, by go_num, HIN⟩
              case measure => simp [RowKit.intOf]; omega
      · obtain rfl : k = n := by omega
        have hbw0 : Below w.heap.size w wo := by rw [HN0.out]; exact hbw
        have hpk := pkv_came h1l h1c h1m (H1.out.but (But.of_all hbw0 (fun _ => False)) (fun _ e => e))
        have hcr := crash_M A1 n1 c1 one wo hDN.1 (by have := HFS.out.2; have := HN.out; omega) hpk
        have hfa := hDN.1.facts
        obtain ⟨Lc, hLc⟩ : ∃ Lc, crM one 0 L = Lc := ⟨_, rfl⟩
        have hLcl : Lc.length = L.length := by rw [← hLc, cr_len]
        have hL30 : L.length ≤ 30 := by have := HFS.out.2; have := HN.out; omega
        have htw : crM two 0 Lc = Lc := by rw [← hLc]; exact cr_twice one two L 0 (fun t ht => (hfa.2 t ht).2)
        have hat : ∀ (i : Nat) (t : List (BitVec 8) × List (BitVec 8) × Nat), L[i]? = some t → ∃ K, Lc[i]? = some (t.1, t.2.1.take K, K) ∧ t.2.2 ≤ K ∧ K ≤ t.2.1.length := fun i t hi => by
          have h1 := cr_at one L 0 i t hi
          have h2 := crK_rng (one.getD (0 + i) 0) (hfa.2 t (List.mem_of_getElem? hi)).2
          exact ⟨_, by rw [← hLc]; exact h1, h2.1, h2.2⟩
        rw [hLc] at hcr
        have HFA := Lib.hid hfa
        have HAT := Lib.hid hat
        have HTW := Lib.hid htw
        have HLCL := Lib.hid hLcl
        have HDN := Lib.hid hDN
        have HBW := Lib.hid hbw
        clear hfa hat htw hLc hDN hbw hbw0 hpk HI
        go_upto_region 18 with (go_at_call 14; (with_reducible refine hcr.mono ?_); clear hcr; rintro e w3 ⟨qc, rfl, hDc, hbc⟩)
        have hbw3 : Below n0 w w3 := HBW.out.trans (hbc.mono hsz)
        have hsz3 : n0 ≤ w3.heap.size := Nat.le_trans hsz hbc.size
        have hbw30 : Below w.heap.size w w3 := by rw [HN0.out]; exact hbw3
        have hpk2 := pkv_came h2l h2c h2m (H2.out.but (But.of_all hbw30 (fun _ => False)) (fun _ e => e))
        have hcr2 := crash_M A2 n2 c2 two w3 hDc (by rw [HLCL.out]; omega) hpk2
        rw [HTW.out] at hcr2
        have hDd3 := HDN.out.keep hbc
        have HBW3 := Lib.hid hbw3
        have HDC := Lib.hid hDc
        have HDD3 := Lib.hid hDd3
        clear hbw3 hbw30 hpk2 hDc hDd3 hbc
        go_upto_region 19 with (go_at_call 14; (with_reducible refine hcr2.mono ?_); clear hcr2; rintro e w4 ⟨qx, rfl, hDx, hbx⟩)
        have hDd4 := HDD3.out.keep hbx
        have hDc4 := HDC.out.keep hbx
        have hnm := names_M w4 hDd4.1 (by omega)
        have HBW4 := Lib.hid (HBW3.out.trans (hbx.mono hsz3))
        have hsz4 : n0 ≤ w4.heap.size := Nat.le_trans hsz3 hbx.size
        have HDD4 := Lib.hid hDd4
        have HDC4 := Lib.hid hDc4
        have HDX4 := Lib.hid hDx
        clear hDd4 hDc4 hDx hbx
        obtain ⟨m, hm⟩ : ∃ m, L.length = m := ⟨_, rfl⟩
        rw [hm] at hnm
        have HM := Lib.hid hm
        have hm30 : (m : Int) ≤ 30 := by omega
        have hm30n : m ≤ 30 := by omega
        clear hm hL30
        go_upto_region 20 with (go_at_call 22; (with_reducible refine hnm.mono ?_); clear hnm; rintro e w5 ⟨vn, rfl, hrow, hbn⟩; obtain ⟨An, cn, rfl⟩ := own_slice hrow)
        have hDd5 := HDD4.out.keep hbn
        have hDc5 := HDC4.out.keep hbn
        have hDx5 := HDX4.out.keep hbn
        have hsm := same_M w5 hDc5 hDx5 (by rw [HLCL.out, HM.out]; omega) (by rw [HLCL.out, HM.out]; omega)
        rw [same_self] at hsm
        have HBW5 := Lib.hid (HBW4.out.trans (hbn.mono hsz4))
        have hsz5 : n0 ≤ w5.heap.size := Nat.le_trans hsz4 hbn.size
        have HDD5 := Lib.hid hDd5
        have HDC5 := Lib.hid hDc5
        have HROW := Lib.hid hrow
        clear hDd5 hDc5 hDx5 hrow hbn
        have hn0' := fun W => num_any 0 W (by decide) (by decide)
        go_wp2_with (first | (go_at_call 15; (with_reducible refine (hn0' _).mono ?_); rintro e w' ⟨rfl, rfl⟩) | (go_at_call 26; (with_reducible refine hsm.mono ?_); clear hsm; rintro e w6 ⟨rfl, hb6⟩; have hDc6 := HDC5.out.keep hb6; have hnm6 := names_M w6 hDc6 (by rw [HLCL.out, HM.out]; omega); rw [HLCL.out, HM.out] at hnm6) | (go_at_call 22; (with_reducible refine hnm6.mono ?_); clear hnm6; rintro e w7 ⟨v7, rfl, hrow7, hb7⟩; obtain ⟨A7, c7, rfl⟩ := own_slice hrow7; have hd7 := dead_M w7 (hDc6.keep hb7)) | (go_at_call 24; (with_reducible refine hd7.mono ?_); clear hd7; rintro e w8 ⟨rfl, rfl⟩))
        have hb57 : Below w5.heap.size w5 w7 := hb6.trans (hb7.mono hb6.size)
        have HD7 := Lib.hid (HDD5.out.keep hb57)
        have HC7 := Lib.hid (HDC5.out.keep hb57)
        have HR7 := Lib.hid (own_below HROW.out hb57)
        have HBW7 := Lib.hid (HBW5.out.trans (hb57.mono hsz5))
        have hsz7 : n0 ≤ w7.heap.size := Nat.le_trans hsz5 hb57.size
        clear hb57 hb6 hb7 hDc6 hrow7
        go_loopw [17] (fun v17 wr => ∃ j : Nat, j ≤ m ∧ v17 = .int .i64 (j : Int) ∧ Hid (Below w7.heap.size w7 wr)) (fun v17 _ => m - (RowKit.intOf v17).toNat)
        case atStart => exact ⟨0, Nat.zero_le _, rfl, Lib.hid (Below.refl _ _)⟩
        case round =>
          obtain ⟨wu, rfl⟩ : ∃ wu : World, wu = wr := ⟨_, rfl⟩
          obtain ⟨j, hj, rfl, HB⟩ := hrel
          by_cases hjm : j < m
          · have hjl : j < L.length := by rw [HM.out]; exact hjm
            obtain ⟨t, ht⟩ : ∃ t, L[j] = t := ⟨_, rfl⟩
            have hti : L[j]? = some t := by rw [List.getElem?_eq_getElem hjl, ht]
            have htm : t ∈ L := List.mem_of_getElem? hti
            obtain ⟨K, hK1, hK2, hK3⟩ := HAT.out j t hti
            have hok := HFA.out.2 t htm
            have hrw := own_below HR7.out HB.out
            obtain ⟨g, cap, hv, _⟩ := hrw.form (by omega)
            injection hv with hv1 hv2 hv3
            subst hv1
            have hnj : wu.cell? ⟨g, j, none⟩ = some (.string (strB t.1)) := by
              rw [hrw.cellAt j (by omega), List.getElem?_map, hti]
              rfl
            have hlt7 := (hrw.lt g rfl).2
            have hxz : (strB t.1).size ≤ 1000000 := by
              have h1 := hok.1
              have h3 := strL_length (strB t.1)
              rw [strL_strB] at h3
              unfold nameOK at h1
              simp only [Bool.and_eq_true, decide_eq_true_eq] at h1
              omega
            have hDu := HD7.out.keep HB.out
            have hCu := HC7.out.keep HB.out
            have ht1 := tell_mem HFA.out.1 htm hok.1
            have ht2 := tell_mem hCu.facts.1 (List.mem_of_getElem? hK1) hok.1
            dsimp only at ht2
            have hr1 := read_M (strB t.1) wu hDu.1 hxz
            rw [strL_strB, ht1] at hr1
            have HNJ := Lib.hid hnj
            have HDU := Lib.hid hDu
            have HCU := Lib.hid hCu
            have HT1 := Lib.hid ht1
            have HT2 := Lib.hid ht2
            clear hrw hv2 hv3 hDu hCu ht1 ht2 ht hti htm hok hnj
            obtain ⟨lb, hlb⟩ : ∃ lb, t.2.1.length = lb := ⟨_, rfl⟩
            obtain ⟨sv, hsv⟩ : ∃ sv, t.2.2 = sv := ⟨_, rfl⟩
            obtain ⟨nm, hnmm⟩ : ∃ nm, strB t.1 = nm := ⟨_, rfl⟩
            rw [hlb] at hK3
            rw [hsv] at hK2
            rw [hnmm] at HNJ hr1 hxz
            dsimp only at hr1
            rw [hlb] at hr1
            have hnj := HNJ.out
            have HHN := Lib.hid hnmm
            have HLB := Lib.hid hlb
            have HSV := Lib.hid hsv
            have hkI : ¬ ((K : Int) < (sv : Int)) := by omega
            have hkI2 : ¬ ((lb : Int) < (K : Int)) := by omega
            have hszu := HB.out.size
            clear hnmm hlb hsv
            go_upto_region 26 with (go_at_call 12; (with_reducible refine hr1.mono ?_); clear hr1; rintro e wv ⟨Ab, cb, rfl, hrb, hb1'⟩)
            have hnjv := (hb1'.cell (p := ⟨g, j, none⟩) (show g < wu.heap.size by omega)).trans hnj
            have hsu := sure_M nm wv (HDU.out.keep hb1').1 hxz
            rw [← HHN.out, strL_strB, HT1.out] at hsu
            dsimp only at hsu
            rw [HHN.out, HSV.out] at hsu
            have HRB := Lib.hid hrb
            have HB1' := Lib.hid hb1'
            have hszv := hb1'.size
            clear hrb hb1' hnj
            go_upto_region 27 with (go_at_call 13; (with_reducible refine hsu.mono ?_); clear hsu; rintro e wx ⟨rfl, hb2'⟩)
            have hnjx := (hb2'.cell (p := ⟨g, j, none⟩) (show g < wv.heap.size by omega)).trans hnjv
            have hbux := HB1'.out.trans (hb2'.mono hszv)
            have hr3 := read_M nm wx (HCU.out.keep hbux) hxz
            rw [← HHN.out, strL_strB, HT2.out] at hr3
            dsimp only at hr3
            have hlK : (t.2.1.take K).length = K := by rw [List.length_take, HLB.out]; omega
            rw [HHN.out, hlK] at hr3
            have HLK2 := Lib.hid hlK
            have HRB2 := Lib.hid (own_below HRB.out hb2')
            have HBUX := Lib.hid hbux
            clear hb2' hnjv hbux hlK
            go_upto_region 28 with (go_at_call 12; (with_reducible refine hr3.mono ?_); clear hr3; rintro e wy ⟨Aa, ca, rfl, hra, hb3'⟩)
            have hrby := own_below HRB2.out hb3'
            have hcb := own_cap hrby
            have hRb := Rd.of_own (N := wy.heap.size) (by rw [← HLB.out] at hrby; exact hrby) (Nat.le_refl _)
            have hRa : Rd wy wy.heap.size Aa (t.2.1.take K) := by
              have h1 : wy.ownsRow wx.heap.size 5 1 (.slice Aa (t.2.1.take K).length ca) (t.2.1.take K).length ((t.2.1.take K).map byteCell) := by rw [HLK2.out]; exact hra
              exact Rd.of_own h1 (Nat.le_refl _)
            obtain ⟨S, hS⟩ : ∃ S, strB (t.2.1.take K) = S := ⟨_, rfl⟩
            have s1 : ∀ m, (convert 36 9 (.slice Ab K cb)).run Try.prog (wy.drewN m) = .ok (.string S) (wy.drewN m) := fun m => by
              rw [← hS]
              exact run_str (P := Try.prog) (wy.drewN m) 36 5 Try.underlying36 Try.underlying5 (t.2.1.take K) K cb wy.heap.size Ab HLK2.out (hRb.take K) 9 Try.underlying9
            have s2 : ∀ m, (convert 36 9 (.slice Aa K ca)).run Try.prog (wy.drewN m) = .ok (.string S) (wy.drewN m) := fun m => by
              rw [← hS]
              exact run_str (P := Try.prog) (wy.drewN m) 36 5 Try.underlying36 Try.underlying5 (t.2.1.take K) K ca wy.heap.size Aa HLK2.out hRa 9 Try.underlying9
            have HBUY := Lib.hid (HBUX.out.trans (hb3'.mono HBUX.out.size))
            have hcbI : (K : Int) ≤ (cb : Int) := by omega
            have hwz : IntKind.i64.wrap 0 = 0 := by decide
            have hkn1 : decide (K < sv) = false := decide_eq_false (by omega)
            have hkn2 : decide (lb < K) = false := decide_eq_false (by omega)
            have hnq : ∀ W, Calls Try.prog 15 #[.int .i64 0] W fun e w' => e = .returned (.int .i64 0) ∧ w' = W := fun W => (num_any 0 W (by decide) (by decide)).mono fun e w' ⟨h1, h2⟩ => ⟨h1, h2.symm⟩
            clear hra hb3' hrby hRb hRa hS hnjx
            go_quiet ((go_at_call 15; with_reducible exact Calls.quiet_of_same (hnq _)))
            go_wp2
            go_roundw
            case rel => exact ⟨j + 1, by omega, by go_num, Lib.hid ((HB.out.trans (HBUY.out.mono HB.out.size)).trans ⟨rfl, rfl, rfl, Nat.le_refl _, fun _ _ => rfl⟩)⟩
            case measure => simp [RowKit.intOf]; omega
          · obtain rfl : j = m := by omega
            have hw := works_any wu
            go_wp2_with (go_at_call 10; (with_reducible refine hw.mono ?_); rintro e wf ⟨rfl, hbf⟩)
            go_ret
            exact ⟨rfl, HBW7.out.trans ((HB.out.trans (hbf.mono HB.out.size)).mono hsz7)⟩
end Go.Proofs
