/-
  The law TextPoint holds of every number and every size: each sign alone, and within a text, is told as the document tells it. Conditions: the row's own.
-/
import Derived.Test.YtneaenplbccpmaaGreatDoorTxWk
import Derived.Deep.RegionHeldLaw
import Derived.Deep.DeepCutAuto
import Derived.Deep.CutRange
import Derived.LoopN
import Derived.LoopIn
import Derived.Deep.CutBlock
import Derived.Test.YtneaenplbccpmaaGreatDoorFrame
namespace Go.Proofs
open Go Go.RowKit Sm Go.Lib
attribute [local go_sem] Oper.semAt_some
set_option maxRecDepth 100000 in
set_option maxHeartbeats 2000000 in
theorem Sm.refCheck_any (s : ByteArray) (w : World) (hm : s.size ≤ 1000000) : Calls Tryz.prog 22 #[.string s] w fun e w' => e = .returned (.int .i64 (checkN s)) ∧ Below w.heap.size w w' := by
  by_cases hl : 200 < s.size
  · have hk : checkN s = 3 := by unfold checkN; rw [if_pos hl]
    rw [hk]
    go_enter Tryz.func22, Tryz.ntmps22
    go_wp2
    go_ret
    exact ⟨rfl, Below.refl _ _⟩
  · have hs := Signs_any s w hm
    have hk : checkN s = if brokenB s then 130 else if anyR badR s then 131 else if blankB s then 132 else 0 := by unfold checkN; rw [if_neg hl]
    obtain ⟨N, hN⟩ : ∃ N, cntS s = N := ⟨_, rfl⟩
    have hNl : N ≤ 200 := by have := cntS_le s; omega
    rw [hN] at hs
    obtain ⟨K, hK⟩ : ∃ K, checkN s = K := ⟨_, rfl⟩
    rw [hK] at hk ⊢
    have HK := Lib.hid hk
    have HN := Lib.hid hN
    clear hk hK hN
    go_enter Tryz.func22, Tryz.ntmps22
    go_wp2_with (go_at_call 13; (with_reducible refine hs.mono ?_); clear hs; rintro e w1 ⟨A, c, rfl, hown, hb1⟩)
    have HB1 := Lib.hid hb1
    have HOW : Hid (∀ k, k < N → ∃ g, A = some ⟨g, 0, none⟩ ∧ N ≤ c ∧ w1.cell? ⟨g, k * 4 + 2, none⟩ = some (.int .i64 (runeK s k : Int)) ∧ w1.cell? ⟨g, k * 4 + 3, none⟩ = some (.bool (brokeP s (posK s k)))) := Lib.hid fun k hk => by
      obtain ⟨g, cap, eg, hgb, hgl⟩ := hown.form (by omega)
      injection eg with e1 e2 e3
      subst e1 e3
      have h2 := signsC_get s (j := k) N 2 hk (by omega)
      have h3 := signsC_get s (j := k) N 3 hk (by omega)
      refine ⟨g, rfl, ?_, (hown.cellAt _ (by omega)).trans h2, (hown.cellAt _ (by omega)).trans h3⟩
      rcases hown.2 with ⟨h1, h2⟩ | ⟨g2, cap, cur, h1, h2, h3, h4, h5, h6, h7⟩
      · omega
      · injection h1 with f1 f2 f3
        omega
    clear hown hb1
    go_loopw [4] (fun vi wr => ∃ k : Nat, k ≤ N ∧ vi = .int .i64 (k : Int) ∧ w1 = wr ∧ Hid (anyF (fun k => brokeP s (posK s k)) k (N - k) = brokenB s)) (fun vi _ => N - (RowKit.intOf vi).toNat)
    case atStart => exact ⟨0, Nat.zero_le _, rfl, rfl, Lib.hid (by rw [← HN.out]; rfl)⟩
    case round =>
      obtain ⟨k, hk, rfl, hww, HA⟩ := hrel
      subst hww
      by_cases hlt : k < N
      · obtain ⟨g, rfl, hnc, c2, c3⟩ := HOW.out k hlt
        have hst : anyF (fun k => brokeP s (posK s k)) k (N - k) = (brokeP s (posK s k) || anyF (fun k => brokeP s (posK s k)) (k + 1) (N - (k + 1))) := by
          rw [show N - k = (N - (k + 1)) + 1 by omega]
          rfl
        have HST := Lib.hid hst
        clear hst c2
        by_cases hbr : brokeP s (posK s k) = true
        · rw [hbr] at c3
          have hK130 : K = 130 := by
            have h1 := HA.out
            rw [HST.out, hbr, Bool.true_or] at h1
            rw [HK.out, ← h1]
            rfl
          have HK130 := Lib.hid hK130
          clear hK130 hbr
          go_wp2
          go_ret
          exact ⟨by rw [HK130.out]; rfl, HB1.out⟩
        · simp only [Bool.not_eq_true] at hbr
          rw [hbr] at c3
          have HA2 : Hid (anyF (fun k => brokeP s (posK s k)) (k + 1) (N - (k + 1)) = brokenB s) := Lib.hid (by rw [← HA.out, HST.out, hbr, Bool.false_or])
          clear hbr
          go_wp2
          go_roundw
          case rel => exact ⟨k + 1, by omega, by go_num, trivial, HA2⟩
          case measure => simp [RowKit.intOf]; omega
      · obtain rfl : k = N := by omega
        have hb0 : brokenB s = false := by
          have h1 := HA.out
          rw [Nat.sub_self] at h1
          exact h1.symm
        have hk2 := HK.out
        rw [hb0, if_neg (by simp)] at hk2
        have HK2 := Lib.hid hk2
        clear hb0 hk2 HK
        go_wp2
        go_loopw [5] (fun vi wr => ∃ j : Nat, j ≤ k ∧ vi = .int .i64 (j : Int) ∧ w1 = wr ∧ Hid (anyF (fun k => badR (runeK s k)) j (k - j) = anyR badR s)) (fun vi _ => k - (RowKit.intOf vi).toNat)
        case atStart => exact ⟨0, Nat.zero_le _, rfl, rfl, Lib.hid (by rw [← HN.out]; rfl)⟩
        case round =>
          obtain ⟨j, hj, rfl, hww, HA3⟩ := hrel
          subst hww
          by_cases hlt2 : j < k
          · obtain ⟨g, rfl, hnc, c2, c3⟩ := HOW.out j hlt2
            have hst : anyF (fun k => badR (runeK s k)) j (k - j) = (badR (runeK s j) || anyF (fun k => badR (runeK s k)) (j + 1) (k - (j + 1))) := by
              rw [show k - j = (k - (j + 1)) + 1 by omega]
              rfl
            have HST := Lib.hid hst
            clear hst c3
            obtain ⟨r, hr⟩ : ∃ r, runeK s j = r := ⟨_, rfl⟩
            rw [hr] at c2 HST
            clear hr
            by_cases hbr : badR r = true
            · have hK131 : K = 131 := by
                have h1 := HA3.out
                rw [HST.out, hbr, Bool.true_or] at h1
                rw [HK2.out, ← h1]
                rfl
              have HK131 := Lib.hid hK131
              have hcs : r < 32 ∨ (127 ≤ r ∧ r ≤ 159) := by unfold badR at hbr; simpa using hbr
              clear hK131 hbr
              rcases hcs with h1 | ⟨h1, h2⟩
              · go_wp2
                go_ret
                exact ⟨by rw [HK131.out]; rfl, HB1.out⟩
              · have h0 : ¬ r < 32 := by omega
                go_wp2
                go_ret
                exact ⟨by rw [HK131.out]; rfl, HB1.out⟩
            · have hbr2 : badR r = false := by simpa using hbr
              have HA4 : Hid (anyF (fun k => badR (runeK s k)) (j + 1) (k - (j + 1)) = anyR badR s) := Lib.hid (by rw [← HA3.out, HST.out, hbr2, Bool.false_or])
              have hcs : ¬ r < 32 ∧ ¬ (127 ≤ r ∧ r ≤ 159) := by
                unfold badR at hbr2
                simp only [decide_eq_false_iff_not, not_or] at hbr2
                exact hbr2
              clear hbr hbr2
              obtain ⟨h1, h2⟩ := hcs
              by_cases h3 : 127 ≤ r
              · have h4 : ¬ r ≤ 159 := fun h => h2 ⟨h3, h⟩
                clear h2
                go_wp2
                go_roundw
                case rel => exact ⟨j + 1, by omega, by go_num, trivial, HA4⟩
                case measure => simp [RowKit.intOf]; omega
              · clear h2
                go_wp2
                go_roundw
                case rel => exact ⟨j + 1, by omega, by go_num, trivial, HA4⟩
                case measure => simp [RowKit.intOf]; omega
          · obtain rfl : j = k := by omega
            have hb0 : anyR badR s = false := by
              have h1 := HA3.out
              rw [Nat.sub_self] at h1
              exact h1.symm
            have hk3 := HK2.out
            rw [hb0, if_neg (by simp)] at hk3
            have HK3 := Lib.hid hk3
            clear hb0 hk3 HK2
            by_cases hz : s.size = 0
            · have hK132 : Hid (K = 132) := Lib.hid (by rw [HK3.out]; unfold blankB; rw [decide_eq_true (.inl hz)]; rfl)
              clear HK3
              go_wp2
              go_ret
              exact ⟨by rw [hK132.out]; rfl, HB1.out⟩
            · have i0 : ∀ w, (Instr.index 9 (.string s) (.int .i64 0)).run Tryz.prog w = .ok (.int .u8 ((s.get! 0).toNat : Int)) w := fun w => byte_at s 0 (by omega) w
              have i1 : ∀ w, (Instr.index 9 (.string s) (.int .i64 ((s.size : Int) - 1))).run Tryz.prog w = .ok (.int .u8 ((s.get! (s.size - 1)).toNat : Int)) w := fun w => by
                rw [show (s.size : Int) - 1 = ((s.size - 1 : Nat) : Int) by omega]
                exact byte_at s (s.size - 1) (by omega) w
              have hbk : blankB s = decide ((s.get! 0).toNat = 32 ∨ (s.get! (s.size - 1)).toNat = 32) := by
                unfold blankB
                have e : ∀ x : UInt8, x = 32 ↔ x.toNat = 32 := fun x => ⟨fun h => by rw [h]; rfl, fun h => UInt8.toNat_inj.1 (by rw [h]; rfl)⟩
                simp only [e, hz, false_or]
              have hk4 := HK3.out
              rw [hbk] at hk4
              obtain ⟨a, ha⟩ : ∃ a, (s.get! 0).toNat = a := ⟨_, rfl⟩
              obtain ⟨b, hb⟩ : ∃ b, (s.get! (s.size - 1)).toNat = b := ⟨_, rfl⟩
              rw [ha] at i0 hk4
              rw [hb] at i1 hk4
              have HK4 := Lib.hid hk4
              clear HK3 hk4 hbk ha hb
              by_cases h1 : a = 32
              · have hK132 : Hid (K = 132) := Lib.hid (by rw [HK4.out, decide_eq_true (.inl h1)]; rfl)
                subst h1
                clear HK4
                go_wp2
                go_ret
                exact ⟨by rw [hK132.out]; rfl, HB1.out⟩
              · by_cases h2 : b = 32
                · have hK132 : Hid (K = 132) := Lib.hid (by rw [HK4.out, decide_eq_true (.inr h2)]; rfl)
                  subst h2
                  clear HK4
                  have h3 : ((a : Int) == 32) = false := by simp; omega
                  go_wp2
                  go_ret
                  exact ⟨by rw [hK132.out]; rfl, HB1.out⟩
                · have hK0 : Hid (K = 0) := Lib.hid (by rw [HK4.out, decide_eq_false (by simp [h1, h2])]; rfl)
                  clear HK4
                  have h3 : ((a : Int) == 32) = false := by simp; omega
                  have h4 : ((b : Int) == 32) = false := by simp; omega
                  go_wp2
                  go_ret
                  exact ⟨by rw [hK0.out]; rfl, HB1.out⟩
set_option maxRecDepth 100000 in
set_option maxHeartbeats 1000000 in
theorem Sm.checks_law (s : ByteArray) (w : World) (_hs : s.size ≤ 9223372036854775807) (hL : LaysT w) : Calls Tryz.prog 5 #[.string s] w fun e w' => e = .returned (.bool true) ∧ Below w.heap.size w w' := by
  by_cases hl : 300 < s.size
  · have h12 := works_any w hL
    go_enter Tryz.func5, Tryz.ntmps5
    go_wp2_with (go_at_call 12; (with_reducible refine h12.mono ?_); rintro e w1 ⟨rfl, hb1⟩)
    go_ret
    exact ⟨rfl, hb1⟩
  · have c21 := Check_any s w (by omega) hL
    have c22 := fun w => refCheck_any s w (by omega)
    have HL := Lib.hid hL
    clear hL
    go_enter Tryz.func5, Tryz.ntmps5
    go_wp2_with (first
      | (go_at_call 20; (with_reducible refine (num_any _ _).mono ?_); rintro e w' ⟨rfl, rfl⟩)
      | (go_at_call 21; (with_reducible refine c21.mono ?_); clear c21; rintro e w1 ⟨rfl, hb1⟩)
      | (go_at_call 22; (with_reducible refine (c22 _).mono ?_); rintro e w2 ⟨rfl, hb2⟩; replace hb2 := hb1.trans (hb2.mono hb1.size); have h12 := works_any _ (HL.out.keep hb2))
      | (go_at_call 12; (with_reducible refine h12.mono ?_); clear h12; rintro e w3 ⟨rfl, hb3⟩))
    go_ret
    exact ⟨by simp, hb2.trans (hb3.mono hb2.size)⟩
end Go.Proofs
namespace Go.Proofs
open Go Go.RowKit Sm Go.Lib
attribute [local go_sem] Oper.semAt_some
theorem Sm.retM {n : Nat} {P : Program} {fn : Func} {R : Ending → World → Prop} {a : Act} {w : World} {v : Value} (hr : (results fn a.tmps).run P w = .ok v w) (hd : a.defers = []) (hR : R (.returned v) w) : bodyPostM Fence.wide n P fn R .ret a w := by
  show LeavesInM Fence.wide n P fn a.tmps R a.defers .returning w
  rw [hd]
  exact ⟨v, hr, hR⟩
/-- marks of loops that were gone through -/
def Sm.Marks (Ds : List Nat) (lo : Nat) (w : World) : Prop := Ds.Nodup ∧ ∀ D ∈ Ds, lo ≤ D ∧ w.heap[D]? = some (.deferred (some []))
def Sm.markOf (D : Nat) : Deferred := { target := .collected D, args := #[] }
theorem Sm.Marks.on {Ds : List Nat} {lo : Nat} {w w' : World} (h : Marks Ds lo w) (hb : Below w.heap.size w w') : Marks Ds lo w' :=
  ⟨h.1, fun D hD => ⟨(h.2 D hD).1, (hb.block _ (Array.getElem?_eq_some_iff.1 (h.2 D hD).2).1).trans (h.2 D hD).2⟩⟩
theorem Sm.Marks.push {Ds : List Nat} {lo D : Nat} {w w' : World} (h : Marks Ds lo w) (hb : Below w.heap.size w w') (hD : w.heap.size ≤ D) (hl : lo ≤ w.heap.size) (hd : w'.heap[D]? = some (.deferred (some []))) : Marks (D :: Ds) lo w' := by
  have h2 := h.on hb
  refine ⟨List.nodup_cons.2 ⟨fun hm => ?_, h.1⟩, fun E hE => ?_⟩
  · have := (Array.getElem?_eq_some_iff.1 (h.2 D hm).2).1; omega
  · rcases List.mem_cons.1 hE with rfl | hE
    · exact ⟨by omega, hd⟩
    · exact h2.2 E hE
theorem Sm.retM2 {n : Nat} {P : Program} {fn : Func} {R : Ending → World → Prop} {a : Act} {w : World} {v : Value} {D1 D0 : Nat} (hd : a.defers = [markOf D1, markOf D0]) (hne : D1 ≠ D0) (h1 : w.heap[D1]? = some (.deferred (some []))) (h0 : w.heap[D0]? = some (.deferred (some [])))
    (hr : (results fn a.tmps).run P ((w.putObj D1 (.deferred none)).putObj D0 (.deferred none)) = .ok v ((w.putObj D1 (.deferred none)).putObj D0 (.deferred none))) (hR : R (.returned v) ((w.putObj D1 (.deferred none)).putObj D0 (.deferred none))) : bodyPostM Fence.wide n P fn R .ret a w := by
  show LeavesInM Fence.wide n P fn a.tmps R a.defers .returning w
  rw [hd]
  exact ⟨by simp, .inl ⟨_, _, rfl, run_takeDeferred h1, by simp, .inl ⟨_, _, rfl, run_takeDeferred ((World.putObj_heap_other hne.symm).trans h0), v, hr, hR⟩⟩⟩
theorem Sm.wpIn_range2b {P : Program} {g : Operand} {ps : Array Tmp} {assign body : Code} {Q : Exit → Act → World → Prop} {a : Act} {w : World} {n : Nat} {gf : Nat} {lb : Array Value}
    (hg : a.eval g = .func (.func gf) #[] lb) (eg : ∀ args w, (callFunc gf args).run P w = .ok (.enter gf args) w)
    {X : Nat → Prop} {H : Nat → Nat → Array Value → World → Prop} {row : Array Value → Nat → Prop} {Go S Sp : Nat → Prop} (hseq : SeqX P gf lb X H row Go S Sp w)
    (hX : ∀ b, X b → b < w.heap.size) (hH : ∀ k args W W', H (w.heap.size + 2) k args W → But (fun b => b < w.heap.size + 2) W W' → H (w.heap.size + 2) k args W')
    (hrow : ∀ k args W b, H (w.heap.size + 2) k args W → row args b → w.heap.size + 2 ≤ b) (p1 p2 q1 q2 : Nat) (hps : ps = #[p1, p2]) (hargs : ∀ k args W, H (w.heap.size + 2) k args W → ∃ x v, args = #[x, v])
    (I Ix : Nat → World → Prop) (id : Nat) (hI : LowJ w.heap.size I) (hIx : LowJ w.heap.size Ix) (h0 : I 0 w)
    (hassign : ∀ (l : Nat) (x v : Value) (W : World) (K : Act → World → Prop), K { tmps := (((a.tmps.setIfInBounds p1 x).setIfInBounds p2 v).setIfInBounds q1 x).setIfInBounds q2 v, defers := [] } W →
      assign.wpIn (Fence.wide.inRound l) (n - 1 - 1) P (Exit.then K (fun _ _ _ => False)) { tmps := (a.tmps.setIfInBounds p1 x).setIfInBounds p2 v, defers := [] } W)
    (hbody : ∀ (l k : Nat) (x v : Value) (W : World), w.heap.size + 2 ≤ W.heap.size → I k W → H (w.heap.size + 2) k #[x, v] W → body.wpIn (Fence.wide.inRound l) (n - 1 - 1) P (postX Go X row #[x, v] I (fun c k W => c = .exit id ∧ Ix k W) k W) { tmps := (((a.tmps.setIfInBounds p1 x).setIfInBounds p2 v).setIfInBounds q1 x).setIfInBounds q2 v, defers := [] } W)
    (R : Act → World → Prop) (hQn : ∀ a w, R a w → Q .normal a w) (hQx : ∀ a w, R a w → Q (.exit id) a w)
    (hrest : ∀ (W : World), ((∃ k, S k ∧ I k W) ∨ ∃ k, Sp k ∧ Ix k W) → W.heap[w.heap.size]? = some (.deferred (some [])) → R { a with defers := { target := .collected w.heap.size, args := #[] } :: a.defers } W) :
    (Code.rangeFunc g ps assign body).wpIn Fence.wide n P Q a w :=
  wpIn_range2 hg eg hseq hX hH hrow p1 p2 q1 q2 hps hargs I (fun c k W => c = .exit id ∧ Ix k W) hI (fun c k W W' h hb => ⟨h.1, hIx k W W' h.2 hb⟩) h0 hassign hbody
    (fun k W hS hi hD => hQn _ _ (hrest W (.inl ⟨k, hS, hi⟩) hD))
    (fun c k W hSp hx hD => by
      obtain ⟨rfl, hx⟩ := hx
      exact wpIn_exit (hQx _ _ (hrest W (.inr ⟨k, hSp, hx⟩) hD)))
theorem Sm.decN_le (n b0 b1 b2 b3 : Nat) (h0 : b0 < 256) : (decodeN n b0 b1 b2 b3).1 ≤ 1114111 := by
  unfold decodeN
  repeat' split
  all_goals (simp only; omega)
theorem Sm.rune_le (s : ByteArray) (k : Nat) : runeK s k ≤ 1114111 := by
  unfold runeK
  rw [decode_at]
  exact decN_le _ _ _ _ _ (s.get! _).toNat_lt
theorem Sm.wp_dead {P : Program} {c : Code} {K : Act → World → Prop} {Q : Exit → Act → World → Prop} {a : Act} {w : World} (h : c.wp P (Exit.then K (fun _ _ _ => False)) a w) : c.wp P (Exit.then K Q) a w :=
  wp_mono h (fun e a w h => by cases e <;> first | exact h | exact h.elim)
/-- how all stands while the signs are told -/
structure Sm.SgI (s : ByteArray) (many : Int) (L Bw Bx c : Nat) (A : Option Addr) (w W : World) : Prop where
  box : W.heap[Bw]? = some (.cells #[.slice A (cntS s) c] 23 (0, 0))
  row : W.ownsRow L 29 4 (.slice A (cntS s) c) (cntS s) (signsC s (cntS s))
  many_ : W.heap[w.heap.size]? = some (.cells #[.int .i64 many] 3 (0, 0))
  res : W.heap[w.heap.size + 1]? = some (.cells #[.bool false] 4 (0, 0))
  str : W.heap[Bx]? = some (.cells #[.string s] 9 (0, 0))
  below : Below w.heap.size w W
theorem Sm.SgI.on {s : ByteArray} {many : Int} {L Bw Bx c : Nat} {A : Option Addr} {w W W' : World} (h : SgI s many L Bw Bx c A w W) (hb : Below W.heap.size W W') : SgI s many L Bw Bx c A w W' :=
  ⟨(hb.block _ (Array.getElem?_eq_some_iff.1 h.box).1).trans h.box, own_below h.row hb, (hb.block _ (Array.getElem?_eq_some_iff.1 h.many_).1).trans h.many_, (hb.block _ (Array.getElem?_eq_some_iff.1 h.res).1).trans h.res, (hb.block _ (Array.getElem?_eq_some_iff.1 h.str).1).trans h.str, h.below.trans (hb.mono h.below.size)⟩
set_option maxRecDepth 100000 in
set_option maxHeartbeats 8000000 in
theorem Sm.signs_law (s : ByteArray) (many : Int) (w : World) (_hs : s.size ≤ 9223372036854775807) (hy0 : -9223372036854775808 ≤ many) (hy1 : many ≤ 9223372036854775807) (hL : LaysT w) :
    Calls Tryz.prog 3 #[.string s, .int .i64 many] w fun e w' => e = .returned (.bool true) ∧ Below w.heap.size w w' := by
  obtain ⟨wA, hwA⟩ : ∃ wA, (w.alloc (.cells #[.int .i64 many] 3)).alloc (.cells #[.bool false] 4) = wA := ⟨_, rfl⟩
  have hbA : Below w.heap.size w wA := by rw [← hwA]; exact ((Below.refl _ w).alloc (Nat.le_refl _) _).alloc (by simp) _
  have hres0 : wA.heap[w.heap.size + 1]? = some (.cells #[.bool false] 4 (0, 0)) := by
    rw [← hwA]; have := World.alloc_heap_new (w.alloc (.cells #[.int .i64 many] 3)) (.cells #[.bool false] 4); rwa [World.size_alloc] at this
  have hmany0 : wA.heap[w.heap.size]? = some (.cells #[.int .i64 many] 3 (0, 0)) := by
    rw [← hwA]; exact (Below.heap_alloc _ _ _ (by simp)).trans (World.alloc_heap_new w _)
  have hsA : wA.heap.size = w.heap.size + 2 := by rw [← hwA]; simp
  refine (callsIn_wide (n := 3)).1 (callsIn_of_wp_marks Tryz.func3 rfl trivial ?_ rfl)
  refine wpIn_wide.2 ?_
  simp only [Tryz.ntmps3, List.size_toArray, List.length_cons, List.length_nil, Nat.reduceAdd, Nat.reduceSub, Array.replicate_succ, Array.replicate_zero, List.push_toArray, List.append_toArray, List.nil_append, List.cons_append]
  have hwk : ∀ wr, Below w.heap.size w wr → wr.heap[w.heap.size + 1]? = some (.cells #[.bool false] 4 (0, 0)) → Calls Tryz.prog 12 #[] wr fun e w' => e = .returned (.bool true) ∧ w'.heap[w.heap.size + 1]? = some (.cells #[.bool false] 4 (0, 0)) ∧ w'.cell? ⟨w.heap.size + 1, 0, none⟩ = some (.bool false) ∧ w'.frozen? ⟨w.heap.size + 1, 0, none⟩ = false ∧ Below w.heap.size w w' := fun wr hb h => by
    refine (works_any wr (hL.keep hb)).mono ?_
    rintro e w' ⟨h1, h2⟩
    have h3 := (h2.block _ (Array.getElem?_eq_some_iff.1 h).1).trans h
    exact ⟨h1, h3, cell_of_heap h3 0, frozen_of_heap h3 0, hb.trans (h2.mono hb.size)⟩
  by_cases h8 : 300 < s.size
  · have h12 := hwk _ hbA hres0
    go_wp2_with (go_at_call 12; (with_reducible refine h12.mono ?_); clear h12; rintro e w1 ⟨rfl, h1, h2, h3, hb1⟩)
    have h4 := cell_of_heap (heap_setCells (i := 0) (u := .bool true) h1) 0
    exact retM (v := .bool true) (by simp [results, Tryz.results3, go_sem, h4]) rfl ⟨rfl, hb1.setCell (p := ⟨w.heap.size + 1, 0, none⟩) (by simp) _⟩
  · have hm : s.size ≤ 300 := by omega
    have hcs := cntS_le s
    have h13 := Signs_any s wA (by omega)
    obtain ⟨N, hN⟩ : ∃ N, cntS s = N := ⟨_, rfl⟩
    have HN := Lib.hid hN
    rw [hN] at h13 hcs
    have hN3 : N ≤ 300 := by omega
    have hfn : ∀ (wx : World) (a : Addr), (binOp .eql 26 (.func (.func 33) #[] #[.pointer (some a)]) .nilFunc).run Tryz.prog wx = .ok (.bool false) wx := fun wx a => by kernel_rfl
    have HFN := Lib.hid hfn
    clear hN h8 hfn
    go_wp2_with (first
      | (go_at_call 13; (with_reducible refine h13.mono ?_); clear h13; rintro e w2 ⟨A, c, rfl, hrow, hb2⟩)
      | (go_at_call 14; (with_reducible refine (Each_any s _).mono ?_); rintro e w' ⟨rfl, rfl⟩))
    have hz2 := hb2.size
    obtain ⟨w5, hw5⟩ : ∃ w5, (w2.alloc (.cells #[.slice A N c] 23)).alloc (.cells #[.string s] 9) = w5 := ⟨_, rfl⟩
    have hb25 : Below w2.heap.size w2 w5 := by rw [← hw5]; exact ((Below.refl _ w2).alloc (Nat.le_refl _) _).alloc (by simp) _
    have hs5 : w5.heap.size = w2.heap.size + 2 := by rw [← hw5]; simp
    have hS5 : SgI s many wA.heap.size w2.heap.size (w2.heap.size + 1) c A w w5 := by
      refine ⟨?_, ?_, ?_, ?_, ?_, ?_⟩
      · rw [HN.out, ← hw5]
        exact (Below.heap_alloc _ _ _ (by simp)).trans (World.alloc_heap_new w2 _)
      · rw [HN.out]
        exact own_below hrow hb25
      · exact (hb25.block _ (by omega)).trans ((hb2.block _ (by omega)).trans hmany0)
      · exact (hb25.block _ (by omega)).trans ((hb2.block _ (by omega)).trans hres0)
      · rw [← hw5]
        have := World.alloc_heap_new (w2.alloc (.cells #[.slice A N c] 23)) (.cells #[.string s] 9)
        rwa [World.size_alloc] at this
      · exact (hbA.trans (hb2.mono hbA.size)).trans (hb25.mono (by omega))
    obtain ⟨w6, hw6⟩ : ∃ w6, w5.alloc (.cells #[.int .i64 0] 3) = w6 := ⟨_, rfl⟩
    have hb6 : Below w5.heap.size w5 w6 := by rw [← hw6]; exact (Below.refl _ _).alloc (Nat.le_refl _) _
    have hT6 : w6.heap[w2.heap.size + 1 + 1]? = some (.cells #[.int .i64 0] 3 (0, 0)) := by
      rw [← hw6, show w2.heap.size + 1 + 1 = w5.heap.size by omega]
      exact World.alloc_heap_new w5 _
    have hS6 := hS5.on hb6
    have hs6 : w6.heap.size = w2.heap.size + 3 := by rw [← hw6]; simp; omega
    have hc0 : w.heap.size + 2 ≤ w2.heap.size := by omega
    rw [hw5, hw6]
    have HS6 := Lib.hid hS6
    have HT6 := Lib.hid hT6
    have HC0 := Lib.hid hc0
    have HZ6 := Lib.hid hs6
    have HWK := Lib.hid hwk
    clear hw5 hw6 hb25 hs5 hS5 hb6 hT6 hS6 hc0 hs6 hrow hb2 hz2 hres0 hmany0 hbA hwA hsA hwk
    refine wp_loop_rounds 3 ?_
    rw [rounds_succ]
    have HSr0 : Hid (SgI s many wA.heap.size w2.heap.size (w2.heap.size + 1) c A w w6) := HS6
    have kt0 := cell_of_heap (HT6).out 0
    simp only [List.getElem?_toArray, List.getElem?_cons_zero] at kt0
    have hlB0 : (w2.heap.size + 1 + 1) < w6.heap.size := (Array.getElem?_eq_some_iff.1 (HT6).out).1
    have hlw0 : w2.heap.size + 1 < w6.heap.size := (Array.getElem?_eq_some_iff.1 HSr0.out.str).1
    have hlm0 : w.heap.size < w6.heap.size := by have := HC0.out; omega
    obtain ⟨v0, hv0⟩ : ∃ v0, w6.alloc (.cells #[.int .i64 0] 3) = v0 := ⟨_, rfl⟩
    have hsv0 : v0.heap.size = w6.heap.size + 1 := by rw [← hv0]; simp
    have hbv0 : Below w6.heap.size w6 v0 := by rw [← hv0]; exact (Below.refl _ _).alloc (Nat.le_refl _) _
    have hn0 : v0.heap[w6.heap.size]? = some (.cells #[.int .i64 0] 3 (0, 0)) := by rw [← hv0]; exact World.alloc_heap_new _ _
    have HBV0 := Lib.hid hbv0
    have HV0 := Lib.hid hv0
    have HN0 := Lib.hid hn0
    have hfn0 := HFN.out
    clear hv0 hbv0 hn0
    go_wp2
    clear hfn0
    rw [HV0.out]
    refine (wpIn_wide (n := 3)).1 ?_
    refine wpIn_range2b (gf := 33) (lb := #[.pointer (some ⟨w2.heap.size + 1, 0, none⟩)]) rfl (enters_of Tryz.func33 (by kernel_rfl) rfl)
      (each_seq s _ v0 (fun b => b = w6.heap.size) ((HBV0.out.block _ hlw0).trans HSr0.out.str) (fun b e => by omega))
      (fun b e => by omega) ?hH ?hrow 26 27 9 10 rfl ?hargs
      (fun q W => But (fun b => b = w6.heap.size) v0 W ∧ W.heap[w6.heap.size]? = some (.cells #[.int .i64 (q : Int)] 3 (0, 0)) ∧ q ≤ N ∧ (q = 0 ∨ (q : Int) < many))
      (fun q W => But (fun b => b = w6.heap.size) v0 W ∧ W.heap[w6.heap.size]? = some (.cells #[.int .i64 (q : Int)] 3 (0, 0)) ∧ q ≤ N ∧ 1 ≤ q ∧ many ≤ (q : Int) ∧ (q = 1 ∨ (q : Int) - 1 < many))
      2 ?hI ?hIx ⟨But.refl _ _, HN0.out, Nat.zero_le _, .inl rfl⟩ ?assign ?body _ (fun _ _ h => h) (fun _ _ h => h) ?rest
    case hH =>
      rintro k args W1 W' h hb
      exact h
    case hrow =>
      rintro k args W1 b _ h
      exact h.elim
    case hargs =>
      rintro k args W1 ⟨_, rfl⟩
      exact ⟨_, _, rfl⟩
    case hI =>
      rintro q W1 W' ⟨i1, i2, i3⟩ hb
      exact ⟨i1.trans (But.of_below hb) (fun b h1 h2 => by omega), (hb.block _ (by omega)).trans i2, i3⟩
    case hIx =>
      rintro q W1 W' ⟨i1, i2, i3⟩ hb
      exact ⟨i1.trans (But.of_below hb) (fun b h1 h2 => by omega), (hb.block _ (by omega)).trans i2, i3⟩
    case assign =>
      intro l0 x v W1 K hK
      simp only [List.setIfInBounds_toArray, List.set_cons_zero, List.set_cons_succ] at hK ⊢
      gi_wp2
      exact hK
    case body =>
      rintro l0 q x v W1 hsz ⟨i1, i2, i3, i4⟩ ⟨hq, e⟩
      simp only [Array.mk.injEq, List.cons.injEq, and_true] at e
      obtain ⟨rfl, rfl⟩ := e
      simp only [List.setIfInBounds_toArray, List.set_cons_zero, List.set_cons_succ]
      have hbW : Below w6.heap.size w6 W1 := HBV0.out.trans (i1.to_below (n := w6.heap.size) (by omega) (fun b e => by omega))
      have hSW := HSr0.out.on hbW
      have hTW : W1.heap[(w2.heap.size + 1 + 1)]? = some (.cells #[.int .i64 0] 3 (0, 0)) := (hbW.block _ hlB0).trans (HT6).out
      have hown := hSW.row
      obtain ⟨g, cap, eg, hgb, hgl⟩ := hown.form (by omega)
      injection eg with e1 e2 e3
      subst e1
      have c1 : W1.cell? ⟨g, q * 4, none⟩ = some (.int .i64 (posK s q : Int)) := by
        have h1 := hown.cellAt (q * 4) (by omega)
        have h2 := signsC_get s (cntS s) 0 hq (by omega)
        rw [Nat.add_zero] at h2
        rw [h1, h2]; rfl
      have c2 : W1.cell? ⟨g, q * 4 + 2, none⟩ = some (.int .i64 (runeK s q : Int)) := by
        have h1 := hown.cellAt (q * 4 + 2) (by omega)
        have h2 := signsC_get s (cntS s) 2 hq (by omega)
        rw [h1, h2]; rfl
      have k1 := cell_of_heap i2 0
      have k2 := frozen_of_heap i2 0
      have k3 := cell_of_heap hSW.box 0
      have k4 := cell_of_heap hTW 0
      have k5 := cell_of_heap hSW.many_ 0
      simp only [List.getElem?_toArray, List.getElem?_cons_zero] at k1 k3 k4 k5
      rw [HN.out] at k3 hq
      have hq1 : (q : Int) < (N : Int) := by omega
      have hrl := rune_le s q
      obtain ⟨pq, hpq⟩ : ∃ pq, posK s q = pq := ⟨_, rfl⟩
      obtain ⟨rq, hrq⟩ : ∃ rq, runeK s q = rq := ⟨_, rfl⟩
      rw [hpq] at c1 ⊢
      rw [hrq] at c2 hrl ⊢
      have hbq : But (fun b => b = w6.heap.size) W1 (W1.setCell ⟨w6.heap.size, 0, none⟩ (.int .i64 ((q : Int) + 1))) := (But.refl _ _).set ⟨w6.heap.size, 0, none⟩ _ (.inl rfl)
      have hbx := heap_setCells (i := 0) (u := .int .i64 ((q : Int) + 1)) i2
      have HBQ : Hid (But (fun b => b = w6.heap.size ∨ rowE #[.int .i64 (pq : Int), .int .i32 (rq : Int)] b) W1 (W1.setCell ⟨w6.heap.size, 0, none⟩ (.int .i64 ((q : Int) + 1)))) := Lib.hid (hbq.mono (fun b _ e => .inl e))
      have HBI : Hid (But (fun b => b = w6.heap.size) v0 (W1.setCell ⟨w6.heap.size, 0, none⟩ (.int .i64 ((q : Int) + 1)))) := Lib.hid (i1.trans hbq (fun b _ e => e))
      have HBX : Hid ((W1.setCell ⟨w6.heap.size, 0, none⟩ (.int .i64 ((q : Int) + 1))).heap[w6.heap.size]? = some (.cells #[.int .i64 ((q + 1 : Nat) : Int)] 3 (0, 0))) := Lib.hid (by rw [show ((q + 1 : Nat) : Int) = (q : Int) + 1 by omega]; exact hbx)
      have HI4 := Lib.hid i4
      have hqi : (q : Int) ≤ 300 := by omega
      have HQ := Lib.hid hq
      clear hbq hbx i1 i2 i4 hSW hTW hown hgb hgl hpq hrq e2 e3 hbW
      by_cases hmq : many ≤ (q : Int) + 1
      · gi_wp2
        exact ⟨HBQ.out, rfl, HBI.out, HBX.out, HQ.out, by omega, by omega, by have := HI4.out; omega⟩
      · gi_wp2
        exact ⟨trivial, HBQ.out, HBI.out, HBX.out, HQ.out, Or.inr (by omega)⟩
    case rest =>
      intro X0 hor hD
      obtain ⟨M, i1, i2, hM⟩ : ∃ M : Nat, But (fun b => b = w6.heap.size) v0 X0 ∧ X0.heap[w6.heap.size]? = some (.cells #[.int .i64 (M : Int)] 3 (0, 0)) ∧ (M : Int) = min (N : Int) (max 1 many) := by
        rcases hor with ⟨q, hS, i1, i2, i3, i4⟩ | ⟨q, hSp, i1, i2, i3, i5, i6, i7⟩
        · exact ⟨q, i1, i2, by have := i4; have := HN.out; omega⟩
        · exact ⟨q, i1, i2, by omega⟩
      have hbW : Below w6.heap.size w6 X0 := HBV0.out.trans (i1.to_below (n := w6.heap.size) (by omega) (fun b e => by omega))
      have hSW := HSr0.out.on hbW
      have hTW : X0.heap[(w2.heap.size + 1 + 1)]? = some (.cells #[.int .i64 0] 3 (0, 0)) := (hbW.block _ hlB0).trans (HT6).out
      have k1 := cell_of_heap i2 0
      have k3 := cell_of_heap hSW.box 0
      have k4 := cell_of_heap hTW 0
      have k5 := cell_of_heap hSW.many_ 0
      simp only [List.getElem?_toArray, List.getElem?_cons_zero] at k1 k3 k4 k5
      rw [HN.out] at k3
      obtain ⟨Y0, hY0⟩ : ∃ Y0, X0.alloc (.cells #[.int .i64 1] 3) = Y0 := ⟨_, rfl⟩
      have hbY : Below X0.heap.size X0 Y0 := by rw [← hY0]; exact (Below.refl _ _).alloc (Nat.le_refl _) _
      have HSY0 : Hid (SgI s many wA.heap.size w2.heap.size (w2.heap.size + 1) c A w Y0) := Lib.hid (hSW.on hbY)
      have HTY0 : Hid (Y0.heap[X0.heap.size]? = some (.cells #[.int .i64 1] 3 (0, 0))) := Lib.hid (by rw [← hY0]; exact World.alloc_heap_new _ _)
      have HM0 : Hid (Marks [v0.heap.size] (w2.heap.size + 1 + 1) Y0) := Lib.hid ((Marks.push (show Marks [] (w2.heap.size + 1 + 1) w6 from ⟨by simp, fun D hD => by simp at hD⟩) hbW (by omega) (by omega) hD).on hbY)
      have HY0 := Lib.hid hY0
      have HB0 : Hid (Below w6.heap.size w6 Y0) := Lib.hid (hbW.trans (hbY.mono hbW.size))
      have hlx0 : w6.heap.size < X0.heap.size := (Array.getElem?_eq_some_iff.1 i2).1
      have HSV0 := Lib.hid hsv0
      clear hor hD i1 i2 hbW hSW hTW hbY hY0 hsv0
      go_wp2
      all_goals
        rw [HY0.out, rounds_succ]
        clear k1 k3 k4 k5
        have HSr1 : Hid (SgI s many wA.heap.size w2.heap.size (w2.heap.size + 1) c A w Y0) := HSY0
        have kt1 := cell_of_heap (HTY0).out 0
        simp only [List.getElem?_toArray, List.getElem?_cons_zero] at kt1
        have hlB1 : X0.heap.size < Y0.heap.size := (Array.getElem?_eq_some_iff.1 (HTY0).out).1
        have hlw1 : w2.heap.size + 1 < Y0.heap.size := (Array.getElem?_eq_some_iff.1 HSr1.out.str).1
        have hlm1 : w.heap.size < Y0.heap.size := by have := HC0.out; omega
        obtain ⟨v1, hv1⟩ : ∃ v1, Y0.alloc (.cells #[.int .i64 0] 3) = v1 := ⟨_, rfl⟩
        have hsv1 : v1.heap.size = Y0.heap.size + 1 := by rw [← hv1]; simp
        have hbv1 : Below Y0.heap.size Y0 v1 := by rw [← hv1]; exact (Below.refl _ _).alloc (Nat.le_refl _) _
        have hn1 : v1.heap[Y0.heap.size]? = some (.cells #[.int .i64 0] 3 (0, 0)) := by rw [← hv1]; exact World.alloc_heap_new _ _
        have HBV1 := Lib.hid hbv1
        have HV1 := Lib.hid hv1
        have HN1 := Lib.hid hn1
        have hfn1 := HFN.out
        clear hv1 hbv1 hn1
        go_wp2
        clear hfn1
        rw [HV1.out]
        refine (wpIn_wide (n := 3)).1 ?_
        refine wpIn_range2b (gf := 33) (lb := #[.pointer (some ⟨w2.heap.size + 1, 0, none⟩)]) rfl (enters_of Tryz.func33 (by kernel_rfl) rfl)
          (each_seq s _ v1 (fun b => b = Y0.heap.size) ((HBV1.out.block _ hlw1).trans HSr1.out.str) (fun b e => by omega))
          (fun b e => by omega) ?hH ?hrow 26 27 9 10 rfl ?hargs
          (fun q W => But (fun b => b = Y0.heap.size) v1 W ∧ W.heap[Y0.heap.size]? = some (.cells #[.int .i64 (q : Int)] 3 (0, 0)) ∧ q ≤ N ∧ True)
          (fun q W => But (fun b => b = Y0.heap.size) v1 W ∧ W.heap[Y0.heap.size]? = some (.cells #[.int .i64 (q : Int)] 3 (0, 0)) ∧ q ≤ N ∧ False)
          2 ?hI ?hIx ⟨But.refl _ _, HN1.out, Nat.zero_le _, trivial⟩ ?assign ?body _ (fun _ _ h => h) (fun _ _ h => h) ?rest
        case hH =>
          rintro k args W1 W' h hb
          exact h
        case hrow =>
          rintro k args W1 b _ h
          exact h.elim
        case hargs =>
          rintro k args W1 ⟨_, rfl⟩
          exact ⟨_, _, rfl⟩
        case hI =>
          rintro q W1 W' ⟨i1, i2, i3⟩ hb
          exact ⟨i1.trans (But.of_below hb) (fun b h1 h2 => by omega), (hb.block _ (by omega)).trans i2, i3⟩
        case hIx =>
          rintro q W1 W' ⟨i1, i2, i3⟩ hb
          exact ⟨i1.trans (But.of_below hb) (fun b h1 h2 => by omega), (hb.block _ (by omega)).trans i2, i3⟩
        case assign =>
          intro l0 x v W1 K hK
          simp only [List.setIfInBounds_toArray, List.set_cons_zero, List.set_cons_succ] at hK ⊢
          gi_wp2
          exact hK
        case body =>
          rintro l0 q x v W1 hsz ⟨i1, i2, i3, i4⟩ ⟨hq, e⟩
          simp only [Array.mk.injEq, List.cons.injEq, and_true] at e
          obtain ⟨rfl, rfl⟩ := e
          simp only [List.setIfInBounds_toArray, List.set_cons_zero, List.set_cons_succ]
          have hbW : Below Y0.heap.size Y0 W1 := HBV1.out.trans (i1.to_below (n := Y0.heap.size) (by omega) (fun b e => by omega))
          have hSW := HSr1.out.on hbW
          have hTW : W1.heap[X0.heap.size]? = some (.cells #[.int .i64 1] 3 (0, 0)) := (hbW.block _ hlB1).trans (HTY0).out
          have hown := hSW.row
          obtain ⟨g, cap, eg, hgb, hgl⟩ := hown.form (by omega)
          injection eg with e1 e2 e3
          subst e1
          have c1 : W1.cell? ⟨g, q * 4, none⟩ = some (.int .i64 (posK s q : Int)) := by
            have h1 := hown.cellAt (q * 4) (by omega)
            have h2 := signsC_get s (cntS s) 0 hq (by omega)
            rw [Nat.add_zero] at h2
            rw [h1, h2]; rfl
          have c2 : W1.cell? ⟨g, q * 4 + 2, none⟩ = some (.int .i64 (runeK s q : Int)) := by
            have h1 := hown.cellAt (q * 4 + 2) (by omega)
            have h2 := signsC_get s (cntS s) 2 hq (by omega)
            rw [h1, h2]; rfl
          have k1 := cell_of_heap i2 0
          have k2 := frozen_of_heap i2 0
          have k3 := cell_of_heap hSW.box 0
          have k4 := cell_of_heap hTW 0
          have k5 := cell_of_heap hSW.many_ 0
          simp only [List.getElem?_toArray, List.getElem?_cons_zero] at k1 k3 k4 k5
          rw [HN.out] at k3 hq
          have hq1 : (q : Int) < (N : Int) := by omega
          have hrl := rune_le s q
          obtain ⟨pq, hpq⟩ : ∃ pq, posK s q = pq := ⟨_, rfl⟩
          obtain ⟨rq, hrq⟩ : ∃ rq, runeK s q = rq := ⟨_, rfl⟩
          rw [hpq] at c1 ⊢
          rw [hrq] at c2 hrl ⊢
          have hbq : But (fun b => b = Y0.heap.size) W1 (W1.setCell ⟨Y0.heap.size, 0, none⟩ (.int .i64 ((q : Int) + 1))) := (But.refl _ _).set ⟨Y0.heap.size, 0, none⟩ _ (.inl rfl)
          have hbx := heap_setCells (i := 0) (u := .int .i64 ((q : Int) + 1)) i2
          have HBQ : Hid (But (fun b => b = Y0.heap.size ∨ rowE #[.int .i64 (pq : Int), .int .i32 (rq : Int)] b) W1 (W1.setCell ⟨Y0.heap.size, 0, none⟩ (.int .i64 ((q : Int) + 1)))) := Lib.hid (hbq.mono (fun b _ e => .inl e))
          have HBI : Hid (But (fun b => b = Y0.heap.size) v1 (W1.setCell ⟨Y0.heap.size, 0, none⟩ (.int .i64 ((q : Int) + 1)))) := Lib.hid (i1.trans hbq (fun b _ e => e))
          have HBX : Hid ((W1.setCell ⟨Y0.heap.size, 0, none⟩ (.int .i64 ((q : Int) + 1))).heap[Y0.heap.size]? = some (.cells #[.int .i64 ((q + 1 : Nat) : Int)] 3 (0, 0))) := Lib.hid (by rw [show ((q + 1 : Nat) : Int) = (q : Int) + 1 by omega]; exact hbx)
          have HI4 := Lib.hid i4
          have hqi : (q : Int) ≤ 300 := by omega
          have HQ := Lib.hid hq
          clear hbq hbx i1 i2 i4 hSW hTW hown hgb hgl hpq hrq e2 e3 hbW
          gi_wp2
          exact ⟨trivial, HBQ.out, HBI.out, HBX.out, HQ.out, trivial⟩
        case rest =>
          intro X1 hor hD
          obtain ⟨i1, i2⟩ : But (fun b => b = Y0.heap.size) v1 X1 ∧ X1.heap[Y0.heap.size]? = some (.cells #[.int .i64 (N : Int)] 3 (0, 0)) := by
            rcases hor with ⟨q, hS, i1, i2, i3, i4⟩ | ⟨q, hSp, i1, i2, i3, i4⟩
            · obtain rfl : q = N := by have := HN.out; omega
              exact ⟨i1, i2⟩
            · exact i4.elim
          have hbW : Below Y0.heap.size Y0 X1 := HBV1.out.trans (i1.to_below (n := Y0.heap.size) (by omega) (fun b e => by omega))
          have hSW := HSr1.out.on hbW
          have hTW : X1.heap[X0.heap.size]? = some (.cells #[.int .i64 1] 3 (0, 0)) := (hbW.block _ hlB1).trans (HTY0).out
          have k1 := cell_of_heap i2 0
          have k3 := cell_of_heap hSW.box 0
          have k4 := cell_of_heap hTW 0
          have k5 := cell_of_heap hSW.many_ 0
          simp only [List.getElem?_toArray, List.getElem?_cons_zero] at k1 k3 k4 k5
          rw [HN.out] at k3
          obtain ⟨Y1, hY1⟩ : ∃ Y1, X1.alloc (.cells #[.int .i64 2] 3) = Y1 := ⟨_, rfl⟩
          have hbY : Below X1.heap.size X1 Y1 := by rw [← hY1]; exact (Below.refl _ _).alloc (Nat.le_refl _) _
          have HSY1 : Hid (SgI s many wA.heap.size w2.heap.size (w2.heap.size + 1) c A w Y1) := Lib.hid (hSW.on hbY)
          have HTY1 : Hid (Y1.heap[X1.heap.size]? = some (.cells #[.int .i64 2] 3 (0, 0))) := Lib.hid (by rw [← hY1]; exact World.alloc_heap_new _ _)
          have HM1 : Hid (Marks [v1.heap.size, v0.heap.size] (w2.heap.size + 1 + 1) Y1) := Lib.hid ((Marks.push HM0.out hbW (by omega) (by omega) hD).on hbY)
          have HY1 := Lib.hid hY1
          have HB1 : Hid (Below Y0.heap.size Y0 Y1) := Lib.hid (hbW.trans (hbY.mono hbW.size))
          have hlx1 : Y0.heap.size < X1.heap.size := (Array.getElem?_eq_some_iff.1 i2).1
          have HSV1 := Lib.hid hsv1
          clear hor hD i1 i2 hbW hSW hTW hbY hY1 hsv1
          go_wp2
          all_goals
            rw [HY1.out, rounds_succ]
            clear k1 k3 k4 k5
            have kt2 := cell_of_heap HTY1.out 0
            simp only [List.getElem?_toArray, List.getElem?_cons_zero] at kt2
            have hl2 : X1.heap.size < Y1.heap.size := (Array.getElem?_eq_some_iff.1 HTY1.out).1
            have hlw : w2.heap.size < Y1.heap.size := (Array.getElem?_eq_some_iff.1 HSY1.out.box).1
            have hlr : w.heap.size + 1 < Y1.heap.size := (Array.getElem?_eq_some_iff.1 HSY1.out.res).1
            have hbxF : ∀ W, Below Y1.heap.size Y1 W → W.cell? ⟨w2.heap.size, 0, none⟩ = some (.slice A N c) := fun W hb => by
              have := cell_of_heap ((hb.block _ hlw).trans HSY1.out.box) 0
              rwa [HN.out] at this
            have c15 : ∀ W, Calls Tryz.prog 15 #[.string s] W fun e w' => e = .returned (.int .i64 (N : Int)) ∧ Below W.heap.size W w' := fun W => by
              have := Len_any s W (by omega)
              rwa [HN.out] at this
            have h12 : ∀ W, Below Y1.heap.size Y1 W → Calls Tryz.prog 12 #[] W fun e w9 => e = .returned (.bool true) ∧ w9.heap[w.heap.size + 1]? = some (.cells #[.bool false] 4 (0, 0)) ∧ w9.cell? ⟨w.heap.size + 1, 0, none⟩ = some (.bool false) ∧ w9.frozen? ⟨w.heap.size + 1, 0, none⟩ = false ∧ Below w.heap.size w w9 ∧ Hid (Marks [v1.heap.size, v0.heap.size] (w2.heap.size + 1 + 1) w9) ∧ w9.cell? ⟨w2.heap.size, 0, none⟩ = some (.slice A N c) ∧ (w9.setCell ⟨w.heap.size + 1, 0, none⟩ (.bool true)).cell? ⟨w2.heap.size, 0, none⟩ = some (.slice A N c) := fun W hb => by
              have hS := HSY1.out.on hb
              refine (works_any W (hL.keep hS.below)).mono ?_
              rintro e w9 ⟨h1, h2⟩
              have h3 := (h2.block _ (Array.getElem?_eq_some_iff.1 hS.res).1).trans hS.res
              exact ⟨h1, h3, cell_of_heap h3 0, frozen_of_heap h3 0, hS.below.trans (h2.mono hS.below.size), Lib.hid ((HM1.out.on hb).on h2), hbxF _ (hb.trans (h2.mono hb.size)), by
                have h5 := ((hb.trans (h2.mono hb.size)).block _ hlw).trans HSY1.out.box
                have h6 := cell_of_heap ((Below.heap_setCell _ ⟨w.heap.size + 1, 0, none⟩ (.bool true) _ (by have := HC0.out; simp; omega)).trans h5) 0
                rwa [HN.out] at h6⟩
            have HBX := Lib.hid hbxF
            have H15 := Lib.hid c15
            have H12 := Lib.hid h12
            have q0 := hbxF Y1 (Below.refl _ _)
            have q0d := hbxF Y1.drew (Below.refl _ _).drew
            clear hbxF c15 h12
            go_upto_region 22 with fail
            go_cut [89] from 82 to 89 (fun s89 wx => s89 = .bool true ∧ Hid (wx.heap[w.heap.size + 1]? = some (.cells #[.bool true] 4 (0, 0))) ∧ Hid (Below w.heap.size w wx) ∧ Hid (Marks [v1.heap.size, v0.heap.size] (w2.heap.size + 1 + 1) wx))
            case first =>
              refine wp_dead ?_
              go_region_held_law (fun W => W.cell? ⟨w2.heap.size, 0, none⟩ = some (.slice A N c))
                (first | exact q3 | exact q2 | exact q1 | exact q0d | exact q0)
                (first
                | (go_at_call 15; (with_reducible refine (H15.out _).mono ?_); rintro e w7 ⟨rfl, hb7⟩; have HB7 : Hid (Below Y1.heap.size Y1 w7) := Lib.hid ((Below.refl _ _).drew.trans hb7); have q1 := HBX.out w7 HB7.out; clear hb7)
                | (go_at_call 12; (with_reducible refine (H12.out _ HB7.out).mono ?_); rintro e w9 ⟨rfl, r1, r2, r3, r4, r5, q2, q3⟩))
              all_goals
                have HR9 := Lib.hid (heap_setCells (i := 0) (u := .bool true) r1)
                have HB9 : Hid (Below w.heap.size w (w9.setCell ⟨w.heap.size + 1, 0, none⟩ (.bool true))) := Lib.hid (r4.setCell (p := ⟨w.heap.size + 1, 0, none⟩) (by simp) (.bool true))
                have HM9 : Hid (Marks [v1.heap.size, v0.heap.size] (w2.heap.size + 1 + 1) (w9.setCell ⟨w.heap.size + 1, 0, none⟩ (.bool true))) := Lib.hid ⟨r5.out.1, fun D hD => ⟨(r5.out.2 D hD).1, (Below.heap_setCell _ ⟨w.heap.size + 1, 0, none⟩ _ _ (by have := HC0.out; have := (r5.out.2 D hD).1; simp; omega)).trans (r5.out.2 D hD).2⟩⟩
                go_wp2
                go_meet
                exact ⟨rfl, HR9, HB9, HM9⟩
            case rest =>
              obtain ⟨rfl, HR9, HB9, HM9⟩ := hcut
              obtain ⟨hnd, hmd⟩ := HM9.out
              have m1 := hmd v1.heap.size (by simp)
              have m0 := hmd v0.heap.size (by simp)
              have hne : v1.heap.size ≠ v0.heap.size := by simpa using hnd
              clear hmd hnd
              go_wp2
              have hc2 := HC0.out
              have h4 : ((wc.putObj v1.heap.size (.deferred none)).putObj v0.heap.size (.deferred none)).cell? ⟨w.heap.size + 1, 0, none⟩ = some (.bool true) :=
                cell_of_heap ((World.putObj_heap_other (by omega)).trans ((World.putObj_heap_other (by omega)).trans HR9.out)) 0
              have hbz : Below w.heap.size w ((wc.putObj v1.heap.size (.deferred none)).putObj v0.heap.size (.deferred none)) := by
                have h5 := HB9.out
                have h6 := h5.trans ((put_but _ v1.heap.size (.deferred none)).to_below h5.size (fun b e => by omega))
                exact h6.trans ((put_but _ v0.heap.size (.deferred none)).to_below h6.size (fun b e => by omega))
              exact retM2 (v := .bool true) rfl hne m1.2 m0.2 (by simp [results, Tryz.results3, go_sem, h4]) ⟨rfl, hbz⟩
end Go.Proofs
namespace Go.Proofs
open Go Go.RowKit Sm Go.Lib
attribute [local go_sem] Oper.semAt_some
theorem Sm.ib_of {x : Int} (h0 : 0 ≤ x) (h1 : x < 256) : ib (BitVec.ofNat 8 x.toNat) = x := by
  unfold ib
  rw [BitVec.toNat_ofNat]
  omega
/-- a row of bytes that was just made -/
theorem Sm.rd_new (W : World) (xs : List Int) (hx : ∀ x ∈ xs, 0 ≤ x ∧ x < 256) : Rd (W.alloc (.cells (xs.map (fun x => Value.int .u8 x)).toArray 5)) (W.heap.size + 1) (some ⟨W.heap.size, 0, none⟩) (xs.map fun x => BitVec.ofNat 8 x.toNat) := fun _ => by
  refine ⟨_, _, rfl, by omega, fun j c hj => ?_⟩
  rw [List.getElem?_map] at hj
  cases hx1 : xs[j]? with
  | none => rw [hx1] at hj; cases hj
  | some x =>
    rw [hx1] at hj
    injection hj with hj
    subst hj
    have hm := hx x (List.mem_of_getElem? hx1)
    rw [ib_of hm.1 hm.2, Nat.zero_add, cell_of_heap (World.alloc_heap_new W _) j]
    simp [hx1]
structure Sm.PtF (w wx : World) (A : Option Addr) (m : Nat) (l : List (BitVec 8)) : Prop where
  len : l.length = m
  rd : Rd wx wx.heap.size A l
  below : Below w.heap.size w wx
  res : wx.heap[w.heap.size]? = some (.cells #[.bool false] 4 (0, 0))
theorem Sm.PtF.on {w wx w' : World} {A : Option Addr} {m : Nat} {l : List (BitVec 8)} (h : PtF w wx A m l) (hb : Below wx.heap.size wx w') : PtF w w' A m l :=
  ⟨h.len, (h.rd.below hb).more hb.size, h.below.trans (hb.mono h.below.size), (hb.block _ (Array.getElem?_eq_some_iff.1 h.res).1).trans h.res⟩
theorem Sm.PtF.new {w W : World} (hb : Below w.heap.size w W) (hr : W.heap[w.heap.size]? = some (.cells #[.bool false] 4 (0, 0))) (xs : List Int) (hx : ∀ x ∈ xs, 0 ≤ x ∧ x < 256) :
    PtF w (W.alloc (.cells (xs.map (fun x => Value.int .u8 x)).toArray 5)) (some ⟨W.heap.size, 0, none⟩) xs.length (xs.map fun x => BitVec.ofNat 8 x.toNat) :=
  ⟨by simp, by rw [World.size_alloc]; exact rd_new W xs hx, hb.alloc hb.size _, (Below.heap_alloc _ _ _ (Array.getElem?_eq_some_iff.1 hr).1).trans hr⟩
/-- how all stands while the signs are told -/
structure Sm.PtI (S : ByteArray) (L Bw Bx c2 : Nat) (A2 : Option Addr) (w W : World) (A : Option Addr) (m : Nat) (l : List (BitVec 8)) : Prop where
  box : W.heap[Bw]? = some (.cells #[.slice A2 (cntS S) c2] 23 (0, 0))
  row : W.ownsRow L 29 4 (.slice A2 (cntS S) c2) (cntS S) (signsC S (cntS S))
  str : W.heap[Bx]? = some (.cells #[.string S] 9 (0, 0))
  pt : PtF w W A m l
theorem Sm.PtI.on {S : ByteArray} {L Bw Bx c2 : Nat} {A2 : Option Addr} {w W W' : World} {A : Option Addr} {m : Nat} {l : List (BitVec 8)} (h : PtI S L Bw Bx c2 A2 w W A m l) (hb : Below W.heap.size W W') : PtI S L Bw Bx c2 A2 w W' A m l :=
  ⟨(hb.block _ (Array.getElem?_eq_some_iff.1 h.box).1).trans h.box, own_below h.row hb, (hb.block _ (Array.getElem?_eq_some_iff.1 h.str).1).trans h.str, h.pt.on hb⟩
set_option maxRecDepth 100000 in
set_option maxHeartbeats 8000000 in
theorem Sm.point_law (n k : Int) (w : World) (h0 : -9223372036854775808 ≤ n) (h1 : n ≤ 9223372036854775807) (k0 : -9223372036854775808 ≤ k) (k1 : k ≤ 9223372036854775807) (hL : LaysT w) :
    Calls Tryz.prog 6 #[.int .i64 n, .int .i64 k] w fun e w' => e = .returned (.bool true) ∧ Below w.heap.size w w' := by
  have hb0 : Below w.heap.size w (w.alloc (.cells #[.bool false] 4)) := (Below.refl _ _).alloc (Nat.le_refl _) _
  have hres0 : (w.alloc (.cells #[.bool false] 4)).heap[w.heap.size]? = some (.cells #[.bool false] 4 (0, 0)) := World.alloc_heap_new w _
  have hwk : ∀ wr, Below w.heap.size w wr → wr.heap[w.heap.size]? = some (.cells #[.bool false] 4 (0, 0)) → Calls Tryz.prog 12 #[] wr fun e w' => e = .returned (.bool true) ∧ w'.heap[w.heap.size]? = some (.cells #[.bool false] 4 (0, 0)) ∧ w'.cell? ⟨w.heap.size, 0, none⟩ = some (.bool false) ∧ w'.frozen? ⟨w.heap.size, 0, none⟩ = false ∧ Below w.heap.size w w' ∧ Below wr.heap.size wr w' := fun wr hb h => by
    refine (works_any wr (hL.keep hb)).mono ?_
    rintro e w' ⟨h1, h2⟩
    have h3 := (h2.block _ (Array.getElem?_eq_some_iff.1 h).1).trans h
    exact ⟨h1, h3, cell_of_heap h3 0, frozen_of_heap h3 0, hb.trans (h2.mono hb.size), h2⟩
  refine (callsIn_wide (n := 3)).1 (callsIn_of_wp_marks Tryz.func6 rfl trivial ?_ rfl)
  refine wpIn_wide.2 ?_
  simp only [Tryz.ntmps6, List.size_toArray, List.length_cons, List.length_nil, Nat.reduceAdd, Nat.reduceSub, Array.replicate_succ, Array.replicate_zero, List.push_toArray, List.append_toArray, List.nil_append, List.cons_append]
  by_cases hbad : n < 0 ∨ 2097151 < n ∨ k < 1 ∨ 4 < k
  · have h12 := hwk _ hb0 hres0
    clear hwk hb0 hres0
    go_upto_region 1 with fail
    go_cut [24] from 11 to 24 (fun s24 wx => s24 = .bool true ∧ wx = w.alloc (.cells #[.bool false] 4))
    case first =>
      by_cases a1 : n < 0
      · go_wp2
        go_meet
        exact ⟨rfl, rfl⟩
      · by_cases a2 : 2097151 < n
        · go_wp2
          go_meet
          exact ⟨rfl, rfl⟩
        · by_cases a3 : k < 1
          · go_wp2
            go_meet
            exact ⟨rfl, rfl⟩
          · have a4 : 4 < k := by omega
            go_wp2
            go_meet
            exact ⟨rfl, rfl⟩
    case rest =>
      obtain ⟨rfl, rfl⟩ := hcut
      go_wp2_with (go_at_call 12; (with_reducible refine h12.mono ?_); clear h12; rintro e w1 ⟨rfl, h1, h2, h3, hb1, _⟩)
      have h4 := cell_of_heap (heap_setCells (i := 0) (u := .bool true) h1) 0
      exact retM (v := .bool true) (by simp [results, Tryz.results6, go_sem, h4]) rfl ⟨rfl, hb1.setCell (p := ⟨w.heap.size, 0, none⟩) (Nat.le_refl _) _⟩
  · obtain ⟨N, rfl⟩ : ∃ N : Nat, n = (N : Int) := ⟨n.toNat, by omega⟩
    have hN : N ≤ 2097151 := by omega
    have hk : k = 1 ∨ k = 2 ∨ k = 3 ∨ k = 4 := by omega
    clear hbad h0 h1 k0 k1
    have hx1 : (0 : Int) ≤ (N : Int) % 128 ∧ (N : Int) % 128 < 256 := by omega
    have hP1 := PtF.new hb0 hres0 [(N : Int) % 128] (by simpa using hx1)
    have hb1 : Below w.heap.size w ((w.alloc (.cells #[.bool false] 4)).alloc (.cells #[.int .u8 ((N : Int) % 128)] 5)) := hP1.below
    have hres1 : ((w.alloc (.cells #[.bool false] 4)).alloc (.cells #[.int .u8 ((N : Int) % 128)] 5)).heap[w.heap.size]? = some (.cells #[.bool false] 4 (0, 0)) := hP1.res
    have HP1 := Lib.hid hP1
    have HB1 := Lib.hid hb1
    have HR1 := Lib.hid hres1
    have hs1 : ((w.alloc (.cells #[.bool false] 4)).alloc (.cells #[.int .u8 ((N : Int) % 128)] 5)).heap.size = w.heap.size + 1 + 1 := by simp
    have HS1 := Lib.hid hs1
    clear hx1 hP1 hb1 hres1 hb0 hres0 hs1
    go_upto_block 0 with fail
    go_cut [5] from 30 to 81 (fun s5 wx => ∃ (A : Option Addr) (m c : Nat) (l : List (BitVec 8)), s5 = .slice A m c ∧ m ≤ 4 ∧ m ≤ c ∧ Hid (PtF w wx A m l) ∧ Hid (∀ b off, A = some ⟨b, off, none⟩ → w.heap.size < b))
    case first =>
      rcases hk with rfl | rfl | rfl | rfl
      · go_wp2
        go_meet
        exact ⟨_, 1, 1, _, rfl, by omega, by omega, Lib.hid (by have := HP1.out; rw [World.size_alloc] at this; exact this), Lib.hid fun b off e => by injection e with e; injection e with e1 e2; omega⟩
      · have hx2 : ∀ x ∈ [192 + (N : Int) / 64 % 32, 128 + (N : Int) % 64], 0 ≤ x ∧ x < 256 := by
          intro x hx
          simp only [List.mem_cons, List.not_mem_nil, or_false] at hx
          omega
        have hP2 := PtF.new HB1.out HR1.out _ hx2
        rw [HS1.out] at hP2
        have HP2 := Lib.hid hP2
        clear hx2 hP2
        go_wp2
        go_meet
        exact ⟨_, 2, 2, _, rfl, by omega, by omega, Lib.hid HP2.out, Lib.hid fun b off e => by injection e with e; injection e with e1 e2; omega⟩
      · have hx2 : ∀ x ∈ [224 + (N : Int) / 4096 % 16, 128 + (N : Int) / 64 % 64, 128 + (N : Int) % 64], 0 ≤ x ∧ x < 256 := by
          intro x hx
          simp only [List.mem_cons, List.not_mem_nil, or_false] at hx
          omega
        have hP2 := PtF.new HB1.out HR1.out _ hx2
        rw [HS1.out] at hP2
        have HP2 := Lib.hid hP2
        clear hx2 hP2
        go_wp2
        go_meet
        exact ⟨_, 3, 3, _, rfl, by omega, by omega, Lib.hid HP2.out, Lib.hid fun b off e => by injection e with e; injection e with e1 e2; omega⟩
      · have hx2 : ∀ x ∈ [240 + (N : Int) / 262144 % 8, 128 + (N : Int) / 4096 % 64, 128 + (N : Int) / 64 % 64, 128 + (N : Int) % 64], 0 ≤ x ∧ x < 256 := by
          intro x hx
          simp only [List.mem_cons, List.not_mem_nil, or_false] at hx
          omega
        have hP2 := PtF.new HB1.out HR1.out _ hx2
        rw [HS1.out] at hP2
        have HP2 := Lib.hid hP2
        clear hx2 hP2
        go_wp2
        go_meet
        exact ⟨_, 4, 4, _, rfl, by omega, by omega, Lib.hid HP2.out, Lib.hid fun b off e => by injection e with e; injection e with e1 e2; omega⟩
    case rest =>
      obtain ⟨A, m, c, l, rfl, hm4, hmc, HP, HLO⟩ := hcut
      have HWK := Lib.hid hwk
      clear HP1 HB1 HR1 HS1 hk hN hwk
      have hcv : ∀ W, Below wc.heap.size wc W → (convert 38 9 (.slice A m c)).run Tryz.prog W = .ok (.string (strB l)) W := fun W hb => run_str (P := Tryz.prog) W 38 5 Tryz.underlying38 Tryz.underlying5 l m c W.heap.size A HP.out.len (HP.out.on hb).rd 9 Tryz.underlying9
      have hlz : (strB l).size = m := by rw [strB_length]; exact HP.out.len
      obtain ⟨B, hB⟩ : ∃ B, strB l = B := ⟨_, rfl⟩
      rw [hB] at hcv hlz
      have hBz : B.size ≤ 4 := by omega
      obtain ⟨S, hS⟩ : ∃ S, ({ data := #[97] } : ByteArray) ++ B ++ { data := #[122] } = S := ⟨_, rfl⟩
      have hSz : S.size ≤ 300 := by
        rw [← hS, ByteArray.size_append, ByteArray.size_append]
        have e1 : ({ data := #[97] } : ByteArray).size = 1 := rfl
        have e2 : ({ data := #[122] } : ByteArray).size = 1 := rfl
        omega
      have HCV := Lib.hid hcv
      have q0 := hcv wc (Below.refl _ _)
      have HS := Lib.hid hS
      have h13 : ∀ W, Calls Tryz.prog 13 #[.string S] W fun e w' => ∃ A c, e = .returned (.slice A (cntS S) c) ∧ w'.ownsRow W.heap.size 29 4 (.slice A (cntS S) c) (cntS S) (signsC S (cntS S)) ∧ Below W.heap.size W w' := fun W => Signs_any S W (by omega)
      have H13 := Lib.hid h13
      have hfn : ∀ (wx : World) (a : Addr), (binOp .eql 26 (.func (.func 33) #[] #[.pointer (some a)]) .nilFunc).run Tryz.prog wx = .ok (.bool false) wx := fun wx a => by kernel_rfl
      have hcv3 : ∀ W, (l.length = m ∧ Rd W W.heap.size A l) → (convert 38 9 (.slice A m c)).run Tryz.prog W = .ok (.string B) W := fun W h => by
        have := run_str (P := Tryz.prog) W 38 5 Tryz.underlying38 Tryz.underlying5 l m c W.heap.size A h.1 h.2 9 Tryz.underlying9
        rwa [hB] at this
      have HCV3 := Lib.hid hcv3
      have HCV2 : Hid (∀ W, PtF w W A m l → (convert 38 9 (.slice A m c)).run Tryz.prog W = .ok (.string B) W) := Lib.hid fun W h => hcv3 W ⟨h.len, h.rd⟩
      have HRDW : Hid (0 < l.length → ∃ b off, A = some ⟨b, off, none⟩ ∧ b < wc.heap.size ∧ w.heap.size < b) := Lib.hid fun h0 => by
        obtain ⟨b, off, e, hb, _⟩ := HP.out.rd h0
        exact ⟨b, off, e, hb, HLO.out b off e⟩
      clear hcv hB hlz h13 hS hcv3
      go_upto_region 12 with fail
      rw [HS.out]
      clear q0 HS
      obtain ⟨N2, hN2⟩ : ∃ N2, cntS S = N2 := ⟨_, rfl⟩
      have HN := Lib.hid hN2
      have hcs := cntS_le S
      rw [hN2] at H13 hcs
      have hN3 : N2 ≤ 300 := by omega
      clear hN2
      go_wp2_with (first
        | (go_at_call 13; (with_reducible refine (H13.out _).mono ?_); rintro e w2 ⟨A2, c2, rfl, hrow, hb2⟩)
        | (go_at_call 14; (with_reducible refine (Each_any S _).mono ?_); rintro e w' ⟨rfl, rfl⟩))
      have hz2 := hb2.size
      obtain ⟨v0, hv0⟩ : ∃ v0, (((w2.alloc (.cells #[.slice A2 N2 c2] 23)).alloc (.cells #[.int .i64 0] 3)).alloc (.cells #[.string S] 9)).alloc (.cells #[.string S] 9) = v0 := ⟨_, rfl⟩
      have hb20 : Below w2.heap.size w2 v0 := by rw [← hv0]; exact ((((Below.refl _ w2).alloc (Nat.le_refl _) _).alloc (by simp) _).alloc (by simp; omega) _).alloc (by simp; omega) _
      have hsv : v0.heap.size = w2.heap.size + 4 := by rw [← hv0]; simp
      have hn0 : v0.heap[w2.heap.size + 1]? = some (.cells #[.int .i64 0] 3 (0, 0)) := by
        rw [← hv0]
        have := World.alloc_heap_new (w2.alloc (.cells #[.slice A2 N2 c2] 23)) (.cells #[.int .i64 0] 3)
        rw [World.size_alloc] at this
        exact (Below.heap_alloc _ _ _ (by simp)).trans ((Below.heap_alloc _ _ _ (by simp)).trans this)
      have hI0 : PtI S wc.heap.size w2.heap.size (w2.heap.size + 1 + 1 + 1) c2 A2 w v0 A m l := by
        refine ⟨?_, ?_, ?_, (HP.out.on hb2).on hb20⟩
        · rw [HN.out, ← hv0]
          exact (Below.heap_alloc _ _ _ (by simp; omega)).trans ((Below.heap_alloc _ _ _ (by simp; omega)).trans ((Below.heap_alloc _ _ _ (by simp)).trans (World.alloc_heap_new w2 _)))
        · rw [HN.out]
          exact own_below hrow hb20
        · rw [← hv0]
          have := World.alloc_heap_new (((w2.alloc (.cells #[.slice A2 N2 c2] 23)).alloc (.cells #[.int .i64 0] 3)).alloc (.cells #[.string S] 9)) (.cells #[.string S] 9)
          simpa only [World.size_alloc] using this
      have hbc0 : Below wc.heap.size wc v0 := hb2.trans (hb20.mono hz2)
      have hrl2 : ∀ g, (Value.slice A2 (cntS S) c2).ownBlock = some g → g < w2.heap.size := fun g e => by rw [HN.out] at e; exact (hrow.lt g e).2
      have HRL := Lib.hid hrl2
      have hwl : w.heap.size < wc.heap.size := (Array.getElem?_eq_some_iff.1 HP.out.res).1
      rw [hv0]
      have HI0 := Lib.hid hI0
      have HN0 := Lib.hid hn0
      have HBC := Lib.hid hbc0
      clear hv0 hb20 hn0 hI0 hbc0 hrow hb2 HP hfn hrl2
      refine (wpIn_wide (n := 3)).1 ?_
      refine wpIn_range2 (gf := 33) (lb := #[.pointer (some ⟨w2.heap.size + 1 + 1 + 1, 0, none⟩)]) rfl (enters_of Tryz.func33 (by kernel_rfl) rfl)
        (each_seq S _ v0 (fun b => b = w2.heap.size + 1) HI0.out.str (fun b e => by omega))
        (fun b e => by omega) ?hH ?hrow 93 94 9 10 rfl ?hargs
        (fun q W => But (fun b => b = w2.heap.size + 1) v0 W ∧ W.heap[w2.heap.size + 1]? = some (.cells #[.int .i64 (q : Int)] 3 (0, 0)) ∧ q ≤ N2)
        (fun _ _ _ => False) ?hI ?hIx ⟨But.refl _ _, HN0.out, Nat.zero_le _⟩ ?assign ?body ?done ?stop
      case hH =>
        rintro k args W1 W' h hb
        exact h
      case hrow =>
        rintro k args W1 b _ h
        exact h.elim
      case hargs =>
        rintro k args W1 ⟨_, rfl⟩
        exact ⟨_, _, rfl⟩
      case hI =>
        rintro q W1 W' ⟨i1, i2, i3⟩ hb
        exact ⟨i1.trans (But.of_below hb) (fun b h1 h2 => by omega), (hb.block _ (by omega)).trans i2, i3⟩
      case hIx =>
        rintro cd q W1 W' h hb
        exact h
      case assign =>
        intro l0 x v W1 K hK
        simp only [List.setIfInBounds_toArray, List.set_cons_zero, List.set_cons_succ] at hK ⊢
        gi_wp2
        exact hK
      case body =>
        rintro l0 q x v W1 hsz ⟨i1, i2, i3⟩ ⟨hq, e⟩
        simp only [Array.mk.injEq, List.cons.injEq, and_true] at e
        obtain ⟨rfl, rfl⟩ := e
        simp only [List.setIfInBounds_toArray, List.set_cons_zero, List.set_cons_succ]
        have hown := i1.row HI0.out.row (fun g e h => by have := HRL.out g e; omega)
        have hbx := i1.box HI0.out.box (by omega)
        obtain ⟨g, cap, eg, hgb, hgl⟩ := hown.form (by omega)
        injection eg with e1 e2 e3
        subst e1
        have c1 : W1.cell? ⟨g, q * 4, none⟩ = some (.int .i64 (posK S q : Int)) := by
          have h1 := hown.cellAt (q * 4) (by omega)
          have h2 := signsC_get S (cntS S) 0 hq (by omega)
          rw [Nat.add_zero] at h2
          rw [h1, h2]; rfl
        have c2' : W1.cell? ⟨g, q * 4 + 2, none⟩ = some (.int .i64 (runeK S q : Int)) := by
          have h1 := hown.cellAt (q * 4 + 2) (by omega)
          have h2 := signsC_get S (cntS S) 2 hq (by omega)
          rw [h1, h2]; rfl
        have k1 := cell_of_heap i2 0
        have k2 := frozen_of_heap i2 0
        have k3 := cell_of_heap hbx 0
        simp only [List.getElem?_toArray, List.getElem?_cons_zero] at k1 k3
        rw [HN.out] at k3 hq
        have hq1 : (q : Int) < (N2 : Int) := by omega
        have hrl := rune_le S q
        obtain ⟨pq, hpq⟩ : ∃ pq, posK S q = pq := ⟨_, rfl⟩
        obtain ⟨rq, hrq⟩ : ∃ rq, runeK S q = rq := ⟨_, rfl⟩
        rw [hpq] at c1 ⊢
        rw [hrq] at c2' hrl ⊢
        have hbq : But (fun b => b = w2.heap.size + 1) W1 (W1.setCell ⟨w2.heap.size + 1, 0, none⟩ (.int .i64 ((q : Int) + 1))) := (But.refl _ _).set ⟨w2.heap.size + 1, 0, none⟩ _ (.inl rfl)
        have hbx2 := heap_setCells (i := 0) (u := .int .i64 ((q : Int) + 1)) i2
        have HBQ : Hid (But (fun b => b = w2.heap.size + 1 ∨ rowE #[.int .i64 (pq : Int), .int .i32 (rq : Int)] b) W1 (W1.setCell ⟨w2.heap.size + 1, 0, none⟩ (.int .i64 ((q : Int) + 1)))) := Lib.hid (hbq.mono (fun b _ e => .inl e))
        have HBI : Hid (But (fun b => b = w2.heap.size + 1) v0 (W1.setCell ⟨w2.heap.size + 1, 0, none⟩ (.int .i64 ((q : Int) + 1)))) := Lib.hid (i1.trans hbq (fun b _ e => e))
        have HBX : Hid ((W1.setCell ⟨w2.heap.size + 1, 0, none⟩ (.int .i64 ((q : Int) + 1))).heap[w2.heap.size + 1]? = some (.cells #[.int .i64 ((q + 1 : Nat) : Int)] 3 (0, 0))) := Lib.hid (by rw [show ((q + 1 : Nat) : Int) = (q : Int) + 1 by omega]; exact hbx2)
        have hqi : (q : Int) ≤ 300 := by omega
        have HQ := Lib.hid hq
        clear hbq hbx hbx2 i1 i2 hown hgb hgl hpq hrq e2 e3
        gi_wp2
        exact ⟨trivial, HBQ.out, HBI.out, HBX.out, HQ.out⟩
      case done =>
        rintro q X hq ⟨i1, i2, i3⟩ hD
        rw [HN.out] at hq
        rw [hq] at i2 i3
        clear hq
        have hIX : PtI S wc.heap.size w2.heap.size (w2.heap.size + 1 + 1 + 1) c2 A2 w X A m l := by
          have hrd : Rd X X.heap.size A l := fun h0 => by
            obtain ⟨b, off, e, hb, hc⟩ := HI0.out.pt.rd h0
            obtain ⟨b2, off2, e2, hb2, _⟩ := HRDW.out h0
            rw [e] at e2
            injection e2 with e2
            injection e2 with e3 e4
            subst e3
            exact ⟨b, off, e, by have := i1.size; omega, fun j c hj => (i1.cell (p := ⟨b, off + j, none⟩) (show b < v0.heap.size by omega) (show ¬ b = w2.heap.size + 1 by omega)).trans (hc j c hj)⟩
          exact ⟨i1.box HI0.out.box (by omega), i1.row HI0.out.row (fun g e h => by have := HRL.out g e; omega), i1.box HI0.out.str (by omega),
            ⟨HI0.out.pt.len, hrd, HI0.out.pt.below.trans (i1.to_below (n := w.heap.size) HI0.out.pt.below.size (fun b e => by omega)), i1.box HI0.out.pt.res (by omega)⟩⟩
        have hDl := (Array.getElem?_eq_some_iff.1 hD).1
        have hnl := (Array.getElem?_eq_some_iff.1 i2).1
        have hbl := (Array.getElem?_eq_some_iff.1 hIX.box).1
        have hcells : ∀ W, Below X.heap.size X W → W.cell? ⟨w2.heap.size + 1, 0, none⟩ = some (.int .i64 (N2 : Int)) ∧ W.cell? ⟨w2.heap.size, 0, none⟩ = some (.slice A2 N2 c2) ∧ (convert 38 9 (.slice A m c)).run Tryz.prog W = .ok (.string B) W := fun W hb => by
          refine ⟨cell_of_heap ((hb.block _ hnl).trans i2) 0, ?_, HCV2.out W ((hIX.on hb).pt)⟩
          have := cell_of_heap ((hb.block _ hbl).trans hIX.box) 0
          rwa [HN.out] at this
        have h12 : ∀ W, Below X.heap.size X W → Calls Tryz.prog 12 #[] W fun e w9 => e = .returned (.bool true) ∧ w9.heap[w.heap.size]? = some (.cells #[.bool false] 4 (0, 0)) ∧ w9.cell? ⟨w.heap.size, 0, none⟩ = some (.bool false) ∧ w9.frozen? ⟨w.heap.size, 0, none⟩ = false ∧ Below w.heap.size w w9 ∧ w9.heap[v0.heap.size]? = some (.deferred (some [])) ∧ Hid (Below X.heap.size X w9) ∧
            ((w9.setCell ⟨w.heap.size, 0, none⟩ (.bool true)).cell? ⟨w2.heap.size + 1, 0, none⟩ = some (.int .i64 (N2 : Int)) ∧ (w9.setCell ⟨w.heap.size, 0, none⟩ (.bool true)).cell? ⟨w2.heap.size, 0, none⟩ = some (.slice A2 N2 c2) ∧ (convert 38 9 (.slice A m c)).run Tryz.prog (w9.setCell ⟨w.heap.size, 0, none⟩ (.bool true)) = .ok (.string B) (w9.setCell ⟨w.heap.size, 0, none⟩ (.bool true))) := fun W hb => by
          have hS := (hIX.on hb).pt
          refine (HWK.out W hS.below hS.res).mono ?_
          rintro e w9 ⟨h1, h2, h3, h4, h5, h6⟩
          have hb9 := hb.trans (h6.mono hb.size)
          have hI9 := hIX.on hb9
          have hst : Below (w.heap.size + 1) w9 (w9.setCell ⟨w.heap.size, 0, none⟩ (.bool true)) ∨ True := .inr trivial
          refine ⟨h1, h2, h3, h4, h5, (hb9.block _ hDl).trans hD, Lib.hid hb9, ?_, ?_, ?_⟩
          · exact cell_of_heap ((Below.heap_setCell _ ⟨w.heap.size, 0, none⟩ _ _ (by simp; omega)).trans ((hb9.block _ hnl).trans i2)) 0
          · have h7 := cell_of_heap ((Below.heap_setCell _ ⟨w.heap.size, 0, none⟩ (.bool true) _ (by simp; omega)).trans ((hb9.block _ hbl).trans hIX.box)) 0
            rwa [HN.out] at h7
          · refine HCV3.out _ ⟨hI9.pt.len, fun h0 => ?_⟩
            obtain ⟨b, off, e, hbb, hc⟩ := hI9.pt.rd h0
            obtain ⟨b2, off2, e2, hb2, hlo⟩ := HRDW.out h0
            rw [e] at e2
            injection e2 with e2
            injection e2 with e3 e4
            subst e3
            exact ⟨b, off, e, by simp; omega, fun j c hj => (World.cell?_setCell_other w9 ⟨w.heap.size, 0, none⟩ ⟨b, off + j, none⟩ (.bool true) (fun h => by injection h with h1 h2; omega)).trans (hc j c hj)⟩
        have c21S : ∀ W, Below X.heap.size X W → Calls Tryz.prog 21 #[.string S] W fun e w' => e = .returned (.int .i64 (checkN S)) ∧ Below W.heap.size W w' := fun W hb => Check_any S W (by omega) (hL.keep ((hIX.on hb).pt.below))
        have c21B : ∀ W, Below X.heap.size X W → Calls Tryz.prog 21 #[.string B] W fun e w' => e = .returned (.int .i64 (checkN B)) ∧ Below W.heap.size W w' := fun W hb => Check_any B W (by omega) (hL.keep ((hIX.on hb).pt.below))
        have c22S : ∀ W, Calls Tryz.prog 22 #[.string S] W fun e w' => e = .returned (.int .i64 (checkN S)) ∧ Below W.heap.size W w' := fun W => refCheck_any S W (by omega)
        have c22B : ∀ W, Calls Tryz.prog 22 #[.string B] W fun e w' => e = .returned (.int .i64 (checkN B)) ∧ Below W.heap.size W w' := fun W => refCheck_any B W (by omega)
        obtain ⟨C1, hC1⟩ : ∃ C, checkN S = C := ⟨_, rfl⟩
        obtain ⟨C2, hC2⟩ : ∃ C, checkN B = C := ⟨_, rfl⟩
        rw [hC1] at c21S c22S
        rw [hC2] at c21B c22B
        have HCE := Lib.hid hcells
        have H12 := Lib.hid h12
        have H21S := Lib.hid c21S
        have H21B := Lib.hid c21B
        have H22S := Lib.hid c22S
        have H22B := Lib.hid c22B
        have q0 := hcells X (Below.refl _ _)
        have q0d := hcells X.drew (Below.refl _ _).drew
        have HSV := Lib.hid hsv
        clear hcells h12 c21S c21B c22S c22B hC1 hC2 hD hIX i1 i2 hsv HI0 HN0 HBC
        go_upto_region 22 with fail
        go_cut [144] from 120 to 144 (fun s144 wx => s144 = .bool true ∧ Hid (wx.heap[w.heap.size]? = some (.cells #[.bool true] 4 (0, 0))) ∧ Hid (Below w.heap.size w wx) ∧ Hid (wx.heap[v0.heap.size]? = some (.deferred (some []))))
        case first =>
          refine wp_dead ?_
          go_region_held_law (fun W => W.cell? ⟨w2.heap.size + 1, 0, none⟩ = some (.int .i64 (N2 : Int)) ∧ W.cell? ⟨w2.heap.size, 0, none⟩ = some (.slice A2 N2 c2) ∧ (convert 38 9 (.slice A m c)).run Tryz.prog W = .ok (.string B) W)
            (first | exact q6 | exact q5 | exact q4 | exact q3 | exact q2 | exact q1 | exact q0d | exact q0)
            (first
            | (go_at_call 20; (with_reducible refine (num_any _ _).mono ?_); rintro e w' ⟨rfl, rfl⟩)
            | (go_at_call 21; (with_reducible refine (H21S.out _ (Below.refl _ _).drew).mono ?_); rintro e w5 ⟨rfl, hb⟩; have HB5 : Hid (Below X.heap.size X w5) := Lib.hid ((Below.refl _ _).drew.trans hb); have q1 := HCE.out w5 HB5.out; clear hb)
            | (go_at_call 22; (with_reducible refine (H22S.out _).mono ?_); rintro e w6 ⟨rfl, hb⟩; have HB6 : Hid (Below X.heap.size X w6) := Lib.hid (HB5.out.trans (hb.mono HB5.out.size)); have q2 := HCE.out w6 HB6.out; clear hb)
            | (go_at_call 21; (with_reducible refine (H21B.out _ HB6.out).mono ?_); rintro e w7 ⟨rfl, hb⟩; have HB7 : Hid (Below X.heap.size X w7) := Lib.hid (HB6.out.trans (hb.mono HB6.out.size)); have q3 := HCE.out w7 HB7.out; clear hb)
            | (go_at_call 22; (with_reducible refine (H22B.out _).mono ?_); rintro e w8 ⟨rfl, hb⟩; have HB8 : Hid (Below X.heap.size X w8) := Lib.hid (HB7.out.trans (hb.mono HB7.out.size)); have q4 := HCE.out w8 HB8.out; clear hb)
            | (go_at_call 12; (with_reducible refine (H12.out _ HB8.out).mono ?_); rintro e w9 ⟨rfl, r1, r2, r3, r4, r5, HB9, q6⟩; have q5 := HCE.out w9 HB9.out))
          all_goals
            have HR9 := Lib.hid (heap_setCells (i := 0) (u := .bool true) r1)
            have HBW : Hid (Below w.heap.size w (w9.setCell ⟨w.heap.size, 0, none⟩ (.bool true))) := Lib.hid (r4.setCell (p := ⟨w.heap.size, 0, none⟩) (Nat.le_refl _) (.bool true))
            have HD9 : Hid ((w9.setCell ⟨w.heap.size, 0, none⟩ (.bool true)).heap[v0.heap.size]? = some (.deferred (some []))) := Lib.hid ((Below.heap_setCell _ ⟨w.heap.size, 0, none⟩ _ _ (by have := HSV.out; simp; omega)).trans r5)
            go_wp2
            go_meet
            exact ⟨rfl, HR9, HBW, HD9⟩
        case rest =>
          obtain ⟨rfl, HR9, HBW, HD9⟩ := hcut
          go_wp2
          have hs9 := HSV.out
          have h4 : ((wc.putObj v0.heap.size (.deferred none)).cell? ⟨w.heap.size, 0, none⟩) = some (.bool true) :=
            cell_of_heap ((World.putObj_heap_other (by omega)).trans HR9.out) 0
          have hbz : Below w.heap.size w (wc.putObj v0.heap.size (.deferred none)) := by
            have h5 := HBW.out
            exact h5.trans ((put_but _ _ _).to_below h5.size (fun b e => by omega))
          exact retM1 (v := .bool true) rfl HD9.out (by simp [results, Tryz.results6, go_sem, h4]) ⟨rfl, hbz⟩
      case stop =>
        rintro cd q W1 _ h
        exact h.elim
end Go.Proofs
namespace Go.Proofs.YtneaenplbccpmaaGreatDoor
open Go Go.ChangeShapes Go.WideShapes Go.ChangeAt Go.WideMaps Go.WideElems Go.RowKit Go.Lib Sm
set_option maxRecDepth 100000 in
theorem textPoint_lifted (os : Os) (started : os.Started) (H : Type) (enc : TypeId × Value → H) :
    ReturnsInHanded {} Tryz.checked os 6 .any (fun w args => (Rows.textPointSpec.pre enc Tryz.prog Tryz.f6 [] false w args ∧ laidMetH Tryz.prog laidL w) ∧ sizedMet enc Tryz.prog Tryz.f6 (OpenSpec.ofChange Rows.textPointSpec) false w args)
      (Rows.textPointSpec.post enc Tryz.prog Tryz.f6 false true false false) := by
  refine laidHanded started #[.int .i64 0, .int .i64 0] (by kernel_rfl) Tryz.func6 (World.shaped_of_ZipB (by kernel_rfl) (by kernel_rfl)) (by kernel_rfl) (by kernel_rfl) (by kernel_rfl) ?_
  intro W base args ds gs before hval0 hW hL
  have hval : ∀ (j : Nat) t v, Tryz.f6.params[j]? = some t → args[j]? = some v → Value.okWide Tryz.prog W .any base t v := hval0
  have hW' := hW
  obtain ⟨p, q, hA0, hV, rfl, hfz, hnd⟩ := hW
  have hA : DataW.TrodAll enc Tryz.prog W 0 (fun _ => true) true Tryz.f6.params.toList args.toList ds p := hA0
  rw [Tryz.params6] at hA hval
  obtain ⟨v0, vs0, d0, ds0, p0, q0, hargs, rfl, rfl, h0, r0⟩ := trodAll_cons hA
  obtain ⟨v1, vs1, d1, ds1, p1, q1, rfl, rfl, rfl, h1, r1⟩ := trodAll_cons r0
  obtain ⟨rfl, rfl, rfl⟩ := trodAll_nil r1
  obtain rfl : args = #[v0, v1] := by cases args; simp_all
  obtain ⟨rfl, rfl⟩ := trodVars_none hV
  obtain ⟨a0, rfl, rfl, rfl, w0⟩ := open_int Tryz.underlying3 (hval 0 3 v0 rfl rfl) h0
  obtain ⟨lo0, up0⟩ := bd64 rfl w0
  obtain ⟨a1, rfl, rfl, rfl, w1⟩ := open_int Tryz.underlying3 (hval 1 3 v1 rfl rfl) h1
  obtain ⟨lo1, up1⟩ := bd64 rfl w1
  refine (point_law a0 a1 W lo0 up0 lo1 up1 hL).mono fun e W' ⟨he, hb⟩ => ?_
  subst he
  exact ⟨_, rfl, law_post hW' rfl rfl rfl rfl (by kernel_rfl) (by rw [Tryz.params6]; intro t ht; simp at ht; subst ht; exact ⟨by kernel_rfl, of_decide_eq_true (by kernel_rfl)⟩) hb⟩
theorem textPoint_holds : Rows.TextPointSaid :=
  OpenClaim.holds_of_wide 6 Tryz.f6 rfl rfl rfl rfl rfl rfl rfl ⟨rfl, rfl, rfl, rfl, rfl⟩ rfl rfl rfl rfl rfl (by kernel_rfl) Tryz.func6 (by kernel_rfl)
    (of_decide_eq_true (by kernel_rfl)) (by unfold Func.isWrapper; first | (rw [if_pos (by decide +kernel)]; kernel_rfl) | (rw [if_neg (by decide +kernel)]; exact ⟨rfl, rfl⟩))
    (fun os started H enc _ => textPoint_lifted os started H enc)
/-- the card -/
theorem textPoint_card : Rows.TextPointCardSaid :=
  Claim7.holds_tied_plain_at .later [] [.data, .data, .data, .data, .sentinel, .sentinel, .pinned] true (true, "ed007c98b8e6bbfba8db0ed1f540fab899121459d0b3226e22db2c0e1694eb46") true
    textPoint_holds (fun _ h => by cases h) (by kernel_rfl) (fun _ h => by cases h) textPoint_row_tie rfl ⟨rfl, rfl⟩ (by kernel_rfl) rfl
    (fun f fn hf hfn => by
      obtain rfl : f = 6 := Option.some.inj ((show Tryz.prog.funcNamed "antiphon/antiphonlaw03.TextPoint" = some 6 by kernel_rfl).symm.trans hf) |>.symm
      obtain rfl : fn = Tryz.f6 := (Option.some.inj (Tryz.func6.symm.trans hfn)).symm
      exact ⟨by kernel_rfl, fun j t ht => by
        rw [Tryz.params6] at ht
        have hm : t ∈ [3, 3] := by simpa using Array.mem_of_getElem? ht
        have hall : ([3, 3].all fun u => !Tryz.prog.wantsStandIn u) = true := by kernel_rfl
        exact (show Tryz.prog.wantsStandIn t = false by simpa using List.all_eq_true.1 hall t hm)⟩)
    (by kernel_rfl)
end Go.Proofs.YtneaenplbccpmaaGreatDoor
