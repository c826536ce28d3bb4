/-
  NetOnce: the walk. Conditions: as each theorem names them.
-/
import Derived.Maps.AppendAt
import Derived.Test.YtkipjlcbmiagcaaNtOc
namespace Go.Proofs
open Go Go.RowKit Sm Go.Lib Go.Maps Go.WideMaps
attribute [local go_sem] Oper.semAt_some
theorem Sm.own_form {W : World} {base size n : Nat} {e : TypeId} {v : Value} {xs : List Value} (h : W.ownsRow base e size v n xs) : ∃ A c, v = .slice A n c := by
  rcases h.2 with ⟨rfl, rfl⟩ | ⟨g, cap, cur, rfl, _⟩
  · exact ⟨_, _, rfl⟩
  · exact ⟨_, _, rfl⟩
set_option maxRecDepth 100000 in
theorem Sm.info41 : ∃ i, Try.prog.info? 41 = some i ∧ i.zero = some (.agg #[.int .i64 0, .int .i64 0, .int .i64 0, .slice none 0 0]) ∧ i.size = 4 ∧ i.bytes = 48 := ⟨Try.t41, rfl, rfl, rfl, rfl⟩
set_option maxRecDepth 100000 in
theorem Sm.info2 : ∃ i, Try.prog.info? 2 = some i ∧ i.zero = some (.int .i64 0) ∧ i.size = 1 ∧ i.bytes = 8 := ⟨Try.t2, rfl, rfl, rfl, rfl⟩
theorem Sm.putE_range (s : NSt) (D : List (Int × Int)) (k : Nat) (x y : Int) (n : Nat) : 0 ≤ putE s D k x y n ∧ putE s D k x y n ≤ 1000 := by
  unfold putE
  split
  · omega
  · split
    · omega
    · split
      · omega
      · split <;> omega
theorem Sm.findE_range (N : NM) (x y : Int) : 0 ≤ findE N x y ∧ findE N x y ≤ 1000 := by
  unfold findE
  split
  · omega
  · split <;> omega
theorem Sm.reachE_range (N : NM) (x y pick : Int) : 0 ≤ reachE N x y pick ∧ reachE N x y pick ≤ 1000 := by
  unfold reachE
  split
  · exact findE_range N x y
  · split <;> omega
theorem Sm.putN_err {N : NM} {x y : Int} {l : List (BitVec 8)} (h : putE N.s N.D N.P.length x y l.length ≠ 0) : putN N x y l = (N, 0, putE N.s N.D N.P.length x y l.length) := by
  unfold putN
  rw [if_pos h]
theorem Sm.putN_ok {N : NM} {x y : Int} {l : List (BitVec 8)} (h : putE N.s N.D N.P.length x y l.length = 0) : putN N x y l = (⟨⟨N.s.ends, N.s.most, N.s.came + 1⟩, N.D, N.P ++ [(N.s.came, x, y, l)]⟩, N.s.came, 0) ∧ (x, y) ∉ N.D := by
  refine ⟨?_, ?_⟩
  · unfold putN
    rw [if_neg (by simp [h])]
  · unfold putE at h
    split at h
    · cases h
    · split at h
      · cases h
      · split at h
        · cases h
        · assumption
theorem Sm.takeN_err {N : NM} {x y pick : Int} (h : reachE N x y pick ≠ 0) : takeN N x y pick = (N, zeroP, reachE N x y pick) := by
  unfold takeN
  rw [if_pos h]
theorem Sm.takeN_ok {N : NM} {x y pick : Int} (h : reachE N x y pick = 0) : takeN N x y pick = (N.less (findA N x y pick), findP N x y pick, 0) ∧ N.P[findA N x y pick]? = some (findP N x y pick) ∧ ((findP N x y pick).2.1, (findP N x y pick).2.2.1) ∉ N.D := by
  have hf : findE N x y = 0 := by
    unfold reachE at h
    by_cases e : findE N x y = 0
    · exact e
    · rw [if_pos e] at h
      exact h
  refine ⟨?_, (find_ok pick hf).2.2.1, fun hd => ?_⟩
  · unfold takeN
    rw [if_neg (by simp [h])]
  · unfold reachE at h
    rw [if_neg (by simp [hf]), if_pos hd] at h
    cases h
theorem Sm.dropN_err {N : NM} {x y pick : Int} (h : findE N x y ≠ 0) : dropN N x y pick = (N, 0, findE N x y) := by
  unfold dropN
  rw [if_pos h]
theorem Sm.dropN_ok {N : NM} {x y pick : Int} (h : findE N x y = 0) : dropN N x y pick = (N.less (findA N x y pick), (findP N x y pick).1, 0) ∧ N.P[findA N x y pick]? = some (findP N x y pick) := by
  refine ⟨?_, (find_ok pick h).2.2.1⟩
  unfold dropN
  rw [if_neg (by simp [h])]
theorem Sm.downN_once {N : NM} {ps : List PD} {gone : List Int} (h : OnceM N ps gone) (x y : Int) (is : Bool) : OnceM (downN N x y is).1 ps gone := by
  unfold downN
  split
  · exact h.same rfl rfl
  · exact h
theorem Sm.Nt.msgI {B : Nat → Prop} {W : World} {p : Nat} {N : NM} (h : Nt B W p N) {i : Nat} {m : PD} (hm : N.P[i]? = some m) : I64 m.2.1 ∧ I64 m.2.2.1 := by
  obtain ⟨Mb, base, A, cap, L, h1, h2, _⟩ := h
  rw [← h2, List.getElem?_map] at hm
  obtain ⟨q, hq, rfl⟩ := Option.map_eq_some_iff.1 hm
  have h3 := h1.msg q (List.mem_of_getElem? hq)
  have h4 := h1.lim
  unfold MsgM.d I64
  simp only
  omega
/-- how a round stands -/
structure Sm.OnS (w : World) (n0 p : Nat) (N : NM) (Q : List MsgM) (G : List Int) (vp vg : Value) (k : Nat) (W : World) : Prop where
  m : OnM w n0 p N Q G vp vg W
  o : OnceM N (Q.map MsgM.d) G
  q : Q.length ≤ k
  g : G.length ≤ k
theorem Sm.OnS.more {w W W' : World} {n0 p : Nat} {N : NM} {Q : List MsgM} {G : List Int} {vp vg : Value} {k : Nat} (h : OnS w n0 p N Q G vp vg k W) (hb : Below W.heap.size W W') : OnS w n0 p N Q G vp vg (k + 1) W' := ⟨h.m.keep hb, h.o, Nat.le_succ_of_le h.q, Nat.le_succ_of_le h.g⟩
set_option maxRecDepth 100000 in
set_option maxHeartbeats 8000000 in
theorem Sm.once_law (A : Option Addr) (n c : Nat) (xs : List ActV) (w : World) (hn : xs.length = n) (hc : n ≤ c) (hc2 : c ≤ 9223372036854775807) (hR : RdActs w A xs) (hcame : ∀ x ∈ xs, x.came w) :
    Calls Try.prog 8 #[.slice A n c] w fun e w' => e = .returned (.bool true) ∧ Below w.heap.size w w' := by
  have hwk := fun W => works_any W
  have hfew := few_any A n c xs 50 w hR hn hc hc2 hcame
  cases hf : fewM xs 50 with
  | false =>
    rw [hf] at hfew
    clear hf hR hcame
    go_enter Try.func8, Try.ntmps8
    go_wp2_with (first
      | (go_at_call 9; (with_reducible refine hfew.mono ?_); rintro e w' ⟨rfl, rfl⟩)
      | (go_at_call 10; (with_reducible refine (hwk _).mono ?_); rintro e w' ⟨rfl, hb⟩))
    go_ret
    exact ⟨rfl, hb⟩
  | true =>
    rw [hf] at hfew
    obtain ⟨hsm, hl50⟩ := few_small hf
    rw [hn] at hl50
    obtain ⟨n0, hn0⟩ : ∃ n0, w.heap.size = n0 := ⟨_, rfl⟩
    have hnew := new_N 4 20 w (by decide)
    rw [hn0] at hnew ⊢
    have HN0 := Lib.hid hn0
    have HR := Lib.hid hR
    have HL := Lib.hid hn
    have HC := Lib.hid hcame
    have HSM := Lib.hid hsm
    have hn50 : n ≤ 50 := by omega
    have hnI : (n : Int) ≤ 50 := by omega
    clear hf hR hcame hsm hn hn0 hl50
    go_enter Try.func8, Try.ntmps8
    go_upto_region 7 with (first
      | (go_at_call 9; (with_reducible refine hfew.mono ?_); clear hfew; rintro e w' ⟨rfl, rfl⟩)
      | (go_at_call 26; (with_reducible refine hnew.mono ?_); clear hnew; rintro e w1 ⟨p, rfl, hD, hb⟩; have HI0 : Hid (OnS w n0 p ⟨⟨4, 20, 0⟩, [], []⟩ [] [] (.slice none 0 0) (.slice none 0 0) 0 w1) := Lib.hid ⟨⟨⟨fun b => n0 ≤ b ∧ b < w1.heap.size, hD.mono (fun b hb e => ⟨e, hb⟩), fun b e => ⟨e.1, e.2, (by simp [Value.ownBlock]), (by simp [Value.ownBlock])⟩⟩, World.ownsRow_nil _ _ _ _, World.ownsRow_nil _ _ _ _, fun b e => (by cases e), fun q hq => (by cases hq), hb, (by have h1 := hb.size; have h2 := HN0.out; omega)⟩, ⟨rfl, fun m hm => (by cases hm), List.nodup_nil, fun g hg => (by cases hg), rfl⟩, Nat.le_refl _, Nat.le_refl _⟩; clear hD hb))
    go_loopw [5, 6, 7] (fun v5 v6 v7 wr => ∃ (k : Nat) (N : NM) (Q : List MsgM) (G : List Int) (A5 : Option Addr) (c5 : Nat) (A6 : Option Addr) (c6 : Nat), k ≤ n ∧ v7 = .int .i64 (k : Int) ∧ v5 = .slice A5 Q.length c5 ∧ v6 = .slice A6 G.length c6 ∧ Hid (OnS w n0 p N Q G (.slice A5 Q.length c5) (.slice A6 G.length c6) k wr)) (fun _ _ v7 _ => n - (RowKit.intOf v7).toNat)
    case atStart => exact ⟨0, _, [], [], none, 0, none, 0, Nat.zero_le _, rfl, rfl, rfl, HI0⟩
    case round =>
      obtain ⟨wo, rfl⟩ : ∃ wo : World, wo = wr := ⟨_, rfl⟩
      obtain ⟨k, N, Q, G, A5, c5, A6, c6, hk, rfl, rfl, rfl, HI⟩ := hrel
      clear HI0
      have hQ50 : Q.length ≤ 50 := Nat.le_trans HI.out.q (by omega)
      have hG50 : G.length ≤ 50 := Nat.le_trans HI.out.g (by omega)
      have hQI : (Q.length : Int) ≤ 50 := by omega
      have hGI : (G.length : Int) ≤ 50 := by omega
      by_cases hlt : k < n
      · have hkI : (k : Int) < (n : Int) := by omega
        have hkx : k < xs.length := by rw [HL.out]; exact hlt
        obtain ⟨b, off, rfl, hbl, hcl⟩ := HR.out (by omega)
        obtain ⟨X, hX⟩ : ∃ X, xs[k] = X := ⟨_, rfl⟩
        have hXm : X ∈ xs := by rw [← hX]; exact List.getElem_mem hkx
        have hcl := hcl k X (by rw [List.getElem?_eq_getElem hkx, hX])
        have hbw : b < w.heap.size := hbl
        have hcell : ∀ i v, X.cells[i]? = some v → wo.cell? ⟨b, off + k * 6 + i, none⟩ = some v := fun i v h => (HI.out.m.below.cell (p := ⟨b, off + k * 6 + i, none⟩) (by have := HN0.out; simp only; omega)).trans (hcl i v h)
        have x0 : wo.cell? ⟨b, off + k * 6, none⟩ = some (.int .i64 X.what) := hcell 0 _ rfl
        have x1 := hcell 1 _ rfl
        have x2 := hcell 2 _ rfl
        have x3 := hcell 3 _ rfl
        have x4 := hcell 4 _ rfl
        have x5 := hcell 5 _ rfl
        have hXc := HC.out X hXm
        have hXs := HSM.out X hXm
        have hXI : (X.n : Int) ≤ 200 := by omega
        have HXR : Hid (Rd w n0 X.A X.bytes ∧ X.bytes.length = X.n) := Lib.hid ⟨by have := hXc.rd; rw [HN0.out] at this; exact this, hXc.len⟩
        have hi64 : I64 X.src ∧ I64 X.dst := ⟨hXc.ws, hXc.wd⟩
        obtain ⟨wh, hwh⟩ : ∃ wh, X.what = wh := ⟨_, rfl⟩
        rw [hwh] at x0
        have HB0 : Hid (Below wo.heap.size wo (wo.alloc (.cells #[.int .i64 wh, .int .i64 X.src, .int .i64 X.dst, .int .i64 X.pick, .slice X.A X.n X.c, .bool X.is] 64))) := Lib.hid ((Below.refl _ wo).alloc (Nat.le_refl _) _)
        have hx9 := World.alloc_heap_new wo (.cells #[.int .i64 wh, .int .i64 X.src, .int .i64 X.dst, .int .i64 X.pick, .slice X.A X.n X.c, .bool X.is] 64)
        have hb9 : (wo.alloc (.cells #[.int .i64 wh, .int .i64 X.src, .int .i64 X.dst, .int .i64 X.pick, .slice X.A X.n X.c, .bool X.is] 64)).heap.size = wo.heap.size + 1 := by simp
        have HX9 := Lib.hid hx9
        have HS9 := Lib.hid hb9
        clear hcell hcl hX hXm hXc hwh hx9 hb9 hkx
        go_upto_region 11 with fail
        obtain ⟨W1, hW1⟩ : ∃ V, wo.alloc (.cells #[.int .i64 wh, .int .i64 X.src, .int .i64 X.dst, .int .i64 X.pick, .slice X.A X.n X.c, .bool X.is] 64) = V := ⟨_, rfl⟩
        rw [hW1] at HB0 HX9 HS9 ⊢
        clear hW1 x0 x1 x2 x3 x4 x5
        have HX : Hid (∀ V, Below W1.heap.size W1 V → V.heap[wo.heap.size]? = some (.cells #[.int .i64 wh, .int .i64 X.src, .int .i64 X.dst, .int .i64 X.pick, .slice X.A X.n X.c, .bool X.is] 64 (0, 0))) := Lib.hid fun V hb => (hb.block _ (Array.getElem?_eq_some_iff.1 HX9.out).1).trans HX9.out
        have y0 := cell_of_heap HX9.out 0
        have y1 := cell_of_heap HX9.out 1
        have y2 := cell_of_heap HX9.out 2
        have y3 := cell_of_heap HX9.out 3
        have y4 := cell_of_heap HX9.out 4
        have y5 := cell_of_heap HX9.out 5
        simp only [List.getElem?_toArray, List.getElem?_cons_zero, List.getElem?_cons_succ] at y0 y1 y2 y3 y4 y5
        have HM1 := Lib.hid (HI.out.m.keep HB0.out)
        have hcm : N.s.came = (Q.length : Int) := by have := HI.out.o.came; rw [List.length_map] at this; exact this
        have hcm9 : N.s.came < 1000000000 := by omega
        obtain ⟨B, hB, hBl, hStN, hStK⟩ := HI.out.m.call HB0.out
        have hx8 : ¬ B wo.heap.size := fun e => by have := hBl _ e; omega
        have HXB := Lib.hid hx8
        clear hBl hx8
        have HSN := Lib.hid hStN
        have HSK := Lib.hid hStK
        clear hStN hStK
        by_cases h0 : wh = 0
        · subst h0

          have hput := put_N X.src X.dst X.A X.n X.c X.bytes W1 hB hcm9 HXR.out.2 (by omega) ((HXR.out.1.below HM1.out.below).more HM1.out.lo)
          have hlb := HXR.out.2
          by_cases hE : putE N.s N.D N.P.length X.src X.dst X.bytes.length = 0
          · obtain ⟨hp1, hp2⟩ := putN_ok hE
            rw [hp1] at hput
            obtain ⟨N', hN'⟩ : ∃ N', (⟨⟨N.s.ends, N.s.most, N.s.came + 1⟩, N.D, N.P ++ [(N.s.came, X.src, X.dst, X.bytes)]⟩ : NM) = N' := ⟨_, rfl⟩
            have hO2 := HI.out.o.put X.src X.dst X.bytes
            have hD' : (X.src, X.dst) ∉ N'.D := by rw [← hN']; exact hp2
            rw [hN'] at hput hO2
            rw [hcm] at hput hO2
            simp only at hput
            have HO2 := Lib.hid hO2
            obtain ⟨i41, q41, r41, s41, t41⟩ := info41
            clear hE hp1 hp2 hN' hO2 hcm hcm9
            go_upto_region 15 with (go_at_call 12; (with_reducible refine hput.mono ?_); clear hput; rintro e w2 ⟨rfl, hst⟩; have HM2 := Lib.hid (HSN.out _ _ hst); have HX2 := Lib.hid (hst.2.box HX9.out HXB.out); clear hst)
            obtain ⟨B2, hB2, _⟩ := HM2.out.net
            have h19 := isDown_N X.src X.dst w2 hB2 hi64.1 hi64.2
            rw [decide_eq_false hD'] at h19
            clear hB2 y0 y1 y2 y3 y4 y5
            have y1 := cell_of_heap HX2.out 1
            have y2 := cell_of_heap HX2.out 2
            have y4 := cell_of_heap HX2.out 4
            simp only [List.getElem?_toArray, List.getElem?_cons_zero, List.getElem?_cons_succ] at y1 y2 y4
            go_upto_region 18 with (first
              | (go_at_call 17; (with_reducible refine (num_any _ _ (by decide) (by decide)).mono ?_); rintro e w' ⟨rfl, rfl⟩)
              | (go_at_call 19; (with_reducible refine h19.mono ?_); clear h19; rintro e w3 ⟨rfl, hb3⟩; have HM3 := Lib.hid (HM2.out.keep hb3); have HX3 := Lib.hid ((hb3.block _ (Array.getElem?_eq_some_iff.1 HX2.out).1).trans HX2.out); clear hb3 y1 y2 y4; have y1 := cell_of_heap HX3.out 1; have y2 := cell_of_heap HX3.out 2; have y4 := cell_of_heap HX3.out 4; simp only [List.getElem?_toArray, List.getElem?_cons_zero, List.getElem?_cons_succ] at y1 y2 y4))
            have hnw := World.alloc_heap_new w3 (.cells #[.int .i64 (Q.length : Int), .int .i64 X.src, .int .i64 X.dst, .slice X.A X.n X.c] 41)
            have hM4 := HM3.out.keep ((Below.refl _ w3).alloc (Nat.le_refl _) (.cells #[.int .i64 (Q.length : Int), .int .i64 X.src, .int .i64 X.dst, .slice X.A X.n X.c] 41))
            have hlo := HM3.out.lo
            have hwnn := World.news_of_block hnw
            have hrr : Rd w n0 X.A X.bytes := HXR.out.1
            go_wp2_with (at_builtin; refine wpList_append_own_at _ rfl (.tmp 72) (.tmp 81) 26 rfl n0 41 i41 _ 4 48 Try.underlying26 q41 r41 s41 t41 rfl (by decide) _ Q.length (cellsM Q) rfl hM4.prow ⟨w3.heap.size, 0, none⟩ 1 1 [.int .i64 (Q.length : Int), .int .i64 X.src, .int .i64 X.dst, .slice X.A X.n X.c] rfl rfl hwnn (by simp [Value.oneCell']) ?_ ?_ ?_ ?_; (unfold maxLen; omega); omega; (simp; omega); intro v5 w5 hown5 hg5 _ hat5; obtain ⟨A7, c7, rfl⟩ := own_form hown5; have HM5 := Lib.hid (hM4.pushP ⟨(Q.length : Int), X.src, X.dst, X.bytes, X.A, X.c⟩ (by show World.ownsRow _ n0 41 4 _ (Q.length + 1) (cellsM Q ++ [.int .i64 (Q.length : Int), .int .i64 X.src, .int .i64 X.dst, .slice X.A X.bytes.length X.c]); rw [hlb]; exact hown5) hg5 hat5 hrr); clear hown5 hg5 hat5 hM4 hwnn)
            have hlq : (Q ++ [(⟨(Q.length : Int), X.src, X.dst, X.bytes, X.A, X.c⟩ : MsgM)]).length = Q.length + 1 := by simp
            have HI2 : Hid (OnS w n0 p N' (Q ++ [(⟨(Q.length : Int), X.src, X.dst, X.bytes, X.A, X.c⟩ : MsgM)]) G (.slice A7 (Q ++ [(⟨(Q.length : Int), X.src, X.dst, X.bytes, X.A, X.c⟩ : MsgM)]).length c7) (.slice A6 G.length c6) (k + 1) w5) := Lib.hid (by
              rw [hlq]
              refine ⟨HM5.out, ?_, by rw [hlq]; exact Nat.succ_le_succ HI.out.q, Nat.le_succ_of_le HI.out.g⟩
              have h9 := HO2.out
              rw [List.map_append]
              exact h9)
            go_roundw
            case rel => exact ⟨k + 1, N', Q ++ [⟨(Q.length : Int), X.src, X.dst, X.bytes, X.A, X.c⟩], G, A7, c7, A6, c6, by omega, by go_num, by rw [hlq], rfl, HI2⟩
            case measure => simp [RowKit.intOf]; omega
          · rw [putN_err hE] at hput
            obtain ⟨E, hEE⟩ : ∃ E, putE N.s N.D N.P.length X.src X.dst X.bytes.length = E := ⟨_, rfl⟩
            have hER := putE_range N.s N.D N.P.length X.src X.dst X.bytes.length
            rw [hEE] at hput hE hER
            have hE2 : (E == 0) = false := by simpa using hE
            simp only at hput
            clear hEE
            go_wp2_with (first
              | (go_at_call 12; (with_reducible refine hput.mono ?_); clear hput; rintro e w2 ⟨rfl, hst⟩; have HI2 : Hid (OnS w n0 p N Q G (.slice A5 Q.length c5) (.slice A6 G.length c6) (k + 1) w2) := Lib.hid ⟨HSN.out _ _ hst, HI.out.o, Nat.le_succ_of_le HI.out.q, Nat.le_succ_of_le HI.out.g⟩; clear hst)
              | (go_at_call 17; (with_reducible refine (num_any _ _ hER.1 hER.2).mono ?_); rintro e w' ⟨rfl, rfl⟩))
            go_roundw
            case rel => exact ⟨k + 1, N, Q, G, A5, c5, A6, c6, by omega, by go_num, rfl, rfl, HI2⟩
            case measure => simp [RowKit.intOf]; omega
        by_cases h1 : wh = 1
        · subst h1

          have HI2 : Hid (OnS w n0 p N Q G (.slice A5 Q.length c5) (.slice A6 G.length c6) (k + 1) W1) := Lib.hid ⟨HM1.out, HI.out.o, Nat.le_succ_of_le HI.out.q, Nat.le_succ_of_le HI.out.g⟩
          go_wp2
          go_roundw
          case rel => exact ⟨k + 1, N, Q, G, A5, c5, A6, c6, by omega, by go_num, rfl, rfl, HI2⟩
          case measure => simp [RowKit.intOf]; omega
        have n0' : (wh == 0) = false := by simpa using h0
        have n1' : (wh == 1) = false := by simpa using h1
        by_cases h2 : wh = 2
        · subst h2

          have htk := take_N X.src X.dst X.pick W1 hB
          by_cases hE : reachE N X.src X.dst X.pick = 0
          · obtain ⟨ht1, ht2, ht3⟩ := takeN_ok hE
            have hfd := HI.out.o.found ht2
            have hls := HI.out.o.less ht2
            rw [ht1] at htk
            obtain ⟨⟨m1, m2, m3, ml⟩, hM⟩ : ∃ M, findP N X.src X.dst X.pick = M := ⟨_, rfl⟩
            rw [hM] at htk hfd hls ht3
            rw [hM] at ht2
            have hmi : I64 m2 ∧ I64 m3 := hB.msgI ht2
            obtain ⟨j, hj, hjq, hjl, hng⟩ := hfd
            rw [List.length_map] at hjl
            simp only at hj hng ht3 htk hls
            subst hj
            obtain ⟨q, hq, hqd⟩ : ∃ q, Q[j]? = some q ∧ q.d = ((j : Int), m2, m3, ml) := by
              rw [List.getElem?_map] at hjq
              obtain ⟨q, h1, h2⟩ := Option.map_eq_some_iff.1 hjq
              exact ⟨q, h1, h2⟩
            obtain ⟨N', hN'⟩ : ∃ N', N.less (findA N X.src X.dst X.pick) = N' := ⟨_, rfl⟩
            have hD' : (m2, m3) ∉ N'.D := by rw [← hN']; exact ht3
            rw [hN'] at htk hls
            have HNG := Lib.hid hng
            have HLS := Lib.hid hls
            have HQD := Lib.hid hqd
            have HQ := Lib.hid hq
            unfold parVal at htk
            simp only at htk
            obtain ⟨m4, hm4⟩ : ∃ m4, ml.length = m4 := ⟨_, rfl⟩
            rw [hm4] at htk
            have HM4 := Lib.hid hm4
            clear hE ht1 ht2 ht3 hM hjq hng hls hqd hq hN' hm4
            go_upto_region 22 with (go_at_call 14; (with_reducible refine htk.mono ?_); clear htk; rintro e w2 ⟨A8, c8, rfl, hpv, hst⟩)
            have hM2 := HSK.out _ _ hst
            have hb3 : Below w2.heap.size w2 (w2.alloc (.cells #[.int .i64 (j : Int), .int .i64 m2, .int .i64 m3, .slice A8 m4 c8] 41)) := (Below.refl _ _).alloc (Nat.le_refl _) _
            have hp3 := World.alloc_heap_new w2 (.cells #[.int .i64 (j : Int), .int .i64 m2, .int .i64 m3, .slice A8 m4 c8] 41)
            have hM3 := hM2.keep hb3
            have hpv3 := hpv.but (But.of_all hb3 (fun _ => False)) (fun _ e => e.elim) (Nat.le_refl _)
            obtain ⟨W3, hW3⟩ : ∃ V, w2.alloc (.cells #[.int .i64 (j : Int), .int .i64 m2, .int .i64 m3, .slice A8 m4 c8] 41) = V := ⟨_, rfl⟩
            rw [hW3] at hb3 hp3 hM3 hpv3 ⊢
            have HP3 := Lib.hid hp3
            have HM3 := Lib.hid hM3
            obtain ⟨g, cap5, hv5, _, hg5⟩ := hM3.prow.form (by omega)
            injection hv5 with hv51 hv52 hv53
            subst hv51 hv53
            have HQC : Hid (∀ V, Below W3.heap.size W3 V → V.cell? ⟨g, j * 4, none⟩ = some (.int .i64 (j : Int)) ∧ V.cell? ⟨g, j * 4 + 1, none⟩ = some (.int .i64 m2) ∧ V.cell? ⟨g, j * 4 + 2, none⟩ = some (.int .i64 m3) ∧ V.cell? ⟨g, j * 4 + 3, none⟩ = some (.slice q.A m4 q.c)) := Lib.hid fun V hb => by
              have hrow := (HM3.out.keep hb).prow
              have hc := cellsM_at Q j q HQ.out
              have h9 := HQD.out
              unfold MsgM.d at h9
              injection h9 with h91 h9
              injection h9 with h92 h9
              injection h9 with h93 h94
              have hl4 : (cellsM Q).length = Q.length * 4 := hrow.1
              rw [h91, h92, h93] at hc
              have hsl : q.sl = .slice q.A m4 q.c := by unfold MsgM.sl; rw [h94, HM4.out]
              rw [hsl] at hc
              exact ⟨(hrow.cellAt (j * 4) (by omega)).trans hc.1, (hrow.cellAt (j * 4 + 1) (by omega)).trans hc.2.1, (hrow.cellAt (j * 4 + 2) (by omega)).trans hc.2.2.1, (hrow.cellAt (j * 4 + 3) (by omega)).trans hc.2.2.2⟩
            have HSP : Hid (∀ V, Below W3.heap.size W3 V → Calls Try.prog 28 #[.agg #[.int .i64 (j : Int), .int .i64 m2, .int .i64 m3, .slice A8 m4 c8], .agg #[.int .i64 (j : Int), .int .i64 m2, .int .i64 m3, .slice q.A m4 q.c]] V fun e w' => e = .returned (.bool true) ∧ Below V.heap.size V w') := Lib.hid fun V hb => by
              have h9 := HQD.out
              unfold MsgM.d at h9
              injection h9 with h91 h9
              injection h9 with h92 h9
              injection h9 with h93 h94
              have hrd := ((HM3.out.keep hb).rd q (List.mem_of_getElem? HQ.out)).more (HM3.out.keep hb).lo
              rw [h94] at hrd
              have hpv4 := hpv3.but (But.of_all hb (fun _ => False)) (fun _ e => e.elim) (Nat.le_refl _)
              have h10 := sameP_any (j : Int) m2 m3 (j : Int) m2 m3 ml ml A8 q.A m4 c8 m4 q.c V HM4.out HM4.out (own_rd hpv4) hrd
              simpa using h10
            have H19 : Hid (∀ V, Below W3.heap.size W3 V → Calls Try.prog 19 #[.pointer (some ⟨p, 0, none⟩), .int .i64 m2, .int .i64 m3] V fun e w' => e = .returned (.bool false) ∧ Below V.heap.size V w') := Lib.hid fun V hb => by
              obtain ⟨B3, hB3, _⟩ := (HM3.out.keep hb).net
              have h10 := isDown_N m2 m3 V hB3 hmi.1 hmi.2
              rw [decide_eq_false hD'] at h10
              exact h10
            have hjI : (j : Int) < (Q.length : Int) := by omega
            have hjn1 : ¬ (j : Int) < 0 := by omega
            have hjn2 : ¬ (Q.length : Int) ≤ (j : Int) := by omega
            have hlo2 : w2.heap.size < W3.heap.size := (Array.getElem?_eq_some_iff.1 hp3).1
            clear hM2 hb3 hp3 hM3 hpv3 hpv hst hW3 y0 y1 y2 y3 y4 y5 hv52
            have hS0 : (fun W => Below W3.heap.size W3 W) W3.drew := (Below.refl _ _).drew
            refine wp_region_held_drew (S := fun W => Below W3.heap.size W3 W) rfl hS0 (fun hHeld => ?_)
            simp only [List.size_toArray, List.length_cons, List.length_nil, Nat.reduceAdd]
            have HB0 : Hid (Below W3.heap.size W3 W3.drew) := Lib.hid (Below.refl _ _).drew
            obtain ⟨V0, hV0⟩ : ∃ V, W3.drew = V := ⟨_, rfl⟩
            rw [hV0] at hHeld hS0 HB0 ⊢
            clear hV0
            refine wpAnyH_take (i := 0) (v := .int .i64 0) rfl (by kernel_rfl) (by kernel_rfl) (by kernel_rfl) (fun _ _ _ h => h) (Or.inl ⟨by rfl, ?_⟩) (by assumption) ?_
            · intro wx hs1; go_simp
            (try simp only [Act.put, List.getElem_toArray, List.getElem_cons_zero, List.setIfInBounds_toArray, List.set_cons_zero, List.set_cons_succ])
            refine wpAnyH_ready (rs := [1]) (by kernel_rfl) (by simp) (AllReadyH.cons rfl (fun K hK => ?_) AllReadyH.nil)
            go_simp
            go_at_call 17
            (with_reducible refine (num_any _ _ (by decide) (by decide)).mono ?_)
            rintro e w' ⟨rfl, rfl⟩
            try dsimp only
            have hS := hS0
            refine hK.out _ _ hS (fun _ => ?_)
            clear hK K
            (try simp only [Act.put, List.getElem_toArray, List.getElem_cons_succ, List.getElem_cons_zero, List.setIfInBounds_toArray, List.set_cons_zero, List.set_cons_succ])
            refine wpAnyH_take (i := 2) (v := .bool true) rfl (by kernel_rfl) (by kernel_rfl) (by kernel_rfl) (fun _ _ _ h => h) (Or.inl ⟨by rfl, ?_⟩) (by assumption) ?_
            · intro wx hs1; go_simp
            (try simp only [Act.put, List.getElem_toArray, List.getElem_cons_succ, List.getElem_cons_zero, List.setIfInBounds_toArray, List.set_cons_zero, List.set_cons_succ])
            refine wpAnyH_take (i := 3) (v := .bool true) rfl (by kernel_rfl) (by kernel_rfl) (by kernel_rfl) (fun _ _ _ h => h) (Or.inl ⟨by rfl, ?_⟩) (by assumption) ?_
            · intro wx hs1; go_simp
            (try simp only [Act.put, List.getElem_toArray, List.getElem_cons_succ, List.getElem_cons_zero, List.setIfInBounds_toArray, List.set_cons_zero, List.set_cons_succ])
            refine wpAnyH_take (i := 4) (v := .pointer (some ⟨w2.heap.size, 0, none⟩)) rfl (by kernel_rfl) (by kernel_rfl) (by kernel_rfl) (fun _ _ _ h => h) (Or.inl ⟨by rfl, ?_⟩) (by assumption) ?_
            · intro wx hs1; go_simp
            (try simp only [Act.put, List.getElem_toArray, List.getElem_cons_succ, List.getElem_cons_zero, List.setIfInBounds_toArray, List.set_cons_zero, List.set_cons_succ])
            refine wpAnyH_take (i := 5) (v := .int .i64 (j : Int)) rfl (by kernel_rfl) (by kernel_rfl) (by kernel_rfl) (fun _ _ _ h => h) (Or.inl ⟨by rfl, ?_⟩) (by assumption) ?_
            · intro wx hs1; have hx := (hs1.block _ (Array.getElem?_eq_some_iff.1 HP3.out).1).trans HP3.out; have k0 := cell_of_heap hx 0; have k1 := cell_of_heap hx 1; have k2 := cell_of_heap hx 2; have k3 := cell_of_heap hx 3; simp only [List.getElem?_toArray, List.getElem?_cons_zero, List.getElem?_cons_succ] at k0 k1 k2 k3; go_simp
            (try simp only [Act.put, List.getElem_toArray, List.getElem_cons_succ, List.getElem_cons_zero, List.setIfInBounds_toArray, List.set_cons_zero, List.set_cons_succ])
            refine wpAnyH_take (i := 6) (v := .bool false) rfl (by kernel_rfl) (by kernel_rfl) (by kernel_rfl) (fun _ _ _ h => h) (Or.inl ⟨by rfl, ?_⟩) (by assumption) ?_
            · intro wx hs1; go_simp
            (try simp only [Act.put, List.getElem_toArray, List.getElem_cons_succ, List.getElem_cons_zero, List.setIfInBounds_toArray, List.set_cons_zero, List.set_cons_succ])
            refine wpAnyH_take (i := 7) (v := .bool false) rfl (by kernel_rfl) (by kernel_rfl) (by kernel_rfl) (fun _ _ _ h => h) (Or.inl ⟨by rfl, ?_⟩) (by assumption) ?_
            · intro wx hs1; go_simp
            (try simp only [Act.put, List.getElem_toArray, List.getElem_cons_succ, List.getElem_cons_zero, List.setIfInBounds_toArray, List.set_cons_zero, List.set_cons_succ])
            refine wpAnyH_take (i := 8) (v := .pointer (some ⟨w2.heap.size, 0, none⟩)) rfl (by kernel_rfl) (by kernel_rfl) (by kernel_rfl) (fun _ _ _ h => h) (Or.inl ⟨by rfl, ?_⟩) (by assumption) ?_
            · intro wx hs1; go_simp
            (try simp only [Act.put, List.getElem_toArray, List.getElem_cons_succ, List.getElem_cons_zero, List.setIfInBounds_toArray, List.set_cons_zero, List.set_cons_succ])
            refine wpAnyH_take (i := 9) (v := .int .i64 (j : Int)) rfl (by kernel_rfl) (by kernel_rfl) (by kernel_rfl) (fun _ _ _ h => h) (Or.inl ⟨by rfl, ?_⟩) (by assumption) ?_
            · intro wx hs1; have hx := (hs1.block _ (Array.getElem?_eq_some_iff.1 HP3.out).1).trans HP3.out; have k0 := cell_of_heap hx 0; have k1 := cell_of_heap hx 1; have k2 := cell_of_heap hx 2; have k3 := cell_of_heap hx 3; simp only [List.getElem?_toArray, List.getElem?_cons_zero, List.getElem?_cons_succ] at k0 k1 k2 k3; go_simp
            (try simp only [Act.put, List.getElem_toArray, List.getElem_cons_succ, List.getElem_cons_zero, List.setIfInBounds_toArray, List.set_cons_zero, List.set_cons_succ])
            refine wpAnyH_take (i := 10) (v := .slice (some ⟨g, 0, none⟩) Q.length c5) rfl (by kernel_rfl) (by kernel_rfl) (by kernel_rfl) (fun _ _ _ h => h) (Or.inl ⟨by rfl, ?_⟩) (by assumption) ?_
            · intro wx hs1; go_simp
            (try simp only [Act.put, List.getElem_toArray, List.getElem_cons_succ, List.getElem_cons_zero, List.setIfInBounds_toArray, List.set_cons_zero, List.set_cons_succ])
            refine wpAnyH_take (i := 11) (v := .int .i64 (Q.length : Int)) rfl (by kernel_rfl) (by kernel_rfl) (by kernel_rfl) (fun _ _ _ h => h) (Or.inl ⟨by rfl, ?_⟩) (by assumption) ?_
            · intro wx hs1; go_simp
            (try simp only [Act.put, List.getElem_toArray, List.getElem_cons_succ, List.getElem_cons_zero, List.setIfInBounds_toArray, List.set_cons_zero, List.set_cons_succ])
            refine wpAnyH_take (i := 12) (v := .bool false) rfl (by kernel_rfl) (by kernel_rfl) (by kernel_rfl) (fun _ _ _ h => h) (Or.inl ⟨by rfl, ?_⟩) (by assumption) ?_
            · intro wx hs1; go_simp
            (try simp only [Act.put, List.getElem_toArray, List.getElem_cons_succ, List.getElem_cons_zero, List.setIfInBounds_toArray, List.set_cons_zero, List.set_cons_succ])
            refine wpAnyH_take (i := 13) (v := .bool false) rfl (by kernel_rfl) (by kernel_rfl) (by kernel_rfl) (fun _ _ _ h => h) (Or.inl ⟨by rfl, ?_⟩) (by assumption) ?_
            · intro wx hs1; go_simp
            (try simp only [Act.put, List.getElem_toArray, List.getElem_cons_succ, List.getElem_cons_zero, List.setIfInBounds_toArray, List.set_cons_zero, List.set_cons_succ])
            refine wpAnyH_take (i := 14) (v := .bool false) rfl (by kernel_rfl) (by kernel_rfl) (by kernel_rfl) (fun _ _ _ h => h) (Or.inl ⟨by rfl, ?_⟩) (by assumption) ?_
            · intro wx hs1; go_simp
            (try simp only [Act.put, List.getElem_toArray, List.getElem_cons_succ, List.getElem_cons_zero, List.setIfInBounds_toArray, List.set_cons_zero, List.set_cons_succ])
            refine wpAnyH_take (i := 15) (v := .agg #[.int .i64 (j : Int), .int .i64 m2, .int .i64 m3, .slice A8 m4 c8]) rfl (by kernel_rfl) (by kernel_rfl) (by kernel_rfl) (fun _ _ _ h => h) (Or.inl ⟨by rfl, ?_⟩) (by assumption) ?_
            · intro wx hs1; have hx := (hs1.block _ (Array.getElem?_eq_some_iff.1 HP3.out).1).trans HP3.out; have k0 := cell_of_heap hx 0; have k1 := cell_of_heap hx 1; have k2 := cell_of_heap hx 2; have k3 := cell_of_heap hx 3; simp only [List.getElem?_toArray, List.getElem?_cons_zero, List.getElem?_cons_succ] at k0 k1 k2 k3; go_simp
            (try simp only [Act.put, List.getElem_toArray, List.getElem_cons_succ, List.getElem_cons_zero, List.setIfInBounds_toArray, List.set_cons_zero, List.set_cons_succ])
            refine wpAnyH_take (i := 16) (v := .slice (some ⟨g, 0, none⟩) Q.length c5) rfl (by kernel_rfl) (by kernel_rfl) (by kernel_rfl) (fun _ _ _ h => h) (Or.inl ⟨by rfl, ?_⟩) (by assumption) ?_
            · intro wx hs1; go_simp
            (try simp only [Act.put, List.getElem_toArray, List.getElem_cons_succ, List.getElem_cons_zero, List.setIfInBounds_toArray, List.set_cons_zero, List.set_cons_succ])
            refine wpAnyH_take (i := 17) (v := .pointer (some ⟨w2.heap.size, 0, none⟩)) rfl (by kernel_rfl) (by kernel_rfl) (by kernel_rfl) (fun _ _ _ h => h) (Or.inl ⟨by rfl, ?_⟩) (by assumption) ?_
            · intro wx hs1; go_simp
            (try simp only [Act.put, List.getElem_toArray, List.getElem_cons_succ, List.getElem_cons_zero, List.setIfInBounds_toArray, List.set_cons_zero, List.set_cons_succ])
            refine wpAnyH_take (i := 18) (v := .int .i64 (j : Int)) rfl (by kernel_rfl) (by kernel_rfl) (by kernel_rfl) (fun _ _ _ h => h) (Or.inl ⟨by rfl, ?_⟩) (by assumption) ?_
            · intro wx hs1; have hx := (hs1.block _ (Array.getElem?_eq_some_iff.1 HP3.out).1).trans HP3.out; have k0 := cell_of_heap hx 0; have k1 := cell_of_heap hx 1; have k2 := cell_of_heap hx 2; have k3 := cell_of_heap hx 3; simp only [List.getElem?_toArray, List.getElem?_cons_zero, List.getElem?_cons_succ] at k0 k1 k2 k3; go_simp
            (try simp only [Act.put, List.getElem_toArray, List.getElem_cons_succ, List.getElem_cons_zero, List.setIfInBounds_toArray, List.set_cons_zero, List.set_cons_succ])
            refine wpAnyH_take (i := 19) (v := .pointer (some ⟨g, j * 4, none⟩)) rfl (by kernel_rfl) (by kernel_rfl) (by kernel_rfl) (fun _ _ _ h => h) (Or.inl ⟨by rfl, ?_⟩) (by assumption) ?_
            · intro wx hs1; go_simp
            (try simp only [Act.put, List.getElem_toArray, List.getElem_cons_succ, List.getElem_cons_zero, List.setIfInBounds_toArray, List.set_cons_zero, List.set_cons_succ])
            refine wpAnyH_take (i := 20) (v := .agg #[.int .i64 (j : Int), .int .i64 m2, .int .i64 m3, .slice q.A m4 q.c]) rfl (by kernel_rfl) (by kernel_rfl) (by kernel_rfl) (fun _ _ _ h => h) (Or.inl ⟨by rfl, ?_⟩) (by assumption) ?_
            · intro wx hs1; obtain ⟨k0, k1, k2, k3⟩ := HQC.out wx hs1; go_simp
            (try simp only [Act.put, List.getElem_toArray, List.getElem_cons_succ, List.getElem_cons_zero, List.setIfInBounds_toArray, List.set_cons_zero, List.set_cons_succ])
            refine wpAnyH_ready (rs := [21]) (by kernel_rfl) (by simp) (AllReadyH.cons rfl (fun K hK => ?_) AllReadyH.nil)
            go_simp
            go_at_call 28
            (with_reducible refine (HSP.out _ hS0).mono ?_)
            rintro e w5 ⟨rfl, hb⟩
            try dsimp only
            have HB1 : Hid (Below W3.heap.size W3 w5) := Lib.hid (HB0.out.trans (hb.mono HB0.out.size)); clear hb; have hS := HB1.out
            refine hK.out _ _ hS (fun _ => ?_)
            clear hK K
            (try simp only [Act.put, List.getElem_toArray, List.getElem_cons_succ, List.getElem_cons_zero, List.setIfInBounds_toArray, List.set_cons_zero, List.set_cons_succ])
            refine wpAnyH_take (i := 22) (v := .bool false) rfl (by kernel_rfl) (by kernel_rfl) (by kernel_rfl) (fun _ _ _ h => h) (Or.inl ⟨by rfl, ?_⟩) (by assumption) ?_
            · intro wx hs1; go_simp
            (try simp only [Act.put, List.getElem_toArray, List.getElem_cons_succ, List.getElem_cons_zero, List.setIfInBounds_toArray, List.set_cons_zero, List.set_cons_succ])
            refine wpAnyH_take (i := 23) (v := .bool false) rfl (by kernel_rfl) (by kernel_rfl) (by kernel_rfl) (fun _ _ _ h => h) (Or.inl ⟨by rfl, ?_⟩) (by assumption) ?_
            · intro wx hs1; go_simp
            (try simp only [Act.put, List.getElem_toArray, List.getElem_cons_succ, List.getElem_cons_zero, List.setIfInBounds_toArray, List.set_cons_zero, List.set_cons_succ])
            refine wpAnyH_take (i := 24) (v := .bool false) rfl (by kernel_rfl) (by kernel_rfl) (by kernel_rfl) (fun _ _ _ h => h) (Or.inl ⟨by rfl, ?_⟩) (by assumption) ?_
            · intro wx hs1; go_simp
            (try simp only [Act.put, List.getElem_toArray, List.getElem_cons_succ, List.getElem_cons_zero, List.setIfInBounds_toArray, List.set_cons_zero, List.set_cons_succ])
            refine wpAnyH_take (i := 25) (v := .pointer (some ⟨p, 0, none⟩)) rfl (by kernel_rfl) (by kernel_rfl) (by kernel_rfl) (fun _ _ _ h => h) (Or.inl ⟨by rfl, ?_⟩) (by assumption) ?_
            · intro wx hs1; go_simp
            (try simp only [Act.put, List.getElem_toArray, List.getElem_cons_succ, List.getElem_cons_zero, List.setIfInBounds_toArray, List.set_cons_zero, List.set_cons_succ])
            refine wpAnyH_take (i := 26) (v := .pointer (some ⟨w2.heap.size, 1, none⟩)) rfl (by kernel_rfl) (by kernel_rfl) (by kernel_rfl) (fun _ _ _ h => h) (Or.inl ⟨by rfl, ?_⟩) (by assumption) ?_
            · intro wx hs1; go_simp
            (try simp only [Act.put, List.getElem_toArray, List.getElem_cons_succ, List.getElem_cons_zero, List.setIfInBounds_toArray, List.set_cons_zero, List.set_cons_succ])
            refine wpAnyH_take (i := 27) (v := .int .i64 m2) rfl (by kernel_rfl) (by kernel_rfl) (by kernel_rfl) (fun _ _ _ h => h) (Or.inl ⟨by rfl, ?_⟩) (by assumption) ?_
            · intro wx hs1; have hx := (hs1.block _ (Array.getElem?_eq_some_iff.1 HP3.out).1).trans HP3.out; have k0 := cell_of_heap hx 0; have k1 := cell_of_heap hx 1; have k2 := cell_of_heap hx 2; have k3 := cell_of_heap hx 3; simp only [List.getElem?_toArray, List.getElem?_cons_zero, List.getElem?_cons_succ] at k0 k1 k2 k3; go_simp
            (try simp only [Act.put, List.getElem_toArray, List.getElem_cons_succ, List.getElem_cons_zero, List.setIfInBounds_toArray, List.set_cons_zero, List.set_cons_succ])
            refine wpAnyH_take (i := 28) (v := .pointer (some ⟨w2.heap.size, 2, none⟩)) rfl (by kernel_rfl) (by kernel_rfl) (by kernel_rfl) (fun _ _ _ h => h) (Or.inl ⟨by rfl, ?_⟩) (by assumption) ?_
            · intro wx hs1; go_simp
            (try simp only [Act.put, List.getElem_toArray, List.getElem_cons_succ, List.getElem_cons_zero, List.setIfInBounds_toArray, List.set_cons_zero, List.set_cons_succ])
            refine wpAnyH_take (i := 29) (v := .int .i64 m3) rfl (by kernel_rfl) (by kernel_rfl) (by kernel_rfl) (fun _ _ _ h => h) (Or.inl ⟨by rfl, ?_⟩) (by assumption) ?_
            · intro wx hs1; have hx := (hs1.block _ (Array.getElem?_eq_some_iff.1 HP3.out).1).trans HP3.out; have k0 := cell_of_heap hx 0; have k1 := cell_of_heap hx 1; have k2 := cell_of_heap hx 2; have k3 := cell_of_heap hx 3; simp only [List.getElem?_toArray, List.getElem?_cons_zero, List.getElem?_cons_succ] at k0 k1 k2 k3; go_simp
            (try simp only [Act.put, List.getElem_toArray, List.getElem_cons_succ, List.getElem_cons_zero, List.setIfInBounds_toArray, List.set_cons_zero, List.set_cons_succ])
            refine wpAnyH_ready (rs := [30]) (by kernel_rfl) (by simp) (AllReadyH.cons rfl (fun K hK => ?_) AllReadyH.nil)
            go_simp
            go_at_call 19
            (with_reducible refine (H19.out _ HB1.out).mono ?_)
            rintro e w6 ⟨rfl, hb⟩
            try dsimp only
            have HB2 : Hid (Below W3.heap.size W3 w6) := Lib.hid (HB1.out.trans (hb.mono HB1.out.size)); clear hb; have hS := HB2.out
            refine hK.out _ _ hS (fun _ => ?_)
            clear hK K
            (try simp only [Act.put, List.getElem_toArray, List.getElem_cons_succ, List.getElem_cons_zero, List.setIfInBounds_toArray, List.set_cons_zero, List.set_cons_succ])
            refine wpAnyH_take (i := 31) (v := .bool false) rfl (by kernel_rfl) (by kernel_rfl) (by kernel_rfl) (fun _ _ _ h => h) (Or.inl ⟨by rfl, ?_⟩) (by assumption) ?_
            · intro wx hs1; go_simp
            (try simp only [Act.put, List.getElem_toArray, List.getElem_cons_succ, List.getElem_cons_zero, List.setIfInBounds_toArray, List.set_cons_zero, List.set_cons_succ])
            refine wpAnyH_take (i := 32) (v := .bool false) rfl (by kernel_rfl) (by kernel_rfl) (by kernel_rfl) (fun _ _ _ h => h) (Or.inl ⟨by rfl, ?_⟩) (by assumption) ?_
            · intro wx hs1; go_simp
            (try simp only [Act.put, List.getElem_toArray, List.getElem_cons_succ, List.getElem_cons_zero, List.setIfInBounds_toArray, List.set_cons_zero, List.set_cons_succ])
            refine wpAnyH_done (by kernel_rfl) ?_ _
            have HM6 := Lib.hid (HM3.out.keep HB2.out)
            have hp6 := (HB2.out.block _ (Array.getElem?_eq_some_iff.1 HP3.out).1).trans HP3.out
            have z0 := cell_of_heap hp6 0
            simp only [List.getElem?_toArray, List.getElem?_cons_zero] at z0
            clear hp6
            go_upto_region 28 with (go_at_call 17; (with_reducible refine (num_any _ _ (by decide) (by decide)).mono ?_); rintro e w' ⟨rfl, rfl⟩)
            clear z0
            go_upto_region 29 with fail
            have hG9 : ∀ q : Nat, q < G.length → ∃ g cap v, A6 = some ⟨g, 0, none⟩ ∧ c6 = cap ∧ w6.cell? ⟨g, q, none⟩ = some (.int .i64 v) ∧ v ≠ (j : Int) := by
              intro q hq
              obtain ⟨g, cap, hv, _, _⟩ := HM6.out.grow.form (by omega)
              injection hv with hv1 hv2 hv3
              subst hv1 hv3
              obtain ⟨v, hv⟩ : ∃ v, G[q]? = some v := ⟨_, List.getElem?_eq_getElem hq⟩
              refine ⟨g, c6, v, rfl, rfl, ?_, fun e => HNG.out (by rw [← e]; exact List.mem_of_getElem? hv)⟩
              rw [HM6.out.grow.cellAt q (by omega), List.getElem?_map, hv]
              rfl
            have HG9 := Lib.hid hG9
            clear hG9
            go_loopw [15] (fun v15 wr => ∃ q : Nat, q ≤ G.length ∧ v15 = .int .i64 (q : Int) ∧ wr = w6) (fun v15 _ => G.length - (RowKit.intOf v15).toNat)
            case atStart => exact ⟨0, Nat.zero_le _, rfl, rfl⟩
            case round =>
              obtain ⟨q, hq, rfl, rfl⟩ := hrel
              obtain ⟨w6, rfl⟩ : ∃ v : World, v = wr := ⟨_, rfl⟩
              by_cases hqt : q < G.length
              · obtain ⟨g, cap, v, rfl, rfl, hcv, hvj⟩ := HG9.out q hqt
                have hqI : (q : Int) < (G.length : Int) := by omega
                have hvj2 : (v == (j : Int)) = false := by simpa using hvj
                go_wp2
                go_roundw
                case rel => exact ⟨q + 1, by omega, by go_num, by first | rfl | trivial⟩
                case measure => simp [RowKit.intOf]; omega
              · obtain rfl : q = G.length := by omega
                have hj1 : ¬ (j : Int) < 0 := by omega
                have hj2 : ¬ (Q.length : Int) ≤ (j : Int) := by omega
                obtain ⟨i2, q2, r2, s2, t2⟩ := info2
                have hnw := World.alloc_heap_new w6 (.cells #[.int .i64 (j : Int)] 2)
                have hM4 := HM6.out.keep ((Below.refl _ w6).alloc (Nat.le_refl _) (.cells #[.int .i64 (j : Int)] 2))
                have hlo := HM6.out.lo
                have hwnn := World.news_of_block hnw
                go_wp2_with (at_builtin; refine wpList_append_own_at _ rfl (.tmp 170) (.tmp 172) 72 rfl n0 2 i2 _ 1 8 Try.underlying72 q2 r2 s2 t2 rfl (by decide) _ G.length (G.map fun g => .int .i64 g) rfl hM4.grow ⟨w6.heap.size, 0, none⟩ 1 1 [.int .i64 (j : Int)] rfl rfl hwnn (by simp [Value.oneCell']) ?_ ?_ ?_ ?_; (unfold maxLen; omega); omega; (simp; omega); intro v5 w5 hown5 hg5 _ hat5; obtain ⟨A7, c7, rfl⟩ := own_form hown5; have HM5 := Lib.hid (hM4.pushG (j : Int) hown5 hg5 hat5); clear hown5 hg5 hat5 hM4 hwnn)
                have hlg : (G ++ [(j : Int)]).length = G.length + 1 := by simp
                have HI2 : Hid (OnS w n0 p N' Q (G ++ [(j : Int)]) (.slice (some ⟨g, 0, none⟩) Q.length c5) (.slice A7 (G ++ [(j : Int)]).length c7) (k + 1) w5) := Lib.hid (by
                  rw [hlg]
                  exact ⟨HM5.out, HLS.out, Nat.le_succ_of_le HI.out.q, by rw [hlg]; exact Nat.succ_le_succ HI.out.g⟩)
                go_roundw
                case rel => exact ⟨k + 1, N', Q, G ++ [(j : Int)], (some ⟨g, 0, none⟩), c5, A7, c7, by omega, by go_num, rfl, by rw [hlg], HI2⟩
                case measure => simp [RowKit.intOf]; omega
          · rw [takeN_err hE] at htk
            obtain ⟨E, hEE⟩ : ∃ E, reachE N X.src X.dst X.pick = E := ⟨_, rfl⟩
            have hER := reachE_range N X.src X.dst X.pick
            rw [hEE] at htk hE hER
            have hE2 : (E == 0) = false := by simpa using hE
            have hE3 : (E != 0) = true := by simpa using hE
            unfold parVal at htk
            simp only [zeroP, List.length_nil] at htk
            clear hEE hE
            go_upto_region 22 with (go_at_call 14; (with_reducible refine htk.mono ?_); clear htk; rintro e w2 ⟨A8, c8, rfl, hpv, hst⟩)
            have hM2 := HSK.out _ _ hst
            have hb3 : Below w2.heap.size w2 (w2.alloc (.cells #[.int .i64 0, .int .i64 0, .int .i64 0, .slice A8 0 c8] 41)) := (Below.refl _ _).alloc (Nat.le_refl _) _
            have hp3 := World.alloc_heap_new w2 (.cells #[.int .i64 0, .int .i64 0, .int .i64 0, .slice A8 0 c8] 41)
            have hM3 := hM2.keep hb3
            obtain ⟨W3, hW3⟩ : ∃ V, w2.alloc (.cells #[.int .i64 0, .int .i64 0, .int .i64 0, .slice A8 0 c8] 41) = V := ⟨_, rfl⟩
            rw [hW3] at hb3 hp3 hM3 ⊢
            have HP3 := Lib.hid hp3
            have HM3 := Lib.hid hM3
            clear hM2 hb3 hp3 hM3 hpv hst hW3 y0 y1 y2 y3 y4 y5
            have hS0 : (fun W => Below W3.heap.size W3 W) W3.drew := (Below.refl _ _).drew
            refine wp_region_held_drew (S := fun W => Below W3.heap.size W3 W) rfl hS0 (fun hHeld => ?_)
            simp only [List.size_toArray, List.length_cons, List.length_nil, Nat.reduceAdd]
            have HB0 : Hid (Below W3.heap.size W3 W3.drew) := Lib.hid (Below.refl _ _).drew
            obtain ⟨V0, hV0⟩ : ∃ V, W3.drew = V := ⟨_, rfl⟩
            rw [hV0] at hHeld hS0 HB0 ⊢
            clear hV0
            refine wpAnyH_take (i := 0) (v := .int .i64 E) rfl (by kernel_rfl) (by kernel_rfl) (by kernel_rfl) (fun _ _ _ h => h) (Or.inl ⟨by rfl, ?_⟩) (by assumption) ?_
            · intro wx hs1; go_simp
            (try simp only [Act.put, List.getElem_toArray, List.getElem_cons_zero, List.setIfInBounds_toArray, List.set_cons_zero, List.set_cons_succ])
            refine wpAnyH_ready (rs := [1]) (by kernel_rfl) (by simp) (AllReadyH.cons rfl (fun K hK => ?_) AllReadyH.nil)
            go_simp
            go_at_call 17
            (with_reducible refine (num_any _ _ hER.1 hER.2).mono ?_)
            rintro e w' ⟨rfl, rfl⟩
            try dsimp only
            have hS := hS0
            refine hK.out _ _ hS (fun _ => ?_)
            clear hK K
            (try simp only [Act.put, List.getElem_toArray, List.getElem_cons_succ, List.getElem_cons_zero, List.setIfInBounds_toArray, List.set_cons_zero, List.set_cons_succ])
            refine wpAnyH_take (i := 2) (v := .bool false) rfl (by kernel_rfl) (by kernel_rfl) (by kernel_rfl) (fun _ _ _ h => h) (Or.inl ⟨by rfl, ?_⟩) (by assumption) ?_
            · intro wx hs1; go_simp
            (try simp only [Act.put, List.getElem_toArray, List.getElem_cons_succ, List.getElem_cons_zero, List.setIfInBounds_toArray, List.set_cons_zero, List.set_cons_succ])
            refine wpAnyH_take (i := 3) (v := .bool false) rfl (by kernel_rfl) (by kernel_rfl) (by kernel_rfl) (fun _ _ _ h => h) (Or.inl ⟨by rfl, ?_⟩) (by assumption) ?_
            · intro wx hs1; go_simp
            (try simp only [Act.put, List.getElem_toArray, List.getElem_cons_succ, List.getElem_cons_zero, List.setIfInBounds_toArray, List.set_cons_zero, List.set_cons_succ])
            refine wpAnyH_take (i := 4) (v := undef) rfl (by kernel_rfl) (by kernel_rfl) (by kernel_rfl) (fun _ _ _ h => h) (Or.inr ⟨by rfl, rfl⟩) (by assumption) ?_
            (try simp only [Act.put, List.getElem_toArray, List.getElem_cons_succ, List.getElem_cons_zero, List.setIfInBounds_toArray, List.set_cons_zero, List.set_cons_succ])
            refine wpAnyH_take (i := 5) (v := undef) rfl (by kernel_rfl) (by kernel_rfl) (by kernel_rfl) (fun _ _ _ h => h) (Or.inr ⟨by rfl, rfl⟩) (by assumption) ?_
            (try simp only [Act.put, List.getElem_toArray, List.getElem_cons_succ, List.getElem_cons_zero, List.setIfInBounds_toArray, List.set_cons_zero, List.set_cons_succ])
            refine wpAnyH_take (i := 6) (v := undef) rfl (by kernel_rfl) (by kernel_rfl) (by kernel_rfl) (fun _ _ _ h => h) (Or.inr ⟨by rfl, rfl⟩) (by assumption) ?_
            (try simp only [Act.put, List.getElem_toArray, List.getElem_cons_succ, List.getElem_cons_zero, List.setIfInBounds_toArray, List.set_cons_zero, List.set_cons_succ])
            refine wpAnyH_take (i := 7) (v := undef) rfl (by kernel_rfl) (by kernel_rfl) (by kernel_rfl) (fun _ _ _ h => h) (Or.inr ⟨by rfl, rfl⟩) (by assumption) ?_
            (try simp only [Act.put, List.getElem_toArray, List.getElem_cons_succ, List.getElem_cons_zero, List.setIfInBounds_toArray, List.set_cons_zero, List.set_cons_succ])
            refine wpAnyH_take (i := 8) (v := undef) rfl (by kernel_rfl) (by kernel_rfl) (by kernel_rfl) (fun _ _ _ h => h) (Or.inr ⟨by rfl, rfl⟩) (by assumption) ?_
            (try simp only [Act.put, List.getElem_toArray, List.getElem_cons_succ, List.getElem_cons_zero, List.setIfInBounds_toArray, List.set_cons_zero, List.set_cons_succ])
            refine wpAnyH_take (i := 9) (v := undef) rfl (by kernel_rfl) (by kernel_rfl) (by kernel_rfl) (fun _ _ _ h => h) (Or.inr ⟨by rfl, rfl⟩) (by assumption) ?_
            (try simp only [Act.put, List.getElem_toArray, List.getElem_cons_succ, List.getElem_cons_zero, List.setIfInBounds_toArray, List.set_cons_zero, List.set_cons_succ])
            refine wpAnyH_take (i := 10) (v := undef) rfl (by kernel_rfl) (by kernel_rfl) (by kernel_rfl) (fun _ _ _ h => h) (Or.inr ⟨by rfl, rfl⟩) (by assumption) ?_
            (try simp only [Act.put, List.getElem_toArray, List.getElem_cons_succ, List.getElem_cons_zero, List.setIfInBounds_toArray, List.set_cons_zero, List.set_cons_succ])
            refine wpAnyH_take (i := 11) (v := undef) rfl (by kernel_rfl) (by kernel_rfl) (by kernel_rfl) (fun _ _ _ h => h) (Or.inr ⟨by rfl, rfl⟩) (by assumption) ?_
            (try simp only [Act.put, List.getElem_toArray, List.getElem_cons_succ, List.getElem_cons_zero, List.setIfInBounds_toArray, List.set_cons_zero, List.set_cons_succ])
            refine wpAnyH_take (i := 12) (v := undef) rfl (by kernel_rfl) (by kernel_rfl) (by kernel_rfl) (fun _ _ _ h => h) (Or.inr ⟨by rfl, rfl⟩) (by assumption) ?_
            (try simp only [Act.put, List.getElem_toArray, List.getElem_cons_succ, List.getElem_cons_zero, List.setIfInBounds_toArray, List.set_cons_zero, List.set_cons_succ])
            refine wpAnyH_take (i := 13) (v := undef) rfl (by kernel_rfl) (by kernel_rfl) (by kernel_rfl) (fun _ _ _ h => h) (Or.inr ⟨by rfl, rfl⟩) (by assumption) ?_
            (try simp only [Act.put, List.getElem_toArray, List.getElem_cons_succ, List.getElem_cons_zero, List.setIfInBounds_toArray, List.set_cons_zero, List.set_cons_succ])
            refine wpAnyH_take (i := 14) (v := undef) rfl (by kernel_rfl) (by kernel_rfl) (by kernel_rfl) (fun _ _ _ h => h) (Or.inr ⟨by rfl, rfl⟩) (by assumption) ?_
            (try simp only [Act.put, List.getElem_toArray, List.getElem_cons_succ, List.getElem_cons_zero, List.setIfInBounds_toArray, List.set_cons_zero, List.set_cons_succ])
            refine wpAnyH_take (i := 15) (v := undef) rfl (by kernel_rfl) (by kernel_rfl) (by kernel_rfl) (fun _ _ _ h => h) (Or.inr ⟨by rfl, rfl⟩) (by assumption) ?_
            (try simp only [Act.put, List.getElem_toArray, List.getElem_cons_succ, List.getElem_cons_zero, List.setIfInBounds_toArray, List.set_cons_zero, List.set_cons_succ])
            refine wpAnyH_take (i := 16) (v := undef) rfl (by kernel_rfl) (by kernel_rfl) (by kernel_rfl) (fun _ _ _ h => h) (Or.inr ⟨by rfl, rfl⟩) (by assumption) ?_
            (try simp only [Act.put, List.getElem_toArray, List.getElem_cons_succ, List.getElem_cons_zero, List.setIfInBounds_toArray, List.set_cons_zero, List.set_cons_succ])
            refine wpAnyH_take (i := 17) (v := undef) rfl (by kernel_rfl) (by kernel_rfl) (by kernel_rfl) (fun _ _ _ h => h) (Or.inr ⟨by rfl, rfl⟩) (by assumption) ?_
            (try simp only [Act.put, List.getElem_toArray, List.getElem_cons_succ, List.getElem_cons_zero, List.setIfInBounds_toArray, List.set_cons_zero, List.set_cons_succ])
            refine wpAnyH_take (i := 18) (v := undef) rfl (by kernel_rfl) (by kernel_rfl) (by kernel_rfl) (fun _ _ _ h => h) (Or.inr ⟨by rfl, rfl⟩) (by assumption) ?_
            (try simp only [Act.put, List.getElem_toArray, List.getElem_cons_succ, List.getElem_cons_zero, List.setIfInBounds_toArray, List.set_cons_zero, List.set_cons_succ])
            refine wpAnyH_take (i := 19) (v := undef) rfl (by kernel_rfl) (by kernel_rfl) (by kernel_rfl) (fun _ _ _ h => h) (Or.inr ⟨by rfl, rfl⟩) (by assumption) ?_
            (try simp only [Act.put, List.getElem_toArray, List.getElem_cons_succ, List.getElem_cons_zero, List.setIfInBounds_toArray, List.set_cons_zero, List.set_cons_succ])
            refine wpAnyH_take (i := 20) (v := undef) rfl (by kernel_rfl) (by kernel_rfl) (by kernel_rfl) (fun _ _ _ h => h) (Or.inr ⟨by rfl, rfl⟩) (by assumption) ?_
            (try simp only [Act.put, List.getElem_toArray, List.getElem_cons_succ, List.getElem_cons_zero, List.setIfInBounds_toArray, List.set_cons_zero, List.set_cons_succ])
            refine wpAnyH_take (i := 21) (v := undef) rfl (by kernel_rfl) (by kernel_rfl) (by kernel_rfl) (fun _ _ _ h => h) (Or.inr ⟨by rfl, rfl⟩) (by assumption) ?_
            (try simp only [Act.put, List.getElem_toArray, List.getElem_cons_succ, List.getElem_cons_zero, List.setIfInBounds_toArray, List.set_cons_zero, List.set_cons_succ])
            refine wpAnyH_take (i := 22) (v := undef) rfl (by kernel_rfl) (by kernel_rfl) (by kernel_rfl) (fun _ _ _ h => h) (Or.inr ⟨by rfl, rfl⟩) (by assumption) ?_
            (try simp only [Act.put, List.getElem_toArray, List.getElem_cons_succ, List.getElem_cons_zero, List.setIfInBounds_toArray, List.set_cons_zero, List.set_cons_succ])
            refine wpAnyH_take (i := 23) (v := undef) rfl (by kernel_rfl) (by kernel_rfl) (by kernel_rfl) (fun _ _ _ h => h) (Or.inr ⟨by rfl, rfl⟩) (by assumption) ?_
            (try simp only [Act.put, List.getElem_toArray, List.getElem_cons_succ, List.getElem_cons_zero, List.setIfInBounds_toArray, List.set_cons_zero, List.set_cons_succ])
            refine wpAnyH_take (i := 24) (v := undef) rfl (by kernel_rfl) (by kernel_rfl) (by kernel_rfl) (fun _ _ _ h => h) (Or.inr ⟨by rfl, rfl⟩) (by assumption) ?_
            (try simp only [Act.put, List.getElem_toArray, List.getElem_cons_succ, List.getElem_cons_zero, List.setIfInBounds_toArray, List.set_cons_zero, List.set_cons_succ])
            refine wpAnyH_take (i := 25) (v := undef) rfl (by kernel_rfl) (by kernel_rfl) (by kernel_rfl) (fun _ _ _ h => h) (Or.inr ⟨by rfl, rfl⟩) (by assumption) ?_
            (try simp only [Act.put, List.getElem_toArray, List.getElem_cons_succ, List.getElem_cons_zero, List.setIfInBounds_toArray, List.set_cons_zero, List.set_cons_succ])
            refine wpAnyH_take (i := 26) (v := undef) rfl (by kernel_rfl) (by kernel_rfl) (by kernel_rfl) (fun _ _ _ h => h) (Or.inr ⟨by rfl, rfl⟩) (by assumption) ?_
            (try simp only [Act.put, List.getElem_toArray, List.getElem_cons_succ, List.getElem_cons_zero, List.setIfInBounds_toArray, List.set_cons_zero, List.set_cons_succ])
            refine wpAnyH_take (i := 27) (v := undef) rfl (by kernel_rfl) (by kernel_rfl) (by kernel_rfl) (fun _ _ _ h => h) (Or.inr ⟨by rfl, rfl⟩) (by assumption) ?_
            (try simp only [Act.put, List.getElem_toArray, List.getElem_cons_succ, List.getElem_cons_zero, List.setIfInBounds_toArray, List.set_cons_zero, List.set_cons_succ])
            refine wpAnyH_take (i := 28) (v := undef) rfl (by kernel_rfl) (by kernel_rfl) (by kernel_rfl) (fun _ _ _ h => h) (Or.inr ⟨by rfl, rfl⟩) (by assumption) ?_
            (try simp only [Act.put, List.getElem_toArray, List.getElem_cons_succ, List.getElem_cons_zero, List.setIfInBounds_toArray, List.set_cons_zero, List.set_cons_succ])
            refine wpAnyH_take (i := 29) (v := undef) rfl (by kernel_rfl) (by kernel_rfl) (by kernel_rfl) (fun _ _ _ h => h) (Or.inr ⟨by rfl, rfl⟩) (by assumption) ?_
            (try simp only [Act.put, List.getElem_toArray, List.getElem_cons_succ, List.getElem_cons_zero, List.setIfInBounds_toArray, List.set_cons_zero, List.set_cons_succ])
            refine wpAnyH_take (i := 30) (v := undef) rfl (by kernel_rfl) (by kernel_rfl) (by kernel_rfl) (fun _ _ _ h => h) (Or.inr ⟨by rfl, rfl⟩) (by assumption) ?_
            (try simp only [Act.put, List.getElem_toArray, List.getElem_cons_succ, List.getElem_cons_zero, List.setIfInBounds_toArray, List.set_cons_zero, List.set_cons_succ])
            refine wpAnyH_take (i := 31) (v := undef) rfl (by kernel_rfl) (by kernel_rfl) (by kernel_rfl) (fun _ _ _ h => h) (Or.inr ⟨by rfl, rfl⟩) (by assumption) ?_
            (try simp only [Act.put, List.getElem_toArray, List.getElem_cons_succ, List.getElem_cons_zero, List.setIfInBounds_toArray, List.set_cons_zero, List.set_cons_succ])
            refine wpAnyH_take (i := 32) (v := .bool false) rfl (by kernel_rfl) (by kernel_rfl) (by kernel_rfl) (fun _ _ _ h => h) (Or.inl ⟨by rfl, ?_⟩) (by assumption) ?_
            · intro wx hs1; go_simp
            (try simp only [Act.put, List.getElem_toArray, List.getElem_cons_succ, List.getElem_cons_zero, List.setIfInBounds_toArray, List.set_cons_zero, List.set_cons_succ])
            refine wpAnyH_done (by kernel_rfl) ?_ _
            have hHI : OnS w n0 p N Q G (.slice A5 Q.length c5) (.slice A6 G.length c6) (k + 1) V0 := ⟨HM3.out.keep HB0.out, HI.out.o, Nat.le_succ_of_le HI.out.q, Nat.le_succ_of_le HI.out.g⟩
            have hp6 := (HB0.out.block _ (Array.getElem?_eq_some_iff.1 HP3.out).1).trans HP3.out
            have z0 := cell_of_heap hp6 0
            simp only [List.getElem?_toArray, List.getElem?_cons_zero] at z0
            have HI2 := Lib.hid hHI
            clear hp6 hHI
            go_wp2_with (go_at_call 17; (with_reducible refine (num_any _ _ hER.1 hER.2).mono ?_); rintro e w' ⟨rfl, rfl⟩)
            go_roundw
            case rel => exact ⟨k + 1, N, Q, G, A5, c5, A6, c6, by omega, by go_num, rfl, rfl, HI2⟩
            case measure => simp [RowKit.intOf]; omega
        have n2' : (wh == 2) = false := by simpa using h2
        by_cases h3 : wh = 3
        · subst h3

          have hdr := drop_N X.src X.dst X.pick W1 hB
          by_cases hE : findE N X.src X.dst = 0
          · obtain ⟨ht1, ht2⟩ := dropN_ok (pick := X.pick) hE
            have hfd := HI.out.o.found ht2
            have hls := HI.out.o.less ht2
            rw [ht1] at hdr
            obtain ⟨m1, hM⟩ : ∃ m1, (findP N X.src X.dst X.pick).1 = m1 := ⟨_, rfl⟩
            obtain ⟨j, hj, hjq, hjl, hng⟩ := hfd
            rw [hM] at hdr hls hj hng
            rw [List.length_map] at hjl
            simp only at hdr
            subst hj
            obtain ⟨N', hN'⟩ : ∃ N', N.less (findA N X.src X.dst X.pick) = N' := ⟨_, rfl⟩
            rw [hN'] at hdr hls
            have HNG := Lib.hid hng
            have HLS := Lib.hid hls
            clear hE ht1 ht2 hM hjq hng hls hN'
            go_upto_region 29 with (first
              | (go_at_call 15; (with_reducible refine hdr.mono ?_); clear hdr; rintro e w6 ⟨rfl, hst⟩; have HM6 := Lib.hid (HSK.out _ _ hst); clear hst)
              | (go_at_call 17; (with_reducible refine (num_any _ _ (by decide) (by decide)).mono ?_); rintro e w' ⟨rfl, rfl⟩))
            have hG9 : ∀ q : Nat, q < G.length → ∃ g cap v, A6 = some ⟨g, 0, none⟩ ∧ c6 = cap ∧ w6.cell? ⟨g, q, none⟩ = some (.int .i64 v) ∧ v ≠ (j : Int) := by
              intro q hq
              obtain ⟨g, cap, hv, _, _⟩ := HM6.out.grow.form (by omega)
              injection hv with hv1 hv2 hv3
              subst hv1 hv3
              obtain ⟨v, hv⟩ : ∃ v, G[q]? = some v := ⟨_, List.getElem?_eq_getElem hq⟩
              refine ⟨g, c6, v, rfl, rfl, ?_, fun e => HNG.out (by rw [← e]; exact List.mem_of_getElem? hv)⟩
              rw [HM6.out.grow.cellAt q (by omega), List.getElem?_map, hv]
              rfl
            have HG9 := Lib.hid hG9
            clear hG9
            go_loopw [15] (fun v15 wr => ∃ q : Nat, q ≤ G.length ∧ v15 = .int .i64 (q : Int) ∧ wr = w6) (fun v15 _ => G.length - (RowKit.intOf v15).toNat)
            case atStart => exact ⟨0, Nat.zero_le _, rfl, rfl⟩
            case round =>
              obtain ⟨q, hq, rfl, rfl⟩ := hrel
              obtain ⟨w6, rfl⟩ : ∃ v : World, v = wr := ⟨_, rfl⟩
              by_cases hqt : q < G.length
              · obtain ⟨g, cap, v, rfl, rfl, hcv, hvj⟩ := HG9.out q hqt
                have hqI : (q : Int) < (G.length : Int) := by omega
                have hvj2 : (v == (j : Int)) = false := by simpa using hvj
                go_wp2
                go_roundw
                case rel => exact ⟨q + 1, by omega, by go_num, by first | rfl | trivial⟩
                case measure => simp [RowKit.intOf]; omega
              · obtain rfl : q = G.length := by omega
                have hj1 : ¬ (j : Int) < 0 := by omega
                have hj2 : ¬ (Q.length : Int) ≤ (j : Int) := by omega
                obtain ⟨i2, q2, r2, s2, t2⟩ := info2
                have hnw := World.alloc_heap_new w6 (.cells #[.int .i64 (j : Int)] 2)
                have hM4 := HM6.out.keep ((Below.refl _ w6).alloc (Nat.le_refl _) (.cells #[.int .i64 (j : Int)] 2))
                have hlo := HM6.out.lo
                have hwnn := World.news_of_block hnw
                go_wp2_with (at_builtin; refine wpList_append_own_at _ rfl (.tmp 170) (.tmp 172) 72 rfl n0 2 i2 _ 1 8 Try.underlying72 q2 r2 s2 t2 rfl (by decide) _ G.length (G.map fun g => .int .i64 g) rfl hM4.grow ⟨w6.heap.size, 0, none⟩ 1 1 [.int .i64 (j : Int)] rfl rfl hwnn (by simp [Value.oneCell']) ?_ ?_ ?_ ?_; (unfold maxLen; omega); omega; (simp; omega); intro v5 w5 hown5 hg5 _ hat5; obtain ⟨A7, c7, rfl⟩ := own_form hown5; have HM5 := Lib.hid (hM4.pushG (j : Int) hown5 hg5 hat5); clear hown5 hg5 hat5 hM4 hwnn)
                have hlg : (G ++ [(j : Int)]).length = G.length + 1 := by simp
                have HI2 : Hid (OnS w n0 p N' Q (G ++ [(j : Int)]) (.slice A5 Q.length c5) (.slice A7 (G ++ [(j : Int)]).length c7) (k + 1) w5) := Lib.hid (by
                  rw [hlg]
                  exact ⟨HM5.out, HLS.out, Nat.le_succ_of_le HI.out.q, by rw [hlg]; exact Nat.succ_le_succ HI.out.g⟩)
                go_roundw
                case rel => exact ⟨k + 1, N', Q, G ++ [(j : Int)], A5, c5, A7, c7, by omega, by go_num, rfl, by rw [hlg], HI2⟩
                case measure => simp [RowKit.intOf]; omega
          · rw [dropN_err hE] at hdr
            obtain ⟨E, hEE⟩ : ∃ E, findE N X.src X.dst = E := ⟨_, rfl⟩
            have hER := findE_range N X.src X.dst
            rw [hEE] at hdr hE hER
            have hE3 : (E != 0) = true := by simpa using hE
            simp only at hdr
            clear hEE hE
            go_wp2_with (first
              | (go_at_call 15; (with_reducible refine hdr.mono ?_); clear hdr; rintro e w2 ⟨rfl, hst⟩; have HI2 : Hid (OnS w n0 p N Q G (.slice A5 Q.length c5) (.slice A6 G.length c6) (k + 1) w2) := Lib.hid ⟨HSK.out _ _ hst, HI.out.o, Nat.le_succ_of_le HI.out.q, Nat.le_succ_of_le HI.out.g⟩; clear hst)
              | (go_at_call 17; (with_reducible refine (num_any _ _ hER.1 hER.2).mono ?_); rintro e w' ⟨rfl, rfl⟩))
            go_roundw
            case rel => exact ⟨k + 1, N, Q, G, A5, c5, A6, c6, by omega, by go_num, rfl, rfl, HI2⟩
            case measure => simp [RowKit.intOf]; omega
        have n3' : (wh == 3) = false := by simpa using h3

        have hdn := down_N X.src X.dst X.is W1 hB
        have hO2 := downN_once HI.out.o X.src X.dst X.is
        obtain ⟨N', hN'⟩ : ∃ N', (downN N X.src X.dst X.is).1 = N' := ⟨_, rfl⟩
        obtain ⟨E, hE⟩ : ∃ E, (downN N X.src X.dst X.is).2 = E := ⟨_, rfl⟩
        rw [hN', hE] at hdn
        rw [hN'] at hO2
        have HO2 := Lib.hid hO2
        clear hN' hE hO2
        go_wp2_with (go_at_call 18; (with_reducible refine hdn.mono ?_); clear hdn; rintro e w2 ⟨rfl, hst⟩; have HI2 : Hid (OnS w n0 p N' Q G (.slice A5 Q.length c5) (.slice A6 G.length c6) (k + 1) w2) := Lib.hid ⟨HSK.out _ _ hst, HO2.out, Nat.le_succ_of_le HI.out.q, Nat.le_succ_of_le HI.out.g⟩; clear hst)
        go_roundw
        case rel => exact ⟨k + 1, N', Q, G, A5, c5, A6, c6, by omega, by go_num, rfl, rfl, HI2⟩
        case measure => simp [RowKit.intOf]; omega
      · obtain rfl : k = n := by omega

        have hcm : N.s.came = (Q.length : Int) := by have := HI.out.o.came; rw [List.length_map] at this; exact this
        have hle := HI.out.o.len
        rw [List.length_map] at hle
        have HB1 := Lib.hid HI.out.m.below
        have hlo := HI.out.m.lo
        obtain ⟨B, hB, _⟩ := HI.out.m.net
        have h20 := len_N (-1) (-1) wo hB
        rw [onP_all, List.length_range] at h20
        have H21 : Hid (∀ V, Below wo.heap.size wo V → Calls Try.prog 21 #[.pointer (some ⟨p, 0, none⟩)] V fun e w' => e = .returned (.int .i64 (Q.length : Int)) ∧ V = w') := Lib.hid fun V hb => by
          have h9 := came_N V (hB.keep hb)
          rw [hcm] at h9
          exact h9
        have hsub : (N.P.length : Int) = (Q.length : Int) - (G.length : Int) := by omega
        obtain ⟨np, hnp⟩ : ∃ np, N.P.length = np := ⟨_, rfl⟩
        rw [hnp] at h20 hsub
        have hsub2 : ((np : Int) == (Q.length : Int) - (G.length : Int)) = true := by simpa using hsub
        clear hB hle hnp hcm HI
        go_wp2_with (first
          | (go_at_call 17; (with_reducible refine (num_any _ _ (by decide) (by decide)).mono ?_); rintro e w' ⟨rfl, rfl⟩)
          | (go_at_call 20; (with_reducible refine h20.mono ?_); clear h20; rintro e w2 ⟨rfl, hb2⟩; have h21 := H21.out w2 hb2; have HB2 := Lib.hid (HB1.out.trans (hb2.mono hlo)); have hlo2 := Nat.le_trans hlo hb2.size; clear hb2)
          | (go_at_call 21; (with_reducible refine h21.mono ?_); clear h21; rintro e w' ⟨rfl, rfl⟩)
          | (go_at_call 10; (with_reducible refine (hwk _).mono ?_); rintro e w3 ⟨rfl, hb3⟩; have HB3 := Lib.hid (HB2.out.trans (hb3.mono hlo2)); clear hb3))
        go_ret
        exact ⟨rfl, HB3.out⟩
end Go.Proofs
