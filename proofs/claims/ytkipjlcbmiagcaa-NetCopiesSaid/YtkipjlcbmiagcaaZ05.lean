/-
  Which nets are the same. Conditions: as each theorem names them.
  Which of the document's nets are the same. Conditions: as each theorem names them.
  A range over a function whose rounds keep memory that they made, and what was handed to them: what an iterator promises then, and the laws of the loop. Conditions: what each theorem names.
  All's iterator, where the rounds keep what was handed to them. Conditions: as the theorem names them.
  Copy. Conditions: as each theorem names them.
  NetCopies: the walk. Conditions: as each theorem names them.
-/
import Derived.Test.YtkipjlcbmiagcaaZ04
import Derived.Test.YtkipjlcbmiagcaaZ03
import Derived.Test.YtkipjlcbmiagcaaZ00
import Derived.Shelf.SlMaps.Clone
import Derived.Maps.OwnIn
import Derived.Test.YtkipjlcbmiagcaaZ02
namespace Go.Proofs
open Go Go.RowKit Sm Go.Lib Go.Maps Go.WideMaps
attribute [local go_sem] Oper.semAt_some
theorem Sm.take_same {P1 P2 : List PD} {k : Nat} {a b : PD} (h1 : P1[k]? = some a) (h2 : P2[k]? = some b) (h : P1.take k = P2.take k) (e : a = b) : P1.take (k + 1) = P2.take (k + 1) := by
  rw [List.take_add_one, List.take_add_one, h1, h2, h, e]
set_option maxRecDepth 100000 in
set_option maxHeartbeats 4000000 in
theorem Sm.equalFunc_any {b1 b2 : Nat} (A1 A2 : Option Addr) (c1 c2 : Nat) (L1 L2 : List MsgM) (w : World) (r1 : w.ownsRow b1 83 4 (.slice A1 L1.length c1) L1.length (cellsM L1)) (r2 : w.ownsRow b2 83 4 (.slice A2 L2.length c2) L2.length (cellsM L2))
    (y1 : ∀ m ∈ L1, ∃ b, w.ownsRow b 5 1 m.sl m.bytes.length (m.bytes.map byteCell)) (y2 : ∀ m ∈ L2, ∃ b, w.ownsRow b 5 1 m.sl m.bytes.length (m.bytes.map byteCell)) (hl1 : L1.length ≤ 4096) (hl2 : L2.length ≤ 4096) :
    Calls Try.prog 50 #[.slice A1 L1.length c1, .slice A2 L2.length c2, .func (.func 51) #[] #[]] w fun e w' => e = .returned (.bool (decide (L1.map MsgM.d = L2.map MsgM.d))) ∧ Below w.heap.size w w' := by
  obtain ⟨n1, hn1⟩ : ∃ n, L1.length = n := ⟨_, rfl⟩
  obtain ⟨n2, hn2⟩ : ∃ n, L2.length = n := ⟨_, rfl⟩
  rw [hn1] at r1 hl1 ⊢
  rw [hn2] at r2 hl2 ⊢
  obtain ⟨res, hres⟩ : ∃ r, decide (L1.map MsgM.d = L2.map MsgM.d) = r := ⟨_, rfl⟩
  rw [hres]
  have HR1 := Lib.hid r1
  have HR2 := Lib.hid r2
  have HY1 := Lib.hid y1
  have HY2 := Lib.hid y2
  have HN1 := Lib.hid hn1
  have HN2 := Lib.hid hn2
  have HRES := Lib.hid hres
  have hI1 : (n1 : Int) ≤ 4096 := by omega
  have hI2 : (n2 : Int) ≤ 4096 := by omega
  clear r1 r2 y1 y2 hn1 hn2 hres
  by_cases hsz : n1 = n2
  · have hszI : ((n1 : Int) != (n2 : Int)) = false := by rw [hsz]; simp
    have HSZ := Lib.hid hsz
    clear hsz
    have HB0 : Hid (Below w.heap.size w w) := Lib.hid (Below.refl _ _)
    have HT0 : Hid ((L1.map MsgM.d).take 0 = (L2.map MsgM.d).take 0) := Lib.hid rfl
    go_enter Try.func50, Try.ntmps50
    go_wp2
    go_loopw [17] (fun v17 wr => ∃ k : Nat, k ≤ n1 ∧ v17 = .int .i64 (k : Int) ∧ Hid (Below w.heap.size w wr) ∧ Hid ((L1.map MsgM.d).take k = (L2.map MsgM.d).take k)) (fun v17 _ => n1 - (RowKit.intOf v17).toNat)
    case atStart => exact ⟨0, Nat.zero_le _, rfl, HB0, HT0⟩
    case round =>
      obtain ⟨wo, rfl⟩ : ∃ wo : World, wo = wr := ⟨_, rfl⟩
      obtain ⟨k, hk, rfl, HB, HT⟩ := hrel
      clear HB0 HT0
      by_cases hlt : k < n1
      · have hk1 : k < L1.length := by rw [HN1.out]; exact hlt
        have hk2 : k < L2.length := by rw [HN2.out, ← HSZ.out]; exact hlt
        obtain ⟨m1, hm1⟩ : ∃ m, L1[k]? = some m := ⟨_, List.getElem?_eq_getElem hk1⟩
        obtain ⟨m2, hm2⟩ : ∃ m, L2[k]? = some m := ⟨_, List.getElem?_eq_getElem hk2⟩
        have hrow1 := own_below HR1.out HB.out
        have hrow2 := own_below HR2.out HB.out
        obtain ⟨g1, cap1, hv1, _, hgl1⟩ := hrow1.form (by omega)
        obtain ⟨g2, cap2, hv2, _, hgl2⟩ := hrow2.form (by have := HSZ.out; omega)
        injection hv1 with e1 e2 e3
        injection hv2 with e4 e5 e6
        subst e1 e4
        have hc1 := cellsM_at L1 k m1 hm1
        have hc2 := cellsM_at L2 k m2 hm2
        have x0 := (hrow1.cellAt (k * 4) (by omega)).trans hc1.1
        have x1 := (hrow1.cellAt (k * 4 + 1) (by omega)).trans hc1.2.1
        have x2 := (hrow1.cellAt (k * 4 + 2) (by omega)).trans hc1.2.2.1
        have x3 := (hrow1.cellAt (k * 4 + 3) (by omega)).trans hc1.2.2.2
        have z0 := (hrow2.cellAt (k * 4) (by have := HSZ.out; omega)).trans hc2.1
        have z1 := (hrow2.cellAt (k * 4 + 1) (by have := HSZ.out; omega)).trans hc2.2.1
        have z2 := (hrow2.cellAt (k * 4 + 2) (by have := HSZ.out; omega)).trans hc2.2.2.1
        have z3 := (hrow2.cellAt (k * 4 + 3) (by have := HSZ.out; omega)).trans hc2.2.2.2
        unfold MsgM.sl at x3 z3
        obtain ⟨W, hW⟩ : ∃ V, (wo.alloc (.cells #[.int .i64 m1.num, .int .i64 m1.src, .int .i64 m1.dst, .slice m1.A m1.bytes.length m1.c] 83)).alloc (.cells #[.int .i64 m2.num, .int .i64 m2.src, .int .i64 m2.dst, .slice m2.A m2.bytes.length m2.c] 83) = V := ⟨_, rfl⟩
        have hbW : Below wo.heap.size wo W := by rw [← hW]; exact bel2 wo _ _
        obtain ⟨⟨w0', w1', w2', w3'⟩, _⟩ := four_cells (show W.heap[wo.heap.size]? = some (.cells #[.int .i64 m1.num, .int .i64 m1.src, .int .i64 m1.dst, .slice m1.A m1.bytes.length m1.c] 83 (0, 0)) by rw [← hW]; exact old_alloc _ (new_alloc _ rfl))
        obtain ⟨⟨v0', v1', v2', v3'⟩, _⟩ := four_cells (show W.heap[wo.heap.size + 1]? = some (.cells #[.int .i64 m2.num, .int .i64 m2.src, .int .i64 m2.dst, .slice m2.A m2.bytes.length m2.c] 83 (0, 0)) by rw [← hW]; exact new_alloc _ (by simp))
        have hzz : ∀ j u, wo.cell? ⟨g2, j, none⟩ = some u → (wo.alloc (.cells #[.int .i64 m1.num, .int .i64 m1.src, .int .i64 m1.dst, .slice m1.A m1.bytes.length m1.c] 83)).cell? ⟨g2, j, none⟩ = some u := fun j u h => (((Below.refl _ _).alloc (Nat.le_refl _) _).cell (p := ⟨g2, j, none⟩) hgl2).trans h
        have hbw := HB.out.trans (hbW.mono HB.out.size)
        obtain ⟨b1', hy1⟩ := HY1.out m1 (List.mem_of_getElem? hm1)
        obtain ⟨b2', hy2⟩ := HY2.out m2 (List.mem_of_getElem? hm2)
        have h51 := msgSame_any m1.num m1.src m1.dst m2.num m2.src m2.dst m1.bytes m2.bytes m1.A m2.A m1.bytes.length m1.c m2.bytes.length m2.c W rfl rfl (Sm.Rd.of_own (own_below hy1 hbw) (Nat.le_refl _)) (Sm.Rd.of_own (own_below hy2 hbw) (Nat.le_refl _))
        have hd : decide (m1.num = m2.num ∧ m1.src = m2.src ∧ m1.dst = m2.dst ∧ m1.bytes = m2.bytes) = decide (m1.d = m2.d) := by
          refine decide_eq_decide.2 ?_
          unfold MsgM.d
          rw [Prod.mk.injEq, Prod.mk.injEq, Prod.mk.injEq]
        rw [hd] at h51
        have hp1 : (L1.map MsgM.d)[k]? = some m1.d := by rw [List.getElem?_map, hm1]; rfl
        have hp2 : (L2.map MsgM.d)[k]? = some m2.d := by rw [List.getElem?_map, hm2]; rfl
        have zz0 := hzz _ _ z0
        have zz1 := hzz _ _ z1
        have zz2 := hzz _ _ z2
        have zz3 := hzz _ _ z3
        obtain ⟨t, ht⟩ : ∃ t, decide (m1.d = m2.d) = t := ⟨_, rfl⟩
        rw [ht] at h51
        have HP1 := Lib.hid hp1
        have HP2 := Lib.hid hp2
        have HT2 := Lib.hid ht
        have HBW := Lib.hid hbw
        have hkI : (k : Int) < (n1 : Int) := by omega
        have hkI2 : (k : Int) < (n2 : Int) := by have := HSZ.out; omega
        clear hrow1 hrow2 hc1 hc2 hy1 hy2 hd hp1 hp2 ht hbw hbW e2 e3 e5 e6 hm1 hm2 hzz z0 z1 z2 z3 hgl1 hgl2
        cases t with
        | true =>
          go_wp2_with (go_at_call 51; (with_reducible refine h51.mono ?_); clear h51; rintro e w3 ⟨rfl, hb3⟩)
          have HB3 := Lib.hid (HBW.out.trans (hb3.mono HBW.out.size))
          have HT3 := Lib.hid (take_same HP1.out HP2.out HT.out (of_decide_eq_true HT2.out))
          clear hb3
          go_roundw
          case rel => exact ⟨k + 1, by omega, by go_num, HB3, HT3⟩
          case measure => simp [RowKit.intOf]; omega
        | false =>
          go_wp2_with (go_at_call 51; (with_reducible refine h51.mono ?_); clear h51; rintro e w3 ⟨rfl, hb3⟩)
          go_ret
          refine ⟨?_, HBW.out.trans (hb3.mono HBW.out.size)⟩
          rw [← HRES.out, decide_eq_false (fun e => of_decide_eq_false HT2.out (by
            have h8 := HP1.out
            rw [e, HP2.out] at h8
            exact (Option.some.inj h8).symm))]
          rfl
      · obtain rfl : k = n1 := by omega
        go_wp2
        go_ret
        refine ⟨?_, HB.out⟩
        rw [← HRES.out, decide_eq_true (by
          have h8 := HT.out
          rw [List.take_of_length_le (by rw [List.length_map, HN1.out]; exact Nat.le_refl _), List.take_of_length_le (by rw [List.length_map, HN2.out, HSZ.out]; exact Nat.le_refl _)] at h8
          exact h8)]
        rfl
  · have hszI : ((n1 : Int) == (n2 : Int)) = false := by rw [beq_eq_false_iff_ne]; omega
    go_enter Try.func50, Try.ntmps50
    go_wp2
    go_ret
    refine ⟨?_, Below.refl _ _⟩
    rw [← HRES.out, decide_eq_false (fun e => hsz (by
      have h8 := congrArg List.length e
      rw [List.length_map, List.length_map, HN1.out, HN2.out] at h8
      exact h8))]
    rfl
/-- which nets are the same -/
def Sm.sameN (N1 N2 : NM) : Bool := decide (N1.s.ends = N2.s.ends) && (decide (N1.s.most = N2.s.most) && (decide (N1.s.came = N2.s.came) && (sameD N1.D N2.D && decide (N1.P = N2.P))))
set_option maxRecDepth 100000 in
set_option maxHeartbeats 8000000 in
theorem Sm.same_N {B1 B2 : Nat → Prop} {p1 p2 : Nat} {N1 N2 : NM} (w : World) (h1 : Nt B1 w p1 N1) (h2 : Nt B2 w p2 N2) (he : N1.s.ends = N2.s.ends) (hd1 : N1.D.length ≤ 4096) (hd2 : N2.D.length ≤ 4096) :
    Calls Try.prog 23 #[.pointer (some ⟨p1, 0, none⟩), .pointer (some ⟨p2, 0, none⟩)] w fun e w' => e = .returned (.bool (sameN N1 N2)) ∧ Below w.heap.size w w' := by
  have h42a := there_N w h1
  have h42b := there_N w h2
  obtain ⟨Mb1, ba1, A1, c1, L1, n1, l1, _⟩ := h1
  obtain ⟨Mb2, ba2, A2, c2, L2, n2, l2, _⟩ := h2
  obtain ⟨s1, D1, Q1⟩ := N1
  obtain ⟨s2, D2, Q2⟩ := N2
  simp only at he hd1 hd2 n1 n2 l1 l2
  have HX1 := Lib.hid n1.blk
  have HX2 := Lib.hid n2.blk
  obtain ⟨qd, hqd⟩ : ∃ q, sameD D1 D2 = q := ⟨_, rfl⟩
  obtain ⟨qp, hqp⟩ : ∃ q, decide (Q1 = Q2) = q := ⟨_, rfl⟩
  have H49 : Hid (∀ W, Below w.heap.size w W → Calls Try.prog 49 #[.map (some Mb1), .map (some Mb2)] W fun e w' => e = .returned (.bool qd) ∧ W.grownBy w' none) := Lib.hid fun W hb => by
    obtain ⟨M1, o1, i1⟩ := (n1.keep hb).map
    obtain ⟨M2, o2, i2⟩ := (n2.keep hb).map
    have := mapEqual_any W o1 i1 o2 i2 (by omega) (by omega)
    rwa [hqd] at this
  have H50 : Hid (∀ W, Below w.heap.size w W → Calls Try.prog 50 #[.slice A1 L1.length c1, .slice A2 L2.length c2, .func (.func 51) #[] #[]] W fun e w' => e = .returned (.bool qp) ∧ Below W.heap.size W w') := Lib.hid fun W hb => by
    have k1 := n1.keep hb
    have k2 := n2.keep hb
    have := equalFunc_any A1 A2 c1 c2 L1 L2 W k1.row k2.row (fun m hm => ⟨_, k1.byt m hm⟩) (fun m hm => ⟨_, k2.byt m hm⟩) (by have := k1.lim; omega) (by have := k2.lim; omega)
    rwa [l1, l2, hqp] at this
  unfold sameN
  simp only
  rw [hqd, hqp, decide_eq_true he, Bool.true_and]
  have heb : (s1.ends == s2.ends) = true := by simpa using he
  clear n1 n2 l1 l2 hqd hqp hd1 hd2 he
  by_cases hm : s1.most = s2.most
  · rw [decide_eq_true hm, Bool.true_and]
    have hmb : (s1.most == s2.most) = true := by simpa using hm
    clear hm
    by_cases hc : s1.came = s2.came
    · rw [decide_eq_true hc, Bool.true_and]
      have hcb : (s1.came == s2.came) = true := by simpa using hc
      clear hc
      cases qd with
      | true =>
        rw [Bool.true_and]
        go_enter Try.func23, Try.ntmps23
        go_upto_region 3 with (first
          | (go_at_call 42; (with_reducible refine h42a.mono ?_); rintro e w' ⟨rfl, rfl⟩)
          | (go_at_call 42; (with_reducible refine h42b.mono ?_); rintro e w' ⟨rfl, rfl⟩))
        clear h42a h42b
        have hS0 : (fun W => Below w.heap.size w W) w.drew := (Below.refl _ _).drew
        refine wp_region_held_drew (S := fun W => Below w.heap.size w W) rfl hS0 (fun hHeld => ?_)
        simp only [List.size_toArray, List.length_cons, List.length_nil, Nat.reduceAdd]
        have HB0 : Hid (Below w.heap.size w w.drew) := Lib.hid (Below.refl _ _).drew
        obtain ⟨V0, hV0⟩ : ∃ V, w.drew = V := ⟨_, rfl⟩
        rw [hV0] at hHeld hS0 HB0 ⊢
        clear hV0
        refine wpAnyH_take (i := 0) (v := .pointer (some ⟨p1, 0, none⟩)) rfl (by kernel_rfl) (by kernel_rfl) (by kernel_rfl) (fun _ _ _ h => h) (Or.inl ⟨by rfl, ?_⟩) (by assumption) ?_
        · intro wx hs1; go_simp
        (try simp only [Act.put, List.getElem_toArray, List.getElem_cons_zero, List.setIfInBounds_toArray, List.set_cons_zero, List.set_cons_succ])
        refine wpAnyH_take (i := 1) (v := .pointer (some ⟨p1, 0, none⟩)) rfl (by kernel_rfl) (by kernel_rfl) (by kernel_rfl) (fun _ _ _ h => h) (Or.inl ⟨by rfl, ?_⟩) (by assumption) ?_
        · intro wx hs1; go_simp
        (try simp only [Act.put, List.getElem_toArray, List.getElem_cons_succ, List.getElem_cons_zero, List.setIfInBounds_toArray, List.set_cons_zero, List.set_cons_succ])
        refine wpAnyH_take (i := 2) (v := .pointer (some ⟨p1, 0, none⟩)) rfl (by kernel_rfl) (by kernel_rfl) (by kernel_rfl) (fun _ _ _ h => h) (Or.inl ⟨by rfl, ?_⟩) (by assumption) ?_
        · intro wx hs1; go_simp
        (try simp only [Act.put, List.getElem_toArray, List.getElem_cons_succ, List.getElem_cons_zero, List.setIfInBounds_toArray, List.set_cons_zero, List.set_cons_succ])
        refine wpAnyH_take (i := 3) (v := .int .i64 s1.ends) rfl (by kernel_rfl) (by kernel_rfl) (by kernel_rfl) (fun _ _ _ h => h) (Or.inl ⟨by rfl, ?_⟩) (by assumption) ?_
        · intro wx hs1; obtain ⟨k0, k1, k2, k3, k4⟩ := (five_cells ((hs1.block _ (Array.getElem?_eq_some_iff.1 HX1.out).1).trans HX1.out)).1; go_simp
        (try simp only [Act.put, List.getElem_toArray, List.getElem_cons_succ, List.getElem_cons_zero, List.setIfInBounds_toArray, List.set_cons_zero, List.set_cons_succ])
        refine wpAnyH_take (i := 4) (v := .pointer (some ⟨p2, 0, none⟩)) rfl (by kernel_rfl) (by kernel_rfl) (by kernel_rfl) (fun _ _ _ h => h) (Or.inl ⟨by rfl, ?_⟩) (by assumption) ?_
        · intro wx hs1; go_simp
        (try simp only [Act.put, List.getElem_toArray, List.getElem_cons_succ, List.getElem_cons_zero, List.setIfInBounds_toArray, List.set_cons_zero, List.set_cons_succ])
        refine wpAnyH_take (i := 5) (v := .pointer (some ⟨p2, 0, none⟩)) rfl (by kernel_rfl) (by kernel_rfl) (by kernel_rfl) (fun _ _ _ h => h) (Or.inl ⟨by rfl, ?_⟩) (by assumption) ?_
        · intro wx hs1; go_simp
        (try simp only [Act.put, List.getElem_toArray, List.getElem_cons_succ, List.getElem_cons_zero, List.setIfInBounds_toArray, List.set_cons_zero, List.set_cons_succ])
        refine wpAnyH_take (i := 6) (v := .pointer (some ⟨p2, 0, none⟩)) rfl (by kernel_rfl) (by kernel_rfl) (by kernel_rfl) (fun _ _ _ h => h) (Or.inl ⟨by rfl, ?_⟩) (by assumption) ?_
        · intro wx hs1; go_simp
        (try simp only [Act.put, List.getElem_toArray, List.getElem_cons_succ, List.getElem_cons_zero, List.setIfInBounds_toArray, List.set_cons_zero, List.set_cons_succ])
        refine wpAnyH_take (i := 7) (v := .int .i64 s2.ends) rfl (by kernel_rfl) (by kernel_rfl) (by kernel_rfl) (fun _ _ _ h => h) (Or.inl ⟨by rfl, ?_⟩) (by assumption) ?_
        · intro wx hs1; obtain ⟨k0, k1, k2, k3, k4⟩ := (five_cells ((hs1.block _ (Array.getElem?_eq_some_iff.1 HX2.out).1).trans HX2.out)).1; go_simp
        (try simp only [Act.put, List.getElem_toArray, List.getElem_cons_succ, List.getElem_cons_zero, List.setIfInBounds_toArray, List.set_cons_zero, List.set_cons_succ])
        refine wpAnyH_take (i := 8) (v := .bool true) rfl (by kernel_rfl) (by kernel_rfl) (by kernel_rfl) (fun _ _ _ h => h) (Or.inl ⟨by rfl, ?_⟩) (by assumption) ?_
        · intro wx hs1; go_simp
        (try simp only [Act.put, List.getElem_toArray, List.getElem_cons_succ, List.getElem_cons_zero, List.setIfInBounds_toArray, List.set_cons_zero, List.set_cons_succ])
        refine wpAnyH_take (i := 9) (v := .bool true) rfl (by kernel_rfl) (by kernel_rfl) (by kernel_rfl) (fun _ _ _ h => h) (Or.inl ⟨by rfl, ?_⟩) (by assumption) ?_
        · intro wx hs1; go_simp
        (try simp only [Act.put, List.getElem_toArray, List.getElem_cons_succ, List.getElem_cons_zero, List.setIfInBounds_toArray, List.set_cons_zero, List.set_cons_succ])
        refine wpAnyH_take (i := 10) (v := .pointer (some ⟨p1, 0, none⟩)) rfl (by kernel_rfl) (by kernel_rfl) (by kernel_rfl) (fun _ _ _ h => h) (Or.inl ⟨by rfl, ?_⟩) (by assumption) ?_
        · intro wx hs1; go_simp
        (try simp only [Act.put, List.getElem_toArray, List.getElem_cons_succ, List.getElem_cons_zero, List.setIfInBounds_toArray, List.set_cons_zero, List.set_cons_succ])
        refine wpAnyH_take (i := 11) (v := .pointer (some ⟨p1, 0, none⟩)) rfl (by kernel_rfl) (by kernel_rfl) (by kernel_rfl) (fun _ _ _ h => h) (Or.inl ⟨by rfl, ?_⟩) (by assumption) ?_
        · intro wx hs1; go_simp
        (try simp only [Act.put, List.getElem_toArray, List.getElem_cons_succ, List.getElem_cons_zero, List.setIfInBounds_toArray, List.set_cons_zero, List.set_cons_succ])
        refine wpAnyH_take (i := 12) (v := .pointer (some ⟨p1, 1, none⟩)) rfl (by kernel_rfl) (by kernel_rfl) (by kernel_rfl) (fun _ _ _ h => h) (Or.inl ⟨by rfl, ?_⟩) (by assumption) ?_
        · intro wx hs1; go_simp
        (try simp only [Act.put, List.getElem_toArray, List.getElem_cons_succ, List.getElem_cons_zero, List.setIfInBounds_toArray, List.set_cons_zero, List.set_cons_succ])
        refine wpAnyH_take (i := 13) (v := .int .i64 s1.most) rfl (by kernel_rfl) (by kernel_rfl) (by kernel_rfl) (fun _ _ _ h => h) (Or.inl ⟨by rfl, ?_⟩) (by assumption) ?_
        · intro wx hs1; obtain ⟨k0, k1, k2, k3, k4⟩ := (five_cells ((hs1.block _ (Array.getElem?_eq_some_iff.1 HX1.out).1).trans HX1.out)).1; go_simp
        (try simp only [Act.put, List.getElem_toArray, List.getElem_cons_succ, List.getElem_cons_zero, List.setIfInBounds_toArray, List.set_cons_zero, List.set_cons_succ])
        refine wpAnyH_take (i := 14) (v := .pointer (some ⟨p2, 0, none⟩)) rfl (by kernel_rfl) (by kernel_rfl) (by kernel_rfl) (fun _ _ _ h => h) (Or.inl ⟨by rfl, ?_⟩) (by assumption) ?_
        · intro wx hs1; go_simp
        (try simp only [Act.put, List.getElem_toArray, List.getElem_cons_succ, List.getElem_cons_zero, List.setIfInBounds_toArray, List.set_cons_zero, List.set_cons_succ])
        refine wpAnyH_take (i := 15) (v := .pointer (some ⟨p2, 0, none⟩)) rfl (by kernel_rfl) (by kernel_rfl) (by kernel_rfl) (fun _ _ _ h => h) (Or.inl ⟨by rfl, ?_⟩) (by assumption) ?_
        · intro wx hs1; go_simp
        (try simp only [Act.put, List.getElem_toArray, List.getElem_cons_succ, List.getElem_cons_zero, List.setIfInBounds_toArray, List.set_cons_zero, List.set_cons_succ])
        refine wpAnyH_take (i := 16) (v := .pointer (some ⟨p2, 1, none⟩)) rfl (by kernel_rfl) (by kernel_rfl) (by kernel_rfl) (fun _ _ _ h => h) (Or.inl ⟨by rfl, ?_⟩) (by assumption) ?_
        · intro wx hs1; go_simp
        (try simp only [Act.put, List.getElem_toArray, List.getElem_cons_succ, List.getElem_cons_zero, List.setIfInBounds_toArray, List.set_cons_zero, List.set_cons_succ])
        refine wpAnyH_take (i := 17) (v := .int .i64 s2.most) rfl (by kernel_rfl) (by kernel_rfl) (by kernel_rfl) (fun _ _ _ h => h) (Or.inl ⟨by rfl, ?_⟩) (by assumption) ?_
        · intro wx hs1; obtain ⟨k0, k1, k2, k3, k4⟩ := (five_cells ((hs1.block _ (Array.getElem?_eq_some_iff.1 HX2.out).1).trans HX2.out)).1; go_simp
        (try simp only [Act.put, List.getElem_toArray, List.getElem_cons_succ, List.getElem_cons_zero, List.setIfInBounds_toArray, List.set_cons_zero, List.set_cons_succ])
        refine wpAnyH_take (i := 18) (v := .bool true) rfl (by kernel_rfl) (by kernel_rfl) (by kernel_rfl) (fun _ _ _ h => h) (Or.inl ⟨by rfl, ?_⟩) (by assumption) ?_
        · intro wx hs1; go_simp
        (try simp only [Act.put, List.getElem_toArray, List.getElem_cons_succ, List.getElem_cons_zero, List.setIfInBounds_toArray, List.set_cons_zero, List.set_cons_succ])
        refine wpAnyH_take (i := 19) (v := .bool true) rfl (by kernel_rfl) (by kernel_rfl) (by kernel_rfl) (fun _ _ _ h => h) (Or.inl ⟨by rfl, ?_⟩) (by assumption) ?_
        · intro wx hs1; go_simp
        (try simp only [Act.put, List.getElem_toArray, List.getElem_cons_succ, List.getElem_cons_zero, List.setIfInBounds_toArray, List.set_cons_zero, List.set_cons_succ])
        refine wpAnyH_take (i := 20) (v := .bool true) rfl (by kernel_rfl) (by kernel_rfl) (by kernel_rfl) (fun _ _ _ h => h) (Or.inl ⟨by rfl, ?_⟩) (by assumption) ?_
        · intro wx hs1; go_simp
        (try simp only [Act.put, List.getElem_toArray, List.getElem_cons_succ, List.getElem_cons_zero, List.setIfInBounds_toArray, List.set_cons_zero, List.set_cons_succ])
        refine wpAnyH_take (i := 21) (v := .pointer (some ⟨p1, 0, none⟩)) rfl (by kernel_rfl) (by kernel_rfl) (by kernel_rfl) (fun _ _ _ h => h) (Or.inl ⟨by rfl, ?_⟩) (by assumption) ?_
        · intro wx hs1; go_simp
        (try simp only [Act.put, List.getElem_toArray, List.getElem_cons_succ, List.getElem_cons_zero, List.setIfInBounds_toArray, List.set_cons_zero, List.set_cons_succ])
        refine wpAnyH_take (i := 22) (v := .pointer (some ⟨p1, 0, none⟩)) rfl (by kernel_rfl) (by kernel_rfl) (by kernel_rfl) (fun _ _ _ h => h) (Or.inl ⟨by rfl, ?_⟩) (by assumption) ?_
        · intro wx hs1; go_simp
        (try simp only [Act.put, List.getElem_toArray, List.getElem_cons_succ, List.getElem_cons_zero, List.setIfInBounds_toArray, List.set_cons_zero, List.set_cons_succ])
        refine wpAnyH_take (i := 23) (v := .pointer (some ⟨p1, 2, none⟩)) rfl (by kernel_rfl) (by kernel_rfl) (by kernel_rfl) (fun _ _ _ h => h) (Or.inl ⟨by rfl, ?_⟩) (by assumption) ?_
        · intro wx hs1; go_simp
        (try simp only [Act.put, List.getElem_toArray, List.getElem_cons_succ, List.getElem_cons_zero, List.setIfInBounds_toArray, List.set_cons_zero, List.set_cons_succ])
        refine wpAnyH_take (i := 24) (v := .int .i64 s1.came) rfl (by kernel_rfl) (by kernel_rfl) (by kernel_rfl) (fun _ _ _ h => h) (Or.inl ⟨by rfl, ?_⟩) (by assumption) ?_
        · intro wx hs1; obtain ⟨k0, k1, k2, k3, k4⟩ := (five_cells ((hs1.block _ (Array.getElem?_eq_some_iff.1 HX1.out).1).trans HX1.out)).1; go_simp
        (try simp only [Act.put, List.getElem_toArray, List.getElem_cons_succ, List.getElem_cons_zero, List.setIfInBounds_toArray, List.set_cons_zero, List.set_cons_succ])
        refine wpAnyH_take (i := 25) (v := .pointer (some ⟨p2, 0, none⟩)) rfl (by kernel_rfl) (by kernel_rfl) (by kernel_rfl) (fun _ _ _ h => h) (Or.inl ⟨by rfl, ?_⟩) (by assumption) ?_
        · intro wx hs1; go_simp
        (try simp only [Act.put, List.getElem_toArray, List.getElem_cons_succ, List.getElem_cons_zero, List.setIfInBounds_toArray, List.set_cons_zero, List.set_cons_succ])
        refine wpAnyH_take (i := 26) (v := .pointer (some ⟨p2, 0, none⟩)) rfl (by kernel_rfl) (by kernel_rfl) (by kernel_rfl) (fun _ _ _ h => h) (Or.inl ⟨by rfl, ?_⟩) (by assumption) ?_
        · intro wx hs1; go_simp
        (try simp only [Act.put, List.getElem_toArray, List.getElem_cons_succ, List.getElem_cons_zero, List.setIfInBounds_toArray, List.set_cons_zero, List.set_cons_succ])
        refine wpAnyH_take (i := 27) (v := .pointer (some ⟨p2, 2, none⟩)) rfl (by kernel_rfl) (by kernel_rfl) (by kernel_rfl) (fun _ _ _ h => h) (Or.inl ⟨by rfl, ?_⟩) (by assumption) ?_
        · intro wx hs1; go_simp
        (try simp only [Act.put, List.getElem_toArray, List.getElem_cons_succ, List.getElem_cons_zero, List.setIfInBounds_toArray, List.set_cons_zero, List.set_cons_succ])
        refine wpAnyH_take (i := 28) (v := .int .i64 s2.came) rfl (by kernel_rfl) (by kernel_rfl) (by kernel_rfl) (fun _ _ _ h => h) (Or.inl ⟨by rfl, ?_⟩) (by assumption) ?_
        · intro wx hs1; obtain ⟨k0, k1, k2, k3, k4⟩ := (five_cells ((hs1.block _ (Array.getElem?_eq_some_iff.1 HX2.out).1).trans HX2.out)).1; go_simp
        (try simp only [Act.put, List.getElem_toArray, List.getElem_cons_succ, List.getElem_cons_zero, List.setIfInBounds_toArray, List.set_cons_zero, List.set_cons_succ])
        refine wpAnyH_take (i := 29) (v := .bool true) rfl (by kernel_rfl) (by kernel_rfl) (by kernel_rfl) (fun _ _ _ h => h) (Or.inl ⟨by rfl, ?_⟩) (by assumption) ?_
        · intro wx hs1; go_simp
        (try simp only [Act.put, List.getElem_toArray, List.getElem_cons_succ, List.getElem_cons_zero, List.setIfInBounds_toArray, List.set_cons_zero, List.set_cons_succ])
        refine wpAnyH_take (i := 30) (v := .bool true) rfl (by kernel_rfl) (by kernel_rfl) (by kernel_rfl) (fun _ _ _ h => h) (Or.inl ⟨by rfl, ?_⟩) (by assumption) ?_
        · intro wx hs1; go_simp
        (try simp only [Act.put, List.getElem_toArray, List.getElem_cons_succ, List.getElem_cons_zero, List.setIfInBounds_toArray, List.set_cons_zero, List.set_cons_succ])
        refine wpAnyH_take (i := 31) (v := .bool true) rfl (by kernel_rfl) (by kernel_rfl) (by kernel_rfl) (fun _ _ _ h => h) (Or.inl ⟨by rfl, ?_⟩) (by assumption) ?_
        · intro wx hs1; go_simp
        (try simp only [Act.put, List.getElem_toArray, List.getElem_cons_succ, List.getElem_cons_zero, List.setIfInBounds_toArray, List.set_cons_zero, List.set_cons_succ])
        refine wpAnyH_take (i := 32) (v := .pointer (some ⟨p1, 0, none⟩)) rfl (by kernel_rfl) (by kernel_rfl) (by kernel_rfl) (fun _ _ _ h => h) (Or.inl ⟨by rfl, ?_⟩) (by assumption) ?_
        · intro wx hs1; go_simp
        (try simp only [Act.put, List.getElem_toArray, List.getElem_cons_succ, List.getElem_cons_zero, List.setIfInBounds_toArray, List.set_cons_zero, List.set_cons_succ])
        refine wpAnyH_take (i := 33) (v := .pointer (some ⟨p1, 0, none⟩)) rfl (by kernel_rfl) (by kernel_rfl) (by kernel_rfl) (fun _ _ _ h => h) (Or.inl ⟨by rfl, ?_⟩) (by assumption) ?_
        · intro wx hs1; go_simp
        (try simp only [Act.put, List.getElem_toArray, List.getElem_cons_succ, List.getElem_cons_zero, List.setIfInBounds_toArray, List.set_cons_zero, List.set_cons_succ])
        refine wpAnyH_take (i := 34) (v := .pointer (some ⟨p1, 3, none⟩)) rfl (by kernel_rfl) (by kernel_rfl) (by kernel_rfl) (fun _ _ _ h => h) (Or.inl ⟨by rfl, ?_⟩) (by assumption) ?_
        · intro wx hs1; go_simp
        (try simp only [Act.put, List.getElem_toArray, List.getElem_cons_succ, List.getElem_cons_zero, List.setIfInBounds_toArray, List.set_cons_zero, List.set_cons_succ])
        refine wpAnyH_take (i := 35) (v := .map (some Mb1)) rfl (by kernel_rfl) (by kernel_rfl) (by kernel_rfl) (fun _ _ _ h => h) (Or.inl ⟨by rfl, ?_⟩) (by assumption) ?_
        · intro wx hs1; obtain ⟨k0, k1, k2, k3, k4⟩ := (five_cells ((hs1.block _ (Array.getElem?_eq_some_iff.1 HX1.out).1).trans HX1.out)).1; go_simp
        (try simp only [Act.put, List.getElem_toArray, List.getElem_cons_succ, List.getElem_cons_zero, List.setIfInBounds_toArray, List.set_cons_zero, List.set_cons_succ])
        refine wpAnyH_take (i := 36) (v := .pointer (some ⟨p2, 0, none⟩)) rfl (by kernel_rfl) (by kernel_rfl) (by kernel_rfl) (fun _ _ _ h => h) (Or.inl ⟨by rfl, ?_⟩) (by assumption) ?_
        · intro wx hs1; go_simp
        (try simp only [Act.put, List.getElem_toArray, List.getElem_cons_succ, List.getElem_cons_zero, List.setIfInBounds_toArray, List.set_cons_zero, List.set_cons_succ])
        refine wpAnyH_take (i := 37) (v := .pointer (some ⟨p2, 0, none⟩)) rfl (by kernel_rfl) (by kernel_rfl) (by kernel_rfl) (fun _ _ _ h => h) (Or.inl ⟨by rfl, ?_⟩) (by assumption) ?_
        · intro wx hs1; go_simp
        (try simp only [Act.put, List.getElem_toArray, List.getElem_cons_succ, List.getElem_cons_zero, List.setIfInBounds_toArray, List.set_cons_zero, List.set_cons_succ])
        refine wpAnyH_take (i := 38) (v := .pointer (some ⟨p2, 3, none⟩)) rfl (by kernel_rfl) (by kernel_rfl) (by kernel_rfl) (fun _ _ _ h => h) (Or.inl ⟨by rfl, ?_⟩) (by assumption) ?_
        · intro wx hs1; go_simp
        (try simp only [Act.put, List.getElem_toArray, List.getElem_cons_succ, List.getElem_cons_zero, List.setIfInBounds_toArray, List.set_cons_zero, List.set_cons_succ])
        refine wpAnyH_take (i := 39) (v := .map (some Mb2)) rfl (by kernel_rfl) (by kernel_rfl) (by kernel_rfl) (fun _ _ _ h => h) (Or.inl ⟨by rfl, ?_⟩) (by assumption) ?_
        · intro wx hs1; obtain ⟨k0, k1, k2, k3, k4⟩ := (five_cells ((hs1.block _ (Array.getElem?_eq_some_iff.1 HX2.out).1).trans HX2.out)).1; go_simp
        (try simp only [Act.put, List.getElem_toArray, List.getElem_cons_succ, List.getElem_cons_zero, List.setIfInBounds_toArray, List.set_cons_zero, List.set_cons_succ])
        refine wpAnyH_ready (rs := [40]) (by kernel_rfl) (by simp) (AllReadyH.cons rfl (fun K hK => ?_) AllReadyH.nil)
        go_simp
        go_at_call 49
        (with_reducible refine (H49.out _ HB0.out).mono ?_)
        rintro e w3 ⟨rfl, hb⟩
        try dsimp only
        have HB1 : Hid (Below w.heap.size w w3) := Lib.hid (HB0.out.trans (((But.grown hb).to_below (Nat.le_refl _) (fun b e => by cases e)).mono HB0.out.size)); clear hb; have hS := HB1.out
        refine hK.out _ _ hS (fun _ => ?_)
        clear hK K
        (try simp only [Act.put, List.getElem_toArray, List.getElem_cons_succ, List.getElem_cons_zero, List.setIfInBounds_toArray, List.set_cons_zero, List.set_cons_succ])
        refine wpAnyH_take (i := 41) (v := .bool true) rfl (by kernel_rfl) (by kernel_rfl) (by kernel_rfl) (fun _ _ _ h => h) (Or.inl ⟨by rfl, ?_⟩) (by assumption) ?_
        · intro wx hs1; go_simp
        (try simp only [Act.put, List.getElem_toArray, List.getElem_cons_succ, List.getElem_cons_zero, List.setIfInBounds_toArray, List.set_cons_zero, List.set_cons_succ])
        refine wpAnyH_take (i := 42) (v := .bool true) rfl (by kernel_rfl) (by kernel_rfl) (by kernel_rfl) (fun _ _ _ h => h) (Or.inl ⟨by rfl, ?_⟩) (by assumption) ?_
        · intro wx hs1; go_simp
        (try simp only [Act.put, List.getElem_toArray, List.getElem_cons_succ, List.getElem_cons_zero, List.setIfInBounds_toArray, List.set_cons_zero, List.set_cons_succ])
        refine wpAnyH_take (i := 43) (v := .pointer (some ⟨p1, 0, none⟩)) rfl (by kernel_rfl) (by kernel_rfl) (by kernel_rfl) (fun _ _ _ h => h) (Or.inl ⟨by rfl, ?_⟩) (by assumption) ?_
        · intro wx hs1; go_simp
        (try simp only [Act.put, List.getElem_toArray, List.getElem_cons_succ, List.getElem_cons_zero, List.setIfInBounds_toArray, List.set_cons_zero, List.set_cons_succ])
        refine wpAnyH_take (i := 44) (v := .pointer (some ⟨p1, 0, none⟩)) rfl (by kernel_rfl) (by kernel_rfl) (by kernel_rfl) (fun _ _ _ h => h) (Or.inl ⟨by rfl, ?_⟩) (by assumption) ?_
        · intro wx hs1; go_simp
        (try simp only [Act.put, List.getElem_toArray, List.getElem_cons_succ, List.getElem_cons_zero, List.setIfInBounds_toArray, List.set_cons_zero, List.set_cons_succ])
        refine wpAnyH_take (i := 45) (v := .pointer (some ⟨p1, 4, none⟩)) rfl (by kernel_rfl) (by kernel_rfl) (by kernel_rfl) (fun _ _ _ h => h) (Or.inl ⟨by rfl, ?_⟩) (by assumption) ?_
        · intro wx hs1; go_simp
        (try simp only [Act.put, List.getElem_toArray, List.getElem_cons_succ, List.getElem_cons_zero, List.setIfInBounds_toArray, List.set_cons_zero, List.set_cons_succ])
        refine wpAnyH_take (i := 46) (v := .slice A1 L1.length c1) rfl (by kernel_rfl) (by kernel_rfl) (by kernel_rfl) (fun _ _ _ h => h) (Or.inl ⟨by rfl, ?_⟩) (by assumption) ?_
        · intro wx hs1; obtain ⟨k0, k1, k2, k3, k4⟩ := (five_cells ((hs1.block _ (Array.getElem?_eq_some_iff.1 HX1.out).1).trans HX1.out)).1; go_simp
        (try simp only [Act.put, List.getElem_toArray, List.getElem_cons_succ, List.getElem_cons_zero, List.setIfInBounds_toArray, List.set_cons_zero, List.set_cons_succ])
        refine wpAnyH_take (i := 47) (v := .pointer (some ⟨p2, 0, none⟩)) rfl (by kernel_rfl) (by kernel_rfl) (by kernel_rfl) (fun _ _ _ h => h) (Or.inl ⟨by rfl, ?_⟩) (by assumption) ?_
        · intro wx hs1; go_simp
        (try simp only [Act.put, List.getElem_toArray, List.getElem_cons_succ, List.getElem_cons_zero, List.setIfInBounds_toArray, List.set_cons_zero, List.set_cons_succ])
        refine wpAnyH_take (i := 48) (v := .pointer (some ⟨p2, 0, none⟩)) rfl (by kernel_rfl) (by kernel_rfl) (by kernel_rfl) (fun _ _ _ h => h) (Or.inl ⟨by rfl, ?_⟩) (by assumption) ?_
        · intro wx hs1; go_simp
        (try simp only [Act.put, List.getElem_toArray, List.getElem_cons_succ, List.getElem_cons_zero, List.setIfInBounds_toArray, List.set_cons_zero, List.set_cons_succ])
        refine wpAnyH_take (i := 49) (v := .pointer (some ⟨p2, 4, none⟩)) rfl (by kernel_rfl) (by kernel_rfl) (by kernel_rfl) (fun _ _ _ h => h) (Or.inl ⟨by rfl, ?_⟩) (by assumption) ?_
        · intro wx hs1; go_simp
        (try simp only [Act.put, List.getElem_toArray, List.getElem_cons_succ, List.getElem_cons_zero, List.setIfInBounds_toArray, List.set_cons_zero, List.set_cons_succ])
        refine wpAnyH_take (i := 50) (v := .slice A2 L2.length c2) rfl (by kernel_rfl) (by kernel_rfl) (by kernel_rfl) (fun _ _ _ h => h) (Or.inl ⟨by rfl, ?_⟩) (by assumption) ?_
        · intro wx hs1; obtain ⟨k0, k1, k2, k3, k4⟩ := (five_cells ((hs1.block _ (Array.getElem?_eq_some_iff.1 HX2.out).1).trans HX2.out)).1; go_simp
        (try simp only [Act.put, List.getElem_toArray, List.getElem_cons_succ, List.getElem_cons_zero, List.setIfInBounds_toArray, List.set_cons_zero, List.set_cons_succ])
        refine wpAnyH_ready (rs := [51]) (by kernel_rfl) (by simp) (AllReadyH.cons rfl (fun K hK => ?_) AllReadyH.nil)
        go_simp
        go_at_call 50
        (with_reducible refine (H50.out _ HB1.out).mono ?_)
        rintro e w4 ⟨rfl, hb⟩
        try dsimp only
        have HB2 : Hid (Below w.heap.size w w4) := Lib.hid (HB1.out.trans (hb.mono HB1.out.size)); clear hb; have hS := HB2.out
        refine hK.out _ _ hS (fun _ => ?_)
        clear hK K
        (try simp only [Act.put, List.getElem_toArray, List.getElem_cons_succ, List.getElem_cons_zero, List.setIfInBounds_toArray, List.set_cons_zero, List.set_cons_succ])
        refine wpAnyH_take (i := 52) (v := .bool qp) rfl (by kernel_rfl) (by kernel_rfl) (by kernel_rfl) (fun _ _ _ h => h) (Or.inl ⟨by rfl, ?_⟩) (by assumption) ?_
        · intro wx hs1; go_simp
        (try simp only [Act.put, List.getElem_toArray, List.getElem_cons_succ, List.getElem_cons_zero, List.setIfInBounds_toArray, List.set_cons_zero, List.set_cons_succ])
        refine wpAnyH_take (i := 53) (v := .bool qp) rfl (by kernel_rfl) (by kernel_rfl) (by kernel_rfl) (fun _ _ _ h => h) (Or.inl ⟨by rfl, ?_⟩) (by assumption) ?_
        · intro wx hs1; go_simp
        (try simp only [Act.put, List.getElem_toArray, List.getElem_cons_succ, List.getElem_cons_zero, List.setIfInBounds_toArray, List.set_cons_zero, List.set_cons_succ])
        refine wpAnyH_done (by kernel_rfl) ?_ _
        go_wp2
        go_ret
        exact ⟨rfl, HB2.out⟩
      | false =>
        go_enter Try.func23, Try.ntmps23
        go_upto_region 3 with (first
          | (go_at_call 42; (with_reducible refine h42a.mono ?_); rintro e w' ⟨rfl, rfl⟩)
          | (go_at_call 42; (with_reducible refine h42b.mono ?_); rintro e w' ⟨rfl, rfl⟩))
        clear h42a h42b
        have hS0 : (fun W => Below w.heap.size w W) w.drew := (Below.refl _ _).drew
        refine wp_region_held_drew (S := fun W => Below w.heap.size w W) rfl hS0 (fun hHeld => ?_)
        simp only [List.size_toArray, List.length_cons, List.length_nil, Nat.reduceAdd]
        have HB0 : Hid (Below w.heap.size w w.drew) := Lib.hid (Below.refl _ _).drew
        obtain ⟨V0, hV0⟩ : ∃ V, w.drew = V := ⟨_, rfl⟩
        rw [hV0] at hHeld hS0 HB0 ⊢
        clear hV0
        refine wpAnyH_take (i := 0) (v := .pointer (some ⟨p1, 0, none⟩)) rfl (by kernel_rfl) (by kernel_rfl) (by kernel_rfl) (fun _ _ _ h => h) (Or.inl ⟨by rfl, ?_⟩) (by assumption) ?_
        · intro wx hs1; go_simp
        (try simp only [Act.put, List.getElem_toArray, List.getElem_cons_zero, List.setIfInBounds_toArray, List.set_cons_zero, List.set_cons_succ])
        refine wpAnyH_take (i := 1) (v := .pointer (some ⟨p1, 0, none⟩)) rfl (by kernel_rfl) (by kernel_rfl) (by kernel_rfl) (fun _ _ _ h => h) (Or.inl ⟨by rfl, ?_⟩) (by assumption) ?_
        · intro wx hs1; go_simp
        (try simp only [Act.put, List.getElem_toArray, List.getElem_cons_succ, List.getElem_cons_zero, List.setIfInBounds_toArray, List.set_cons_zero, List.set_cons_succ])
        refine wpAnyH_take (i := 2) (v := .pointer (some ⟨p1, 0, none⟩)) rfl (by kernel_rfl) (by kernel_rfl) (by kernel_rfl) (fun _ _ _ h => h) (Or.inl ⟨by rfl, ?_⟩) (by assumption) ?_
        · intro wx hs1; go_simp
        (try simp only [Act.put, List.getElem_toArray, List.getElem_cons_succ, List.getElem_cons_zero, List.setIfInBounds_toArray, List.set_cons_zero, List.set_cons_succ])
        refine wpAnyH_take (i := 3) (v := .int .i64 s1.ends) rfl (by kernel_rfl) (by kernel_rfl) (by kernel_rfl) (fun _ _ _ h => h) (Or.inl ⟨by rfl, ?_⟩) (by assumption) ?_
        · intro wx hs1; obtain ⟨k0, k1, k2, k3, k4⟩ := (five_cells ((hs1.block _ (Array.getElem?_eq_some_iff.1 HX1.out).1).trans HX1.out)).1; go_simp
        (try simp only [Act.put, List.getElem_toArray, List.getElem_cons_succ, List.getElem_cons_zero, List.setIfInBounds_toArray, List.set_cons_zero, List.set_cons_succ])
        refine wpAnyH_take (i := 4) (v := .pointer (some ⟨p2, 0, none⟩)) rfl (by kernel_rfl) (by kernel_rfl) (by kernel_rfl) (fun _ _ _ h => h) (Or.inl ⟨by rfl, ?_⟩) (by assumption) ?_
        · intro wx hs1; go_simp
        (try simp only [Act.put, List.getElem_toArray, List.getElem_cons_succ, List.getElem_cons_zero, List.setIfInBounds_toArray, List.set_cons_zero, List.set_cons_succ])
        refine wpAnyH_take (i := 5) (v := .pointer (some ⟨p2, 0, none⟩)) rfl (by kernel_rfl) (by kernel_rfl) (by kernel_rfl) (fun _ _ _ h => h) (Or.inl ⟨by rfl, ?_⟩) (by assumption) ?_
        · intro wx hs1; go_simp
        (try simp only [Act.put, List.getElem_toArray, List.getElem_cons_succ, List.getElem_cons_zero, List.setIfInBounds_toArray, List.set_cons_zero, List.set_cons_succ])
        refine wpAnyH_take (i := 6) (v := .pointer (some ⟨p2, 0, none⟩)) rfl (by kernel_rfl) (by kernel_rfl) (by kernel_rfl) (fun _ _ _ h => h) (Or.inl ⟨by rfl, ?_⟩) (by assumption) ?_
        · intro wx hs1; go_simp
        (try simp only [Act.put, List.getElem_toArray, List.getElem_cons_succ, List.getElem_cons_zero, List.setIfInBounds_toArray, List.set_cons_zero, List.set_cons_succ])
        refine wpAnyH_take (i := 7) (v := .int .i64 s2.ends) rfl (by kernel_rfl) (by kernel_rfl) (by kernel_rfl) (fun _ _ _ h => h) (Or.inl ⟨by rfl, ?_⟩) (by assumption) ?_
        · intro wx hs1; obtain ⟨k0, k1, k2, k3, k4⟩ := (five_cells ((hs1.block _ (Array.getElem?_eq_some_iff.1 HX2.out).1).trans HX2.out)).1; go_simp
        (try simp only [Act.put, List.getElem_toArray, List.getElem_cons_succ, List.getElem_cons_zero, List.setIfInBounds_toArray, List.set_cons_zero, List.set_cons_succ])
        refine wpAnyH_take (i := 8) (v := .bool true) rfl (by kernel_rfl) (by kernel_rfl) (by kernel_rfl) (fun _ _ _ h => h) (Or.inl ⟨by rfl, ?_⟩) (by assumption) ?_
        · intro wx hs1; go_simp
        (try simp only [Act.put, List.getElem_toArray, List.getElem_cons_succ, List.getElem_cons_zero, List.setIfInBounds_toArray, List.set_cons_zero, List.set_cons_succ])
        refine wpAnyH_take (i := 9) (v := .bool true) rfl (by kernel_rfl) (by kernel_rfl) (by kernel_rfl) (fun _ _ _ h => h) (Or.inl ⟨by rfl, ?_⟩) (by assumption) ?_
        · intro wx hs1; go_simp
        (try simp only [Act.put, List.getElem_toArray, List.getElem_cons_succ, List.getElem_cons_zero, List.setIfInBounds_toArray, List.set_cons_zero, List.set_cons_succ])
        refine wpAnyH_take (i := 10) (v := .pointer (some ⟨p1, 0, none⟩)) rfl (by kernel_rfl) (by kernel_rfl) (by kernel_rfl) (fun _ _ _ h => h) (Or.inl ⟨by rfl, ?_⟩) (by assumption) ?_
        · intro wx hs1; go_simp
        (try simp only [Act.put, List.getElem_toArray, List.getElem_cons_succ, List.getElem_cons_zero, List.setIfInBounds_toArray, List.set_cons_zero, List.set_cons_succ])
        refine wpAnyH_take (i := 11) (v := .pointer (some ⟨p1, 0, none⟩)) rfl (by kernel_rfl) (by kernel_rfl) (by kernel_rfl) (fun _ _ _ h => h) (Or.inl ⟨by rfl, ?_⟩) (by assumption) ?_
        · intro wx hs1; go_simp
        (try simp only [Act.put, List.getElem_toArray, List.getElem_cons_succ, List.getElem_cons_zero, List.setIfInBounds_toArray, List.set_cons_zero, List.set_cons_succ])
        refine wpAnyH_take (i := 12) (v := .pointer (some ⟨p1, 1, none⟩)) rfl (by kernel_rfl) (by kernel_rfl) (by kernel_rfl) (fun _ _ _ h => h) (Or.inl ⟨by rfl, ?_⟩) (by assumption) ?_
        · intro wx hs1; go_simp
        (try simp only [Act.put, List.getElem_toArray, List.getElem_cons_succ, List.getElem_cons_zero, List.setIfInBounds_toArray, List.set_cons_zero, List.set_cons_succ])
        refine wpAnyH_take (i := 13) (v := .int .i64 s1.most) rfl (by kernel_rfl) (by kernel_rfl) (by kernel_rfl) (fun _ _ _ h => h) (Or.inl ⟨by rfl, ?_⟩) (by assumption) ?_
        · intro wx hs1; obtain ⟨k0, k1, k2, k3, k4⟩ := (five_cells ((hs1.block _ (Array.getElem?_eq_some_iff.1 HX1.out).1).trans HX1.out)).1; go_simp
        (try simp only [Act.put, List.getElem_toArray, List.getElem_cons_succ, List.getElem_cons_zero, List.setIfInBounds_toArray, List.set_cons_zero, List.set_cons_succ])
        refine wpAnyH_take (i := 14) (v := .pointer (some ⟨p2, 0, none⟩)) rfl (by kernel_rfl) (by kernel_rfl) (by kernel_rfl) (fun _ _ _ h => h) (Or.inl ⟨by rfl, ?_⟩) (by assumption) ?_
        · intro wx hs1; go_simp
        (try simp only [Act.put, List.getElem_toArray, List.getElem_cons_succ, List.getElem_cons_zero, List.setIfInBounds_toArray, List.set_cons_zero, List.set_cons_succ])
        refine wpAnyH_take (i := 15) (v := .pointer (some ⟨p2, 0, none⟩)) rfl (by kernel_rfl) (by kernel_rfl) (by kernel_rfl) (fun _ _ _ h => h) (Or.inl ⟨by rfl, ?_⟩) (by assumption) ?_
        · intro wx hs1; go_simp
        (try simp only [Act.put, List.getElem_toArray, List.getElem_cons_succ, List.getElem_cons_zero, List.setIfInBounds_toArray, List.set_cons_zero, List.set_cons_succ])
        refine wpAnyH_take (i := 16) (v := .pointer (some ⟨p2, 1, none⟩)) rfl (by kernel_rfl) (by kernel_rfl) (by kernel_rfl) (fun _ _ _ h => h) (Or.inl ⟨by rfl, ?_⟩) (by assumption) ?_
        · intro wx hs1; go_simp
        (try simp only [Act.put, List.getElem_toArray, List.getElem_cons_succ, List.getElem_cons_zero, List.setIfInBounds_toArray, List.set_cons_zero, List.set_cons_succ])
        refine wpAnyH_take (i := 17) (v := .int .i64 s2.most) rfl (by kernel_rfl) (by kernel_rfl) (by kernel_rfl) (fun _ _ _ h => h) (Or.inl ⟨by rfl, ?_⟩) (by assumption) ?_
        · intro wx hs1; obtain ⟨k0, k1, k2, k3, k4⟩ := (five_cells ((hs1.block _ (Array.getElem?_eq_some_iff.1 HX2.out).1).trans HX2.out)).1; go_simp
        (try simp only [Act.put, List.getElem_toArray, List.getElem_cons_succ, List.getElem_cons_zero, List.setIfInBounds_toArray, List.set_cons_zero, List.set_cons_succ])
        refine wpAnyH_take (i := 18) (v := .bool true) rfl (by kernel_rfl) (by kernel_rfl) (by kernel_rfl) (fun _ _ _ h => h) (Or.inl ⟨by rfl, ?_⟩) (by assumption) ?_
        · intro wx hs1; go_simp
        (try simp only [Act.put, List.getElem_toArray, List.getElem_cons_succ, List.getElem_cons_zero, List.setIfInBounds_toArray, List.set_cons_zero, List.set_cons_succ])
        refine wpAnyH_take (i := 19) (v := .bool true) rfl (by kernel_rfl) (by kernel_rfl) (by kernel_rfl) (fun _ _ _ h => h) (Or.inl ⟨by rfl, ?_⟩) (by assumption) ?_
        · intro wx hs1; go_simp
        (try simp only [Act.put, List.getElem_toArray, List.getElem_cons_succ, List.getElem_cons_zero, List.setIfInBounds_toArray, List.set_cons_zero, List.set_cons_succ])
        refine wpAnyH_take (i := 20) (v := .bool true) rfl (by kernel_rfl) (by kernel_rfl) (by kernel_rfl) (fun _ _ _ h => h) (Or.inl ⟨by rfl, ?_⟩) (by assumption) ?_
        · intro wx hs1; go_simp
        (try simp only [Act.put, List.getElem_toArray, List.getElem_cons_succ, List.getElem_cons_zero, List.setIfInBounds_toArray, List.set_cons_zero, List.set_cons_succ])
        refine wpAnyH_take (i := 21) (v := .pointer (some ⟨p1, 0, none⟩)) rfl (by kernel_rfl) (by kernel_rfl) (by kernel_rfl) (fun _ _ _ h => h) (Or.inl ⟨by rfl, ?_⟩) (by assumption) ?_
        · intro wx hs1; go_simp
        (try simp only [Act.put, List.getElem_toArray, List.getElem_cons_succ, List.getElem_cons_zero, List.setIfInBounds_toArray, List.set_cons_zero, List.set_cons_succ])
        refine wpAnyH_take (i := 22) (v := .pointer (some ⟨p1, 0, none⟩)) rfl (by kernel_rfl) (by kernel_rfl) (by kernel_rfl) (fun _ _ _ h => h) (Or.inl ⟨by rfl, ?_⟩) (by assumption) ?_
        · intro wx hs1; go_simp
        (try simp only [Act.put, List.getElem_toArray, List.getElem_cons_succ, List.getElem_cons_zero, List.setIfInBounds_toArray, List.set_cons_zero, List.set_cons_succ])
        refine wpAnyH_take (i := 23) (v := .pointer (some ⟨p1, 2, none⟩)) rfl (by kernel_rfl) (by kernel_rfl) (by kernel_rfl) (fun _ _ _ h => h) (Or.inl ⟨by rfl, ?_⟩) (by assumption) ?_
        · intro wx hs1; go_simp
        (try simp only [Act.put, List.getElem_toArray, List.getElem_cons_succ, List.getElem_cons_zero, List.setIfInBounds_toArray, List.set_cons_zero, List.set_cons_succ])
        refine wpAnyH_take (i := 24) (v := .int .i64 s1.came) rfl (by kernel_rfl) (by kernel_rfl) (by kernel_rfl) (fun _ _ _ h => h) (Or.inl ⟨by rfl, ?_⟩) (by assumption) ?_
        · intro wx hs1; obtain ⟨k0, k1, k2, k3, k4⟩ := (five_cells ((hs1.block _ (Array.getElem?_eq_some_iff.1 HX1.out).1).trans HX1.out)).1; go_simp
        (try simp only [Act.put, List.getElem_toArray, List.getElem_cons_succ, List.getElem_cons_zero, List.setIfInBounds_toArray, List.set_cons_zero, List.set_cons_succ])
        refine wpAnyH_take (i := 25) (v := .pointer (some ⟨p2, 0, none⟩)) rfl (by kernel_rfl) (by kernel_rfl) (by kernel_rfl) (fun _ _ _ h => h) (Or.inl ⟨by rfl, ?_⟩) (by assumption) ?_
        · intro wx hs1; go_simp
        (try simp only [Act.put, List.getElem_toArray, List.getElem_cons_succ, List.getElem_cons_zero, List.setIfInBounds_toArray, List.set_cons_zero, List.set_cons_succ])
        refine wpAnyH_take (i := 26) (v := .pointer (some ⟨p2, 0, none⟩)) rfl (by kernel_rfl) (by kernel_rfl) (by kernel_rfl) (fun _ _ _ h => h) (Or.inl ⟨by rfl, ?_⟩) (by assumption) ?_
        · intro wx hs1; go_simp
        (try simp only [Act.put, List.getElem_toArray, List.getElem_cons_succ, List.getElem_cons_zero, List.setIfInBounds_toArray, List.set_cons_zero, List.set_cons_succ])
        refine wpAnyH_take (i := 27) (v := .pointer (some ⟨p2, 2, none⟩)) rfl (by kernel_rfl) (by kernel_rfl) (by kernel_rfl) (fun _ _ _ h => h) (Or.inl ⟨by rfl, ?_⟩) (by assumption) ?_
        · intro wx hs1; go_simp
        (try simp only [Act.put, List.getElem_toArray, List.getElem_cons_succ, List.getElem_cons_zero, List.setIfInBounds_toArray, List.set_cons_zero, List.set_cons_succ])
        refine wpAnyH_take (i := 28) (v := .int .i64 s2.came) rfl (by kernel_rfl) (by kernel_rfl) (by kernel_rfl) (fun _ _ _ h => h) (Or.inl ⟨by rfl, ?_⟩) (by assumption) ?_
        · intro wx hs1; obtain ⟨k0, k1, k2, k3, k4⟩ := (five_cells ((hs1.block _ (Array.getElem?_eq_some_iff.1 HX2.out).1).trans HX2.out)).1; go_simp
        (try simp only [Act.put, List.getElem_toArray, List.getElem_cons_succ, List.getElem_cons_zero, List.setIfInBounds_toArray, List.set_cons_zero, List.set_cons_succ])
        refine wpAnyH_take (i := 29) (v := .bool true) rfl (by kernel_rfl) (by kernel_rfl) (by kernel_rfl) (fun _ _ _ h => h) (Or.inl ⟨by rfl, ?_⟩) (by assumption) ?_
        · intro wx hs1; go_simp
        (try simp only [Act.put, List.getElem_toArray, List.getElem_cons_succ, List.getElem_cons_zero, List.setIfInBounds_toArray, List.set_cons_zero, List.set_cons_succ])
        refine wpAnyH_take (i := 30) (v := .bool true) rfl (by kernel_rfl) (by kernel_rfl) (by kernel_rfl) (fun _ _ _ h => h) (Or.inl ⟨by rfl, ?_⟩) (by assumption) ?_
        · intro wx hs1; go_simp
        (try simp only [Act.put, List.getElem_toArray, List.getElem_cons_succ, List.getElem_cons_zero, List.setIfInBounds_toArray, List.set_cons_zero, List.set_cons_succ])
        refine wpAnyH_take (i := 31) (v := .bool true) rfl (by kernel_rfl) (by kernel_rfl) (by kernel_rfl) (fun _ _ _ h => h) (Or.inl ⟨by rfl, ?_⟩) (by assumption) ?_
        · intro wx hs1; go_simp
        (try simp only [Act.put, List.getElem_toArray, List.getElem_cons_succ, List.getElem_cons_zero, List.setIfInBounds_toArray, List.set_cons_zero, List.set_cons_succ])
        refine wpAnyH_take (i := 32) (v := .pointer (some ⟨p1, 0, none⟩)) rfl (by kernel_rfl) (by kernel_rfl) (by kernel_rfl) (fun _ _ _ h => h) (Or.inl ⟨by rfl, ?_⟩) (by assumption) ?_
        · intro wx hs1; go_simp
        (try simp only [Act.put, List.getElem_toArray, List.getElem_cons_succ, List.getElem_cons_zero, List.setIfInBounds_toArray, List.set_cons_zero, List.set_cons_succ])
        refine wpAnyH_take (i := 33) (v := .pointer (some ⟨p1, 0, none⟩)) rfl (by kernel_rfl) (by kernel_rfl) (by kernel_rfl) (fun _ _ _ h => h) (Or.inl ⟨by rfl, ?_⟩) (by assumption) ?_
        · intro wx hs1; go_simp
        (try simp only [Act.put, List.getElem_toArray, List.getElem_cons_succ, List.getElem_cons_zero, List.setIfInBounds_toArray, List.set_cons_zero, List.set_cons_succ])
        refine wpAnyH_take (i := 34) (v := .pointer (some ⟨p1, 3, none⟩)) rfl (by kernel_rfl) (by kernel_rfl) (by kernel_rfl) (fun _ _ _ h => h) (Or.inl ⟨by rfl, ?_⟩) (by assumption) ?_
        · intro wx hs1; go_simp
        (try simp only [Act.put, List.getElem_toArray, List.getElem_cons_succ, List.getElem_cons_zero, List.setIfInBounds_toArray, List.set_cons_zero, List.set_cons_succ])
        refine wpAnyH_take (i := 35) (v := .map (some Mb1)) rfl (by kernel_rfl) (by kernel_rfl) (by kernel_rfl) (fun _ _ _ h => h) (Or.inl ⟨by rfl, ?_⟩) (by assumption) ?_
        · intro wx hs1; obtain ⟨k0, k1, k2, k3, k4⟩ := (five_cells ((hs1.block _ (Array.getElem?_eq_some_iff.1 HX1.out).1).trans HX1.out)).1; go_simp
        (try simp only [Act.put, List.getElem_toArray, List.getElem_cons_succ, List.getElem_cons_zero, List.setIfInBounds_toArray, List.set_cons_zero, List.set_cons_succ])
        refine wpAnyH_take (i := 36) (v := .pointer (some ⟨p2, 0, none⟩)) rfl (by kernel_rfl) (by kernel_rfl) (by kernel_rfl) (fun _ _ _ h => h) (Or.inl ⟨by rfl, ?_⟩) (by assumption) ?_
        · intro wx hs1; go_simp
        (try simp only [Act.put, List.getElem_toArray, List.getElem_cons_succ, List.getElem_cons_zero, List.setIfInBounds_toArray, List.set_cons_zero, List.set_cons_succ])
        refine wpAnyH_take (i := 37) (v := .pointer (some ⟨p2, 0, none⟩)) rfl (by kernel_rfl) (by kernel_rfl) (by kernel_rfl) (fun _ _ _ h => h) (Or.inl ⟨by rfl, ?_⟩) (by assumption) ?_
        · intro wx hs1; go_simp
        (try simp only [Act.put, List.getElem_toArray, List.getElem_cons_succ, List.getElem_cons_zero, List.setIfInBounds_toArray, List.set_cons_zero, List.set_cons_succ])
        refine wpAnyH_take (i := 38) (v := .pointer (some ⟨p2, 3, none⟩)) rfl (by kernel_rfl) (by kernel_rfl) (by kernel_rfl) (fun _ _ _ h => h) (Or.inl ⟨by rfl, ?_⟩) (by assumption) ?_
        · intro wx hs1; go_simp
        (try simp only [Act.put, List.getElem_toArray, List.getElem_cons_succ, List.getElem_cons_zero, List.setIfInBounds_toArray, List.set_cons_zero, List.set_cons_succ])
        refine wpAnyH_take (i := 39) (v := .map (some Mb2)) rfl (by kernel_rfl) (by kernel_rfl) (by kernel_rfl) (fun _ _ _ h => h) (Or.inl ⟨by rfl, ?_⟩) (by assumption) ?_
        · intro wx hs1; obtain ⟨k0, k1, k2, k3, k4⟩ := (five_cells ((hs1.block _ (Array.getElem?_eq_some_iff.1 HX2.out).1).trans HX2.out)).1; go_simp
        (try simp only [Act.put, List.getElem_toArray, List.getElem_cons_succ, List.getElem_cons_zero, List.setIfInBounds_toArray, List.set_cons_zero, List.set_cons_succ])
        refine wpAnyH_ready (rs := [40]) (by kernel_rfl) (by simp) (AllReadyH.cons rfl (fun K hK => ?_) AllReadyH.nil)
        go_simp
        go_at_call 49
        (with_reducible refine (H49.out _ HB0.out).mono ?_)
        rintro e w3 ⟨rfl, hb⟩
        try dsimp only
        have HB1 : Hid (Below w.heap.size w w3) := Lib.hid (HB0.out.trans (((But.grown hb).to_below (Nat.le_refl _) (fun b e => by cases e)).mono HB0.out.size)); clear hb; have hS := HB1.out
        refine hK.out _ _ hS (fun _ => ?_)
        clear hK K
        (try simp only [Act.put, List.getElem_toArray, List.getElem_cons_succ, List.getElem_cons_zero, List.setIfInBounds_toArray, List.set_cons_zero, List.set_cons_succ])
        refine wpAnyH_take (i := 41) (v := .bool false) rfl (by kernel_rfl) (by kernel_rfl) (by kernel_rfl) (fun _ _ _ h => h) (Or.inl ⟨by rfl, ?_⟩) (by assumption) ?_
        · intro wx hs1; go_simp
        (try simp only [Act.put, List.getElem_toArray, List.getElem_cons_succ, List.getElem_cons_zero, List.setIfInBounds_toArray, List.set_cons_zero, List.set_cons_succ])
        refine wpAnyH_take (i := 42) (v := .bool false) rfl (by kernel_rfl) (by kernel_rfl) (by kernel_rfl) (fun _ _ _ h => h) (Or.inl ⟨by rfl, ?_⟩) (by assumption) ?_
        · intro wx hs1; go_simp
        (try simp only [Act.put, List.getElem_toArray, List.getElem_cons_succ, List.getElem_cons_zero, List.setIfInBounds_toArray, List.set_cons_zero, List.set_cons_succ])
        refine wpAnyH_take (i := 43) (v := undef) rfl (by kernel_rfl) (by kernel_rfl) (by kernel_rfl) (fun _ _ _ h => h) (Or.inr ⟨by rfl, rfl⟩) (by assumption) ?_
        (try simp only [Act.put, List.getElem_toArray, List.getElem_cons_succ, List.getElem_cons_zero, List.setIfInBounds_toArray, List.set_cons_zero, List.set_cons_succ])
        refine wpAnyH_take (i := 44) (v := undef) rfl (by kernel_rfl) (by kernel_rfl) (by kernel_rfl) (fun _ _ _ h => h) (Or.inr ⟨by rfl, rfl⟩) (by assumption) ?_
        (try simp only [Act.put, List.getElem_toArray, List.getElem_cons_succ, List.getElem_cons_zero, List.setIfInBounds_toArray, List.set_cons_zero, List.set_cons_succ])
        refine wpAnyH_take (i := 45) (v := undef) rfl (by kernel_rfl) (by kernel_rfl) (by kernel_rfl) (fun _ _ _ h => h) (Or.inr ⟨by rfl, rfl⟩) (by assumption) ?_
        (try simp only [Act.put, List.getElem_toArray, List.getElem_cons_succ, List.getElem_cons_zero, List.setIfInBounds_toArray, List.set_cons_zero, List.set_cons_succ])
        refine wpAnyH_take (i := 46) (v := undef) rfl (by kernel_rfl) (by kernel_rfl) (by kernel_rfl) (fun _ _ _ h => h) (Or.inr ⟨by rfl, rfl⟩) (by assumption) ?_
        (try simp only [Act.put, List.getElem_toArray, List.getElem_cons_succ, List.getElem_cons_zero, List.setIfInBounds_toArray, List.set_cons_zero, List.set_cons_succ])
        refine wpAnyH_take (i := 47) (v := undef) rfl (by kernel_rfl) (by kernel_rfl) (by kernel_rfl) (fun _ _ _ h => h) (Or.inr ⟨by rfl, rfl⟩) (by assumption) ?_
        (try simp only [Act.put, List.getElem_toArray, List.getElem_cons_succ, List.getElem_cons_zero, List.setIfInBounds_toArray, List.set_cons_zero, List.set_cons_succ])
        refine wpAnyH_take (i := 48) (v := undef) rfl (by kernel_rfl) (by kernel_rfl) (by kernel_rfl) (fun _ _ _ h => h) (Or.inr ⟨by rfl, rfl⟩) (by assumption) ?_
        (try simp only [Act.put, List.getElem_toArray, List.getElem_cons_succ, List.getElem_cons_zero, List.setIfInBounds_toArray, List.set_cons_zero, List.set_cons_succ])
        refine wpAnyH_take (i := 49) (v := undef) rfl (by kernel_rfl) (by kernel_rfl) (by kernel_rfl) (fun _ _ _ h => h) (Or.inr ⟨by rfl, rfl⟩) (by assumption) ?_
        (try simp only [Act.put, List.getElem_toArray, List.getElem_cons_succ, List.getElem_cons_zero, List.setIfInBounds_toArray, List.set_cons_zero, List.set_cons_succ])
        refine wpAnyH_take (i := 50) (v := undef) rfl (by kernel_rfl) (by kernel_rfl) (by kernel_rfl) (fun _ _ _ h => h) (Or.inr ⟨by rfl, rfl⟩) (by assumption) ?_
        (try simp only [Act.put, List.getElem_toArray, List.getElem_cons_succ, List.getElem_cons_zero, List.setIfInBounds_toArray, List.set_cons_zero, List.set_cons_succ])
        refine wpAnyH_take (i := 51) (v := undef) rfl (by kernel_rfl) (by kernel_rfl) (by kernel_rfl) (fun _ _ _ h => h) (Or.inr ⟨by rfl, rfl⟩) (by assumption) ?_
        (try simp only [Act.put, List.getElem_toArray, List.getElem_cons_succ, List.getElem_cons_zero, List.setIfInBounds_toArray, List.set_cons_zero, List.set_cons_succ])
        refine wpAnyH_take (i := 52) (v := .bool false) rfl (by kernel_rfl) (by kernel_rfl) (by kernel_rfl) (fun _ _ _ h => h) (Or.inl ⟨by rfl, ?_⟩) (by assumption) ?_
        · intro wx hs1; go_simp
        (try simp only [Act.put, List.getElem_toArray, List.getElem_cons_succ, List.getElem_cons_zero, List.setIfInBounds_toArray, List.set_cons_zero, List.set_cons_succ])
        refine wpAnyH_take (i := 53) (v := .bool false) rfl (by kernel_rfl) (by kernel_rfl) (by kernel_rfl) (fun _ _ _ h => h) (Or.inl ⟨by rfl, ?_⟩) (by assumption) ?_
        · intro wx hs1; go_simp
        (try simp only [Act.put, List.getElem_toArray, List.getElem_cons_succ, List.getElem_cons_zero, List.setIfInBounds_toArray, List.set_cons_zero, List.set_cons_succ])
        refine wpAnyH_done (by kernel_rfl) ?_ _
        go_wp2
        go_ret
        exact ⟨rfl, HB1.out⟩
    · rw [decide_eq_false hc, Bool.false_and]
      have hcb : (s1.came == s2.came) = false := by simpa using hc
      clear hc
      go_enter Try.func23, Try.ntmps23
      go_upto_region 3 with (first
        | (go_at_call 42; (with_reducible refine h42a.mono ?_); rintro e w' ⟨rfl, rfl⟩)
        | (go_at_call 42; (with_reducible refine h42b.mono ?_); rintro e w' ⟨rfl, rfl⟩))
      clear h42a h42b
      have hS0 : (fun W => Below w.heap.size w W) w.drew := (Below.refl _ _).drew
      refine wp_region_held_drew (S := fun W => Below w.heap.size w W) rfl hS0 (fun hHeld => ?_)
      simp only [List.size_toArray, List.length_cons, List.length_nil, Nat.reduceAdd]
      have HB0 : Hid (Below w.heap.size w w.drew) := Lib.hid (Below.refl _ _).drew
      obtain ⟨V0, hV0⟩ : ∃ V, w.drew = V := ⟨_, rfl⟩
      rw [hV0] at hHeld hS0 HB0 ⊢
      clear hV0
      refine wpAnyH_take (i := 0) (v := .pointer (some ⟨p1, 0, none⟩)) rfl (by kernel_rfl) (by kernel_rfl) (by kernel_rfl) (fun _ _ _ h => h) (Or.inl ⟨by rfl, ?_⟩) (by assumption) ?_
      · intro wx hs1; go_simp
      (try simp only [Act.put, List.getElem_toArray, List.getElem_cons_zero, List.setIfInBounds_toArray, List.set_cons_zero, List.set_cons_succ])
      refine wpAnyH_take (i := 1) (v := .pointer (some ⟨p1, 0, none⟩)) rfl (by kernel_rfl) (by kernel_rfl) (by kernel_rfl) (fun _ _ _ h => h) (Or.inl ⟨by rfl, ?_⟩) (by assumption) ?_
      · intro wx hs1; go_simp
      (try simp only [Act.put, List.getElem_toArray, List.getElem_cons_succ, List.getElem_cons_zero, List.setIfInBounds_toArray, List.set_cons_zero, List.set_cons_succ])
      refine wpAnyH_take (i := 2) (v := .pointer (some ⟨p1, 0, none⟩)) rfl (by kernel_rfl) (by kernel_rfl) (by kernel_rfl) (fun _ _ _ h => h) (Or.inl ⟨by rfl, ?_⟩) (by assumption) ?_
      · intro wx hs1; go_simp
      (try simp only [Act.put, List.getElem_toArray, List.getElem_cons_succ, List.getElem_cons_zero, List.setIfInBounds_toArray, List.set_cons_zero, List.set_cons_succ])
      refine wpAnyH_take (i := 3) (v := .int .i64 s1.ends) rfl (by kernel_rfl) (by kernel_rfl) (by kernel_rfl) (fun _ _ _ h => h) (Or.inl ⟨by rfl, ?_⟩) (by assumption) ?_
      · intro wx hs1; obtain ⟨k0, k1, k2, k3, k4⟩ := (five_cells ((hs1.block _ (Array.getElem?_eq_some_iff.1 HX1.out).1).trans HX1.out)).1; go_simp
      (try simp only [Act.put, List.getElem_toArray, List.getElem_cons_succ, List.getElem_cons_zero, List.setIfInBounds_toArray, List.set_cons_zero, List.set_cons_succ])
      refine wpAnyH_take (i := 4) (v := .pointer (some ⟨p2, 0, none⟩)) rfl (by kernel_rfl) (by kernel_rfl) (by kernel_rfl) (fun _ _ _ h => h) (Or.inl ⟨by rfl, ?_⟩) (by assumption) ?_
      · intro wx hs1; go_simp
      (try simp only [Act.put, List.getElem_toArray, List.getElem_cons_succ, List.getElem_cons_zero, List.setIfInBounds_toArray, List.set_cons_zero, List.set_cons_succ])
      refine wpAnyH_take (i := 5) (v := .pointer (some ⟨p2, 0, none⟩)) rfl (by kernel_rfl) (by kernel_rfl) (by kernel_rfl) (fun _ _ _ h => h) (Or.inl ⟨by rfl, ?_⟩) (by assumption) ?_
      · intro wx hs1; go_simp
      (try simp only [Act.put, List.getElem_toArray, List.getElem_cons_succ, List.getElem_cons_zero, List.setIfInBounds_toArray, List.set_cons_zero, List.set_cons_succ])
      refine wpAnyH_take (i := 6) (v := .pointer (some ⟨p2, 0, none⟩)) rfl (by kernel_rfl) (by kernel_rfl) (by kernel_rfl) (fun _ _ _ h => h) (Or.inl ⟨by rfl, ?_⟩) (by assumption) ?_
      · intro wx hs1; go_simp
      (try simp only [Act.put, List.getElem_toArray, List.getElem_cons_succ, List.getElem_cons_zero, List.setIfInBounds_toArray, List.set_cons_zero, List.set_cons_succ])
      refine wpAnyH_take (i := 7) (v := .int .i64 s2.ends) rfl (by kernel_rfl) (by kernel_rfl) (by kernel_rfl) (fun _ _ _ h => h) (Or.inl ⟨by rfl, ?_⟩) (by assumption) ?_
      · intro wx hs1; obtain ⟨k0, k1, k2, k3, k4⟩ := (five_cells ((hs1.block _ (Array.getElem?_eq_some_iff.1 HX2.out).1).trans HX2.out)).1; go_simp
      (try simp only [Act.put, List.getElem_toArray, List.getElem_cons_succ, List.getElem_cons_zero, List.setIfInBounds_toArray, List.set_cons_zero, List.set_cons_succ])
      refine wpAnyH_take (i := 8) (v := .bool true) rfl (by kernel_rfl) (by kernel_rfl) (by kernel_rfl) (fun _ _ _ h => h) (Or.inl ⟨by rfl, ?_⟩) (by assumption) ?_
      · intro wx hs1; go_simp
      (try simp only [Act.put, List.getElem_toArray, List.getElem_cons_succ, List.getElem_cons_zero, List.setIfInBounds_toArray, List.set_cons_zero, List.set_cons_succ])
      refine wpAnyH_take (i := 9) (v := .bool true) rfl (by kernel_rfl) (by kernel_rfl) (by kernel_rfl) (fun _ _ _ h => h) (Or.inl ⟨by rfl, ?_⟩) (by assumption) ?_
      · intro wx hs1; go_simp
      (try simp only [Act.put, List.getElem_toArray, List.getElem_cons_succ, List.getElem_cons_zero, List.setIfInBounds_toArray, List.set_cons_zero, List.set_cons_succ])
      refine wpAnyH_take (i := 10) (v := .pointer (some ⟨p1, 0, none⟩)) rfl (by kernel_rfl) (by kernel_rfl) (by kernel_rfl) (fun _ _ _ h => h) (Or.inl ⟨by rfl, ?_⟩) (by assumption) ?_
      · intro wx hs1; go_simp
      (try simp only [Act.put, List.getElem_toArray, List.getElem_cons_succ, List.getElem_cons_zero, List.setIfInBounds_toArray, List.set_cons_zero, List.set_cons_succ])
      refine wpAnyH_take (i := 11) (v := .pointer (some ⟨p1, 0, none⟩)) rfl (by kernel_rfl) (by kernel_rfl) (by kernel_rfl) (fun _ _ _ h => h) (Or.inl ⟨by rfl, ?_⟩) (by assumption) ?_
      · intro wx hs1; go_simp
      (try simp only [Act.put, List.getElem_toArray, List.getElem_cons_succ, List.getElem_cons_zero, List.setIfInBounds_toArray, List.set_cons_zero, List.set_cons_succ])
      refine wpAnyH_take (i := 12) (v := .pointer (some ⟨p1, 1, none⟩)) rfl (by kernel_rfl) (by kernel_rfl) (by kernel_rfl) (fun _ _ _ h => h) (Or.inl ⟨by rfl, ?_⟩) (by assumption) ?_
      · intro wx hs1; go_simp
      (try simp only [Act.put, List.getElem_toArray, List.getElem_cons_succ, List.getElem_cons_zero, List.setIfInBounds_toArray, List.set_cons_zero, List.set_cons_succ])
      refine wpAnyH_take (i := 13) (v := .int .i64 s1.most) rfl (by kernel_rfl) (by kernel_rfl) (by kernel_rfl) (fun _ _ _ h => h) (Or.inl ⟨by rfl, ?_⟩) (by assumption) ?_
      · intro wx hs1; obtain ⟨k0, k1, k2, k3, k4⟩ := (five_cells ((hs1.block _ (Array.getElem?_eq_some_iff.1 HX1.out).1).trans HX1.out)).1; go_simp
      (try simp only [Act.put, List.getElem_toArray, List.getElem_cons_succ, List.getElem_cons_zero, List.setIfInBounds_toArray, List.set_cons_zero, List.set_cons_succ])
      refine wpAnyH_take (i := 14) (v := .pointer (some ⟨p2, 0, none⟩)) rfl (by kernel_rfl) (by kernel_rfl) (by kernel_rfl) (fun _ _ _ h => h) (Or.inl ⟨by rfl, ?_⟩) (by assumption) ?_
      · intro wx hs1; go_simp
      (try simp only [Act.put, List.getElem_toArray, List.getElem_cons_succ, List.getElem_cons_zero, List.setIfInBounds_toArray, List.set_cons_zero, List.set_cons_succ])
      refine wpAnyH_take (i := 15) (v := .pointer (some ⟨p2, 0, none⟩)) rfl (by kernel_rfl) (by kernel_rfl) (by kernel_rfl) (fun _ _ _ h => h) (Or.inl ⟨by rfl, ?_⟩) (by assumption) ?_
      · intro wx hs1; go_simp
      (try simp only [Act.put, List.getElem_toArray, List.getElem_cons_succ, List.getElem_cons_zero, List.setIfInBounds_toArray, List.set_cons_zero, List.set_cons_succ])
      refine wpAnyH_take (i := 16) (v := .pointer (some ⟨p2, 1, none⟩)) rfl (by kernel_rfl) (by kernel_rfl) (by kernel_rfl) (fun _ _ _ h => h) (Or.inl ⟨by rfl, ?_⟩) (by assumption) ?_
      · intro wx hs1; go_simp
      (try simp only [Act.put, List.getElem_toArray, List.getElem_cons_succ, List.getElem_cons_zero, List.setIfInBounds_toArray, List.set_cons_zero, List.set_cons_succ])
      refine wpAnyH_take (i := 17) (v := .int .i64 s2.most) rfl (by kernel_rfl) (by kernel_rfl) (by kernel_rfl) (fun _ _ _ h => h) (Or.inl ⟨by rfl, ?_⟩) (by assumption) ?_
      · intro wx hs1; obtain ⟨k0, k1, k2, k3, k4⟩ := (five_cells ((hs1.block _ (Array.getElem?_eq_some_iff.1 HX2.out).1).trans HX2.out)).1; go_simp
      (try simp only [Act.put, List.getElem_toArray, List.getElem_cons_succ, List.getElem_cons_zero, List.setIfInBounds_toArray, List.set_cons_zero, List.set_cons_succ])
      refine wpAnyH_take (i := 18) (v := .bool true) rfl (by kernel_rfl) (by kernel_rfl) (by kernel_rfl) (fun _ _ _ h => h) (Or.inl ⟨by rfl, ?_⟩) (by assumption) ?_
      · intro wx hs1; go_simp
      (try simp only [Act.put, List.getElem_toArray, List.getElem_cons_succ, List.getElem_cons_zero, List.setIfInBounds_toArray, List.set_cons_zero, List.set_cons_succ])
      refine wpAnyH_take (i := 19) (v := .bool true) rfl (by kernel_rfl) (by kernel_rfl) (by kernel_rfl) (fun _ _ _ h => h) (Or.inl ⟨by rfl, ?_⟩) (by assumption) ?_
      · intro wx hs1; go_simp
      (try simp only [Act.put, List.getElem_toArray, List.getElem_cons_succ, List.getElem_cons_zero, List.setIfInBounds_toArray, List.set_cons_zero, List.set_cons_succ])
      refine wpAnyH_take (i := 20) (v := .bool true) rfl (by kernel_rfl) (by kernel_rfl) (by kernel_rfl) (fun _ _ _ h => h) (Or.inl ⟨by rfl, ?_⟩) (by assumption) ?_
      · intro wx hs1; go_simp
      (try simp only [Act.put, List.getElem_toArray, List.getElem_cons_succ, List.getElem_cons_zero, List.setIfInBounds_toArray, List.set_cons_zero, List.set_cons_succ])
      refine wpAnyH_take (i := 21) (v := .pointer (some ⟨p1, 0, none⟩)) rfl (by kernel_rfl) (by kernel_rfl) (by kernel_rfl) (fun _ _ _ h => h) (Or.inl ⟨by rfl, ?_⟩) (by assumption) ?_
      · intro wx hs1; go_simp
      (try simp only [Act.put, List.getElem_toArray, List.getElem_cons_succ, List.getElem_cons_zero, List.setIfInBounds_toArray, List.set_cons_zero, List.set_cons_succ])
      refine wpAnyH_take (i := 22) (v := .pointer (some ⟨p1, 0, none⟩)) rfl (by kernel_rfl) (by kernel_rfl) (by kernel_rfl) (fun _ _ _ h => h) (Or.inl ⟨by rfl, ?_⟩) (by assumption) ?_
      · intro wx hs1; go_simp
      (try simp only [Act.put, List.getElem_toArray, List.getElem_cons_succ, List.getElem_cons_zero, List.setIfInBounds_toArray, List.set_cons_zero, List.set_cons_succ])
      refine wpAnyH_take (i := 23) (v := .pointer (some ⟨p1, 2, none⟩)) rfl (by kernel_rfl) (by kernel_rfl) (by kernel_rfl) (fun _ _ _ h => h) (Or.inl ⟨by rfl, ?_⟩) (by assumption) ?_
      · intro wx hs1; go_simp
      (try simp only [Act.put, List.getElem_toArray, List.getElem_cons_succ, List.getElem_cons_zero, List.setIfInBounds_toArray, List.set_cons_zero, List.set_cons_succ])
      refine wpAnyH_take (i := 24) (v := .int .i64 s1.came) rfl (by kernel_rfl) (by kernel_rfl) (by kernel_rfl) (fun _ _ _ h => h) (Or.inl ⟨by rfl, ?_⟩) (by assumption) ?_
      · intro wx hs1; obtain ⟨k0, k1, k2, k3, k4⟩ := (five_cells ((hs1.block _ (Array.getElem?_eq_some_iff.1 HX1.out).1).trans HX1.out)).1; go_simp
      (try simp only [Act.put, List.getElem_toArray, List.getElem_cons_succ, List.getElem_cons_zero, List.setIfInBounds_toArray, List.set_cons_zero, List.set_cons_succ])
      refine wpAnyH_take (i := 25) (v := .pointer (some ⟨p2, 0, none⟩)) rfl (by kernel_rfl) (by kernel_rfl) (by kernel_rfl) (fun _ _ _ h => h) (Or.inl ⟨by rfl, ?_⟩) (by assumption) ?_
      · intro wx hs1; go_simp
      (try simp only [Act.put, List.getElem_toArray, List.getElem_cons_succ, List.getElem_cons_zero, List.setIfInBounds_toArray, List.set_cons_zero, List.set_cons_succ])
      refine wpAnyH_take (i := 26) (v := .pointer (some ⟨p2, 0, none⟩)) rfl (by kernel_rfl) (by kernel_rfl) (by kernel_rfl) (fun _ _ _ h => h) (Or.inl ⟨by rfl, ?_⟩) (by assumption) ?_
      · intro wx hs1; go_simp
      (try simp only [Act.put, List.getElem_toArray, List.getElem_cons_succ, List.getElem_cons_zero, List.setIfInBounds_toArray, List.set_cons_zero, List.set_cons_succ])
      refine wpAnyH_take (i := 27) (v := .pointer (some ⟨p2, 2, none⟩)) rfl (by kernel_rfl) (by kernel_rfl) (by kernel_rfl) (fun _ _ _ h => h) (Or.inl ⟨by rfl, ?_⟩) (by assumption) ?_
      · intro wx hs1; go_simp
      (try simp only [Act.put, List.getElem_toArray, List.getElem_cons_succ, List.getElem_cons_zero, List.setIfInBounds_toArray, List.set_cons_zero, List.set_cons_succ])
      refine wpAnyH_take (i := 28) (v := .int .i64 s2.came) rfl (by kernel_rfl) (by kernel_rfl) (by kernel_rfl) (fun _ _ _ h => h) (Or.inl ⟨by rfl, ?_⟩) (by assumption) ?_
      · intro wx hs1; obtain ⟨k0, k1, k2, k3, k4⟩ := (five_cells ((hs1.block _ (Array.getElem?_eq_some_iff.1 HX2.out).1).trans HX2.out)).1; go_simp
      (try simp only [Act.put, List.getElem_toArray, List.getElem_cons_succ, List.getElem_cons_zero, List.setIfInBounds_toArray, List.set_cons_zero, List.set_cons_succ])
      refine wpAnyH_take (i := 29) (v := .bool false) rfl (by kernel_rfl) (by kernel_rfl) (by kernel_rfl) (fun _ _ _ h => h) (Or.inl ⟨by rfl, ?_⟩) (by assumption) ?_
      · intro wx hs1; go_simp
      (try simp only [Act.put, List.getElem_toArray, List.getElem_cons_succ, List.getElem_cons_zero, List.setIfInBounds_toArray, List.set_cons_zero, List.set_cons_succ])
      refine wpAnyH_take (i := 30) (v := .bool false) rfl (by kernel_rfl) (by kernel_rfl) (by kernel_rfl) (fun _ _ _ h => h) (Or.inl ⟨by rfl, ?_⟩) (by assumption) ?_
      · intro wx hs1; go_simp
      (try simp only [Act.put, List.getElem_toArray, List.getElem_cons_succ, List.getElem_cons_zero, List.setIfInBounds_toArray, List.set_cons_zero, List.set_cons_succ])
      refine wpAnyH_take (i := 31) (v := .bool false) rfl (by kernel_rfl) (by kernel_rfl) (by kernel_rfl) (fun _ _ _ h => h) (Or.inl ⟨by rfl, ?_⟩) (by assumption) ?_
      · intro wx hs1; go_simp
      (try simp only [Act.put, List.getElem_toArray, List.getElem_cons_succ, List.getElem_cons_zero, List.setIfInBounds_toArray, List.set_cons_zero, List.set_cons_succ])
      refine wpAnyH_take (i := 32) (v := undef) rfl (by kernel_rfl) (by kernel_rfl) (by kernel_rfl) (fun _ _ _ h => h) (Or.inr ⟨by rfl, rfl⟩) (by assumption) ?_
      (try simp only [Act.put, List.getElem_toArray, List.getElem_cons_succ, List.getElem_cons_zero, List.setIfInBounds_toArray, List.set_cons_zero, List.set_cons_succ])
      refine wpAnyH_take (i := 33) (v := undef) rfl (by kernel_rfl) (by kernel_rfl) (by kernel_rfl) (fun _ _ _ h => h) (Or.inr ⟨by rfl, rfl⟩) (by assumption) ?_
      (try simp only [Act.put, List.getElem_toArray, List.getElem_cons_succ, List.getElem_cons_zero, List.setIfInBounds_toArray, List.set_cons_zero, List.set_cons_succ])
      refine wpAnyH_take (i := 34) (v := undef) rfl (by kernel_rfl) (by kernel_rfl) (by kernel_rfl) (fun _ _ _ h => h) (Or.inr ⟨by rfl, rfl⟩) (by assumption) ?_
      (try simp only [Act.put, List.getElem_toArray, List.getElem_cons_succ, List.getElem_cons_zero, List.setIfInBounds_toArray, List.set_cons_zero, List.set_cons_succ])
      refine wpAnyH_take (i := 35) (v := undef) rfl (by kernel_rfl) (by kernel_rfl) (by kernel_rfl) (fun _ _ _ h => h) (Or.inr ⟨by rfl, rfl⟩) (by assumption) ?_
      (try simp only [Act.put, List.getElem_toArray, List.getElem_cons_succ, List.getElem_cons_zero, List.setIfInBounds_toArray, List.set_cons_zero, List.set_cons_succ])
      refine wpAnyH_take (i := 36) (v := undef) rfl (by kernel_rfl) (by kernel_rfl) (by kernel_rfl) (fun _ _ _ h => h) (Or.inr ⟨by rfl, rfl⟩) (by assumption) ?_
      (try simp only [Act.put, List.getElem_toArray, List.getElem_cons_succ, List.getElem_cons_zero, List.setIfInBounds_toArray, List.set_cons_zero, List.set_cons_succ])
      refine wpAnyH_take (i := 37) (v := undef) rfl (by kernel_rfl) (by kernel_rfl) (by kernel_rfl) (fun _ _ _ h => h) (Or.inr ⟨by rfl, rfl⟩) (by assumption) ?_
      (try simp only [Act.put, List.getElem_toArray, List.getElem_cons_succ, List.getElem_cons_zero, List.setIfInBounds_toArray, List.set_cons_zero, List.set_cons_succ])
      refine wpAnyH_take (i := 38) (v := undef) rfl (by kernel_rfl) (by kernel_rfl) (by kernel_rfl) (fun _ _ _ h => h) (Or.inr ⟨by rfl, rfl⟩) (by assumption) ?_
      (try simp only [Act.put, List.getElem_toArray, List.getElem_cons_succ, List.getElem_cons_zero, List.setIfInBounds_toArray, List.set_cons_zero, List.set_cons_succ])
      refine wpAnyH_take (i := 39) (v := undef) rfl (by kernel_rfl) (by kernel_rfl) (by kernel_rfl) (fun _ _ _ h => h) (Or.inr ⟨by rfl, rfl⟩) (by assumption) ?_
      (try simp only [Act.put, List.getElem_toArray, List.getElem_cons_succ, List.getElem_cons_zero, List.setIfInBounds_toArray, List.set_cons_zero, List.set_cons_succ])
      refine wpAnyH_take (i := 40) (v := undef) rfl (by kernel_rfl) (by kernel_rfl) (by kernel_rfl) (fun _ _ _ h => h) (Or.inr ⟨by rfl, rfl⟩) (by assumption) ?_
      (try simp only [Act.put, List.getElem_toArray, List.getElem_cons_succ, List.getElem_cons_zero, List.setIfInBounds_toArray, List.set_cons_zero, List.set_cons_succ])
      refine wpAnyH_take (i := 41) (v := .bool false) rfl (by kernel_rfl) (by kernel_rfl) (by kernel_rfl) (fun _ _ _ h => h) (Or.inl ⟨by rfl, ?_⟩) (by assumption) ?_
      · intro wx hs1; go_simp
      (try simp only [Act.put, List.getElem_toArray, List.getElem_cons_succ, List.getElem_cons_zero, List.setIfInBounds_toArray, List.set_cons_zero, List.set_cons_succ])
      refine wpAnyH_take (i := 42) (v := .bool false) rfl (by kernel_rfl) (by kernel_rfl) (by kernel_rfl) (fun _ _ _ h => h) (Or.inl ⟨by rfl, ?_⟩) (by assumption) ?_
      · intro wx hs1; go_simp
      (try simp only [Act.put, List.getElem_toArray, List.getElem_cons_succ, List.getElem_cons_zero, List.setIfInBounds_toArray, List.set_cons_zero, List.set_cons_succ])
      refine wpAnyH_take (i := 43) (v := undef) rfl (by kernel_rfl) (by kernel_rfl) (by kernel_rfl) (fun _ _ _ h => h) (Or.inr ⟨by rfl, rfl⟩) (by assumption) ?_
      (try simp only [Act.put, List.getElem_toArray, List.getElem_cons_succ, List.getElem_cons_zero, List.setIfInBounds_toArray, List.set_cons_zero, List.set_cons_succ])
      refine wpAnyH_take (i := 44) (v := undef) rfl (by kernel_rfl) (by kernel_rfl) (by kernel_rfl) (fun _ _ _ h => h) (Or.inr ⟨by rfl, rfl⟩) (by assumption) ?_
      (try simp only [Act.put, List.getElem_toArray, List.getElem_cons_succ, List.getElem_cons_zero, List.setIfInBounds_toArray, List.set_cons_zero, List.set_cons_succ])
      refine wpAnyH_take (i := 45) (v := undef) rfl (by kernel_rfl) (by kernel_rfl) (by kernel_rfl) (fun _ _ _ h => h) (Or.inr ⟨by rfl, rfl⟩) (by assumption) ?_
      (try simp only [Act.put, List.getElem_toArray, List.getElem_cons_succ, List.getElem_cons_zero, List.setIfInBounds_toArray, List.set_cons_zero, List.set_cons_succ])
      refine wpAnyH_take (i := 46) (v := undef) rfl (by kernel_rfl) (by kernel_rfl) (by kernel_rfl) (fun _ _ _ h => h) (Or.inr ⟨by rfl, rfl⟩) (by assumption) ?_
      (try simp only [Act.put, List.getElem_toArray, List.getElem_cons_succ, List.getElem_cons_zero, List.setIfInBounds_toArray, List.set_cons_zero, List.set_cons_succ])
      refine wpAnyH_take (i := 47) (v := undef) rfl (by kernel_rfl) (by kernel_rfl) (by kernel_rfl) (fun _ _ _ h => h) (Or.inr ⟨by rfl, rfl⟩) (by assumption) ?_
      (try simp only [Act.put, List.getElem_toArray, List.getElem_cons_succ, List.getElem_cons_zero, List.setIfInBounds_toArray, List.set_cons_zero, List.set_cons_succ])
      refine wpAnyH_take (i := 48) (v := undef) rfl (by kernel_rfl) (by kernel_rfl) (by kernel_rfl) (fun _ _ _ h => h) (Or.inr ⟨by rfl, rfl⟩) (by assumption) ?_
      (try simp only [Act.put, List.getElem_toArray, List.getElem_cons_succ, List.getElem_cons_zero, List.setIfInBounds_toArray, List.set_cons_zero, List.set_cons_succ])
      refine wpAnyH_take (i := 49) (v := undef) rfl (by kernel_rfl) (by kernel_rfl) (by kernel_rfl) (fun _ _ _ h => h) (Or.inr ⟨by rfl, rfl⟩) (by assumption) ?_
      (try simp only [Act.put, List.getElem_toArray, List.getElem_cons_succ, List.getElem_cons_zero, List.setIfInBounds_toArray, List.set_cons_zero, List.set_cons_succ])
      refine wpAnyH_take (i := 50) (v := undef) rfl (by kernel_rfl) (by kernel_rfl) (by kernel_rfl) (fun _ _ _ h => h) (Or.inr ⟨by rfl, rfl⟩) (by assumption) ?_
      (try simp only [Act.put, List.getElem_toArray, List.getElem_cons_succ, List.getElem_cons_zero, List.setIfInBounds_toArray, List.set_cons_zero, List.set_cons_succ])
      refine wpAnyH_take (i := 51) (v := undef) rfl (by kernel_rfl) (by kernel_rfl) (by kernel_rfl) (fun _ _ _ h => h) (Or.inr ⟨by rfl, rfl⟩) (by assumption) ?_
      (try simp only [Act.put, List.getElem_toArray, List.getElem_cons_succ, List.getElem_cons_zero, List.setIfInBounds_toArray, List.set_cons_zero, List.set_cons_succ])
      refine wpAnyH_take (i := 52) (v := .bool false) rfl (by kernel_rfl) (by kernel_rfl) (by kernel_rfl) (fun _ _ _ h => h) (Or.inl ⟨by rfl, ?_⟩) (by assumption) ?_
      · intro wx hs1; go_simp
      (try simp only [Act.put, List.getElem_toArray, List.getElem_cons_succ, List.getElem_cons_zero, List.setIfInBounds_toArray, List.set_cons_zero, List.set_cons_succ])
      refine wpAnyH_take (i := 53) (v := .bool false) rfl (by kernel_rfl) (by kernel_rfl) (by kernel_rfl) (fun _ _ _ h => h) (Or.inl ⟨by rfl, ?_⟩) (by assumption) ?_
      · intro wx hs1; go_simp
      (try simp only [Act.put, List.getElem_toArray, List.getElem_cons_succ, List.getElem_cons_zero, List.setIfInBounds_toArray, List.set_cons_zero, List.set_cons_succ])
      refine wpAnyH_done (by kernel_rfl) ?_ _
      go_wp2
      go_ret
      exact ⟨rfl, HB0.out⟩
  · rw [decide_eq_false hm, Bool.false_and]
    have hmb : (s1.most == s2.most) = false := by simpa using hm
    clear hm
    go_enter Try.func23, Try.ntmps23
    go_upto_region 3 with (first
      | (go_at_call 42; (with_reducible refine h42a.mono ?_); rintro e w' ⟨rfl, rfl⟩)
      | (go_at_call 42; (with_reducible refine h42b.mono ?_); rintro e w' ⟨rfl, rfl⟩))
    clear h42a h42b
    have hS0 : (fun W => Below w.heap.size w W) w.drew := (Below.refl _ _).drew
    refine wp_region_held_drew (S := fun W => Below w.heap.size w W) rfl hS0 (fun hHeld => ?_)
    simp only [List.size_toArray, List.length_cons, List.length_nil, Nat.reduceAdd]
    have HB0 : Hid (Below w.heap.size w w.drew) := Lib.hid (Below.refl _ _).drew
    obtain ⟨V0, hV0⟩ : ∃ V, w.drew = V := ⟨_, rfl⟩
    rw [hV0] at hHeld hS0 HB0 ⊢
    clear hV0
    refine wpAnyH_take (i := 0) (v := .pointer (some ⟨p1, 0, none⟩)) rfl (by kernel_rfl) (by kernel_rfl) (by kernel_rfl) (fun _ _ _ h => h) (Or.inl ⟨by rfl, ?_⟩) (by assumption) ?_
    · intro wx hs1; go_simp
    (try simp only [Act.put, List.getElem_toArray, List.getElem_cons_zero, List.setIfInBounds_toArray, List.set_cons_zero, List.set_cons_succ])
    refine wpAnyH_take (i := 1) (v := .pointer (some ⟨p1, 0, none⟩)) rfl (by kernel_rfl) (by kernel_rfl) (by kernel_rfl) (fun _ _ _ h => h) (Or.inl ⟨by rfl, ?_⟩) (by assumption) ?_
    · intro wx hs1; go_simp
    (try simp only [Act.put, List.getElem_toArray, List.getElem_cons_succ, List.getElem_cons_zero, List.setIfInBounds_toArray, List.set_cons_zero, List.set_cons_succ])
    refine wpAnyH_take (i := 2) (v := .pointer (some ⟨p1, 0, none⟩)) rfl (by kernel_rfl) (by kernel_rfl) (by kernel_rfl) (fun _ _ _ h => h) (Or.inl ⟨by rfl, ?_⟩) (by assumption) ?_
    · intro wx hs1; go_simp
    (try simp only [Act.put, List.getElem_toArray, List.getElem_cons_succ, List.getElem_cons_zero, List.setIfInBounds_toArray, List.set_cons_zero, List.set_cons_succ])
    refine wpAnyH_take (i := 3) (v := .int .i64 s1.ends) rfl (by kernel_rfl) (by kernel_rfl) (by kernel_rfl) (fun _ _ _ h => h) (Or.inl ⟨by rfl, ?_⟩) (by assumption) ?_
    · intro wx hs1; obtain ⟨k0, k1, k2, k3, k4⟩ := (five_cells ((hs1.block _ (Array.getElem?_eq_some_iff.1 HX1.out).1).trans HX1.out)).1; go_simp
    (try simp only [Act.put, List.getElem_toArray, List.getElem_cons_succ, List.getElem_cons_zero, List.setIfInBounds_toArray, List.set_cons_zero, List.set_cons_succ])
    refine wpAnyH_take (i := 4) (v := .pointer (some ⟨p2, 0, none⟩)) rfl (by kernel_rfl) (by kernel_rfl) (by kernel_rfl) (fun _ _ _ h => h) (Or.inl ⟨by rfl, ?_⟩) (by assumption) ?_
    · intro wx hs1; go_simp
    (try simp only [Act.put, List.getElem_toArray, List.getElem_cons_succ, List.getElem_cons_zero, List.setIfInBounds_toArray, List.set_cons_zero, List.set_cons_succ])
    refine wpAnyH_take (i := 5) (v := .pointer (some ⟨p2, 0, none⟩)) rfl (by kernel_rfl) (by kernel_rfl) (by kernel_rfl) (fun _ _ _ h => h) (Or.inl ⟨by rfl, ?_⟩) (by assumption) ?_
    · intro wx hs1; go_simp
    (try simp only [Act.put, List.getElem_toArray, List.getElem_cons_succ, List.getElem_cons_zero, List.setIfInBounds_toArray, List.set_cons_zero, List.set_cons_succ])
    refine wpAnyH_take (i := 6) (v := .pointer (some ⟨p2, 0, none⟩)) rfl (by kernel_rfl) (by kernel_rfl) (by kernel_rfl) (fun _ _ _ h => h) (Or.inl ⟨by rfl, ?_⟩) (by assumption) ?_
    · intro wx hs1; go_simp
    (try simp only [Act.put, List.getElem_toArray, List.getElem_cons_succ, List.getElem_cons_zero, List.setIfInBounds_toArray, List.set_cons_zero, List.set_cons_succ])
    refine wpAnyH_take (i := 7) (v := .int .i64 s2.ends) rfl (by kernel_rfl) (by kernel_rfl) (by kernel_rfl) (fun _ _ _ h => h) (Or.inl ⟨by rfl, ?_⟩) (by assumption) ?_
    · intro wx hs1; obtain ⟨k0, k1, k2, k3, k4⟩ := (five_cells ((hs1.block _ (Array.getElem?_eq_some_iff.1 HX2.out).1).trans HX2.out)).1; go_simp
    (try simp only [Act.put, List.getElem_toArray, List.getElem_cons_succ, List.getElem_cons_zero, List.setIfInBounds_toArray, List.set_cons_zero, List.set_cons_succ])
    refine wpAnyH_take (i := 8) (v := .bool true) rfl (by kernel_rfl) (by kernel_rfl) (by kernel_rfl) (fun _ _ _ h => h) (Or.inl ⟨by rfl, ?_⟩) (by assumption) ?_
    · intro wx hs1; go_simp
    (try simp only [Act.put, List.getElem_toArray, List.getElem_cons_succ, List.getElem_cons_zero, List.setIfInBounds_toArray, List.set_cons_zero, List.set_cons_succ])
    refine wpAnyH_take (i := 9) (v := .bool true) rfl (by kernel_rfl) (by kernel_rfl) (by kernel_rfl) (fun _ _ _ h => h) (Or.inl ⟨by rfl, ?_⟩) (by assumption) ?_
    · intro wx hs1; go_simp
    (try simp only [Act.put, List.getElem_toArray, List.getElem_cons_succ, List.getElem_cons_zero, List.setIfInBounds_toArray, List.set_cons_zero, List.set_cons_succ])
    refine wpAnyH_take (i := 10) (v := .pointer (some ⟨p1, 0, none⟩)) rfl (by kernel_rfl) (by kernel_rfl) (by kernel_rfl) (fun _ _ _ h => h) (Or.inl ⟨by rfl, ?_⟩) (by assumption) ?_
    · intro wx hs1; go_simp
    (try simp only [Act.put, List.getElem_toArray, List.getElem_cons_succ, List.getElem_cons_zero, List.setIfInBounds_toArray, List.set_cons_zero, List.set_cons_succ])
    refine wpAnyH_take (i := 11) (v := .pointer (some ⟨p1, 0, none⟩)) rfl (by kernel_rfl) (by kernel_rfl) (by kernel_rfl) (fun _ _ _ h => h) (Or.inl ⟨by rfl, ?_⟩) (by assumption) ?_
    · intro wx hs1; go_simp
    (try simp only [Act.put, List.getElem_toArray, List.getElem_cons_succ, List.getElem_cons_zero, List.setIfInBounds_toArray, List.set_cons_zero, List.set_cons_succ])
    refine wpAnyH_take (i := 12) (v := .pointer (some ⟨p1, 1, none⟩)) rfl (by kernel_rfl) (by kernel_rfl) (by kernel_rfl) (fun _ _ _ h => h) (Or.inl ⟨by rfl, ?_⟩) (by assumption) ?_
    · intro wx hs1; go_simp
    (try simp only [Act.put, List.getElem_toArray, List.getElem_cons_succ, List.getElem_cons_zero, List.setIfInBounds_toArray, List.set_cons_zero, List.set_cons_succ])
    refine wpAnyH_take (i := 13) (v := .int .i64 s1.most) rfl (by kernel_rfl) (by kernel_rfl) (by kernel_rfl) (fun _ _ _ h => h) (Or.inl ⟨by rfl, ?_⟩) (by assumption) ?_
    · intro wx hs1; obtain ⟨k0, k1, k2, k3, k4⟩ := (five_cells ((hs1.block _ (Array.getElem?_eq_some_iff.1 HX1.out).1).trans HX1.out)).1; go_simp
    (try simp only [Act.put, List.getElem_toArray, List.getElem_cons_succ, List.getElem_cons_zero, List.setIfInBounds_toArray, List.set_cons_zero, List.set_cons_succ])
    refine wpAnyH_take (i := 14) (v := .pointer (some ⟨p2, 0, none⟩)) rfl (by kernel_rfl) (by kernel_rfl) (by kernel_rfl) (fun _ _ _ h => h) (Or.inl ⟨by rfl, ?_⟩) (by assumption) ?_
    · intro wx hs1; go_simp
    (try simp only [Act.put, List.getElem_toArray, List.getElem_cons_succ, List.getElem_cons_zero, List.setIfInBounds_toArray, List.set_cons_zero, List.set_cons_succ])
    refine wpAnyH_take (i := 15) (v := .pointer (some ⟨p2, 0, none⟩)) rfl (by kernel_rfl) (by kernel_rfl) (by kernel_rfl) (fun _ _ _ h => h) (Or.inl ⟨by rfl, ?_⟩) (by assumption) ?_
    · intro wx hs1; go_simp
    (try simp only [Act.put, List.getElem_toArray, List.getElem_cons_succ, List.getElem_cons_zero, List.setIfInBounds_toArray, List.set_cons_zero, List.set_cons_succ])
    refine wpAnyH_take (i := 16) (v := .pointer (some ⟨p2, 1, none⟩)) rfl (by kernel_rfl) (by kernel_rfl) (by kernel_rfl) (fun _ _ _ h => h) (Or.inl ⟨by rfl, ?_⟩) (by assumption) ?_
    · intro wx hs1; go_simp
    (try simp only [Act.put, List.getElem_toArray, List.getElem_cons_succ, List.getElem_cons_zero, List.setIfInBounds_toArray, List.set_cons_zero, List.set_cons_succ])
    refine wpAnyH_take (i := 17) (v := .int .i64 s2.most) rfl (by kernel_rfl) (by kernel_rfl) (by kernel_rfl) (fun _ _ _ h => h) (Or.inl ⟨by rfl, ?_⟩) (by assumption) ?_
    · intro wx hs1; obtain ⟨k0, k1, k2, k3, k4⟩ := (five_cells ((hs1.block _ (Array.getElem?_eq_some_iff.1 HX2.out).1).trans HX2.out)).1; go_simp
    (try simp only [Act.put, List.getElem_toArray, List.getElem_cons_succ, List.getElem_cons_zero, List.setIfInBounds_toArray, List.set_cons_zero, List.set_cons_succ])
    refine wpAnyH_take (i := 18) (v := .bool false) rfl (by kernel_rfl) (by kernel_rfl) (by kernel_rfl) (fun _ _ _ h => h) (Or.inl ⟨by rfl, ?_⟩) (by assumption) ?_
    · intro wx hs1; go_simp
    (try simp only [Act.put, List.getElem_toArray, List.getElem_cons_succ, List.getElem_cons_zero, List.setIfInBounds_toArray, List.set_cons_zero, List.set_cons_succ])
    refine wpAnyH_take (i := 19) (v := .bool false) rfl (by kernel_rfl) (by kernel_rfl) (by kernel_rfl) (fun _ _ _ h => h) (Or.inl ⟨by rfl, ?_⟩) (by assumption) ?_
    · intro wx hs1; go_simp
    (try simp only [Act.put, List.getElem_toArray, List.getElem_cons_succ, List.getElem_cons_zero, List.setIfInBounds_toArray, List.set_cons_zero, List.set_cons_succ])
    refine wpAnyH_take (i := 20) (v := .bool false) rfl (by kernel_rfl) (by kernel_rfl) (by kernel_rfl) (fun _ _ _ h => h) (Or.inl ⟨by rfl, ?_⟩) (by assumption) ?_
    · intro wx hs1; go_simp
    (try simp only [Act.put, List.getElem_toArray, List.getElem_cons_succ, List.getElem_cons_zero, List.setIfInBounds_toArray, List.set_cons_zero, List.set_cons_succ])
    refine wpAnyH_take (i := 21) (v := undef) rfl (by kernel_rfl) (by kernel_rfl) (by kernel_rfl) (fun _ _ _ h => h) (Or.inr ⟨by rfl, rfl⟩) (by assumption) ?_
    (try simp only [Act.put, List.getElem_toArray, List.getElem_cons_succ, List.getElem_cons_zero, List.setIfInBounds_toArray, List.set_cons_zero, List.set_cons_succ])
    refine wpAnyH_take (i := 22) (v := undef) rfl (by kernel_rfl) (by kernel_rfl) (by kernel_rfl) (fun _ _ _ h => h) (Or.inr ⟨by rfl, rfl⟩) (by assumption) ?_
    (try simp only [Act.put, List.getElem_toArray, List.getElem_cons_succ, List.getElem_cons_zero, List.setIfInBounds_toArray, List.set_cons_zero, List.set_cons_succ])
    refine wpAnyH_take (i := 23) (v := undef) rfl (by kernel_rfl) (by kernel_rfl) (by kernel_rfl) (fun _ _ _ h => h) (Or.inr ⟨by rfl, rfl⟩) (by assumption) ?_
    (try simp only [Act.put, List.getElem_toArray, List.getElem_cons_succ, List.getElem_cons_zero, List.setIfInBounds_toArray, List.set_cons_zero, List.set_cons_succ])
    refine wpAnyH_take (i := 24) (v := undef) rfl (by kernel_rfl) (by kernel_rfl) (by kernel_rfl) (fun _ _ _ h => h) (Or.inr ⟨by rfl, rfl⟩) (by assumption) ?_
    (try simp only [Act.put, List.getElem_toArray, List.getElem_cons_succ, List.getElem_cons_zero, List.setIfInBounds_toArray, List.set_cons_zero, List.set_cons_succ])
    refine wpAnyH_take (i := 25) (v := undef) rfl (by kernel_rfl) (by kernel_rfl) (by kernel_rfl) (fun _ _ _ h => h) (Or.inr ⟨by rfl, rfl⟩) (by assumption) ?_
    (try simp only [Act.put, List.getElem_toArray, List.getElem_cons_succ, List.getElem_cons_zero, List.setIfInBounds_toArray, List.set_cons_zero, List.set_cons_succ])
    refine wpAnyH_take (i := 26) (v := undef) rfl (by kernel_rfl) (by kernel_rfl) (by kernel_rfl) (fun _ _ _ h => h) (Or.inr ⟨by rfl, rfl⟩) (by assumption) ?_
    (try simp only [Act.put, List.getElem_toArray, List.getElem_cons_succ, List.getElem_cons_zero, List.setIfInBounds_toArray, List.set_cons_zero, List.set_cons_succ])
    refine wpAnyH_take (i := 27) (v := undef) rfl (by kernel_rfl) (by kernel_rfl) (by kernel_rfl) (fun _ _ _ h => h) (Or.inr ⟨by rfl, rfl⟩) (by assumption) ?_
    (try simp only [Act.put, List.getElem_toArray, List.getElem_cons_succ, List.getElem_cons_zero, List.setIfInBounds_toArray, List.set_cons_zero, List.set_cons_succ])
    refine wpAnyH_take (i := 28) (v := undef) rfl (by kernel_rfl) (by kernel_rfl) (by kernel_rfl) (fun _ _ _ h => h) (Or.inr ⟨by rfl, rfl⟩) (by assumption) ?_
    (try simp only [Act.put, List.getElem_toArray, List.getElem_cons_succ, List.getElem_cons_zero, List.setIfInBounds_toArray, List.set_cons_zero, List.set_cons_succ])
    refine wpAnyH_take (i := 29) (v := undef) rfl (by kernel_rfl) (by kernel_rfl) (by kernel_rfl) (fun _ _ _ h => h) (Or.inr ⟨by rfl, rfl⟩) (by assumption) ?_
    (try simp only [Act.put, List.getElem_toArray, List.getElem_cons_succ, List.getElem_cons_zero, List.setIfInBounds_toArray, List.set_cons_zero, List.set_cons_succ])
    refine wpAnyH_take (i := 30) (v := .bool false) rfl (by kernel_rfl) (by kernel_rfl) (by kernel_rfl) (fun _ _ _ h => h) (Or.inl ⟨by rfl, ?_⟩) (by assumption) ?_
    · intro wx hs1; go_simp
    (try simp only [Act.put, List.getElem_toArray, List.getElem_cons_succ, List.getElem_cons_zero, List.setIfInBounds_toArray, List.set_cons_zero, List.set_cons_succ])
    refine wpAnyH_take (i := 31) (v := .bool false) rfl (by kernel_rfl) (by kernel_rfl) (by kernel_rfl) (fun _ _ _ h => h) (Or.inl ⟨by rfl, ?_⟩) (by assumption) ?_
    · intro wx hs1; go_simp
    (try simp only [Act.put, List.getElem_toArray, List.getElem_cons_succ, List.getElem_cons_zero, List.setIfInBounds_toArray, List.set_cons_zero, List.set_cons_succ])
    refine wpAnyH_take (i := 32) (v := undef) rfl (by kernel_rfl) (by kernel_rfl) (by kernel_rfl) (fun _ _ _ h => h) (Or.inr ⟨by rfl, rfl⟩) (by assumption) ?_
    (try simp only [Act.put, List.getElem_toArray, List.getElem_cons_succ, List.getElem_cons_zero, List.setIfInBounds_toArray, List.set_cons_zero, List.set_cons_succ])
    refine wpAnyH_take (i := 33) (v := undef) rfl (by kernel_rfl) (by kernel_rfl) (by kernel_rfl) (fun _ _ _ h => h) (Or.inr ⟨by rfl, rfl⟩) (by assumption) ?_
    (try simp only [Act.put, List.getElem_toArray, List.getElem_cons_succ, List.getElem_cons_zero, List.setIfInBounds_toArray, List.set_cons_zero, List.set_cons_succ])
    refine wpAnyH_take (i := 34) (v := undef) rfl (by kernel_rfl) (by kernel_rfl) (by kernel_rfl) (fun _ _ _ h => h) (Or.inr ⟨by rfl, rfl⟩) (by assumption) ?_
    (try simp only [Act.put, List.getElem_toArray, List.getElem_cons_succ, List.getElem_cons_zero, List.setIfInBounds_toArray, List.set_cons_zero, List.set_cons_succ])
    refine wpAnyH_take (i := 35) (v := undef) rfl (by kernel_rfl) (by kernel_rfl) (by kernel_rfl) (fun _ _ _ h => h) (Or.inr ⟨by rfl, rfl⟩) (by assumption) ?_
    (try simp only [Act.put, List.getElem_toArray, List.getElem_cons_succ, List.getElem_cons_zero, List.setIfInBounds_toArray, List.set_cons_zero, List.set_cons_succ])
    refine wpAnyH_take (i := 36) (v := undef) rfl (by kernel_rfl) (by kernel_rfl) (by kernel_rfl) (fun _ _ _ h => h) (Or.inr ⟨by rfl, rfl⟩) (by assumption) ?_
    (try simp only [Act.put, List.getElem_toArray, List.getElem_cons_succ, List.getElem_cons_zero, List.setIfInBounds_toArray, List.set_cons_zero, List.set_cons_succ])
    refine wpAnyH_take (i := 37) (v := undef) rfl (by kernel_rfl) (by kernel_rfl) (by kernel_rfl) (fun _ _ _ h => h) (Or.inr ⟨by rfl, rfl⟩) (by assumption) ?_
    (try simp only [Act.put, List.getElem_toArray, List.getElem_cons_succ, List.getElem_cons_zero, List.setIfInBounds_toArray, List.set_cons_zero, List.set_cons_succ])
    refine wpAnyH_take (i := 38) (v := undef) rfl (by kernel_rfl) (by kernel_rfl) (by kernel_rfl) (fun _ _ _ h => h) (Or.inr ⟨by rfl, rfl⟩) (by assumption) ?_
    (try simp only [Act.put, List.getElem_toArray, List.getElem_cons_succ, List.getElem_cons_zero, List.setIfInBounds_toArray, List.set_cons_zero, List.set_cons_succ])
    refine wpAnyH_take (i := 39) (v := undef) rfl (by kernel_rfl) (by kernel_rfl) (by kernel_rfl) (fun _ _ _ h => h) (Or.inr ⟨by rfl, rfl⟩) (by assumption) ?_
    (try simp only [Act.put, List.getElem_toArray, List.getElem_cons_succ, List.getElem_cons_zero, List.setIfInBounds_toArray, List.set_cons_zero, List.set_cons_succ])
    refine wpAnyH_take (i := 40) (v := undef) rfl (by kernel_rfl) (by kernel_rfl) (by kernel_rfl) (fun _ _ _ h => h) (Or.inr ⟨by rfl, rfl⟩) (by assumption) ?_
    (try simp only [Act.put, List.getElem_toArray, List.getElem_cons_succ, List.getElem_cons_zero, List.setIfInBounds_toArray, List.set_cons_zero, List.set_cons_succ])
    refine wpAnyH_take (i := 41) (v := .bool false) rfl (by kernel_rfl) (by kernel_rfl) (by kernel_rfl) (fun _ _ _ h => h) (Or.inl ⟨by rfl, ?_⟩) (by assumption) ?_
    · intro wx hs1; go_simp
    (try simp only [Act.put, List.getElem_toArray, List.getElem_cons_succ, List.getElem_cons_zero, List.setIfInBounds_toArray, List.set_cons_zero, List.set_cons_succ])
    refine wpAnyH_take (i := 42) (v := .bool false) rfl (by kernel_rfl) (by kernel_rfl) (by kernel_rfl) (fun _ _ _ h => h) (Or.inl ⟨by rfl, ?_⟩) (by assumption) ?_
    · intro wx hs1; go_simp
    (try simp only [Act.put, List.getElem_toArray, List.getElem_cons_succ, List.getElem_cons_zero, List.setIfInBounds_toArray, List.set_cons_zero, List.set_cons_succ])
    refine wpAnyH_take (i := 43) (v := undef) rfl (by kernel_rfl) (by kernel_rfl) (by kernel_rfl) (fun _ _ _ h => h) (Or.inr ⟨by rfl, rfl⟩) (by assumption) ?_
    (try simp only [Act.put, List.getElem_toArray, List.getElem_cons_succ, List.getElem_cons_zero, List.setIfInBounds_toArray, List.set_cons_zero, List.set_cons_succ])
    refine wpAnyH_take (i := 44) (v := undef) rfl (by kernel_rfl) (by kernel_rfl) (by kernel_rfl) (fun _ _ _ h => h) (Or.inr ⟨by rfl, rfl⟩) (by assumption) ?_
    (try simp only [Act.put, List.getElem_toArray, List.getElem_cons_succ, List.getElem_cons_zero, List.setIfInBounds_toArray, List.set_cons_zero, List.set_cons_succ])
    refine wpAnyH_take (i := 45) (v := undef) rfl (by kernel_rfl) (by kernel_rfl) (by kernel_rfl) (fun _ _ _ h => h) (Or.inr ⟨by rfl, rfl⟩) (by assumption) ?_
    (try simp only [Act.put, List.getElem_toArray, List.getElem_cons_succ, List.getElem_cons_zero, List.setIfInBounds_toArray, List.set_cons_zero, List.set_cons_succ])
    refine wpAnyH_take (i := 46) (v := undef) rfl (by kernel_rfl) (by kernel_rfl) (by kernel_rfl) (fun _ _ _ h => h) (Or.inr ⟨by rfl, rfl⟩) (by assumption) ?_
    (try simp only [Act.put, List.getElem_toArray, List.getElem_cons_succ, List.getElem_cons_zero, List.setIfInBounds_toArray, List.set_cons_zero, List.set_cons_succ])
    refine wpAnyH_take (i := 47) (v := undef) rfl (by kernel_rfl) (by kernel_rfl) (by kernel_rfl) (fun _ _ _ h => h) (Or.inr ⟨by rfl, rfl⟩) (by assumption) ?_
    (try simp only [Act.put, List.getElem_toArray, List.getElem_cons_succ, List.getElem_cons_zero, List.setIfInBounds_toArray, List.set_cons_zero, List.set_cons_succ])
    refine wpAnyH_take (i := 48) (v := undef) rfl (by kernel_rfl) (by kernel_rfl) (by kernel_rfl) (fun _ _ _ h => h) (Or.inr ⟨by rfl, rfl⟩) (by assumption) ?_
    (try simp only [Act.put, List.getElem_toArray, List.getElem_cons_succ, List.getElem_cons_zero, List.setIfInBounds_toArray, List.set_cons_zero, List.set_cons_succ])
    refine wpAnyH_take (i := 49) (v := undef) rfl (by kernel_rfl) (by kernel_rfl) (by kernel_rfl) (fun _ _ _ h => h) (Or.inr ⟨by rfl, rfl⟩) (by assumption) ?_
    (try simp only [Act.put, List.getElem_toArray, List.getElem_cons_succ, List.getElem_cons_zero, List.setIfInBounds_toArray, List.set_cons_zero, List.set_cons_succ])
    refine wpAnyH_take (i := 50) (v := undef) rfl (by kernel_rfl) (by kernel_rfl) (by kernel_rfl) (fun _ _ _ h => h) (Or.inr ⟨by rfl, rfl⟩) (by assumption) ?_
    (try simp only [Act.put, List.getElem_toArray, List.getElem_cons_succ, List.getElem_cons_zero, List.setIfInBounds_toArray, List.set_cons_zero, List.set_cons_succ])
    refine wpAnyH_take (i := 51) (v := undef) rfl (by kernel_rfl) (by kernel_rfl) (by kernel_rfl) (fun _ _ _ h => h) (Or.inr ⟨by rfl, rfl⟩) (by assumption) ?_
    (try simp only [Act.put, List.getElem_toArray, List.getElem_cons_succ, List.getElem_cons_zero, List.setIfInBounds_toArray, List.set_cons_zero, List.set_cons_succ])
    refine wpAnyH_take (i := 52) (v := .bool false) rfl (by kernel_rfl) (by kernel_rfl) (by kernel_rfl) (fun _ _ _ h => h) (Or.inl ⟨by rfl, ?_⟩) (by assumption) ?_
    · intro wx hs1; go_simp
    (try simp only [Act.put, List.getElem_toArray, List.getElem_cons_succ, List.getElem_cons_zero, List.setIfInBounds_toArray, List.set_cons_zero, List.set_cons_succ])
    refine wpAnyH_take (i := 53) (v := .bool false) rfl (by kernel_rfl) (by kernel_rfl) (by kernel_rfl) (fun _ _ _ h => h) (Or.inl ⟨by rfl, ?_⟩) (by assumption) ?_
    · intro wx hs1; go_simp
    (try simp only [Act.put, List.getElem_toArray, List.getElem_cons_succ, List.getElem_cons_zero, List.setIfInBounds_toArray, List.set_cons_zero, List.set_cons_succ])
    refine wpAnyH_done (by kernel_rfl) ?_ _
    go_wp2
    go_ret
    exact ⟨rfl, HB0.out⟩
end Go.Proofs
namespace Go.Proofs
open Go Go.RowKit Sm Go.Lib Go.Maps Go.WideMaps
attribute [local go_sem] Oper.semAt_some
theorem Sm.sameN_no {N1 N2 : NM} (h : ¬ (N1.s.ends = N2.s.ends ∧ N1.s.most = N2.s.most ∧ N1.s.came = N2.s.came ∧ N1.P.length = N2.P.length ∧ N1.D.length = N2.D.length)) : sameN N1 N2 = false := by
  cases e : sameN N1 N2 with
  | false => rfl
  | true =>
    refine absurd ?_ h
    unfold sameN sameD at e
    simp only [Bool.and_eq_true, decide_eq_true_eq] at e
    exact ⟨e.1, e.2.1, e.2.2.1, by rw [e.2.2.2.2], e.2.2.2.1.1⟩
theorem Sm.sameN_P {N1 N2 : NM} (h : N1.P ≠ N2.P) : sameN N1 N2 = false := by
  unfold sameN
  rw [decide_eq_false h]
  simp
theorem Sm.sameN_D {N1 N2 : NM} {z : Int × Int} (hz : z ∈ N1.D) (h : z ∉ N2.D) : sameN N1 N2 = false := by
  unfold sameN
  rw [same_no hz (decide_eq_false h)]
  simp
theorem Sm.sameN_yes {N1 N2 : NM} (h1 : N1.s.ends = N2.s.ends) (h2 : N1.s.most = N2.s.most) (h3 : N1.s.came = N2.s.came) (h4 : N1.P = N2.P) (h5 : N1.D.length = N2.D.length) (h6 : ∀ z ∈ N1.D, z ∈ N2.D) : sameN N1 N2 = true := by
  unfold sameN sameD
  rw [decide_eq_true h1, decide_eq_true h2, decide_eq_true h3, decide_eq_true h4, decide_eq_true h5, (show N1.D.all (inD N2.D) = true from List.all_eq_true.2 (fun z hz => decide_eq_true (h6 z hz)))]
  rfl
set_option maxRecDepth 100000 in
set_option maxHeartbeats 8000000 in
theorem Sm.refSame_any {S1 S2 : Nat → Prop} {N1 N2 : NM} {AL1 AD1 AL2 AD2 : Option Addr} {nL1 cL1 nD1 cD1 nL2 cL2 nD2 cD2 : Nat} {Q1 Q2 : List MsgM} (w : World) (h1 : RfAt S1 w N1 AL1 nL1 cL1 AD1 nD1 cD1 Q1) (h2 : RfAt S2 w N2 AL2 nL2 cL2 AD2 nD2 cD2 Q2) :
    Calls Try.prog 30 #[refV N1.s AL1 nL1 cL1 AD1 nD1 cD1, refV N2.s AL2 nL2 cL2 AD2 nD2 cD2] w fun e w' => e = .returned (.bool (sameN N1 N2)) ∧ Below w.heap.size w w' := by
  unfold refV
  obtain ⟨W2, hW2⟩ : ∃ V, (w.alloc (.cells #[.int .i64 N1.s.ends, .int .i64 N1.s.most, .int .i64 N1.s.came, .slice AL1 nL1 cL1, .slice AD1 nD1 cD1] 29)).alloc (.cells #[.int .i64 N2.s.ends, .int .i64 N2.s.most, .int .i64 N2.s.came, .slice AL2 nL2 cL2, .slice AD2 nD2 cD2] 29) = V := ⟨_, rfl⟩
  have hb2 : Below w.heap.size w W2 := by rw [← hW2]; exact bel2 w _ _
  have hx : W2.heap[w.heap.size]? = some (.cells #[.int .i64 N1.s.ends, .int .i64 N1.s.most, .int .i64 N1.s.came, .slice AL1 nL1 cL1, .slice AD1 nD1 cD1] 29 (0, 0)) := by rw [← hW2]; exact old_alloc _ (new_alloc _ rfl)
  have hy : W2.heap[w.heap.size + 1]? = some (.cells #[.int .i64 N2.s.ends, .int .i64 N2.s.most, .int .i64 N2.s.came, .slice AL2 nL2 cL2, .slice AD2 nD2 cD2] 29 (0, 0)) := by rw [← hW2]; exact new_alloc _ (by simp)
  have k1 := h1.keep hb2
  have k2 := h2.keep hb2
  have hl1 : N1.P.length = nL1 := by rw [← h1.map, List.length_map, h1.len]
  have hl2 : N2.P.length = nL2 := by rw [← h2.map, List.length_map, h2.len]
  have hd1 := h1.dlen
  have hd2 := h2.dlen
  have hf1 := h1.few
  have hf2 := h2.few
  obtain ⟨e1, he1⟩ : ∃ a, N1.s.ends = a := ⟨_, rfl⟩
  obtain ⟨m1, hm1⟩ : ∃ a, N1.s.most = a := ⟨_, rfl⟩
  obtain ⟨c1, hc1⟩ : ∃ a, N1.s.came = a := ⟨_, rfl⟩
  obtain ⟨e2, he2⟩ : ∃ a, N2.s.ends = a := ⟨_, rfl⟩
  obtain ⟨m2, hm2⟩ : ∃ a, N2.s.most = a := ⟨_, rfl⟩
  obtain ⟨c2, hc2⟩ : ∃ a, N2.s.came = a := ⟨_, rfl⟩
  have hno := @sameN_no N1 N2
  rw [he1, hm1, hc1, he2, hm2, hc2, hl1, hl2, hd1, hd2] at hno
  rw [he1, hm1, hc1] at hW2 hx ⊢
  rw [he2, hm2, hc2] at hW2 hy ⊢
  obtain ⟨res, hres⟩ : ∃ r, sameN N1 N2 = r := ⟨_, rfl⟩
  rw [hres]
  have HRES := Lib.hid hres
  have HNO := Lib.hid hno
  have HB := Lib.hid hb2
  have HX2 := Lib.hid hx
  have HY2 := Lib.hid hy
  have HK1 := Lib.hid k1
  have HK2 := Lib.hid k2
  have HEQ := Lib.hid (And.intro he1 (And.intro hm1 (And.intro hc1 (And.intro he2 (And.intro hm2 hc2)))))
  obtain ⟨⟨x0, x1, x2, x3, x4⟩, _⟩ := five_cells hx
  obtain ⟨⟨y0, y1, y2, y3, y4⟩, _⟩ := five_cells hy
  have hfI : (nL1 : Int) ≤ 4096 ∧ (nD1 : Int) ≤ 4096 ∧ (nL2 : Int) ≤ 4096 ∧ (nD2 : Int) ≤ 4096 := by omega
  have HL := Lib.hid (And.intro hl1 hl2)
  have HD := Lib.hid (And.intro hd1 hd2)
  clear h1 h2 hb2 hx hy k1 k2 hres hno he1 hm1 hc1 he2 hm2 hc2 hl1 hl2 hd1 hd2 hf1 hf2
  by_cases g1 : e1 = e2
  · have g1b : (e1 != e2) = false := by simpa using g1
    by_cases g2 : m1 = m2
    · have g2b : (m1 != m2) = false := by simpa using g2
      by_cases g3 : c1 = c2
      · have g3b : (c1 != c2) = false := by simpa using g3
        by_cases g4 : nL1 = nL2
        · subst g4
          by_cases g5 : nD1 = nD2
          · subst g5
            have HG := Lib.hid (And.intro g1 (And.intro g2 g3))
            clear g1 g2 g3
            have HB0 : Hid (Below W2.heap.size W2 W2) := Lib.hid (Below.refl _ _)
            have HT0 : Hid (N1.P.take 0 = N2.P.take 0) := Lib.hid rfl
            go_enter Try.func30, Try.ntmps30
            go_wp2
            try rw [hW2]
            clear hW2
            go_loopw [5] (fun v5 wr => ∃ k : Nat, k ≤ nL1 ∧ v5 = .int .i64 (k : Int) ∧ Hid (Below W2.heap.size W2 wr) ∧ Hid (N1.P.take k = N2.P.take k)) (fun v5 _ => nL1 - (RowKit.intOf v5).toNat)
            case atStart => exact ⟨0, Nat.zero_le _, rfl, HB0, HT0⟩
            case round =>
              obtain ⟨wo, rfl⟩ : ∃ wo : World, wo = wr := ⟨_, rfl⟩
              obtain ⟨k, hk, rfl, HBo, HT⟩ := hrel
              clear HB0 HT0 x0 x1 x2 x3 x4 y0 y1 y2 y3 y4
              have hxo := (HBo.out.block _ (Array.getElem?_eq_some_iff.1 HX2.out).1).trans HX2.out
              have hyo := (HBo.out.block _ (Array.getElem?_eq_some_iff.1 HY2.out).1).trans HY2.out
              have hltx := (Array.getElem?_eq_some_iff.1 hxo).1
              have hlty := (Array.getElem?_eq_some_iff.1 hyo).1
              have q1 := HK1.out.keep HBo.out
              have q2 := HK2.out.keep HBo.out
              obtain ⟨⟨x0, x1, x2, x3, x4⟩, _⟩ := five_cells hxo
              obtain ⟨⟨y0, y1, y2, y3, y4⟩, _⟩ := five_cells hyo
              by_cases hlt : k < nL1
              · have hkI : (k : Int) < (nL1 : Int) := by omega
                obtain ⟨r1, hr1⟩ : ∃ m, Q1[k]? = some m := ⟨_, List.getElem?_eq_getElem (by rw [q1.len]; exact hlt)⟩
                obtain ⟨r2, hr2⟩ : ∃ m, Q2[k]? = some m := ⟨_, List.getElem?_eq_getElem (by rw [q2.len]; exact hlt)⟩
                obtain ⟨b1, o1, hA1, hbl1, _, hcl1⟩ := q1.row (by rw [cellsM_len, q1.len]; omega)
                obtain ⟨b2, o2, hA2, hbl2, _, hcl2⟩ := q2.row (by rw [cellsM_len, q2.len]; omega)
                have hc1 := cellsM_at Q1 k r1 hr1
                have hc2 := cellsM_at Q2 k r2 hr2
                have s0 := hcl1 (k * 4) _ hc1.1
                have s1 := hcl1 (k * 4 + 1) _ hc1.2.1
                have s2 := hcl1 (k * 4 + 2) _ hc1.2.2.1
                have s3 := hcl1 (k * 4 + 3) _ hc1.2.2.2
                have u0 := hcl2 (k * 4) _ hc2.1
                have u1 := hcl2 (k * 4 + 1) _ hc2.2.1
                have u2 := hcl2 (k * 4 + 2) _ hc2.2.2.1
                have u3 := hcl2 (k * 4 + 3) _ hc2.2.2.2
                unfold MsgM.sl at s3 u3
                rw [← Nat.add_assoc] at s1 s2 s3 u1 u2 u3
                have HR1 : Hid (∀ Wx, Below wo.heap.size wo Wx → Wx.cell? ⟨b1, o1 + k * 4, none⟩ = some (.int .i64 r1.num) ∧ Wx.cell? ⟨b1, o1 + k * 4 + 1, none⟩ = some (.int .i64 r1.src) ∧ Wx.cell? ⟨b1, o1 + k * 4 + 2, none⟩ = some (.int .i64 r1.dst) ∧ Wx.cell? ⟨b1, o1 + k * 4 + 3, none⟩ = some (.slice r1.A r1.bytes.length r1.c)) := Lib.hid fun Wx hb =>
                  ⟨(hb.cell (p := ⟨b1, o1 + k * 4, none⟩) hbl1).trans s0, (hb.cell (p := ⟨b1, o1 + k * 4 + 1, none⟩) hbl1).trans s1, (hb.cell (p := ⟨b1, o1 + k * 4 + 2, none⟩) hbl1).trans s2, (hb.cell (p := ⟨b1, o1 + k * 4 + 3, none⟩) hbl1).trans s3⟩
                have HR2 : Hid (∀ Wx, Below wo.heap.size wo Wx → Wx.cell? ⟨b2, o2 + k * 4, none⟩ = some (.int .i64 r2.num) ∧ Wx.cell? ⟨b2, o2 + k * 4 + 1, none⟩ = some (.int .i64 r2.src) ∧ Wx.cell? ⟨b2, o2 + k * 4 + 2, none⟩ = some (.int .i64 r2.dst) ∧ Wx.cell? ⟨b2, o2 + k * 4 + 3, none⟩ = some (.slice r2.A r2.bytes.length r2.c)) := Lib.hid fun Wx hb =>
                  ⟨(hb.cell (p := ⟨b2, o2 + k * 4, none⟩) hbl2).trans u0, (hb.cell (p := ⟨b2, o2 + k * 4 + 1, none⟩) hbl2).trans u1, (hb.cell (p := ⟨b2, o2 + k * 4 + 2, none⟩) hbl2).trans u2, (hb.cell (p := ⟨b2, o2 + k * 4 + 3, none⟩) hbl2).trans u3⟩
                have hxo' := hxo
                have hyo' := hyo
                rw [hA1] at hxo' x3
                rw [hA2] at hyo' y3
                have HX : Hid (∀ Wx, Below wo.heap.size wo Wx → Wx.heap[w.heap.size]? = some (.cells #[.int .i64 e1, .int .i64 m1, .int .i64 c1, .slice (some ⟨b1, o1, none⟩) nL1 cL1, .slice AD1 nD1 cD1] 29 (0, 0))) := Lib.hid fun Wx hb => (hb.block _ hltx).trans hxo'
                have HY : Hid (∀ Wx, Below wo.heap.size wo Wx → Wx.heap[w.heap.size + 1]? = some (.cells #[.int .i64 e2, .int .i64 m2, .int .i64 c2, .slice (some ⟨b2, o2, none⟩) nL1 cL2, .slice AD2 nD1 cD2] 29 (0, 0))) := Lib.hid fun Wx hb => (hb.block _ hlty).trans hyo'
                have hy1 := q1.byt r1 (List.mem_of_getElem? hr1)
                have hy2 := q2.byt r2 (List.mem_of_getElem? hr2)
                have hdd : decide (r1.num = r2.num ∧ r1.src = r2.src ∧ r1.dst = r2.dst ∧ r1.bytes = r2.bytes) = decide (r1.d = r2.d) := by
                  refine decide_eq_decide.2 ?_
                  unfold MsgM.d
                  rw [Prod.mk.injEq, Prod.mk.injEq, Prod.mk.injEq]
                obtain ⟨t, ht⟩ : ∃ t, decide (r1.d = r2.d) = t := ⟨_, rfl⟩
                rw [ht] at hdd
                have H28 : Hid (∀ Wx, Below wo.heap.size wo Wx → Calls Try.prog 28 #[.agg #[.int .i64 r1.num, .int .i64 r1.src, .int .i64 r1.dst, .slice r1.A r1.bytes.length r1.c], .agg #[.int .i64 r2.num, .int .i64 r2.src, .int .i64 r2.dst, .slice r2.A r2.bytes.length r2.c]] Wx fun e w' => e = .returned (.bool t) ∧ Below Wx.heap.size Wx w') := Lib.hid fun Wx hb => by
                  have h9 := sameP_any r1.num r1.src r1.dst r2.num r2.src r2.dst r1.bytes r2.bytes r1.A r2.A r1.bytes.length r1.c r2.bytes.length r2.c Wx rfl rfl (hy1.but (But.of_all hb (fun _ => False)) (fun _ e => e.elim)).rd (hy2.but (But.of_all hb (fun _ => False)) (fun _ e => e.elim)).rd
                  rw [hdd] at h9
                  exact h9
                have hp1 : N1.P[k]? = some r1.d := by rw [← q1.map, List.getElem?_map, hr1]; rfl
                have hp2 : N2.P[k]? = some r2.d := by rw [← q2.map, List.getElem?_map, hr2]; rfl
                have HP1 := Lib.hid hp1
                have HP2 := Lib.hid hp2
                have HTT := Lib.hid ht
                clear hp1 hp2 ht hdd hy1 hy2 hxo hyo hxo' hyo' s0 s1 s2 s3 u0 u1 u2 u3 hc1 hc2 hcl1 hcl2 hbl1 hbl2 hA1 hA2 hr1 hr2 q1 q2
                cases t with
                | true =>
                  go_upto_region 6 with fail
                  clear x0 x1 x2 x3 x4 y0 y1 y2 y3 y4
                  have hS0 : (fun W => Below wo.heap.size wo W) wo.drew := (Below.refl _ _).drew
                  refine wp_region_held_drew (S := fun W => Below wo.heap.size wo W) rfl hS0 (fun hHeld => ?_)
                  simp only [List.size_toArray, List.length_cons, List.length_nil, Nat.reduceAdd]
                  have HB0 : Hid (Below wo.heap.size wo wo.drew) := Lib.hid (Below.refl _ _).drew
                  obtain ⟨V0, hV0⟩ : ∃ V, wo.drew = V := ⟨_, rfl⟩
                  rw [hV0] at hHeld hS0 HB0 ⊢
                  clear hV0
                  refine wpAnyH_take (i := 0) (v := .pointer (some ⟨w.heap.size, 3, none⟩)) rfl (by kernel_rfl) (by kernel_rfl) (by kernel_rfl) (fun _ _ _ h => h) (Or.inl ⟨by rfl, ?_⟩) (by assumption) ?_
                  · intro wx hs1; go_simp
                  (try simp only [Act.put, List.getElem_toArray, List.getElem_cons_zero, List.setIfInBounds_toArray, List.set_cons_zero, List.set_cons_succ])
                  refine wpAnyH_take (i := 1) (v := .slice (some ⟨b1, o1, none⟩) nL1 cL1) rfl (by kernel_rfl) (by kernel_rfl) (by kernel_rfl) (fun _ _ _ h => h) (Or.inl ⟨by rfl, ?_⟩) (by assumption) ?_
                  · intro wx hs1; obtain ⟨k0, k1, k2, k3, k4⟩ := (five_cells (HX.out wx hs1)).1; go_simp
                  (try simp only [Act.put, List.getElem_toArray, List.getElem_cons_succ, List.getElem_cons_zero, List.setIfInBounds_toArray, List.set_cons_zero, List.set_cons_succ])
                  refine wpAnyH_take (i := 2) (v := .int .i64 (k : Int)) rfl (by kernel_rfl) (by kernel_rfl) (by kernel_rfl) (fun _ _ _ h => h) (Or.inl ⟨by rfl, ?_⟩) (by assumption) ?_
                  · intro wx hs1; go_simp
                  (try simp only [Act.put, List.getElem_toArray, List.getElem_cons_succ, List.getElem_cons_zero, List.setIfInBounds_toArray, List.set_cons_zero, List.set_cons_succ])
                  refine wpAnyH_take (i := 3) (v := .pointer (some ⟨b1, o1 + k * 4, none⟩)) rfl (by kernel_rfl) (by kernel_rfl) (by kernel_rfl) (fun _ _ _ h => h) (Or.inl ⟨by rfl, ?_⟩) (by assumption) ?_
                  · intro wx hs1; go_simp
                  (try simp only [Act.put, List.getElem_toArray, List.getElem_cons_succ, List.getElem_cons_zero, List.setIfInBounds_toArray, List.set_cons_zero, List.set_cons_succ])
                  refine wpAnyH_take (i := 4) (v := .agg #[.int .i64 r1.num, .int .i64 r1.src, .int .i64 r1.dst, .slice r1.A r1.bytes.length r1.c]) rfl (by kernel_rfl) (by kernel_rfl) (by kernel_rfl) (fun _ _ _ h => h) (Or.inl ⟨by rfl, ?_⟩) (by assumption) ?_
                  · intro wx hs1; obtain ⟨k0, k1, k2, k3⟩ := HR1.out wx hs1; go_simp
                  (try simp only [Act.put, List.getElem_toArray, List.getElem_cons_succ, List.getElem_cons_zero, List.setIfInBounds_toArray, List.set_cons_zero, List.set_cons_succ])
                  refine wpAnyH_take (i := 5) (v := .pointer (some ⟨w.heap.size + 1, 3, none⟩)) rfl (by kernel_rfl) (by kernel_rfl) (by kernel_rfl) (fun _ _ _ h => h) (Or.inl ⟨by rfl, ?_⟩) (by assumption) ?_
                  · intro wx hs1; go_simp
                  (try simp only [Act.put, List.getElem_toArray, List.getElem_cons_succ, List.getElem_cons_zero, List.setIfInBounds_toArray, List.set_cons_zero, List.set_cons_succ])
                  refine wpAnyH_take (i := 6) (v := .slice (some ⟨b2, o2, none⟩) nL1 cL2) rfl (by kernel_rfl) (by kernel_rfl) (by kernel_rfl) (fun _ _ _ h => h) (Or.inl ⟨by rfl, ?_⟩) (by assumption) ?_
                  · intro wx hs1; obtain ⟨k0, k1, k2, k3, k4⟩ := (five_cells (HY.out wx hs1)).1; go_simp
                  (try simp only [Act.put, List.getElem_toArray, List.getElem_cons_succ, List.getElem_cons_zero, List.setIfInBounds_toArray, List.set_cons_zero, List.set_cons_succ])
                  refine wpAnyH_take (i := 7) (v := .int .i64 (k : Int)) rfl (by kernel_rfl) (by kernel_rfl) (by kernel_rfl) (fun _ _ _ h => h) (Or.inl ⟨by rfl, ?_⟩) (by assumption) ?_
                  · intro wx hs1; go_simp
                  (try simp only [Act.put, List.getElem_toArray, List.getElem_cons_succ, List.getElem_cons_zero, List.setIfInBounds_toArray, List.set_cons_zero, List.set_cons_succ])
                  refine wpAnyH_take (i := 8) (v := .pointer (some ⟨b2, o2 + k * 4, none⟩)) rfl (by kernel_rfl) (by kernel_rfl) (by kernel_rfl) (fun _ _ _ h => h) (Or.inl ⟨by rfl, ?_⟩) (by assumption) ?_
                  · intro wx hs1; go_simp
                  (try simp only [Act.put, List.getElem_toArray, List.getElem_cons_succ, List.getElem_cons_zero, List.setIfInBounds_toArray, List.set_cons_zero, List.set_cons_succ])
                  refine wpAnyH_take (i := 9) (v := .agg #[.int .i64 r2.num, .int .i64 r2.src, .int .i64 r2.dst, .slice r2.A r2.bytes.length r2.c]) rfl (by kernel_rfl) (by kernel_rfl) (by kernel_rfl) (fun _ _ _ h => h) (Or.inl ⟨by rfl, ?_⟩) (by assumption) ?_
                  · intro wx hs1; obtain ⟨k0, k1, k2, k3⟩ := HR2.out wx hs1; go_simp
                  (try simp only [Act.put, List.getElem_toArray, List.getElem_cons_succ, List.getElem_cons_zero, List.setIfInBounds_toArray, List.set_cons_zero, List.set_cons_succ])
                  refine wpAnyH_ready (rs := [10]) (by kernel_rfl) (by simp) (AllReadyH.cons rfl (fun K hK => ?_) AllReadyH.nil)
                  go_simp
                  go_at_call 28
                  (with_reducible refine (H28.out _ HB0.out).mono ?_)
                  rintro e w3 ⟨rfl, hb⟩
                  try dsimp only
                  have HB1 : Hid (Below wo.heap.size wo w3) := Lib.hid (HB0.out.trans (hb.mono HB0.out.size)); clear hb; have hS := HB1.out
                  refine hK.out _ _ hS (fun _ => ?_)
                  clear hK K
                  (try simp only [Act.put, List.getElem_toArray, List.getElem_cons_succ, List.getElem_cons_zero, List.setIfInBounds_toArray, List.set_cons_zero, List.set_cons_succ])
                  refine wpAnyH_take (i := 11) (v := .bool false) rfl (by kernel_rfl) (by kernel_rfl) (by kernel_rfl) (fun _ _ _ h => h) (Or.inl ⟨by rfl, ?_⟩) (by assumption) ?_
                  · intro wx hs1; go_simp
                  (try simp only [Act.put, List.getElem_toArray, List.getElem_cons_succ, List.getElem_cons_zero, List.setIfInBounds_toArray, List.set_cons_zero, List.set_cons_succ])
                  refine wpAnyH_done (by kernel_rfl) ?_ _
                  have HB3 := Lib.hid (HBo.out.trans (HB1.out.mono HBo.out.size))
                  have HT3 := Lib.hid (take_same HP1.out HP2.out HT.out (of_decide_eq_true HTT.out))
                  go_wp2
                  go_roundw
                  case rel => exact ⟨k + 1, by omega, by go_num, HB3, HT3⟩
                  case measure => simp [RowKit.intOf]; omega
                | false =>
                  go_upto_region 6 with fail
                  clear x0 x1 x2 x3 x4 y0 y1 y2 y3 y4
                  have hS0 : (fun W => Below wo.heap.size wo W) wo.drew := (Below.refl _ _).drew
                  refine wp_region_held_drew (S := fun W => Below wo.heap.size wo W) rfl hS0 (fun hHeld => ?_)
                  simp only [List.size_toArray, List.length_cons, List.length_nil, Nat.reduceAdd]
                  have HB0 : Hid (Below wo.heap.size wo wo.drew) := Lib.hid (Below.refl _ _).drew
                  obtain ⟨V0, hV0⟩ : ∃ V, wo.drew = V := ⟨_, rfl⟩
                  rw [hV0] at hHeld hS0 HB0 ⊢
                  clear hV0
                  refine wpAnyH_take (i := 0) (v := .pointer (some ⟨w.heap.size, 3, none⟩)) rfl (by kernel_rfl) (by kernel_rfl) (by kernel_rfl) (fun _ _ _ h => h) (Or.inl ⟨by rfl, ?_⟩) (by assumption) ?_
                  · intro wx hs1; go_simp
                  (try simp only [Act.put, List.getElem_toArray, List.getElem_cons_zero, List.setIfInBounds_toArray, List.set_cons_zero, List.set_cons_succ])
                  refine wpAnyH_take (i := 1) (v := .slice (some ⟨b1, o1, none⟩) nL1 cL1) rfl (by kernel_rfl) (by kernel_rfl) (by kernel_rfl) (fun _ _ _ h => h) (Or.inl ⟨by rfl, ?_⟩) (by assumption) ?_
                  · intro wx hs1; obtain ⟨k0, k1, k2, k3, k4⟩ := (five_cells (HX.out wx hs1)).1; go_simp
                  (try simp only [Act.put, List.getElem_toArray, List.getElem_cons_succ, List.getElem_cons_zero, List.setIfInBounds_toArray, List.set_cons_zero, List.set_cons_succ])
                  refine wpAnyH_take (i := 2) (v := .int .i64 (k : Int)) rfl (by kernel_rfl) (by kernel_rfl) (by kernel_rfl) (fun _ _ _ h => h) (Or.inl ⟨by rfl, ?_⟩) (by assumption) ?_
                  · intro wx hs1; go_simp
                  (try simp only [Act.put, List.getElem_toArray, List.getElem_cons_succ, List.getElem_cons_zero, List.setIfInBounds_toArray, List.set_cons_zero, List.set_cons_succ])
                  refine wpAnyH_take (i := 3) (v := .pointer (some ⟨b1, o1 + k * 4, none⟩)) rfl (by kernel_rfl) (by kernel_rfl) (by kernel_rfl) (fun _ _ _ h => h) (Or.inl ⟨by rfl, ?_⟩) (by assumption) ?_
                  · intro wx hs1; go_simp
                  (try simp only [Act.put, List.getElem_toArray, List.getElem_cons_succ, List.getElem_cons_zero, List.setIfInBounds_toArray, List.set_cons_zero, List.set_cons_succ])
                  refine wpAnyH_take (i := 4) (v := .agg #[.int .i64 r1.num, .int .i64 r1.src, .int .i64 r1.dst, .slice r1.A r1.bytes.length r1.c]) rfl (by kernel_rfl) (by kernel_rfl) (by kernel_rfl) (fun _ _ _ h => h) (Or.inl ⟨by rfl, ?_⟩) (by assumption) ?_
                  · intro wx hs1; obtain ⟨k0, k1, k2, k3⟩ := HR1.out wx hs1; go_simp
                  (try simp only [Act.put, List.getElem_toArray, List.getElem_cons_succ, List.getElem_cons_zero, List.setIfInBounds_toArray, List.set_cons_zero, List.set_cons_succ])
                  refine wpAnyH_take (i := 5) (v := .pointer (some ⟨w.heap.size + 1, 3, none⟩)) rfl (by kernel_rfl) (by kernel_rfl) (by kernel_rfl) (fun _ _ _ h => h) (Or.inl ⟨by rfl, ?_⟩) (by assumption) ?_
                  · intro wx hs1; go_simp
                  (try simp only [Act.put, List.getElem_toArray, List.getElem_cons_succ, List.getElem_cons_zero, List.setIfInBounds_toArray, List.set_cons_zero, List.set_cons_succ])
                  refine wpAnyH_take (i := 6) (v := .slice (some ⟨b2, o2, none⟩) nL1 cL2) rfl (by kernel_rfl) (by kernel_rfl) (by kernel_rfl) (fun _ _ _ h => h) (Or.inl ⟨by rfl, ?_⟩) (by assumption) ?_
                  · intro wx hs1; obtain ⟨k0, k1, k2, k3, k4⟩ := (five_cells (HY.out wx hs1)).1; go_simp
                  (try simp only [Act.put, List.getElem_toArray, List.getElem_cons_succ, List.getElem_cons_zero, List.setIfInBounds_toArray, List.set_cons_zero, List.set_cons_succ])
                  refine wpAnyH_take (i := 7) (v := .int .i64 (k : Int)) rfl (by kernel_rfl) (by kernel_rfl) (by kernel_rfl) (fun _ _ _ h => h) (Or.inl ⟨by rfl, ?_⟩) (by assumption) ?_
                  · intro wx hs1; go_simp
                  (try simp only [Act.put, List.getElem_toArray, List.getElem_cons_succ, List.getElem_cons_zero, List.setIfInBounds_toArray, List.set_cons_zero, List.set_cons_succ])
                  refine wpAnyH_take (i := 8) (v := .pointer (some ⟨b2, o2 + k * 4, none⟩)) rfl (by kernel_rfl) (by kernel_rfl) (by kernel_rfl) (fun _ _ _ h => h) (Or.inl ⟨by rfl, ?_⟩) (by assumption) ?_
                  · intro wx hs1; go_simp
                  (try simp only [Act.put, List.getElem_toArray, List.getElem_cons_succ, List.getElem_cons_zero, List.setIfInBounds_toArray, List.set_cons_zero, List.set_cons_succ])
                  refine wpAnyH_take (i := 9) (v := .agg #[.int .i64 r2.num, .int .i64 r2.src, .int .i64 r2.dst, .slice r2.A r2.bytes.length r2.c]) rfl (by kernel_rfl) (by kernel_rfl) (by kernel_rfl) (fun _ _ _ h => h) (Or.inl ⟨by rfl, ?_⟩) (by assumption) ?_
                  · intro wx hs1; obtain ⟨k0, k1, k2, k3⟩ := HR2.out wx hs1; go_simp
                  (try simp only [Act.put, List.getElem_toArray, List.getElem_cons_succ, List.getElem_cons_zero, List.setIfInBounds_toArray, List.set_cons_zero, List.set_cons_succ])
                  refine wpAnyH_ready (rs := [10]) (by kernel_rfl) (by simp) (AllReadyH.cons rfl (fun K hK => ?_) AllReadyH.nil)
                  go_simp
                  go_at_call 28
                  (with_reducible refine (H28.out _ HB0.out).mono ?_)
                  rintro e w3 ⟨rfl, hb⟩
                  try dsimp only
                  have HB1 : Hid (Below wo.heap.size wo w3) := Lib.hid (HB0.out.trans (hb.mono HB0.out.size)); clear hb; have hS := HB1.out
                  refine hK.out _ _ hS (fun _ => ?_)
                  clear hK K
                  (try simp only [Act.put, List.getElem_toArray, List.getElem_cons_succ, List.getElem_cons_zero, List.setIfInBounds_toArray, List.set_cons_zero, List.set_cons_succ])
                  refine wpAnyH_take (i := 11) (v := .bool true) rfl (by kernel_rfl) (by kernel_rfl) (by kernel_rfl) (fun _ _ _ h => h) (Or.inl ⟨by rfl, ?_⟩) (by assumption) ?_
                  · intro wx hs1; go_simp
                  (try simp only [Act.put, List.getElem_toArray, List.getElem_cons_succ, List.getElem_cons_zero, List.setIfInBounds_toArray, List.set_cons_zero, List.set_cons_succ])
                  refine wpAnyH_done (by kernel_rfl) ?_ _
                  go_wp2
                  go_ret
                  refine ⟨?_, HB.out.trans ((HBo.out.trans (HB1.out.mono HBo.out.size)).mono HB.out.size)⟩
                  rw [← HRES.out, sameN_P (fun e => of_decide_eq_false HTT.out (by
                    have h8 := HP1.out
                    rw [e, HP2.out] at h8
                    exact (Option.some.inj h8).symm))]
                  rfl
              · obtain rfl : k = nL1 := by omega
                have HPP : Hid (N1.P = N2.P) := Lib.hid (by
                  have h8 := HT.out
                  rw [List.take_of_length_le (by rw [HL.out.1]; exact Nat.le_refl _), List.take_of_length_le (by rw [HL.out.2]; exact Nat.le_refl _)] at h8
                  exact h8)
                have HS0 : Hid (∀ z ∈ N1.D.take 0, z ∈ N2.D) := Lib.hid (fun z hz => by simp at hz)
                clear HT q1 q2
                go_wp2
                go_loopw [6] (fun v6 wr => ∃ j : Nat, j ≤ nD1 ∧ v6 = .int .i64 (j : Int) ∧ Hid (Below W2.heap.size W2 wr) ∧ Hid (∀ z ∈ N1.D.take j, z ∈ N2.D)) (fun v6 _ => nD1 - (RowKit.intOf v6).toNat)
                case atStart => exact ⟨0, Nat.zero_le _, rfl, HBo, HS0⟩
                case round =>
                  clear HBo HS0 x0 x1 x2 x3 x4 y0 y1 y2 y3 y4 hxo hyo hltx hlty
                  obtain ⟨wo, rfl⟩ : ∃ wo : World, wo = wr := ⟨_, rfl⟩
                  obtain ⟨j, hj, rfl, HBo, HS⟩ := hrel
                  have hxo := (HBo.out.block _ (Array.getElem?_eq_some_iff.1 HX2.out).1).trans HX2.out
                  have hyo := (HBo.out.block _ (Array.getElem?_eq_some_iff.1 HY2.out).1).trans HY2.out
                  have hltx := (Array.getElem?_eq_some_iff.1 hxo).1
                  have hlty := (Array.getElem?_eq_some_iff.1 hyo).1
                  have q1 := HK1.out.keep HBo.out
                  have q2 := HK2.out.keep HBo.out
                  obtain ⟨⟨x0, x1, x2, x3, x4⟩, _⟩ := five_cells hxo
                  by_cases hlt2 : j < nD1
                  · have hkI : (j : Int) < (nD1 : Int) := by omega
                    obtain ⟨⟨za, zb⟩, hz⟩ : ∃ z, N1.D[j]? = some z := ⟨_, List.getElem?_eq_getElem (by rw [HD.out.1]; exact hlt2)⟩
                    obtain ⟨b1, o1, hA1, hbl1, _, hcl1⟩ := q1.dn (by rw [cellsD_len, HD.out.1]; omega)
                    have hc1 := cellsD_at N1.D j _ hz
                    have s0 := hcl1 (j * 2) _ hc1.1
                    have s1 := hcl1 (j * 2 + 1) _ hc1.2
                    rw [← Nat.add_assoc] at s1
                    simp only at s0 s1
                    have HZ : Hid (∀ Wx, Below wo.heap.size wo Wx → Wx.cell? ⟨b1, o1 + j * 2, none⟩ = some (.int .i64 za) ∧ Wx.cell? ⟨b1, o1 + j * 2 + 1, none⟩ = some (.int .i64 zb)) := Lib.hid fun Wx hb => ⟨(hb.cell (p := ⟨b1, o1 + j * 2, none⟩) hbl1).trans s0, (hb.cell (p := ⟨b1, o1 + j * 2 + 1, none⟩) hbl1).trans s1⟩
                    have hxo' := hxo
                    rw [hA1] at hxo' x4
                    have HX : Hid (∀ Wx, Below wo.heap.size wo Wx → Wx.heap[w.heap.size]? = some (.cells #[.int .i64 e1, .int .i64 m1, .int .i64 c1, .slice AL1 k cL1, .slice (some ⟨b1, o1, none⟩) nD1 cD1] 29 (0, 0))) := Lib.hid fun Wx hb => (hb.block _ hltx).trans hxo'
                    have HY : Hid (∀ Wx, Below wo.heap.size wo Wx → Wx.heap[w.heap.size + 1]? = some (.cells #[.int .i64 e2, .int .i64 m2, .int .i64 c2, .slice AL2 k cL2, .slice AD2 nD1 cD2] 29 (0, 0))) := Lib.hid fun Wx hb => (hb.block _ hlty).trans hyo
                    obtain ⟨t, ht⟩ : ∃ t, decide ((za, zb) ∈ N2.D) = t := ⟨_, rfl⟩
                    have H25 : Hid (∀ Wx, Below wo.heap.size wo Wx → Calls Try.prog 25 #[.agg #[.int .i64 e2, .int .i64 m2, .int .i64 c2, .slice AL2 k cL2, .slice AD2 nD1 cD2], .int .i64 za, .int .i64 zb] Wx fun e w' => e = .returned (.bool t) ∧ Below Wx.heap.size Wx w') := Lib.hid fun Wx hb => by
                      have h9 := refDown_at (S := S2) e2 m2 c2 (.slice AL2 k cL2) AD2 nD1 cD2 N2.D za zb Wx HD.out.2 q2.few.2 (q2.keep hb).dn
                      rwa [ht] at h9
                    have HTT := Lib.hid ht
                    have HZM := Lib.hid hz
                    clear ht hxo hyo hxo' s0 s1 hc1 hcl1 hbl1 hA1 hz q1 q2
                    cases t with
                    | true =>
                      go_upto_region 11 with fail
                      clear x0 x1 x2 x3 x4
                      have hS0 : (fun W => Below wo.heap.size wo W) wo.drew := (Below.refl _ _).drew
                      refine wp_region_held_drew (S := fun W => Below wo.heap.size wo W) rfl hS0 (fun hHeld => ?_)
                      simp only [List.size_toArray, List.length_cons, List.length_nil, Nat.reduceAdd]
                      have HB0 : Hid (Below wo.heap.size wo wo.drew) := Lib.hid (Below.refl _ _).drew
                      obtain ⟨V0, hV0⟩ : ∃ V, wo.drew = V := ⟨_, rfl⟩
                      rw [hV0] at hHeld hS0 HB0 ⊢
                      clear hV0
                      refine wpAnyH_take (i := 0) (v := .agg #[.int .i64 e2, .int .i64 m2, .int .i64 c2, .slice AL2 k cL2, .slice AD2 nD1 cD2]) rfl (by kernel_rfl) (by kernel_rfl) (by kernel_rfl) (fun _ _ _ h => h) (Or.inl ⟨by rfl, ?_⟩) (by assumption) ?_
                      · intro wx hs1; obtain ⟨k0, k1, k2, k3, k4⟩ := (five_cells (HY.out wx hs1)).1; go_simp
                      (try simp only [Act.put, List.getElem_toArray, List.getElem_cons_zero, List.setIfInBounds_toArray, List.set_cons_zero, List.set_cons_succ])
                      refine wpAnyH_take (i := 1) (v := .pointer (some ⟨w.heap.size, 4, none⟩)) rfl (by kernel_rfl) (by kernel_rfl) (by kernel_rfl) (fun _ _ _ h => h) (Or.inl ⟨by rfl, ?_⟩) (by assumption) ?_
                      · intro wx hs1; go_simp
                      (try simp only [Act.put, List.getElem_toArray, List.getElem_cons_succ, List.getElem_cons_zero, List.setIfInBounds_toArray, List.set_cons_zero, List.set_cons_succ])
                      refine wpAnyH_take (i := 2) (v := .slice (some ⟨b1, o1, none⟩) nD1 cD1) rfl (by kernel_rfl) (by kernel_rfl) (by kernel_rfl) (fun _ _ _ h => h) (Or.inl ⟨by rfl, ?_⟩) (by assumption) ?_
                      · intro wx hs1; obtain ⟨k0, k1, k2, k3, k4⟩ := (five_cells (HX.out wx hs1)).1; go_simp
                      (try simp only [Act.put, List.getElem_toArray, List.getElem_cons_succ, List.getElem_cons_zero, List.setIfInBounds_toArray, List.set_cons_zero, List.set_cons_succ])
                      refine wpAnyH_take (i := 3) (v := .int .i64 (j : Int)) rfl (by kernel_rfl) (by kernel_rfl) (by kernel_rfl) (fun _ _ _ h => h) (Or.inl ⟨by rfl, ?_⟩) (by assumption) ?_
                      · intro wx hs1; go_simp
                      (try simp only [Act.put, List.getElem_toArray, List.getElem_cons_succ, List.getElem_cons_zero, List.setIfInBounds_toArray, List.set_cons_zero, List.set_cons_succ])
                      refine wpAnyH_take (i := 4) (v := .pointer (some ⟨b1, o1 + j * 2, none⟩)) rfl (by kernel_rfl) (by kernel_rfl) (by kernel_rfl) (fun _ _ _ h => h) (Or.inl ⟨by rfl, ?_⟩) (by assumption) ?_
                      · intro wx hs1; go_simp
                      (try simp only [Act.put, List.getElem_toArray, List.getElem_cons_succ, List.getElem_cons_zero, List.setIfInBounds_toArray, List.set_cons_zero, List.set_cons_succ])
                      refine wpAnyH_take (i := 5) (v := .pointer (some ⟨b1, o1 + j * 2, none⟩)) rfl (by kernel_rfl) (by kernel_rfl) (by kernel_rfl) (fun _ _ _ h => h) (Or.inl ⟨by rfl, ?_⟩) (by assumption) ?_
                      · intro wx hs1; go_simp
                      (try simp only [Act.put, List.getElem_toArray, List.getElem_cons_succ, List.getElem_cons_zero, List.setIfInBounds_toArray, List.set_cons_zero, List.set_cons_succ])
                      refine wpAnyH_take (i := 6) (v := .int .i64 za) rfl (by kernel_rfl) (by kernel_rfl) (by kernel_rfl) (fun _ _ _ h => h) (Or.inl ⟨by rfl, ?_⟩) (by assumption) ?_
                      · intro wx hs1; obtain ⟨k0, k1⟩ := HZ.out wx hs1; go_simp
                      (try simp only [Act.put, List.getElem_toArray, List.getElem_cons_succ, List.getElem_cons_zero, List.setIfInBounds_toArray, List.set_cons_zero, List.set_cons_succ])
                      refine wpAnyH_take (i := 7) (v := .pointer (some ⟨w.heap.size, 4, none⟩)) rfl (by kernel_rfl) (by kernel_rfl) (by kernel_rfl) (fun _ _ _ h => h) (Or.inl ⟨by rfl, ?_⟩) (by assumption) ?_
                      · intro wx hs1; go_simp
                      (try simp only [Act.put, List.getElem_toArray, List.getElem_cons_succ, List.getElem_cons_zero, List.setIfInBounds_toArray, List.set_cons_zero, List.set_cons_succ])
                      refine wpAnyH_take (i := 8) (v := .slice (some ⟨b1, o1, none⟩) nD1 cD1) rfl (by kernel_rfl) (by kernel_rfl) (by kernel_rfl) (fun _ _ _ h => h) (Or.inl ⟨by rfl, ?_⟩) (by assumption) ?_
                      · intro wx hs1; obtain ⟨k0, k1, k2, k3, k4⟩ := (five_cells (HX.out wx hs1)).1; go_simp
                      (try simp only [Act.put, List.getElem_toArray, List.getElem_cons_succ, List.getElem_cons_zero, List.setIfInBounds_toArray, List.set_cons_zero, List.set_cons_succ])
                      refine wpAnyH_take (i := 9) (v := .int .i64 (j : Int)) rfl (by kernel_rfl) (by kernel_rfl) (by kernel_rfl) (fun _ _ _ h => h) (Or.inl ⟨by rfl, ?_⟩) (by assumption) ?_
                      · intro wx hs1; go_simp
                      (try simp only [Act.put, List.getElem_toArray, List.getElem_cons_succ, List.getElem_cons_zero, List.setIfInBounds_toArray, List.set_cons_zero, List.set_cons_succ])
                      refine wpAnyH_take (i := 10) (v := .pointer (some ⟨b1, o1 + j * 2, none⟩)) rfl (by kernel_rfl) (by kernel_rfl) (by kernel_rfl) (fun _ _ _ h => h) (Or.inl ⟨by rfl, ?_⟩) (by assumption) ?_
                      · intro wx hs1; go_simp
                      (try simp only [Act.put, List.getElem_toArray, List.getElem_cons_succ, List.getElem_cons_zero, List.setIfInBounds_toArray, List.set_cons_zero, List.set_cons_succ])
                      refine wpAnyH_take (i := 11) (v := .pointer (some ⟨b1, o1 + j * 2 + 1, none⟩)) rfl (by kernel_rfl) (by kernel_rfl) (by kernel_rfl) (fun _ _ _ h => h) (Or.inl ⟨by rfl, ?_⟩) (by assumption) ?_
                      · intro wx hs1; go_simp
                      (try simp only [Act.put, List.getElem_toArray, List.getElem_cons_succ, List.getElem_cons_zero, List.setIfInBounds_toArray, List.set_cons_zero, List.set_cons_succ])
                      refine wpAnyH_take (i := 12) (v := .int .i64 zb) rfl (by kernel_rfl) (by kernel_rfl) (by kernel_rfl) (fun _ _ _ h => h) (Or.inl ⟨by rfl, ?_⟩) (by assumption) ?_
                      · intro wx hs1; obtain ⟨k0, k1⟩ := HZ.out wx hs1; go_simp
                      (try simp only [Act.put, List.getElem_toArray, List.getElem_cons_succ, List.getElem_cons_zero, List.setIfInBounds_toArray, List.set_cons_zero, List.set_cons_succ])
                      refine wpAnyH_ready (rs := [13]) (by kernel_rfl) (by simp) (AllReadyH.cons rfl (fun K hK => ?_) AllReadyH.nil)
                      go_simp
                      go_at_call 25
                      (with_reducible refine (H25.out _ HB0.out).mono ?_)
                      rintro e w3 ⟨rfl, hb⟩
                      try dsimp only
                      have HB1 : Hid (Below wo.heap.size wo w3) := Lib.hid (HB0.out.trans (hb.mono HB0.out.size)); clear hb; have hS := HB1.out
                      refine hK.out _ _ hS (fun _ => ?_)
                      clear hK K
                      (try simp only [Act.put, List.getElem_toArray, List.getElem_cons_succ, List.getElem_cons_zero, List.setIfInBounds_toArray, List.set_cons_zero, List.set_cons_succ])
                      refine wpAnyH_take (i := 14) (v := .bool false) rfl (by kernel_rfl) (by kernel_rfl) (by kernel_rfl) (fun _ _ _ h => h) (Or.inl ⟨by rfl, ?_⟩) (by assumption) ?_
                      · intro wx hs1; go_simp
                      (try simp only [Act.put, List.getElem_toArray, List.getElem_cons_succ, List.getElem_cons_zero, List.setIfInBounds_toArray, List.set_cons_zero, List.set_cons_succ])
                      refine wpAnyH_done (by kernel_rfl) ?_ _
                      have HB3 := Lib.hid (HBo.out.trans (HB1.out.mono HBo.out.size))
                      have HS3 : Hid (∀ z ∈ N1.D.take (j + 1), z ∈ N2.D) := Lib.hid (fun z hz => by
                        rw [List.take_add_one, HZM.out, List.mem_append] at hz
                        rcases hz with hz | hz
                        · exact HS.out z hz
                        · have hz2 : z = (za, zb) := by simpa using hz
                          rw [hz2]; exact of_decide_eq_true HTT.out)
                      go_wp2
                      go_roundw
                      case rel => exact ⟨j + 1, by omega, by go_num, HB3, HS3⟩
                      case measure => simp [RowKit.intOf]; omega
                    | false =>
                      go_upto_region 11 with fail
                      clear x0 x1 x2 x3 x4
                      have hS0 : (fun W => Below wo.heap.size wo W) wo.drew := (Below.refl _ _).drew
                      refine wp_region_held_drew (S := fun W => Below wo.heap.size wo W) rfl hS0 (fun hHeld => ?_)
                      simp only [List.size_toArray, List.length_cons, List.length_nil, Nat.reduceAdd]
                      have HB0 : Hid (Below wo.heap.size wo wo.drew) := Lib.hid (Below.refl _ _).drew
                      obtain ⟨V0, hV0⟩ : ∃ V, wo.drew = V := ⟨_, rfl⟩
                      rw [hV0] at hHeld hS0 HB0 ⊢
                      clear hV0
                      refine wpAnyH_take (i := 0) (v := .agg #[.int .i64 e2, .int .i64 m2, .int .i64 c2, .slice AL2 k cL2, .slice AD2 nD1 cD2]) rfl (by kernel_rfl) (by kernel_rfl) (by kernel_rfl) (fun _ _ _ h => h) (Or.inl ⟨by rfl, ?_⟩) (by assumption) ?_
                      · intro wx hs1; obtain ⟨k0, k1, k2, k3, k4⟩ := (five_cells (HY.out wx hs1)).1; go_simp
                      (try simp only [Act.put, List.getElem_toArray, List.getElem_cons_zero, List.setIfInBounds_toArray, List.set_cons_zero, List.set_cons_succ])
                      refine wpAnyH_take (i := 1) (v := .pointer (some ⟨w.heap.size, 4, none⟩)) rfl (by kernel_rfl) (by kernel_rfl) (by kernel_rfl) (fun _ _ _ h => h) (Or.inl ⟨by rfl, ?_⟩) (by assumption) ?_
                      · intro wx hs1; go_simp
                      (try simp only [Act.put, List.getElem_toArray, List.getElem_cons_succ, List.getElem_cons_zero, List.setIfInBounds_toArray, List.set_cons_zero, List.set_cons_succ])
                      refine wpAnyH_take (i := 2) (v := .slice (some ⟨b1, o1, none⟩) nD1 cD1) rfl (by kernel_rfl) (by kernel_rfl) (by kernel_rfl) (fun _ _ _ h => h) (Or.inl ⟨by rfl, ?_⟩) (by assumption) ?_
                      · intro wx hs1; obtain ⟨k0, k1, k2, k3, k4⟩ := (five_cells (HX.out wx hs1)).1; go_simp
                      (try simp only [Act.put, List.getElem_toArray, List.getElem_cons_succ, List.getElem_cons_zero, List.setIfInBounds_toArray, List.set_cons_zero, List.set_cons_succ])
                      refine wpAnyH_take (i := 3) (v := .int .i64 (j : Int)) rfl (by kernel_rfl) (by kernel_rfl) (by kernel_rfl) (fun _ _ _ h => h) (Or.inl ⟨by rfl, ?_⟩) (by assumption) ?_
                      · intro wx hs1; go_simp
                      (try simp only [Act.put, List.getElem_toArray, List.getElem_cons_succ, List.getElem_cons_zero, List.setIfInBounds_toArray, List.set_cons_zero, List.set_cons_succ])
                      refine wpAnyH_take (i := 4) (v := .pointer (some ⟨b1, o1 + j * 2, none⟩)) rfl (by kernel_rfl) (by kernel_rfl) (by kernel_rfl) (fun _ _ _ h => h) (Or.inl ⟨by rfl, ?_⟩) (by assumption) ?_
                      · intro wx hs1; go_simp
                      (try simp only [Act.put, List.getElem_toArray, List.getElem_cons_succ, List.getElem_cons_zero, List.setIfInBounds_toArray, List.set_cons_zero, List.set_cons_succ])
                      refine wpAnyH_take (i := 5) (v := .pointer (some ⟨b1, o1 + j * 2, none⟩)) rfl (by kernel_rfl) (by kernel_rfl) (by kernel_rfl) (fun _ _ _ h => h) (Or.inl ⟨by rfl, ?_⟩) (by assumption) ?_
                      · intro wx hs1; go_simp
                      (try simp only [Act.put, List.getElem_toArray, List.getElem_cons_succ, List.getElem_cons_zero, List.setIfInBounds_toArray, List.set_cons_zero, List.set_cons_succ])
                      refine wpAnyH_take (i := 6) (v := .int .i64 za) rfl (by kernel_rfl) (by kernel_rfl) (by kernel_rfl) (fun _ _ _ h => h) (Or.inl ⟨by rfl, ?_⟩) (by assumption) ?_
                      · intro wx hs1; obtain ⟨k0, k1⟩ := HZ.out wx hs1; go_simp
                      (try simp only [Act.put, List.getElem_toArray, List.getElem_cons_succ, List.getElem_cons_zero, List.setIfInBounds_toArray, List.set_cons_zero, List.set_cons_succ])
                      refine wpAnyH_take (i := 7) (v := .pointer (some ⟨w.heap.size, 4, none⟩)) rfl (by kernel_rfl) (by kernel_rfl) (by kernel_rfl) (fun _ _ _ h => h) (Or.inl ⟨by rfl, ?_⟩) (by assumption) ?_
                      · intro wx hs1; go_simp
                      (try simp only [Act.put, List.getElem_toArray, List.getElem_cons_succ, List.getElem_cons_zero, List.setIfInBounds_toArray, List.set_cons_zero, List.set_cons_succ])
                      refine wpAnyH_take (i := 8) (v := .slice (some ⟨b1, o1, none⟩) nD1 cD1) rfl (by kernel_rfl) (by kernel_rfl) (by kernel_rfl) (fun _ _ _ h => h) (Or.inl ⟨by rfl, ?_⟩) (by assumption) ?_
                      · intro wx hs1; obtain ⟨k0, k1, k2, k3, k4⟩ := (five_cells (HX.out wx hs1)).1; go_simp
                      (try simp only [Act.put, List.getElem_toArray, List.getElem_cons_succ, List.getElem_cons_zero, List.setIfInBounds_toArray, List.set_cons_zero, List.set_cons_succ])
                      refine wpAnyH_take (i := 9) (v := .int .i64 (j : Int)) rfl (by kernel_rfl) (by kernel_rfl) (by kernel_rfl) (fun _ _ _ h => h) (Or.inl ⟨by rfl, ?_⟩) (by assumption) ?_
                      · intro wx hs1; go_simp
                      (try simp only [Act.put, List.getElem_toArray, List.getElem_cons_succ, List.getElem_cons_zero, List.setIfInBounds_toArray, List.set_cons_zero, List.set_cons_succ])
                      refine wpAnyH_take (i := 10) (v := .pointer (some ⟨b1, o1 + j * 2, none⟩)) rfl (by kernel_rfl) (by kernel_rfl) (by kernel_rfl) (fun _ _ _ h => h) (Or.inl ⟨by rfl, ?_⟩) (by assumption) ?_
                      · intro wx hs1; go_simp
                      (try simp only [Act.put, List.getElem_toArray, List.getElem_cons_succ, List.getElem_cons_zero, List.setIfInBounds_toArray, List.set_cons_zero, List.set_cons_succ])
                      refine wpAnyH_take (i := 11) (v := .pointer (some ⟨b1, o1 + j * 2 + 1, none⟩)) rfl (by kernel_rfl) (by kernel_rfl) (by kernel_rfl) (fun _ _ _ h => h) (Or.inl ⟨by rfl, ?_⟩) (by assumption) ?_
                      · intro wx hs1; go_simp
                      (try simp only [Act.put, List.getElem_toArray, List.getElem_cons_succ, List.getElem_cons_zero, List.setIfInBounds_toArray, List.set_cons_zero, List.set_cons_succ])
                      refine wpAnyH_take (i := 12) (v := .int .i64 zb) rfl (by kernel_rfl) (by kernel_rfl) (by kernel_rfl) (fun _ _ _ h => h) (Or.inl ⟨by rfl, ?_⟩) (by assumption) ?_
                      · intro wx hs1; obtain ⟨k0, k1⟩ := HZ.out wx hs1; go_simp
                      (try simp only [Act.put, List.getElem_toArray, List.getElem_cons_succ, List.getElem_cons_zero, List.setIfInBounds_toArray, List.set_cons_zero, List.set_cons_succ])
                      refine wpAnyH_ready (rs := [13]) (by kernel_rfl) (by simp) (AllReadyH.cons rfl (fun K hK => ?_) AllReadyH.nil)
                      go_simp
                      go_at_call 25
                      (with_reducible refine (H25.out _ HB0.out).mono ?_)
                      rintro e w3 ⟨rfl, hb⟩
                      try dsimp only
                      have HB1 : Hid (Below wo.heap.size wo w3) := Lib.hid (HB0.out.trans (hb.mono HB0.out.size)); clear hb; have hS := HB1.out
                      refine hK.out _ _ hS (fun _ => ?_)
                      clear hK K
                      (try simp only [Act.put, List.getElem_toArray, List.getElem_cons_succ, List.getElem_cons_zero, List.setIfInBounds_toArray, List.set_cons_zero, List.set_cons_succ])
                      refine wpAnyH_take (i := 14) (v := .bool true) rfl (by kernel_rfl) (by kernel_rfl) (by kernel_rfl) (fun _ _ _ h => h) (Or.inl ⟨by rfl, ?_⟩) (by assumption) ?_
                      · intro wx hs1; go_simp
                      (try simp only [Act.put, List.getElem_toArray, List.getElem_cons_succ, List.getElem_cons_zero, List.setIfInBounds_toArray, List.set_cons_zero, List.set_cons_succ])
                      refine wpAnyH_done (by kernel_rfl) ?_ _
                      go_wp2
                      go_ret
                      refine ⟨?_, HB.out.trans ((HBo.out.trans (HB1.out.mono HBo.out.size)).mono HB.out.size)⟩
                      rw [← HRES.out, sameN_D (List.mem_of_getElem? HZM.out) (of_decide_eq_false HTT.out)]
                      rfl
                  · obtain rfl : j = nD1 := by omega
                    go_wp2
                    go_ret
                    refine ⟨?_, HB.out.trans (HBo.out.mono HB.out.size)⟩
                    obtain ⟨p1, p2, p3, p4, p5, p6⟩ := HEQ.out
                    obtain ⟨p7, p8, p9⟩ := HG.out
                    rw [← HRES.out, sameN_yes (by rw [p1, p4, p7]) (by rw [p2, p5, p8]) (by rw [p3, p6, p9]) HPP.out (by rw [HD.out.1, HD.out.2]) (fun z hz => HS.out z (by rw [List.take_of_length_le (by rw [HD.out.1]; exact Nat.le_refl _)]; exact hz))]
                    rfl
          · have g4b : ((nL1 : Int) != (nL1 : Int)) = false := by simp
            have g5b : ((nD1 : Int) == (nD2 : Int)) = false := by rw [beq_eq_false_iff_ne]; omega
            have HG := Lib.hid (show sameN N1 N2 = false from HNO.out (fun e => g5 e.2.2.2.2))
            clear g1 g2 g3
            go_enter Try.func30, Try.ntmps30
            go_wp2
            go_ret
            exact ⟨by rw [← HRES.out, HG.out]; rfl, by first | exact HB.out | (rw [hW2]; exact HB.out)⟩
        · have g4b : ((nL1 : Int) == (nL2 : Int)) = false := by rw [beq_eq_false_iff_ne]; omega
          have HG := Lib.hid (show sameN N1 N2 = false from HNO.out (fun e => g4 e.2.2.2.1))
          clear g1 g2 g3
          go_enter Try.func30, Try.ntmps30
          go_wp2
          go_ret
          exact ⟨by rw [← HRES.out, HG.out]; rfl, by first | exact HB.out | (rw [hW2]; exact HB.out)⟩
      · have g3b : (c1 == c2) = false := by simpa using g3
        have HG := Lib.hid (show sameN N1 N2 = false from HNO.out (fun e => g3 e.2.2.1))
        clear g1 g2
        go_enter Try.func30, Try.ntmps30
        go_wp2
        go_ret
        exact ⟨by rw [← HRES.out, HG.out]; rfl, by first | exact HB.out | (rw [hW2]; exact HB.out)⟩
    · have g2b : (m1 == m2) = false := by simpa using g2
      have HG := Lib.hid (show sameN N1 N2 = false from HNO.out (fun e => g2 e.2.1))
      clear g1
      go_enter Try.func30, Try.ntmps30
      go_wp2
      go_ret
      exact ⟨by rw [← HRES.out, HG.out]; rfl, by first | exact HB.out | (rw [hW2]; exact HB.out)⟩
  · have g1b : (e1 == e2) = false := by simpa using g1
    have HG := Lib.hid (show sameN N1 N2 = false from HNO.out (fun e => g1 e.1))
    clear HNO
    go_enter Try.func30, Try.ntmps30
    go_wp2
    go_ret
    exact ⟨by rw [← HRES.out, HG.out]; rfl, by first | exact HB.out | (rw [hW2]; exact HB.out)⟩
end Go.Proofs
namespace Go.Proofs
open Go Go.RowKit Sm
/-- what does not turn where the blocks below L, and those of M, stay -/
def Sm.LowM (L : Nat) (J : (Nat → Prop) → Nat → World → Prop) : Prop := ∀ M k W W', J M k W → (∀ b, M b → b < W.heap.size) → But (fun b => ¬ (b < L ∨ M b)) W W' → J M k W'
/-- blocks of M, those that were handed over, and new ones -/
def Sm.SubZ (row : Array Value → Nat → Prop) (args : Array Value) (M M' : Nat → Prop) (W W' : World) : Prop := ∀ b, M' b → (M b ∨ row args b) ∨ (W.heap.size ≤ b ∧ b < W'.heap.size)
/-- **what an iterator promises, where rounds keep what they made** -/
def Sm.SeqZ (P : Program) (g : Nat) (lb : Array Value) (X : Nat → Prop) (H : Nat → Nat → Array Value → World → Prop) (row : Array Value → Nat → Prop) (Go : Nat → Prop) (S Sp : Nat → Prop) (w : World) : Prop :=
  ∀ (l : Nat) (J Jx : (Nat → Prop) → Nat → World → Prop) (W : World), Below w.heap.size w W → LowM W.heap.size J → LowM W.heap.size Jx →
    (∀ M k args W1, (∀ b, M b → W.heap.size ≤ b ∧ b < W1.heap.size) → J M k W1 → H W.heap.size k args W1 → YieldAt Fence.wide 1 P l args W1 fun e W' =>
      (e = .returned (.bool true) ∧ Go k ∧ (∃ M', SubZ row args M M' W1 W' ∧ J M' (k + 1) W') ∧ But (fun b => RoundMay X w.heap.size W.heap.size row args b ∨ M b) W1 W') ∨
      (e = .returned (.bool false) ∧ (∃ M', SubZ row args M M' W1 W' ∧ Jx M' (k + 1) W') ∧ But (fun b => RoundMay X w.heap.size W.heap.size row args b ∨ M b) W1 W')) →
    J (fun _ => False) 0 W → Calls P g (#[.func (.yield l) #[] #[]] ++ lb) W fun e W' => (∃ v, e = .returned v) ∧ ((∃ M k, S k ∧ (∀ b, M b → W.heap.size ≤ b ∧ b < W'.heap.size) ∧ J M k W') ∨ (∃ M k, Sp k ∧ (∀ b, M b → W.heap.size ≤ b ∧ b < W'.heap.size) ∧ Jx M k W'))
/-- how the body of a round may be left -/
def Sm.postZ (Go : Nat → Prop) (X : Nat → Prop) (row : Array Value → Nat → Prop) (args : Array Value) (I : (Nat → Prop) → Nat → World → Prop) (Ix : Code → (Nat → Prop) → Nat → World → Prop) (M : Nat → Prop) (k : Nat) (W : World) : Exit → Act → World → Prop
  | .normal, _, W' => Go k ∧ But (fun b => (X b ∨ row args b) ∨ M b) W W' ∧ ∃ M', SubZ row args M M' W W' ∧ I M' (k + 1) W'
  | .ret, _, W' => But (fun b => (X b ∨ row args b) ∨ M b) W W' ∧ ∃ M', SubZ row args M M' W W' ∧ Ix .ret M' (k + 1) W'
  | .exit id, _, W' => But (fun b => (X b ∨ row args b) ∨ M b) W W' ∧ ∃ M', SubZ row args M M' W W' ∧ Ix (.exit id) M' (k + 1) W'
  | .goto t, _, W' => But (fun b => (X b ∨ row args b) ∨ M b) W W' ∧ ∃ M', SubZ row args M M' W W' ∧ Ix (.goto t) M' (k + 1) W'
  | .panic _, _, _ => False
  | .outgrown, _, _ => False
theorem Sm.LowM.below {L : Nat} {J : (Nat → Prop) → Nat → World → Prop} (h : LowM L J) {M : Nat → Prop} {k : Nat} {W W' : World} (hJ : J M k W) (hM : ∀ b, M b → b < W.heap.size) (hb : Below W.heap.size W W') : J M k W' :=
  h M k W W' hJ hM (But.of_all hb _)
theorem Sm.LowM.put {L : Nat} {J : (Nat → Prop) → Nat → World → Prop} (h : LowM L J) {M : Nat → Prop} {k r : Nat} {W : World} (hJ : J M k W) (hM : ∀ b, M b → b < W.heap.size) (hr : L ≤ r) (hn : ¬ M r) (o : Obj) : J M k (W.putObj r o) :=
  h M k W _ hJ hM ((put_but W r o).mono (fun b _ e => by rintro (e2 | e2); omega; exact hn (e ▸ e2)))
set_option maxHeartbeats 1000000 in
/-- **the law of the loop** -/
theorem Sm.wpIn_rangeZ {P : Program} {g : Operand} {ps : Array Tmp} {assign body : Code} {Q : Exit → Act → World → Prop} {a : Act} {w : World} {n : Nat} {gf : Nat} {lb : Array Value}
    (hg : a.eval g = .func (.func gf) #[] lb) (eg : ∀ args w, (callFunc gf args).run P w = .ok (.enter gf args) w)
    {X : Nat → Prop} {H : Nat → Nat → Array Value → World → Prop} {row : Array Value → Nat → Prop} {Go S Sp : Nat → Prop} (hseq : SeqZ P gf lb X H row Go S Sp w)
    (hX : ∀ b, X b → b < w.heap.size) (hH : ∀ k args W W', H (w.heap.size + 2) k args W → But (fun b => b < w.heap.size + 2) W W' → H (w.heap.size + 2) k args W')
    (hrow : ∀ k args W b, H (w.heap.size + 2) k args W → row args b → w.heap.size + 2 ≤ b) (hrow2 : ∀ k args W b, H (w.heap.size + 2) k args W → row args b → b < W.heap.size) (hps : ∀ k args W, H (w.heap.size + 2) k args W → args.size = ps.size)
    (I : (Nat → Prop) → Nat → World → Prop) (Ix : Code → (Nat → Prop) → Nat → World → Prop) (hI : LowM w.heap.size I) (hIx : ∀ c, LowM w.heap.size (Ix c)) (h0 : I (fun _ => False) 0 w) (Ax : Array Value → Act → World → Prop)
    (hAx : ∀ args a' W W', Ax args a' W → But (fun b => b < w.heap.size + 2) W W' → Ax args a' W')
    (hassign : ∀ (l : Nat) (M : Nat → Prop) (k : Nat) (args : Array Value) (W : World) (K : Act → World → Prop), w.heap.size + 2 ≤ W.heap.size → I M k W → H (w.heap.size + 2) k args W → (∀ a' W', Below W.heap.size W W' → Ax args a' W' → K a' W') →
      assign.wpIn (Fence.wide.inRound l) (n - 1 - 1) P (Exit.then K (fun _ _ _ => False)) { tmps := (ps.zip args).foldl (fun t (p, v) => t.setIfInBounds p v) a.tmps, defers := [] } W)
    (hbody : ∀ (l : Nat) (M : Nat → Prop) (k : Nat) (args : Array Value) (a' : Act) (W : World), w.heap.size + 2 ≤ W.heap.size → (∀ b, M b → w.heap.size + 2 ≤ b ∧ b < W.heap.size) → I M k W → H (w.heap.size + 2) k args W → Ax args a' W → body.wpIn (Fence.wide.inRound l) (n - 1 - 1) P (postZ Go X row args I Ix M k W) a' W)
    (hdone : ∀ (M : Nat → Prop) (k : Nat) (W : World), S k → (∀ b, M b → w.heap.size + 2 ≤ b ∧ b < W.heap.size) → I M k W → W.heap[w.heap.size]? = some (.deferred (some [])) → Q .normal { a with defers := { target := .collected w.heap.size, args := #[] } :: a.defers } W)
    (hstop : ∀ (c : Code) (M : Nat → Prop) (k : Nat) (W : World), Sp k → (∀ b, M b → w.heap.size + 2 ≤ b ∧ b < W.heap.size) → Ix c M k W → W.heap[w.heap.size]? = some (.deferred (some [])) → c.wpIn Fence.wide n P Q { a with defers := { target := .collected w.heap.size, args := #[] } :: a.defers } W) :
    (Code.rangeFunc g ps assign body).wpIn Fence.wide n P Q a w := by
  refine wpIn_rangeFunc ?_
  intro fn hfn
  obtain ⟨rec, hrec⟩ : ∃ rec : LoopState → Option Code → Loop, rec = fun st pe => { state := st, pending := pe, fn, tmps := a.tmps, params := ps, assign, body, defers := w.heap.size } := ⟨_, rfl⟩
  obtain ⟨W1, hW1⟩ : ∃ W1, (w.alloc (.deferred (some []))).alloc (.loop (rec .ready none)) = W1 := ⟨_, rfl⟩
  have hs1 : W1.heap.size = w.heap.size + 2 := by rw [← hW1]; simp
  have hb1 : Below w.heap.size w W1 := by rw [← hW1]; exact ((Below.refl _ w).alloc (Nat.le_refl _) _).alloc (by simp) _
  have hL1 : W1.heap[w.heap.size + 1]? = some (.loop (rec .ready none)) := by
    rw [← hW1]; have := World.alloc_heap_new (w.alloc (.deferred (some []))) (.loop (rec .ready none)); rwa [World.size_alloc] at this
  have hK1 : W1.heap[w.heap.size]? = some (.deferred (some [])) := by
    rw [← hW1]; exact (Below.heap_alloc _ _ _ (by simp)).trans (World.alloc_heap_new w _)
  refine ⟨w.heap.size + 1, [{ target := .collected w.heap.size, args := #[] }], W1, { target := .fn (.func gf) lb, args := #[.func (.yield (w.heap.size + 1)) #[] #[]] }, W1, gf,
    #[.func (.yield (w.heap.size + 1)) #[] #[]] ++ lb, W1, ?_, ?_, ?_, ?_, (fun h => by cases h), callsIn_wide.2 ?_⟩
  · rw [← hW1, hrec]; exact run_enterLoop_outer _ _ _ _ _
  · simp only [resolve, hg]
    simp [go_sem]
  · intro f' hf'; trivial
  · simp [invoke, go_sem, eg]
  · have keep : ∀ {st : LoopState} {pe : Option Code} {W W' : World}, W.heap[w.heap.size + 1]? = some (.loop (rec st pe)) ∧ W.heap[w.heap.size]? = some (.deferred (some [])) → Below (w.heap.size + 2) W W' → W'.heap[w.heap.size + 1]? = some (.loop (rec st pe)) ∧ W'.heap[w.heap.size]? = some (.deferred (some [])) :=
      fun h hb => ⟨(hb.block _ (by omega)).trans h.1, (hb.block _ (by omega)).trans h.2⟩
    refine (hseq (w.heap.size + 1)
      (fun M k W => I M k W ∧ w.heap.size + 2 ≤ W.heap.size ∧ (∀ b, M b → w.heap.size + 2 ≤ b) ∧ (W.heap[w.heap.size + 1]? = some (.loop (rec .ready none)) ∧ W.heap[w.heap.size]? = some (.deferred (some []))))
      (fun M k W => ∃ c, Ix c M k W ∧ (∀ b, M b → w.heap.size + 2 ≤ b) ∧ (W.heap[w.heap.size + 1]? = some (.loop (rec .done (some c))) ∧ W.heap[w.heap.size]? = some (.deferred (some []))))
      W1 hb1
      (fun M k W W' h hM hb => by
        rw [hs1] at hb
        have hlt := (Array.getElem?_eq_some_iff.1 h.2.2.2.1).1
        exact ⟨hI M k W W' h.1 hM (hb.mono (fun b _ e => by rintro (e2 | e2); exact e (.inl (by omega)); exact e (.inr e2))), Nat.le_trans h.2.1 hb.size, h.2.2.1, hb.box h.2.2.2.1 (fun e => e (.inl (by omega))), hb.box h.2.2.2.2 (fun e => e (.inl (by omega)))⟩)
      (fun M k W W' h hM hb => by
        rw [hs1] at hb
        obtain ⟨c, hc, h1, h2⟩ := h
        exact ⟨c, hIx c M k W W' hc hM (hb.mono (fun b _ e => by rintro (e2 | e2); exact e (.inl (by omega)); exact e (.inr e2))), h1, hb.box h2.1 (fun e => e (.inl (by omega))), hb.box h2.2 (fun e => e (.inl (by omega)))⟩)
      ?_ ⟨hI.below h0 (fun b e => e.elim) hb1, by omega, (fun b e => e.elim), hL1, hK1⟩).mono ?_
    · rintro M k args W hMB ⟨hi, hsz, hMl, hl, hk⟩ hh
      rw [hs1] at hh hMB ⊢
      have hMs : ∀ b, M b → b < W.heap.size := fun b e => (hMB b e).2
      have hlt : w.heap.size + 1 < W.heap.size := (Array.getElem?_eq_some_iff.1 hl).1
      have hy := run_yield (P := P) (args := args) hl (by rw [hrec]; exact hps _ _ _ hh)
      rw [hrec] at hy
      refine ⟨fn, _, assign, body, hy, roundIn_any (m := n - 1 - 1) (roundIn_of_wpIn hfn (hassign _ M k args W _ hsz hi hh ?_))⟩
      intro a' Wa hba hax
      have hla : Wa.heap[w.heap.size + 1]? = some (.loop (rec .ready none)) := (hba.block _ hlt).trans hl
      have hka : Wa.heap[w.heap.size]? = some (.deferred (some [])) := (hba.block _ (by omega)).trans hk
      have hlta : w.heap.size + 1 < Wa.heap.size := (Array.getElem?_eq_some_iff.1 hla).1
      refine ⟨_, run_beginRound hla (by rw [hrec]), ?_⟩
      have hb2 := put_but Wa (w.heap.size + 1) (.loop { rec .ready none with state := .busy })
      have hl2 : (Wa.putObj (w.heap.size + 1) (.loop { rec .ready none with state := .busy })).heap[w.heap.size + 1]? = some (.loop { rec .ready none with state := .busy }) := World.putObj_heap_same hlta
      have hk2 : (Wa.putObj (w.heap.size + 1) (.loop { rec .ready none with state := .busy })).heap[w.heap.size]? = some (.deferred (some [])) := (World.putObj_heap_other (by omega)).trans hka
      have hMa : ∀ b, M b → b < Wa.heap.size := fun b e => Nat.lt_of_lt_of_le (hMs b e) hba.size
      have hia : I M k Wa := hI.below hi hMs hba
      have hi2 : I M k (Wa.putObj (w.heap.size + 1) (.loop { rec .ready none with state := .busy })) := hI.put hia hMa (by omega) (fun e => by have := hMl _ e; omega) _
      have hha : H (w.heap.size + 2) k args Wa := hH k args W Wa hh (But.of_all hba _)
      have hh2 := hH k args Wa _ hha (hb2.mono fun b _ e => by omega)
      have hax2 := hAx args a' Wa _ hax (hb2.mono fun b _ e => by omega)
      refine wpIn_mono (hbody _ M k args a' _ (by simp; omega) (fun b e => ⟨hMl b e, by have := hMa b e; simpa using this⟩) hi2 hh2 hax2) ?_
      have fin : ∀ (jump : Option Code) (W3 : World), But (fun b => (X b ∨ row args b) ∨ M b) (Wa.putObj (w.heap.size + 1) (.loop { rec .ready none with state := .busy })) W3 →
          (Instr.endRound (w.heap.size + 1) jump).run P W3 = .ok (.bool jump.isNone) (W3.putObj (w.heap.size + 1) (.loop (rec (if jump.isNone then .ready else .done) jump))) ∧
          w.heap.size + 2 ≤ W3.heap.size ∧
          ((W3.putObj (w.heap.size + 1) (.loop (rec (if jump.isNone then .ready else .done) jump))).heap[w.heap.size + 1]? = some (.loop (rec (if jump.isNone then .ready else .done) jump)) ∧
          (W3.putObj (w.heap.size + 1) (.loop (rec (if jump.isNone then .ready else .done) jump))).heap[w.heap.size]? = some (.deferred (some []))) ∧
          But (fun b => RoundMay X w.heap.size (w.heap.size + 2) row args b ∨ M b) W (W3.putObj (w.heap.size + 1) (.loop (rec (if jump.isNone then .ready else .done) jump))) := fun jump W3 hk3 => by
        have hno : ∀ b, b = w.heap.size + 1 ∨ b = w.heap.size → ¬ ((X b ∨ row args b) ∨ M b) := fun b hb e => by
          rcases e with (e | e) | e
          · have := hX b e; omega
          · have := hrow _ _ _ _ hh2 e; omega
          · have := hMl b e; omega
        have hl3 := hk3.box hl2 (hno _ (.inl rfl))
        have hk4 := hk3.box hk2 (hno _ (.inr rfl))
        have hlt3 := (Array.getElem?_eq_some_iff.1 hl3).1
        have := run_endRound (P := P) jump hl3
        rw [hrec] at this ⊢
        refine ⟨this, by omega, ⟨World.putObj_heap_same hlt3, (World.putObj_heap_other (by omega)).trans hk4⟩, ?_⟩
        have hmay : ∀ b, b = w.heap.size + 1 → RoundMay X w.heap.size (w.heap.size + 2) row args b ∨ M b := fun b e => .inl (.inr (.inl (by omega)))
        have c1 : But (fun b => RoundMay X w.heap.size (w.heap.size + 2) row args b ∨ M b) W (Wa.putObj (w.heap.size + 1) (.loop { rec .ready none with state := .busy })) := (But.of_all hba _).trans hb2 (fun b _ e => hmay b e)
        have c2 := c1.trans hk3 (fun b _ e => by
          rcases e with (e | e) | e
          · exact .inl (.inl e)
          · exact .inl (.inr (.inr e))
          · exact .inr e)
        exact c2.trans (put_but W3 _ _) (fun b _ e => hmay b e)
      have hsub : ∀ {M' : Nat → Prop} {W3 : World} {o : Obj}, SubZ row args M M' (Wa.putObj (w.heap.size + 1) (.loop { rec .ready none with state := .busy })) W3 → Wa.heap.size ≤ W3.heap.size → SubZ row args M M' W (W3.putObj (w.heap.size + 1) o) ∧ (∀ b, M' b → w.heap.size + 2 ≤ b) ∧ (∀ b, M' b → b < W3.heap.size) := fun {M' W3 o} h hz3 => by
        have hsa := hba.size
        have hs3 : ∀ b, M' b → (M b ∨ row args b) ∨ (Wa.heap.size ≤ b ∧ b < W3.heap.size) := fun b e => by simpa using h b e
        refine ⟨fun b e => (hs3 b e).imp id (fun e => ⟨by omega, by simpa using e.2⟩), fun b e => ?_, fun b e => ?_⟩
        · rcases hs3 b e with (e | e) | e
          · exact hMl b e
          · exact hrow _ _ _ _ hh e
          · omega
        · rcases hs3 b e with (e2 | e2) | e2
          · have := hMa b e2; omega
          · have := hrow2 _ _ _ _ hh e2; omega
          · exact e2.2
      rintro e a3 W3 hp
      cases e with
      | normal =>
        obtain ⟨hgo, hk3, M', hs', hi3⟩ := hp
        obtain ⟨hr, hz, hlk, hbt⟩ := fin none W3 hk3
        obtain ⟨q1, q2, q3⟩ := hsub (o := .loop (rec (if (none : Option Code).isNone then .ready else .done) none)) hs' (by simpa using hk3.size)
        exact ⟨_, _, hr, .inl ⟨rfl, hgo, ⟨M', q1, hI.put hi3 q3 (by omega) (fun e => by have := q2 _ e; omega) _, by simpa using hz, q2, hlk⟩, hbt⟩⟩
      | ret =>
        obtain ⟨hk3, M', hs', hi3⟩ := hp
        obtain ⟨hr, hz, hlk, hbt⟩ := fin (some .ret) W3 hk3
        obtain ⟨q1, q2, q3⟩ := hsub (o := .loop (rec (if (some Code.ret).isNone then .ready else .done) (some .ret))) hs' (by simpa using hk3.size)
        exact ⟨_, _, hr, .inr ⟨rfl, ⟨M', q1, .ret, (hIx _).put hi3 q3 (by omega) (fun e => by have := q2 _ e; omega) _, q2, hlk⟩, hbt⟩⟩
      | exit id =>
        obtain ⟨hk3, M', hs', hi3⟩ := hp
        obtain ⟨hr, hz, hlk, hbt⟩ := fin (some (.exit id)) W3 hk3
        obtain ⟨q1, q2, q3⟩ := hsub (o := .loop (rec (if (some (Code.exit id)).isNone then .ready else .done) (some (.exit id)))) hs' (by simpa using hk3.size)
        exact ⟨_, _, hr, .inr ⟨rfl, ⟨M', q1, .exit id, (hIx _).put hi3 q3 (by omega) (fun e => by have := q2 _ e; omega) _, q2, hlk⟩, hbt⟩⟩
      | goto t =>
        obtain ⟨hk3, M', hs', hi3⟩ := hp
        obtain ⟨hr, hz, hlk, hbt⟩ := fin (some (.goto t)) W3 hk3
        obtain ⟨q1, q2, q3⟩ := hsub (o := .loop (rec (if (some (Code.goto t)).isNone then .ready else .done) (some (.goto t)))) hs' (by simpa using hk3.size)
        exact ⟨_, _, hr, .inr ⟨rfl, ⟨M', q1, .goto t, (hIx _).put hi3 q3 (by omega) (fun e => by have := q2 _ e; omega) _, q2, hlk⟩, hbt⟩⟩
      | panic ch => exact hp.elim
      | outgrown => exact hp.elim
    · rintro e W2 ⟨⟨v, rfl⟩, (⟨M, k, hS, hMB, hi, hz, hMl, hl, hk⟩ | ⟨M, k, hSp, hMB, c, hi, hMl, hl, hk⟩)⟩
      · have hlt : w.heap.size + 1 < W2.heap.size := (Array.getElem?_eq_some_iff.1 hl).1
        exact ⟨none, _, by have := run_endLoop (P := P) hl (by rw [hrec]; simp); rw [hrec] at this; exact this, hdone M k _ hS (fun b e => ⟨hMl b e, by simpa using (hMB b e).2⟩) (hI.put hi (fun b e => (hMB b e).2) (by omega) (fun e => by have := hMl _ e; omega) _) ((World.putObj_heap_other (by omega)).trans hk)⟩
      · have hlt : w.heap.size + 1 < W2.heap.size := (Array.getElem?_eq_some_iff.1 hl).1
        exact ⟨some c, _, by have := run_endLoop (P := P) hl (by rw [hrec]; simp); rw [hrec] at this; exact this, hstop c M k _ hSp (fun b e => ⟨hMl b e, by simpa using (hMB b e).2⟩) ((hIx c).put hi (fun b e => (hMB b e).2) (by omega) (fun e => by have := hMl _ e; omega) _) ((World.putObj_heap_other (by omega)).trans hk)⟩
/-- **one variable that is boxed** -/
theorem Sm.wpIn_rangeZP {P : Program} {g : Operand} {ps : Array Tmp} {assign body : Code} {Q : Exit → Act → World → Prop} {a : Act} {w : World} {n : Nat} {gf : Nat} {lb : Array Value}
    (hg : a.eval g = .func (.func gf) #[] lb) (eg : ∀ args w, (callFunc gf args).run P w = .ok (.enter gf args) w)
    {X : Nat → Prop} {H : Nat → Nat → Array Value → World → Prop} {row : Array Value → Nat → Prop} {Go S Sp : Nat → Prop} (hseq : SeqZ P gf lb X H row Go S Sp w)
    (hX : ∀ b, X b → b < w.heap.size) (hH : ∀ k args W W', H (w.heap.size + 2) k args W → But (fun b => b < w.heap.size + 2) W W' → H (w.heap.size + 2) k args W')
    (hrow : ∀ k args W b, H (w.heap.size + 2) k args W → row args b → w.heap.size + 2 ≤ b) (hrow2 : ∀ k args W b, H (w.heap.size + 2) k args W → row args b → b < W.heap.size) (p1 q1 : Nat) (T : TypeId) (hps : ps = #[p1]) (hargs : ∀ k args W, H (w.heap.size + 2) k args W → ∃ C, args = #[.agg C])
    (I : (Nat → Prop) → Nat → World → Prop) (hI : LowM w.heap.size I) (h0 : I (fun _ => False) 0 w)
    (hassign : ∀ (l k : Nat) (C : Array Value) (W : World) (K : Act → World → Prop), w.heap.size + 2 ≤ W.heap.size → H (w.heap.size + 2) k #[.agg C] W → K { tmps := (a.tmps.setIfInBounds p1 (.agg C)).setIfInBounds q1 (.pointer (some ⟨W.heap.size, 0, none⟩)), defers := [] } (W.alloc (.cells C T)) →
      assign.wpIn (Fence.wide.inRound l) (n - 1 - 1) P (Exit.then K (fun _ _ _ => False)) { tmps := a.tmps.setIfInBounds p1 (.agg C), defers := [] } W)
    (hbody : ∀ (l : Nat) (M : Nat → Prop) (k t : Nat) (C : Array Value) (W : World), w.heap.size + 2 ≤ t → W.heap[t]? = some (.cells C T (0, 0)) → w.heap.size + 2 ≤ W.heap.size → (∀ b, M b → w.heap.size + 2 ≤ b ∧ b < W.heap.size) → I M k W → H (w.heap.size + 2) k #[.agg C] W → body.wpIn (Fence.wide.inRound l) (n - 1 - 1) P (postZ Go X row #[.agg C] I (fun _ _ _ _ => False) M k W) { tmps := (a.tmps.setIfInBounds p1 (.agg C)).setIfInBounds q1 (.pointer (some ⟨t, 0, none⟩)), defers := [] } W)
    (hdone : ∀ (M : Nat → Prop) (k : Nat) (W : World), S k → (∀ b, M b → w.heap.size + 2 ≤ b ∧ b < W.heap.size) → I M k W → W.heap[w.heap.size]? = some (.deferred (some [])) → Q .normal { a with defers := { target := .collected w.heap.size, args := #[] } :: a.defers } W) :
    (Code.rangeFunc g ps assign body).wpIn Fence.wide n P Q a w := by
  subst hps
  refine wpIn_rangeZ hg eg hseq hX hH hrow hrow2 (fun k args W h => by obtain ⟨C, rfl⟩ := hargs k args W h; rfl) I (fun _ _ _ _ => False) hI (fun _ _ _ _ _ h _ _ => h) h0
    (fun args a' W => ∃ (t : Nat) (C : Array Value), args = #[.agg C] ∧ w.heap.size + 2 ≤ t ∧ W.heap[t]? = some (.cells C T (0, 0)) ∧ a' = { tmps := (a.tmps.setIfInBounds p1 (.agg C)).setIfInBounds q1 (.pointer (some ⟨t, 0, none⟩)), defers := [] })
    (fun args a' W W' ⟨t, C, g1, g2, g3, g4⟩ hb => ⟨t, C, g1, g2, hb.box g3 (by omega), g4⟩) ?_ ?_ hdone (fun _ _ _ _ _ _ h _ => h.elim)
  · intro l M k args W K hsz _ hh hK
    obtain ⟨C, rfl⟩ := hargs k args W hh
    have := hassign l k C W K hsz hh (hK _ _ ((Below.refl _ _).alloc (Nat.le_refl _) _) ⟨W.heap.size, C, rfl, hsz, World.alloc_heap_new _ _, rfl⟩)
    simpa using this
  · rintro l M k args a' W hs hM hi hh ⟨t, C, rfl, ht, hxt, rfl⟩
    exact hbody l M k t C W ht hxt hs hM hi hh
end Go.Proofs
namespace Go.Proofs
open Go Go.RowKit Sm Go.Lib Go.Maps Go.WideMaps
attribute [local go_sem] Oper.semAt_some
theorem Sm.rowP_hi {L : List MsgM} {Lb k : Nat} {args : Array Value} {W : World} {b : Nat} (h : HAl L Lb k args W) (hr : rowP args b) : b < W.heap.size := by
  obtain ⟨m, A', c', _, rfl, h3⟩ := h
  obtain ⟨num, src, dst, A, n, c, e1, e2⟩ := hr
  injection e1 with e1
  injection e1 with e1 _
  injection e1 with e1
  injection e1 with e1
  injection e1 with _ e1
  injection e1 with _ e1
  injection e1 with _ e1
  injection e1 with e1 _
  rw [← e1] at e2
  exact (h3.lt b e2).2
structure Sm.AlAtZ (X : Nat → Prop) (J : (Nat → Prop) → Nat → World → Prop) (w wr : World) (Lb : Nat) (M : Nat → Prop) (k : Nat) : Prop where
  j : J M k wr
  m : ∀ b, M b → Lb ≤ b ∧ b < wr.heap.size
  keep : But (fun b => X b ∨ w.heap.size ≤ b) w wr
  sz : Lb ≤ wr.heap.size
set_option maxRecDepth 100000 in
set_option maxHeartbeats 4000000 in
theorem Sm.all_seqZ {q n c : Nat} {A : Option Addr} {L : List MsgM} (w : World) (X : Nat → Prop) (hq : w.heap[q]? = some (.cells #[.slice A n c] 33 (0, 0))) (hl : L.length = n) (hn : n ≤ 4096) (hr : Rds w X A (cellsM L)) (hby : ∀ m ∈ L, Rds w X m.A (m.bytes.map byteCell) ∧ m.bytes.length ≤ 8192) :
    SeqZ Try.prog 45 #[.pointer (some ⟨q, 0, none⟩)] X (HAl L) rowP (fun _ => True) (fun k => k = n) (fun k => 1 ≤ k ∧ k ≤ n) w := by
  intro L0 J Jx W hW hJ hJx hY hJ0
  have hBl : q < w.heap.size := (Array.getElem?_eq_some_iff.1 hq).1
  have c1 : W.cell? ⟨q, 0, none⟩ = some (.slice A n c) := cell_of_heap ((hW.block q hBl).trans hq) 0
  obtain ⟨Lb, hL⟩ : ∃ L, W.heap.size = L := ⟨_, rfl⟩
  have hwL : w.heap.size ≤ Lb := by rw [← hL]; exact hW.size
  have hr2 : Rds w (fun b => X b ∨ w.heap.size ≤ b) A (cellsM L) := hr.less (fun b hb e => e.resolve_right (by omega))
  have hby2 : ∀ m ∈ L, Rds w (fun b => X b ∨ w.heap.size ≤ b) m.A (m.bytes.map byteCell) ∧ m.bytes.length ≤ 8192 := fun m hm => ⟨(hby m hm).1.less (fun b hb e => e.resolve_right (by omega)), (hby m hm).2⟩
  have HE0 : Hid (AlAtZ X J w W Lb (fun _ => False) 0) := Lib.hid ⟨hJ0, fun b e => e.elim, (But.of_below hW).mono (fun b _ e => .inr e), Nat.le_of_eq hL.symm⟩
  have HR := Lib.hid hr2
  have HBY := Lib.hid hby2
  have HLN := Lib.hid hl
  have HWL := Lib.hid hwL
  have hfI : (n : Int) ≤ 4096 := by omega
  show Calls Try.prog 45 #[.func (.yield L0) #[] #[], .pointer (some ⟨q, 0, none⟩)] W _
  rw [hL] at hJ hJx hY
  have HY := Lib.hid hY
  have HJ := Lib.hid hJ
  have HLL := Lib.hid hL
  clear hJ0 hW hY hr hr2 hby hby2 hl hq hBl hwL hL hJ hJx
  go_enter Try.func45, Try.ntmps45
  go_wp2
  clear c1
  go_loopw [7] (fun v7 wr => ∃ (M : Nat → Prop) (k : Nat), k ≤ n ∧ v7 = .int .i64 (k : Int) ∧ Hid (AlAtZ X J w wr Lb M k)) (fun v7 _ => n - (RowKit.intOf v7).toNat)
  case atStart => exact ⟨fun _ => False, 0, Nat.zero_le _, rfl, HE0⟩
  case round =>
    obtain ⟨wo, rfl⟩ : ∃ wo : World, wo = wr := ⟨_, rfl⟩
    obtain ⟨M, k, hk, rfl, HE⟩ := hrel
    clear HE0
    by_cases hlt : k < n
    · have hkx : k < L.length := by rw [HLN.out]; exact hlt
      have hkI : (k : Int) < (n : Int) := by omega
      obtain ⟨m, hm⟩ : ∃ m, L[k]? = some m := ⟨_, List.getElem?_eq_getElem hkx⟩
      obtain ⟨b, off, rfl, hbl, _, hcl⟩ := (HR.out.but HE.out.keep (fun _ e => e)) (by rw [cellsM_len]; omega)
      have hc := cellsM_at L k m hm
      have q0 := hcl (k * 4) _ hc.1
      have q1 := hcl (k * 4 + 1) _ hc.2.1
      have q2 := hcl (k * 4 + 2) _ hc.2.2.1
      have q3 := hcl (k * 4 + 3) _ hc.2.2.2
      unfold MsgM.sl at q3
      rw [← Nat.add_assoc] at q1 q2 q3
      obtain ⟨w1, hw1⟩ : ∃ V, wo.alloc (.cells #[.int .i64 m.num, .int .i64 m.src, .int .i64 m.dst, .slice m.A m.bytes.length m.c] 83) = V := ⟨_, rfl⟩
      have hb1 : Below wo.heap.size wo w1 := by rw [← hw1]; exact (Below.refl _ _).alloc (Nat.le_refl _) _
      have hx1 : w1.heap[wo.heap.size]? = some (.cells #[.int .i64 m.num, .int .i64 m.src, .int .i64 m.dst, .slice m.A m.bytes.length m.c] 83 (0, 0)) := by rw [← hw1]; exact World.alloc_heap_new _ _
      have hmb := HBY.out m (List.mem_of_getElem? hm)
      have hrd1 := ((hmb.1.but HE.out.keep (fun _ e => e)).but (But.of_all hb1 (fun _ => False)) (fun _ e => e.elim)).rd
      have h46 := copied_any m.num m.src m.dst w1.heap.size m.bytes.length m.c m.A m.bytes w1 rfl hrd1 (Nat.le_refl _) hmb.2
      obtain ⟨⟨x0, x1, x2, x3⟩, _⟩ := four_cells hx1
      have HB1 := Lib.hid hb1
      have HM := Lib.hid hm
      clear hb1 hx1 hmb hrd1 hc hcl hm
      go_upto_region 3 with fail
      clear hw1 q0 q1 q2 q3
      refine (wpIn_wide (n := 3)).1 ?_
      gi_wp2_with ((try refine ⟨trivial, ?_⟩); gi_at_call 46; refine (callsIn_wide.2 h46).mono ?_; clear h46; rintro e w2 ⟨A', c', rfl, hown, hb2⟩; have hb02 := HB1.out.trans (hb2.mono HB1.out.size); have hszw := Nat.le_trans HE.out.sz HB1.out.size; obtain ⟨fn, tmps, assign, body, hy, hR⟩ := HY.out M k #[.agg #[.int .i64 m.num, .int .i64 m.src, .int .i64 m.dst, .slice A' m.bytes.length c']] w2 (fun b e => ⟨(HE.out.m b e).1, Nat.lt_of_lt_of_le (HE.out.m b e).2 hb02.size⟩) (HJ.out M k _ _ HE.out.j (fun b e => (HE.out.m b e).2) (But.of_all hb02 _)) ⟨m, A', c', HM.out, rfl, own_base hown hszw⟩)
      refine (roundIn_any hR).mono ?_
      clear hR hy
      have HB02 := Lib.hid hb02
      have HSZW := Lib.hid hszw
      have HOWN := Lib.hid hown
      clear hb02 hszw hown hb2 x0 x1 x2 x3
      have HM3 : Hid (∀ (M' : Nat → Prop) (W3 : World), SubZ rowP #[.agg #[.int .i64 m.num, .int .i64 m.src, .int .i64 m.dst, .slice A' m.bytes.length c']] M M' w2 W3 → w2.heap.size ≤ W3.heap.size → ∀ b, M' b → Lb ≤ b ∧ b < W3.heap.size) := Lib.hid fun M' W3 hsub hz b e => by
        have h8 : HAl L Lb k #[.agg #[.int .i64 m.num, .int .i64 m.src, .int .i64 m.dst, .slice A' m.bytes.length c']] w2 := ⟨m, A', c', HM.out, rfl, own_base HOWN.out HSZW.out⟩
        have h9 := HE.out.sz
        have h10 := HB02.out.size
        rcases hsub b e with (e | e) | e
        · have := HE.out.m b e; omega
        · have := rowP_lo h8 e; have := rowP_hi h8 e; omega
        · omega
      rintro e W3 (⟨rfl, _, ⟨M', hsub, hJ3⟩, hbut⟩ | ⟨rfl, ⟨M', hsub, hJx3⟩, hbut⟩)
      · have HE3 : Hid (AlAtZ X J w W3 Lb M' (k + 1)) := Lib.hid ⟨hJ3, HM3.out M' W3 hsub hbut.size, (HE.out.keep.trans (But.of_all HB02.out _) (fun _ _ e => e)).trans hbut (fun b _ e => by
          rcases e with (e | e | e) | e
          · exact .inl e
          · exact .inr e.1
          · exact .inr (Nat.le_trans HWL.out (rowP_lo (L := L) (k := k) ⟨m, A', c', HM.out, rfl, own_base HOWN.out HSZW.out⟩ e))
          · exact .inr (Nat.le_trans HWL.out (HE.out.m b e).1)), Nat.le_trans HE.out.sz (Nat.le_trans HB02.out.size hbut.size)⟩
        clear hbut hJ3 hsub
        gi_wp2
        go_wp2_with fail
        go_roundw
        case rel => exact ⟨M', k + 1, by omega, by go_num, HE3⟩
        case measure => simp [RowKit.intOf]; omega
      · gi_wp2
        go_wp2_with fail
        refine bodyPost_ret (results_none rfl _ _ _) rfl ?_
        exact ⟨⟨_, rfl⟩, .inr ⟨M', k + 1, ⟨by omega, by omega⟩, by rw [HLL.out]; exact HM3.out M' W3 hsub hbut.size, hJx3⟩⟩
    · obtain rfl : k = n := by omega
      go_wp2_with fail
      go_end0
      exact ⟨⟨_, rfl⟩, .inl ⟨M, _, rfl, by rw [HLL.out]; exact HE.out.m, HE.out.j⟩⟩
end Go.Proofs
namespace Go.Proofs
open Go Go.RowKit Sm Go.Lib Go.Maps Go.WideMaps
attribute [local go_sem] Oper.semAt_some
set_option maxRecDepth 100000 in
set_option maxHeartbeats 2000000 in
theorem Sm.mapClone_any {Mb n : Nat} {D : DataW Value} (w : World) (h : w.ownsMap Try.prog 94 heldElem Mb n D) : Calls Try.prog 48 #[.map (some Mb)] w fun e w' => e = .returned (.map (some w.heap.size)) ∧ w'.ownsMap Try.prog 94 heldElem w.heap.size n D ∧ Below w.heap.size w w' := by
  obtain ⟨es, clock, hb, F, hs, hD⟩ := h
  have hq := fun w => run_eql_map_nil_sl (P := Try.prog) w 32 _ _ (some Mb) Try.underlying32
  have hB : Below w.heap.size w (w.alloc (.map es clock)) := (Below.refl _ w).alloc (Nat.le_refl _) _
  go_enter Try.func48, Try.ntmps48
  go_wp2
  rw [run_callFunc_extern (fn := Try.f68) (by kernel_rfl) (by kernel_rfl) (by kernel_rfl) (by kernel_rfl) (e := Extern.MapsClone.clone) (by kernel_rfl), run_maps_clone_sl w 32 hb]
  simp only [Result.andThen]
  rw [Oper.upon_value]
  go_wp2
  rw [run_typeAssert_map_sl _ 32 20 _ _ _ Try.underlying32]
  simp only [Result.andThen]
  rw [Oper.upon_value]
  go_wp2
  go_ret
  exact ⟨rfl, ⟨es, clock, (MapKept.heap_alloc w _).1, F, hs, hD⟩, hB⟩
theorem Sm.own_type_ne {W : World} {b1 b2 s1 s2 n1 n2 : Nat} {e1 e2 : TypeId} {v1 v2 : Value} {x1 x2 : List Value} (h1 : W.ownsRow b1 e1 s1 v1 n1 x1) (h2 : W.ownsRow b2 e2 s2 v2 n2 x2) (hne : e1 ≠ e2) : ∀ b, v1.ownBlock = some b → v2.ownBlock ≠ some b := fun b h3 h4 => by
  rcases h1.2 with ⟨h8, _⟩ | ⟨g1, cap1, cur1, h8, _, h9, _⟩
  · rw [h8] at h3; cases h3
  · rcases h2.2 with ⟨k8, _⟩ | ⟨g2, cap2, cur2, k8, _, k9, _⟩
    · rw [k8] at h4; cases h4
    · rw [h8] at h3
      rw [k8] at h4
      have e1 : g1 = b := Option.some.inj h3
      have e2 : g2 = b := Option.some.inj h4
      rw [e1] at h9
      rw [e2, h9] at k9
      injection k9 with k9
      injection k9 with _ k9 _
      exact hne k9
/-- how the copy stands while messages are put to it -/
def Sm.CpI (N : NM) (L : List MsgM) (pc Mc base : Nat) (v : World) (M : Nat → Prop) (k : Nat) (W : World) : Prop :=
  ∃ (Ak : Option Addr) (ck : Nat) (Lk : List MsgM), W.heap[pc]? = some (.cells #[.int .i64 N.s.ends, .int .i64 N.s.most, .int .i64 N.s.came, .map (some Mc), .slice Ak Lk.length ck] 35 (0, 0)) ∧ Lk.length = k ∧ Lk.map MsgM.d = (L.map MsgM.d).take k ∧ W.ownsRow base 83 4 (.slice Ak Lk.length ck) Lk.length (cellsM Lk) ∧ (∀ m ∈ Lk, W.ownsRow base 5 1 m.sl m.bytes.length (m.bytes.map byteCell)) ∧
    (∀ m ∈ Lk, ∀ b, m.sl.ownBlock = some b → (Value.slice Ak Lk.length ck).ownBlock ≠ some b) ∧ (∀ b, (Value.slice Ak Lk.length ck).ownBlock = some b → M b) ∧ (∀ m ∈ Lk, ∀ b, m.sl.ownBlock = some b → M b) ∧ But (fun b => b = pc) v W
set_option maxRecDepth 100000 in
set_option maxHeartbeats 4000000 in
theorem Sm.copy_N {B : Nat → Prop} {p : Nat} {N : NM} (w : World) (h : Nt B w p N) : Calls Try.prog 22 #[.pointer (some ⟨p, 0, none⟩)] w fun e w' => ∃ p', e = .returned (.pointer (some ⟨p', 0, none⟩)) ∧ Nt (fun b => w.heap.size ≤ b ∧ b < w'.heap.size) w' p' N ∧ Below w.heap.size w w' := by
  obtain ⟨Mb, base, A, cap, L, h1, h2, h3, h4, h5, h6⟩ := h
  have h42 := there_yes w h1
  have hblk := h1.blk
  obtain ⟨⟨x0, x1, x2, x3, x4⟩, _⟩ := five_cells hblk
  have hlim := h1.lim
  have hlnk := h1.lnk
  have hmsg := h1.msg
  have hbytm := h1.byt
  obtain ⟨Dm, hDm, hDl⟩ := h1.map
  obtain ⟨w1, hw1⟩ : ∃ V, w.alloc (.cells #[.int .i64 N.s.ends, .int .i64 N.s.most, .int .i64 N.s.came, .map (some Mb), .slice A L.length cap] 35) = V := ⟨_, rfl⟩
  have hb1 : Below w.heap.size w w1 := by rw [← hw1]; exact (Below.refl _ w).alloc (Nat.le_refl _) _
  have hx3 : w1.heap[w.heap.size]? = some (.cells #[.int .i64 N.s.ends, .int .i64 N.s.most, .int .i64 N.s.came, .map (some Mb), .slice A L.length cap] 35 (0, 0)) := by rw [← hw1]; exact World.alloc_heap_new w _
  have hs1 : w1.heap.size = w.heap.size + 1 := by rw [← hw1]; simp
  have h48 := mapClone_any w1 (map_keep hDm (hb1.block _ hDm.lt))
  have y3 := (hb1.cell (p := ⟨p, 3, none⟩) (Array.getElem?_eq_some_iff.1 hblk).1).trans x3
  have H1 := Lib.hid h1
  have HB1 := Lib.hid hb1
  have HX3 := Lib.hid hx3
  have HS1 := Lib.hid hs1
  have HD := Lib.hid hDl
  have HLIM := Lib.hid hlim
  have HLNK := Lib.hid hlnk
  have HMSG := Lib.hid hmsg
  have HBYT := Lib.hid hbytm
  have HL2 := Lib.hid h2
  obtain ⟨pc, hpc⟩ : ∃ q, w.heap.size = q := ⟨_, rfl⟩
  have HPC := Lib.hid hpc
  have hLI : (L.length : Int) ≤ 4096 := by omega
  clear h1 hb1 hx3 hs1 hDm hDl hblk hlim hlnk hmsg hbytm h2 h3 h4 h5 h6
  refine (callsIn_wide (n := 3)).1 (callsIn_of_wp_marks Try.func22 rfl trivial ?_ rfl)
  refine wpIn_wide.2 ?_
  simp only [Try.ntmps22, List.size_toArray, List.length_cons, List.length_nil, Nat.reduceAdd, Nat.reduceSub, Array.replicate_succ, Array.replicate_zero, List.push_toArray, List.append_toArray, List.nil_append, List.cons_append]
  go_upto_region 4 with (go_at_call 42; (with_reducible refine h42.mono ?_); clear h42; rintro e w' ⟨rfl, rfl⟩)
  clear hw1 x0 x1 x2 x3 x4
  have hx3 := HX3.out
  rw [hpc] at hx3
  obtain ⟨Mc, hMc⟩ : ∃ q, w1.heap.size = q := ⟨_, rfl⟩
  rw [hMc] at h48
  have hltc : pc < Mc := by rw [← hMc]; exact (Array.getElem?_eq_some_iff.1 hx3).1
  have HMC := Lib.hid hMc
  clear hpc hMc
  go_upto_region 6 with (go_at_call 48; (with_reducible refine h48.mono ?_); clear h48; rintro e w2 ⟨rfl, hmap2, hb2⟩; have hx2 := (hb2.block _ hltc).trans hx3; obtain ⟨⟨z0, z1, z2, z3, z4⟩, ⟨g0, g1, g2, g3, g4⟩⟩ := five_cells hx2)
  have hx5 := heap_setCells (i := 4) (u := .slice none 0 0) (heap_setCells (i := 3) (u := .map (some Mc)) hx2)
  have hb5a : But (fun b => b = pc) w2 (w2.setCell ⟨pc, 3, none⟩ (.map (some Mc))) := (But.refl _ _).set ⟨pc, 3, none⟩ _ (.inl rfl)
  have hb5 : But (fun b => b = pc) w2 ((w2.setCell ⟨pc, 3, none⟩ (.map (some Mc))).setCell ⟨pc, 4, none⟩ (.slice none 0 0)) := hb5a.set ⟨pc, 4, none⟩ _ (.inl rfl)
  clear hb5a
  obtain ⟨w3, hw3⟩ : ∃ V, (w2.setCell ⟨pc, 3, none⟩ (.map (some Mc))).setCell ⟨pc, 4, none⟩ (.slice none 0 0) = V := ⟨_, rfl⟩
  rw [hw3] at hx5 hb5 ⊢
  simp only [List.setIfInBounds_toArray, List.set_cons_zero, List.set_cons_succ] at hx5
  have hp1 : w1.heap.size = Mc := HMC.out
  have hb02 : Below w.heap.size w w2 := HB1.out.trans ((show Below w1.heap.size w1 w2 by rw [hp1]; exact hb2).mono HB1.out.size)
  have hn2 := H1.out.keep hb02
  have hn3 : NAt w3 p Mb base N.s N.D A cap L := hn2.but hb5 (by have := H1.out.low; have := HPC.out; omega) (by have := H1.out.low; have := HPC.out; omega) (fun b e e2 => by have := (H1.out.row.lt b e).2; have := HPC.out; omega) (fun m hm b e e2 => by have := ((H1.out.byt m hm).lt b e).2; have := HPC.out; omega)
  have hmc3 := map_keep hmap2 (hb5.block _ hmap2.lt (by omega))
  have hb03 : Below w.heap.size w w3 := hb02.trans (hb5.to_below hb02.size (fun b e => by have := HPC.out; omega))
  have hlt3 : Mc < w3.heap.size := hmc3.lt
  have hall := all_at w3 hn3
  have HX5 := Lib.hid hx5
  have HMC3 := Lib.hid hmc3
  have HB03 := Lib.hid hb03
  have HN3 := Lib.hid hn3
  clear hx2 hb5 hw3 hb02 hn2 hn3 hb03 hb2 hmap2 z0 z1 z2 z3 z4 g0 g1 g2 g3 g4 hx5 hmc3 hx3 hp1 y3
  go_wp2_with (go_at_call 16; (with_reducible refine hall.mono ?_); clear hall; rintro e w4 ⟨q, A', c', rfl, hq1, hq2, hq3, hb4⟩; have HQ := Lib.hid (And.intro hq1 (And.intro hq2 hq3)); have HB4 := Lib.hid hb4; clear hq1 hq2 hq3 hb4)
  rename_i K hK
  have hs34 := HB4.out.size
  have hx54 := (HB4.out.block _ (by omega)).trans HX5.out
  have hrl : Rds w4 (fun b => b = pc) A' (cellsM L) := own_rds HQ.out.2.2 (fun b e => by omega)
  have hbyt : ∀ m ∈ L, Rds w4 (fun b => b = pc) m.A (m.bytes.map byteCell) ∧ m.bytes.length ≤ 8192 := fun m hm => ⟨(Sm.Rds.less (S' := fun b => b = pc) (own_rds (S := fun _ => False) (HBYT.out m hm) (fun _ e => e.elim)) (fun b hb e => by have := HPC.out; omega)).but (But.of_all (HB03.out.trans (HB4.out.mono HB03.out.size)) (fun _ => False)) (fun _ e => e.elim), (HMSG.out m hm).2.2.2.2.2.2⟩
  obtain ⟨i83, q83, r83, s83, t83⟩ := info83
  refine (wpIn_wide (n := 3)).1 ?_
  refine wpIn_rangeZP (gf := 45) (lb := #[.pointer (some ⟨q, 0, none⟩)]) rfl (enters_of Try.func45 (by kernel_rfl) rfl)
    (all_seqZ w4 (fun b => b = pc) HQ.out.2.1 rfl (by omega) hrl hbyt) (fun b e => by omega) ?hH ?hrow ?hrow2 20 4 41 rfl ?hargs
    (CpI N L pc Mc (w4.heap.size + 2) w4) ?hI ⟨none, 0, [], hx54, rfl, by simp, World.ownsRow_nil _ _ _ _, fun m hm => (by cases hm), fun m hm => (by cases hm), fun b e => (by cases e), fun m hm => (by cases hm), But.refl _ _⟩ ?assign ?body ?done
  case hH =>
    rintro k args W W' ⟨m, A9, c9, g1, g2, g3⟩ hb
    exact ⟨m, A9, c9, g1, g2, hb.row g3 (fun g e e2 => by have := (g3.lt g e).1; omega)⟩
  case hrow => exact fun k args W b hh e => rowP_lo hh e
  case hrow2 => exact fun k args W b hh e => rowP_hi hh e
  case hargs =>
    rintro k args W ⟨m, A9, c9, _, rfl, _⟩
    exact ⟨_, rfl⟩
  case hI =>
    rintro M k W W' ⟨Ak, ck, Lk, i1, i2, i3, i4, i5, i6, i7, i8, i9⟩ hM hb
    exact ⟨Ak, ck, Lk, hb.box i1 (fun e => e (.inl (by omega))), i2, i3, hb.row i4 (fun g e e2 => e2 (.inr (i7 g e))), fun m hm => hb.row (i5 m hm) (fun g e e2 => e2 (.inr (i8 m hm g e))), i6, i7, i8, i9.trans hb (fun b h1 h2 => absurd (.inl h1) h2)⟩
  case assign =>
    rintro l0 k C W K hsz ⟨m, A9, c9, _, hC, _⟩ hK
    obtain rfl : #[.int .i64 m.num, .int .i64 m.src, .int .i64 m.dst, .slice A9 m.bytes.length c9] = C := by
      injection hC with hC
      injection hC with hC _
      injection hC with hC
      exact hC.symm
    simp only [List.setIfInBounds_toArray, List.set_cons_zero, List.set_cons_succ] at hK ⊢
    gi_wp2
    exact hK
  case body =>
    rintro l0 M k t C W ht hxt hsz hM ⟨Ak, ck, Lk, i1, i2, i3, i4, i5, i6, i7, i8, i9⟩ ⟨m, A9, c9, hm, hC, hrow⟩
    obtain rfl : #[.int .i64 m.num, .int .i64 m.src, .int .i64 m.dst, .slice A9 m.bytes.length c9] = C := by
      injection hC with hC
      injection hC with hC _
      injection hC with hC
      exact hC.symm
    simp only [List.setIfInBounds_toArray, List.set_cons_zero, List.set_cons_succ]
    obtain ⟨⟨x0, x1, x2, x3, x4⟩, _⟩ := five_cells i1
    obtain ⟨⟨y0, y1, y2, y3⟩, _⟩ := four_cells hxt
    have hkl : k < L.length := (List.getElem?_eq_some_iff.1 hm).1
    have hba : Below W.heap.size W (W.alloc (.cells #[.int .i64 m.num, .int .i64 m.src, .int .i64 m.dst, .slice A9 m.bytes.length c9] 83)) := (Below.refl _ _).alloc (Nat.le_refl _) _
    have hnew := World.alloc_heap_new W (.cells #[.int .i64 m.num, .int .i64 m.src, .int .i64 m.dst, .slice A9 m.bytes.length c9] 83)
    have hrowa := i4.alloc (.cells #[.int .i64 m.num, .int .i64 m.src, .int .i64 m.dst, .slice A9 m.bytes.length c9] 83)
    have hxa := (hba.block _ (Array.getElem?_eq_some_iff.1 i1).1).trans i1
    have hpcM : ∀ b, (Value.slice Ak Lk.length ck).ownBlock = some b → pc ≠ b := fun b e e2 => by have := (i4.lt b e).1; omega
    have HI := Lib.hid (And.intro i2 (And.intro i3 (And.intro i5 (And.intro i6 (And.intro i7 (And.intro i8 i9))))))
    have HI4 := Lib.hid i4
    have HRW := Lib.hid hrow
    have HM := Lib.hid hm
    have HSEP9 : Hid (∀ b, (Value.slice A9 m.bytes.length c9).ownBlock = some b → (Value.slice Ak Lk.length ck).ownBlock ≠ some b) := Lib.hid fun b e e2 => own_type_ne hrow i4 (by decide) b e e2
    have HBa := Lib.hid hba
    have HXa := Lib.hid hxa
    have HPM := Lib.hid hpcM
    have hll : Lk.length ≤ 4096 := by omega
    have hbase : w4.heap.size + 2 ≤ (W.alloc (.cells #[.int .i64 m.num, .int .i64 m.src, .int .i64 m.dst, .slice A9 m.bytes.length c9] 83)).heap.size := by have := hba.size; omega
    clear i2 i3 i4 i5 i6 i7 i8 i9 hm hC hrow hba hxa hpcM hxt
    gi_wp2_with (gi_at_builtin; refine wpListIn_append_own_at _ rfl (.tmp 22) (.tmp 25) 33 rfl (w4.heap.size + 2) 83 i83 _ 4 48 Try.underlying33 q83 r83 s83 t83 rfl (by decide) _ Lk.length (cellsM Lk) rfl hrowa ⟨W.heap.size, 0, none⟩ 1 1 [.int .i64 m.num, .int .i64 m.src, .int .i64 m.dst, .slice A9 m.bytes.length c9] rfl rfl (four_at hnew) (four_one m.num m.src m.dst A9 m.bytes.length c9) (by unfold maxLen; omega) (by omega) hbase ?_; intro v6 W6 hown6 hg6 _ hat6; obtain ⟨A6, c6, rfl⟩ := own_form hown6; have hx6 := (But.grown hg6).box HXa.out (fun e => HPM.out _ e rfl); obtain ⟨_, ⟨g0, g1, g2, g3, g4⟩⟩ := five_cells hx6)
    have hx7 := heap_setCells (i := 4) (u := .slice A6 (Lk.length + 1) c6) hx6
    have hb67 : But (fun b => b = pc) W6 (W6.setCell ⟨pc, 4, none⟩ (.slice A6 (Lk.length + 1) c6)) := (But.refl _ _).set ⟨pc, 4, none⟩ _ (.inl rfl)
    obtain ⟨W7, hW7⟩ : ∃ V, W6.setCell ⟨pc, 4, none⟩ (.slice A6 (Lk.length + 1) c6) = V := ⟨_, rfl⟩
    rw [hW7] at hx7 hb67 ⊢
    simp only [List.setIfInBounds_toArray, List.set_cons_zero, List.set_cons_succ] at hx7
    obtain ⟨j2, j3, j5, j6, j7, j8, j9⟩ := HI.out
    obtain ⟨m', hm'⟩ : ∃ m' : MsgM, m' = ⟨m.num, m.src, m.dst, m.bytes, A9, c9⟩ := ⟨_, rfl⟩
    have hlen : (Lk ++ [m']).length = Lk.length + 1 := by simp
    have hsl : m'.sl = .slice A9 m.bytes.length c9 := by rw [hm']; rfl
    have hmb : m'.bytes = m.bytes := by rw [hm']
    have hd : m'.d = m.d := by rw [hm']; rfl
    have hbW6 : But (fun b => (Value.slice Ak Lk.length ck).ownBlock = some b) W W6 := (But.of_all HBa.out _).trans (But.grown hg6) (fun _ _ e => e)
    have hbW7 : But (fun b => b = pc ∨ (Value.slice Ak Lk.length ck).ownBlock = some b) W W7 := (hbW6.mono (fun b _ e => .inr e)).trans hb67 (fun b _ e => .inl e)
    have hrp : ∀ b, m'.sl.ownBlock = some b → rowP #[.agg #[.int .i64 m.num, .int .i64 m.src, .int .i64 m.dst, .slice A9 m.bytes.length c9]] b := fun b e => ⟨_, _, _, _, _, _, rfl, by rw [← hsl]; exact e⟩
    have hown7 : W7.ownsRow (w4.heap.size + 2) 83 4 (.slice A6 (Lk.length + 1) c6) (Lk.length + 1) (cellsM (Lk ++ [m'])) := by
      rw [cellsM_add]
      have e : m'.cells = [.int .i64 m.num, .int .i64 m.src, .int .i64 m.dst, .slice A9 m.bytes.length c9] := by rw [hm']; rfl
      rw [e]
      exact hb67.row hown6 (fun g e e2 => by have := (hown6.lt g e).1; omega)
    have hrb : W7.ownsRow (w4.heap.size + 2) 5 1 (.slice A9 m.bytes.length c9) m.bytes.length (m.bytes.map byteCell) := hbW7.row HRW.out (fun g e e2 => by
      rcases e2 with e2 | e2
      · have := (HRW.out.lt g e).1; omega
      · exact HSEP9.out g e e2)
    have hne6 : ∀ b, m'.sl.ownBlock = some b → (Value.slice A6 (Lk.length + 1) c6).ownBlock ≠ some b := fun b e e2 => by
      rw [hsl] at e
      rcases hat6 with h | h
      · rw [h] at e2; exact HSEP9.out b e e2
      · rw [h] at e2
        have := (HRW.out.lt b e).2
        have h9 := HBa.out.size
        injection e2 with e2
        omega
    have hne5 : ∀ m0 ∈ Lk, ∀ b, m0.sl.ownBlock = some b → (Value.slice A6 (Lk.length + 1) c6).ownBlock ≠ some b := fun m0 h0 b e e2 => by
      rcases hat6 with h | h
      · rw [h] at e2; exact j6 m0 h0 b e e2
      · rw [h] at e2
        have := ((j5 m0 h0).lt b e).2
        have h9 := HBa.out.size
        injection e2 with e2
        omega
    refine ⟨trivial, hbW7.mono (fun b _ e => ?_), fun b => (Value.slice A6 (Lk.length + 1) c6).ownBlock = some b ∨ ∃ m0 ∈ Lk ++ [m'], m0.sl.ownBlock = some b, fun b e => ?_, A6, c6, Lk ++ [m'], by rw [hlen]; exact hx7, by rw [hlen, j2], ?_, by rw [hlen]; exact hown7, fun m0 h0 => ?_, fun m0 h0 b e => ?_, fun b e => .inl (by rw [hlen] at e; exact e), fun m0 h0 b e => .inr ⟨m0, h0, e⟩, ?_⟩
    · rcases e with e | e
      · exact .inl (.inl e)
      · exact .inr (j7 b e)
    · rcases e with e | ⟨m0, h0, e⟩
      · rcases hat6 with h | h
        · rw [h] at e; exact .inl (.inl (j7 b e))
        · rw [h] at e
          injection e with e
          have h9 := HBa.out.size
          have h10 := (hown7.lt b (by rw [h, e])).2
          exact .inr ⟨by omega, h10⟩
      · rcases List.mem_append.1 h0 with h0 | h0
        · exact .inl (.inl (j8 m0 h0 b e))
        · rw [List.mem_singleton] at h0
          subst h0
          exact .inl (.inr (hrp b e))
    · rw [List.map_append, j3, List.map_cons, List.map_nil, hd, List.take_add_one, List.getElem?_map, HM.out]
      rfl
    · rcases List.mem_append.1 h0 with h0 | h0
      · exact hbW7.row (j5 m0 h0) (fun g e e2 => by
          rcases e2 with e2 | e2
          · have := ((j5 m0 h0).lt g e).1; omega
          · exact j6 m0 h0 g e e2)
      · rw [List.mem_singleton] at h0
        subst h0
        rw [hsl, hmb]
        exact hrb
    · rw [hlen]
      rcases List.mem_append.1 h0 with h0 | h0
      · exact hne5 m0 h0 b e
      · rw [List.mem_singleton] at h0
        subst h0
        exact hne6 b e
    · exact j9.trans hbW7 (fun b hb e => by
        rcases e with e | e
        · exact e
        · have := (HI4.out.lt b e).1; omega)
  case done =>
    rintro M k W hk hM ⟨Ak, ck, Lk, i1, i2, i3, i4, i5, i6, i7, i8, i9⟩ hD
    have hbW : But (fun b => b = pc) w4 W := i9
    have hDf := hD
    have hlt4 : w4.heap.size + 1 ≤ W.heap.size := (Array.getElem?_eq_some_iff.1 hD).1
    have hbz := put_but W w4.heap.size (.deferred none)
    have hbl : Below w.heap.size w W := (HB03.out.trans (HB4.out.mono HB03.out.size)).trans (hbW.to_below (Nat.le_trans HB03.out.size hs34) (fun b e => by have := HPC.out; omega))
    have hLk : Lk.length = L.length := by rw [i2]; exact hk
    have hmapz : Lk.map MsgM.d = N.P := by rw [i3, show k = L.length from hk, ← HL2.out, List.take_of_length_le (by simp)]
    have hmsgz : ∀ m0 ∈ Lk, ∃ m1 ∈ L, m0.d = m1.d := fun m0 h0 => by
      have h1 : m0.d ∈ Lk.map MsgM.d := List.mem_map.2 ⟨m0, h0, rfl⟩
      rw [hmapz, ← HL2.out] at h1
      obtain ⟨m1, h2, h3⟩ := List.mem_map.1 h1
      exact ⟨m1, h2, h3.symm⟩
    have hcp : NAt W pc Mc (w4.heap.size + 1) N.s N.D Ak ck Lk := ⟨i1, ⟨Dm, map_keep HMC3.out (((HB4.out.block _ hlt3).symm ▸ (hbW.block _ (by omega) (by omega)))), HD.out⟩, own_base i4 (by omega), fun m0 h0 => own_base (i5 m0 h0) (by omega), i6, ⟨by omega, by omega, by omega, hlt4⟩, by rw [hLk]; exact HLIM.out, HLNK.out, fun m0 h0 => by
      obtain ⟨m1, h1, h2⟩ := hmsgz m0 h0
      unfold MsgM.d at h2
      injection h2 with e1 h2
      injection h2 with e2 h2
      injection h2 with e3 e4
      rw [e1, e2, e3, e4]
      exact HMSG.out m1 h1⟩
    have hszW := (Array.getElem?_eq_some_iff.1 i1).1
    have hnz : Nt (fun b => w.heap.size ≤ b ∧ b < (W.putObj w4.heap.size (.deferred none)).heap.size) (W.putObj w4.heap.size (.deferred none)) pc N :=
      ⟨Mc, w4.heap.size + 1, Ak, ck, Lk, hcp.but hbz (by omega) (by omega) (fun b e e2 => by have := (i4.lt b e).1; omega) (fun m0 h0 b e e2 => by have := ((i5 m0 h0).lt b e).1; omega), hmapz,
       ⟨by have := HPC.out; omega, by simpa using hszW⟩, ⟨by have := HPC.out; omega, by have : Mc < W.heap.size := (by omega); simpa using this⟩, fun b e => ⟨by have := (i4.lt b e).1; have := HPC.out; omega, by have := (i4.lt b e).2; simpa using this⟩, fun m0 h0 b e => ⟨by have := ((i5 m0 h0).lt b e).1; have := HPC.out; omega, by have := ((i5 m0 h0).lt b e).2; simpa using this⟩⟩
    have hbf := But.below hbl hbz (fun b e => by have := HPC.out; omega)
    have hpcw := HPC.out
    clear hmsgz hcp hmapz i1 i2 i3 i4 i5 i6 i7 i8 i9
    refine hK _ _ ?_
    clear hK
    go_wp2
    exact retM1 (D := w4.heap.size) (v := .pointer (some ⟨pc, 0, none⟩)) rfl hDf (by simp [results, Try.results22, go_sem]) ⟨pc, rfl, hnz, hbf⟩
end Go.Proofs
namespace Go.Proofs
open Go Go.RowKit Sm Go.Lib Go.Maps Go.WideMaps
attribute [local go_sem] Oper.semAt_some
theorem Sm.sub_same : ∀ (D1 D2 : List (Int × Int)), D1.Nodup → D2.Nodup → (∀ z ∈ D1, z ∈ D2) → D1.length = D2.length → ∀ z ∈ D2, z ∈ D1
  | [], D2, _, _, _, hl => by
    have : D2 = [] := List.eq_nil_of_length_eq_zero (by simpa using hl.symm)
    rw [this]
    exact fun z hz => hz
  | a :: r, D2, h1, h2, hs, hl => by
    obtain ⟨k1, k2⟩ := List.nodup_cons.1 h1
    have ha : a ∈ D2 := hs a (List.mem_cons_self ..)
    have hlen := len_delL (x := a) h2
    rw [if_pos ha] at hlen
    have ih := sub_same r (delL a D2) k2 (h2.filter _) (fun z hz => mem_delL.2 ⟨hs z (List.mem_cons_of_mem _ hz), fun e => k1 (e ▸ hz)⟩) (by simp only [List.length_cons] at hl; omega)
    intro z hz
    by_cases e : z = a
    · rw [e]; exact List.mem_cons_self ..
    · exact List.mem_cons_of_mem _ (ih z (mem_delL.2 ⟨hz, e⟩))
theorem Sm.sameN_comm {N1 N2 : NM} (h1 : N1.D.Nodup) (h2 : N2.D.Nodup) : sameN N1 N2 = sameN N2 N1 := by
  have hD : sameD N1.D N2.D = sameD N2.D N1.D := by
    rw [Bool.eq_iff_iff]
    unfold sameD inD
    simp only [Bool.and_eq_true, decide_eq_true_eq, List.all_eq_true]
    exact ⟨fun h => ⟨h.1.symm, sub_same _ _ h1 h2 h.2 h.1⟩, fun h => ⟨h.1.symm, sub_same _ _ h2 h1 h.2 h.1⟩⟩
  unfold sameN
  rw [hD, decide_eq_decide.2 (show N1.s.ends = N2.s.ends ↔ N2.s.ends = N1.s.ends from ⟨Eq.symm, Eq.symm⟩), decide_eq_decide.2 (show N1.s.most = N2.s.most ↔ N2.s.most = N1.s.most from ⟨Eq.symm, Eq.symm⟩), decide_eq_decide.2 (show N1.s.came = N2.s.came ↔ N2.s.came = N1.s.came from ⟨Eq.symm, Eq.symm⟩), decide_eq_decide.2 (show N1.P = N2.P ↔ N2.P = N1.P from ⟨Eq.symm, Eq.symm⟩)]
theorem Sm.Nt.nodup {B : Nat → Prop} {W : World} {p : Nat} {N : NM} (h : Nt B W p N) : N.D.Nodup := by
  obtain ⟨Mb, base, A, cap, L, h1, _⟩ := h
  obtain ⟨M, _, hD⟩ := h1.map
  exact hD.nodup
theorem Sm.stepV_s (N : NM) (x : ActV) : (stepV N x).s.ends = N.s.ends ∧ (stepV N x).s.most = N.s.most := by
  unfold stepV stepA
  split
  · unfold putN
    split <;> exact ⟨rfl, rfl⟩
  · split
    · exact ⟨rfl, rfl⟩
    · split
      · rw [takeN_s]; exact ⟨rfl, rfl⟩
      · split
        · rw [dropN_s]; exact ⟨rfl, rfl⟩
        · rw [downN_s]; exact ⟨rfl, rfl⟩
theorem Sm.runV_s : ∀ (xs : List ActV) (N : NM), (runV N xs).s.ends = N.s.ends ∧ (runV N xs).s.most = N.s.most
  | [], _ => ⟨rfl, rfl⟩
  | x :: r, N => by
    have h := runV_s r (stepV N x)
    have h2 := stepV_s N x
    exact ⟨h.1.trans h2.1, h.2.trans h2.2⟩
theorem Sm.came_rds {x : ActV} {w W : World} {S : Nat → Prop} (h : x.came w) (hb : But (fun b => w.heap.size ≤ b) w W) (hS : ∀ b, S b → w.heap.size ≤ b) : Rds W S x.A (x.bytes.map byteCell) := fun h0 => by
  obtain ⟨b, off, e1, e2, e3⟩ := h.rd (by simpa using h0)
  exact ⟨b, off, e1, Nat.lt_of_lt_of_le e2 hb.size, fun e => by have := hS b e; omega, fun j c hj => by
    rw [List.getElem?_map] at hj
    obtain ⟨y, hy, rfl⟩ := Option.map_eq_some_iff.1 hj
    exact (hb.cell (p := ⟨b, off + j, none⟩) e2 (fun e => by simp only at e; omega)).trans (e3 j y hy)⟩
theorem Sm.rdActs_two (w : World) (x y : ActV) : RdActs (w.alloc (.cells #[.int .i64 x.what, .int .i64 x.src, .int .i64 x.dst, .int .i64 x.pick, .slice x.A x.n x.c, .bool x.is, .int .i64 y.what, .int .i64 y.src, .int .i64 y.dst, .int .i64 y.pick, .slice y.A y.n y.c, .bool y.is] 64)) (some ⟨w.heap.size, 0, none⟩) [x, y] := fun _ => ⟨w.heap.size, 0, rfl, by simp, fun j z hj i v hi => by
  have h := fun i => cell_of_heap (World.alloc_heap_new w (.cells #[.int .i64 x.what, .int .i64 x.src, .int .i64 x.dst, .int .i64 x.pick, .slice x.A x.n x.c, .bool x.is, .int .i64 y.what, .int .i64 y.src, .int .i64 y.dst, .int .i64 y.pick, .slice y.A y.n y.c, .bool y.is] 64)) i
  match j, hj with
  | 0, hj =>
    obtain rfl : x = z := by simpa using hj
    have e : (⟨w.heap.size, 0 + 0 * 6 + i, none⟩ : Addr) = ⟨w.heap.size, i, none⟩ := by simp
    rw [e, h i]
    match i, hi with
    | 0, hi => exact hi
    | 1, hi => exact hi
    | 2, hi => exact hi
    | 3, hi => exact hi
    | 4, hi => exact hi
    | 5, hi => exact hi
    | i + 6, hi => simp [ActV.cells] at hi
  | 1, hj =>
    obtain rfl : y = z := by simpa using hj
    have e : (⟨w.heap.size, 0 + 1 * 6 + i, none⟩ : Addr) = ⟨w.heap.size, 6 + i, none⟩ := by simp
    rw [e, h (6 + i)]
    match i, hi with
    | 0, hi => exact hi
    | 1, hi => exact hi
    | 2, hi => exact hi
    | 3, hi => exact hi
    | 4, hi => exact hi
    | 5, hi => exact hi
    | i + 6, hi => simp [ActV.cells] at hi
  | j + 2, hj => simp at hj⟩
set_option maxRecDepth 100000 in
set_option maxHeartbeats 16000000 in
theorem Sm.copies_law (A : Option Addr) (n c : Nat) (xs : List ActV) (x y : ActV) (w : World) (hn : xs.length = n) (hc : n ≤ c) (hc2 : c ≤ 9223372036854775807) (hR : RdActs w A xs) (hcame : ∀ x ∈ xs, x.came w) (hx : x.came w) (hy : y.came w) :
    Calls Try.prog 7 #[.slice A n c, .agg #[.int .i64 x.what, .int .i64 x.src, .int .i64 x.dst, .int .i64 x.pick, .slice x.A x.n x.c, .bool x.is], .agg #[.int .i64 y.what, .int .i64 y.src, .int .i64 y.dst, .int .i64 y.pick, .slice y.A y.n y.c, .bool y.is]] w fun e w' => e = .returned (.bool true) ∧ Below w.heap.size w w' := by
  have hwk := fun W => works_any W
  obtain ⟨wA, hwA⟩ : ∃ V, (w.alloc (.cells #[.int .i64 x.what, .int .i64 x.src, .int .i64 x.dst, .int .i64 x.pick, .slice x.A x.n x.c, .bool x.is] 64)).alloc (.cells #[.int .i64 y.what, .int .i64 y.src, .int .i64 y.dst, .int .i64 y.pick, .slice y.A y.n y.c, .bool y.is] 64) = V := ⟨_, rfl⟩
  have hbA : Below w.heap.size w wA := by rw [← hwA]; exact bel2 w _ _
  have hxA0 : wA.heap[w.heap.size]? = some (.cells #[.int .i64 x.what, .int .i64 x.src, .int .i64 x.dst, .int .i64 x.pick, .slice x.A x.n x.c, .bool x.is] 64 (0, 0)) := by rw [← hwA]; exact old_alloc _ (new_alloc _ rfl)
  have hxA1 : wA.heap[w.heap.size + 1]? = some (.cells #[.int .i64 y.what, .int .i64 y.src, .int .i64 y.dst, .int .i64 y.pick, .slice y.A y.n y.c, .bool y.is] 64 (0, 0)) := by rw [← hwA]; exact new_alloc _ (by simp)
  have hsA : wA.heap.size = w.heap.size + 2 := by rw [← hwA]; simp
  have hRA := hR.keep hbA
  have hcA := fun x hx => (hcame x hx).keep hbA
  have hxc := hx.keep hbA
  have hyc := hy.keep hbA
  have hfew := few_any A n c xs 30 wA hRA hn hc hc2 hcA
  cases hf : fewM xs 30 with
  | false =>
    rw [hf] at hfew
    have HBA := Lib.hid hbA
    obtain ⟨d0, d1, d2, d3, d4, d5⟩ := six_cells hxA0
    obtain ⟨f0, f1, f2, f3, f4, f5⟩ := six_cells hxA1
    clear hf hR hcame hRA hcA hx hxc hy hyc hxA0 hxA1 hbA hsA
    go_enter Try.func7, Try.ntmps7
    go_upto_region 1 with fail
    clear hwA
    go_wp2_with (first
      | (go_at_call 9; (with_reducible refine hfew.mono ?_); rintro e w' ⟨rfl, rfl⟩)
      | (go_at_call 10; (with_reducible refine (hwk _).mono ?_); rintro e w1 ⟨rfl, hb⟩))
    go_ret
    exact ⟨rfl, HBA.out.trans (hb.mono HBA.out.size)⟩
  | true =>
    rw [hf] at hfew
    obtain ⟨hsm, hl50⟩ := few_small hf
    rw [hn] at hl50
    obtain ⟨wB, hwB⟩ : ∃ V, wA.alloc (.cells #[.int .i64 x.what, .int .i64 x.src, .int .i64 x.dst, .int .i64 x.pick, .slice x.A x.n x.c, .bool x.is, .int .i64 y.what, .int .i64 y.src, .int .i64 y.dst, .int .i64 y.pick, .slice y.A y.n y.c, .bool y.is] 64) = V := ⟨_, rfl⟩
    have hbB : Below wA.heap.size wA wB := by rw [← hwB]; exact (Below.refl _ _).alloc (Nat.le_refl _) _
    have hfew2 := few_any (some ⟨wA.heap.size, 0, none⟩) 2 2 [x, y] 2 wB (by rw [← hwB]; exact rdActs_two wA x y) rfl (by decide) (by decide) (fun z hz => by
      rcases List.mem_cons.1 hz with rfl | hz
      · exact hxc.keep hbB
      · obtain rfl : z = y := by simpa using hz
        exact hyc.keep hbB)
    have hbB0 := hbA.trans (hbB.mono hbA.size)
    obtain ⟨d0, d1, d2, d3, d4, d5⟩ := six_cells hxA0
    obtain ⟨f0, f1, f2, f3, f4, f5⟩ := six_cells hxA1
    cases hf2 : fewM [x, y] 2 with
    | false =>
      rw [hf2] at hfew2
      have HBA := Lib.hid hbB0
      clear hf hf2 hR hcame hRA hcA hx hxc hy hyc hxA0 hxA1 hbA hsA hbB hbB0
      go_enter Try.func7, Try.ntmps7
      go_upto_region 1 with fail
      clear hwA
      go_wp2_with (first
        | (go_at_call 9; (with_reducible refine hfew.mono ?_); clear hfew; rintro e w' ⟨rfl, rfl⟩)
        | (go_at_call 9; (with_reducible refine hfew2.mono ?_); rintro e w' ⟨rfl, rfl⟩)
        | (go_at_call 10; (with_reducible refine (hwk _).mono ?_); rintro e w1 ⟨rfl, hb⟩))
      go_ret
      exact ⟨rfl, HBA.out.trans (hb.mono HBA.out.size)⟩
    | true =>
      rw [hf2] at hfew2
      have hxn : x.n ≤ 200 := (few_small hf2).1 x (by simp)
      have hyn : y.n ≤ 200 := (few_small hf2).1 y (by simp)
      have hpl := played_any 4 20 A n c xs wB (by decide) (hRA.keep hbB) hn hc hc2 (fun x hx => (hcA x hx).keep hbB) hsm (by omega)
      have hlim := runV_lim 4 20 xs xs.length
      have hss := runV_s xs ⟨⟨4, 20, 0⟩, [], []⟩
      rw [List.take_length] at hlim
      obtain ⟨NK, hNK⟩ : ∃ N, runV ⟨⟨4, 20, 0⟩, [], []⟩ xs = N := ⟨_, rfl⟩
      rw [hNK] at hpl hlim hss
      simp only at hss
      unfold refV at hpl
      have HXC := Lib.hid (hxc.keep hbB)
      have HYC := Lib.hid (hyc.keep hbB)
      have HX0 := Lib.hid ((hbB.block _ (by omega)).trans hxA0)
      have HX1 := Lib.hid ((hbB.block _ (by omega)).trans hxA1)
      have HS0 : Hid (w.heap.size + 2 < wB.heap.size) := Lib.hid (by rw [← hwB]; simp; omega)
      have HBB := Lib.hid hbB0
      have HLIM : Hid (NK.s.came ≤ 30 ∧ NK.D.length ≤ 30) := Lib.hid (by omega)
      have HSS := Lib.hid hss
      have HWK := Lib.hid hwk
      clear hNK hf hf2 hR hcame hRA hcA hx hxc hy hyc hxA0 hxA1 hbA hsA hbB hbB0 hsm hn hl50 hlim hss hwk
      go_enter Try.func7, Try.ntmps7
      go_upto_region 1 with fail
      clear hwA
      go_upto_region 3 with (first
        | (go_at_call 9; (with_reducible refine hfew.mono ?_); clear hfew; rintro e w' ⟨rfl, rfl⟩)
        | (go_at_call 9; (with_reducible refine hfew2.mono ?_); clear hfew2; rintro e w' ⟨rfl, rfl⟩))
      clear hwB d0 d1 d2 d3 d4 d5 f0 f1 f2 f3 f4 f5
      go_upto_region 4 with (go_at_call 11; (with_reducible refine hpl.mono ?_); clear hpl; rintro e w1 ⟨p, B, A1, n1, c1, A2, n2, c2, R, rfl, hrf, hnt, hBb, hb1⟩)
      have hbc : Below w1.heap.size w1 (w1.alloc (.cells #[.int .i64 NK.s.ends, .int .i64 NK.s.most, .int .i64 NK.s.came, .slice A1 n1 c1, .slice A2 n2 c2] 29)) := (Below.refl _ _).alloc (Nat.le_refl _) _
      have hx8 := World.alloc_heap_new w1 (.cells #[.int .i64 NK.s.ends, .int .i64 NK.s.most, .int .i64 NK.s.came, .slice A1 n1 c1, .slice A2 n2 c2] 29)
      obtain ⟨w2, hw2⟩ : ∃ V, w1.alloc (.cells #[.int .i64 NK.s.ends, .int .i64 NK.s.most, .int .i64 NK.s.came, .slice A1 n1 c1, .slice A2 n2 c2] 29) = V := ⟨_, rfl⟩
      rw [hw2] at hbc hx8 ⊢
      obtain ⟨B8, hB8⟩ : ∃ t, w1.heap.size = t := ⟨_, rfl⟩
      have hrf2 : RfAt (fun b => B b ∨ w1.heap.size ≤ b) w2 NK A1 n1 c1 A2 n2 c2 R := (hrf.less (S' := fun b => B b ∨ w1.heap.size ≤ b) (fun b hb e => e.resolve_right (by omega))).keep hbc
      have hnt2 := hnt.keep hbc
      have hb2 := hb1.trans (hbc.mono hb1.size)
      rw [hB8] at hx8 hBb hrf2 ⊢
      have hlt8 := (Array.getElem?_eq_some_iff.1 hx8).1
      have hcp := copy_N w2 hnt2
      have HRF2 := Lib.hid hrf2
      have HNT2 := Lib.hid hnt2
      have HBb := Lib.hid hBb
      have HX8 := Lib.hid hx8
      have HB2 := Lib.hid hb2
      have HLT8 : Hid (wB.heap.size ≤ B8 ∧ B8 < w2.heap.size) := Lib.hid ⟨by rw [← hB8]; exact hb1.size, hlt8⟩
      clear hrf hnt hrf2 hnt2 hBb hx8 hb1 hb2 hbc hw2 hB8 hlt8
      go_upto_region 5 with (go_at_call 22; (with_reducible refine hcp.mono ?_); clear hcp; rintro e w3 ⟨p2, rfl, hntc, hb3⟩)
      have hnew := new_N 4 21 w3 (by decide)
      have HNTC := Lib.hid hntc
      have HB3 := Lib.hid hb3
      clear hntc hb3
      go_upto_region 6 with (go_at_call 26; (with_reducible refine hnew.mono ?_); clear hnew; rintro e w4 ⟨p3, rfl, hnto, hb4⟩)
      have HNTO := Lib.hid hnto
      have HB4 := Lib.hid hb4
      clear hnto hb4
      have hb24 : Below w2.heap.size w2 w4 := HB3.out.trans (HB4.out.mono HB3.out.size)
      have HB24 := Lib.hid hb24
      have HLD : Hid (NK.D.length ≤ 4096) := Lib.hid (by have := HLIM.out; omega)
      have hsc : sameN NK NK = true := sameN_yes rfl rfl rfl rfl rfl (fun z hz => hz)
      have hso : sameN NK ⟨⟨4, 21, 0⟩, [], []⟩ = false := sameN_no (fun e => by have h1 := e.2.1; have h2 := HSS.out.2; simp only at h1; omega)
      have H23c : Hid (∀ W, Below w4.heap.size w4 W → Calls Try.prog 23 #[.pointer (some ⟨p, 0, none⟩), .pointer (some ⟨p2, 0, none⟩)] W fun e w' => e = .returned (.bool true) ∧ Below W.heap.size W w') := Lib.hid fun W hb => by
        have := same_N W (HNT2.out.keep (HB24.out.trans (hb.mono HB24.out.size))) (HNTC.out.keep (HB4.out.trans (hb.mono HB4.out.size))) rfl HLD.out HLD.out
        rwa [hsc] at this
      have H23o : Hid (∀ W, Below w4.heap.size w4 W → Calls Try.prog 23 #[.pointer (some ⟨p, 0, none⟩), .pointer (some ⟨p3, 0, none⟩)] W fun e w' => e = .returned (.bool false) ∧ Below W.heap.size W w') := Lib.hid fun W hb => by
        have := same_N W (HNT2.out.keep (HB24.out.trans (hb.mono HB24.out.size))) (HNTO.out.keep hb) HSS.out.1 HLD.out (Nat.zero_le _)
        rwa [hso] at this
      have H29c : Hid (∀ W, Below w4.heap.size w4 W → Calls Try.prog 29 #[.pointer (some ⟨p2, 0, none⟩), .agg #[.int .i64 NK.s.ends, .int .i64 NK.s.most, .int .i64 NK.s.came, .slice A1 n1 c1, .slice A2 n2 c2]] W fun e w' => e = .returned (.bool true) ∧ Below W.heap.size W w') := Lib.hid fun W hb => is_any W (HNTC.out.keep (HB4.out.trans (hb.mono HB4.out.size))) (HRF2.out.keep (HB24.out.trans (hb.mono HB24.out.size)))
      have HX8l := Lib.hid (fun (W : World) (hb : Below w4.heap.size w4 W) => (five_cells (((HB24.out.trans (hb.mono HB24.out.size)).block _ HLT8.out.2).trans HX8.out)).1)
      have HBw4 : Hid (Below w4.heap.size w4 w4) := Lib.hid (Below.refl _ _)
      clear hb24 hsc hso
      go_upto_region 8 with (first
        | (go_at_call 23; (with_reducible refine (H23c.out _ HBw4.out).mono ?_); clear H23c; rintro e w5 ⟨rfl, hb⟩; have HBw5 := Lib.hid (HBw4.out.trans (hb.mono HBw4.out.size)); clear hb)
        | (go_at_call 23; (with_reducible refine (H23o.out _ HBw5.out).mono ?_); clear H23o; rintro e w6 ⟨rfl, hb⟩; have HBw6 := Lib.hid (HBw5.out.trans (hb.mono HBw5.out.size)); clear hb; obtain ⟨k80, k81, k82, k83, k84⟩ := HX8l.out _ HBw6.out)
        | (go_at_call 29; (with_reducible refine (H29c.out _ HBw6.out).mono ?_); clear H29c; rintro e w7 ⟨rfl, hb⟩; have HBw7 := Lib.hid (HBw6.out.trans (hb.mono HBw6.out.size)); clear hb k80 k81 k82 k83 k84))
      have hb27 : Below w2.heap.size w2 w7 := HB24.out.trans (HBw7.out.mono HB24.out.size)
      have hbB7 : Below wB.heap.size wB w7 := HB2.out.trans (hb27.mono HB2.out.size)
      obtain ⟨k80, k81, k82, k83, k84⟩ := HX8l.out _ HBw7.out
      obtain ⟨d0, d1, d2, d3, d4, d5⟩ := six_cells ((hbB7.block _ (by have := HS0.out; omega)).trans HX0.out)
      have HC3 : Hid (w2.heap.size ≤ w3.heap.size ∧ w3.heap.size ≤ w7.heap.size) := Lib.hid ⟨HB3.out.size, Nat.le_trans HB4.out.size HBw7.out.size⟩
      have hact := act_any (S := fun b => B b ∨ (w2.heap.size ≤ b ∧ b < w3.heap.size)) x.what x.src x.dst x.pick x.A x.n x.c x.is w7 (HNT2.out.keep hb27) ((HRF2.out.keep hb27).less (fun b _ e => e.imp id (fun e => by have := HLT8.out; omega))) (fun b e => .inl e) (fun b e => by
        rcases e with e | e
        · have := (HBb.out b e).2; have := HLT8.out; have := hb27.size; omega
        · have := HC3.out; omega) x.bytes HXC.out.len (by omega) (came_rds HXC.out (But.of_all hbB7 _) (fun b e => by
        rcases e with e | e
        · exact (HBb.out b e).1
        · have := HLT8.out; omega)) (by have := HLIM.out; omega) (by have := HLIM.out; have := HRF2.out.dlen; omega)
      obtain ⟨N1, hN1⟩ : ∃ N, stepA NK x.what x.src x.dst x.pick x.bytes x.is = N := ⟨_, rfl⟩
      have hs1 := stepV_s NK x
      have hl1 := stepV_lim NK x
      have hv1 : stepV NK x = N1 := hN1
      rw [hv1] at hs1 hl1
      rw [hN1] at hact
      unfold refV at hact
      have HB27 := Lib.hid hb27
      have HBB7 := Lib.hid hbB7
      have HS1 := Lib.hid hs1
      have HL1 := Lib.hid hl1
      clear hN1 hv1 hs1 hl1 hb27 hbB7
      go_upto_region 9 with (go_at_call 27; (with_reducible refine hact.mono ?_); clear hact; rintro e w8 ⟨A3, n3, c3, A4, n4, c4, R1, B', S', rfl, hrf1, hnt1, hbut1, hSS, hBS, hSl, hSo, hBo⟩)
      have hbc : Below w8.heap.size w8 (w8.alloc (.cells #[.int .i64 N1.s.ends, .int .i64 N1.s.most, .int .i64 N1.s.came, .slice A3 n3 c3, .slice A4 n4 c4] 29)) := (Below.refl _ _).alloc (Nat.le_refl _) _
      have hx13 := World.alloc_heap_new w8 (.cells #[.int .i64 N1.s.ends, .int .i64 N1.s.most, .int .i64 N1.s.came, .slice A3 n3 c3, .slice A4 n4 c4] 29)
      obtain ⟨w9, hw9⟩ : ∃ V, w8.alloc (.cells #[.int .i64 N1.s.ends, .int .i64 N1.s.most, .int .i64 N1.s.came, .slice A3 n3 c3, .slice A4 n4 c4] 29) = V := ⟨_, rfl⟩
      rw [hw9] at hbc hx13 ⊢
      obtain ⟨B13, hB13⟩ : ∃ t, w8.heap.size = t := ⟨_, rfl⟩
      have HB13 : Hid (w7.heap.size ≤ B13 ∧ B13 < w9.heap.size) := Lib.hid ⟨by rw [← hB13]; exact hbut1.size, by rw [← hB13]; exact (Array.getElem?_eq_some_iff.1 hx13).1⟩
      -- what stands at w9
      have hBl : ∀ b, B b → wB.heap.size ≤ b ∧ b < B8 := HBb.out
      have hrf9 : RfAt (fun b => B b ∨ B8 ≤ b) w9 NK A1 n1 c1 A2 n2 c2 R := (((HRF2.out.keep HB27.out).but hbut1 (fun b e => .inl e))).keep hbc
      have hrfn : RfAt S' w9 N1 A3 n3 c3 A4 n4 c4 R1 := hrf1.keep hbc
      have hntn : Nt B' w9 p N1 := hnt1.keep hbc
      have hc7 : Nt (fun b => w2.heap.size ≤ b ∧ b < w3.heap.size) w7 p2 NK := HNTC.out.keep (HB4.out.trans (HBw7.out.mono HB4.out.size))
      have hntc9 : Nt (fun b => w2.heap.size ≤ b ∧ b < w3.heap.size) w9 p2 NK := (hc7.but hbut1 (fun b e e2 => by have := (hBl b e).2; have := HLT8.out; omega)).keep hbc
      have hx89 : w9.heap[B8]? = some (.cells #[.int .i64 NK.s.ends, .int .i64 NK.s.most, .int .i64 NK.s.came, .slice A1 n1 c1, .slice A2 n2 c2] 29 (0, 0)) := (hbc.block _ (by have := hbut1.size; have := HLT8.out; have := HB27.out.size; omega)).trans (hbut1.box ((HB27.out.block _ HLT8.out.2).trans HX8.out) (fun e => by have := (hBl _ e).2; omega))
      have hbut19 : But (fun b => wB.heap.size ≤ b) wB w9 := (((But.of_all HBB7.out (fun b => wB.heap.size ≤ b)).trans hbut1 (fun b _ e => (hBl b e).1)).trans (But.of_all hbc (fun b => wB.heap.size ≤ b)) (fun _ _ e => e))
      rw [hB13] at hx13 ⊢
      have HRF9 := Lib.hid hrf9
      have HRFN := Lib.hid hrfn
      have HNTN := Lib.hid hntn
      have HNTC9 := Lib.hid hntc9
      have HX89 := Lib.hid hx89
      have HX13 := Lib.hid hx13
      have HBUT9 := Lib.hid hbut19
      have HSP := Lib.hid (And.intro hSS (And.intro hBS (And.intro hSl (And.intro hSo hBo))))
      have HSZ : Hid (w7.heap.size ≤ w8.heap.size ∧ w8.heap.size ≤ w9.heap.size) := Lib.hid ⟨hbut1.size, hbc.size⟩
      clear hrf9 hrfn hntn hc7 hntc9 hx89 hx13 hbut19 hSS hBS hSl hSo hBo hbc hw9 hrf1 hnt1 hbut1 hB13 hBl k80 k81 k82 k83 k84 d0 d1 d2 d3 d4 d5 HX8l HRF2 HNT2 HNTC HNTO HX8
      obtain ⟨⟨k80, k81, k82, k83, k84⟩, _⟩ := five_cells HX89.out
      obtain ⟨⟨j0, j1, j2, j3, j4⟩, _⟩ := five_cells HX13.out
      have hrs := refSame_any w9 HRF9.out HRFN.out
      unfold refV at hrs
      obtain ⟨q, hq⟩ : ∃ q, sameN NK N1 = q := ⟨_, rfl⟩
      rw [hq] at hrs
      have HQ := Lib.hid hq
      clear hq
      go_upto_region 10 with (go_at_call 30; (with_reducible refine hrs.mono ?_); clear hrs; rintro e w10 ⟨rfl, hb10⟩)
      have HB10 := Lib.hid hb10
      clear hb10 k80 k81 k82 k83 k84 j0 j1 j2 j3 j4
      have HLD1 : Hid (N1.D.length ≤ 4096) := Lib.hid (by have := HLIM.out; have := HL1.out; omega)
      have H23a : Hid (∀ W, Below w9.heap.size w9 W → Calls Try.prog 23 #[.pointer (some ⟨p, 0, none⟩), .pointer (some ⟨p2, 0, none⟩)] W fun e w' => e = .returned (.bool q) ∧ Below W.heap.size W w') := Lib.hid fun W hb => by
        have := same_N W (HNTN.out.keep hb) (HNTC9.out.keep hb) HS1.out.1 HLD1.out HLD.out
        rwa [sameN_comm HNTN.out.nodup HNTC9.out.nodup, HQ.out] at this
      have H23b : Hid (∀ W, Below w9.heap.size w9 W → Calls Try.prog 23 #[.pointer (some ⟨p2, 0, none⟩), .pointer (some ⟨p, 0, none⟩)] W fun e w' => e = .returned (.bool q) ∧ Below W.heap.size W w') := Lib.hid fun W hb => by
        have := same_N W (HNTC9.out.keep hb) (HNTN.out.keep hb) HS1.out.1.symm HLD.out HLD1.out
        rwa [HQ.out] at this
      have hqq : (q != q) = false := by cases q <;> rfl
      go_upto_region 12 with (first
        | (go_at_call 23; (with_reducible refine (H23a.out _ HB10.out).mono ?_); clear H23a; rintro e w11 ⟨rfl, hb⟩; have HB11 := Lib.hid (HB10.out.trans (hb.mono HB10.out.size)); clear hb)
        | (go_at_call 23; (with_reducible refine (H23b.out _ HB11.out).mono ?_); clear H23b; rintro e w12 ⟨rfl, hb⟩; have HB12 := Lib.hid (HB11.out.trans (hb.mono HB11.out.size)); clear hb))
      have hbB12 : But (fun b => wB.heap.size ≤ b) wB w12 := HBUT9.out.trans (But.of_all HB12.out (fun b => wB.heap.size ≤ b)) (fun _ _ e => e)
      obtain ⟨⟨k80, k81, k82, k83, k84⟩, _⟩ := five_cells ((HB12.out.block _ (Array.getElem?_eq_some_iff.1 HX89.out).1).trans HX89.out)
      obtain ⟨d0, d1, d2, d3, d4, d5⟩ := six_cells (hbB12.box HX1.out (by have := HS0.out; omega))
      have hact := act_any (S := fun b => w2.heap.size ≤ b ∧ b < w3.heap.size) y.what y.src y.dst y.pick y.A y.n y.c y.is w12 (HNTC9.out.keep HB12.out) ((HRF9.out.keep HB12.out).less (fun b _ e => .inr (by have := HLT8.out; omega))) (fun b e => e) (fun b e => by have := HC3.out; have := HSZ.out; have := HB12.out.size; omega) y.bytes HYC.out.len (by omega) (came_rds HYC.out hbB12 (fun b e => by have := HLT8.out; omega)) (by have := HLIM.out; omega) (by have := HLIM.out; have := HRF9.out.dlen; omega)
      obtain ⟨N2, hN2⟩ : ∃ N, stepA NK y.what y.src y.dst y.pick y.bytes y.is = N := ⟨_, rfl⟩
      rw [hN2] at hact
      unfold refV at hact
      have HBB12 := Lib.hid hbB12
      clear hN2 hbB12
      go_upto_region 13 with (go_at_call 27; (with_reducible refine hact.mono ?_); clear hact; rintro e w13 ⟨A5, n5, c5, A6, n6, c6, R2, B2', S2', rfl, hrf2, hnt2, hbut2, hSS2, hBS2, hSl2, hSo2, hBo2⟩)
      have hbc : Below w13.heap.size w13 (w13.alloc (.cells #[.int .i64 N2.s.ends, .int .i64 N2.s.most, .int .i64 N2.s.came, .slice A5 n5 c5, .slice A6 n6 c6] 29)) := (Below.refl _ _).alloc (Nat.le_refl _) _
      have hx16 := World.alloc_heap_new w13 (.cells #[.int .i64 N2.s.ends, .int .i64 N2.s.most, .int .i64 N2.s.came, .slice A5 n5 c5, .slice A6 n6 c6] 29)
      obtain ⟨w14, hw14⟩ : ∃ V, w13.alloc (.cells #[.int .i64 N2.s.ends, .int .i64 N2.s.most, .int .i64 N2.s.came, .slice A5 n5 c5, .slice A6 n6 c6] 29) = V := ⟨_, rfl⟩
      rw [hw14] at hbc hx16 ⊢
      obtain ⟨h1', h2', h3', h4', h5'⟩ := HSP.out
      have hrfn : RfAt S' w14 N1 A3 n3 c3 A4 n4 c4 R1 := ((HRFN.out.keep HB12.out).but hbut2 (fun b e => h1' b (.inr e))).keep hbc
      have hntn : Nt B' w14 p N1 := ((HNTN.out.keep HB12.out).but hbut2 (fun b e e2 => by
        by_cases hlt : b < w7.heap.size
        · have := (HBb.out b (h5' b hlt e2)).2; have := HLT8.out; omega
        · have := HC3.out; omega)).keep hbc
      have hrfl := hrf2.keep hbc
      have hntl := hnt2.keep hbc
      have hx13 : w14.heap[B13]? = some (.cells #[.int .i64 N1.s.ends, .int .i64 N1.s.most, .int .i64 N1.s.came, .slice A3 n3 c3, .slice A4 n4 c4] 29 (0, 0)) := (hbc.block _ (by have := hbut2.size; have := HB12.out.size; have := HB13.out; omega)).trans (hbut2.box ((HB12.out.block _ HB13.out.2).trans HX13.out) (fun e => by have := HC3.out; have := HB13.out; omega))
      have hlt13 := (Array.getElem?_eq_some_iff.1 hx13).1
      have hlt16 := (Array.getElem?_eq_some_iff.1 hx16).1
      have hbw : Below w.heap.size w w14 := HBB.out.trans ((((HBB12.out.to_below (n := w.heap.size) HBB.out.size (fun b e => by have := HBB.out.size; omega)).trans ((hbut2.to_below (n := w.heap.size) (by have := HBB12.out.size; have := HBB.out.size; omega) (fun b e => by have := HLT8.out; have := HBB.out.size; omega)))).trans (hbc.mono (by have := hbut2.size; have := HBB12.out.size; have := HBB.out.size; omega))))
      have H29n : Hid (∀ W, Below w14.heap.size w14 W → Calls Try.prog 29 #[.pointer (some ⟨p, 0, none⟩), .agg #[.int .i64 N1.s.ends, .int .i64 N1.s.most, .int .i64 N1.s.came, .slice A3 n3 c3, .slice A4 n4 c4]] W fun e w' => e = .returned (.bool true) ∧ Below W.heap.size W w') := Lib.hid fun W hb => is_any W (hntn.keep hb) (hrfn.keep hb)
      have H29l : Hid (∀ W, Below w14.heap.size w14 W → Calls Try.prog 29 #[.pointer (some ⟨p2, 0, none⟩), .agg #[.int .i64 N2.s.ends, .int .i64 N2.s.most, .int .i64 N2.s.came, .slice A5 n5 c5, .slice A6 n6 c6]] W fun e w' => e = .returned (.bool true) ∧ Below W.heap.size W w') := Lib.hid fun W hb => is_any W (hntl.keep hb) (hrfl.keep hb)
      have HX16 := Lib.hid (fun (W : World) (hb : Below w14.heap.size w14 W) => (five_cells ((hb.block _ hlt16).trans hx16)).1)
      have HBW := Lib.hid hbw
      obtain ⟨⟨j0, j1, j2, j3, j4⟩, _⟩ := five_cells hx13
      clear hrfn hntn hrfl hntl hx13 hx16 hlt13 hlt16 hbw hbc hw14 hrf2 hnt2 hbut2 hSS2 hBS2 hSl2 hSo2 hBo2 h1' h2' h3' h4' h5' k80 k81 k82 k83 k84 d0 d1 d2 d3 d4 d5
      have HB14 : Hid (Below w14.heap.size w14 w14) := Lib.hid (Below.refl _ _)
      go_wp2_with (first
        | (go_at_call 29; (with_reducible refine (H29n.out _ HB14.out).mono ?_); clear H29n; rintro e w15 ⟨rfl, hb⟩; have HB15 := Lib.hid (HB14.out.trans (hb.mono HB14.out.size)); clear hb; obtain ⟨i0, i1, i2, i3, i4⟩ := HX16.out _ HB15.out)
        | (go_at_call 29; (with_reducible refine (H29l.out _ HB15.out).mono ?_); clear H29l; rintro e w16 ⟨rfl, hb⟩; have HB16 := Lib.hid (HB15.out.trans (hb.mono HB15.out.size)); clear hb)
        | (go_at_call 10; (with_reducible refine (HWK.out _).mono ?_); rintro e w17 ⟨rfl, hb⟩; have HB17 := Lib.hid (HB16.out.trans (hb.mono HB16.out.size)); clear hb))
      go_ret
      exact ⟨rfl, HBW.out.trans (HB17.out.mono HBW.out.size)⟩
end Go.Proofs
