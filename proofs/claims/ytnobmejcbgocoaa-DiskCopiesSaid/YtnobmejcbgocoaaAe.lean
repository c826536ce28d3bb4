/-
  Two of the document's disks are the same: as the data are. A copy stands alike and goes on apart, and which are the same: the walk of DiskCopies. Conditions: as each theorem names them.
-/
import Derived.Test.YtnobmejcbgocoaaAd
namespace Go.Proofs
open Go Go.RowKit Sm Go.Lib Go.Maps Go.WideMaps
attribute [local go_sem] Oper.semAt_some
theorem Sm.strB_cmp (a b : List (BitVec 8)) : ((strB a).toList == (strB b).toList) = decide (a = b) := by rw [str_cmp, strL_strB, strL_strB]
set_option maxRecDepth 100000 in
set_option maxHeartbeats 4000000 in
theorem Sm.refSame_any {S S2 : Nat → Prop} (s1 s2 : DSt) (A1 A2 : Option Addr) (n1 c1 n2 c2 : Nat) (fs1 fs2 : List FileR) (w : World) (h1 : FsAt S w A1 fs1) (h2 : FsAt S2 w A2 fs2) (hn1 : fs1.length = n1) (hn2 : fs2.length = n2) (hm1 : n1 ≤ 100000) (hm2 : n2 ≤ 100000) (he1 : EndOK s1) (he2 : EndOK s2) :
    Calls Try.prog 32 #[refV s1 A1 n1 c1, refV s2 A2 n2 c2] w fun e w' => e = .returned (.bool (sameM s1 (fs1.map fun f => f.t) s2 (fs2.map fun f => f.t))) ∧ Below w.heap.size w w' := by
  obtain ⟨st1, a1, de1, r1⟩ := s1
  obtain ⟨st2, a2, de2, r2⟩ := s2
  have hz1 : st1 = false → a1 = 0 := he1.1
  have hz2 : st2 = false → a2 = 0 := he2.1
  unfold refV
  dsimp only
  obtain ⟨R, hR⟩ : ∃ R, sameM ⟨st1, a1, de1, r1⟩ (fs1.map fun f => f.t) ⟨st2, a2, de2, r2⟩ (fs2.map fun f => f.t) = R := ⟨_, rfl⟩
  rw [hR]
  obtain ⟨w2, hw2⟩ : ∃ w2, (w.alloc (.cells #[.int .i64 r1, .slice A1 n1 c1, .bool st1, .int .i64 a1, .bool de1] 28)).alloc (.cells #[.int .i64 r2, .slice A2 n2 c2, .bool st2, .int .i64 a2, .bool de2] 28) = w2 := ⟨_, rfl⟩
  have hb2 : Below w.heap.size w w2 := by rw [← hw2]; exact ((Below.refl _ w).alloc (Nat.le_refl _) _).alloc (by simp) _
  have hx : w2.heap[w.heap.size]? = some (.cells #[.int .i64 r1, .slice A1 n1 c1, .bool st1, .int .i64 a1, .bool de1] 28 (0, 0)) := by
    rw [← hw2]; exact (Below.heap_alloc _ _ _ (by simp)).trans (World.alloc_heap_new w _)
  have hy : w2.heap[w.heap.size + 1]? = some (.cells #[.int .i64 r2, .slice A2 n2 c2, .bool st2, .int .i64 a2, .bool de2] 28 (0, 0)) := by
    rw [← hw2]
    have := World.alloc_heap_new (w.alloc (.cells #[.int .i64 r1, .slice A1 n1 c1, .bool st1, .int .i64 a1, .bool de1] 28)) (.cells #[.int .i64 r2, .slice A2 n2 c2, .bool st2, .int .i64 a2, .bool de2] 28)
    rwa [World.size_alloc] at this
  obtain ⟨x0, x1, x2, x3, x4⟩ := cells5 hx
  obtain ⟨y0, y1, y2, y3, y4⟩ := cells5 hy
  have hlx := (Array.getElem?_eq_some_iff.1 hx).1
  have hly := (Array.getElem?_eq_some_iff.1 hy).1
  have HX := Lib.hid hx
  have HY := Lib.hid hy
  have HB2 := Lib.hid hb2
  have HW2 := Lib.hid hw2
  have HRR := Lib.hid hR
  have H1 := Lib.hid h1
  have H2 := Lib.hid h2
  have HN1 := Lib.hid hn1
  have HN2 := Lib.hid hn2
  clear hx hy hb2 hw2 hR h1 h2 hn1 hn2 he1 he2
  go_enter Try.func32, Try.ntmps32
  go_upto_region 1 with fail
  rw [HW2.out]
  by_cases hr : ¬ (r1 = r2)
  · have e1 : (r1 != r2) = true := by simp [hr]
    have hR : R = false := by rw [← HRR.out]; unfold sameM; simp [hr]
    subst hR
    go_wp2
    go_ret
    exact ⟨rfl, HB2.out⟩
  have hr := Classical.not_not.1 hr
  have e1 : (r1 != r2) = false := by simp [hr]
  by_cases hs : ¬ (st1 = st2)
  · have hR : R = false := by rw [← HRR.out]; unfold sameM endB; simp [hs]
    subst hR
    cases st1 <;> cases st2 <;> first | exact absurd rfl hs | (go_wp2; go_ret; exact ⟨rfl, HB2.out⟩)
  have hs := Classical.not_not.1 hs
  by_cases ha : ¬ (a1 = a2)
  · have hR : R = false := by rw [← HRR.out]; unfold sameM endB; simp [ha]
    subst hR hs
    have e2 : (a1 != a2) = true := by simp [ha]
    cases st1
    · exact absurd ((hz1 rfl).trans (hz2 rfl).symm) ha
    · go_wp2
      go_ret
      exact ⟨rfl, HB2.out⟩
  have ha := Classical.not_not.1 ha
  have e2 : (a1 != a2) = false := by simp [ha]
  by_cases hd : ¬ (de1 = de2)
  · have hR : R = false := by rw [← HRR.out]; unfold sameM endB; simp [hd]
    subst hR hs
    cases st1 <;> cases de1 <;> cases de2 <;> first | exact absurd rfl hd | (go_wp2; go_ret; exact ⟨rfl, HB2.out⟩)
  have hd := Classical.not_not.1 hd
  by_cases hl : ¬ (n1 = n2)
  · have hR : R = false := by
      rw [← HRR.out]
      unfold sameM
      have : ¬ (fs1.map (fun f => f.t) = fs2.map fun f => f.t) := fun e => by
        have := congrArg List.length e
        rw [List.length_map, List.length_map, HN1.out, HN2.out] at this
        exact hl this
      simp [this]
    have e3 : ((n1 : Int) != (n2 : Int)) = true := by simp; omega
    subst hR hs hd
    cases st1 <;> cases de1 <;> (go_wp2; go_ret; exact ⟨rfl, HB2.out⟩)
  have hl := Classical.not_not.1 hl
  have e3 : ((n1 : Int) != (n2 : Int)) = false := by simp; omega
  subst hr hs hd hl
  have HRE : Hid (R = decide (fs1.map (fun f => f.t) = fs2.map fun f => f.t)) := Lib.hid (by rw [← HRR.out]; unfold sameM endB; simp [ha])
  subst ha
  clear HRR
  have e4 : (de1 != de1) = false := by simp
  have e5 : (st1 != st1) = false := by simp
  have hnI : (n1 : Int) ≤ 100000 := by omega
  clear hz1 hz2
  cases st1
  all_goals
    go_wp2
    go_loopw [5] (fun v5 wr => ∃ k : Nat, k ≤ n1 ∧ v5 = .int .i64 (k : Int) ∧ Hid ((fs1.map fun f => f.t).take k = (fs2.map fun f => f.t).take k) ∧ Hid (Below w2.heap.size w2 wr)) (fun v5 _ => n1 - (RowKit.intOf v5).toNat)
    case atStart => exact ⟨0, Nat.zero_le _, rfl, Lib.hid rfl, Lib.hid (Below.refl _ _)⟩
    case round =>
      obtain ⟨wo, rfl⟩ : ∃ wo : World, wo = wr := ⟨_, rfl⟩
      obtain ⟨k, hk, rfl, HE, HB⟩ := hrel
      obtain ⟨x0, x1, x2, x3, x4⟩ := cells5 ((HB.out.block _ hlx).trans HX.out)
      obtain ⟨y0, y1, y2, y3, y4⟩ := cells5 ((HB.out.block _ hly).trans HY.out)
      have HBW := Lib.hid (HB2.out.trans (HB.out.mono HB2.out.size))
      by_cases hlt : k < n1
      · have hk1 : k < fs1.length := by rw [HN1.out]; exact hlt
        have hk2 : k < fs2.length := by rw [HN2.out]; exact hlt
        obtain ⟨f, hf⟩ : ∃ f, fs1[k] = f := ⟨_, rfl⟩
        obtain ⟨g, hg⟩ : ∃ g, fs2[k] = g := ⟨_, rfl⟩
        have hfk : fs1[k]? = some f := by rw [List.getElem?_eq_getElem hk1, hf]
        have hgk : fs2[k]? = some g := by rw [List.getElem?_eq_getElem hk2, hg]
        have hLf : (fs1.map fun f => f.t)[k]? = some f.t := by rw [List.getElem?_map, hfk]; rfl
        have hLg : (fs2.map fun f => f.t)[k]? = some g.t := by rw [List.getElem?_map, hgk]; rfl
        have HLF := Lib.hid hLf
        have HLG := Lib.hid hLg
        obtain ⟨b, off, rfl, hb, _, hcl⟩ := H1.out.1 (by omega)
        obtain ⟨bb, oo, rfl, hbb, _, hcm⟩ := H2.out.1 (by omega)
        have hfo := H1.out.2 f (List.mem_of_getElem? hfk)
        have hgo := H2.out.2 g (List.mem_of_getElem? hgk)
        have hc1 := hcl k f hfk
        have hc2 := hcm k g hgk
        obtain ⟨N1, hN1⟩ : ∃ x, strB f.t.1 = x := ⟨_, rfl⟩
        obtain ⟨N2, hN2⟩ : ∃ x, strB g.t.1 = x := ⟨_, rfl⟩
        obtain ⟨l1, hl1⟩ : ∃ x, f.t.2.1.length = x := ⟨_, rfl⟩
        obtain ⟨l2, hl2⟩ : ∃ x, g.t.2.1.length = x := ⟨_, rfl⟩
        obtain ⟨v1, hv1⟩ : ∃ x, f.t.2.2 = x := ⟨_, rfl⟩
        obtain ⟨v2, hv2⟩ : ∃ x, g.t.2.2 = x := ⟨_, rfl⟩
        obtain ⟨Af, hAf⟩ : ∃ x, f.A = x := ⟨_, rfl⟩
        obtain ⟨Ag, hAg⟩ : ∃ x, g.A = x := ⟨_, rfl⟩
        obtain ⟨cf, hcf⟩ : ∃ x, f.c = x := ⟨_, rfl⟩
        obtain ⟨cg, hcg⟩ : ∃ x, g.c = x := ⟨_, rfl⟩
        have p0 : wo.cell? ⟨b, off + k * 3, none⟩ = some (.string N1) := (HBW.out.cell (p := ⟨b, off + k * 3, none⟩) hb).trans (by rw [← hN1]; exact hc1 0 _ rfl)
        have p1 : wo.cell? ⟨b, off + k * 3 + 1, none⟩ = some (.slice Af l1 cf) := (HBW.out.cell (p := ⟨b, off + k * 3 + 1, none⟩) hb).trans (by rw [← hAf, ← hl1, ← hcf]; exact hc1 1 _ rfl)
        have p2 : wo.cell? ⟨b, off + k * 3 + 2, none⟩ = some (.int .i64 (v1 : Int)) := (HBW.out.cell (p := ⟨b, off + k * 3 + 2, none⟩) hb).trans (by rw [← hv1]; exact hc1 2 _ rfl)
        have t0 : wo.cell? ⟨bb, oo + k * 3, none⟩ = some (.string N2) := (HBW.out.cell (p := ⟨bb, oo + k * 3, none⟩) hbb).trans (by rw [← hN2]; exact hc2 0 _ rfl)
        have t1 : wo.cell? ⟨bb, oo + k * 3 + 1, none⟩ = some (.slice Ag l2 cg) := (HBW.out.cell (p := ⟨bb, oo + k * 3 + 1, none⟩) hbb).trans (by rw [← hAg, ← hl2, ← hcg]; exact hc2 1 _ rfl)
        have t2 : wo.cell? ⟨bb, oo + k * 3 + 2, none⟩ = some (.int .i64 (v2 : Int)) := (HBW.out.cell (p := ⟨bb, oo + k * 3 + 2, none⟩) hbb).trans (by rw [← hv2]; exact hc2 2 _ rfl)
        obtain ⟨T1, hT1⟩ : ∃ x, strB f.t.2.1 = x := ⟨_, rfl⟩
        obtain ⟨T2, hT2⟩ : ∃ x, strB g.t.2.1 = x := ⟨_, rfl⟩
        have s1 : ∀ m, (convert 36 9 (.slice Af l1 cf)).run Try.prog (wo.drewN m) = .ok (.string T1) (wo.drewN m) := fun m => by
          rw [← hT1]
          exact run_str (P := Try.prog) (wo.drewN m) 36 5 Try.underlying36 Try.underlying5 f.t.2.1 l1 cf wo.heap.size Af hl1 (by rw [← hAf]; exact (hfo.but (But.of_all HBW.out (fun _ => False)) (fun _ e => e.elim)).1.rd) 9 Try.underlying9
        have s2 : ∀ m, (convert 36 9 (.slice Ag l2 cg)).run Try.prog (wo.drewN m) = .ok (.string T2) (wo.drewN m) := fun m => by
          rw [← hT2]
          exact run_str (P := Try.prog) (wo.drewN m) 36 5 Try.underlying36 Try.underlying5 g.t.2.1 l2 cg wo.heap.size Ag hl2 (by rw [← hAg]; exact (hgo.but (But.of_all HBW.out (fun _ => False)) (fun _ e => e.elim)).1.rd) 9 Try.underlying9
        have hki : ¬ (k : Int) < 0 := by omega
        have hkn : (k : Int) < (n1 : Int) := by omega
        have hNO : f.t ≠ g.t → R = false := fun e => by
          rw [HRE.out]
          refine decide_eq_false (fun e2 => e ?_)
          rw [e2] at HLF
          exact Option.some.inj (HLF.out.symm.trans HLG.out)
        have hYE : f.t = g.t → (fs1.map fun f => f.t).take (k + 1) = (fs2.map fun f => f.t).take (k + 1) := fun e => by
          rw [List.take_add_one, List.take_add_one, HE.out, HLF.out, HLG.out, e]
        clear hc1 hc2 hcl hcm
        go_upto_region 6 with fail
        by_cases d1 : ¬ (f.t.1 = g.t.1)
        · have hR := hNO (fun e => d1 (congrArg (fun t => t.1) e))
          have q1 : (N1.toList == N2.toList) = false := by rw [← hN1, ← hN2, strB_cmp]; exact decide_eq_false d1
          have q1n : (N1.toList != N2.toList) = true := by unfold bne; rw [q1]; rfl
          subst hR
          clear hNO hYE hN1 hN2 hT1 hT2 hfo hgo HLF HLG hLf hLg hfk hgk hf hg hl1 hl2 hv1 hv2 hAf hAg hcf hcg
          go_quiet (fail)
          go_wp2
          go_ret
          exact ⟨rfl, HBW.out.trans ⟨rfl, rfl, rfl, Nat.le_refl _, fun _ _ => rfl⟩⟩
        have d1 := Classical.not_not.1 d1
        have q1 : (N1.toList == N2.toList) = true := by rw [← hN1, ← hN2, strB_cmp]; exact decide_eq_true d1
        have q1n : (N1.toList != N2.toList) = false := by unfold bne; rw [q1]; rfl
        by_cases d2 : ¬ (f.t.2.1 = g.t.2.1)
        · have hR := hNO (fun e => d2 (congrArg (fun t => t.2.1) e))
          have q2 : (T1.toList == T2.toList) = false := by rw [← hT1, ← hT2, strB_cmp]; exact decide_eq_false d2
          have q2n : (T1.toList != T2.toList) = true := by unfold bne; rw [q2]; rfl
          subst hR
          clear hNO hYE hN1 hN2 hT1 hT2 hfo hgo HLF HLG hLf hLg hfk hgk hf hg hl1 hl2 hv1 hv2 hAf hAg hcf hcg
          go_quiet (fail)
          go_wp2
          go_ret
          exact ⟨rfl, HBW.out.trans ⟨rfl, rfl, rfl, Nat.le_refl _, fun _ _ => rfl⟩⟩
        have d2 := Classical.not_not.1 d2
        have q2 : (T1.toList == T2.toList) = true := by rw [← hT1, ← hT2, strB_cmp]; exact decide_eq_true d2
        have q2n : (T1.toList != T2.toList) = false := by unfold bne; rw [q2]; rfl
        by_cases d3 : ¬ (v1 = v2)
        · have hR := hNO (fun e => d3 (by rw [← hv1, ← hv2, e]))
          have q3 : ((v1 : Int) != (v2 : Int)) = true := by simp; omega
          subst hR
          clear hNO hYE hN1 hN2 hT1 hT2 hfo hgo HLF HLG hLf hLg hfk hgk hf hg hl1 hl2 hv1 hv2 hAf hAg hcf hcg
          go_quiet (fail)
          go_wp2
          go_ret
          exact ⟨rfl, HBW.out.trans ⟨rfl, rfl, rfl, Nat.le_refl _, fun _ _ => rfl⟩⟩
        have d3 := Classical.not_not.1 d3
        have q3 : ((v1 : Int) != (v2 : Int)) = false := by simp; omega
        have HYE := Lib.hid (hYE (by
          have h3 : f.t.2.2 = g.t.2.2 := by rw [hv1, hv2]; exact d3
          exact Prod.ext d1 (Prod.ext d2 h3)))
        clear hNO hYE hN1 hN2 hT1 hT2 hfo hgo HLF HLG hLf hLg hfk hgk hf hg hl1 hl2 hv1 hv2 hAf hAg hcf hcg d1 d2 d3
        go_quiet (fail)
        go_wp2
        go_roundw
        case rel => exact ⟨k + 1, by omega, by go_num, HYE, Lib.hid (HB.out.trans ⟨rfl, rfl, rfl, Nat.le_refl _, fun _ _ => rfl⟩)⟩
        case measure => simp [RowKit.intOf]; omega
      · obtain rfl : k = n1 := by omega
        have hR : R = true := by
          rw [HRE.out]
          refine decide_eq_true ?_
          have h3 := HE.out
          rw [List.take_of_length_le (by rw [List.length_map, HN1.out]; exact Nat.le_refl _), List.take_of_length_le (by rw [List.length_map, HN2.out]; exact Nat.le_refl _)] at h3
          exact h3
        subst hR
        go_wp2
        go_ret
        exact ⟨rfl, HBW.out⟩
theorem Sm.sameM_comm (s1 s2 : DSt) (L1 L2 : List (List (BitVec 8) × List (BitVec 8) × Nat)) : sameM s1 L1 s2 L2 = sameM s2 L2 s1 L1 := by
  unfold sameM endB
  rw [Bool.eq_iff_iff]
  simp only [Bool.and_eq_true, beq_iff_eq, decide_eq_true_eq]
  constructor
  · rintro ⟨⟨h1, ⟨h2, h3⟩, h4⟩, h5⟩
    exact ⟨⟨h1.symm, ⟨h2.symm, h3.symm⟩, h4.symm⟩, h5.symm⟩
  · rintro ⟨⟨h1, ⟨h2, h3⟩, h4⟩, h5⟩
    exact ⟨⟨h1.symm, ⟨h2.symm, h3.symm⟩, h4.symm⟩, h5.symm⟩
theorem Sm.two_acts (x y : ActV) (w : World) (m : Nat × Nat) : RdActs (w.alloc (.cells (x.cells ++ y.cells).toArray 68 m)) (some ⟨w.heap.size, 0, none⟩) [x, y] := fun _ => by
  refine ⟨w.heap.size, 0, rfl, by simp, fun j z hz i v hv => ?_⟩
  have hnew : ∀ k u, (x.cells ++ y.cells)[k]? = some u → (w.alloc (.cells (x.cells ++ y.cells).toArray 68 m)).cell? ⟨w.heap.size, 0 + k, none⟩ = some u := fun k u hu => by
    have := cell_of_heap (World.alloc_heap_new w (.cells (x.cells ++ y.cells).toArray 68 m)) k
    rw [Nat.zero_add, this, List.getElem?_toArray, hu]
  have h8 : ∀ u : ActV, u.cells.length = 8 := fun _ => rfl
  have hil : i < 8 := by rw [← h8 z]; exact (List.getElem?_eq_some_iff.1 hv).1
  match j, hz with
  | 0, hz =>
    simp only [List.getElem?_cons_zero, Option.some.injEq] at hz
    subst hz
    rw [show 0 + 0 * 8 + i = 0 + i by omega]
    exact hnew i v (by rw [List.getElem?_append_left (by rw [h8]; exact hil)]; exact hv)
  | 1, hz =>
    simp only [List.getElem?_cons_succ, List.getElem?_cons_zero, Option.some.injEq] at hz
    subst hz
    rw [show 0 + 1 * 8 + i = 0 + (8 + i) by omega]
    exact hnew (8 + i) v (by rw [List.getElem?_append_right (by rw [h8]; omega), h8, Nat.add_sub_cancel_left]; exact hv)
  | j + 2, hz => simp at hz
set_option maxRecDepth 100000 in
set_option maxHeartbeats 4000000 in
theorem Sm.copies_law (A : Option Addr) (n c : Nat) (xs : List ActV) (x y : ActV) (w : World) (hn : xs.length = n) (hc : n ≤ c) (hc2 : c ≤ 9223372036854775807) (hR : RdActs w A xs) (hcame : ∀ x ∈ xs, x.came w) (hx : x.came w) (hy : y.came w) :
    Calls Try.prog 6 #[.slice A n c, .agg x.cells.toArray, .agg y.cells.toArray] w fun e w' => e = .returned (.bool true) ∧ Below w.heap.size w w' := by
  obtain ⟨w1, hw1⟩ : ∃ w1, (w.alloc (.cells x.cells.toArray 68)).alloc (.cells y.cells.toArray 68) = w1 := ⟨_, rfl⟩
  have hb1 : Below w.heap.size w w1 := by rw [← hw1]; exact ((Below.refl _ w).alloc (Nat.le_refl _) _).alloc (by simp) _
  have hX1 : w1.heap[w.heap.size]? = some (.cells x.cells.toArray 68 (0, 0)) := by
    rw [← hw1]; exact (Below.heap_alloc _ _ _ (by simp)).trans (World.alloc_heap_new w _)
  have hY1 : w1.heap[w.heap.size + 1]? = some (.cells y.cells.toArray 68 (0, 0)) := by
    rw [← hw1]
    have := World.alloc_heap_new (w.alloc (.cells x.cells.toArray 68)) (.cells y.cells.toArray 68)
    rwa [World.size_alloc] at this
  have hR1 : RdActs w1 A xs := hR.keep hb1
  have hcame1 : ∀ x ∈ xs, x.came w1 := fun z hz => (hcame z hz).keep hb1
  have hfew := few_any A n c xs 25 w1 hR1 hn hc hc2 hcame1
  have hb2 : Below w1.heap.size w1 (w1.alloc (.cells (x.cells ++ y.cells).toArray 68)) := (Below.refl _ w1).alloc (Nat.le_refl _) _
  have hfew2 := few_any (some ⟨w1.heap.size, 0, none⟩) 2 2 [x, y] 2 (w1.alloc (.cells (x.cells ++ y.cells).toArray 68)) (two_acts x y w1 (0, 0)) rfl (Nat.le_refl _) (by decide) (fun z hz => by
    rcases List.mem_cons.1 hz with e | e
    · rw [e]; exact (hx.keep hb1).keep hb2
    · rcases List.mem_cons.1 e with e | e
      · rw [e]; exact (hy.keep hb1).keep hb2
      · cases e)
  have hw1k := works_any w1
  have HW1 := Lib.hid hw1
  have HB1 := Lib.hid hb1
  have hl1 := (Array.getElem?_eq_some_iff.1 hY1).1
  cases hf : fewM xs 25 with
  | false =>
    rw [hf] at hfew
    obtain ⟨xw, xn, xt, xA, xk, xc, xb, xN, xs_, xcr, xAp, xnp, xcp, xp⟩ := x
    obtain ⟨yw, yn, yt, yA, yk, yc, yb, yN, ys_, ycr, yAp, ynp, ycp, yp⟩ := y
    unfold ActV.cells at HW1 ⊢
    dsimp only at HW1 ⊢
    clear hR hn hcame hX1 hY1 hR1 hcame1 hfew2 hx hy hb2 hw1 hb1
    go_enter Try.func6, Try.ntmps6
    go_upto_region 1 with fail
    rw [HW1.out]
    go_wp2_with (first | (go_at_call 9; (with_reducible refine hfew.mono ?_); rintro e w' ⟨rfl, rfl⟩) | (go_at_call 10; (with_reducible refine hw1k.mono ?_); rintro e w' ⟨rfl, hb⟩))
    go_ret
    exact ⟨rfl, HB1.out.trans (hb.mono HB1.out.size)⟩
  | true =>
    rw [hf] at hfew
    obtain ⟨w2, hw2⟩ : ∃ w2, w1.alloc (.cells (x.cells ++ y.cells).toArray 68) = w2 := ⟨_, rfl⟩
    rw [hw2] at hb2
    have hwk := works_any w2
    have hX2 := (hb2.block _ (by omega)).trans hX1
    have hY2 := (hb2.block _ hl1).trans hY1
    have HB2 := Lib.hid hb2
    have hsmx : fewM [x, y] 2 = true → smallA x = true ∧ smallA y = true := fun e => by
      unfold fewM at e
      simp only [List.all_cons, List.all_nil, Bool.and_eq_true] at e
      exact ⟨e.1.1, e.1.2.1⟩
    obtain ⟨F2, hF2⟩ : ∃ F2, fewM [x, y] 2 = F2 := ⟨_, rfl⟩
    rw [hF2] at hfew2 hsmx
    rw [hw2] at hfew2
    have hfs : (∀ x ∈ xs, smallA x = true) ∧ xs.length ≤ 25 := by
      unfold fewM at hf
      simp only [Bool.and_eq_true, decide_eq_true_eq] at hf
      exact ⟨List.all_eq_true.1 hf.1, by omega⟩
    have hX := hx
    have hY := hy
    obtain ⟨xw, xn, xt, xA, xk, xc, xb, xN, xs_, xcr, xAp, xnp, xcp, xp⟩ := x
    obtain ⟨yw, yn, yt, yA, yk, yc, yb, yN, ys_, ycr, yAp, ynp, ycp, yp⟩ := y
    unfold ActV.cells at HW1 hX1 hY1 hX2 hY2 hw2 ⊢
    dsimp only [List.cons_append, List.nil_append] at HW1 hX1 hY1 hX2 hY2 hw2 ⊢
    obtain ⟨k0, k1, k2, k3, k4, k5, k6, k7⟩ := cells8 hX1
    obtain ⟨m0, m1, m2, m3, m4, m5, m6, m7⟩ := cells8 hY1
    obtain ⟨a0, a1, a2, a3, a4, a5, a6, a7⟩ := cells8 hX2
    obtain ⟨b0, b1, b2, b3, b4, b5, b6, b7⟩ := cells8 hY2
    have HW2 := Lib.hid hw2
    have HX2 := Lib.hid hX2
    have HY2 := Lib.hid hY2
    clear hX1 hY1 hw1 hb1 hb2 hw2 hX2 hY2 hf hF2 hw1k
    go_enter Try.func6, Try.ntmps6
    go_upto_region 1 with fail
    rw [HW1.out]
    rw [← HW2.out] at hfew2 a0 a1 a2 a3 a4 a5 a6 a7 b0 b1 b2 b3 b4 b5 b6 b7 hwk
    cases F2 with
    | false =>
      clear hR hn hcame hR1 hcame1 hx hy
      go_wp2_with (first | (go_at_call 9; (with_reducible refine hfew.mono ?_); rintro e w' ⟨rfl, rfl⟩) | (go_at_call 9; (with_reducible refine hfew2.mono ?_); rintro e w' ⟨rfl, rfl⟩) | (go_at_call 10; (with_reducible refine hwk.mono ?_); rintro e w' ⟨rfl, hb⟩))
      go_ret
      rw [HW2.out] at hb
      exact ⟨rfl, HB1.out.trans ((HB2.out.trans (hb.mono HB2.out.size)).mono HB1.out.size)⟩
    | true =>
    cases xcr with
    | true =>
      clear hR hn hcame hR1 hcame1 hx hy
      go_wp2_with (first | (go_at_call 9; (with_reducible refine hfew.mono ?_); rintro e w' ⟨rfl, rfl⟩) | (go_at_call 9; (with_reducible refine hfew2.mono ?_); rintro e w' ⟨rfl, rfl⟩) | (go_at_call 10; (with_reducible refine hwk.mono ?_); rintro e w' ⟨rfl, hb⟩))
      go_ret
      rw [HW2.out] at hb
      exact ⟨rfl, HB1.out.trans ((HB2.out.trans (hb.mono HB2.out.size)).mono HB1.out.size)⟩
    | false =>
    cases ycr with
    | true =>
      clear hR hn hcame hR1 hcame1 hx hy
      go_wp2_with (first | (go_at_call 9; (with_reducible refine hfew.mono ?_); rintro e w' ⟨rfl, rfl⟩) | (go_at_call 9; (with_reducible refine hfew2.mono ?_); rintro e w' ⟨rfl, rfl⟩) | (go_at_call 10; (with_reducible refine hwk.mono ?_); rintro e w' ⟨rfl, hb⟩))
      go_ret
      rw [HW2.out] at hb
      exact ⟨rfl, HB1.out.trans ((HB2.out.trans (hb.mono HB2.out.size)).mono HB1.out.size)⟩
    | false =>
      obtain ⟨hsx, hsy⟩ := hsmx rfl
      have hpl := played_any 60 (by decide) (by decide) A n c xs w2 hn hc hc2 (hR1.keep HB2.out) (fun z hz => (hcame1 z hz).keep HB2.out) hfs.1 (by omega)
      have hn25 : n ≤ 25 := by omega
      have HSX := Lib.hid hsx
      have HSY := Lib.hid hsy
      have HXX := Lib.hid hX
      have HYY := Lib.hid hY
      clear hR hn hcame hR1 hcame1 hx hy hsmx hfs hX hY hsx hsy
      rw [← HW2.out] at hpl
      go_upto_region 4 with (first | (go_at_call 9; (with_reducible refine hfew.mono ?_); clear hfew; rintro e w' ⟨rfl, rfl⟩) | (go_at_call 9; (with_reducible refine hfew2.mono ?_); clear hfew2; rintro e w' ⟨rfl, rfl⟩) | (go_at_call 11; (with_reducible refine hpl.mono ?_); clear hpl; rintro e w3 ⟨p, ⟨st, af, de, ro⟩, L, A1, n1, c1, fs, rfl, hP3, hb3⟩; unfold refV; dsimp only; rw [HW2.out] at hP3 hb3))
      clear hwk k0 k1 k2 k3 k4 k5 k6 k7 m0 m1 m2 m3 m4 m5 m6 m7 a0 a1 a2 a3 a4 a5 a6 a7 b0 b1 b2 b3 b4 b5 b6 b7
      obtain ⟨b8, hb8⟩ : ∃ b8, w3.heap.size = b8 := ⟨_, rfl⟩
      obtain ⟨w4, hw4⟩ : ∃ w4, w3.alloc (.cells #[.int .i64 ro, .slice A1 n1 c1, .bool st, .int .i64 af, .bool de] 28) = w4 := ⟨_, rfl⟩
      have hb34 : Below w3.heap.size w3 w4 := by rw [← hw4]; exact (Below.refl _ w3).alloc (Nat.le_refl _) _
      have hx4 : w4.heap[b8]? = some (.cells #[.int .i64 ro, .slice A1 n1 c1, .bool st, .int .i64 af, .bool de] 28 (0, 0)) := by rw [← hw4, ← hb8]; exact World.alloc_heap_new w3 _
      rw [hw4, hb8]
      have hP4 := hP3.keep hb34
      have hb24 : Below w2.heap.size w2 w4 := hb3.trans (hb34.mono hb3.size)
      obtain ⟨B1, hD3, hF3, hB1⟩ := hP3.at_
      have hD4 := hD3.keep hb34
      have hF4 := hF3.keep hb34
      rw [hb8] at hB1
      have hn1 := hP4.n_le
      have hlen := hP4.len
      have hmap := hP4.map
      have hLn := hP4.few
      have hok := hP4.ok
      have hl8 := (Array.getElem?_eq_some_iff.1 hx4).1
      have hs34 := hb34.size
      have hs2 := hb3.size
      have hcp := copy_M w4 hD4 (by omega)
      have HX4 := Lib.hid hx4
      have HB24 := Lib.hid hb24
      have HD4 := Lib.hid hD4
      have HF4 := Lib.hid hF4
      have HB1S := Lib.hid hB1
      have HUS := Lib.hid hP4.used
      have HN := Lib.hid hlen
      have HM := Lib.hid hmap
      have HOK := Lib.hid hok
      clear hx4 hb24 hD4 hF4 hB1 hD3 hF3 hP3 hP4 hb3 hb34 hw4 hlen hmap hok
      go_upto_region 5 with (go_at_call 25; (with_reducible refine hcp.mono ?_); clear hcp; rintro e w5 ⟨q, rfl, hC5, hb45⟩)
      have hC5 := hC5.tight
      obtain ⟨B2, hB2⟩ : ∃ B2 : Nat → Prop, (fun b => w4.heap.size ≤ b ∧ b < w5.heap.size) = B2 := ⟨_, rfl⟩
      have hB2S : ∀ b, B2 b → w4.heap.size ≤ b ∧ b < w5.heap.size := fun b e => by rw [← hB2] at e; exact e
      rw [hB2] at hC5
      have hD5 := HD4.out.keep hb45
      have hF5 : FsAt (fun b => B1 b ∨ B2 b) w5 A1 fs := (HF4.out.less (fun b h1 h2 => by
        rcases h2 with h2 | h2
        · exact .inl h2
        · have := (hB2S b h2).1; omega)).keep hb45
      have hs45 := hb45.size
      have hsm5 := same_M w5 hD5 hC5 (by omega) (by omega)
      rw [same_self] at hsm5
      have his5 := fun W (hb : Below w5.heap.size w5 W) => is_any ⟨st, af, de, ro⟩ ⟨st, af, de, ro⟩ A1 n1 c1 fs W (hC5.keep hb) (hF5.keep hb) HN.out (by omega) HM.out HUS.out rfl
      unfold refV at his5
      dsimp only at his5
      have HIS5 := Lib.hid his5
      have HX5 := Lib.hid ((hb45.block _ hl8).trans HX4.out)
      have hl58 : b8 < w5.heap.size := by omega
      have HB25 := Lib.hid (HB24.out.trans (hb45.mono HB24.out.size))
      have HC5 := Lib.hid hC5
      have HD5 := Lib.hid hD5
      have HF5 := Lib.hid hF5
      have HB2S := Lib.hid hB2S
      clear hB2 hB2S his5 hb45 hC5 hD5 hF5
      go_upto_region 7 with (first
        | (go_at_call 26; (with_reducible refine hsm5.mono ?_); clear hsm5; rintro e w6 ⟨rfl, hb6⟩; obtain ⟨x0, x1, x2, x3, x4⟩ := cells5 ((hb6.block _ hl58).trans HX5.out))
        | (go_at_call 29; (with_reducible refine (HIS5.out w6 hb6).mono ?_); rintro e w7 ⟨rfl, hb67⟩))
      have hb57 : Below w5.heap.size w5 w7 := hb6.trans (hb67.mono hb6.size)
      have hb27 : Below w2.heap.size w2 w7 := HB25.out.trans (hb57.mono HB25.out.size)
      have hb17 : Below w1.heap.size w1 w7 := HB2.out.trans (hb27.mono HB2.out.size)
      have hb07 : Below w.heap.size w w7 := HB1.out.trans (hb17.mono HB1.out.size)
      have hs57 := hb57.size
      have hs25 := HB25.out.size
      have hs12 := HB2.out.size
      have hs01 := HB1.out.size
      obtain ⟨x0, x1, x2, x3, x4⟩ := cells5 ((hb57.block _ hl58).trans HX5.out)
      obtain ⟨a0, a1, a2, a3, a4, a5, a6, a7⟩ := cells8 ((hb27.block _ (by omega)).trans HX2.out)
      have hXX := HXX.out.keep hb07
      have hSS : ∀ b, B1 b ∨ B2 b → b < w5.heap.size ∧ w.heap.size ≤ b := fun b e => by
        rcases e with e | e
        · have := HB1S.out b e; omega
        · have := HB2S.out b e; omega
      have hD7 := HD5.out.keep hb57
      have hC7 := HC5.out.keep hb57
      have hF7 := HF5.out.keep hb57
      have hact := act_any (S := fun b => B1 b ∨ B2 b) A1 n1 c1 fs ⟨xw, xn, xt, xA, xk, xc, xb, xN, xs_, false, xAp, xnp, xcp, xp⟩ w.heap.size w7 hD7 hF7 HN.out HM.out (by omega) (fun b e => .inl e) (fun b e => ⟨by have := (hSS b e).1; omega, (hSS b e).2⟩) (by omega) HOK.out HSX.out hXX.len hXX.bd.2 (HXX.out.rd.belowTo hb07 (Nat.le_refl _)) hXX.plen hXX.proom hXX.prd
      have hak := actM_ok (L := L) HOK.out (y := ⟨xw, xn, xt, xA, xk, xc, xb, xN, xs_, false, xAp, xnp, xcp, xp⟩) hXX.bd.2
      obtain ⟨a_, ha_⟩ : ∃ a, actM ⟨st, af, de, ro⟩ L ⟨xw, xn, xt, xA, xk, xc, xb, xN, xs_, false, xAp, xnp, xcp, xp⟩ = a := ⟨_, rfl⟩
      rw [ha_] at hact hak
      obtain ⟨⟨st8, af8, de8, ro8⟩, L8⟩ := a_
      unfold refV ActV.cells at hact
      dsimp only at hact hak
      have HB7 := Lib.hid hb57
      have HB07 := Lib.hid hb07
      have HC7 := Lib.hid hC7
      have HF7 := Lib.hid hF7
      have HAK := Lib.hid hak
      have HSS := Lib.hid hSS
      clear ha_ hXX hSS hD7 hC7 hF7 hb17 hb27 hb57 hb07 hb6 hb67 hak
      go_upto_region 8 with (go_at_call 31; (with_reducible refine hact.mono ?_); clear hact; rintro e w8 ⟨v8, rfl, ⟨p8, A8, n8, c8, fs8, B8, rfl, hp8, hD8, hF8, hn8, hm8, hB8⟩, hbut8⟩; obtain rfl := hp8 rfl; unfold refV; dsimp only)
      obtain ⟨b12, hb12⟩ : ∃ b12, w8.heap.size = b12 := ⟨_, rfl⟩
      obtain ⟨w9, hw9⟩ : ∃ w9, w8.alloc (.cells #[.int .i64 ro8, .slice A8 n8 c8, .bool st8, .int .i64 af8, .bool de8] 28) = w9 := ⟨_, rfl⟩
      have hb89 : Below w8.heap.size w8 w9 := by rw [← hw9]; exact (Below.refl _ w8).alloc (Nat.le_refl _) _
      have hx9 : w9.heap[b12]? = some (.cells #[.int .i64 ro8, .slice A8 n8 c8, .bool st8, .int .i64 af8, .bool de8] 28 (0, 0)) := by rw [← hw9, ← hb12]; exact World.alloc_heap_new w8 _
      rw [hw9, hb12]
      have hs78 := hbut8.size
      have hs89 := hb89.size
      have hl12 := (Array.getElem?_eq_some_iff.1 hx9).1
      have hu8 : usedR fs8 ≤ 1000000000 := by
        have := hD8.roomy
        rw [usedR_map, hm8]
        omega
      have hl8n : n8 ≤ 26 := by
        have h1 := HAK.out.2
        rw [← hm8, List.length_map, hn8] at h1
        have h2 := congrArg List.length HM.out
        rw [List.length_map] at h2
        omega
      have hb8o : ¬ B1 b8 := fun e => by have := (HB1S.out b8 e); omega
      have hx8 : w8.heap[b8]? = some (.cells #[.int .i64 ro, .slice A1 n1 c1, .bool st, .int .i64 af, .bool de] 28 (0, 0)) := (hbut8.block b8 (by omega) hb8o).trans ((HB7.out.block _ hl58).trans HX5.out)
      have hx89 := (hb89.block b8 (by omega)).trans hx8
      have hF9 := (HF7.out.but hbut8 (fun b e => .inl e)).keep hb89
      have hC9 := (HC7.out.but hbut8 (fun b e e2 => by have := HB1S.out b e; have := HB2S.out b e2; omega)).keep hb89
      have hD9 := hD8.keep hb89
      have hF89 := hF8.keep hb89
      have hB07 := HB07.out
      have hyb : ∀ W, Below w9.heap.size w9 W → W.heap[w.heap.size + 1]? = some (.cells #[.int .i64 yw, .string yn, .string yt, .slice yA yk yc, .int .i64 yN, .bool ys_, .bool false, .slice yAp ynp ycp] 68 (0, 0)) := fun W hb =>
        (hb.block _ (by omega)).trans ((hb89.block _ (by omega)).trans ((hbut8.block _ (by omega) (fun e => by have := HB1S.out _ e; omega)).trans ((HB7.out.block _ (by omega)).trans ((HB25.out.block _ (by omega)).trans HY2.out))))
      have hb09 : Below w.heap.size w w9 := (hB07.trans (hbut8.to_below (by omega) (fun b e => by have := HB1S.out b e; omega))).trans (hb89.mono (by omega))
      have hrs := refSame_any ⟨st, af, de, ro⟩ ⟨st8, af8, de8, ro8⟩ A1 A8 n1 c1 n8 c8 fs fs8 w9 hF9 hF89 HN.out hn8 (by omega) (by omega) HOK.out HAK.out.1
      rw [HM.out, hm8] at hrs
      obtain ⟨R, hR⟩ : ∃ R, sameM ⟨st, af, de, ro⟩ L ⟨st8, af8, de8, ro8⟩ L8 = R := ⟨_, rfl⟩
      have hR' : sameM ⟨st8, af8, de8, ro8⟩ L8 ⟨st, af, de, ro⟩ L = R := by rw [sameM_comm]; exact hR
      rw [hR] at hrs
      have hL8 : L8.length ≤ 1000000 := by have := HAK.out.2; omega
      have hs1 := fun W (hb : Below w9.heap.size w9 W) => same_M W (hD9.keep hb) (hC9.keep hb) hL8 (by omega)
      have hs2' := fun W (hb : Below w9.heap.size w9 W) => same_M W (hC9.keep hb) (hD9.keep hb) (by omega) hL8
      rw [hR'] at hs1
      rw [hR] at hs2'
      unfold refV at hrs
      dsimp only at hrs
      have hRR : (R != R) = false := by simp
      have HS1 := Lib.hid hs1
      have HS2 := Lib.hid hs2'
      have HX9 := Lib.hid hx9
      have HX89 := Lib.hid hx89
      have HF9 := Lib.hid hF9
      have HC9 := Lib.hid hC9
      have HD9 := Lib.hid hD9
      have HF89 := Lib.hid hF89
      have HYB := Lib.hid hyb
      have HB09 := Lib.hid hb09
      have HU8 := Lib.hid hu8
      have HN8 := Lib.hid hn8
      have HM8 := Lib.hid hm8
      have HB8 := Lib.hid hB8
      have hl89 : b8 < w9.heap.size := by omega
      obtain ⟨x0, x1, x2, x3, x4⟩ := cells5 hx89
      obtain ⟨z0, z1, z2, z3, z4⟩ := cells5 hx9
      clear hw9 hb89 hx9 hu8 hx8 hx89 hF9 hC9 hD9 hF89 hB07 hyb hb09 hs1 hs2' hR hR' hn8 hm8 hB8 hbut8 hD8 hF8 a0 a1 a2 a3 a4 a5 a6 a7
      go_upto_region 9 with (go_at_call 32; (with_reducible refine hrs.mono ?_); clear hrs; rintro e w10 ⟨rfl, hb10⟩)
      have hs10 := HS1.out w10 hb10
      go_upto_region 11 with (first
        | (go_at_call 26; (with_reducible refine hs10.mono ?_); rintro e w11 ⟨rfl, hb11⟩; have hb911 := hb10.trans (hb11.mono hb10.size); have hs11 := HS2.out w11 hb911)
        | (go_at_call 26; (with_reducible refine hs11.mono ?_); rintro e wq ⟨rfl, hb12q⟩))
      have hb9q : Below w9.heap.size w9 wq := hb911.trans (hb12q.mono hb911.size)
      have hs9q := hb9q.size
      have hYY := HYY.out.keep (HB09.out.trans (hb9q.mono HB09.out.size))
      obtain ⟨x0, x1, x2, x3, x4⟩ := cells5 ((hb9q.block _ hl89).trans HX89.out)
      obtain ⟨a0, a1, a2, a3, a4, a5, a6, a7⟩ := cells8 (HYB.out wq hb9q)
      have hb0q : Below w.heap.size w wq := HB09.out.trans (hb9q.mono HB09.out.size)
      have hs9 : w5.heap.size ≤ w9.heap.size := by omega
      have hact := act_any (S := fun b => B1 b ∨ B2 b) A1 n1 c1 fs ⟨yw, yn, yt, yA, yk, yc, yb, yN, ys_, false, yAp, ynp, ycp, yp⟩ w.heap.size wq (HC9.out.keep hb9q) (HF9.out.keep hb9q) HN.out HM.out (by omega) (fun b e => .inr e) (fun b e => ⟨by have := (HSS.out b e).1; omega, (HSS.out b e).2⟩) (by omega) HOK.out HSY.out hYY.len hYY.bd.2 (HYY.out.rd.belowTo hb0q (Nat.le_refl _)) hYY.plen hYY.proom hYY.prd
      have hak := actM_ok (L := L) HOK.out (y := ⟨yw, yn, yt, yA, yk, yc, yb, yN, ys_, false, yAp, ynp, ycp, yp⟩) hYY.bd.2
      obtain ⟨a_, ha_⟩ : ∃ a, actM ⟨st, af, de, ro⟩ L ⟨yw, yn, yt, yA, yk, yc, yb, yN, ys_, false, yAp, ynp, ycp, yp⟩ = a := ⟨_, rfl⟩
      rw [ha_] at hact hak
      obtain ⟨⟨stf, aff, dex, rof⟩, Lf⟩ := a_
      unfold refV ActV.cells at hact
      dsimp only at hact hak
      have HB9q := Lib.hid hb9q
      have HB0q := Lib.hid hb0q
      clear ha_ hb9q hb0q hYY hb911 hb12q hb11 hb10 hs10 hs11
      go_upto_region 12 with (go_at_call 31; (with_reducible refine hact.mono ?_); clear hact; rintro e wr ⟨vr, rfl, ⟨pr, Ar, nr, cr, fsr, Br, rfl, hpr, hDr, hFr, hnr, hmr, hBr⟩, hbutr⟩; obtain rfl := hpr rfl; unfold refV; dsimp only)
      obtain ⟨b16, hb16⟩ : ∃ b16, wr.heap.size = b16 := ⟨_, rfl⟩
      obtain ⟨ws, hws⟩ : ∃ ws, wr.alloc (.cells #[.int .i64 rof, .slice Ar nr cr, .bool stf, .int .i64 aff, .bool dex] 28) = ws := ⟨_, rfl⟩
      have hbrs : Below wr.heap.size wr ws := by rw [← hws]; exact (Below.refl _ wr).alloc (Nat.le_refl _) _
      have hxs : ws.heap[b16]? = some (.cells #[.int .i64 rof, .slice Ar nr cr, .bool stf, .int .i64 aff, .bool dex] 28 (0, 0)) := by rw [← hws, ← hb16]; exact World.alloc_heap_new wr _
      rw [hws, hb16]
      have hsqr := hbutr.size
      have hsrs := hbrs.size
      have hur : usedR fsr ≤ 1000000000 := by
        have := hDr.roomy
        rw [usedR_map, hmr]
        omega
      have hnrn : nr ≤ 26 := by
        have h1 := hak.2
        rw [← hmr, List.length_map, hnr] at h1
        have h2 := congrArg List.length HM.out
        rw [List.length_map] at h2
        omega
      have hDs := ((HD9.out.keep HB9q.out).but hbutr (fun b e e2 => by
        have h1 := HB2S.out b e
        rcases (HB8.out b e2).1 with h2 | h2
        · have := HB1S.out b h2; omega
        · omega)).keep hbrs
      have hFs := ((HF89.out.keep HB9q.out).but hbutr (fun b e => .inl (.inr e))).keep hbrs
      have hCs := hDr.keep hbrs
      have hGs := hFr.keep hbrs
      have hi1 := is_any ⟨st8, af8, de8, ro8⟩ ⟨st8, af8, de8, ro8⟩ A8 n8 c8 fs8 ws hDs hFs HN8.out (by omega) HM8.out HU8.out rfl
      have hi2 := fun W (hb : Below ws.heap.size ws W) => is_any ⟨stf, aff, dex, rof⟩ ⟨stf, aff, dex, rof⟩ Ar nr cr fsr W (hCs.keep hb) (hGs.keep hb) hnr (by omega) hmr hur rfl
      unfold refV at hi1 hi2
      dsimp only at hi1 hi2
      have hxr : wr.heap[b12]? = _ := (hbutr.block b12 (by omega) (fun e => by have := HB2S.out _ e; omega)).trans ((HB9q.out.block _ hl12).trans HX9.out)
      obtain ⟨z0, z1, z2, z3, z4⟩ := cells5 ((hbrs.block b12 (by omega)).trans hxr)
      have hls := (Array.getElem?_eq_some_iff.1 hxs).1
      have hb0s : Below w.heap.size w ws := (HB0q.out.trans (hbutr.to_below (by omega) (fun b e => by have := HB2S.out b e; omega))).trans (hbrs.mono (by omega))
      have HB0s := Lib.hid hb0s
      have HI2 := Lib.hid hi2
      have HXS := Lib.hid hxs
      clear hDs hFs hCs hGs hxr hxs hb0s hi2 hws hbrs hbutr hDr hFr hur hnr hmr hBr hak
      go_wp2_with (first
        | (go_at_call 29; (with_reducible refine hi1.mono ?_); clear hi1; rintro e wt ⟨rfl, hbt⟩; obtain ⟨g0, g1, g2, g3, g4⟩ := cells5 ((hbt.block _ hls).trans HXS.out); have hi3 := HI2.out wt hbt)
        | (go_at_call 29; (with_reducible refine hi3.mono ?_); clear hi3; rintro e wu ⟨rfl, hbu⟩; have hwu := works_any wu)
        | (go_at_call 10; (with_reducible refine hwu.mono ?_); rintro e wv ⟨rfl, hbv⟩))
      go_ret
      have hsu := hbt.trans (hbu.mono hbt.size)
      exact ⟨rfl, HB0s.out.trans ((hsu.trans (hbv.mono hsu.size)).mono HB0s.out.size)⟩
end Go.Proofs
