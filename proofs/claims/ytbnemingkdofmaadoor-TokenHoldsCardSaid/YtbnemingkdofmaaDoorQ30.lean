/-
  The contracts of joined at masters, and of turned.
-/
import Derived.Test.YtbnemingkdofmaaDoorQ29
namespace Go.Proofs
open Go.RowKit Sm
theorem Sm.info37 : (Tryd.prog.info? 0x37).map (fun i => (i.zero, i.size, i.bytes)) = some (some (.agg #[.int .i64 0, .string ⟨#[]⟩]), 2, 24) := by kernel_rfl
def Sm.mCells (n : Int) (s : ByteArray) : List Value := [.int .i64 n, .string s]
/-- what is joined behind k parts -/
def Sm.jC (n : Int) (s : ByteArray) (k : Kpt) : Nat → Nat × List Value
  | 0 => (0, [])
  | 1 => (1, mCells n s)
  | _ => (4, mCells n s ++ k.cells.toList)
set_option maxRecDepth 100000 in
set_option maxHeartbeats 2000000 in
theorem Sm.joinedM_any (g b1 b2 c1 c2 : Nat) (n : Int) (s : ByteArray) (k : Kpt) (w : World) (h0 : w.cell? ⟨g, 0, none⟩ = some (.slice (some ⟨b1, 0, none⟩) 1 c1)) (h1 : w.cell? ⟨g, 1, none⟩ = some (.slice (some ⟨b2, 0, none⟩) 3 c2))
    (hg : g < w.heap.size) (l1 : b1 < w.heap.size) (l2 : b2 < w.heap.size) (hc1 : ∀ j u, (mCells n s)[j]? = some u → w.cell? ⟨b1, j, none⟩ = some u) (hc2 : ∀ j u, k.cells.toList[j]? = some u → w.cell? ⟨b2, j, none⟩ = some u) :
    Calls Tryd.prog 38 #[.slice (some ⟨g, 0, none⟩) 2 2] w fun e w' => ∃ A c, e = .returned (.slice A 4 c) ∧ w'.ownsRow w.heap.size 0x37 2 (.slice A 4 c) 4 (mCells n s ++ k.cells.toList) ∧ Below w.heap.size w w' := by
  obtain ⟨i0, hi, hz0, hz1, hz2⟩ := info_parts info37
  have HC1 := Lib.hid hc1
  have HC2 := Lib.hid hc2
  have H0 := Lib.hid h0
  have H1 := Lib.hid h1
  clear hc1 hc2 h0 h1
  go_enter Tryd.func38, Tryd.ntmps38
  go_wp2
  go_loopw [3, 8] (fun s3 s8 wr => ∃ (j : Nat) (v : Value), j ≤ 2 ∧ s8 = .int .i64 (j : Int) ∧ s3 = v ∧ Hid (wr.ownsRow w.heap.size 0x37 2 v (jC n s k j).1 (jC n s k j).2) ∧ Hid (Below w.heap.size w wr)) (fun _ s8 _ => 2 - (intOf s8).toNat)
  case atStart => exact ⟨0, _, by omega, rfl, rfl, Lib.hid (World.ownsRow_nil _ _ _ _), Lib.hid (Below.refl _ _)⟩
  case round =>
    obtain ⟨wo, rfl⟩ : ∃ wo : World, wo = wr := ⟨_, rfl⟩
    obtain ⟨j, v, hj, rfl, rfl, HO, HB⟩ := hrel
    have hsz := HB.out.size
    by_cases hj0 : j = 0
    · subst hj0
      have hp := (HB.out.cell (p := ⟨g, 0, none⟩) hg).trans H0.out
      have hnw : ∀ i u, (mCells n s)[i]? = some u → wo.cell? ((⟨b1, 0, none⟩ : Addr).add i) = some u := fun i u hu => by
        rw [Addr.add_mid, Nat.zero_add]
        exact (HB.out.cell (p := ⟨b1, i, none⟩) l1).trans (HC1.out i u hu)
      have HNW := Lib.hid hnw
      clear hnw
      go_wp2_with (at_builtin; refine wpList_append_own _ rfl (.tmp 12) (.tmp 13) 0x47 rfl w.heap.size 0x37 i0 _ 2 24 Tryd.underlying71 hi hz0 hz1 hz2 rfl (by decide) u3 0 [] rfl HO.out ⟨b1, 0, none⟩ 1 c1 (mCells n s) rfl rfl HNW.out (by simp [mCells, Value.oneCell']) (by unfold maxLen; omega) (by omega) hsz ?_; intro v5 w5 hown5 hg5 _)
      have hb5 : Below w.heap.size w w5 := HB.out.grown hg5 hsz (fun g e => own_ge HO.out g e)
      exact ⟨⟨1, v5, by omega, by go_num, rfl, Lib.hid hown5, Lib.hid hb5⟩, by simp [intOf]⟩
    · by_cases hj1 : j = 1
      · subst hj1
        have hp := (HB.out.cell (p := ⟨g, 1, none⟩) hg).trans H1.out
        have hnw : ∀ i u, k.cells.toList[i]? = some u → wo.cell? ((⟨b2, 0, none⟩ : Addr).add i) = some u := fun i u hu => by
          rw [Addr.add_mid, Nat.zero_add]
          exact (HB.out.cell (p := ⟨b2, i, none⟩) l2).trans (HC2.out i u hu)
        have HNW := Lib.hid hnw
        clear hnw
        go_wp2_with (at_builtin; refine wpList_append_own _ rfl (.tmp 12) (.tmp 13) 0x47 rfl w.heap.size 0x37 i0 _ 2 24 Tryd.underlying71 hi hz0 hz1 hz2 rfl (by decide) u3 1 (mCells n s) rfl HO.out ⟨b2, 0, none⟩ 3 c2 k.cells.toList rfl rfl HNW.out (by simp [Kpt.cells, Value.oneCell']) (by unfold maxLen; omega) (by omega) hsz ?_; intro v5 w5 hown5 hg5 _)
        have hb5 : Below w.heap.size w w5 := HB.out.grown hg5 hsz (fun g e => own_ge HO.out g e)
        exact ⟨⟨2, v5, by omega, by go_num, rfl, Lib.hid hown5, Lib.hid hb5⟩, by simp [intOf]⟩
      · obtain rfl : j = 2 := by omega
        have ho := HO.out
        rw [show jC n s k 2 = (4, mCells n s ++ k.cells.toList) from rfl] at ho
        go_wp2
        obtain ⟨A, c, rfl⟩ : ∃ A c, u3 = .slice A 4 c := by
          rcases ho.2 with ⟨h1, h2⟩ | ⟨g', cap, cur, h1, _⟩
          · have := ho.1
            rw [h2] at this
            cases this
          · exact ⟨_, _, h1⟩
        go_ret
        exact ⟨A, c, rfl, ho, HB.out⟩
/-- a copy into a row, of elements of several cells -/
theorem Sm.run_copy_rows {P : Program} (w : World) (dT sT ty elem : TypeId) (g o dLen dCap : Nat) (a : Addr) (sLen sCap size : Nat) (cur : Array Value) (t : TypeId) (cs : List Value)
    (hu : P.underlying dT = some (.slice elem)) (hs : (P.info? elem).map (·.size) = some size)
    (hg : w.heap[g]? = some (.cells cur t (0, 0))) (hn : cs.length = Nat.min sLen dLen * size)
    (hsrc : ∀ j v, cs[j]? = some v → w.cell? (a.add j) = some v) (hfit : o + cs.length ≤ cur.size) (h1 : ∀ v ∈ cs, v.oneCell' = true) :
    (Builtin.copy_ #[dT, sT] ty #[.slice (some ⟨g, o, none⟩) dLen dCap, .slice (some a) sLen sCap]).run P w =
      .ok (goInt (Nat.min sLen dLen)) (w.setRow g (cur.toList.take o ++ cs ++ cur.toList.drop (o + cs.length)).toArray) := by
  have hl := run_loadCells_list (P := P) w a cs hsrc
  have hst := run_storeCells_at P g o t cs 0 cur w hg (by simpa using hfit) h1
  cases hq : P.info? elem with
  | none => simp [hq] at hs
  | some i =>
    have hi : i.size = size := by simpa [hq] using hs
    simp [Builtin.copy_, run_underlying hu, Builtin.lenOf, Builtin.firstCells, sizeOf, typeInfo, hq, hi, ← hn, hl, hst]
theorem Sm.oper_copy_rows {P : Program} {o : Oper} {a : Act} {w : World} {K : Act → World → Prop} {Q : Exit → Act → World → Prop} (d s : Operand) (dT sT : TypeId)
    (ho : o.op = .call { callee := .builtin .copy, args := #[d, s], argTypes := #[dT, sT] }) (elem : TypeId) (size : Nat) (hu : P.underlying dT = some (.slice elem)) (hsz : (P.info? elem).map (·.size) = some size)
    (g off dLen dCap : Nat) (ad : Addr) (sLen sCap : Nat) (hd : a.eval d = .slice (some ⟨g, off, none⟩) dLen dCap) (hs : a.eval s = .slice (some ad) sLen sCap)
    (cur : Array Value) (t : TypeId) (hg : w.heap[g]? = some (.cells cur t (0, 0))) (cs : List Value) (hn : cs.length = Nat.min sLen dLen * size)
    (hsrc : ∀ j v, cs[j]? = some v → w.cell? (ad.add j) = some v) (hfit : off + cs.length ≤ cur.size) (h1 : ∀ v ∈ cs, v.oneCell' = true)
    (h : K (a.put o.dst (goInt (Nat.min sLen dLen))) (w.setRow g (cur.toList.take off ++ cs ++ cur.toList.drop (off + cs.length)).toArray)) : o.wp P a w K Q := by
  have hrun := run_copy_rows (P := P) w dT sT o.type elem g off dLen dCap ad sLen sCap size cur t cs hu hsz hg hn hsrc hfit h1
  unfold Oper.wp execOp
  simp only [ho, resolve, invoke, builtin, Sem.run_bind, Sem.run_pure, Result.andThen_ok, List.map_toArray, List.map_cons, List.map_nil, hd, hs, hrun]
  exact h
/-- what a turn keeps -/
def Sm.turnK (k : Kpt) (n : Int) (m : ByteArray) : Kpt := ⟨n, m, k.n0, k.s0, k.n1, k.s1⟩
theorem Sm.zeros37 : Tryd.prog.built 0x37 [] = some #[.int .i64 0, .string ⟨#[]⟩] := by kernel_rfl
theorem Sm.slice57_all (b : Nat) (w : World) : (Instr.sliceAt 0x39 (.pointer (some ⟨b, 0, none⟩)) none none none).run Tryd.prog w = .ok (.slice (some ⟨b, 0, none⟩) 3 3) w := by
  have hu : Tryd.prog.underlying 0x39 = some (.array (Tryd.prog.arrayLen 0x39) (Tryd.prog.elem 0x39)) := by kernel_rfl
  have ha : Tryd.prog.arrayLen 0x39 = 3 := by kernel_rfl
  have he : Tryd.prog.elem 0x39 = 0x37 := by kernel_rfl
  have hs : ∀ w, (sizeOf 0x37).run Tryd.prog w = .ok 2 w := fun _ => by kernel_rfl
  rw [run_sliceAt_array_all w 0x39 ⟨b, 0, none⟩ hu, he, hs]
  simp only [Result.andThen_ok, slicedAt, ha, Nat.zero_mul]
  rw [if_neg (by omega), Addr.add_mid, Nat.add_zero]
set_option maxRecDepth 100000 in
set_option maxHeartbeats 2000000 in
theorem Sm.turned_yes (k : Kpt) (n : Int) (m : ByteArray) (w : World) (h1 : 1 ≤ m.size) (h2 : m.size ≤ 64) :
    Calls Tryd.prog 24 #[.agg k.cells, .agg #[.int .i64 n], .string m] w fun e w' => e = .returned (.agg (turnK k n m).cells) ∧ Below w.heap.size w w' := by
  have hm1 : (1 : Int) ≤ (m.size : Int) := by omega
  have hm2 : (m.size : Int) ≤ 64 := by omega
  obtain ⟨W3, hW3⟩ : ∃ v, ((w.alloc (.cells k.cells 0x39)).alloc (.cells #[.int .i64 n] 0x35)).alloc (.cells zeroK.cells 0x39) = v := ⟨_, rfl⟩
  have hz3 : W3.heap.size = w.heap.size + 1 + 1 + 1 := by rw [← hW3]; simp
  have hb3 : Below w.heap.size w W3 := by rw [← hW3]; exact (((Below.refl _ w).alloc (Nat.le_refl _) _).alloc (by simp) _).alloc (by simp; omega) _
  have hK3 : Blk W3 w.heap.size 0x39 k.cells := by rw [← hW3]; exact ((Blk.new w 0x39 _).alloc _).alloc _
  have hN3 : Blk W3 (w.heap.size + 1) 0x35 #[.int .i64 n] := by rw [← hW3]; exact (Blk.newAt (X := w.alloc (.cells k.cells 0x39)) (by simp) 0x35 _).alloc _
  have hR3 : Blk W3 (w.heap.size + 1 + 1) 0x39 zeroK.cells := by rw [← hW3]; exact Blk.newAt (X := (w.alloc (.cells k.cells 0x39)).alloc (.cells #[.int .i64 n] 0x35)) (by simp) 0x39 _
  unfold Kpt.cells zeroK at hW3
  rw [show k.cells = (#[.int .i64 k.n0, .string k.s0, .int .i64 k.n1, .string k.s1, .int .i64 k.n2, .string k.s2] : Array Value) from rfl]
  clear hz3
  go_enter Tryd.func24, Tryd.ntmps24
  go_upto_region 1 with fail
  clear hW3
  go_upto_region 2 with (go_at_call 26; (with_reducible refine (must_two _ _ _ _ (World.cell?_alloc_new W3 #[.bool true, .bool true] 4 0) (World.cell?_alloc_new W3 #[.bool true, .bool true] 4 1)).mono ?_); rintro e w4 ⟨⟨v4, rfl⟩, rfl⟩)
  obtain ⟨W4, hW4⟩ : ∃ v, W3.alloc (.cells #[.bool true, .bool true] 4) = v := ⟨_, rfl⟩
  have hb34 : Below W3.heap.size W3 W4 := by rw [← hW4]; exact (Below.refl _ _).alloc (Nat.le_refl _) _
  have hb4 : Below w.heap.size w W4 := hb3.trans (hb34.mono hb3.size)
  have hK4 := hK3.keep hb34
  have hN4 := hN3.keep hb34
  have hR4 := hR3.keep hb34
  have hlt4 : w.heap.size + 1 + 1 < W4.heap.size := hR4.lt
  obtain ⟨Kb, hKb⟩ : ∃ b, w.heap.size = b := ⟨_, rfl⟩
  rw [hKb] at hK4 hN4 hR4 hlt4
  obtain ⟨Nb, hNb⟩ : ∃ b, Kb + 1 = b := ⟨_, rfl⟩
  obtain ⟨Rb, hRb⟩ : ∃ b, Kb + 1 + 1 = b := ⟨_, rfl⟩
  rw [hRb] at hR4 hlt4
  rw [hNb] at hN4
  have hNl : Nb < W4.heap.size := hN4.lt
  have hKl : Kb < W4.heap.size := hK4.lt
  have hKR : Kb ≠ Rb := by omega
  have hwK : w.heap.size ≤ Kb := by omega
  have hwR : w.heap.size ≤ Rb := by omega
  rw [hW4, hKb, hRb, hNb]
  have HK4 := Lib.hid hK4
  have HN4 := Lib.hid hN4
  have HR4 := Lib.hid hR4
  have HB4 := Lib.hid hb4
  clear hW4 hb34 hb4 hK4 hN4 hR4 hKb hNb hRb hK3 hN3 hR3 hb3
  go_cut [7] from 16 to 20 (fun s7 wx => ∃ p : Nat, s7 = .pointer (some ⟨p, 0, none⟩) ∧ W4.heap.size ≤ p ∧ Hid (Blk wx p 0x37 #[.int .i64 n, .string m]) ∧ Hid (Below W4.heap.size W4 wx))
  case first =>
    have HN0 : Hid (Blk W4.drew Nb 0x35 #[.int .i64 n]) := Lib.hid HN4.out.drew
    have hb0 : Below W4.heap.size W4 W4.drew := (Below.refl _ _).drew
    refine wp_region_held_drew (S := fun wx => Below W4.heap.size W4 wx) rfl hb0 (fun hHeld => ?_)
    simp only [List.size_toArray, List.length_cons, List.length_nil, Nat.reduceAdd]
    have hnc := HN4.out.cell 0
    simp only [List.getElem?_toArray, List.getElem?_cons_zero] at hnc
    obtain ⟨X0, hX0⟩ : ∃ v, W4.drew = v := ⟨_, rfl⟩
    rw [hX0] at hHeld hb0 HN0 ⊢
    clear hX0
    refine wpAnyH_take (i := 0) (v := .agg #[.int .i64 n]) rfl (by kernel_rfl) (by kernel_rfl) (by kernel_rfl) (fun _ _ _ h => h) (Or.inl ⟨by rfl, ?_⟩) (by assumption) ?_
    · intro wx hs1; have hc := (hs1.cell (p := ⟨Nb, 0, none⟩) hNl).trans hnc; go_simp
    try simp only [Act.put]
    refine wpAnyH_take (i := 1) (v := .string m) rfl (by kernel_rfl) (by kernel_rfl) (by kernel_rfl) (fun _ _ _ h => h) (Or.inl ⟨by rfl, ?_⟩) (by assumption) ?_
    · intro wx hs1; go_simp
    try simp only [Act.put]
    clear hnc
    refine wpAnyH_ready (rs := [2, 4]) (by kernel_rfl) (by simp) (AllReadyH.cons rfl (fun K hK => ?_) (AllReadyH.cons rfl (fun K hK => ?_) AllReadyH.nil))
    · go_simp
      go_at_call 37
      (with_reducible refine (Clone_any m X0 (by omega)).mono ?_)
      rintro e X1 ⟨rfl, hb01⟩
      have hb1 : Below W4.heap.size W4 X1 := hb0.trans (hb01.mono hb0.size)
      clear hb01
      refine hK.out _ _ hb1 (fun hHeld => ?_)
      clear hK K
      try simp only [Act.put]
      refine wpAnyH_take (i := 3) (v := .agg #[.int .i64 n, .string m]) rfl (by kernel_rfl) (by kernel_rfl) (by kernel_rfl) (fun _ _ _ h => h) (Or.inl ⟨by rfl, ?_⟩) (by assumption) ?_
      · intro wx hs1; go_simp
      try simp only [Act.put]
      refine wpAnyH_ready (rs := [4]) (by kernel_rfl) (by simp) (AllReadyH.cons rfl (fun K hK => ?_) AllReadyH.nil)
      go_simp
      refine hK.out _ _ (hb1.alloc hb1.size _) (fun hHeld => ?_)
      clear hK K
      try simp only [Act.put]
      refine wpAnyH_ready (rs := [5]) (by kernel_rfl) (by simp) (AllReadyH.cons rfl (fun K hK => ?_) AllReadyH.nil)
      go_simp
      have hq : Blk (X1.alloc (.cells #[.int .i64 n, .string m] 0x37)) X1.heap.size 0x37 #[.int .i64 n, .string m] := Blk.new X1 _ _
      refine hK.out _ _ (hb1.alloc hb1.size _) (fun hHeld => ?_)
      clear hK K
      try simp only [Act.put]
      refine wpAnyH_done (by kernel_rfl) ?_ _
      try simp only [List.getElem_toArray, List.getElem_cons_succ, List.getElem_cons_zero]
      go_wp2_with fail
      go_meet
      exact ⟨X1.heap.size, rfl, hb1.size, Lib.hid hq, Lib.hid (hb1.alloc hb1.size _)⟩
    · go_simp
      have hb1 : Below W4.heap.size W4 (X0.alloc (.cells #[.int .i64 0, .string ⟨#[]⟩] 0x37)) := hb0.alloc hb0.size _
      have hp1 : Blk (X0.alloc (.cells #[.int .i64 0, .string ⟨#[]⟩] 0x37)) X0.heap.size 0x37 #[.int .i64 0, .string ⟨#[]⟩] := Blk.new X0 _ _
      obtain ⟨p, hp⟩ : ∃ p, X0.heap.size = p := ⟨_, rfl⟩
      have hpl : W4.heap.size ≤ p := by rw [← hp]; exact hb0.size
      obtain ⟨X1, hX1⟩ : ∃ v, X0.alloc (.cells #[.int .i64 0, .string ⟨#[]⟩] 0x37) = v := ⟨_, rfl⟩
      rw [hX1, hp] at hp1
      rw [hX1] at hb1
      rw [hX1, hp]
      clear hX1 hp
      refine hK.out _ _ hb1 (fun hHeld => ?_)
      clear hK K
      try simp only [Act.put]
      refine wpAnyH_ready (rs := [2]) (by kernel_rfl) (by simp) (AllReadyH.cons rfl (fun K hK => ?_) AllReadyH.nil)
      go_simp
      go_at_call 37
      (with_reducible refine (Clone_any m X1 (by omega)).mono ?_)
      rintro e X2 ⟨rfl, hb12⟩
      have hb2 : Below W4.heap.size W4 X2 := hb1.trans (hb12.mono hb1.size)
      have hp2 := hp1.keep hb12
      clear hb12
      refine hK.out _ _ hb2 (fun hHeld => ?_)
      clear hK K
      try simp only [Act.put]
      refine wpAnyH_take (i := 3) (v := .agg #[.int .i64 n, .string m]) rfl (by kernel_rfl) (by kernel_rfl) (by kernel_rfl) (fun _ _ _ h => h) (Or.inl ⟨by rfl, ?_⟩) (by assumption) ?_
      · intro wx hs1; go_simp
      try simp only [Act.put]
      have pc0 := hp2.cell 0
      have pc1 := hp2.cell 1
      have pf0 := hp2.frozen 0
      have pf1 := hp2.frozen 1
      simp only [List.getElem?_toArray, List.getElem?_cons_zero, List.getElem?_cons_succ] at pc0 pc1
      refine wpAnyH_ready (rs := [5]) (by kernel_rfl) (by simp) (AllReadyH.cons rfl (fun K hK => ?_) AllReadyH.nil)
      go_simp
      have hb3 : Below W4.heap.size W4 ((X2.setCell ⟨p, 0, none⟩ (.int .i64 n)).setCell ⟨p, 1, none⟩ (.string m)) := (hb2.setCell (p := ⟨p, 0, none⟩) hpl _).setCell (p := ⟨p, 1, none⟩) hpl _
      have hp3 : Blk ((X2.setCell ⟨p, 0, none⟩ (.int .i64 n)).setCell ⟨p, 1, none⟩ (.string m)) p 0x37 #[.int .i64 n, .string m] := heap_setCell_same _ _ _ _ _ _ (heap_setCell_same _ _ _ _ _ _ hp2)
      refine hK.out _ _ hb3 (fun hHeld => ?_)
      clear hK K pc0 pc1 pf0 pf1
      try simp only [Act.put]
      refine wpAnyH_done (by kernel_rfl) ?_ _
      try simp only [List.getElem_toArray, List.getElem_cons_succ, List.getElem_cons_zero]
      go_wp2_with fail
      go_meet
      exact ⟨p, rfl, hpl, Lib.hid hp3, Lib.hid hb3⟩
  case rest =>
    obtain ⟨p, rfl, hpl, HP, HB⟩ := hcut
    have hKc : Blk wc Kb 0x39 k.cells := HK4.out.keep HB.out
    have hRc : Blk wc Rb 0x39 zeroK.cells := HR4.out.keep HB.out
    have hsz := HB.out.size
    have hpc := HP.out.lt
    have HKc := Lib.hid hKc
    have HRc := Lib.hid hRc
    have hslK := slice57_all Kb
    clear hKc hRc
    go_upto_region 3 with fail
    go_cut [7] from 20 to 27 (fun s7 wx => s7 = s7 ∧ Hid (Blk wx Kb 0x39 (turnK k n m).cells) ∧ Hid (Blk wx Rb 0x39 zeroK.cells) ∧ Hid (Below w.heap.size w wx))
    case first =>
      refine wp_region_held_drew (S := fun wx => Blk wx p 0x37 #[.int .i64 n, .string m]) rfl HP.out.drew (fun hHeld => ?_)
      simp only [List.size_toArray, List.length_cons, List.length_nil, Nat.reduceAdd]
      have HK0 : Hid (Blk wc.drew Kb 0x39 k.cells) := Lib.hid HKc.out.drew
      have HR0 : Hid (Blk wc.drew Rb 0x39 zeroK.cells) := Lib.hid HRc.out.drew
      have hb0 : Below wc.heap.size wc wc.drew := (Below.refl _ _).drew
      obtain ⟨X0, hX0⟩ : ∃ v, wc.drew = v := ⟨_, rfl⟩
      rw [hX0] at hHeld hb0 HK0 HR0 ⊢
      clear hX0
      refine wpAnyH_take (i := 0) (v := .slice (some ⟨Kb, 0, none⟩) 3 3) rfl (by kernel_rfl) (by kernel_rfl) (by kernel_rfl) (fun _ _ _ h => h) (Or.inl ⟨by rfl, ?_⟩) (by assumption) ?_
      · intro wx hs1; go_simp
      try simp only [Act.put]
      refine wpAnyH_take (i := 1) (v := .agg #[.int .i64 n, .string m]) rfl (by kernel_rfl) (by kernel_rfl) (by kernel_rfl) (fun _ _ _ h => h) (Or.inl ⟨by rfl, ?_⟩) (by assumption) ?_
      · intro wx hs1
        have e0 := hs1.cell 0
        have e1 := hs1.cell 1
        simp only [List.getElem?_toArray, List.getElem?_cons_zero, List.getElem?_cons_succ] at e0 e1
        go_simp
      try simp only [Act.put]
      refine wpAnyH_take (i := 3) (v := .slice (some ⟨Kb, 0, none⟩) 3 3) rfl (by kernel_rfl) (by kernel_rfl) (by kernel_rfl) (fun _ _ _ h => h) (Or.inl ⟨by rfl, ?_⟩) (by assumption) ?_
      · intro wx hs1; go_simp
      try simp only [Act.put]
      refine wpAnyH_ready (rs := [2]) (by kernel_rfl) (by simp) (AllReadyH.cons rfl (fun K hK => ?_) AllReadyH.nil)
      go_simp
      obtain ⟨b1, hb1⟩ : ∃ b, X0.heap.size = b := ⟨_, rfl⟩
      obtain ⟨X1, hX1⟩ : ∃ v, X0.alloc (.cells #[.int .i64 n, .string m] 0x37) = v := ⟨_, rfl⟩
      have hba : Below X0.heap.size X0 X1 := by rw [← hX1]; exact (Below.refl _ _).alloc (Nat.le_refl _) _
      have hB1 : Blk X1 b1 0x37 #[.int .i64 n, .string m] := by rw [← hX1, ← hb1]; exact Blk.new X0 _ _
      have HK1 := Lib.hid (HK0.out.keep hba)
      have HR1 := Lib.hid (HR0.out.keep hba)
      have hp1 := hHeld.keep hba
      have hw1 : Below wc.heap.size wc X1 := hb0.trans (hba.mono hb0.size)
      rw [hX1, hb1]
      clear hX1 hb1 hba HK0 HR0
      refine hK.out _ _ hp1 (fun hHeld => ?_)
      clear hK K
      try simp only [Act.put]
      refine wpAnyH_ready (rs := [4]) (by kernel_rfl) (by simp) (AllReadyH.cons rfl (fun K hK => ?_) AllReadyH.nil)
      go_simp
      obtain ⟨g, hg⟩ : ∃ b, X1.heap.size = b := ⟨_, rfl⟩
      obtain ⟨X2, hX2⟩ : ∃ v, X1.alloc (.cells #[.slice (some ⟨b1, 0, none⟩) 1 1, .slice (some ⟨Kb, 0, none⟩) 3 3] 0x47) = v := ⟨_, rfl⟩
      have hba : Below X1.heap.size X1 X2 := by rw [← hX2]; exact (Below.refl _ _).alloc (Nat.le_refl _) _
      have hG2 : Blk X2 g 0x47 #[.slice (some ⟨b1, 0, none⟩) 1 1, .slice (some ⟨Kb, 0, none⟩) 3 3] := by rw [← hX2, ← hg]; exact Blk.new X1 _ _
      have hB2 := hB1.keep hba
      have HK2 := Lib.hid (HK1.out.keep hba)
      have HR2 := Lib.hid (HR1.out.keep hba)
      have hp2 := hp1.keep hba
      have hw2 : Below wc.heap.size wc X2 := hw1.trans (hba.mono hw1.size)
      rw [hX2, hg]
      clear hX2 hg hba HK1 HR1 hB1 hp1
      refine hK.out _ _ hp2 (fun hHeld => ?_)
      clear hK K
      try simp only [Act.put]
      have g0 := hG2.cell 0
      have g1 := hG2.cell 1
      simp only [List.getElem?_toArray, List.getElem?_cons_zero, List.getElem?_cons_succ] at g0 g1
      have hjn := joinedM_any g b1 Kb 1 3 n m k X2 g0 g1 hG2.lt hB2.lt HK2.out.lt (fun j u hu => by rw [hB2.cell]; simpa [mCells] using hu) (fun j u hu => by rw [HK2.out.cell]; simpa using hu)
      have HJN := Lib.hid hjn
      clear hjn g0 g1 hG2 hB2
      refine wpAnyH_ready (rs := [5]) (by kernel_rfl) (by simp) (AllReadyH.cons rfl (fun K hK => ?_) AllReadyH.nil)
      go_simp
      go_at_call 38
      (with_reducible refine HJN.out.mono ?_)
      rintro e X3 ⟨A, c, rfl, hown, hb23⟩
      have hp3 := hp2.keep hb23
      have HK3 := Lib.hid (HK2.out.keep hb23)
      have HR3 := Lib.hid (HR2.out.keep hb23)
      have hw3 : Below wc.heap.size wc X3 := hw2.trans (hb23.mono hw2.size)
      obtain ⟨ga, cap, hA, _, _⟩ := hown.form (by omega)
      obtain rfl : A = some ⟨ga, 0, none⟩ := by injection hA
      have hcs := hown.cells (g := ga) rfl
      refine hK.out _ _ hp3 (fun hHeld => ?_)
      clear hK K HJN hb23 HK2 HR2 hp2
      try simp only [Act.put]
      refine wpAnyH_ready (rs := [6]) (by kernel_rfl) (by simp) (AllReadyH.cons rfl (fun K hK => ?_) AllReadyH.nil)
      rw [if_pos (by rfl)]
      have hKp : Kb ≠ p := by omega
      refine oper_copy_rows (.tmp 20) (.tmp 25) 0x47 0x47 rfl 0x37 2 Tryd.underlying71 (by kernel_rfl) Kb 0 3 3 ⟨ga, 0, none⟩ 4 c rfl rfl k.cells 0x39 HK3.out (turnK k n m).cells.toList rfl (fun j v hj => hcs j v ?_) (by simp [Kpt.cells]) (by simp [Kpt.cells, Value.oneCell']) ?_
      · have e : mCells n m ++ k.cells.toList = (turnK k n m).cells.toList ++ [.int .i64 k.n2, .string k.s2] := rfl
        rw [e, List.getElem?_append_left (List.getElem?_eq_some_iff.1 hj).1]
        exact hj
      have er : (k.cells.toList.take 0 ++ (turnK k n m).cells.toList ++ k.cells.toList.drop (0 + (turnK k n m).cells.toList.length)).toArray = (turnK k n m).cells := by
        simp [Kpt.cells]
      rw [er]
      have hK9 := setRow_heap X3 Kb k.cells (turnK k n m).cells 0x39 (0, 0) HK3.out
      have hR9 : Blk (X3.setRow Kb (turnK k n m).cells) Rb 0x39 zeroK.cells := Blk.setRowNe HR3.out (fun e => hKR e.symm)
      have hp9 : Blk (X3.setRow Kb (turnK k n m).cells) p 0x37 #[.int .i64 n, .string m] := Blk.setRowNe hp3 (fun e => hKp e.symm)
      have hw9 : Below w.heap.size w (X3.setRow Kb (turnK k n m).cells) := below_setRow ((HB4.out.trans (HB.out.mono HB4.out.size)).trans (hw3.mono (by have := HB4.out.size; omega))) hwK _
      refine hK.out _ _ hp9 (fun hHeld => ?_)
      clear hK K
      have HK9 : Hid (Blk (X3.setRow Kb (turnK k n m).cells) Kb 0x39 (turnK k n m).cells) := Lib.hid hK9
      have HR9 := Lib.hid hR9
      have HW9 := Lib.hid hw9
      clear hK9 hR9 hw9 hp9 er hcs hown hp3 hHeld
      obtain ⟨X9, hX9⟩ : ∃ v, X3.setRow Kb (turnK k n m).cells = v := ⟨_, rfl⟩
      rw [hX9] at HK9 HR9 HW9 ⊢
      clear hX9
      try simp only [Act.put]
      refine wpAnyH_done (by kernel_rfl) ?_ _
      try simp only [List.getElem_toArray, List.getElem_cons_succ, List.getElem_cons_zero]
      go_wp2_with fail
      go_meet
      exact ⟨trivial, HK9, HR9, HW9⟩
    case rest =>
      obtain ⟨_, HK9, HR9, HW9⟩ := hcut
      have kc := fun j => HK9.out.cell j
      have rc := fun j => HR9.out.cell j
      have rf := fun j => HR9.out.frozen j
      have k0 := kc 0
      have k1 := kc 1
      have k2 := kc 2
      have k3 := kc 3
      have k4 := kc 4
      have k5 := kc 5
      have r0 := rc 0
      have r1 := rc 1
      have r2 := rc 2
      have r3 := rc 3
      have r4 := rc 4
      have r5 := rc 5
      have f0 := rf 0
      have f1 := rf 1
      have f2 := rf 2
      have f3 := rf 3
      have f4 := rf 4
      have f5 := rf 5
      have hrl := HR9.out.lt
      unfold Kpt.cells zeroK at r0 r1 r2 r3 r4 r5
      unfold Kpt.cells turnK at k0 k1 k2 k3 k4 k5
      simp only [List.getElem?_toArray, List.getElem?_cons_zero, List.getElem?_cons_succ] at k0 k1 k2 k3 k4 k5 r0 r1 r2 r3 r4 r5
      clear kc rc rf
      go_wp2
      have hB : Blk ((((((wc.setCell ⟨Rb, 0, none⟩ (.int .i64 n)).setCell ⟨Rb, 1, none⟩ (.string m)).setCell ⟨Rb, 2, none⟩ (.int .i64 k.n0)).setCell ⟨Rb, 3, none⟩ (.string k.s0)).setCell ⟨Rb, 4, none⟩ (.int .i64 k.n1)).setCell ⟨Rb, 5, none⟩ (.string k.s1)) Rb 0x39 (turnK k n m).cells :=
        heap_setCell_same _ _ _ _ _ _ (heap_setCell_same _ _ _ _ _ _ (heap_setCell_same _ _ _ _ _ _ (heap_setCell_same _ _ _ _ _ _ (heap_setCell_same _ _ _ _ _ _ (heap_setCell_same _ _ _ _ _ _ HR9.out)))))
      refine bodyPost_ret (v := .agg (turnK k n m).cells) (results_cell_row rfl _ _ Rb 0x39 (turnK k n m).cells (0, 0) _ rfl hB Tryd.underlying57 rfl (by kernel_rfl)) rfl ⟨rfl, ?_⟩
      exact (((((HW9.out.setCell (p := ⟨Rb, 0, none⟩) hwR _).setCell (p := ⟨Rb, 1, none⟩) hwR _).setCell (p := ⟨Rb, 2, none⟩) hwR _).setCell (p := ⟨Rb, 3, none⟩) hwR _).setCell (p := ⟨Rb, 4, none⟩) hwR _).setCell (p := ⟨Rb, 5, none⟩) hwR _
end Go.Proofs
