/-
  The contracts of joined at masters, and of turned.
  The contracts of New and Turn of keys.
  The contract of Turn of keys.
  Numbers as bytes, and the number with which bytes begin: what is laid is read. No condition.
  Texts as bytes, and a text laid behind a row. No condition.
-/
import Derived.Test.YtbojnblececnhaaGreatDoorQ20
import Derived.Test.YtbojnblececnhaaGreatDoorQ00
import Derived.Lib.AppendStr
namespace Go.Proofs
open Go.RowKit Sm
theorem Sm.info37 : (Tryz.prog.info? 0x23).map (fun i => (i.zero, i.size, i.bytes)) = some (some (.agg #[.int .i64 0, .string ⟨#[]⟩]), 2, 24) := by kernel_rfl
def Sm.mCells (n : Int) (s : ByteArray) : List Value := [.int .i64 n, .string s]
/-- what is joined behind k parts -/
def Sm.jC (n : Int) (s : ByteArray) (k : Kpt) : Nat → Nat × List Value
  | 0 => (0, [])
  | 1 => (1, mCells n s)
  | _ => (4, mCells n s ++ k.cells.toList)
set_option maxRecDepth 100000 in
set_option maxHeartbeats 2000000 in
theorem Sm.joinedM_any (g b1 b2 c1 c2 : Nat) (n : Int) (s : ByteArray) (k : Kpt) (w : World) (h0 : w.cell? ⟨g, 0, none⟩ = some (.slice (some ⟨b1, 0, none⟩) 1 c1)) (h1 : w.cell? ⟨g, 1, none⟩ = some (.slice (some ⟨b2, 0, none⟩) 3 c2))
    (hg : g < w.heap.size) (l1 : b1 < w.heap.size) (l2 : b2 < w.heap.size) (hc1 : ∀ j u, (mCells n s)[j]? = some u → w.cell? ⟨b1, j, none⟩ = some u) (hc2 : ∀ j u, k.cells.toList[j]? = some u → w.cell? ⟨b2, j, none⟩ = some u) :
    Calls Tryz.prog 67 #[.slice (some ⟨g, 0, none⟩) 2 2] w fun e w' => ∃ A c, e = .returned (.slice A 4 c) ∧ w'.ownsRow w.heap.size 0x23 2 (.slice A 4 c) 4 (mCells n s ++ k.cells.toList) ∧ Below w.heap.size w w' := by
  obtain ⟨i0, hi, hz0, hz1, hz2⟩ := info_parts info37
  have HC1 := Lib.hid hc1
  have HC2 := Lib.hid hc2
  have H0 := Lib.hid h0
  have H1 := Lib.hid h1
  clear hc1 hc2 h0 h1
  go_enter Tryz.func67, Tryz.ntmps67
  go_wp2
  go_loopw [3, 8] (fun s3 s8 wr => ∃ (j : Nat) (v : Value), j ≤ 2 ∧ s8 = .int .i64 (j : Int) ∧ s3 = v ∧ Hid (wr.ownsRow w.heap.size 0x23 2 v (jC n s k j).1 (jC n s k j).2) ∧ Hid (Below w.heap.size w wr)) (fun _ s8 _ => 2 - (intOf s8).toNat)
  case atStart => exact ⟨0, _, by omega, rfl, rfl, Lib.hid (World.ownsRow_nil _ _ _ _), Lib.hid (Below.refl _ _)⟩
  case round =>
    obtain ⟨wo, rfl⟩ : ∃ wo : World, wo = wr := ⟨_, rfl⟩
    obtain ⟨j, v, hj, rfl, rfl, HO, HB⟩ := hrel
    have hsz := HB.out.size
    by_cases hj0 : j = 0
    · subst hj0
      have hp := (HB.out.cell (p := ⟨g, 0, none⟩) hg).trans H0.out
      have hnw : ∀ i u, (mCells n s)[i]? = some u → wo.cell? ((⟨b1, 0, none⟩ : Addr).add i) = some u := fun i u hu => by
        rw [Addr.add_mid, Nat.zero_add]
        exact (HB.out.cell (p := ⟨b1, i, none⟩) l1).trans (HC1.out i u hu)
      have HNW := Lib.hid hnw
      clear hnw
      go_wp2_with (at_builtin; refine wpList_append_own _ rfl (.tmp 12) (.tmp 13) 0x6c rfl w.heap.size 0x23 i0 _ 2 24 Tryz.underlying108 hi hz0 hz1 hz2 rfl (by decide) u3 0 [] rfl HO.out ⟨b1, 0, none⟩ 1 c1 (mCells n s) rfl rfl HNW.out (by simp [mCells, Value.oneCell']) (by unfold maxLen; omega) (by omega) hsz ?_; intro v5 w5 hown5 hg5 _)
      have hb5 : Below w.heap.size w w5 := HB.out.grown hg5 hsz (fun g e => own_ge HO.out g e)
      exact ⟨⟨1, v5, by omega, by go_num, rfl, Lib.hid hown5, Lib.hid hb5⟩, by simp [intOf]⟩
    · by_cases hj1 : j = 1
      · subst hj1
        have hp := (HB.out.cell (p := ⟨g, 1, none⟩) hg).trans H1.out
        have hnw : ∀ i u, k.cells.toList[i]? = some u → wo.cell? ((⟨b2, 0, none⟩ : Addr).add i) = some u := fun i u hu => by
          rw [Addr.add_mid, Nat.zero_add]
          exact (HB.out.cell (p := ⟨b2, i, none⟩) l2).trans (HC2.out i u hu)
        have HNW := Lib.hid hnw
        clear hnw
        go_wp2_with (at_builtin; refine wpList_append_own _ rfl (.tmp 12) (.tmp 13) 0x6c rfl w.heap.size 0x23 i0 _ 2 24 Tryz.underlying108 hi hz0 hz1 hz2 rfl (by decide) u3 1 (mCells n s) rfl HO.out ⟨b2, 0, none⟩ 3 c2 k.cells.toList rfl rfl HNW.out (by simp [Kpt.cells, Value.oneCell']) (by unfold maxLen; omega) (by omega) hsz ?_; intro v5 w5 hown5 hg5 _)
        have hb5 : Below w.heap.size w w5 := HB.out.grown hg5 hsz (fun g e => own_ge HO.out g e)
        exact ⟨⟨2, v5, by omega, by go_num, rfl, Lib.hid hown5, Lib.hid hb5⟩, by simp [intOf]⟩
      · obtain rfl : j = 2 := by omega
        have ho := HO.out
        rw [show jC n s k 2 = (4, mCells n s ++ k.cells.toList) from rfl] at ho
        go_wp2
        obtain ⟨A, c, rfl⟩ : ∃ A c, u3 = .slice A 4 c := by
          rcases ho.2 with ⟨h1, h2⟩ | ⟨g', cap, cur, h1, _⟩
          · have := ho.1
            rw [h2] at this
            cases this
          · exact ⟨_, _, h1⟩
        go_ret
        exact ⟨A, c, rfl, ho, HB.out⟩
/-- a copy into a row, of elements of several cells -/
theorem Sm.run_copy_rows {P : Program} (w : World) (dT sT ty elem : TypeId) (g o dLen dCap : Nat) (a : Addr) (sLen sCap size : Nat) (cur : Array Value) (t : TypeId) (cs : List Value)
    (hu : P.underlying dT = some (.slice elem)) (hs : (P.info? elem).map (·.size) = some size)
    (hg : w.heap[g]? = some (.cells cur t (0, 0))) (hn : cs.length = Nat.min sLen dLen * size)
    (hsrc : ∀ j v, cs[j]? = some v → w.cell? (a.add j) = some v) (hfit : o + cs.length ≤ cur.size) (h1 : ∀ v ∈ cs, v.oneCell' = true) :
    (Builtin.copy_ #[dT, sT] ty #[.slice (some ⟨g, o, none⟩) dLen dCap, .slice (some a) sLen sCap]).run P w =
      .ok (goInt (Nat.min sLen dLen)) (w.setRow g (cur.toList.take o ++ cs ++ cur.toList.drop (o + cs.length)).toArray) := by
  have hl := run_loadCells_list (P := P) w a cs hsrc
  have hst := run_storeCells_at P g o t cs 0 cur w hg (by simpa using hfit) h1
  cases hq : P.info? elem with
  | none => simp [hq] at hs
  | some i =>
    have hi : i.size = size := by simpa [hq] using hs
    simp [Builtin.copy_, run_underlying hu, Builtin.lenOf, Builtin.firstCells, sizeOf, typeInfo, hq, hi, ← hn, hl, hst]
theorem Sm.oper_copy_rows {P : Program} {o : Oper} {a : Act} {w : World} {K : Act → World → Prop} {Q : Exit → Act → World → Prop} (d s : Operand) (dT sT : TypeId)
    (ho : o.op = .call { callee := .builtin .copy, args := #[d, s], argTypes := #[dT, sT] }) (elem : TypeId) (size : Nat) (hu : P.underlying dT = some (.slice elem)) (hsz : (P.info? elem).map (·.size) = some size)
    (g off dLen dCap : Nat) (ad : Addr) (sLen sCap : Nat) (hd : a.eval d = .slice (some ⟨g, off, none⟩) dLen dCap) (hs : a.eval s = .slice (some ad) sLen sCap)
    (cur : Array Value) (t : TypeId) (hg : w.heap[g]? = some (.cells cur t (0, 0))) (cs : List Value) (hn : cs.length = Nat.min sLen dLen * size)
    (hsrc : ∀ j v, cs[j]? = some v → w.cell? (ad.add j) = some v) (hfit : off + cs.length ≤ cur.size) (h1 : ∀ v ∈ cs, v.oneCell' = true)
    (h : K (a.put o.dst (goInt (Nat.min sLen dLen))) (w.setRow g (cur.toList.take off ++ cs ++ cur.toList.drop (off + cs.length)).toArray)) : o.wp P a w K Q := by
  have hrun := run_copy_rows (P := P) w dT sT o.type elem g off dLen dCap ad sLen sCap size cur t cs hu hsz hg hn hsrc hfit h1
  unfold Oper.wp execOp
  simp only [ho, resolve, invoke, builtin, Sem.run_bind, Sem.run_pure, Result.andThen_ok, List.map_toArray, List.map_cons, List.map_nil, hd, hs, hrun]
  exact h
/-- what a turn keeps -/
def Sm.turnK (k : Kpt) (n : Int) (m : ByteArray) : Kpt := ⟨n, m, k.n0, k.s0, k.n1, k.s1⟩
theorem Sm.zeros37 : Tryz.prog.built 0x23 [] = some #[.int .i64 0, .string ⟨#[]⟩] := by kernel_rfl
theorem Sm.slice57_all (b : Nat) (w : World) : (Instr.sliceAt 0x25 (.pointer (some ⟨b, 0, none⟩)) none none none).run Tryz.prog w = .ok (.slice (some ⟨b, 0, none⟩) 3 3) w := by
  have hu : Tryz.prog.underlying 0x25 = some (.array (Tryz.prog.arrayLen 0x25) (Tryz.prog.elem 0x25)) := by kernel_rfl
  have ha : Tryz.prog.arrayLen 0x25 = 3 := by kernel_rfl
  have he : Tryz.prog.elem 0x25 = 0x23 := by kernel_rfl
  have hs : ∀ w, (sizeOf 0x23).run Tryz.prog w = .ok 2 w := fun _ => by kernel_rfl
  rw [run_sliceAt_array_all w 0x25 ⟨b, 0, none⟩ hu, he, hs]
  simp only [Result.andThen_ok, slicedAt, ha, Nat.zero_mul]
  rw [if_neg (by omega), Addr.add_mid, Nat.add_zero]
set_option maxRecDepth 100000 in
set_option maxHeartbeats 2000000 in
theorem Sm.turned_yes (k : Kpt) (n : Int) (m : ByteArray) (w : World) (h1 : 1 ≤ m.size) (h2 : m.size ≤ 64) :
    Calls Tryz.prog 38 #[.agg k.cells, .agg #[.int .i64 n], .string m] w fun e w' => e = .returned (.agg (turnK k n m).cells) ∧ Below w.heap.size w w' := by
  have hm1 : (1 : Int) ≤ (m.size : Int) := by omega
  have hm2 : (m.size : Int) ≤ 64 := by omega
  obtain ⟨W3, hW3⟩ : ∃ v, ((w.alloc (.cells k.cells 0x25)).alloc (.cells #[.int .i64 n] 0x21)).alloc (.cells zeroK.cells 0x25) = v := ⟨_, rfl⟩
  have hz3 : W3.heap.size = w.heap.size + 1 + 1 + 1 := by rw [← hW3]; simp
  have hb3 : Below w.heap.size w W3 := by rw [← hW3]; exact (((Below.refl _ w).alloc (Nat.le_refl _) _).alloc (by simp) _).alloc (by simp; omega) _
  have hK3 : Blk W3 w.heap.size 0x25 k.cells := by rw [← hW3]; exact ((Blk.new w 0x25 _).alloc _).alloc _
  have hN3 : Blk W3 (w.heap.size + 1) 0x21 #[.int .i64 n] := by rw [← hW3]; exact (Blk.newAt (X := w.alloc (.cells k.cells 0x25)) (by simp) 0x21 _).alloc _
  have hR3 : Blk W3 (w.heap.size + 1 + 1) 0x25 zeroK.cells := by rw [← hW3]; exact Blk.newAt (X := (w.alloc (.cells k.cells 0x25)).alloc (.cells #[.int .i64 n] 0x21)) (by simp) 0x25 _
  unfold Kpt.cells zeroK at hW3
  rw [show k.cells = (#[.int .i64 k.n0, .string k.s0, .int .i64 k.n1, .string k.s1, .int .i64 k.n2, .string k.s2] : Array Value) from rfl]
  clear hz3
  go_enter Tryz.func38, Tryz.ntmps38
  go_upto_region 1 with fail
  clear hW3
  go_upto_region 2 with (go_at_call 31; (with_reducible refine (must_two _ _ _ _ (World.cell?_alloc_new W3 #[.bool true, .bool true] 4 0) (World.cell?_alloc_new W3 #[.bool true, .bool true] 4 1)).mono ?_); rintro e w4 ⟨⟨v4, rfl⟩, rfl⟩)
  obtain ⟨W4, hW4⟩ : ∃ v, W3.alloc (.cells #[.bool true, .bool true] 4) = v := ⟨_, rfl⟩
  have hb34 : Below W3.heap.size W3 W4 := by rw [← hW4]; exact (Below.refl _ _).alloc (Nat.le_refl _) _
  have hb4 : Below w.heap.size w W4 := hb3.trans (hb34.mono hb3.size)
  have hK4 := hK3.keep hb34
  have hN4 := hN3.keep hb34
  have hR4 := hR3.keep hb34
  have hlt4 : w.heap.size + 1 + 1 < W4.heap.size := hR4.lt
  obtain ⟨Kb, hKb⟩ : ∃ b, w.heap.size = b := ⟨_, rfl⟩
  rw [hKb] at hK4 hN4 hR4 hlt4
  obtain ⟨Nb, hNb⟩ : ∃ b, Kb + 1 = b := ⟨_, rfl⟩
  obtain ⟨Rb, hRb⟩ : ∃ b, Kb + 1 + 1 = b := ⟨_, rfl⟩
  rw [hRb] at hR4 hlt4
  rw [hNb] at hN4
  have hNl : Nb < W4.heap.size := hN4.lt
  have hKl : Kb < W4.heap.size := hK4.lt
  have hKR : Kb ≠ Rb := by omega
  have hwK : w.heap.size ≤ Kb := by omega
  have hwR : w.heap.size ≤ Rb := by omega
  rw [hW4, hKb, hRb, hNb]
  have HK4 := Lib.hid hK4
  have HN4 := Lib.hid hN4
  have HR4 := Lib.hid hR4
  have HB4 := Lib.hid hb4
  clear hW4 hb34 hb4 hK4 hN4 hR4 hKb hNb hRb hK3 hN3 hR3 hb3
  go_cut [7] from 16 to 20 (fun s7 wx => ∃ p : Nat, s7 = .pointer (some ⟨p, 0, none⟩) ∧ W4.heap.size ≤ p ∧ Hid (Blk wx p 0x23 #[.int .i64 n, .string m]) ∧ Hid (Below W4.heap.size W4 wx))
  case first =>
    have HN0 : Hid (Blk W4.drew Nb 0x21 #[.int .i64 n]) := Lib.hid HN4.out.drew
    have hb0 : Below W4.heap.size W4 W4.drew := (Below.refl _ _).drew
    refine wp_region_held_drew (S := fun wx => Below W4.heap.size W4 wx) rfl hb0 (fun hHeld => ?_)
    simp only [List.size_toArray, List.length_cons, List.length_nil, Nat.reduceAdd]
    have hnc := HN4.out.cell 0
    simp only [List.getElem?_toArray, List.getElem?_cons_zero] at hnc
    obtain ⟨X0, hX0⟩ : ∃ v, W4.drew = v := ⟨_, rfl⟩
    rw [hX0] at hHeld hb0 HN0 ⊢
    clear hX0
    refine wpAnyH_take (i := 0) (v := .agg #[.int .i64 n]) rfl (by kernel_rfl) (by kernel_rfl) (by kernel_rfl) (fun _ _ _ h => h) (Or.inl ⟨by rfl, ?_⟩) (by assumption) ?_
    · intro wx hs1; have hc := (hs1.cell (p := ⟨Nb, 0, none⟩) hNl).trans hnc; go_simp
    try simp only [Act.put]
    refine wpAnyH_take (i := 1) (v := .string m) rfl (by kernel_rfl) (by kernel_rfl) (by kernel_rfl) (fun _ _ _ h => h) (Or.inl ⟨by rfl, ?_⟩) (by assumption) ?_
    · intro wx hs1; go_simp
    try simp only [Act.put]
    clear hnc
    refine wpAnyH_ready (rs := [2, 4]) (by kernel_rfl) (by simp) (AllReadyH.cons rfl (fun K hK => ?_) (AllReadyH.cons rfl (fun K hK => ?_) AllReadyH.nil))
    · go_simp
      go_at_call 66
      (with_reducible refine (Clone_any m X0 (by omega)).mono ?_)
      rintro e X1 ⟨rfl, hb01⟩
      have hb1 : Below W4.heap.size W4 X1 := hb0.trans (hb01.mono hb0.size)
      clear hb01
      refine hK.out _ _ hb1 (fun hHeld => ?_)
      clear hK K
      try simp only [Act.put]
      refine wpAnyH_take (i := 3) (v := .agg #[.int .i64 n, .string m]) rfl (by kernel_rfl) (by kernel_rfl) (by kernel_rfl) (fun _ _ _ h => h) (Or.inl ⟨by rfl, ?_⟩) (by assumption) ?_
      · intro wx hs1; go_simp
      try simp only [Act.put]
      refine wpAnyH_ready (rs := [4]) (by kernel_rfl) (by simp) (AllReadyH.cons rfl (fun K hK => ?_) AllReadyH.nil)
      go_simp
      refine hK.out _ _ (hb1.alloc hb1.size _) (fun hHeld => ?_)
      clear hK K
      try simp only [Act.put]
      refine wpAnyH_ready (rs := [5]) (by kernel_rfl) (by simp) (AllReadyH.cons rfl (fun K hK => ?_) AllReadyH.nil)
      go_simp
      have hq : Blk (X1.alloc (.cells #[.int .i64 n, .string m] 0x23)) X1.heap.size 0x23 #[.int .i64 n, .string m] := Blk.new X1 _ _
      refine hK.out _ _ (hb1.alloc hb1.size _) (fun hHeld => ?_)
      clear hK K
      try simp only [Act.put]
      refine wpAnyH_done (by kernel_rfl) ?_ _
      try simp only [List.getElem_toArray, List.getElem_cons_succ, List.getElem_cons_zero]
      go_wp2_with fail
      go_meet
      exact ⟨X1.heap.size, rfl, hb1.size, Lib.hid hq, Lib.hid (hb1.alloc hb1.size _)⟩
    · go_simp
      have hb1 : Below W4.heap.size W4 (X0.alloc (.cells #[.int .i64 0, .string ⟨#[]⟩] 0x23)) := hb0.alloc hb0.size _
      have hp1 : Blk (X0.alloc (.cells #[.int .i64 0, .string ⟨#[]⟩] 0x23)) X0.heap.size 0x23 #[.int .i64 0, .string ⟨#[]⟩] := Blk.new X0 _ _
      obtain ⟨p, hp⟩ : ∃ p, X0.heap.size = p := ⟨_, rfl⟩
      have hpl : W4.heap.size ≤ p := by rw [← hp]; exact hb0.size
      obtain ⟨X1, hX1⟩ : ∃ v, X0.alloc (.cells #[.int .i64 0, .string ⟨#[]⟩] 0x23) = v := ⟨_, rfl⟩
      rw [hX1, hp] at hp1
      rw [hX1] at hb1
      rw [hX1, hp]
      clear hX1 hp
      refine hK.out _ _ hb1 (fun hHeld => ?_)
      clear hK K
      try simp only [Act.put]
      refine wpAnyH_ready (rs := [2]) (by kernel_rfl) (by simp) (AllReadyH.cons rfl (fun K hK => ?_) AllReadyH.nil)
      go_simp
      go_at_call 66
      (with_reducible refine (Clone_any m X1 (by omega)).mono ?_)
      rintro e X2 ⟨rfl, hb12⟩
      have hb2 : Below W4.heap.size W4 X2 := hb1.trans (hb12.mono hb1.size)
      have hp2 := hp1.keep hb12
      clear hb12
      refine hK.out _ _ hb2 (fun hHeld => ?_)
      clear hK K
      try simp only [Act.put]
      refine wpAnyH_take (i := 3) (v := .agg #[.int .i64 n, .string m]) rfl (by kernel_rfl) (by kernel_rfl) (by kernel_rfl) (fun _ _ _ h => h) (Or.inl ⟨by rfl, ?_⟩) (by assumption) ?_
      · intro wx hs1; go_simp
      try simp only [Act.put]
      have pc0 := hp2.cell 0
      have pc1 := hp2.cell 1
      have pf0 := hp2.frozen 0
      have pf1 := hp2.frozen 1
      simp only [List.getElem?_toArray, List.getElem?_cons_zero, List.getElem?_cons_succ] at pc0 pc1
      refine wpAnyH_ready (rs := [5]) (by kernel_rfl) (by simp) (AllReadyH.cons rfl (fun K hK => ?_) AllReadyH.nil)
      go_simp
      have hb3 : Below W4.heap.size W4 ((X2.setCell ⟨p, 0, none⟩ (.int .i64 n)).setCell ⟨p, 1, none⟩ (.string m)) := (hb2.setCell (p := ⟨p, 0, none⟩) hpl _).setCell (p := ⟨p, 1, none⟩) hpl _
      have hp3 : Blk ((X2.setCell ⟨p, 0, none⟩ (.int .i64 n)).setCell ⟨p, 1, none⟩ (.string m)) p 0x23 #[.int .i64 n, .string m] := heap_setCell_same _ _ _ _ _ _ (heap_setCell_same _ _ _ _ _ _ hp2)
      refine hK.out _ _ hb3 (fun hHeld => ?_)
      clear hK K pc0 pc1 pf0 pf1
      try simp only [Act.put]
      refine wpAnyH_done (by kernel_rfl) ?_ _
      try simp only [List.getElem_toArray, List.getElem_cons_succ, List.getElem_cons_zero]
      go_wp2_with fail
      go_meet
      exact ⟨p, rfl, hpl, Lib.hid hp3, Lib.hid hb3⟩
  case rest =>
    obtain ⟨p, rfl, hpl, HP, HB⟩ := hcut
    have hKc : Blk wc Kb 0x25 k.cells := HK4.out.keep HB.out
    have hRc : Blk wc Rb 0x25 zeroK.cells := HR4.out.keep HB.out
    have hsz := HB.out.size
    have hpc := HP.out.lt
    have HKc := Lib.hid hKc
    have HRc := Lib.hid hRc
    have hslK := slice57_all Kb
    clear hKc hRc
    go_upto_region 3 with fail
    go_cut [7] from 20 to 27 (fun s7 wx => s7 = s7 ∧ Hid (Blk wx Kb 0x25 (turnK k n m).cells) ∧ Hid (Blk wx Rb 0x25 zeroK.cells) ∧ Hid (Below w.heap.size w wx))
    case first =>
      refine wp_region_held_drew (S := fun wx => Blk wx p 0x23 #[.int .i64 n, .string m]) rfl HP.out.drew (fun hHeld => ?_)
      simp only [List.size_toArray, List.length_cons, List.length_nil, Nat.reduceAdd]
      have HK0 : Hid (Blk wc.drew Kb 0x25 k.cells) := Lib.hid HKc.out.drew
      have HR0 : Hid (Blk wc.drew Rb 0x25 zeroK.cells) := Lib.hid HRc.out.drew
      have hb0 : Below wc.heap.size wc wc.drew := (Below.refl _ _).drew
      obtain ⟨X0, hX0⟩ : ∃ v, wc.drew = v := ⟨_, rfl⟩
      rw [hX0] at hHeld hb0 HK0 HR0 ⊢
      clear hX0
      refine wpAnyH_take (i := 0) (v := .slice (some ⟨Kb, 0, none⟩) 3 3) rfl (by kernel_rfl) (by kernel_rfl) (by kernel_rfl) (fun _ _ _ h => h) (Or.inl ⟨by rfl, ?_⟩) (by assumption) ?_
      · intro wx hs1; go_simp
      try simp only [Act.put]
      refine wpAnyH_take (i := 1) (v := .agg #[.int .i64 n, .string m]) rfl (by kernel_rfl) (by kernel_rfl) (by kernel_rfl) (fun _ _ _ h => h) (Or.inl ⟨by rfl, ?_⟩) (by assumption) ?_
      · intro wx hs1
        have e0 := hs1.cell 0
        have e1 := hs1.cell 1
        simp only [List.getElem?_toArray, List.getElem?_cons_zero, List.getElem?_cons_succ] at e0 e1
        go_simp
      try simp only [Act.put]
      refine wpAnyH_take (i := 3) (v := .slice (some ⟨Kb, 0, none⟩) 3 3) rfl (by kernel_rfl) (by kernel_rfl) (by kernel_rfl) (fun _ _ _ h => h) (Or.inl ⟨by rfl, ?_⟩) (by assumption) ?_
      · intro wx hs1; go_simp
      try simp only [Act.put]
      refine wpAnyH_ready (rs := [2]) (by kernel_rfl) (by simp) (AllReadyH.cons rfl (fun K hK => ?_) AllReadyH.nil)
      go_simp
      obtain ⟨b1, hb1⟩ : ∃ b, X0.heap.size = b := ⟨_, rfl⟩
      obtain ⟨X1, hX1⟩ : ∃ v, X0.alloc (.cells #[.int .i64 n, .string m] 0x23) = v := ⟨_, rfl⟩
      have hba : Below X0.heap.size X0 X1 := by rw [← hX1]; exact (Below.refl _ _).alloc (Nat.le_refl _) _
      have hB1 : Blk X1 b1 0x23 #[.int .i64 n, .string m] := by rw [← hX1, ← hb1]; exact Blk.new X0 _ _
      have HK1 := Lib.hid (HK0.out.keep hba)
      have HR1 := Lib.hid (HR0.out.keep hba)
      have hp1 := hHeld.keep hba
      have hw1 : Below wc.heap.size wc X1 := hb0.trans (hba.mono hb0.size)
      rw [hX1, hb1]
      clear hX1 hb1 hba HK0 HR0
      refine hK.out _ _ hp1 (fun hHeld => ?_)
      clear hK K
      try simp only [Act.put]
      refine wpAnyH_ready (rs := [4]) (by kernel_rfl) (by simp) (AllReadyH.cons rfl (fun K hK => ?_) AllReadyH.nil)
      go_simp
      obtain ⟨g, hg⟩ : ∃ b, X1.heap.size = b := ⟨_, rfl⟩
      obtain ⟨X2, hX2⟩ : ∃ v, X1.alloc (.cells #[.slice (some ⟨b1, 0, none⟩) 1 1, .slice (some ⟨Kb, 0, none⟩) 3 3] 0x6c) = v := ⟨_, rfl⟩
      have hba : Below X1.heap.size X1 X2 := by rw [← hX2]; exact (Below.refl _ _).alloc (Nat.le_refl _) _
      have hG2 : Blk X2 g 0x6c #[.slice (some ⟨b1, 0, none⟩) 1 1, .slice (some ⟨Kb, 0, none⟩) 3 3] := by rw [← hX2, ← hg]; exact Blk.new X1 _ _
      have hB2 := hB1.keep hba
      have HK2 := Lib.hid (HK1.out.keep hba)
      have HR2 := Lib.hid (HR1.out.keep hba)
      have hp2 := hp1.keep hba
      have hw2 : Below wc.heap.size wc X2 := hw1.trans (hba.mono hw1.size)
      rw [hX2, hg]
      clear hX2 hg hba HK1 HR1 hB1 hp1
      refine hK.out _ _ hp2 (fun hHeld => ?_)
      clear hK K
      try simp only [Act.put]
      have g0 := hG2.cell 0
      have g1 := hG2.cell 1
      simp only [List.getElem?_toArray, List.getElem?_cons_zero, List.getElem?_cons_succ] at g0 g1
      have hjn := joinedM_any g b1 Kb 1 3 n m k X2 g0 g1 hG2.lt hB2.lt HK2.out.lt (fun j u hu => by rw [hB2.cell]; simpa [mCells] using hu) (fun j u hu => by rw [HK2.out.cell]; simpa using hu)
      have HJN := Lib.hid hjn
      clear hjn g0 g1 hG2 hB2
      refine wpAnyH_ready (rs := [5]) (by kernel_rfl) (by simp) (AllReadyH.cons rfl (fun K hK => ?_) AllReadyH.nil)
      go_simp
      go_at_call 67
      (with_reducible refine HJN.out.mono ?_)
      rintro e X3 ⟨A, c, rfl, hown, hb23⟩
      have hp3 := hp2.keep hb23
      have HK3 := Lib.hid (HK2.out.keep hb23)
      have HR3 := Lib.hid (HR2.out.keep hb23)
      have hw3 : Below wc.heap.size wc X3 := hw2.trans (hb23.mono hw2.size)
      obtain ⟨ga, cap, hA, _, _⟩ := hown.form (by omega)
      obtain rfl : A = some ⟨ga, 0, none⟩ := by injection hA
      have hcs := hown.cells (g := ga) rfl
      refine hK.out _ _ hp3 (fun hHeld => ?_)
      clear hK K HJN hb23 HK2 HR2 hp2
      try simp only [Act.put]
      refine wpAnyH_ready (rs := [6]) (by kernel_rfl) (by simp) (AllReadyH.cons rfl (fun K hK => ?_) AllReadyH.nil)
      rw [if_pos (by rfl)]
      have hKp : Kb ≠ p := by omega
      refine oper_copy_rows (.tmp 20) (.tmp 25) 0x6c 0x6c rfl 0x23 2 Tryz.underlying108 (by kernel_rfl) Kb 0 3 3 ⟨ga, 0, none⟩ 4 c rfl rfl k.cells 0x25 HK3.out (turnK k n m).cells.toList rfl (fun j v hj => hcs j v ?_) (by simp [Kpt.cells]) (by simp [Kpt.cells, Value.oneCell']) ?_
      · have e : mCells n m ++ k.cells.toList = (turnK k n m).cells.toList ++ [.int .i64 k.n2, .string k.s2] := rfl
        rw [e, List.getElem?_append_left (List.getElem?_eq_some_iff.1 hj).1]
        exact hj
      have er : (k.cells.toList.take 0 ++ (turnK k n m).cells.toList ++ k.cells.toList.drop (0 + (turnK k n m).cells.toList.length)).toArray = (turnK k n m).cells := by
        simp [Kpt.cells]
      rw [er]
      have hK9 := setRow_heap X3 Kb k.cells (turnK k n m).cells 0x25 (0, 0) HK3.out
      have hR9 : Blk (X3.setRow Kb (turnK k n m).cells) Rb 0x25 zeroK.cells := Blk.setRowNe HR3.out (fun e => hKR e.symm)
      have hp9 : Blk (X3.setRow Kb (turnK k n m).cells) p 0x23 #[.int .i64 n, .string m] := Blk.setRowNe hp3 (fun e => hKp e.symm)
      have hw9 : Below w.heap.size w (X3.setRow Kb (turnK k n m).cells) := below_setRow ((HB4.out.trans (HB.out.mono HB4.out.size)).trans (hw3.mono (by have := HB4.out.size; omega))) hwK _
      refine hK.out _ _ hp9 (fun hHeld => ?_)
      clear hK K
      have HK9 : Hid (Blk (X3.setRow Kb (turnK k n m).cells) Kb 0x25 (turnK k n m).cells) := Lib.hid hK9
      have HR9 := Lib.hid hR9
      have HW9 := Lib.hid hw9
      clear hK9 hR9 hw9 hp9 er hcs hown hp3 hHeld
      obtain ⟨X9, hX9⟩ : ∃ v, X3.setRow Kb (turnK k n m).cells = v := ⟨_, rfl⟩
      rw [hX9] at HK9 HR9 HW9 ⊢
      clear hX9
      try simp only [Act.put]
      refine wpAnyH_done (by kernel_rfl) ?_ _
      try simp only [List.getElem_toArray, List.getElem_cons_succ, List.getElem_cons_zero]
      go_wp2_with fail
      go_meet
      exact ⟨trivial, HK9, HR9, HW9⟩
    case rest =>
      obtain ⟨_, HK9, HR9, HW9⟩ := hcut
      have kc := fun j => HK9.out.cell j
      have rc := fun j => HR9.out.cell j
      have rf := fun j => HR9.out.frozen j
      have k0 := kc 0
      have k1 := kc 1
      have k2 := kc 2
      have k3 := kc 3
      have k4 := kc 4
      have k5 := kc 5
      have r0 := rc 0
      have r1 := rc 1
      have r2 := rc 2
      have r3 := rc 3
      have r4 := rc 4
      have r5 := rc 5
      have f0 := rf 0
      have f1 := rf 1
      have f2 := rf 2
      have f3 := rf 3
      have f4 := rf 4
      have f5 := rf 5
      have hrl := HR9.out.lt
      unfold Kpt.cells zeroK at r0 r1 r2 r3 r4 r5
      unfold Kpt.cells turnK at k0 k1 k2 k3 k4 k5
      simp only [List.getElem?_toArray, List.getElem?_cons_zero, List.getElem?_cons_succ] at k0 k1 k2 k3 k4 k5 r0 r1 r2 r3 r4 r5
      clear kc rc rf
      go_wp2
      have hB : Blk ((((((wc.setCell ⟨Rb, 0, none⟩ (.int .i64 n)).setCell ⟨Rb, 1, none⟩ (.string m)).setCell ⟨Rb, 2, none⟩ (.int .i64 k.n0)).setCell ⟨Rb, 3, none⟩ (.string k.s0)).setCell ⟨Rb, 4, none⟩ (.int .i64 k.n1)).setCell ⟨Rb, 5, none⟩ (.string k.s1)) Rb 0x25 (turnK k n m).cells :=
        heap_setCell_same _ _ _ _ _ _ (heap_setCell_same _ _ _ _ _ _ (heap_setCell_same _ _ _ _ _ _ (heap_setCell_same _ _ _ _ _ _ (heap_setCell_same _ _ _ _ _ _ (heap_setCell_same _ _ _ _ _ _ HR9.out)))))
      refine bodyPost_ret (v := .agg (turnK k n m).cells) (results_cell_row rfl _ _ Rb 0x25 (turnK k n m).cells (0, 0) _ rfl hB Tryz.underlying37 rfl (by kernel_rfl)) rfl ⟨rfl, ?_⟩
      exact (((((HW9.out.setCell (p := ⟨Rb, 0, none⟩) hwR _).setCell (p := ⟨Rb, 1, none⟩) hwR _).setCell (p := ⟨Rb, 2, none⟩) hwR _).setCell (p := ⟨Rb, 3, none⟩) hwR _).setCell (p := ⟨Rb, 4, none⟩) hwR _).setCell (p := ⟨Rb, 5, none⟩) hwR _
end Go.Proofs
namespace Go.Proofs
open Go.RowKit Sm
/-- a deed is tried that writes into one variable -/
theorem Sm.tried_any (D : Nat) (lb : Array Value) (eg : ∀ args w, (callFunc D args).run Tryz.prog w = .ok (.enter D args) w) (w : World) (Bd : Nat) (hBd : Bd < w.heap.size) (R : World → Prop)
    (hd : ∀ v, Below w.heap.size w v → v.heap.size = w.heap.size + 1 → Calls Tryz.prog D lb v fun e w' => (∃ x, e = .returned x) ∧ But (fun b => b = Bd) v w' ∧ R w') :
    Calls Tryz.prog 29 #[.func (.func D) #[] lb] w fun e w4 => e = .returned (.int .i64 0) ∧ ∃ w', R w' ∧ w.heap.size < w'.heap.size ∧ But (fun b => b = w.heap.size) w' w4 ∧ But (fun b => b = Bd) w w4 := by
  obtain ⟨W1, hW1⟩ : ∃ v, w.alloc (.cells #[.int .i64 0] 0x28) = v := ⟨_, rfl⟩
  have hb1 : Below w.heap.size w W1 := by rw [← hW1]; exact (Below.refl _ _).alloc (Nat.le_refl _) _
  have hz1 : W1.heap.size = w.heap.size + 1 := by rw [← hW1]; simp
  have e1 : W1.cell? ⟨w.heap.size, 0, none⟩ = some (.int .i64 0) := by rw [← hW1]; exact World.cell?_alloc_new w #[.int .i64 0] 0x28 0
  have g1 : W1.frozen? ⟨w.heap.size, 0, none⟩ = false := by rw [← hW1]; simp [go_sem]
  refine (tried_ok D lb eg w (fun w' => But (fun b => b = Bd) W1 w' ∧ R w') (by
    rw [hW1]
    refine (hd W1 hb1 hz1).mono ?_
    rintro e w' ⟨hv, hbt, hr⟩
    exact ⟨hv, ⟨hbt, hr⟩, (hbt.cell (p := ⟨w.heap.size, 0, none⟩) (by simp; omega) (by simp; omega)).trans e1, (hbt.frozen (p := ⟨w.heap.size, 0, none⟩) (by simp; omega) (by simp; omega)).trans g1⟩)).mono ?_
  rintro e w4 ⟨rfl, w2, ⟨hbt, hr⟩, rfl⟩
  have hz2 := hbt.size
  refine ⟨rfl, w2, hr, by omega, (But.refl _ w2).set _ _ (.inl rfl), ?_⟩
  exact ((But.of_all hb1 (fun b => b = Bd)).trans hbt (fun _ _ e => e)).set _ _ (.inr (by simp))
/-- a deed is tried that gives up -/
theorem Sm.tried_not (D : Nat) (lb : Array Value) (eg : ∀ args w, (callFunc D args).run Tryz.prog w = .ok (.enter D args) w) (w : World) (why : Int)
    (hd : ∀ v, Below w.heap.size w v → Calls Tryz.prog D lb v fun e w' => e = .panicked [pE why] ∧ Below v.heap.size v w') :
    Calls Tryz.prog 29 #[.func (.func D) #[] lb] w fun e w4 => e = .returned (.int .i64 why) ∧ Below w.heap.size w w4 := by
  obtain ⟨W1, hW1⟩ : ∃ v, w.alloc (.cells #[.int .i64 0] 0x28) = v := ⟨_, rfl⟩
  have hb1 : Below w.heap.size w W1 := by rw [← hW1]; exact (Below.refl _ _).alloc (Nat.le_refl _) _
  have hz1 : W1.heap.size = w.heap.size + 1 := by rw [← hW1]; simp
  have e1 : W1.cell? ⟨w.heap.size, 0, none⟩ = some (.int .i64 0) := by rw [← hW1]; exact World.cell?_alloc_new w #[.int .i64 0] 0x28 0
  have g1 : W1.frozen? ⟨w.heap.size, 0, none⟩ = false := by rw [← hW1]; simp [go_sem]
  refine (tried_no D lb eg w why (fun w' => Below W1.heap.size W1 w') (by
    rw [hW1]
    refine (hd W1 hb1).mono ?_
    rintro e w' ⟨rfl, hbt⟩
    exact ⟨rfl, hbt, (hbt.cell (p := ⟨w.heap.size, 0, none⟩) (by simp; omega)).trans e1, (hbt.frozen (p := ⟨w.heap.size, 0, none⟩) (by simp; omega)).trans g1⟩)).mono ?_
  rintro e w4 ⟨rfl, w2, hbt, rfl⟩
  exact ⟨rfl, (hb1.trans (hbt.mono hb1.size)).setCell (p := ⟨w.heap.size, 0, none⟩) (by simp) _⟩
set_option maxRecDepth 100000 in
set_option maxHeartbeats 2000000 in
theorem Sm.turned_no (k : Kpt) (n : Int) (m : ByteArray) (w : World) (hm : m.size ≤ 9223372036854775807) (h : ¬ (1 ≤ m.size ∧ m.size ≤ 64)) :
    Calls Tryz.prog 38 #[.agg k.cells, .agg #[.int .i64 n], .string m] w fun e w' => e = .panicked [pE 2] ∧ Below w.heap.size w w' := by
  obtain ⟨W3, hW3⟩ : ∃ v, ((w.alloc (.cells k.cells 0x25)).alloc (.cells #[.int .i64 n] 0x21)).alloc (.cells zeroK.cells 0x25) = v := ⟨_, rfl⟩
  have hb3 : Below w.heap.size w W3 := by rw [← hW3]; exact (((Below.refl _ w).alloc (Nat.le_refl _) _).alloc (by simp) _).alloc (by simp; omega) _
  unfold Kpt.cells zeroK at hW3
  rw [show k.cells = (#[.int .i64 k.n0, .string k.s0, .int .i64 k.n1, .string k.s1, .int .i64 k.n2, .string k.s2] : Array Value) from rfl]
  have HB3 := Lib.hid hb3
  by_cases h1 : 1 ≤ m.size
  · have h2 : ¬ m.size ≤ 64 := fun h2 => h ⟨h1, h2⟩
    have hm1 : (1 : Int) ≤ (m.size : Int) := by omega
    have hm2 : ¬ (m.size : Int) ≤ 64 := by omega
    clear h h1 h2
    go_enter Tryz.func38, Tryz.ntmps38
    go_upto_region 1 with fail
    clear hW3
    go_wp2_with (go_at_call 31; (with_reducible refine (must_two1 _ _ _ _ (World.cell?_alloc_new W3 #[.bool true, .bool false] 4 0) (World.cell?_alloc_new W3 #[.bool true, .bool false] 4 1)).mono ?_); rintro e w4 ⟨rfl, rfl⟩)
    exact ⟨rfl, rfl, HB3.out.alloc HB3.out.size _⟩
  · have hm0 : m.size = 0 := by omega
    obtain rfl : m = ⟨#[]⟩ := by
      cases m with
      | mk d =>
        have : d.size = 0 := hm0
        rw [Array.eq_empty_of_size_eq_zero this]
    clear h h1 hm0
    go_enter Tryz.func38, Tryz.ntmps38
    go_upto_region 1 with fail
    clear hW3
    go_wp2_with (go_at_call 31; (with_reducible refine (must_two0 _ _ _ _ (World.cell?_alloc_new W3 #[.bool false, .bool true] 4 0)).mono ?_); rintro e w4 ⟨rfl, rfl⟩)
    exact ⟨rfl, rfl, HB3.out.alloc HB3.out.size _⟩
set_option maxRecDepth 100000 in
set_option maxHeartbeats 1000000 in
theorem Sm.deed23_ok (m : ByteArray) (Bs Bd : Nat) (w : World) (x : Value) (h1 : 1 ≤ m.size) (h2 : m.size ≤ 64) (hs : w.cell? ⟨Bs, 0, none⟩ = some (.string m)) (hd : w.cell? ⟨Bd, 0, none⟩ = some x) (hf : w.frozen? ⟨Bd, 0, none⟩ = false) (hl : Bd < w.heap.size) :
    Calls Tryz.prog 49 #[.pointer (some ⟨Bs, 0, none⟩), .pointer (some ⟨Bd, 0, none⟩)] w fun e w' => (∃ v, e = .returned v) ∧ But (fun b => b = Bd) w w' ∧ ∃ B, w'.cell? ⟨Bd, 0, none⟩ = some (.pointer (some ⟨B, 0, none⟩)) ∧ w'.frozen? ⟨Bd, 0, none⟩ = false ∧ w.heap.size ≤ B ∧ KeyAt w' B (turnK zeroK 0 m) := by
  have hct := turned_yes zeroK 0 m w h1 h2
  rw [show zeroK.cells = (#[.int .i64 0, .string ⟨#[]⟩, .int .i64 0, .string ⟨#[]⟩, .int .i64 0, .string ⟨#[]⟩] : Array Value) from rfl] at hct
  unfold Kpt.cells at hct
  have HCT := Lib.hid hct
  clear hct
  go_enter Tryz.func49, Tryz.ntmps49
  go_wp2_with (go_at_call 38; (with_reducible refine HCT.out.mono ?_); rintro e w1 ⟨rfl, hbl⟩; have hc1 := (hbl.cell (p := ⟨Bd, 0, none⟩) hl).trans hd; have hf1 := (hbl.frozen (p := ⟨Bd, 0, none⟩) hl).trans hf; have hbs := hbl.size; have hl1 : Bd < w1.heap.size := by omega)
  go_end0
  obtain ⟨ws, hws⟩ : ∃ v, w1.setCell ⟨Bd, 0, none⟩ (.pointer (some ⟨w1.heap.size, 0, none⟩)) = v := ⟨_, rfl⟩
  have hset : But (fun b => b = Bd) w1 ws := by rw [← hws]; exact (But.refl _ w1).set _ _ (.inl rfl)
  have hzs : ws.heap.size = w1.heap.size := by rw [← hws]; simp
  have hcs : ws.cell? ⟨Bd, 0, none⟩ = some (.pointer (some ⟨w1.heap.size, 0, none⟩)) := by rw [← hws]; exact World.cell?_setCell_same _ _ _ hc1
  have hfs : ws.frozen? ⟨Bd, 0, none⟩ = false := by rw [← hws, World.frozen?_setCell]; exact hf1
  obtain ⟨w2, hw2⟩ : ∃ v, ws.alloc (.cells (turnK zeroK 0 m).cells 0x27) = v := ⟨_, rfl⟩
  have hb12 : Below ws.heap.size ws w2 := by rw [← hw2]; exact (Below.refl _ _).alloc (Nat.le_refl _) _
  have hK : KeyAt w2 ws.heap.size (turnK zeroK 0 m) := by rw [← hw2]; exact Blk.new ws 0x27 _
  unfold Kpt.cells at hw2
  rw [hws, hw2]
  rw [hzs] at hK
  refine ⟨⟨_, rfl⟩, ((But.of_all hbl (fun b => b = Bd)).trans hset (fun _ _ e => e)).trans (But.of_all hb12 (fun b => b = Bd)) (fun _ _ e => e), w1.heap.size, (hb12.cell (p := ⟨Bd, 0, none⟩) (by simp; omega)).trans hcs, (hb12.frozen (p := ⟨Bd, 0, none⟩) (by simp; omega)).trans hfs, hbs, hK⟩
set_option maxRecDepth 100000 in
set_option maxHeartbeats 1000000 in
theorem Sm.deed23_no (m : ByteArray) (Bs Bd : Nat) (w : World) (hm : m.size ≤ 9223372036854775807) (h : ¬ (1 ≤ m.size ∧ m.size ≤ 64)) (hs : w.cell? ⟨Bs, 0, none⟩ = some (.string m)) :
    Calls Tryz.prog 49 #[.pointer (some ⟨Bs, 0, none⟩), .pointer (some ⟨Bd, 0, none⟩)] w fun e w' => e = .panicked [pE 2] ∧ Below w.heap.size w w' := by
  have hct := turned_no zeroK 0 m w hm h
  rw [show zeroK.cells = (#[.int .i64 0, .string ⟨#[]⟩, .int .i64 0, .string ⟨#[]⟩, .int .i64 0, .string ⟨#[]⟩] : Array Value) from rfl] at hct
  have HCT := Lib.hid hct
  clear hct h
  go_enter Tryz.func49, Tryz.ntmps49
  go_wp2_with (go_at_call 38; (with_reducible refine HCT.out.mono ?_); rintro e w1 ⟨rfl, hbl⟩)
  exact ⟨rfl, rfl, hbl⟩
theorem Sm.enters49 : ∀ args w, (callFunc 49 args).run Tryz.prog w = .ok (.enter 49 args) w := enters_of Tryz.func49 (by kernel_rfl) rfl
/-- two variables, one behind the other -/
theorem Sm.two_vars (w : World) (a b : Value) (s t : TypeId) : ∃ W0, (w.alloc (.cells #[a] s)).alloc (.cells #[b] t) = W0 ∧ W0.heap.size = w.heap.size + 2 ∧ Below w.heap.size w W0 ∧ W0.cell? ⟨w.heap.size, 0, none⟩ = some a ∧ W0.cell? ⟨w.heap.size + 1, 0, none⟩ = some b ∧ W0.frozen? ⟨w.heap.size + 1, 0, none⟩ = false ∧ W0.frozen? ⟨w.heap.size, 0, none⟩ = false := by
  refine ⟨_, rfl, by simp, ((Below.refl _ w).alloc (Nat.le_refl _) _).alloc (by simp) _, ?_, ?_, by simp [go_sem], ?_⟩
  · rw [World.cell?_alloc_lt _ _ _ (by simp)]
    exact World.cell?_alloc_new w #[a] s 0
  · have := World.cell?_alloc_new (w.alloc (.cells #[a] s)) #[b] t 0
    rw [World.size_alloc] at this
    exact this
  · exact (((Blk.new w s #[a]).alloc (.cells #[b] t)).frozen 0)
set_option maxRecDepth 100000 in
set_option maxHeartbeats 1000000 in
theorem Sm.KNew_ok (m : ByteArray) (w : World) (h1 : 1 ≤ m.size) (h2 : m.size ≤ 64) :
    Calls Tryz.prog 25 #[.string m] w fun e w' => ∃ B, e = .returned (.tuple #[.pointer (some ⟨B, 0, none⟩), .int .i64 0]) ∧ w.heap.size ≤ B ∧ KeyAt w' B (turnK zeroK 0 m) ∧ Below w.heap.size w w' := by
  have hmf : ∀ (fn : Fn) (first cap : Array Value) (w : World), (Instr.makeFunc fn first cap).run Tryz.prog w = .ok (.func fn first cap) w := fun _ _ _ _ => rfl
  obtain ⟨W0, hW0, hz, hb0, c0, c1, f1, _⟩ := two_vars w (.string m) (.pointer none) 9 0x1b
  have htr := tried_any 49 #[.pointer (some ⟨w.heap.size, 0, none⟩), .pointer (some ⟨w.heap.size + 1, 0, none⟩)] enters49 W0 (w.heap.size + 1) (by omega)
    (fun w' => ∃ B, w'.cell? ⟨w.heap.size + 1, 0, none⟩ = some (.pointer (some ⟨B, 0, none⟩)) ∧ w'.frozen? ⟨w.heap.size + 1, 0, none⟩ = false ∧ W0.heap.size + 1 ≤ B ∧ KeyAt w' B (turnK zeroK 0 m))
    (fun v hv hvz => (deed23_ok m w.heap.size (w.heap.size + 1) v _ h1 h2 ((hv.cell (p := ⟨w.heap.size, 0, none⟩) (by simp; omega)).trans c0) ((hv.cell (p := ⟨w.heap.size + 1, 0, none⟩) (by simp; omega)).trans c1) ((hv.frozen (p := ⟨w.heap.size + 1, 0, none⟩) (by simp; omega)).trans f1) (by omega)).mono fun e w' ⟨a, b, B, c, g, d, f⟩ => ⟨a, b, B, c, g, by omega, f⟩)
  have HTR := Lib.hid htr
  have HZ := Lib.hid hz
  have HB0 := Lib.hid hb0
  have HF1 := Lib.hid f1
  clear htr hz hb0 c0 c1 f1
  go_enter Tryz.func25, Tryz.ntmps25
  go_upto_region 1 with fail
  clear hW0
  go_upto_region 2 with (go_at_call 29; (with_reducible refine HTR.out.mono ?_); rintro e w4 ⟨rfl, w2, ⟨B, hc, hfc, hBl, hK⟩, hz2, hbt, hbt0⟩)
  have hz := HZ.out
  have hB2 := Blk.lt hK
  have hc4 := (hbt.cell (p := ⟨w.heap.size + 1, 0, none⟩) (by simp; omega) (by simp; omega)).trans hc
  have hf4 : w4.frozen? ⟨w.heap.size + 1, 0, none⟩ = false := (hbt.frozen (p := ⟨w.heap.size + 1, 0, none⟩) (by simp; omega) (by simp; omega)).trans hfc
  have hK4 : KeyAt w4 B (turnK zeroK 0 m) := Blk.but hK hbt (by omega)
  have hb4 : Below w.heap.size w w4 := But.below HB0.out hbt0 (fun b e => by have e : b = w.heap.size + 1 := e; omega)
  have HK4 := Lib.hid hK4
  have HB4 := Lib.hid hb4
  have hlt4 : w.heap.size + 1 < w4.heap.size := by have := hbt.size; omega
  have hBw : w.heap.size ≤ B := by omega
  have hBn : ¬ B = w.heap.size + 1 := by omega
  clear hK4 hb4 hbt hbt0 hc hfc hK hB2 hz hz2 hBl
  go_wp2
  have hs := World.cell?_setCell_same w4 ⟨w.heap.size + 1, 0, none⟩ (.pointer (some ⟨B, 0, none⟩)) hc4
  have hset : But (fun b => b = w.heap.size + 1) w4 (w4.setCell ⟨w.heap.size + 1, 0, none⟩ (.pointer (some ⟨B, 0, none⟩))) := (But.refl _ w4).set _ _ (.inl rfl)
  exact bodyPost_ret (v := .tuple #[.pointer (some ⟨B, 0, none⟩), .int .i64 0]) (by simp [results, Tryz.results25, go_sem, hs]) rfl ⟨B, rfl, hBw, Blk.but HK4.out hset hBn, But.below HB4.out hset (fun b e => by have e : b = w.heap.size + 1 := e; omega)⟩
set_option maxRecDepth 100000 in
set_option maxHeartbeats 1000000 in
theorem Sm.KNew_no (m : ByteArray) (w : World) (hm : m.size ≤ 9223372036854775807) (h : ¬ (1 ≤ m.size ∧ m.size ≤ 64)) :
    Calls Tryz.prog 25 #[.string m] w fun e w' => e = .returned (.tuple #[.pointer none, .int .i64 2]) ∧ Below w.heap.size w w' := by
  have hmf : ∀ (fn : Fn) (first cap : Array Value) (w : World), (Instr.makeFunc fn first cap).run Tryz.prog w = .ok (.func fn first cap) w := fun _ _ _ _ => rfl
  obtain ⟨W0, hW0, hz, hb0, c0, c1, f1, _⟩ := two_vars w (.string m) (.pointer none) 9 0x1b
  have htr := tried_not 49 #[.pointer (some ⟨w.heap.size, 0, none⟩), .pointer (some ⟨w.heap.size + 1, 0, none⟩)] enters49 W0 2
    (fun v hv => deed23_no m w.heap.size (w.heap.size + 1) v hm h ((hv.cell (p := ⟨w.heap.size, 0, none⟩) (by simp; omega)).trans c0))
  have HTR := Lib.hid htr
  have HZ := Lib.hid hz
  have HB0 := Lib.hid hb0
  have HF1 := Lib.hid f1
  have HC1 := Lib.hid c1
  clear htr hz hb0 c0 c1 f1 h
  go_enter Tryz.func25, Tryz.ntmps25
  go_upto_region 1 with fail
  clear hW0
  go_upto_region 2 with (go_at_call 29; (with_reducible refine HTR.out.mono ?_); rintro e w4 ⟨rfl, hbt⟩)
  have hz := HZ.out
  have hc4 := (hbt.cell (p := ⟨w.heap.size + 1, 0, none⟩) (by simp; omega)).trans HC1.out
  have hf4 := (hbt.frozen (p := ⟨w.heap.size + 1, 0, none⟩) (by simp; omega)).trans HF1.out
  have HB4 := Lib.hid (HB0.out.trans (hbt.mono HB0.out.size))
  clear hbt hz
  go_wp2
  have hs := World.cell?_setCell_same w4 ⟨w.heap.size + 1, 0, none⟩ (.pointer none) hc4
  exact bodyPost_ret (v := .tuple #[.pointer none, .int .i64 2]) (by simp [results, Tryz.results25, go_sem, hs]) rfl ⟨rfl, HB4.out.setCell (p := ⟨w.heap.size + 1, 0, none⟩) (by simp) _⟩
end Go.Proofs
namespace Go.Proofs
open Go.RowKit Sm
theorem Sm.but_setRow (w : World) (p : Nat) (cs : Array Value) : But (fun b => b = p) w (w.setRow p cs) :=
  ⟨rfl, rfl, rfl, by simp [World.setRow], fun b _ hn => setRow_other w p b cs hn⟩
set_option maxRecDepth 100000 in
set_option maxHeartbeats 4000000 in
theorem Sm.deed31_ok (m : ByteArray) (Bk Bs B : Nat) (k : Kpt) (w : World) (h1 : 1 ≤ m.size) (h2 : m.size ≤ 64) (hK : KeyAt w B k) (hs0 : ¬ k.s0 = ⟨#[]⟩) (hn0 : 0 ≤ k.n0) (hn1 : k.n0 ≤ 1000000000000) (hk : w.cell? ⟨Bk, 0, none⟩ = some (.pointer (some ⟨B, 0, none⟩))) (hs : w.cell? ⟨Bs, 0, none⟩ = some (.string m)) (hlk : Bk < w.heap.size) (hls : Bs < w.heap.size) :
    Calls Tryz.prog 37 #[.pointer (some ⟨Bk, 0, none⟩), .pointer (some ⟨Bs, 0, none⟩)] w fun e w' => (∃ v, e = .returned v) ∧ But (fun b => b = B) w w' ∧ KeyAt w' B (turnK k (k.n0 + 1) m) := by
  have hct := kthere_yes w (.pointer (some ⟨B, 0, none⟩)) k (.inr ⟨B, rfl, hK⟩) hs0
  have HCT := Lib.hid hct
  have hlB := Blk.lt hK
  have HK := Lib.hid hK
  clear hct hs0 hK
  go_enter Tryz.func37, Tryz.ntmps37
  go_upto_region 1 with (first
    | (go_at_call 32; (with_reducible refine HCT.out.mono ?_); rintro e w1 ⟨rfl, hb1⟩)
    | (go_at_call 31; (with_reducible refine (must_yes _ _ _ _ (World.cell?_alloc_new w1 #[.bool true] 4 0)).mono ?_); rintro e w4 ⟨⟨v4, rfl⟩, rfl⟩))
  obtain ⟨w2, hw2⟩ : ∃ v, w1.alloc (.cells #[.bool true] 4) = v := ⟨_, rfl⟩
  have hb2 : Below w.heap.size w w2 := by rw [← hw2]; exact hb1.alloc hb1.size _
  have hk2 := (hb2.cell (p := ⟨Bk, 0, none⟩) hlk).trans hk
  have hs2 := (hb2.cell (p := ⟨Bs, 0, none⟩) hls).trans hs
  have hsz2 := hb2.size
  have HK2 := Lib.hid (Blk.keep HK.out hb2)
  have HB2 := Lib.hid hb2
  rw [hw2]
  clear hw2 hb1 hb2 hk hs HK HCT
  have hS0 : Below w2.heap.size w2 w2.drew := (Below.refl _ _).drew
  refine wp_region_popL 13 rfl rfl (by kernel_rfl) (by kernel_rfl) (S := fun wx => Below w2.heap.size w2 wx) hS0 (fun hHeld => ?_)
  simp only [List.take_succ_cons, List.take_zero]
  have hlk2 : Bk < w2.heap.size := by omega
  have hls2 : Bs < w2.heap.size := by omega
  have hlB2 : B < w2.heap.size := by omega
  have tk : ∀ wx, Below w2.heap.size w2 wx → wx.cell? ⟨Bk, 0, none⟩ = some (.pointer (some ⟨B, 0, none⟩)) := fun wx hb => (hb.cell (p := ⟨Bk, 0, none⟩) hlk2).trans hk2
  have ts : ∀ wx, Below w2.heap.size w2 wx → wx.cell? ⟨Bs, 0, none⟩ = some (.string m) := fun wx hb => (hb.cell (p := ⟨Bs, 0, none⟩) hls2).trans hs2
  have TK := Lib.hid tk
  have TS := Lib.hid ts
  clear tk ts hk2 hs2
  refine wpAnyH_take (i := 0) (v := .pointer (some ⟨B, 0, none⟩)) rfl (by kernel_rfl) (by kernel_rfl) (by kernel_rfl) (fun _ _ _ h => h) (Or.inl ⟨by rfl, ?_⟩) (by assumption) ?_
  · intro wx hs1; have hc := TK.out wx hs1; go_simp
  try simp only [Act.put]
  refine wpAnyH_take (i := 1) (v := .pointer (some ⟨B, 0, none⟩)) rfl (by kernel_rfl) (by kernel_rfl) (by kernel_rfl) (fun _ _ _ h => h) (Or.inl ⟨by rfl, ?_⟩) (by assumption) ?_
  · intro wx hs1; have hc := TK.out wx hs1; go_simp
  try simp only [Act.put]
  refine wpAnyH_take (i := 2) (v := .pointer (some ⟨B, 0, none⟩)) rfl (by kernel_rfl) (by kernel_rfl) (by kernel_rfl) (fun _ _ _ h => h) (Or.inl ⟨by rfl, ?_⟩) (by assumption) ?_
  · intro wx hs1; go_simp
  try simp only [Act.put]
  refine wpAnyH_take (i := 3) (v := .pointer (some ⟨B, 0, none⟩)) rfl (by kernel_rfl) (by kernel_rfl) (by kernel_rfl) (fun _ _ _ h => h) (Or.inl ⟨by rfl, ?_⟩) (by assumption) ?_
  · intro wx hs1; go_simp
  try simp only [Act.put]
  refine wpAnyH_take (i := 4) (v := .agg k.cells) rfl (by kernel_rfl) (by kernel_rfl) (by kernel_rfl) (fun _ _ _ h => h) (Or.inl ⟨by rfl, ?_⟩) (by assumption) ?_
  · intro wx hs1
    obtain ⟨c0, c1, c2, c3, c4, c5⟩ := KeyAt.cs (Blk.keep HK2.out hs1)
    rw [show k.cells = (#[.int .i64 k.n0, .string k.s0, .int .i64 k.n1, .string k.s1, .int .i64 k.n2, .string k.s2] : Array Value) from rfl]
    go_simp
  try simp only [Act.put]
  refine wpAnyH_take (i := 5) (v := .pointer (some ⟨B, 0, none⟩)) rfl (by kernel_rfl) (by kernel_rfl) (by kernel_rfl) (fun _ _ _ h => h) (Or.inl ⟨by rfl, ?_⟩) (by assumption) ?_
  · intro wx hs1; have hc := TK.out wx hs1; go_simp
  try simp only [Act.put]
  refine wpAnyH_take (i := 9) (v := .string m) rfl (by kernel_rfl) (by kernel_rfl) (by kernel_rfl) (fun _ _ _ h => h) (Or.inl ⟨by rfl, ?_⟩) (by assumption) ?_
  · intro wx hs1; have hc := TS.out wx hs1; go_simp
  try simp only [Act.put]
  obtain ⟨X0, hX0⟩ : ∃ v, w2.drew = v := ⟨_, rfl⟩
  rw [hX0] at hHeld hS0 ⊢
  clear hX0
  refine wpAnyH_ready (rs := [6]) (by kernel_rfl) (by simp) (AllReadyH.cons rfl (fun K hK => ?_) AllReadyH.nil)
  go_simp
  have hkv : KeyV X0 (.pointer (some ⟨B, 0, none⟩)) k := .inr ⟨B, rfl, Blk.keep HK2.out hS0⟩
  go_at_call 39
  (with_reducible refine (newest_any X0 (.pointer (some ⟨B, 0, none⟩)) k hkv).mono ?_)
  rintro e X1 ⟨rfl, hb01⟩
  have hb1 : Below w2.heap.size w2 X1 := hS0.trans (hb01.mono hS0.size)
  clear hb01
  refine hK.out _ _ hb1 (fun hHeld => ?_)
  clear hK K
  try simp only [Act.put]
  refine wpAnyH_take (i := 7) (v := .agg #[.int .i64 k.n0]) rfl (by kernel_rfl) (by kernel_rfl) (by kernel_rfl) (fun _ _ _ h => h) (Or.inl ⟨by rfl, ?_⟩) (by assumption) ?_
  · intro wx hs1; have hfm := field_master; go_simp
  try simp only [Act.put]
  refine wpAnyH_ready (rs := [8]) (by kernel_rfl) (by simp) (AllReadyH.cons rfl (fun K hK => ?_) AllReadyH.nil)
  go_simp
  go_at_call 40
  (with_reducible refine (next_num X1 k.n0 hn0 hn1).mono ?_)
  rintro e X2 ⟨rfl, hb12⟩
  have hb2 : Below w2.heap.size w2 X2 := hb1.trans (hb12.mono hb1.size)
  clear hb12
  refine hK.out _ _ hb2 (fun hHeld => ?_)
  clear hK K
  try simp only [Act.put]
  refine wpAnyH_ready (rs := [10]) (by kernel_rfl) (by simp) (AllReadyH.cons rfl (fun K hK => ?_) AllReadyH.nil)
  go_simp
  go_at_call 38
  (with_reducible refine (turned_yes k (k.n0 + 1) m X2 h1 h2).mono ?_)
  rintro e X3 ⟨rfl, hb23⟩
  have hb3 : Below w2.heap.size w2 X3 := hb2.trans (hb23.mono hb2.size)
  clear hb23
  refine hK.out _ _ hb3 (fun hHeld => ?_)
  clear hK K
  try simp only [Act.put]
  refine wpAnyH_take (i := 11) (v := .pointer (some ⟨B, 0, none⟩)) rfl (by kernel_rfl) (by kernel_rfl) (by kernel_rfl) (fun _ _ _ h => h) (Or.inl ⟨by rfl, ?_⟩) (by assumption) ?_
  · intro wx hs1; go_simp
  try simp only [Act.put]
  refine wpAnyH_take (i := 12) (v := .pointer (some ⟨B, 0, none⟩)) rfl (by kernel_rfl) (by kernel_rfl) (by kernel_rfl) (fun _ _ _ h => h) (Or.inl ⟨by rfl, ?_⟩) (by assumption) ?_
  · intro wx hs1; go_simp
  try simp only [Act.put]
  refine wpAnyH_done (by kernel_rfl) ?_ _
  unfold tailQ wpOp
  simp only [List.getElem?_toArray, List.getElem?_cons_succ, List.getElem?_cons_zero]
  rw [if_pos (by rfl)]
  have hK3 : Blk X3 B 0x27 k.cells := Blk.keep HK2.out hb3
  refine Or.inl (wp_store_row 0x25 _ _ rfl B (turnK k (k.n0 + 1) m).cells rfl rfl 0x27 k.cells hK3 (by kernel_rfl) rfl (by simp [Kpt.cells, Value.oneCell']) ?_)
  simp only [Act.put]
  go_end0
  refine ⟨⟨_, rfl⟩, ?_, setRow_heap _ _ _ _ _ _ hK3⟩
  exact ((But.of_all (HB2.out.trans (hb3.mono HB2.out.size)) (fun b => b = B)).trans (but_setRow X3 B _) (fun _ _ e => e))
set_option maxRecDepth 100000 in
set_option maxHeartbeats 4000000 in
theorem Sm.deed31_arg (m : ByteArray) (Bk Bs B : Nat) (k : Kpt) (w : World) (hm : m.size ≤ 9223372036854775807) (hbad : ¬ (1 ≤ m.size ∧ m.size ≤ 64)) (hK : KeyAt w B k) (hs0 : ¬ k.s0 = ⟨#[]⟩) (hn0 : 0 ≤ k.n0) (hn1 : k.n0 ≤ 1000000000000) (hk : w.cell? ⟨Bk, 0, none⟩ = some (.pointer (some ⟨B, 0, none⟩))) (hs : w.cell? ⟨Bs, 0, none⟩ = some (.string m)) (hlk : Bk < w.heap.size) (hls : Bs < w.heap.size) :
    Calls Tryz.prog 37 #[.pointer (some ⟨Bk, 0, none⟩), .pointer (some ⟨Bs, 0, none⟩)] w fun e w' => e = .panicked [pE 2] ∧ Below w.heap.size w w' := by
  have hct := kthere_yes w (.pointer (some ⟨B, 0, none⟩)) k (.inr ⟨B, rfl, hK⟩) hs0
  have HCT := Lib.hid hct
  have hlB := Blk.lt hK
  have HK := Lib.hid hK
  have HBAD := Lib.hid hbad
  clear hct hs0 hK hbad
  go_enter Tryz.func37, Tryz.ntmps37
  go_upto_region 1 with (first
    | (go_at_call 32; (with_reducible refine HCT.out.mono ?_); rintro e w1 ⟨rfl, hb1⟩)
    | (go_at_call 31; (with_reducible refine (must_yes _ _ _ _ (World.cell?_alloc_new w1 #[.bool true] 4 0)).mono ?_); rintro e w4 ⟨⟨v4, rfl⟩, rfl⟩))
  obtain ⟨w2, hw2⟩ : ∃ v, w1.alloc (.cells #[.bool true] 4) = v := ⟨_, rfl⟩
  have hb2 : Below w.heap.size w w2 := by rw [← hw2]; exact hb1.alloc hb1.size _
  have hk2 := (hb2.cell (p := ⟨Bk, 0, none⟩) hlk).trans hk
  have hs2 := (hb2.cell (p := ⟨Bs, 0, none⟩) hls).trans hs
  have hsz2 := hb2.size
  have HK2 := Lib.hid (Blk.keep HK.out hb2)
  have HB2 := Lib.hid hb2
  rw [hw2]
  clear hw2 hb1 hb2 hk hs HK HCT
  have hS0 : Below w2.heap.size w2 w2.drew := (Below.refl _ _).drew
  refine wp_region_held_drew (S := fun wx => Below w2.heap.size w2 wx) rfl hS0 (fun hHeld => ?_)
  simp only [List.size_toArray, List.length_cons, List.length_nil, Nat.reduceAdd]
  have hlk2 : Bk < w2.heap.size := by omega
  have hls2 : Bs < w2.heap.size := by omega
  have hlB2 : B < w2.heap.size := by omega
  have tk : ∀ wx, Below w2.heap.size w2 wx → wx.cell? ⟨Bk, 0, none⟩ = some (.pointer (some ⟨B, 0, none⟩)) := fun wx hb => (hb.cell (p := ⟨Bk, 0, none⟩) hlk2).trans hk2
  have ts : ∀ wx, Below w2.heap.size w2 wx → wx.cell? ⟨Bs, 0, none⟩ = some (.string m) := fun wx hb => (hb.cell (p := ⟨Bs, 0, none⟩) hls2).trans hs2
  have TK := Lib.hid tk
  have TS := Lib.hid ts
  clear tk ts hk2 hs2
  refine wpAnyH_take (i := 0) (v := .pointer (some ⟨B, 0, none⟩)) rfl (by kernel_rfl) (by kernel_rfl) (by kernel_rfl) (fun _ _ _ h => h) (Or.inl ⟨by rfl, ?_⟩) (by assumption) ?_
  · intro wx hs1; have hc := TK.out wx hs1; go_simp
  try simp only [Act.put]
  refine wpAnyH_take (i := 1) (v := .pointer (some ⟨B, 0, none⟩)) rfl (by kernel_rfl) (by kernel_rfl) (by kernel_rfl) (fun _ _ _ h => h) (Or.inl ⟨by rfl, ?_⟩) (by assumption) ?_
  · intro wx hs1; have hc := TK.out wx hs1; go_simp
  try simp only [Act.put]
  refine wpAnyH_take (i := 2) (v := .pointer (some ⟨B, 0, none⟩)) rfl (by kernel_rfl) (by kernel_rfl) (by kernel_rfl) (fun _ _ _ h => h) (Or.inl ⟨by rfl, ?_⟩) (by assumption) ?_
  · intro wx hs1; go_simp
  try simp only [Act.put]
  refine wpAnyH_take (i := 3) (v := .pointer (some ⟨B, 0, none⟩)) rfl (by kernel_rfl) (by kernel_rfl) (by kernel_rfl) (fun _ _ _ h => h) (Or.inl ⟨by rfl, ?_⟩) (by assumption) ?_
  · intro wx hs1; go_simp
  try simp only [Act.put]
  refine wpAnyH_take (i := 4) (v := .agg k.cells) rfl (by kernel_rfl) (by kernel_rfl) (by kernel_rfl) (fun _ _ _ h => h) (Or.inl ⟨by rfl, ?_⟩) (by assumption) ?_
  · intro wx hs1
    obtain ⟨c0, c1, c2, c3, c4, c5⟩ := KeyAt.cs (Blk.keep HK2.out hs1)
    rw [show k.cells = (#[.int .i64 k.n0, .string k.s0, .int .i64 k.n1, .string k.s1, .int .i64 k.n2, .string k.s2] : Array Value) from rfl]
    go_simp
  try simp only [Act.put]
  refine wpAnyH_take (i := 5) (v := .pointer (some ⟨B, 0, none⟩)) rfl (by kernel_rfl) (by kernel_rfl) (by kernel_rfl) (fun _ _ _ h => h) (Or.inl ⟨by rfl, ?_⟩) (by assumption) ?_
  · intro wx hs1; have hc := TK.out wx hs1; go_simp
  try simp only [Act.put]
  refine wpAnyH_take (i := 9) (v := .string m) rfl (by kernel_rfl) (by kernel_rfl) (by kernel_rfl) (fun _ _ _ h => h) (Or.inl ⟨by rfl, ?_⟩) (by assumption) ?_
  · intro wx hs1; have hc := TS.out wx hs1; go_simp
  try simp only [Act.put]
  obtain ⟨X0, hX0⟩ : ∃ v, w2.drew = v := ⟨_, rfl⟩
  rw [hX0] at hHeld hS0 ⊢
  clear hX0
  refine wpAnyH_ready (rs := [6]) (by kernel_rfl) (by simp) (AllReadyH.cons rfl (fun K hK => ?_) AllReadyH.nil)
  go_simp
  have hkv : KeyV X0 (.pointer (some ⟨B, 0, none⟩)) k := .inr ⟨B, rfl, Blk.keep HK2.out hS0⟩
  go_at_call 39
  (with_reducible refine (newest_any X0 (.pointer (some ⟨B, 0, none⟩)) k hkv).mono ?_)
  rintro e X1 ⟨rfl, hb01⟩
  have hb1 : Below w2.heap.size w2 X1 := hS0.trans (hb01.mono hS0.size)
  clear hb01
  refine hK.out _ _ hb1 (fun hHeld => ?_)
  clear hK K
  try simp only [Act.put]
  refine wpAnyH_take (i := 7) (v := .agg #[.int .i64 k.n0]) rfl (by kernel_rfl) (by kernel_rfl) (by kernel_rfl) (fun _ _ _ h => h) (Or.inl ⟨by rfl, ?_⟩) (by assumption) ?_
  · intro wx hs1; have hfm := field_master; go_simp
  try simp only [Act.put]
  refine wpAnyH_ready (rs := [8]) (by kernel_rfl) (by simp) (AllReadyH.cons rfl (fun K hK => ?_) AllReadyH.nil)
  go_simp
  go_at_call 40
  (with_reducible refine (next_num X1 k.n0 hn0 hn1).mono ?_)
  rintro e X2 ⟨rfl, hb12⟩
  have hb2 : Below w2.heap.size w2 X2 := hb1.trans (hb12.mono hb1.size)
  clear hb12
  refine hK.out _ _ hb2 (fun hHeld => ?_)
  clear hK K
  try simp only [Act.put]
  refine wpAnyH_ready (rs := [10]) (by kernel_rfl) (by simp) (AllReadyH.cons rfl (fun K hK => ?_) AllReadyH.nil)
  go_simp
  go_at_call 38
  (with_reducible refine (turned_no k (k.n0 + 1) m X2 hm HBAD.out).mono ?_)
  rintro e X3 ⟨rfl, hb23⟩
  exact ⟨rfl, rfl, HB2.out.trans ((hb2.trans (hb23.mono hb2.size)).mono HB2.out.size)⟩
/-- the variables of a turn -/
theorem Sm.enters37 : ∀ args w, (callFunc 37 args).run Tryz.prog w = .ok (.enter 37 args) w := enters_of Tryz.func37 (by kernel_rfl) rfl
set_option maxRecDepth 100000 in
set_option maxHeartbeats 1000000 in
theorem Sm.Turn_ok (m : ByteArray) (B : Nat) (k : Kpt) (w : World) (h1 : 1 ≤ m.size) (h2 : m.size ≤ 64) (hK : KeyAt w B k) (hs0 : ¬ k.s0 = ⟨#[]⟩) (hn0 : 0 ≤ k.n0) (hn1 : k.n0 ≤ 1000000000000) :
    Calls Tryz.prog 13 #[.pointer (some ⟨B, 0, none⟩), .string m] w fun e w' => e = .returned (.int .i64 0) ∧ KeyAt w' B (turnK k (k.n0 + 1) m) ∧ But (fun b => b = B) w w' := by
  have hmf : ∀ (fn : Fn) (first cap : Array Value) (w : World), (Instr.makeFunc fn first cap).run Tryz.prog w = .ok (.func fn first cap) w := fun _ _ _ _ => rfl
  obtain ⟨W0, hW0, hz, hb0, c0, c1, f1, f0⟩ := two_vars w (.pointer (some ⟨B, 0, none⟩)) (.string m) 0x1b 9
  have hlB := Blk.lt hK
  have hK0 : KeyAt W0 B k := Blk.keep hK hb0
  have htr := tried_any 37 #[.pointer (some ⟨w.heap.size, 0, none⟩), .pointer (some ⟨w.heap.size + 1, 0, none⟩)] enters37 W0 B (by omega)
    (fun w' => KeyAt w' B (turnK k (k.n0 + 1) m))
    (fun v hv hvz => (deed31_ok m w.heap.size (w.heap.size + 1) B k v h1 h2 (Blk.keep hK0 hv) hs0 hn0 hn1 ((hv.cell (p := ⟨w.heap.size, 0, none⟩) (by simp; omega)).trans c0) ((hv.cell (p := ⟨w.heap.size + 1, 0, none⟩) (by simp; omega)).trans c1) (by omega) (by omega)))
  have HTR := Lib.hid htr
  have HZ := Lib.hid hz
  have HB0 := Lib.hid hb0
  clear htr hz hb0 c0 c1 f1 f0 hK hK0 hs0
  go_enter Tryz.func13, Tryz.ntmps13
  go_upto_region 1 with fail
  clear hW0
  go_wp2_with (go_at_call 29; (with_reducible refine HTR.out.mono ?_); rintro e w4 ⟨rfl, w2, hK, hz2, hbt, hbt0⟩)
  go_ret
  exact ⟨rfl, Blk.but hK hbt (by have := HZ.out; omega), (But.of_all HB0.out (fun b => b = B)).trans hbt0 (fun _ _ e => e)⟩
set_option maxRecDepth 100000 in
set_option maxHeartbeats 1000000 in
theorem Sm.Turn_arg (m : ByteArray) (B : Nat) (k : Kpt) (w : World) (hm : m.size ≤ 9223372036854775807) (hbad : ¬ (1 ≤ m.size ∧ m.size ≤ 64)) (hK : KeyAt w B k) (hs0 : ¬ k.s0 = ⟨#[]⟩) (hn0 : 0 ≤ k.n0) (hn1 : k.n0 ≤ 1000000000000) :
    Calls Tryz.prog 13 #[.pointer (some ⟨B, 0, none⟩), .string m] w fun e w' => e = .returned (.int .i64 2) ∧ Below w.heap.size w w' := by
  have hmf : ∀ (fn : Fn) (first cap : Array Value) (w : World), (Instr.makeFunc fn first cap).run Tryz.prog w = .ok (.func fn first cap) w := fun _ _ _ _ => rfl
  obtain ⟨W0, hW0, hz, hb0, c0, c1, f1, f0⟩ := two_vars w (.pointer (some ⟨B, 0, none⟩)) (.string m) 0x1b 9
  have hK0 : KeyAt W0 B k := Blk.keep hK hb0
  have htr := tried_not 37 #[.pointer (some ⟨w.heap.size, 0, none⟩), .pointer (some ⟨w.heap.size + 1, 0, none⟩)] enters37 W0 2
    (fun v hv => (deed31_arg m w.heap.size (w.heap.size + 1) B k v hm hbad (Blk.keep hK0 hv) hs0 hn0 hn1 ((hv.cell (p := ⟨w.heap.size, 0, none⟩) (by simp; omega)).trans c0) ((hv.cell (p := ⟨w.heap.size + 1, 0, none⟩) (by simp; omega)).trans c1) (by have := hv.size; omega) (by have := hv.size; omega)))
  have HTR := Lib.hid htr
  have HB0 := Lib.hid hb0
  clear htr hz hb0 c0 c1 f1 f0 hK hK0 hs0 hbad
  go_enter Tryz.func13, Tryz.ntmps13
  go_upto_region 1 with fail
  clear hW0
  go_wp2_with (go_at_call 29; (with_reducible refine HTR.out.mono ?_); rintro e w4 ⟨rfl, hbt0⟩)
  go_ret
  exact ⟨rfl, HB0.out.trans (hbt0.mono HB0.out.size)⟩
end Go.Proofs
namespace Go.Proofs.Sm
/-- the bytes of a number -/
def numB (n : Nat) : List (BitVec 8) := if n < 128 then [BitVec.ofNat 8 n] else BitVec.ofNat 8 (128 + n % 128) :: numB (n / 128)
termination_by n
decreasing_by omega
theorem numB_small {n : Nat} (h : n < 128) : numB n = [BitVec.ofNat 8 n] := by rw [numB, if_pos h]
theorem numB_big {n : Nat} (h : 128 ≤ n) : numB n = BitVec.ofNat 8 (128 + n % 128) :: numB (n / 128) := by rw [numB, if_neg (by omega)]
theorem numB_pos (n : Nat) : 0 < (numB n).length := by
  rw [numB]; split <;> simp
theorem numB_len (f : Nat) : ∀ n, n < 128 ^ (f + 1) → (numB n).length ≤ f + 1 := by
  induction f with
  | zero =>
    intro n h
    rw [numB_small (by simpa using h)]; simp
  | succ f ih =>
    intro n h
    by_cases hn : n < 128
    · rw [numB_small hn]; simp
    · rw [numB_big (by omega), List.length_cons]
      have := ih (n / 128) (by rw [Nat.pow_succ] at h; omega)
      omega
/-- the greatest number -/
def top : Nat := 4611686018427387904
theorem numB_len9 {n : Nat} (h : n ≤ top) : (numB n).length ≤ 9 := numB_len 8 n (by unfold top at h; omega)
/-- the number of bytes, seven bits each -/
def numV : List (BitVec 8) → Nat
  | [] => 0
  | c :: r => c.toNat % 128 + 128 * numV r
/-- how many bytes with 128 more lie ahead -/
def lead : List (BitVec 8) → Nat
  | [] => 0
  | c :: r => if 128 ≤ c.toNat then lead r + 1 else 0
inductive Got
  | cut
  | bad
  | num (n k : Nat)
/-- the number with which bytes begin, and how many bytes it has; cut: it goes on behind them; bad: there is none -/
def getN (l : List (BitVec 8)) : Got :=
  if 9 ≤ lead l then .bad
  else match l[lead l]? with
    | none => .cut
    | some c => if (0 < lead l ∧ c.toNat = 0) ∨ top < numV (l.take (lead l + 1)) then .bad else .num (numV (l.take (lead l + 1))) (lead l + 1)
theorem lead_le (l : List (BitVec 8)) : lead l ≤ l.length := by
  induction l with
  | nil => simp [lead]
  | cons c r ih => rw [lead]; split <;> simp <;> omega
theorem lead_byte (l : List (BitVec 8)) : ∀ i c, i < lead l → l[i]? = some c → 128 ≤ c.toNat := by
  induction l with
  | nil => intro i c h; simp [lead] at h
  | cons d r ih =>
    intro i c h hc
    rw [lead] at h
    split at h
    · match i with
      | 0 => simp at hc; subst hc; assumption
      | i + 1 => exact ih i c (by omega) (by simpa using hc)
    · omega
theorem lead_end (l : List (BitVec 8)) (c : BitVec 8) (h : l[lead l]? = some c) : c.toNat < 128 := by
  induction l with
  | nil => simp at h
  | cons d r ih =>
    rw [lead] at h
    split at h
    · exact ih (by simpa using h)
    · simp at h; subst h; omega
theorem lead_more (l : List (BitVec 8)) (i : Nat) (c : BitVec 8) (hi : i ≤ lead l) (hc : l[i]? = some c) (h : 128 ≤ c.toNat) : i + 1 ≤ lead l := by
  rcases Nat.lt_or_ge i (lead l) with h1 | h1
  · exact h1
  · have : i = lead l := by omega
    subst this
    have := lead_end l c hc
    omega
theorem lead_eq (l : List (BitVec 8)) (i : Nat) (c : BitVec 8) (hi : i ≤ lead l) (hc : l[i]? = some c) (h : c.toNat < 128) : lead l = i := by
  rcases Nat.lt_or_ge i (lead l) with h1 | h1
  · have := lead_byte l i c h1 hc
    omega
  · omega
theorem numV_snoc (l : List (BitVec 8)) (c : BitVec 8) : numV (l ++ [c]) = numV l + 128 ^ l.length * (c.toNat % 128) := by
  induction l with
  | nil => simp [numV]
  | cons d r ih =>
    rw [List.cons_append, numV, ih, numV, List.length_cons, Nat.pow_succ, Nat.mul_add, Nat.mul_comm (128 ^ r.length) 128, Nat.mul_assoc]
    omega
theorem numV_lt (l : List (BitVec 8)) : numV l < 128 ^ l.length := by
  induction l with
  | nil => simp [numV]
  | cons d r ih =>
    rw [numV, List.length_cons, Nat.pow_succ]
    omega
theorem getN_cut {l : List (BitVec 8)} (h : lead l = l.length) (h9 : l.length < 9) : getN l = .cut := by
  unfold getN
  rw [if_neg (by omega), List.getElem?_eq_none (by omega)]
theorem getN_long {l : List (BitVec 8)} (h : 9 ≤ lead l) : getN l = .bad := by unfold getN; rw [if_pos h]
theorem getN_zero {l : List (BitVec 8)} {c : BitVec 8} {i : Nat} (hi : lead l = i) (h0 : 0 < i) (h9 : i < 9) (hc : l[i]? = some c) (hz : c.toNat = 0) : getN l = .bad := by
  subst hi
  unfold getN
  rw [if_neg (by omega), hc]
  simp only
  rw [if_pos (.inl ⟨h0, hz⟩)]
theorem getN_over {l : List (BitVec 8)} {c : BitVec 8} {i : Nat} (hi : lead l = i) (h9 : i < 9) (hc : l[i]? = some c) (ht : top < numV (l.take (i + 1))) : getN l = .bad := by
  subst hi
  unfold getN
  rw [if_neg (by omega), hc]
  simp only
  rw [if_pos (.inr ht)]
theorem getN_num {l : List (BitVec 8)} {c : BitVec 8} {i : Nat} (hi : lead l = i) (h9 : i < 9) (hc : l[i]? = some c) (hz : ¬ (0 < i ∧ c.toNat = 0)) (ht : numV (l.take (i + 1)) ≤ top) : getN l = .num (numV (l.take (i + 1))) (i + 1) := by
  subst hi
  unfold getN
  rw [if_neg (by omega), hc]
  simp only
  rw [if_neg (by rintro (h | h); exact hz h; omega)]
theorem getN_form {l : List (BitVec 8)} {n k : Nat} (h : getN l = .num n k) : n ≤ top ∧ 0 < k ∧ k ≤ 9 ∧ k ≤ l.length := by
  unfold getN at h
  split at h
  · cases h
  · split at h
    · cases h
    · rename_i c hc
      split at h
      · cases h
      · rename_i h2
        injection h with h3 h4
        subst h3 h4
        have := (List.getElem?_eq_some_iff.1 hc).1
        refine ⟨?_, by omega, by omega, by omega⟩
        rcases Nat.lt_or_ge top (numV (l.take (lead l + 1))) with h5 | h5
        · exact absurd (.inr h5) h2
        · exact h5
theorem take_succ_get {l : List (BitVec 8)} {i : Nat} {c : BitVec 8} (hc : l[i]? = some c) : numV (l.take (i + 1)) = numV (l.take i) + 128 ^ i * (c.toNat % 128) := by
  obtain ⟨hi, e⟩ := List.getElem?_eq_some_iff.1 hc
  rw [List.take_succ_eq_append_getElem hi, numV_snoc, List.length_take, Nat.min_eq_left (by omega), e]
theorem ofNat_small {n : Nat} (h : n < 128) : (BitVec.ofNat 8 n).toNat = n := by simp; omega
theorem ofNat_big (n : Nat) : (BitVec.ofNat 8 (128 + n % 128)).toNat = 128 + n % 128 := by simp; omega
/-- what is laid is read -/
theorem lead_numB (n : Nat) (r : List (BitVec 8)) : lead (numB n ++ r) = (numB n).length - 1 := by
  induction n using Nat.strongRecOn with
  | ind n ih =>
    by_cases h : n < 128
    · rw [numB_small h, List.cons_append, lead, ofNat_small h, if_neg (by omega)]; rfl
    · rw [numB_big (by omega), List.cons_append, lead, ofNat_big, if_pos (by omega), ih (n / 128) (by omega), List.length_cons]
      have := numB_pos (n / 128)
      omega
theorem numV_numB (n : Nat) : numV (numB n) = n := by
  induction n using Nat.strongRecOn with
  | ind n ih =>
    by_cases h : n < 128
    · rw [numB_small h, numV, ofNat_small h, numV]; omega
    · rw [numB_big (by omega), numV, ofNat_big, ih (n / 128) (by omega)]; omega
theorem last_numB (n : Nat) : ∃ c, (numB n)[(numB n).length - 1]? = some c ∧ ¬ (0 < (numB n).length - 1 ∧ c.toNat = 0) := by
  induction n using Nat.strongRecOn with
  | ind n ih =>
    by_cases h : n < 128
    · rw [numB_small h]; exact ⟨_, rfl, by simp⟩
    · obtain ⟨c, hc, hz⟩ := ih (n / 128) (by omega)
      rw [numB_big (by omega)]
      have hp := numB_pos (n / 128)
      refine ⟨c, ?_, ?_⟩
      · rw [List.length_cons, Nat.add_sub_cancel]
        obtain ⟨m, hm⟩ : ∃ m, (numB (n / 128)).length = m + 1 := ⟨_, (Nat.succ_pred_eq_of_pos hp).symm⟩
        rw [hm] at hc ⊢
        simpa using hc
      · rw [List.length_cons, Nat.add_sub_cancel]
        rintro ⟨_, h0⟩
        by_cases h1 : n / 128 < 128
        · rw [numB_small h1] at hc
          simp at hc
          rw [← hc, ofNat_small h1] at h0
          omega
        · refine hz ⟨?_, h0⟩
          rw [numB_big (by omega), List.length_cons]
          have := numB_pos (n / 128 / 128)
          omega
theorem getN_numB {n : Nat} (h : n ≤ top) (r : List (BitVec 8)) : getN (numB n ++ r) = .num n (numB n).length := by
  obtain ⟨c, hc, hz⟩ := last_numB n
  have hp := numB_pos n
  have h9 := numB_len9 h
  have e : (numB n).length - 1 + 1 = (numB n).length := by omega
  have et : (numB n ++ r).take ((numB n).length - 1 + 1) = numB n := by rw [e, List.take_append_of_le_length (Nat.le_refl _), List.take_of_length_le (Nat.le_refl _)]
  have := getN_num (l := numB n ++ r) (c := c) (lead_numB n r) (by omega) (by rw [List.getElem?_append_left (by omega)]; exact hc) hz (by rw [et, numV_numB]; exact h)
  rw [et, numV_numB, e] at this
  exact this
theorem drop_numB (n : Nat) (r : List (BitVec 8)) : (numB n ++ r).drop (numB n).length = r := by rw [List.drop_append_of_le_length (Nat.le_refl _), List.drop_of_length_le (Nat.le_refl _), List.nil_append]
end Go.Proofs.Sm
namespace Go.Proofs
open Go.RowKit Go.Shelf Sm
namespace Sm
/-- a text's bytes -/
def strL (s : ByteArray) : List (BitVec 8) := s.data.toList.map (·.toBitVec)
theorem strL_length (s : ByteArray) : (strL s).length = s.size := by rw [strL, List.length_map, Array.length_toList]; rfl
theorem strL_cells (s : ByteArray) : Lib.strCells s = (strL s).map byteCell := by
  rw [Lib.strCells, strL, List.map_map]
  rfl
theorem strB_data (l : List (BitVec 8)) : (strB l).data.toList = l.map (fun c => UInt8.ofBitVec c) := by
  unfold strB
  rw [strOfNums_data, List.map_map]
  refine List.map_congr_left fun c _ => ?_
  apply UInt8.toNat_inj.1
  have := c.isLt
  simp [ib]
theorem strL_strB (l : List (BitVec 8)) : strL (strB l) = l := by
  rw [strL, strB_data, List.map_map]
  conv => rhs; rw [← List.map_id l]
  rfl
theorem strB_strL (s : ByteArray) : strB (strL s) = s := by
  have h : (strB (strL s)).data.toList = s.data.toList := by
    rw [strB_data, strL, List.map_map]
    conv => rhs; rw [← List.map_id s.data.toList]
    rfl
  have h2 : (strB (strL s)).data = s.data := Array.toList_inj.1 h
  cases s
  exact congrArg ByteArray.mk h2
theorem str_cmp (s t : ByteArray) : (s.toList == t.toList) = decide (strL s = strL t) := by
  rw [← strB_strL s, ← strB_strL t, strB_eq, strL_strB, strL_strB]
end Sm
section
variable {P : Program} (w : World)
/-- append of a text behind a row of the call's own -/
theorem Sm.run_append_str (base : Nat) (t u ty e : TypeId) (i : TypeInfo) (ht : P.underlying t = some (.slice e)) (hu : P.underlying u = some .string) (hi : P.info? e = some i) (hz : i.zero = some (.int .u8 0))
    (hsize : i.size = 1) (hby : i.bytes = 1)
    (v : Value) (n : Nat) (xs : List Value) (hown : w.ownsRow base e 1 v n xs) (hn : 0 < n) (s : ByteArray) (hnm : n + s.size ≤ 1000000000) (hbase : base ≤ w.heap.size) :
    ∃ v' w', (Builtin.append_ #[t, u] ty #[v, .string s]).run P w = .ok v' w' ∧ w'.ownsRow base e 1 v' (n + s.size) (xs ++ (strL s).map byteCell) ∧ w.grownBy w' v.ownBlock ∧ (v'.ownBlock = v.ownBlock ∨ v'.ownBlock = some w.heap.size) := by
  obtain ⟨v', w', hr, h1, h2, _⟩ := Lib.run_append_own_string (P := P) w base t u ty e i ht hu hi hz hsize hby v n xs hown s (by unfold maxLen; omega) (by omega) hbase
  rw [strL_cells] at h1
  refine ⟨v', w', hr, h1, h2, ?_⟩
  rcases hown.2 with ⟨rfl, rfl⟩ | ⟨g, cap, cur, rfl, hbg, hg, hnc, hcm, hcs, htake⟩
  · omega
  · by_cases hroom : n + s.size ≤ cap
    · have h3 := Lib.run_append_room_string (P := P) w t u ty e i ht hu hi hsize g n cap cur hg s hroom (by omega)
      rw [hr] at h3
      injection h3 with h4 h5
      subst h4
      exact .inl rfl
    · have h3 := Lib.run_append_grow_string (P := P) w t u ty e i (.int .u8 0) ht hu hi hz ⟨g, 0, none⟩ n cap xs (by rw [hsize]; exact hown.1) (hown.cells (g := g) rfl) s (by omega) (by unfold maxLen at hcm; omega) (by rw [hby]; exact growslice_fits (by omega) (by omega))
      rw [hr] at h3
      injection h3 with h4 h5
      subst h4
      exact .inr rfl
theorem Sm.wpList_append_str {ops : Array Oper} {rest : List Oper} {o : Oper} {a : Act} {Q : Exit → Act → World → Prop} (hgd : o.guard = none) (sl x : Operand) (t u : TypeId)
    (ho : o.op = .call { callee := .builtin .append, args := #[sl, x], argTypes := #[t, u] })
    (base : Nat) (e : TypeId) (i : TypeInfo) (ht : P.underlying t = some (.slice e)) (hu : P.underlying u = some .string) (hi : P.info? e = some i) (hz : i.zero = some (.int .u8 0))
    (hsize : i.size = 1) (hby : i.bytes = 1)
    (v : Value) (n : Nat) (xs : List Value) (hs : a.eval sl = v) (hown : w.ownsRow base e 1 v n xs) (hn : 0 < n) (s : ByteArray) (hx : a.eval x = .string s) (hnm : n + s.size ≤ 1000000000) (hbase : base ≤ w.heap.size)
    (h : ∀ v' w', w'.ownsRow base e 1 v' (n + s.size) (xs ++ (strL s).map byteCell) → w.grownBy w' v.ownBlock → (v'.ownBlock = v.ownBlock ∨ v'.ownBlock = some w.heap.size) → wpList P ops Q rest (a.put o.dst v') w') : wpList P ops Q (o :: rest) a w := by
  refine wpList_plain hgd fun K hK => ?_
  obtain ⟨v', w', hr, h2, h3, h4⟩ := run_append_str (P := P) w base t u o.type e i ht hu hi hz hsize hby v n xs hown hn s hnm hbase
  unfold Oper.wp execOp
  simp only [ho, resolve, invoke, builtin, Sem.run_bind, Sem.run_pure, Result.andThen_ok, List.map_toArray, List.map_cons, List.map_nil, hs, hx, hr]
  exact hK _ _ (h v' w' h2 h3 h4)
end
end Go.Proofs
