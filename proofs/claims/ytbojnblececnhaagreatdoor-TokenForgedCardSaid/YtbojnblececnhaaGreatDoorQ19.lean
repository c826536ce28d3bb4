/-
  The contract of hmac's Derive.
-/
import Derived.Test.YtbojnblececnhaaGreatDoorQ18
namespace Go.Proofs
open Go.RowKit Sm
attribute [local go_sem] Oper.semAt_some
theorem Sm.retM {n : Nat} {P : Program} {fn : Func} {R : Ending → World → Prop} {a : Act} {w : World} {v : Value} (hr : (results fn a.tmps).run P w = .ok v w) (hd : a.defers = []) (hR : R (.returned v) w) : bodyPostM Fence.wide n P fn R .ret a w := by
  show LeavesInM Fence.wide n P fn a.tmps R a.defers .returning w
  rw [hd]
  exact ⟨v, hr, hR⟩
theorem Sm.retM1 {n : Nat} {P : Program} {fn : Func} {R : Ending → World → Prop} {a : Act} {w : World} {v : Value} {D : Nat} (hd : a.defers = [{ target := .collected D, args := #[] }]) (hD : w.heap[D]? = some (.deferred (some []))) (hr : (results fn a.tmps).run P (w.putObj D (.deferred none)) = .ok v (w.putObj D (.deferred none))) (hR : R (.returned v) (w.putObj D (.deferred none))) : bodyPostM Fence.wide n P fn R .ret a w := by
  show LeavesInM Fence.wide n P fn a.tmps R a.defers .returning w
  rw [hd]
  exact ⟨by simp, .inl ⟨_, _, rfl, run_takeDeferred hD, v, hr, hR⟩⟩
set_option maxRecDepth 100000 in
theorem Sm.Derive_no (N : Int) (n c : Nat) (A : Option Addr) (lb : ByteArray) (w : World) (h : N < 0 ∨ 8160 < N) : Calls Tryz.prog 79 #[.slice A n c, .string lb, .int .i64 N] w fun e w' => e = .returned (.tuple #[.slice none 0 0, .int .i64 2]) ∧ Below w.heap.size w w' := by
  have hb : Below w.heap.size w (w.alloc (.cells #[.int .i64 N] 3)) := (Below.refl _ _).alloc (Nat.le_refl _) _
  refine (callsIn_wide (n := 3)).1 ?_
  refine callsIn_of_wp_marks Tryz.func79 rfl trivial ?_ rfl
  simp only [Tryz.ntmps79, List.size_toArray, List.length_cons, List.length_nil, Nat.reduceAdd, Nat.reduceSub, Array.replicate_succ, Array.replicate_zero, List.push_toArray, List.append_toArray, List.nil_append, List.cons_append]
  by_cases h1 : N < 0
  · gi_wp2
    refine wpIn_wide.2 (wp_scope_straight ((wpIn_wide (n := 3)).1 ?_))
    gi_wp2
    simp only [Exit.noGoto]
    refine retM (v := .tuple #[.slice none 0 0, .int .i64 2]) ?_ rfl ⟨rfl, hb⟩
    simp [results, Tryz.results79, go_sem]
  · have h2 : 8160 < N := by omega
    gi_wp2
    refine wpIn_wide.2 (wp_scope_straight ((wpIn_wide (n := 3)).1 ?_))
    gi_wp2
    simp only [Exit.noGoto]
    refine retM (v := .tuple #[.slice none 0 0, .int .i64 2]) ?_ rfl ⟨rfl, hb⟩
    simp [results, Tryz.results79, go_sem]
/-- how derived stands behind k keys -/
structure Sm.DvI (w w5 W : World) (Nb Db Rb N k : Nat) (key lb : List (BitVec 8)) : Prop where
  nb : Blk W Nb 3 #[.int .i64 (N : Int)]
  db : Blk W Db 0x38 #[.slice (some ⟨Rb, 0, none⟩) (32 * k) N]
  own : W.ownsRow w.heap.size 5 1 (.slice (some ⟨Rb, 0, none⟩) (32 * k) N) (32 * k) ((allK key lb k).map byteCell)
  but : But (fun b => b = Db ∨ b = Rb) w5 W
  le : 32 * k < N ∨ k = 0
/-- how all stands behind the last key -/
structure Sm.DvX (w w5 : World) (c : Code) (W : World) (Db Rb N : Nat) (key lb : List (BitVec 8)) : Prop where
  c : c = .exit 0
  db : Blk W Db 0x38 #[.slice (some ⟨Rb, 0, none⟩) N N]
  own : W.ownsRow w.heap.size 5 1 (.slice (some ⟨Rb, 0, none⟩) N N) N ((deriveS key lb N).map byteCell)
  but : But (fun b => b = Db ∨ b = Rb) w5 W
/-- how the loop's variable stands -/
def Sm.DvA (lo Nb Db gm N n c : Nat) (A : Option Addr) (lb : ByteArray) (v12 v13 v15 v16 v18 F : Value) (args : Array Value) (a' : Act) (W : World) : Prop :=
  ∃ (T : List (BitVec 8)) (Pb : Nat), args = #[.agg (bvs T)] ∧ T.length = 32 ∧ lo ≤ Pb ∧ Blk W Pb 0x7e (bvs T) ∧
    a' = { tmps := #[.slice A n c, .string lb, .int .i64 (N : Int), undef, undef, .pointer (some ⟨Nb, 0, none⟩), .slice none 0 0, .int .i64 0, .pointer (some ⟨Db, 0, none⟩), .pointer (some ⟨Pb, 0, none⟩), undef, .int .i64 (N : Int), v12, v13, .int .i64 (N : Int), v15, v16, .int .i64 (N : Int), v18, .slice A n c, .pointer (some ⟨gm, 0, none⟩), .string lb, F, .agg (bvs T), undef, undef, undef, undef, undef, undef, undef, undef, undef, undef, undef, undef, undef, undef, undef], defers := [] }
theorem Sm.derive_last (key lb : List (BitVec 8)) (N k ln : Nat) (h : 32 * k + ln = N) (hl : ln ≤ 32) (hk : 32 * k < N ∨ k = 0) : allK key lb k ++ (lastK key lb (k + 1)).take ln = deriveS key lb N := by
  unfold deriveS
  by_cases h0 : ln = 0
  · have hk0 : k = 0 := by omega
    have hN : N = 0 := by omega
    subst h0 hk0 hN
    simp [allK]
  · have e : (N + 31) / 32 = k + 1 := by omega
    have e2 : 32 * k + ln - 32 * k = ln := by omega
    rw [e, allK, ← h, List.take_append, allK_length, e2]
    congr 1
    exact (List.take_of_length_le (by rw [allK_length]; omega)).symm
theorem Sm.bvs_inj {l m : List (BitVec 8)} (h : bvs l = bvs m) : l = m := by
  unfold bvs at h
  have h2 := congrArg Array.toList h
  simp only at h2
  refine List.map_inj_right (fun x y e => ?_) |>.1 h2
  unfold byteCell at e
  injection e with _ e
  have := ib_beq x y
  rw [e] at this
  simpa using this.symm
theorem Sm.slice27_h (b m : Nat) (hm : m ≤ 32) (w : World) : (Instr.sliceAt 0x7e (.pointer (some ⟨b, 0, none⟩)) none (some (.int .i64 (m : Int))) none).run Tryz.prog w = .ok (.slice (some ⟨b, 0, none⟩) m 32) w := by
  have hu : Tryz.prog.underlying 0x7e = some (.array (Tryz.prog.arrayLen 0x7e) (Tryz.prog.elem 0x7e)) := by kernel_rfl
  have ha : Tryz.prog.arrayLen 0x7e = 32 := by kernel_rfl
  have he : Tryz.prog.elem 0x7e = 5 := by kernel_rfl
  have hs : ∀ w, (sizeOf 5).run Tryz.prog w = .ok 1 w := fun _ => by kernel_rfl
  rw [run_sliceAt_array_h w 0x7e ⟨b, 0, none⟩ hu .i64 _ (by omega) (by rw [ha]; omega), he, hs]
  simp only [Result.andThen_ok, slicedAt, ha, Int.toNat_natCast, Nat.zero_mul, Nat.sub_zero]
  rw [if_neg (by omega), Addr.add_mid, Nat.add_zero]
theorem Sm.oper_append_fit {P : Program} {o : Oper} {a : Act} {w : World} {K : Act → World → Prop} {Q : Exit → Act → World → Prop} (s x : Operand) (t : TypeId)
    (ho : o.op = .call { callee := .builtin .append, args := #[s, x], argTypes := #[t, t] })
    (base : Nat) (e : TypeId) (i : TypeInfo) (ht : P.underlying t = some (.slice e)) (hi : P.info? e = some i) (hsize : i.size = 1)
    (g k cap : Nat) (xs : List Value) (hs : a.eval s = .slice (some ⟨g, 0, none⟩) k cap) (hown : w.ownsRow base e 1 (.slice (some ⟨g, 0, none⟩) k cap) k xs)
    (ad : Addr) (m c : Nat) (l : List (BitVec 8)) (hx : a.eval x = .slice (some ad) m c) (hl : l.length = m) (hc : ∀ j u, (l.map byteCell)[j]? = some u → w.cell? (ad.add j) = some u) (hroom : k + m ≤ cap)
    (h : ∀ w', w'.ownsRow base e 1 (.slice (some ⟨g, 0, none⟩) (k + m) cap) (k + m) (xs ++ l.map byteCell) → w.grownBy w' (some g) → K (a.put o.dst (.slice (some ⟨g, 0, none⟩) (k + m) cap)) w') : o.wp P a w K Q := by
  obtain ⟨w', hr', h2, h3⟩ := run_append_fits (P := P) w base t o.type e i 1 ht hi hsize g k cap xs hown ad m c (l.map byteCell) (by rw [List.length_map, hl, Nat.mul_one]) hc (byteCell_one l) hroom
  unfold Oper.wp execOp
  simp only [ho, resolve, invoke, builtin, Sem.run_bind, Sem.run_pure, Result.andThen_ok, List.map_toArray, List.map_cons, List.map_nil, hs, hx, hr']
  exact h w' h2 h3
set_option maxRecDepth 100000 in
set_option maxHeartbeats 8000000 in
theorem Sm.Derive_yes (N n c : Nat) (A : Option Addr) (key : List (BitVec 8)) (lb : ByteArray) (w : World) (ht : Tabs w) (hk : key.length = n) (hn : n ≤ 1000) (hnc : n ≤ c) (hcm : c ≤ 9223372036854775807) (hr : Rd w w.heap.size A key) (hlb : lb.size ≤ 1000) (hN : N ≤ 8160) :
    Calls Tryz.prog 79 #[.slice A n c, .string lb, .int .i64 (N : Int)] w fun e w' => ∃ A' c', e = .returned (.tuple #[.slice A' N c', .int .i64 0]) ∧ Rd w' w'.heap.size A' (deriveS key (sB lb) N) ∧ Below w.heap.size w w' ∧ N ≤ c' ∧ c' ≤ 9223372036854775807 := by
  obtain ⟨i0, hi, hz0, hz1, hz2⟩ := info_parts info5
  have h0 : ¬ ((N : Int) < 0) := by omega
  have h1 : ¬ ((8160 : Int) < (N : Int)) := by omega
  have hnew : ∀ v, Below w.heap.size w v → Calls Tryz.prog 89 #[.slice A n c] v fun e w' => ∃ gm g, e = .returned (.pointer (some ⟨gm, 0, none⟩)) ∧ v.heap.size ≤ gm ∧ v.heap.size ≤ g ∧ MacK w' gm g key [] ∧ Below v.heap.size v w' := fun v hb => newK_any n c A key v (ht.keep hb) hk hn hnc hcm ((hr.below hb).more hb.size)
  have HNEW := Lib.hid hnew
  have HTT := Lib.hid ht
  have h3 := ht.size
  clear hnew ht hk hn hnc hcm hr
  refine (callsIn_wide (n := 3)).1 ?_
  refine callsIn_of_wp_marks Tryz.func79 rfl trivial ?_ rfl
  simp only [Tryz.ntmps79, List.size_toArray, List.length_cons, List.length_nil, Nat.reduceAdd, Nat.reduceSub, Array.replicate_succ, Array.replicate_zero, List.push_toArray, List.append_toArray, List.nil_append, List.cons_append]
  have hbN : Below w.heap.size w (w.alloc (.cells #[.int .i64 (N : Int)] 3)) := (Below.refl _ _).alloc (Nat.le_refl _) _
  gi_wp2
  refine wpIn_wide.2 (wp_scope_straight ((wpIn_wide (n := 3)).1 ?_))
  gi_wp2_with (gi_at_make; refine wpListIn_make_own _ rfl _ _ 0x38 rfl w.heap.size 5 i0 (.int .u8 0) 1 Tryz.underlying56 hi hz0 hz1 .i64 .i64 _ N rfl rfl rfl (by rw [hz2]; omega) (by unfold maxLen; omega) hbN.size ?_; intro w2 hown2 hg2)
  simp only [World.size_alloc] at hown2
  have hrl := (hown2.lt _ rfl).2
  have hbD : Below w.heap.size w w2 := hbN.grown hg2 hbN.size (fun g e => by cases e)
  have hN2 : Blk w2 w.heap.size 3 #[.int .i64 (N : Int)] := Blk.but (Blk.new w 3 _) (But.grown hg2) (fun e => by cases e)
  obtain ⟨Db, hDb⟩ : ∃ b, w2.heap.size = b := ⟨_, rfl⟩
  obtain ⟨w3, hw3⟩ : ∃ v, w2.alloc (.cells #[.slice (some ⟨w.heap.size + 1, 0, none⟩) 0 N] 0x38) = v := ⟨_, rfl⟩
  have hD3 : Blk w3 Db 0x38 #[.slice (some ⟨w.heap.size + 1, 0, none⟩) 0 N] := by rw [← hw3, ← hDb]; exact Blk.new w2 0x38 _
  have hN3 : Blk w3 w.heap.size 3 #[.int .i64 (N : Int)] := by rw [← hw3]; exact hN2.alloc _
  have ho3 : w3.ownsRow w.heap.size 5 1 (.slice (some ⟨w.heap.size + 1, 0, none⟩) 0 N) 0 [] := by rw [← hw3]; exact own_below hown2 ((Below.refl _ _).alloc (Nat.le_refl _) _)
  have hb3 : Below w.heap.size w w3 := by rw [← hw3]; exact hbD.alloc hbD.size _
  have hs2 : w.heap.size + 1 ≤ Db := by have := hg2.size; rw [← hDb]; simpa using this
  rw [hw3, hDb]
  gi_wp2
  refine wpIn_label ?_
  gi_wp2_with (first
    | ((try refine ⟨trivial, ?_⟩); gi_at_call 89; refine (callsIn_wide.2 (HNEW.out w3 hb3)).mono ?_; rintro e w4 ⟨gm, g, rfl, hgm, hg, hm4, hb4⟩)
    | ((try refine ⟨trivial, ?_⟩); gi_at_call 90; refine (callsIn_wide.2 (keys_any _ _ _)).mono ?_; rintro e w' ⟨rfl, rfl⟩))
  have hgml := hm4.lt
  obtain ⟨w5, hw5⟩ : ∃ v, (w4.alloc (.cells #[.pointer (some ⟨gm, 0, none⟩)] 0x8a)).alloc (.cells #[.string lb] 9) = v := ⟨_, rfl⟩
  have hb45 : Below w4.heap.size w4 w5 := by rw [← hw5]; exact ((Below.refl _ w4).alloc (Nat.le_refl _) _).alloc (by simp) _
  have hs5 : w4.heap.size + 2 = w5.heap.size := by rw [← hw5]; simp
  have hcap : CapK w5 w4.heap.size (w4.heap.size + 1) gm g key lb := by
    refine ⟨?_, ?_, hm4.keep hb45⟩
    · rw [← hw5]; exact (Blk.new w4 0x8a _).alloc _
    · rw [← hw5]; exact Blk.newAt (X := w4.alloc (.cells #[.pointer (some ⟨gm, 0, none⟩)] 0x8a)) (by simp) 9 _
  have hb35 : Below w3.heap.size w3 w5 := hb4.trans (hb45.mono hb4.size)
  have hb05 : Below w.heap.size w w5 := hb3.trans (hb35.mono hb3.size)
  have hD5 := hD3.keep hb35
  have hN5 := hN3.keep hb35
  have ho5 := own_below ho3 hb35
  have hDlt := hD3.lt
  have hNlt := hN3.lt
  have hs34 := hb4.size
  have hRb : w.heap.size + 1 < w3.heap.size := (ho3.lt _ rfl).2
  have hRD : w.heap.size + 1 ≠ Db := by omega
  have hX : FarK (fun b => b = Db ∨ b = w.heap.size + 1) w5 w4.heap.size (w4.heap.size + 1) gm g := by
    rintro b (rfl | rfl) <;> omega
  have ht5 := HTT.out.keep hb05
  have hI0 : DvI w w5 w5 w.heap.size Db (w.heap.size + 1) N 0 key (sB lb) := ⟨hN5, hD5, ho5, But.refl _ _, .inr rfl⟩
  rw [hw5]
  have hseq := keys_seq w4.heap.size (w4.heap.size + 1) gm g key lb w5 (fun b => b = Db ∨ b = w.heap.size + 1) hcap hX ht5 hlb
  have HSEQ := Lib.hid hseq
  have HI0 := Lib.hid hI0
  have HB05 := Lib.hid hb05
  have hNb5 : w.heap.size < w5.heap.size := by omega
  have hDb5 : Db < w5.heap.size := by omega
  have hRb5 : w.heap.size + 1 < w5.heap.size := by omega
  have hND : w.heap.size ≠ Db := by omega
  clear hw5 hb45 hcap hb35 hb05 hD5 hN5 ho5 hD3 hN3 ho3 hX ht5 hI0 hseq hm4 hb4 hb3 hw3 hDb hN2 hbD hbN hown2 hg2 hrl
  obtain ⟨Nb, hNb⟩ : ∃ b, w.heap.size = b := ⟨_, rfl⟩
  obtain ⟨Rb, hRbe⟩ : ∃ b, w.heap.size + 1 = b := ⟨_, rfl⟩
  have hRb6 : Rb < w5.heap.size := by omega
  have hRDb : Rb ≠ Db := by omega
  rw [hRbe, hNb]
  refine wpIn_range (gf := 101) (lb := #[.pointer (some ⟨w4.heap.size, 0, none⟩), .pointer (some ⟨w4.heap.size + 1, 0, none⟩)]) rfl (enters_of Tryz.func101 (by kernel_rfl) rfl)
    HSEQ.out (by rintro b (rfl | rfl) <;> omega) ?hH ?hrow ?hps
    (fun k W => DvI w w5 W Nb Db Rb N k key (sB lb)) (fun c _ W => DvX w w5 c W Db Rb N key (sB lb)) ?hI ?hIx (by rw [← hRbe, ← hNb]; exact HI0.out)
    (DvA (w5.heap.size + 2) Nb Db gm N n c A lb (.bool (decide ((N : Int) < 0))) (.bool (decide ((N : Int) < 0))) (.bool (decide ((8160 : Int) < (N : Int)))) (.bool (decide ((N : Int) < 0) || decide ((8160 : Int) < (N : Int)))) (.slice (some ⟨Rb, 0, none⟩) 0 N) (.func (.func 101) #[] #[.pointer (some ⟨w4.heap.size, 0, none⟩), .pointer (some ⟨w4.heap.size + 1, 0, none⟩)])) ?hAx ?assign ?body ?done ?stop
  case hH => exact fun k args W W' hh _ => hh
  case hrow => exact fun k args W b _ e => e.elim
  case hps =>
    rintro k args W ⟨_, rfl⟩
    rfl
  case hI =>
    rintro k W W' ⟨i1, i2, i3, i4, i5⟩ hb
    exact ⟨i1.but (But.of_below hb) (by omega), i2.but (But.of_below hb) (by omega), (But.of_below hb).row i3 (fun g e => by cases e; exact Nat.not_le.2 hRb6), i4.trans (But.of_below hb) (fun b hb' e => absurd hb' (Nat.not_lt.2 e)), i5⟩
  case hIx =>
    rintro c k W W' ⟨rfl, i2, i3, i4⟩ hb
    exact ⟨rfl, i2.but (But.of_below hb) (by omega), (But.of_below hb).row i3 (fun g e => by cases e; exact Nat.not_le.2 hRb6), i4.trans (But.of_below hb) (fun b hb' e => absurd hb' (Nat.not_lt.2 e))⟩
  case hAx =>
    rintro args a' W W' ⟨T, Pb, e1, e2, e3, e4, e5⟩ hb
    exact ⟨T, Pb, e1, e2, e3, e4.but hb (by omega), e5⟩
  case assign =>
    rintro l0 k args W K hsz hI ⟨hk, rfl⟩ hK
    have hTl := lastK_length key (sB lb) k
    obtain ⟨T, hT⟩ : ∃ T, lastK key (sB lb) (k + 1) = T := ⟨_, rfl⟩
    rw [hT] at hTl hK ⊢
    have HTL := Lib.hid hTl
    clear hT hTl hI
    gi_wp2_with (refine wpListIn_store_row rfl 0x7e _ _ rfl W.heap.size (bvs T) rfl rfl 0x7e (bvs (List.replicate 32 0#8)) (World.alloc_heap_new W _) (i36 T HTL.out) (by rw [bvs_size, bvs_size, HTL.out]; rfl) (bvs_one T) ?_)
    exact hK _ _ (below_setRow ((Below.refl _ W).alloc (Nat.le_refl _) _) (Nat.le_refl _) _) ⟨T, W.heap.size, rfl, HTL.out, hsz, setRow_heap _ _ _ _ _ _ (World.alloc_heap_new W _), rfl⟩
  case body =>
    rintro l0 k args a' W hsz ⟨i1, i2, i3, i4, i5⟩ ⟨hk, rfl⟩ ⟨T, Pb, e1, hTl, hPb, hP, rfl⟩
    simp only [Array.mk.injEq, List.cons.injEq, Value.agg.injEq, and_true] at e1
    have hT := bvs_inj e1
    have hnb := i1.cell 0
    have hdb := i2.cell 0
    have hdf := i2.frozen 0
    simp only [List.getElem?_toArray, List.getElem?_cons_zero] at hnb hdb
    have hsl := slice33_all Pb
    have hPl := hP.lt
    have hDW := i2.lt
    obtain ⟨lf, hlf⟩ : ∃ lf : Int, (N : Int) - ((32 * k : Nat) : Int) = lf := ⟨_, rfl⟩
    have hsub : (N : Int) - 32 * (k : Int) = lf := by omega
    have hP0 := Lib.hid hP
    have HO := Lib.hid i3
    have HBT := Lib.hid i4
    have HD2 := Lib.hid i2
    have HN2 := Lib.hid i1
    have HTL := Lib.hid hTl
    have HTE := Lib.hid hT
    have HLE := Lib.hid i5
    clear e1 i1 i2 i3 i4 i5 hTl hT hP
    have hlf0 : 0 ≤ lf := by have := HLE.out; omega
    obtain ⟨ln, rfl⟩ : ∃ m : Nat, lf = (m : Int) := ⟨lf.toNat, by omega⟩
    have hbtW := HBT.out.size
    by_cases hlast : (ln : Int) ≤ 32
    · have hslh := slice27_h Pb ln (by omega)
      gi_wp2
      refine wpIn_round_held (S := fun _ => True) rfl (by kernel_rfl) (by rintro ⟨_, _, h⟩; exact h) trivial (fun hHeld => ?_)
      simp only [List.size_toArray, List.length_cons, List.length_nil, Nat.reduceAdd]
      have hdb7 : W.drew.cell? ⟨Db, 0, none⟩ = some (.slice (some ⟨Rb, 0, none⟩) (32 * k) N) := hdb
      have hdf7 : W.drew.frozen? ⟨Db, 0, none⟩ = false := hdf
      have HO7 := Lib.hid (HO.out.drew)
      have HP7 := Lib.hid (hP0.out.drew)
      have HD7 := Lib.hid (HD2.out.drew)
      have HB7 : Hid (But (fun b => b = Db ∨ b = Rb) W W.drew) := Lib.hid (But.refl _ W).drew
      have hs7 : W.drew.heap.size = W.heap.size := rfl
      obtain ⟨W7, hW7⟩ : ∃ V, W.drew = V := ⟨_, rfl⟩
      rw [hW7] at hdb7 hdf7 HO7 HP7 HD7 HB7 hs7 ⊢
      clear hW7 hdb hdf
      refine wpAnyH_take (i := 1) (v := .int .i64 (ln : Int)) rfl (by kernel_rfl) (by kernel_rfl) (by kernel_rfl) (fun _ _ _ h => h) (Or.inl ⟨by rfl, ?_⟩) trivial ?_
      · intro wx _; go_simp
      try simp only [Act.put]
      refine wpAnyH_take (i := 2) (v := .slice (some ⟨Pb, 0, none⟩) ln 32) rfl (by kernel_rfl) (by kernel_rfl) (by kernel_rfl) (fun _ _ _ h => h) (Or.inl ⟨by rfl, ?_⟩) trivial ?_
      · intro wx _; go_simp
      try simp only [Act.put]
      refine wpAnyH_ready (rs := [0]) (by kernel_rfl) (by simp) (AllReadyH.cons rfl (fun K hK => ?_) AllReadyH.nil)
      go_simp
      refine hK.out _ _ trivial (fun _ => ?_)
      clear hK K
      try simp only [Act.put]
      refine wpAnyH_ready (rs := [3]) (by kernel_rfl) (by simp) (AllReadyH.cons rfl (fun K hK => ?_) AllReadyH.nil)
      rw [if_pos (by rfl)]
      have htk : (T.take ln).length = ln := by rw [List.length_take, HTL.out]; omega
      refine oper_append_fit (.tmp 34) (.tmp 36) 0x38 rfl w.heap.size 5 i0 Tryz.underlying56 hi hz1 Rb (32 * k) N _ rfl HO7.out ⟨Pb, 0, none⟩ ln 32 (T.take ln) rfl htk (fun j u hj => ?_) (by omega) ?_
      · rw [Addr.add_mid, Nat.zero_add, HP7.out.cell]
        rw [List.map_take, List.getElem?_take] at hj
        split at hj
        · unfold bvs; rw [List.getElem?_toArray]; exact hj
        · cases hj
      intro w9 hown9 hg9
      have hdb9 := ((But.grown hg9).cell (p := ⟨Db, 0, none⟩) (show Db < W7.heap.size by omega) (fun e => hRDb (Option.some.inj e))).trans hdb7
      have hdf9 := ((But.grown hg9).frozen (p := ⟨Db, 0, none⟩) (show Db < W7.heap.size by omega) (fun e => hRDb (Option.some.inj e))).trans hdf7
      have HD9 := Lib.hid (HD7.out.but (But.grown hg9) (fun e => hRDb (Option.some.inj e)))
      have HB9 : Hid (But (fun b => b = Db ∨ b = Rb) W w9) := Lib.hid (HB7.out.trans (But.grown hg9) (fun b _ e => by cases e; exact .inr rfl))
      have hs9 := hg9.size
      have HO9 := Lib.hid hown9
      clear hown9 hg9 htk
      refine hK.out _ _ trivial (fun _ => ?_)
      clear hK K
      try simp only [Act.put]
      refine wpAnyH_ready (rs := [4]) (by kernel_rfl) (by simp) (AllReadyH.cons rfl (fun K hK => ?_) AllReadyH.nil)
      go_simp
      refine hK.out _ _ trivial (fun _ => ?_)
      clear hK K
      try simp only [Act.put]
      refine wpAnyH_done (by kernel_rfl) ?_ _
      try simp only [List.getElem_toArray, List.getElem_cons_succ, List.getElem_cons_zero]
      have hsd : But (fun b => b = Db) w9 (w9.setCell ⟨Db, 0, none⟩ (.slice (some ⟨Rb, 0, none⟩) (32 * k + ln) N)) := (But.refl _ w9).set _ _ (.inl rfl)
      have hblk := heap_setCell_same w9 Db 0 _ 0x38 (.slice (some ⟨Rb, 0, none⟩) (32 * k + ln) N) HD9.out
      simp only [List.setIfInBounds_toArray, List.set_cons_zero] at hblk
      have hrow := hsd.row HO9.out (fun g e => by cases e; exact hRDb)
      have hfin := HB9.out.trans hsd (fun b _ e => .inl e)
      have hNe : 32 * k + ln = N := by omega
      rw [hNe] at hsd hblk hrow hfin ⊢
      have hder : (allK key (sB lb) k).map byteCell ++ (T.take ln).map byteCell = (deriveS key (sB lb) N).map byteCell := by
        rw [← List.map_append, ← HTE.out]
        exact congrArg _ (derive_last key (sB lb) N k ln hNe (by omega) HLE.out)
      rw [hder] at hrow
      have HFIN : Hid (DvX w w5 (.exit 0) (w9.setCell ⟨Db, 0, none⟩ (.slice (some ⟨Rb, 0, none⟩) N N)) Db Rb N key (sB lb)) := Lib.hid ⟨rfl, hblk, hrow, HBT.out.trans hfin (fun _ _ e => e)⟩
      have HF2 := Lib.hid hfin
      clear hsd hblk hrow hfin hder hNe
      obtain ⟨V9, hV9⟩ : ∃ V, w9.setCell ⟨Db, 0, none⟩ (.slice (some ⟨Rb, 0, none⟩) N N) = V := ⟨_, rfl⟩
      rw [hV9] at HFIN HF2 ⊢
      clear hV9 hdb9 hdf9 hdb7 hdf7 HD9 HB9 HO9 HO7 HP7 HD7 HB7 hnb hsl hslh
      gi_wp2
      exact ⟨HF2.out.mono (fun b _ e => .inl (e.imp id (fun h => h.trans hRbe.symm))), HFIN.out⟩
    · gi_wp2
      refine wpIn_round_held (S := fun _ => True) rfl (by kernel_rfl) (by rintro ⟨_, _, h⟩; exact h) trivial (fun hHeld => ?_)
      simp only [List.size_toArray, List.length_cons, List.length_nil, Nat.reduceAdd]
      have hdb7 : W.drew.cell? ⟨Db, 0, none⟩ = some (.slice (some ⟨Rb, 0, none⟩) (32 * k) N) := hdb
      have hdf7 : W.drew.frozen? ⟨Db, 0, none⟩ = false := hdf
      have HO7 := Lib.hid (HO.out.drew)
      have HP7 := Lib.hid (hP0.out.drew)
      have HD7 := Lib.hid (HD2.out.drew)
      have HB7 : Hid (But (fun b => b = Db ∨ b = Rb) W W.drew) := Lib.hid (But.refl _ W).drew
      have hs7 : W.drew.heap.size = W.heap.size := rfl
      obtain ⟨W7, hW7⟩ : ∃ V, W.drew = V := ⟨_, rfl⟩
      rw [hW7] at hdb7 hdf7 HO7 HP7 HD7 HB7 hs7 ⊢
      clear hW7 hdb hdf
      refine wpAnyH_take (i := 1) (v := .slice (some ⟨Pb, 0, none⟩) 32 32) rfl (by kernel_rfl) (by kernel_rfl) (by kernel_rfl) (fun _ _ _ h => h) (Or.inl ⟨by rfl, ?_⟩) trivial ?_
      · intro wx _; go_simp
      try simp only [Act.put]
      refine wpAnyH_ready (rs := [0]) (by kernel_rfl) (by simp) (AllReadyH.cons rfl (fun K hK => ?_) AllReadyH.nil)
      go_simp
      refine hK.out _ _ trivial (fun _ => ?_)
      clear hK K
      try simp only [Act.put]
      refine wpAnyH_ready (rs := [2]) (by kernel_rfl) (by simp) (AllReadyH.cons rfl (fun K hK => ?_) AllReadyH.nil)
      rw [if_pos (by rfl)]
      refine oper_append_fit (.tmp 28) (.tmp 29) 0x38 rfl w.heap.size 5 i0 Tryz.underlying56 hi hz1 Rb (32 * k) N _ rfl HO7.out ⟨Pb, 0, none⟩ 32 32 T rfl HTL.out (fun j u hj => ?_) (by omega) ?_
      · rw [Addr.add_mid, Nat.zero_add, HP7.out.cell]
        unfold bvs; rw [List.getElem?_toArray]; exact hj
      intro w9 hown9 hg9
      have hdb9 := ((But.grown hg9).cell (p := ⟨Db, 0, none⟩) (show Db < W7.heap.size by omega) (fun e => hRDb (Option.some.inj e))).trans hdb7
      have hdf9 := ((But.grown hg9).frozen (p := ⟨Db, 0, none⟩) (show Db < W7.heap.size by omega) (fun e => hRDb (Option.some.inj e))).trans hdf7
      have HD9 := Lib.hid (HD7.out.but (But.grown hg9) (fun e => hRDb (Option.some.inj e)))
      have HB9 : Hid (But (fun b => b = Db ∨ b = Rb) W w9) := Lib.hid (HB7.out.trans (But.grown hg9) (fun b _ e => by cases e; exact .inr rfl))
      have hs9 := hg9.size
      have HO9 := Lib.hid hown9
      clear hown9 hg9
      refine hK.out _ _ trivial (fun _ => ?_)
      clear hK K
      try simp only [Act.put]
      refine wpAnyH_ready (rs := [3]) (by kernel_rfl) (by simp) (AllReadyH.cons rfl (fun K hK => ?_) AllReadyH.nil)
      go_simp
      refine hK.out _ _ trivial (fun _ => ?_)
      clear hK K
      try simp only [Act.put]
      refine wpAnyH_done (by kernel_rfl) ?_ _
      try simp only [List.getElem_toArray, List.getElem_cons_succ, List.getElem_cons_zero]
      have hsd : But (fun b => b = Db) w9 (w9.setCell ⟨Db, 0, none⟩ (.slice (some ⟨Rb, 0, none⟩) (32 * k + 32) N)) := (But.refl _ w9).set _ _ (.inl rfl)
      have hblk := heap_setCell_same w9 Db 0 _ 0x38 (.slice (some ⟨Rb, 0, none⟩) (32 * k + 32) N) HD9.out
      simp only [List.setIfInBounds_toArray, List.set_cons_zero] at hblk
      have hrow := hsd.row HO9.out (fun g e => by cases e; exact hRDb)
      have hfin := HB9.out.trans hsd (fun b _ e => .inl e)
      have hnbf := HN2.out.but hfin (by rintro (e | e) <;> omega)
      have hder : (allK key (sB lb) k).map byteCell ++ T.map byteCell = (allK key (sB lb) (k + 1)).map byteCell := by
        rw [allK, List.map_append, HTE.out]
      have hNe : 32 * k + 32 = 32 * (k + 1) := by omega
      rw [hder] at hrow
      obtain ⟨V9, hV9⟩ : ∃ V, w9.setCell ⟨Db, 0, none⟩ (.slice (some ⟨Rb, 0, none⟩) (32 * k + 32) N) = V := ⟨_, rfl⟩
      rw [hV9] at hsd hblk hrow hfin hnbf ⊢
      rw [hNe] at hblk hrow
      have HFIN : Hid (DvI w w5 V9 Nb Db Rb N (k + 1) key (sB lb)) := Lib.hid ⟨hnbf, hblk, hrow, HBT.out.trans hfin (fun _ _ e => e), .inl (by omega)⟩
      have HF2 := Lib.hid hfin
      clear hsd hblk hrow hfin hder hNe hnbf hV9 hdb9 hdf9 hdb7 hdf7 HD9 HB9 HO9 HO7 HP7 HD7 HB7 hnb hsl
      gi_wp2
      exact ⟨trivial, HF2.out.mono (fun b _ e => .inl (e.imp id (fun h => h.trans hRbe.symm))), HFIN.out⟩
  case done =>
    rintro k W rfl ⟨_, _, _, _, h5⟩ _
    omega
  case stop =>
    rintro c k W _ ⟨rfl, hdb, hown, hbt⟩ hD
    have hdc := hdb.cell 0
    simp only [List.getElem?_toArray, List.getElem?_cons_zero] at hdc
    have hbw : Below w.heap.size w W := HB05.out.trans ((hbt.to_below (n := w.heap.size) (by omega) (by rintro b (rfl | rfl) <;> omega)).mono (Nat.le_refl _))
    have HBW := Lib.hid hbw
    have HOW := Lib.hid hown
    have HDD := Lib.hid hD
    clear hbw hown hD hdb hbt
    gi_wp2
    have hput := put_but W w5.heap.size (.deferred none)
    have hrow := hput.row HOW.out (fun g e => by cases e; exact Nat.ne_of_lt hRb6)
    refine retM1 (D := w5.heap.size) (v := .tuple #[.slice (some ⟨Rb, 0, none⟩) N N, .int .i64 0]) rfl HDD.out ?_ ⟨_, _, rfl, Rd.of_own hrow (Nat.le_refl _), But.below HBW.out hput (fun b e => by omega), Nat.le_refl _, by omega⟩
    simp [results, Tryz.results79, go_sem]
end Go.Proofs
