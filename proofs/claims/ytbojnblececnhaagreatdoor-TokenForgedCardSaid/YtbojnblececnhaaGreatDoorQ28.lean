/-
  The contracts of Copy and Same of keys, and of the calls on keys that are none.
  The contracts of the document's master, New, Turn, Newest and Right of keys.
  The contracts of the document's Number, Take and of its reader's Number of layer 2.
  The contracts of the document's turned, Mix, first words, order, places of layer 4.
-/
import Derived.ChangeKeysEq
import Derived.Test.YtbojnblececnhaaGreatDoorQ27
import Derived.BigQuiet
import Derived.StillTailTactics
import Derived.Test.YtbojnblececnhaaGreatDoorQ25
import Derived.Deep.QuietTactic
import Derived.Laws.CopyOwn
import Derived.Deep.CutRange
import Derived.Test.YtbojnblececnhaaGreatDoorQ09
namespace Go.Proofs
open Go.RowKit Go.Shelf Sm
/-- are two keys alike? cell by cell -/
def Sm.sameK (k k' : Kpt) : Bool := k.n0 == k'.n0 && k.s0.toList == k'.s0.toList && (k.n1 == k'.n1 && k.s1.toList == k'.s1.toList && (k.n2 == k'.n2 && k.s2.toList == k'.s2.toList))
set_option maxRecDepth 100000 in
theorem Sm.eq_num (d : Nat) (n n' : Int) (w : World) : (Op.equalIn (d + 2) 0x21 (.agg #[.int .i64 n]) (.agg #[.int .i64 n'])).run Tryz.prog w = .ok (n == n') w := by
  rw [run_equalIn_agg w (d + 1) 0x21 _ _ (by kernel_rfl) (by kernel_rfl)]
  simp [go_sem, Op.eqFields]
  by_cases h : n = n' <;> simp [h]
set_option maxRecDepth 100000 in
theorem Sm.eq_mst (d : Nat) (n n' : Int) (s s' : ByteArray) (w : World) : (Op.equalIn (d + 3) 0x23 (.agg #[.int .i64 n, .string s]) (.agg #[.int .i64 n', .string s'])).run Tryz.prog w = .ok (n == n' && s.toList == s'.toList) w := by
  rw [run_equalIn_agg w (d + 2) 0x23 _ _ (by kernel_rfl) (by kernel_rfl)]
  simp [go_sem, Op.eqFields, eq_num]
  by_cases h : n = n' <;> by_cases h2 : s.toList = s'.toList <;> simp [h, h2]
set_option maxRecDepth 100000 in
theorem Sm.eq_arr (k k' : Kpt) (w : World) : (Op.equalIn 10000 0x25 (.agg k.cells) (.agg k'.cells)).run Tryz.prog w = .ok (sameK k k') w := by
  have hc : Tryz.prog.cellsOf 0x23 = 2 := by kernel_rfl
  obtain ⟨i, hi, _⟩ := info_parts info37
  rw [run_equalIn_array w 9999 k.cells k'.cells Tryz.underlying37 hi, hc]
  simp [go_sem, Op.eqItems, eq_mst, Kpt.cells, sameK]
  by_cases h0 : k.n0 = k'.n0 <;> by_cases g0 : k.s0.toList = k'.s0.toList <;> by_cases h1 : k.n1 = k'.n1 <;> by_cases g1 : k.s1.toList = k'.s1.toList <;> by_cases h2 : k.n2 = k'.n2 <;> by_cases g2 : k.s2.toList = k'.s2.toList <;> simp [h0, g0, h1, g1, h2, g2]
theorem Sm.toList_inj {s s' : ByteArray} : s.toList = s'.toList ↔ s = s' := by
  constructor
  · intro h
    rw [ByteArray.toList_eq, ByteArray.toList_eq] at h
    have h2 : s.data = s'.data := Array.toList_inj.1 h
    cases s
    cases s'
    exact congrArg ByteArray.mk h2
  · rintro rfl
    rfl
theorem Sm.sameK_iff (k k' : Kpt) : sameK k k' = true ↔ k = k' := by
  obtain ⟨n0, s0, n1, s1, n2, s2⟩ := k
  obtain ⟨m0, t0, m1, t1, m2, t2⟩ := k'
  simp only [sameK, Bool.and_eq_true, beq_iff_eq, toList_inj, Kpt.mk.injEq, and_assoc]
theorem Sm.sameK_refl (k : Kpt) : sameK k k = true := (sameK_iff k k).2 rfl
/-- keys of the document are the same just if those of the code are -/
theorem Sm.sameK_doc {d d' : Kd} {j j' : Nat} (h : d.OK j) (h' : d'.OK j') : sameK d.pt d'.pt = decide (d.first = d'.first ∧ d.ms = d'.ms) := by
  rw [Bool.eq_iff_iff, sameK_iff, decide_eq_true_iff]
  exact Kd.same h h'
theorem Sm.sameK_none {d : Kd} {j : Nat} (h : d.OK j) : sameK d.pt zeroK = false ∧ sameK zeroK d.pt = false := by
  have ht := Kd.there h
  constructor
  · rw [Bool.eq_false_iff]
    intro e
    rw [sameK_iff] at e
    exact ht (by rw [e]; rfl)
  · rw [Bool.eq_false_iff]
    intro e
    rw [sameK_iff] at e
    exact ht (by rw [← e]; rfl)
set_option maxRecDepth 100000 in
set_option maxHeartbeats 1000000 in
theorem Sm.KSame_any (w : World) (v v' : Value) (k k' : Kpt) (h : KeyV w v k) (h' : KeyV w v' k') : Calls Tryz.prog 16 #[v, v'] w fun e w' => e = .returned (.bool (sameK k k')) ∧ Below w.heap.size w w' := by
  have ha := all_any w v k h
  have hq := eq_arr k k'
  have hb := fun w1 (hb1 : Below w.heap.size w w1) => all_any w1 v' k' (h'.below hb1)
  unfold Kpt.cells at ha hb hq
  have HA := Lib.hid ha
  have HB := Lib.hid hb
  obtain ⟨r, hr⟩ : ∃ r, sameK k k' = r := ⟨_, rfl⟩
  rw [hr] at hq ⊢
  clear h h' ha hb hr
  go_enter Tryz.func16, Tryz.ntmps16
  go_wp2_with (first
    | (go_at_call 41; (with_reducible refine HA.out.mono ?_); rintro e w1 ⟨rfl, hb1⟩)
    | (go_at_call 41; (with_reducible refine (HB.out w1 hb1).mono ?_); rintro e w2 ⟨rfl, hb2⟩))
  go_ret
  exact ⟨rfl, hb1.trans (hb2.mono hb1.size)⟩
set_option maxRecDepth 100000 in
set_option maxHeartbeats 1000000 in
theorem Sm.KCopy_ok (w : World) (B : Nat) (k : Kpt) (h : KeyAt w B k) (hs : ¬ k.s0 = ⟨#[]⟩) : Calls Tryz.prog 15 #[.pointer (some ⟨B, 0, none⟩)] w fun e w' => ∃ B', e = .returned (.pointer (some ⟨B', 0, none⟩)) ∧ w.heap.size ≤ B' ∧ KeyAt w' B' k ∧ Below w.heap.size w w' := by
  have ha := kthere_yes w (.pointer (some ⟨B, 0, none⟩)) k (.inr ⟨B, rfl, h⟩) hs
  have HA := Lib.hid ha
  have HK := Lib.hid h
  clear ha hs h
  go_enter Tryz.func15, Tryz.ntmps15
  go_upto_region 3 with (go_at_call 32; (with_reducible refine HA.out.mono ?_); rintro e w1 ⟨rfl, hb1⟩)
  have hk : KeyAt w1 B k := Blk.keep HK.out hb1
  obtain ⟨c0, c1, c2, c3, c4, c5⟩ := hk.cs
  have HB1 := Lib.hid hb1
  clear hb1 hk
  go_wp2
  go_ret
  exact ⟨w1.heap.size, rfl, HB1.out.size, Blk.new w1 0x27 k.cells, HB1.out.alloc HB1.out.size _⟩
set_option maxRecDepth 100000 in
set_option maxHeartbeats 1000000 in
theorem Sm.KCopy_no (w : World) (v : Value) (h : KeyV w v zeroK) : Calls Tryz.prog 15 #[v] w fun e w' => e = .returned (.pointer none) ∧ Below w.heap.size w w' := by
  have ha := kthere_no w v h
  clear h
  go_enter Tryz.func15, Tryz.ntmps15
  go_wp2_with (go_at_call 32; (with_reducible refine ha.mono ?_); rintro e w1 ⟨rfl, hb1⟩)
  go_ret
  exact ⟨rfl, hb1⟩
set_option maxRecDepth 100000 in
set_option maxHeartbeats 1000000 in
theorem Sm.deed30_nil (Bk Bt Bd : Nat) (v : Value) (w : World) (h : KeyV w v zeroK) (hk : w.cell? ⟨Bk, 0, none⟩ = some v) :
    Calls Tryz.prog 30 #[.pointer (some ⟨Bk, 0, none⟩), .pointer (some ⟨Bt, 0, none⟩), .pointer (some ⟨Bd, 0, none⟩)] w fun e w' => e = .panicked [pE 1] ∧ Below w.heap.size w w' := by
  have HCT := Lib.hid (kthere_no w v h)
  clear h
  go_enter Tryz.func30, Tryz.ntmps30
  go_wp2_with (first
    | (go_at_call 32; (with_reducible refine HCT.out.mono ?_); rintro e w1 ⟨rfl, hb1⟩)
    | (go_at_call 31; (with_reducible refine (must_no _ _ _ _ (World.cell?_alloc_new w1 #[.bool false] 4 0)).mono ?_); rintro e w4 ⟨rfl, rfl⟩))
  exact ⟨rfl, rfl, hb1.alloc hb1.size _⟩
set_option maxRecDepth 100000 in
set_option maxHeartbeats 1000000 in
theorem Sm.deed34_nil (Bk Bt Bd : Nat) (v : Value) (w : World) (h : KeyV w v zeroK) (hk : w.cell? ⟨Bk, 0, none⟩ = some v) :
    Calls Tryz.prog 34 #[.pointer (some ⟨Bk, 0, none⟩), .pointer (some ⟨Bt, 0, none⟩), .pointer (some ⟨Bd, 0, none⟩)] w fun e w' => e = .panicked [pE 1] ∧ Below w.heap.size w w' := by
  have HCT := Lib.hid (kthere_no w v h)
  clear h
  go_enter Tryz.func34, Tryz.ntmps34
  go_wp2_with (first
    | (go_at_call 32; (with_reducible refine HCT.out.mono ?_); rintro e w1 ⟨rfl, hb1⟩)
    | (go_at_call 31; (with_reducible refine (must_no _ _ _ _ (World.cell?_alloc_new w1 #[.bool false] 4 0)).mono ?_); rintro e w4 ⟨rfl, rfl⟩))
  exact ⟨rfl, rfl, hb1.alloc hb1.size _⟩
set_option maxRecDepth 100000 in
set_option maxHeartbeats 1000000 in
theorem Sm.deed37_nil (Bk Bt : Nat) (v : Value) (w : World) (h : KeyV w v zeroK) (hk : w.cell? ⟨Bk, 0, none⟩ = some v) :
    Calls Tryz.prog 37 #[.pointer (some ⟨Bk, 0, none⟩), .pointer (some ⟨Bt, 0, none⟩)] w fun e w' => e = .panicked [pE 1] ∧ Below w.heap.size w w' := by
  have HCT := Lib.hid (kthere_no w v h)
  clear h
  go_enter Tryz.func37, Tryz.ntmps37
  go_wp2_with (first
    | (go_at_call 32; (with_reducible refine HCT.out.mono ?_); rintro e w1 ⟨rfl, hb1⟩)
    | (go_at_call 31; (with_reducible refine (must_no _ _ _ _ (World.cell?_alloc_new w1 #[.bool false] 4 0)).mono ?_); rintro e w4 ⟨rfl, rfl⟩))
  exact ⟨rfl, rfl, hb1.alloc hb1.size _⟩
set_option maxRecDepth 100000 in
set_option maxHeartbeats 1000000 in
theorem Sm.Make_nil (p : Option Addr) (m s i : Int) (w : World) (h : KeyV w (.pointer p) zeroK) :
    Calls Tryz.prog 10 #[.pointer p, .agg #[.int .i64 m, .int .i64 s, .int .i64 i]] w fun e w' => e = .returned (.tuple #[.string ⟨#[]⟩, .int .i64 1]) ∧ Below w.heap.size w w' := by
  have hmf : ∀ (fn : Fn) (first cap : Array Value) (w : World), (Instr.makeFunc fn first cap).run Tryz.prog w = .ok (.func fn first cap) w := fun _ _ _ _ => rfl
  obtain ⟨W0, hW0, hz, hb0, b0, b1, b2⟩ := three_vars w #[.pointer p] #[.int .i64 m, .int .i64 s, .int .i64 i] #[.string ⟨#[]⟩] 0x1b 0x18 9
  have htr := tried_not 30 #[.pointer (some ⟨w.heap.size, 0, none⟩), .pointer (some ⟨w.heap.size + 1, 0, none⟩), .pointer (some ⟨w.heap.size + 1 + 1, 0, none⟩)] enters30 W0 1
    (fun u hu => deed30_nil w.heap.size (w.heap.size + 1) (w.heap.size + 1 + 1) (.pointer p) u (h.below (hb0.trans (hu.mono hb0.size))) ((b0.keep hu).cell 0))
  have HTR := Lib.hid htr
  have HZ := Lib.hid hz
  have HB0 := Lib.hid hb0
  have HD := Lib.hid b2
  clear htr hz hb0 b0 b1 b2 h
  go_enter Tryz.func10, Tryz.ntmps10
  go_upto_region 1 with fail
  clear hW0
  go_upto_region 2 with (go_at_call 29; (with_reducible refine HTR.out.mono ?_); rintro e w4 ⟨rfl, hbt⟩)
  have hz := HZ.out
  have hc4 := (HD.out.keep hbt).cell 0
  have hf4 := (HD.out.keep hbt).frozen 0
  simp only [List.getElem?_toArray, List.getElem?_cons_zero] at hc4
  have HB4 := Lib.hid (HB0.out.trans (hbt.mono HB0.out.size))
  clear hbt hz
  go_wp2
  have hset := World.cell?_setCell_same w4 ⟨w.heap.size + 1 + 1, 0, none⟩ (.string ⟨#[]⟩) hc4
  exact bodyPost_ret (v := .tuple #[.string ⟨#[]⟩, .int .i64 1]) (by simp [results, Tryz.results10, go_sem, hset]) rfl ⟨rfl, HB4.out.setCell (p := ⟨w.heap.size + 1 + 1, 0, none⟩) (by simp; omega) _⟩
set_option maxRecDepth 100000 in
set_option maxHeartbeats 1000000 in
theorem Sm.Open_nil (p : Option Addr) (s : ByteArray) (w : World) (h : KeyV w (.pointer p) zeroK) :
    Calls Tryz.prog 11 #[.pointer p, .string s] w fun e w' => e = .returned (.tuple #[.agg #[.int .i64 0, .int .i64 0, .int .i64 0], .int .i64 1]) ∧ Below w.heap.size w w' := by
  have hmf : ∀ (fn : Fn) (first cap : Array Value) (w : World), (Instr.makeFunc fn first cap).run Tryz.prog w = .ok (.func fn first cap) w := fun _ _ _ _ => rfl
  obtain ⟨W0, hW0, hz, hb0, b0, b1, b2⟩ := three_vars w #[.pointer p] #[.string s] #[.int .i64 0, .int .i64 0, .int .i64 0] 0x1b 9 0x18
  have htr := tried_not 34 #[.pointer (some ⟨w.heap.size, 0, none⟩), .pointer (some ⟨w.heap.size + 1, 0, none⟩), .pointer (some ⟨w.heap.size + 1 + 1, 0, none⟩)] enters34 W0 1
    (fun u hu => deed34_nil w.heap.size (w.heap.size + 1) (w.heap.size + 1 + 1) (.pointer p) u (h.below (hb0.trans (hu.mono hb0.size))) ((b0.keep hu).cell 0))
  have HTR := Lib.hid htr
  have HZ := Lib.hid hz
  have HB0 := Lib.hid hb0
  have HD := Lib.hid b2
  clear htr hz hb0 b0 b1 b2 h
  go_enter Tryz.func11, Tryz.ntmps11
  go_upto_region 1 with fail
  clear hW0
  go_upto_region 2 with (go_at_call 29; (with_reducible refine HTR.out.mono ?_); rintro e w4 ⟨rfl, hbt⟩)
  have hz := HZ.out
  have hD4 : Blk w4 (w.heap.size + 1 + 1) 0x18 #[.int .i64 0, .int .i64 0, .int .i64 0] := HD.out.keep hbt
  have d0 := hD4.cell 0
  have d1 := hD4.cell 1
  have d2 := hD4.cell 2
  have f0 := hD4.frozen 0
  have f1 := hD4.frozen 1
  have f2 := hD4.frozen 2
  simp only [List.getElem?_toArray, List.getElem?_cons_zero, List.getElem?_cons_succ] at d0 d1 d2
  have HB4 := Lib.hid (HB0.out.trans (hbt.mono HB0.out.size))
  have HD4 := Lib.hid hD4
  clear hbt hz hD4
  go_wp2
  have hz1 := heap_setCell_same w4 (w.heap.size + 1 + 1) 0 _ 0x18 (.int .i64 0) HD4.out
  simp only [List.setIfInBounds_toArray, List.set_cons_zero] at hz1
  have hz2 := heap_setCell_same _ (w.heap.size + 1 + 1) 1 _ 0x18 (.int .i64 0) hz1
  simp only [List.setIfInBounds_toArray, List.set_cons_succ, List.set_cons_zero] at hz2
  have hz3 := heap_setCell_same _ (w.heap.size + 1 + 1) 2 _ 0x18 (.int .i64 0) hz2
  simp only [List.setIfInBounds_toArray, List.set_cons_succ, List.set_cons_zero] at hz3
  have e0 := Blk.cell hz3 0
  have e1 := Blk.cell hz3 1
  have e2 := Blk.cell hz3 2
  simp only [List.getElem?_toArray, List.getElem?_cons_zero, List.getElem?_cons_succ] at e0 e1 e2
  refine bodyPost_ret (v := .tuple #[.agg #[.int .i64 0, .int .i64 0, .int .i64 0], .int .i64 1]) (by simp [results, Tryz.results11, go_sem, e0, e1, e2]) rfl ⟨rfl, ?_⟩
  exact ((HB4.out.setCell (p := ⟨w.heap.size + 1 + 1, 0, none⟩) (by simp; omega) _).setCell (p := ⟨w.heap.size + 1 + 1, 1, none⟩) (by simp; omega) _).setCell (p := ⟨w.heap.size + 1 + 1, 2, none⟩) (by simp; omega) _
set_option maxRecDepth 100000 in
set_option maxHeartbeats 1000000 in
theorem Sm.Turn_nil (m : ByteArray) (p : Option Addr) (w : World) (h : KeyV w (.pointer p) zeroK) :
    Calls Tryz.prog 13 #[.pointer p, .string m] w fun e w' => e = .returned (.int .i64 1) ∧ Below w.heap.size w w' := by
  have hmf : ∀ (fn : Fn) (first cap : Array Value) (w : World), (Instr.makeFunc fn first cap).run Tryz.prog w = .ok (.func fn first cap) w := fun _ _ _ _ => rfl
  obtain ⟨W0, hW0, hz, hb0, c0, c1, f1, f0⟩ := two_vars w (.pointer p) (.string m) 0x1b 9
  have htr := tried_not 37 #[.pointer (some ⟨w.heap.size, 0, none⟩), .pointer (some ⟨w.heap.size + 1, 0, none⟩)] enters37 W0 1
    (fun u hu => deed37_nil w.heap.size (w.heap.size + 1) (.pointer p) u (h.below (hb0.trans (hu.mono hb0.size))) ((hu.cell (p := ⟨w.heap.size, 0, none⟩) (by simp; omega)).trans c0))
  have HTR := Lib.hid htr
  have HB0 := Lib.hid hb0
  clear htr hz hb0 c0 c1 f1 f0 h
  go_enter Tryz.func13, Tryz.ntmps13
  go_upto_region 1 with fail
  clear hW0
  go_wp2_with (go_at_call 29; (with_reducible refine HTR.out.mono ?_); rintro e w4 ⟨rfl, hbt0⟩)
  go_ret
  exact ⟨rfl, HB0.out.trans (hbt0.mono HB0.out.size)⟩
end Go.Proofs
namespace Go.Proofs
open Go.RowKit Go.Shelf Sm
theorem Sm.info9 : (Tryz.prog.info? 9).map (fun i => (i.zero, i.size, i.bytes)) = some (some (.string ⟨#[]⟩), 1, 16) := by kernel_rfl
set_option maxRecDepth 100000 in
set_option maxHeartbeats 1000000 in
theorem Sm.master_any (s : ByteArray) (w : World) : Calls Tryz.prog 47 #[.string s] w fun e w' => e = .returned (.bool (decide (1 ≤ s.size ∧ s.size ≤ 64))) ∧ w = w' := by
  by_cases h1 : (1 : Int) ≤ (s.size : Int)
  · by_cases h2 : (s.size : Int) ≤ 64
    · rw [show decide (1 ≤ s.size ∧ s.size ≤ 64) = true by simp; omega]
      go_enter Tryz.func47, Tryz.ntmps47
      go_wp2
      go_ret
      exact ⟨rfl, rfl⟩
    · rw [show decide (1 ≤ s.size ∧ s.size ≤ 64) = false by simp; omega]
      go_enter Tryz.func47, Tryz.ntmps47
      go_wp2
      go_ret
      exact ⟨rfl, rfl⟩
  · rw [show decide (1 ≤ s.size ∧ s.size ≤ 64) = false by simp; omega]
    go_enter Tryz.func47, Tryz.ntmps47
    go_wp2
    go_ret
    exact ⟨rfl, rfl⟩
theorem Sm.decide_no {a b : Prop} [Decidable a] [Decidable b] (h : ¬ (a ∧ b)) : decide (a ∧ b) = false := decide_eq_false h
/-- texts that are read, in a block that is new -/
theorem Sm.rds_of_own {w : World} {base n c : Nat} {e : TypeId} {A : Option Addr} {cs : List Value} {N : Nat} (h : w.ownsRow base e 1 (.slice A n c) n cs) (hN : N ≤ base) : Rds w (fun b => b < N) A cs := fun hl => by
  have hn : 0 < n := by have := h.1; simp at this; omega
  obtain ⟨g, cap, hv, hg, hlt⟩ := h.form hn
  have hA : A = some ⟨g, 0, none⟩ := by injection hv
  subst hA
  refine ⟨g, 0, rfl, hlt, by omega, fun j c hj => ?_⟩
  have hjl := (List.getElem?_eq_some_iff.1 hj).1
  rw [Nat.zero_add, h.cellAt j (by have := h.1; simp at this; omega), hj]
theorem Sm.Rds.dropT {w : World} {S : Nat → Prop} {b off n : Nat} {cs : List Value} (h : Rds w S (some ⟨b, off, none⟩) cs) : Rds w S (some ⟨b, off + n, none⟩) (cs.drop n) := fun hl => by
  obtain ⟨b', off', e, hlt, hS, hc⟩ := h (by simp at hl; omega)
  injection e with e
  injection e with e1 e2
  subst e1 e2
  refine ⟨b, off + n, rfl, hlt, hS, fun j c hj => ?_⟩
  rw [List.getElem?_drop] at hj
  have := hc (n + j) c hj
  rw [← Nat.add_assoc] at this
  exact this
theorem Sm.Rds.weaker {w : World} {S S' : Nat → Prop} {A : Option Addr} {cs : List Value} (h : Rds w S A cs) (hS : ∀ b, S' b → S b) : Rds w S' A cs := fun hl => by
  obtain ⟨b, off, e, hlt, hn, hc⟩ := h hl
  exact ⟨b, off, e, hlt, fun hb => hn (hS b hb), hc⟩
def Sm.RefNewPost (w : World) (m : ByteArray) (e : Ending) (w' : World) : Prop :=
  (∃ A, e = .returned (.tuple #[.agg #[.int .i64 0, .slice A 1 1], .int .i64 0]) ∧ Rds w' (fun b => b < w.heap.size) A [.string m]) ∧ Below w.heap.size w w'
set_option maxRecDepth 100000 in
set_option maxHeartbeats 1000000 in
theorem Sm.refNew_ok (m : ByteArray) (w : World) (h1 : 1 ≤ m.size) (h2 : m.size ≤ 64) : Calls Tryz.prog 27 #[.string m] w (RefNewPost w m) := by
  have hma := fun v => master_any m v
  rw [decide_eq_true (And.intro h1 h2)] at hma
  have HMA := Lib.hid hma
  clear hma h1 h2
  go_enter Tryz.func27, Tryz.ntmps27
  go_wp2_with (go_at_call 47; (with_reducible refine (HMA.out _).mono ?_); rintro e w2 ⟨rfl, rfl⟩)
  refine bodyPost_ret (v := .tuple #[.agg #[.int .i64 0, .slice (some ⟨w.heap.size + 1, 0, none⟩) 1 1], .int .i64 0]) (by simp [results, Tryz.results27, go_sem]) rfl ⟨⟨_, rfl, ?_⟩, ?_⟩
  · intro _
    refine ⟨w.heap.size + 1, 0, rfl, by simp, by omega, fun j c hj => ?_⟩
    match j, hj with
    | 0, hj =>
      simp at hj
      subst hj
      simp [go_sem]
  · exact ((Below.refl _ w).alloc (Nat.le_refl _) _).alloc (by simp) _
set_option maxRecDepth 100000 in
set_option maxHeartbeats 1000000 in
theorem Sm.refNew_no (m : ByteArray) (w : World) (h : ¬ (1 ≤ m.size ∧ m.size ≤ 64)) : Calls Tryz.prog 27 #[.string m] w fun e w' => e = .returned (.tuple #[.agg #[.int .i64 0, .slice none 0 0], .int .i64 2]) ∧ Below w.heap.size w w' := by
  have hma := fun v => master_any m v
  rw [decide_no h] at hma
  have HMA := Lib.hid hma
  clear hma h
  go_enter Tryz.func27, Tryz.ntmps27
  go_wp2_with (go_at_call 47; (with_reducible refine (HMA.out _).mono ?_); rintro e w2 ⟨rfl, rfl⟩)
  refine bodyPost_ret (v := .tuple #[.agg #[.int .i64 0, .slice none 0 0], .int .i64 2]) (by simp [results, Tryz.results27, go_sem]) rfl ⟨rfl, ?_⟩
  exact (Below.refl _ w).alloc (Nat.le_refl _) _
set_option maxRecDepth 100000 in
set_option maxHeartbeats 1000000 in
theorem Sm.refNewest_any (f : Int) (n c : Nat) (A : Option Addr) (w : World) (hf0 : 0 ≤ f) (hf : f ≤ 1000000) (hn : n ≤ 1000000) : Calls Tryz.prog 28 #[.agg #[.int .i64 f, .slice A n c]] w fun e w' => e = .returned (.int .i64 (f + n - 1)) ∧ Below w.heap.size w w' := by
  go_enter Tryz.func28, Tryz.ntmps28
  go_wp2
  go_ret
  exact ⟨rfl, (Below.refl _ w).alloc (Nat.le_refl _) _⟩
def Sm.RefTurnPost (w : World) (d : Kd) (e : Ending) (w' : World) : Prop :=
  (∃ A c, e = .returned (.tuple #[.agg #[.int .i64 d.first, .slice A d.ms.length c], .int .i64 0]) ∧ Rds w' (fun b => b < w.heap.size) A (d.ms.map Value.string)) ∧ Below w.heap.size w w'
set_option maxRecDepth 100000 in
set_option maxHeartbeats 1000000 in
theorem Sm.refTurn_no (f : Int) (n c : Nat) (A : Option Addr) (m : ByteArray) (w : World) (h : ¬ (1 ≤ m.size ∧ m.size ≤ 64)) : Calls Tryz.prog 22 #[.agg #[.int .i64 f, .slice A n c], .string m] w fun e w' => e = .returned (.tuple #[.agg #[.int .i64 f, .slice A n c], .int .i64 2]) ∧ Below w.heap.size w w' := by
  have hma := fun v => master_any m v
  rw [decide_no h] at hma
  have HMA := Lib.hid hma
  clear hma h
  go_enter Tryz.func22, Tryz.ntmps22
  go_wp2_with (go_at_call 47; (with_reducible refine (HMA.out _).mono ?_); rintro e w2 ⟨rfl, rfl⟩)
  refine bodyPost_ret (v := .tuple #[.agg #[.int .i64 f, .slice A n c], .int .i64 2]) (by simp [results, Tryz.results22, go_sem]) rfl ⟨rfl, ?_⟩
  exact ((Below.refl _ w).alloc (Nat.le_refl _) _).alloc (by simp) _

theorem Sm.own_slice1 {w : World} {base n : Nat} {e : TypeId} {v : Value} {cs : List Value} (h : w.ownsRow base e 1 v n cs) (hn : 0 < n) : ∃ g c, v = .slice (some ⟨g, 0, none⟩) n c ∧ n ≤ c ∧ base ≤ g := by
  rcases h.2 with ⟨_, rfl⟩ | ⟨g, cap, cur, rfl, hb, _, hnc, _⟩
  · have := h.1
    simp at this
    omega
  · exact ⟨g, cap, rfl, hnc, hb⟩
set_option maxRecDepth 100000 in
set_option maxHeartbeats 2000000 in
theorem Sm.refTurn_ok (d : Kd) (j c : Nat) (A : Option Addr) (m : ByteArray) (w : World) (hd : d.OK j) (hj : j ≤ 1000) (h1 : 1 ≤ m.size) (h2 : m.size ≤ 64) (hr : Rds w (fun _ => False) A (d.ms.map Value.string)) :
    Calls Tryz.prog 22 #[.agg #[.int .i64 d.first, .slice A d.ms.length c], .string m] w (RefTurnPost w (d.turn m)) := by
  obtain ⟨i0, hi, hz0, hz1, hz2⟩ := info_parts info9
  have hma := fun v => master_any m v
  rw [decide_eq_true (And.intro h1 h2)] at hma
  have HMA := Lib.hid hma
  have h0 := hd.lo
  have hh := hd.hi
  have hs := hd.some
  have hmo := hd.most
  obtain ⟨b, off, rfl, hbl, _, hcell⟩ := hr (by rw [List.length_map]; omega)
  unfold Kd.turn
  obtain ⟨f, ms⟩ := d
  simp only at h0 hh hs hmo hcell ⊢
  obtain ⟨n, hn⟩ : ∃ n, ms.length = n := ⟨_, rfl⟩
  rw [hn] at hh hs hmo ⊢
  have hf1 : f ≤ 2000 := by omega
  have hnw : ∀ W : World, Below w.heap.size w W → ∀ i u, (ms.map Value.string)[i]? = some u → W.cell? ((⟨b, off, none⟩ : Addr).add i) = some u := fun W hb i u hu => by
    rw [Addr.add_mid]
    exact (hb.cell (p := ⟨b, off + i, none⟩) hbl).trans (hcell i u hu)
  have HNW := Lib.hid hnw
  have HN := Lib.hid hn
  have hml : (ms.map Value.string).length = n * 1 := by rw [List.length_map, hn]; omega
  have hmo1 : ∀ u ∈ ms.map Value.string, u.oneCell' = true := by
    intro u hu
    obtain ⟨x, _, rfl⟩ := List.mem_map.1 hu
    rfl
  have HML := Lib.hid (And.intro hml hmo1)
  clear hma hr hcell hnw hd hn hml hmo1 h1 h2
  go_enter Tryz.func22, Tryz.ntmps22
  go_upto_region 3 with (go_at_call 47; (with_reducible refine (HMA.out _).mono ?_); rintro e w2 ⟨rfl, rfl⟩)
  obtain ⟨W2, hW2⟩ : ∃ v, (w.alloc (.cells #[.int .i64 f, .slice (some ⟨b, off, none⟩) n c] 29)).alloc (.cells #[.int .i64 0, .slice none 0 0] 29) = v := ⟨_, rfl⟩
  have hb2 : Below w.heap.size w W2 := by rw [← hW2]; exact ((Below.refl _ w).alloc (Nat.le_refl _) _).alloc (by simp) _
  have hsz2 : W2.heap.size = w.heap.size + 2 := by rw [← hW2]; simp
  have hk0 : Blk W2 w.heap.size 29 #[.int .i64 f, .slice (some ⟨b, off, none⟩) n c] := by rw [← hW2]; exact (Blk.new w 29 _).alloc _
  have hk1 : Blk W2 (w.heap.size + 1) 29 #[.int .i64 0, .slice none 0 0] := by
    rw [← hW2]
    have := Blk.new (w.alloc (.cells #[.int .i64 f, .slice (some ⟨b, off, none⟩) n c] 29)) 29 #[.int .i64 0, .slice none 0 0]
    rwa [World.size_alloc] at this
  have c00 := hk0.cell 0
  have c01 := hk0.cell 1
  have f10 := hk1.frozen 0
  have f11 := hk1.frozen 1
  have c10 := hk1.cell 0
  have c11 := hk1.cell 1
  simp only [List.getElem?_toArray, List.getElem?_cons_zero, List.getElem?_cons_succ] at c00 c01 c10 c11
  have HB2 := Lib.hid hb2
  have HK := Lib.hid (And.intro hk0 hk1)
  rw [hW2]
  have hlw : w.heap.size + 1 < W2.heap.size := by omega
  have hlw0 : w.heap.size < W2.heap.size := by omega
  clear hW2 hb2 hk0 hk1 f10 f11 c10 c11 hsz2
  go_upto_region 4 with (first
    | (at_builtin; refine wpList_append_own _ rfl (.tmp 11) (.tmp 13) 0x16 rfl W2.heap.size 9 i0 _ 1 16 Tryz.underlying22 hi hz0 hz1 hz2 rfl (by decide) _ 0 [] rfl (World.ownsRow_made W2 #[] 0 (Nat.le_refl _) (by decide) rfl) ⟨b, off, none⟩ n c (ms.map Value.string) rfl HML.out.1 (HNW.out _ (HB2.out.alloc HB2.out.size _)) HML.out.2 (by unfold maxLen; omega) (by omega) (by simp) ?_; intro v14 w14 hown14 hg14 _; have hg14s := hg14.size; simp only [World.size_alloc] at hg14s)
    | (at_builtin; refine wpList_append_own_at _ rfl (.tmp 14) (.tmp 16) 0x16 rfl W2.heap.size 9 i0 _ 1 16 Tryz.underlying22 hi hz0 hz1 hz2 rfl (by decide) v14 (0 + n) _ rfl (hown14.alloc _) ⟨w14.heap.size, 0, none⟩ 1 1 [.string m] rfl rfl ?_ (by simp [Value.oneCell']) (by unfold maxLen; omega) (by omega) (by simp; omega) ?_; (exact cell_one_new _ _ _); intro v17 w17 hown17 hg17 _ hat17))
  have hbA : Below W2.heap.size W2 (W2.alloc (.cells #[] 9)) := (Below.refl _ _).alloc (Nat.le_refl _) _
  have hb14 : Below W2.heap.size W2 w14 := hbA.grown hg14 (by simp) (fun g e => by cases e; exact Nat.le_refl _)
  have hb17 : Below W2.heap.size W2 w17 := (hb14.alloc hb14.size _).grown hg17 (by simp; omega) (fun g e => own_ge hown14 g e)
  obtain ⟨g, cg, rfl, hgc, hgb⟩ := own_slice1 hown17 (by omega)
  have hrow : Rds w17 (fun b => b < w.heap.size + 2) (some ⟨g, 0, none⟩) ((ms ++ [m]).map Value.string) := by
    have := rds_of_own hown17 (N := w.heap.size + 2) (by omega)
    rw [List.map_append]
    exact this
  have hL0 : Blk w17 w.heap.size 29 #[.int .i64 f, .slice (some ⟨b, off, none⟩) n c] := HK.out.1.keep hb17
  have hL1 : Blk w17 (w.heap.size + 1) 29 #[.int .i64 0, .slice none 0 0] := HK.out.2.keep hb17
  have HROW := Lib.hid hrow
  have HL1 := Lib.hid hL1
  have HB17 := Lib.hid (HB2.out.trans (hb17.mono HB2.out.size))
  have hlt17 := hL1.lt
  have c00 := hL0.cell 0
  have c10 := hL1.cell 0
  have c11 := hL1.cell 1
  have f10 := hL1.frozen 0
  have f11 := hL1.frozen 1
  simp only [List.getElem?_toArray, List.getElem?_cons_zero, List.getElem?_cons_succ] at c00 c10 c11
  clear c01 hbA hb14 hb17 hown17 hown14 hg14 hg17 hg14s hat17 hrow hL0 hL1 HK HNW HML hgb
  by_cases hn2 : n ≤ 2
  · rw [if_pos hn2]
    have hi3 : ¬ (3 : Int) < (n : Int) + 1 := by omega
    go_wp2_with fail
    have hy1 := heap_setCell_same w17 (w.heap.size + 1) 0 _ 29 (.int .i64 f) HL1.out
    simp only [List.setIfInBounds_toArray, List.set_cons_zero] at hy1
    have hy2 := heap_setCell_same _ (w.heap.size + 1) 1 _ 29 (.slice (some ⟨g, 0, none⟩) (n + 1) cg) hy1
    simp only [List.setIfInBounds_toArray, List.set_cons_succ, List.set_cons_zero] at hy2
    have e0 := Blk.cell hy2 0
    have e1 := Blk.cell hy2 1
    simp only [List.getElem?_toArray, List.getElem?_cons_zero, List.getElem?_cons_succ] at e0 e1
    have hst : But (fun b => b = w.heap.size + 1) w17 ((w17.setCell ⟨w.heap.size + 1, 0, none⟩ (.int .i64 f)).setCell ⟨w.heap.size + 1, 1, none⟩ (.slice (some ⟨g, 0, none⟩) (n + 1) cg)) := ((But.refl (fun b => b = w.heap.size + 1) w17).set ⟨w.heap.size + 1, 0, none⟩ _ (.inl rfl)).set ⟨w.heap.size + 1, 1, none⟩ _ (.inl rfl)
    have hrw := Rds.weaker (S' := fun b => b < w.heap.size) (HROW.out.but hst (fun b e => by have e : b = w.heap.size + 1 := e; show b < w.heap.size + 2; omega)) (fun b e => by show b < w.heap.size + 2; have e : b < w.heap.size := e; omega)
    exact bodyPost_ret (v := .tuple #[.agg #[.int .i64 f, .slice (some ⟨g, 0, none⟩) (n + 1) cg], .int .i64 0]) (by simp [results, Tryz.results22, go_sem, e0, e1]) rfl ⟨⟨_, _, by show _ = Ending.returned (.tuple #[.agg #[.int .i64 f, .slice _ (ms ++ [m]).length _], .int .i64 0]); rw [List.length_append, HN.out]; rfl, hrw⟩, (HB17.out.setCell (p := ⟨w.heap.size + 1, 0, none⟩) (by simp) _).setCell (p := ⟨w.heap.size + 1, 1, none⟩) (by simp) _⟩
  · obtain rfl : n = 3 := by omega
    rw [if_neg hn2]
    have hi3 : (3 : Int) < ((3 : Nat) : Int) + 1 := by omega
    go_upto_region 5 with fail
    go_region
    go_wp2_with fail
    have hst : But (fun b => b = w.heap.size + 1) w17 (((w17.setCell ⟨w.heap.size + 1, 0, none⟩ (.int .i64 (f + 1))).setCell ⟨w.heap.size + 1, 1, none⟩ (.slice (some ⟨g, 1, none⟩) 3 (cg - 1))).drew) := (((But.refl (fun b => b = w.heap.size + 1) w17).set ⟨w.heap.size + 1, 0, none⟩ _ (.inl rfl)).set ⟨w.heap.size + 1, 1, none⟩ _ (.inl rfl)).drew
    have hrw := Rds.weaker (S' := fun b => b < w.heap.size) (HROW.out.but hst (fun b e => by have e : b = w.heap.size + 1 := e; show b < w.heap.size + 2; omega)) (fun b e => by show b < w.heap.size + 2; have e : b < w.heap.size := e; omega)
    have hrw2 := Rds.dropT (n := 1) hrw
    have hy1 := heap_setCell_same w17 (w.heap.size + 1) 0 _ 29 (.int .i64 (f + 1)) HL1.out
    simp only [List.setIfInBounds_toArray, List.set_cons_zero] at hy1
    have hy2 := heap_setCell_same _ (w.heap.size + 1) 1 _ 29 (.slice (some ⟨g, 1, none⟩) 3 (cg - 1)) hy1
    simp only [List.setIfInBounds_toArray, List.set_cons_succ, List.set_cons_zero] at hy2
    have e0 := Blk.cell hy2 0
    have e1 := Blk.cell hy2 1
    simp only [List.getElem?_toArray, List.getElem?_cons_zero, List.getElem?_cons_succ] at e0 e1
    have hdl : (ms.tail ++ [m]).length = 3 := by rw [List.length_append, List.length_tail, HN.out]; rfl
    have hdm : ((ms ++ [m]).map Value.string).drop 1 = (ms.tail ++ [m]).map Value.string := by
      rw [← List.map_drop, List.drop_append_of_le_length (by rw [HN.out]; decide), List.drop_one]
    rw [hdm] at hrw2
    exact bodyPost_ret (v := .tuple #[.agg #[.int .i64 (f + 1), .slice (some ⟨g, 1, none⟩) 3 (cg - 1)], .int .i64 0]) (by simp [results, Tryz.results22, go_sem, e0, e1]) rfl ⟨⟨_, _, by show _ = Ending.returned (.tuple #[.agg #[.int .i64 (f + 1), .slice _ (ms.tail ++ [m]).length _], .int .i64 0]); rw [hdl], hrw2⟩, ((HB17.out.setCell (p := ⟨w.heap.size + 1, 0, none⟩) (by simp) _).setCell (p := ⟨w.heap.size + 1, 1, none⟩) (by simp) _).drew⟩
end Go.Proofs
namespace Go.Proofs
open Go.RowKit Go.Shelf Sm
set_option maxRecDepth 100000 in
set_option maxHeartbeats 4000000 in
theorem Sm.refNumber_any (m : Nat) (w : World) (hm : m ≤ top) : Calls Tryz.prog 72 #[.int .i64 (m : Int)] w fun e w' => ∃ v, e = .returned v ∧ w'.ownsRow w.heap.size 5 1 v (numB m).length ((numB m).map byteCell) ∧ Below w.heap.size w w' := by
  obtain ⟨i0, hi, hz0, hz1, hz2⟩ := info_parts info5
  go_enter Tryz.func72, Tryz.ntmps72
  go_wp2
  go_loopw [0, 3] (fun vm vv wr => ∃ (ys : List (BitVec 8)) (k : Nat), vm = .int .i64 (k : Int) ∧ k ≤ m ∧ ys ++ numB k = numB m ∧ wr.ownsRow w.heap.size 5 1 vv ys.length (ys.map byteCell) ∧ ys.length + (numB k).length ≤ 9 ∧ Below w.heap.size w wr)
    (fun vm _ _ => (intOf vm).toNat)
  case atStart => exact ⟨[], m, rfl, by omega, rfl, World.ownsRow_nil _ _ _ _, by simpa using numB_len9 hm, Below.refl _ _⟩
  case round =>
    obtain ⟨ys, k, rfl, hk, hy, hown, hlen, hb⟩ := hrel
    have hsz := hb.size
    by_cases hlt : 128 ≤ k
    · have hw : wrap64 ((k : Int) / 128) = ((k / 128 : Nat) : Int) := by unfold wrap64 top at *; omega
      have hbig := numB_big hlt
      have hlb : (numB k).length = (numB (k / 128)).length + 1 := by rw [hbig, List.length_cons]
      clear hbig
      have hcell : byteCell (BitVec.ofNat 8 (128 + k % 128)) = .int .u8 (128 + (k : Int) % 128) := by
        unfold byteCell ib
        rw [ofNat_big]
        congr 1
      go_wp2_with (at_builtin; refine wpList_append_own_at _ rfl _ _ 0x38 rfl w.heap.size 5 i0 _ 1 1 Tryz.underlying56 hi hz0 hz1 hz2 rfl (by decide) _ _ _ rfl (hown.alloc _) ⟨wr.heap.size, 0, none⟩ 1 1 [.int .u8 (128 + (k : Int) % 128)] rfl rfl ?_ (by simp [Value.oneCell']) (by unfold maxLen; omega) (by omega) (by simp; omega) ?_; (exact cell_one_new _ _ _); intro v3 w3 hown3 hg3 _ hat3)
      have hb3 : Below w.heap.size w w3 := (hb.alloc hb.size _).grown hg3 (by simp; omega) (fun g e => (hown.lt g e).1)
      have hr3 : w3.ownsRow w.heap.size 5 1 v3 (ys ++ [BitVec.ofNat 8 (128 + k % 128)]).length ((ys ++ [BitVec.ofNat 8 (128 + k % 128)]).map byteCell) := by
        rw [List.length_append, List.map_append]
        show w3.ownsRow w.heap.size 5 1 v3 _ (_ ++ [byteCell (BitVec.ofNat 8 (128 + k % 128))])
        rw [hcell]
        exact hown3
      go_roundw
      case rel => exact ⟨ys ++ [BitVec.ofNat 8 (128 + k % 128)], k / 128, by rw [hw], by omega, by rw [← hy, numB_big hlt, List.append_assoc]; rfl, hr3, by simp; omega, hb3⟩
      case measure => rw [hw]; simp [intOf]; omega
    · have hln : byteCell (BitVec.ofNat 8 k) = .int .u8 (k : Int) := by unfold byteCell; rw [← low_num, Int.emod_eq_of_lt (by omega) (by omega)]
      have hsm := numB_small (n := k) (by omega)
      rw [hsm] at hy
      have hl9 : ys.length ≤ 9 := by omega
      clear hsm hlen
      go_wp2_with (at_builtin; refine wpList_append_own_at _ rfl _ _ 0x38 rfl w.heap.size 5 i0 _ 1 1 Tryz.underlying56 hi hz0 hz1 hz2 rfl (by decide) _ _ _ rfl (hown.alloc _) ⟨wr.heap.size, 0, none⟩ 1 1 [.int .u8 (k : Int)] rfl rfl ?_ (by simp [Value.oneCell']) (by unfold maxLen; omega) (by omega) (by simp; omega) ?_; (exact cell_one_new _ _ _); intro v3 w3 hown3 hg3 _ hat3)
      have hb3 : Below w.heap.size w w3 := (hb.alloc hb.size _).grown hg3 (by simp; omega) (fun g e => (hown.lt g e).1)
      go_ret
      refine ⟨v3, rfl, ?_, hb3⟩
      rw [← hy, List.length_append, List.map_append]
      show w3.ownsRow w.heap.size 5 1 v3 _ (_ ++ [byteCell (BitVec.ofNat 8 k)])
      rw [hln]
      exact hown3
/-- what the reference answers of the number with which bytes begin -/
def Sm.takeV (l : List (BitVec 8)) : Int × Int := match getN l with
  | .num m k => (m, k)
  | .bad => (0, -1)
  | .cut => (0, 0)
theorem Sm.pow128 (k : Nat) (hk : k < 8) : wrap64 (((128 ^ k : Nat) : Int) * 128) = ((128 ^ (k + 1) : Nat) : Int) := by
  have h : ∀ k : Fin 8, wrap64 (((128 ^ k.val : Nat) : Int) * 128) = ((128 ^ (k.val + 1) : Nat) : Int) := by decide +kernel
  exact h ⟨k, hk⟩
theorem Sm.step128 {a k m : Nat} {x : BitVec 8} (hk : k ≤ 8) (ha : a < 128 ^ k) (hm : m = a + 128 ^ k * (x.toNat % 128)) : wrap64 ((a : Int) + wrap64 (((128 ^ k : Nat) : Int) * (ib x % 128))) = (m : Int) := by
  have hp : 128 ^ k ≤ 128 ^ 8 := Nat.pow_le_pow_right (by decide) hk
  have h1 : 128 ^ k * (x.toNat % 128) ≤ 128 ^ 8 * 127 := Nat.mul_le_mul hp (by omega)
  have e : ((128 ^ k : Nat) : Int) * (ib x % 128) = ((128 ^ k * (x.toNat % 128) : Nat) : Int) := by unfold ib; simp
  rw [e, hm]
  generalize 128 ^ k * (x.toNat % 128) = y at *
  generalize 128 ^ k = p at *
  unfold wrap64
  omega
set_option maxRecDepth 100000 in
set_option maxHeartbeats 8000000 in
theorem Sm.refTake_any (l : List (BitVec 8)) (n c B : Nat) (A : Option Addr) (w : World) (hn : Hid (l.length = n)) (hm : n ≤ 9223372036854775807) (hr : Rd w B A l) :
    Calls Tryz.prog 68 #[.slice A n c] w fun e w' => e = .returned (.tuple #[.int .i64 (takeV l).1, .int .i64 (takeV l).2]) ∧ w = w' := by
  go_enter Tryz.func68, Tryz.ntmps68
  go_wp2
  go_loopw [4, 5, 6] (fun vn vu vi wr => ∃ k : Nat, k ≤ 9 ∧ k ≤ n ∧ vi = .int .i64 (k : Int) ∧ vn = .int .i64 (numV (l.take k) : Int) ∧ vu = .int .i64 ((128 ^ (min k 8) : Nat) : Int) ∧ Hid (k ≤ lead l) ∧ w = wr) (fun _ _ vi _ => 9 - (intOf vi).toNat)
  case atStart => exact ⟨0, by omega, by omega, rfl, by simp [numV], rfl, Lib.hid (Nat.zero_le _), rfl⟩
  case round =>
    obtain ⟨k, h9, hkn, rfl, rfl, rfl, HL, rfl⟩ := hrel
    have hlen := hn.out
    by_cases hk9 : k < 9
    · by_cases hlt : k < n
      · obtain ⟨b, off, rfl, hbB, hcx⟩ := hr.at_ (k := k) (by omega)
        obtain ⟨x, hx⟩ : ∃ x, l[k]'(by omega) = x := ⟨_, rfl⟩
        rw [hx] at hcx
        have hxl : l[k]? = some x := by rw [← hx]; exact List.getElem?_eq_getElem (by omega)
        have hmin : min k 8 = k := by omega
        rw [hmin]
        obtain ⟨m, hmm⟩ : ∃ m, numV (l.take (k + 1)) = m := ⟨_, rfl⟩
        have htl : (l.take k).length = k := by rw [List.length_take]; omega
        have hst := step128 (a := numV (l.take k)) (k := k) (m := m) (x := x) (by omega) (by have := numV_lt (l.take k); rwa [htl] at this) (by rw [← hmm, take_succ_get hxl])
        have HX := Lib.hid hxl
        have HM := Lib.hid hmm
        have i0 := ib_lo x
        have i1 := ib_hi x
        generalize hu : ((128 ^ k : Nat) : Int) = u at hst ⊢
        have HU := Lib.hid hu
        generalize hnn : ((numV (l.take k) : Nat) : Int) = nn at hst ⊢
        clear hlen hx hxl hmm htl
        by_cases hge : (128 : Int) ≤ ib x
        · have hl1 := Lib.hid (lead_more l k x HL.out HX.out (by unfold ib at hge; omega))
          clear hnn
          by_cases h8 : k < 8
          · have hpw : wrap64 (u * 128) = ((128 ^ (k + 1) : Nat) : Int) := by rw [← hu]; exact pow128 k h8
            generalize hv : ((128 ^ (k + 1) : Nat) : Int) = v at hpw
            have HV := Lib.hid hv
            clear hu hv
            go_wp2
            go_roundw
            case rel => exact ⟨k + 1, by omega, by omega, by go_num, by rw [HM.out, hst], by rw [show min (k + 1) 8 = k + 1 by omega, HV.out, hpw], hl1, trivial⟩
            case measure => simp [intOf]; omega
          · clear hu
            go_wp2
            go_roundw
            case rel => exact ⟨k + 1, by omega, by omega, by go_num, by rw [HM.out, hst], by rw [show min (k + 1) 8 = k by omega, HU.out], hl1, trivial⟩
            case measure => simp [intOf]; omega
        · have hlead := Lib.hid (lead_eq l k x HL.out HX.out (by unfold ib at hge; omega))
          clear hu hnn
          have fin : ∀ v e : Int, takeV l = (v, e) → Ending.returned (.tuple #[.int .i64 v, .int .i64 e]) = .returned (.tuple #[.int .i64 (takeV l).1, .int .i64 (takeV l).2]) := fun v e h => by rw [h]
          by_cases hz : 0 < k ∧ ib x = 0
          · obtain ⟨z1, z2⟩ := hz
            have hT : takeV l = (0, -1) := by unfold takeV; rw [getN_zero hlead.out z1 hk9 HX.out (by unfold ib at z2; omega)]
            have z1' : (0 : Int) < (k : Int) := by omega
            clear hst
            go_wp2
            go_ret2
            exact ⟨fin _ _ hT, rfl⟩
          · have hx0 : ¬ (0 < k) ∨ ¬ ib x = 0 := by
              by_cases h : 0 < k
              · exact .inr fun h2 => hz ⟨h, h2⟩
              · exact .inl h
            by_cases hto : (4611686018427387904 : Int) < (m : Int)
            · have hT : takeV l = (0, -1) := by unfold takeV; rw [getN_over hlead.out hk9 HX.out (by rw [HM.out]; unfold top; omega)]
              have FF := Lib.hid (fin _ _ hT)
              clear fin hT hz
              rcases hx0 with hx0 | hx0
              · obtain rfl : k = 0 := by omega
                rw [Nat.add_zero] at hcx
                go_wp2
                go_ret2
                exact ⟨FF.out, rfl⟩
              · go_wp2
                all_goals (go_ret2; exact ⟨FF.out, rfl⟩)
            · have hT : takeV l = ((m : Int), (k : Int) + 1) := by
                unfold takeV
                rw [getN_num hlead.out hk9 HX.out (fun h => hz ⟨h.1, by unfold ib; omega⟩) (by rw [HM.out]; unfold top; omega), HM.out]
                rfl
              have FF := Lib.hid (fin _ _ hT)
              clear fin hT hz
              rcases hx0 with hx0 | hx0
              · obtain rfl : k = 0 := by omega
                rw [Nat.add_zero] at hcx
                go_wp2
                go_ret2
                exact ⟨FF.out, rfl⟩
              · go_wp2
                all_goals (go_ret2; exact ⟨FF.out, rfl⟩)
      · have h2 := HL.out
        have h3 := lead_le l
        have hT : takeV l = (0, 0) := by unfold takeV; rw [getN_cut (by omega) (by omega)]
        go_wp2
        all_goals (go_ret2; exact ⟨by first | rfl | (rw [hT]; rfl), rfl⟩)
    · have h2 := HL.out
      have hT : takeV l = (0, -1) := by unfold takeV; rw [getN_long (by omega)]
      by_cases hkn' : (k : Int) < (n : Int)
      · go_wp2
        go_ret2
        exact ⟨by first | rfl | (rw [hT]; rfl), rfl⟩
      · go_wp2
        go_ret2
        exact ⟨by first | rfl | (rw [hT]; rfl), rfl⟩
def Sm.rdV (A : Option Addr) (n c : Nat) (e : Int) : Value := .agg #[.slice A n c, .int .i64 e]
/-- a reference reader of these bytes -/
structure Sm.RefAt (w : World) (A : Option Addr) (n c : Nat) (l : List (BitVec 8)) : Prop where
  len : l.length = n
  room : n ≤ c
  rd : Rd w w.heap.size A l
theorem Sm.RefAt.below {w w' : World} {A : Option Addr} {n c : Nat} {l : List (BitVec 8)} (h : RefAt w A n c l) (hb : Below w.heap.size w w') : RefAt w' A n c l := ⟨h.len, h.room, (h.rd.below hb).more hb.size⟩
def Sm.RefPost (w : World) (l' : List (BitVec 8)) (e' : Int) (out : List Value) (x : Ending) (w' : World) : Prop :=
  (∃ A' n' c', x = .returned (.tuple (rdV A' n' c' e' :: out).toArray) ∧ RefAt w' A' n' c' l') ∧ Below w.heap.size w w'
theorem Sm.RefAt.nil (w : World) : RefAt w none 0 0 [] := ⟨rfl, Nat.le_refl _, Rd.nil⟩
theorem Sm.alloc2 (w : World) (a b : Obj) : Below w.heap.size w ((w.alloc a).alloc b) := ((Below.refl _ w).alloc (Nat.le_refl _) _).alloc (by simp) _
set_option maxRecDepth 100000 in
set_option maxHeartbeats 4000000 in
theorem Sm.refFail_any (A : Option Addr) (n c : Nat) (e : Int) (w : World) : Calls Tryz.prog 69 #[.agg #[.slice A n c, .int .i64 e]] w fun x w' => x = .returned (.tuple #[.agg #[.slice none 0 0, .int .i64 120], .int .i64 120]) ∧ Below w.heap.size w w' := by
  go_enter Tryz.func69, Tryz.ntmps69
  go_wp2
  exact bodyPost_ret (v := .tuple #[.agg #[.slice none 0 0, .int .i64 120], .int .i64 120]) (by simp [results, Tryz.results69, go_sem]) rfl ⟨rfl, alloc2 _ _ _⟩
/-- the last of two blocks -/
theorem Sm.two_cell (w : World) (a : Obj) (x y : Value) (T : TypeId) : ((w.alloc a).alloc (.cells #[x, y] T)).cell? ⟨w.heap.size + 1, 0, none⟩ = some x ∧ ((w.alloc a).alloc (.cells #[x, y] T)).cell? ⟨w.heap.size + 1, 1, none⟩ = some y := by
  have h0 := World.cell?_alloc_new (w := w.alloc a) #[x, y] T 0
  have h1 := World.cell?_alloc_new (w := w.alloc a) #[x, y] T 1
  rw [World.size_alloc] at h0 h1
  exact ⟨h0, h1⟩
set_option maxRecDepth 100000 in
set_option maxHeartbeats 8000000 in
theorem Sm.refNum_err (A : Option Addr) (n c : Nat) (most : Int) (w : World) : Calls Tryz.prog 43 #[rdV A n c 120, .int .i64 most] w fun x w' => x = .returned (.tuple #[rdV A n c 120, .int .i64 0, .int .i64 120]) ∧ Below w.heap.size w w' := by
  unfold rdV
  go_enter Tryz.func43, Tryz.ntmps43
  go_wp2
  go_region
  all_goals go_wp2
  all_goals exact bodyPost_ret (v := .tuple #[.agg #[.slice A n c, .int .i64 120], .int .i64 0, .int .i64 120]) (by simp [results, Tryz.results43, go_sem]) rfl ⟨rfl, (alloc2 _ _ _).drew⟩
set_option maxRecDepth 100000 in
set_option maxHeartbeats 8000000 in
theorem Sm.refNum_arg (A : Option Addr) (n c : Nat) (most : Int) (w : World) (h : most < 0) : Calls Tryz.prog 43 #[rdV A n c 0, .int .i64 most] w fun x w' => x = .returned (.tuple #[rdV A n c 0, .int .i64 0, .int .i64 2]) ∧ Below w.heap.size w w' := by
  unfold rdV
  go_enter Tryz.func43, Tryz.ntmps43
  go_wp2
  exact bodyPost_ret (v := .tuple #[.agg #[.slice A n c, .int .i64 0], .int .i64 0, .int .i64 2]) (by simp [results, Tryz.results43, go_sem]) rfl ⟨rfl, alloc2 _ _ _⟩
set_option maxRecDepth 100000 in
set_option maxHeartbeats 8000000 in
theorem Sm.refNum_bad (A : Option Addr) (n c : Nat) (l : List (BitVec 8)) (most : Int) (w : World) (h : RefAt w A n c l) (hm : n ≤ 9223372036854775807) (h0 : ¬ most < 0) (hb : NoNum l most) : Calls Tryz.prog 43 #[rdV A n c 0, .int .i64 most] w fun x w' => x = .returned (.tuple #[rdV none 0 0 120, .int .i64 0, .int .i64 120]) ∧ Below w.heap.size w w' := by
  have hb2 := alloc2 w (.cells #[.slice A n c, .int .i64 0] 0x4f) (.cells #[.slice none 0 0, .int .i64 0] 0x4f)
  have hct := refTake_any l n c w.heap.size A _ (Lib.hid h.len) hm (h.rd.below hb2)
  have hcase : (∃ e : Int, e ≤ 0 ∧ takeV l = (0, e)) ∨ ∃ m k : Nat, takeV l = ((m : Int), (k : Int)) ∧ 0 < k ∧ most < (m : Int) := by
    unfold takeV
    rcases hg : getN l with _ | _ | ⟨m, k⟩
    · exact .inl ⟨0, by omega, rfl⟩
    · exact .inl ⟨-1, by omega, rfl⟩
    · refine .inr ⟨m, k, rfl, (getN_form hg).2.1, ?_⟩
      have := hb m k hg
      omega
  have hs2 : ((w.alloc (.cells #[.slice A n c, .int .i64 0] 0x4f)).alloc (.cells #[.slice none 0 0, .int .i64 0] 0x4f)).heap.size = w.heap.size + 1 + 1 := by simp
  have hnew : ((w.alloc (.cells #[.slice A n c, .int .i64 0] 0x4f)).alloc (.cells #[.slice none 0 0, .int .i64 0] 0x4f)).heap[w.heap.size + 1]? = some (.cells #[.slice none 0 0, .int .i64 0] 0x4f (0, 0)) := by
    have := World.alloc_heap_new (w.alloc (.cells #[.slice A n c, .int .i64 0] 0x4f)) (.cells #[.slice none 0 0, .int .i64 0] 0x4f)
    rwa [World.size_alloc] at this
  have hfail := (refFail_any A n c 0 ((w.alloc (.cells #[.slice A n c, .int .i64 0] 0x4f)).alloc (.cells #[.slice none 0 0, .int .i64 0] 0x4f))).mono (R' := fun x w3 => x = .returned (.tuple #[.agg #[.slice none 0 0, .int .i64 120], .int .i64 120]) ∧ Below w.heap.size w w3 ∧ w3.heap[w.heap.size + 1]? = some (.cells #[.slice none 0 0, .int .i64 0] 0x4f (0, 0)) ∧ w.heap.size + 1 < w3.heap.size ∧
      w3.cell? ⟨w.heap.size + 1, 0, none⟩ = some (.slice none 0 0) ∧ w3.cell? ⟨w.heap.size + 1, 1, none⟩ = some (.int .i64 0) ∧ w3.frozen? ⟨w.heap.size + 1, 0, none⟩ = false ∧ w3.frozen? ⟨w.heap.size + 1, 1, none⟩ = false) (fun x w3 ⟨hx, hb3⟩ => by
    have h3 := (hb3.block (w.heap.size + 1) (by omega)).trans hnew
    exact ⟨hx, hb2.trans (hb3.mono hb2.size), h3, (Array.getElem?_eq_some_iff.1 h3).1, cell_of_heap h3 0, cell_of_heap h3 1, frozen_of_heap h3 0, frozen_of_heap h3 1⟩)
  have hfin : ∀ w3 : World, w3.heap[w.heap.size + 1]? = some (.cells #[.slice none 0 0, .int .i64 0] 0x4f (0, 0)) → w.heap.size + 1 < w3.heap.size → Below w.heap.size w w3 → ∀ o : Obj, (((w3.setCell ⟨w.heap.size + 1, 0, none⟩ (.slice none 0 0)).setCell ⟨w.heap.size + 1, 1, none⟩ (.int .i64 120)).alloc o).cell? ⟨w.heap.size + 1, 0, none⟩ = some (.slice none 0 0) ∧ (((w3.setCell ⟨w.heap.size + 1, 0, none⟩ (.slice none 0 0)).setCell ⟨w.heap.size + 1, 1, none⟩ (.int .i64 120)).alloc o).cell? ⟨w.heap.size + 1, 1, none⟩ = some (.int .i64 120) ∧ Below w.heap.size w (((w3.setCell ⟨w.heap.size + 1, 0, none⟩ (.slice none 0 0)).setCell ⟨w.heap.size + 1, 1, none⟩ (.int .i64 120)).alloc o) := fun w3 h3 hlt hb o => by
    have h5 := heap_setCells (i := 1) (u := .int .i64 120) (heap_setCells (i := 0) (u := .slice none 0 0) h3)
    have h6 := (Below.heap_alloc _ o _ (by simp; exact hlt)).trans h5
    have hb6 := (hb.setCell (p := ⟨w.heap.size + 1, 0, none⟩) (by simp) (.slice none 0 0)).setCell (p := ⟨w.heap.size + 1, 1, none⟩) (by simp) (.int .i64 120)
    exact ⟨cell_of_heap h6 0, cell_of_heap h6 1, hb6.alloc hb6.size o⟩
  unfold rdV
  rcases hcase with ⟨e, he, hT⟩ | ⟨m, k, hT, hk, hmo⟩
  · rw [hT] at hct
    go_enter Tryz.func43, Tryz.ntmps43
    go_wp2_with (first
      | (go_at_call 68; (with_reducible refine hct.mono ?_); rintro e w2 ⟨rfl, rfl⟩)
      | (go_at_call 69; (with_reducible refine hfail.mono ?_); rintro e w3 ⟨rfl, hb3, h3, hlt, c0, c1, f0, f1⟩; have hg0 := Nat.ne_of_gt hlt))
    obtain ⟨z0, z1, z2⟩ := hfin w3 h3 hlt hb3 (.cells #[.slice none 0 0, .int .i64 120] 0x4f)
    exact bodyPost_ret (v := .tuple #[.agg #[.slice none 0 0, .int .i64 120], .int .i64 0, .int .i64 120]) (by simp [results, Tryz.results43, go_sem, z0, z1]) rfl ⟨rfl, z2⟩
  · rw [hT] at hct
    go_enter Tryz.func43, Tryz.ntmps43
    go_wp2_with (first
      | (go_at_call 68; (with_reducible refine hct.mono ?_); rintro e w2 ⟨rfl, rfl⟩)
      | (go_at_call 69; (with_reducible refine hfail.mono ?_); rintro e w3 ⟨rfl, hb3, h3, hlt, c0, c1, f0, f1⟩; have hg0 := Nat.ne_of_gt hlt))
    obtain ⟨z0, z1, z2⟩ := hfin w3 h3 hlt hb3 (.cells #[.slice none 0 0, .int .i64 120] 0x4f)
    exact bodyPost_ret (v := .tuple #[.agg #[.slice none 0 0, .int .i64 120], .int .i64 0, .int .i64 120]) (by simp [results, Tryz.results43, go_sem, z0, z1]) rfl ⟨rfl, z2⟩
set_option maxRecDepth 100000 in
set_option maxHeartbeats 8000000 in
theorem Sm.refNum_ok (A : Option Addr) (n c : Nat) (l : List (BitVec 8)) (most : Int) (m k : Nat) (w : World) (h : RefAt w A n c l) (hm : n ≤ 9223372036854775807) (h0 : ¬ most < 0) (hg : getN l = .num m k) (hmo : (m : Int) ≤ most) : Calls Tryz.prog 43 #[rdV A n c 0, .int .i64 most] w fun x w' => (∃ A', x = .returned (.tuple #[rdV A' (n - k) (c - k) 0, .int .i64 (m : Int), .int .i64 0]) ∧ RefAt w' A' (n - k) (c - k) (l.drop k)) ∧ Below w.heap.size w w' := by
  have hb2 := alloc2 w (.cells #[.slice A n c, .int .i64 0] 0x4f) (.cells #[.slice none 0 0, .int .i64 0] 0x4f)
  have hct := refTake_any l n c w.heap.size A _ (Lib.hid h.len) hm (h.rd.below hb2)
  have hT : takeV l = ((m : Int), (k : Int)) := by unfold takeV; rw [hg]
  rw [hT] at hct
  obtain ⟨_, hk0, hk9, hkl⟩ := getN_form hg
  have hlen := h.len
  have hroom := h.room
  rw [hlen] at hkl
  obtain ⟨b, off, rfl, hbl, _⟩ := h.rd (by omega)
  have hb3 : ∀ x : Value, Below w.heap.size w ((w.alloc (.cells #[.slice (some ⟨b, off, none⟩) n c, .int .i64 0] 0x4f)).alloc (.cells #[x, .int .i64 0] 0x4f)) := fun x => alloc2 _ _ _
  have x1 : (0 : Int) ≤ (k : Int) := by omega
  have x2 : (k : Int) ≤ (n : Int) := by omega
  have x3 : (n : Int) ≤ (c : Int) := by omega
  unfold rdV
  by_cases hkc : k = c
  · have hkn : k = n := by omega
    subst hkc
    subst hkn
    have hdrop : l.drop k = [] := List.drop_eq_nil_of_le (by omega)
    go_enter Tryz.func43, Tryz.ntmps43
    go_wp2_with (go_at_call 68; (with_reducible refine hct.mono ?_); rintro e w2 ⟨rfl, rfl⟩)
    refine bodyPost_ret (v := .tuple #[.agg #[.slice (some ⟨b, off, none⟩) 0 0, .int .i64 0], .int .i64 (m : Int), .int .i64 0]) (by simp [results, Tryz.results43, go_sem]) rfl ⟨⟨some ⟨b, off, none⟩, by rw [Nat.sub_self], ?_⟩, hb3 _⟩
    rw [hdrop, Nat.sub_self]
    exact ⟨rfl, Nat.le_refl _, Rd.nil⟩
  · go_enter Tryz.func43, Tryz.ntmps43
    go_wp2_with (go_at_call 68; (with_reducible refine hct.mono ?_); rintro e w2 ⟨rfl, rfl⟩)
    refine bodyPost_ret (v := .tuple #[.agg #[.slice (some ⟨b, off + k, none⟩) (n - k) (c - k), .int .i64 0], .int .i64 (m : Int), .int .i64 0]) (by simp [results, Tryz.results43, go_sem]) rfl ⟨⟨some ⟨b, off + k, none⟩, rfl, ?_⟩, hb3 _⟩
    exact ⟨by rw [List.length_drop, hlen], by omega, ((h.rd.drop k).below (hb3 _)).more (hb3 _).size⟩
/-- a number that is asked for -/
theorem Sm.refNum_any (A : Option Addr) (n c : Nat) (l : List (BitVec 8)) (most : Int) (w : World) (h : RefAt w A n c l) (hm : n ≤ 9223372036854775807) : Calls Tryz.prog 43 #[rdV A n c 0, .int .i64 most] w fun x w' =>
    (∃ A' n' c', x = .returned (.tuple #[rdV A' n' c' (numS l 0 most).2.1, .int .i64 (numS l 0 most).2.2.1, .int .i64 (numS l 0 most).2.2.2]) ∧ RefAt w' A' n' c' (numS l 0 most).1) ∧ Below w.heap.size w w' := by
  by_cases h0 : most < 0
  · have e1 : numS l 0 most = (l, 0, 0, 2) := by unfold numS; rw [if_neg (by simp), if_pos h0]
    rw [e1]
    refine (refNum_arg A n c most w h0).mono ?_
    rintro x w' ⟨rfl, hb⟩
    exact ⟨⟨A, n, c, rfl, h.below hb⟩, hb⟩
  · rcases num_ways l most with ⟨m, k, hg, hmo⟩ | hbad
    · rw [numS_ok h0 hg hmo]
      refine (refNum_ok A n c l most m k w h hm h0 hg hmo).mono ?_
      rintro x w' ⟨⟨A', rfl, hr⟩, hb⟩
      exact ⟨⟨A', _, _, rfl, hr⟩, hb⟩
    · rw [numS_bad h0 hbad]
      refine (refNum_bad A n c l most w h hm h0 hbad).mono ?_
      rintro x w' ⟨rfl, hb⟩
      exact ⟨⟨none, 0, 0, rfl, RefAt.nil _⟩, hb⟩
end Go.Proofs
namespace Go.Proofs
open Go.RowKit Sm
set_option maxHeartbeats 400000 in
theorem Sm.turned_any (x : BitVec 32) (n : Nat) (hn : n ≤ 32) (w : World) : Calls Tryz.prog 122 #[.int .u32 (iv x), .int .i64 (n : Int)] w fun e w' => e = .returned (.int .u32 (iv (rotN n x))) ∧ w = w' := by
  go_enter Tryz.func122, Tryz.ntmps122
  go_wp2
  go_loop [0, 5] (fun v i => ∃ k : Nat, k ≤ n ∧ i = .int .i64 (k : Int) ∧ v = .int .u32 (iv (rotN k x))) (fun _ i => n - (intOf i).toNat)
  case atStart => exact ⟨0, Nat.zero_le _, rfl, rfl⟩
  case round =>
    obtain ⟨k, hk, rfl, rfl⟩ := hrel
    obtain ⟨y, hy⟩ : ∃ y, rotN k x = y := ⟨_, rfl⟩
    have h0 := iv_lo y
    have h1 := iv_hi y
    have hr := rot1_num y
    rw [hy]
    by_cases hlt : k < n
    · have HY := Lib.hid hy
      have HR := Lib.hid hr
      clear hy hr
      go_wp2
      go_round
      case rel =>
        refine ⟨k + 1, by omega, by go_num, ?_⟩
        rw [rotN, HY.out, ← HR.out]
      case measure => simp [intOf]; omega
    · obtain rfl : k = n := by omega
      have HY := Lib.hid hy
      clear hy hr
      go_wp2
      go_ret
      exact ⟨ret_u32 (by rw [HY.out]), rfl⟩
theorem Sm.turned16 (x : BitVec 32) (w : World) : Calls Tryz.prog 122 #[.int .u32 (iv x), .int .i64 16] w fun e w' => e = .returned (.int .u32 (iv (rotN 16 x))) ∧ w = w' := turned_any x 16 (by decide) w
theorem Sm.turned12 (x : BitVec 32) (w : World) : Calls Tryz.prog 122 #[.int .u32 (iv x), .int .i64 12] w fun e w' => e = .returned (.int .u32 (iv (rotN 12 x))) ∧ w = w' := turned_any x 12 (by decide) w
theorem Sm.turned8 (x : BitVec 32) (w : World) : Calls Tryz.prog 122 #[.int .u32 (iv x), .int .i64 8] w fun e w' => e = .returned (.int .u32 (iv (rotN 8 x))) ∧ w = w' := turned_any x 8 (by decide) w
theorem Sm.turned7 (x : BitVec 32) (w : World) : Calls Tryz.prog 122 #[.int .u32 (iv x), .int .i64 7] w fun e w' => e = .returned (.int .u32 (iv (rotN 7 x))) ∧ w = w' := turned_any x 7 (by decide) w
set_option maxRecDepth 100000 in
set_option maxHeartbeats 2000000 in
theorem Sm.refMix_any (q : Q4) (x y : BitVec 32) (w : World) : Calls Tryz.prog 119 #[.agg q.cells, .int .u32 (iv x), .int .u32 (iv y)] w fun e w' => e = .returned (.agg (mixS q x y).cells) ∧ Below w.heap.size w w' := by
  obtain ⟨p, hp⟩ : ∃ p, halfS q x 16 12 = p := ⟨_, rfl⟩
  obtain ⟨r, hr⟩ : ∃ r, halfS p y 8 7 = r := ⟨_, rfl⟩
  have hm : mixS q x y = r := by unfold mixS; rw [hp, hr]
  have e1 := iv_add_wrap q.a q.b
  have e2 : IntKind.u32.wrap (iv (q.a + q.b) + iv x) = iv p.a := by rw [iv_add_wrap, BitVec.add_assoc, ← hp]; rfl
  have e3 := bits_xor q.d p.a
  have e4 : iv (rotN 16 (q.d ^^^ p.a)) = iv p.d := by rw [← hp]; rfl
  have e5 : IntKind.u32.wrap (iv q.c + iv p.d) = iv p.c := by rw [iv_add_wrap, ← hp]; rfl
  have e6 := bits_xor q.b p.c
  have e7 : iv (rotN 12 (q.b ^^^ p.c)) = iv p.b := by rw [← hp]; rfl
  have g1 := iv_add_wrap p.a p.b
  have g2 : IntKind.u32.wrap (iv (p.a + p.b) + iv y) = iv r.a := by rw [iv_add_wrap, BitVec.add_assoc, ← hr]; rfl
  have g3 := bits_xor p.d r.a
  have g4 : iv (rotN 8 (p.d ^^^ r.a)) = iv r.d := by rw [← hr]; rfl
  have g5 : IntKind.u32.wrap (iv p.c + iv r.d) = iv r.c := by rw [iv_add_wrap, ← hr]; rfl
  have g6 := bits_xor p.b r.c
  have g7 : iv (rotN 7 (p.b ^^^ r.c)) = iv r.b := by rw [← hr]; rfl
  rw [hm]
  clear hm hp hr
  unfold Q4.cells
  go_enter Tryz.func119, Tryz.ntmps119
  go_wp2
  go_quiet (fail)
  obtain ⟨W1, hW1⟩ : ∃ W1, ((w.alloc (.cells #[.int .u32 (iv q.a), .int .u32 (iv q.b), .int .u32 (iv q.c), .int .u32 (iv q.d)] 0xbc)).alloc (.cells #[.int .u32 0, .int .u32 0, .int .u32 0, .int .u32 0] 0xbc)).drewN nq = W1 := ⟨_, rfl⟩
  have hb0 : Below w.heap.size w W1 := by
    have := ((Below.refl _ w).alloc (Nat.le_refl _) (.cells #[.int .u32 (iv q.a), .int .u32 (iv q.b), .int .u32 (iv q.c), .int .u32 (iv q.d)] 0xbc)).alloc (by simp) (.cells #[.int .u32 0, .int .u32 0, .int .u32 0, .int .u32 0] 0xbc)
    rw [← hW1]
    exact ⟨this.os, this.tape, this.output, this.size, this.block⟩
  have hr0 : W1.heap[w.heap.size + 1]? = some (.cells #[.int .u32 0, .int .u32 0, .int .u32 0, .int .u32 0] 0xbc (0, 0)) := by
    have := World.alloc_heap_new (w.alloc (.cells #[.int .u32 (iv q.a), .int .u32 (iv q.b), .int .u32 (iv q.c), .int .u32 (iv q.d)] 0xbc)) (.cells #[.int .u32 0, .int .u32 0, .int .u32 0, .int .u32 0] 0xbc)
    rw [World.size_alloc] at this
    rw [← hW1]
    exact this
  rw [hW1]
  have r0 := cell_of_row _ _ 0 _ _ _ hr0
  have r1 := cell_of_row _ _ 1 _ _ _ hr0
  have r2 := cell_of_row _ _ 2 _ _ _ hr0
  have r3 := cell_of_row _ _ 3 _ _ _ hr0
  have f0 := frozen_of_row _ _ 0 _ _ hr0
  have f1 := frozen_of_row _ _ 1 _ _ hr0
  have f2 := frozen_of_row _ _ 2 _ _ hr0
  have f3 := frozen_of_row _ _ 3 _ _ hr0
  simp only [List.getElem?_toArray, List.getElem?_cons_zero, List.getElem?_cons_succ] at r0 r1 r2 r3
  have HR0 := Lib.hid hr0
  clear hr0 hW1
  go_wp2_with (first
    | (go_at_call 122; (with_reducible refine (turned16 _ _).mono ?_); rintro e w' ⟨rfl, rfl⟩)
    | (go_at_call 122; (with_reducible refine (turned12 _ _).mono ?_); rintro e w' ⟨rfl, rfl⟩)
    | (go_at_call 122; (with_reducible refine (turned8 _ _).mono ?_); rintro e w' ⟨rfl, rfl⟩)
    | (go_at_call 122; (with_reducible refine (turned7 _ _).mono ?_); rintro e w' ⟨rfl, rfl⟩))
  refine bodyPost_ret (results_cell_row rfl _ _ (w.heap.size + 1) 0xbc _ (0, 0) _ rfl (row4_set' _ _ _ _ HR0.out) Tryz.underlying188 rfl (by kernel_rfl)) rfl ⟨rfl, ?_⟩
  exact (((hb0.setCell (p := ⟨w.heap.size + 1, 0, none⟩) (by simp) _).setCell (p := ⟨w.heap.size + 1, 1, none⟩) (by simp) _).setCell (p := ⟨w.heap.size + 1, 2, none⟩) (by simp) _).setCell (p := ⟨w.heap.size + 1, 3, none⟩) (by simp) _
set_option maxRecDepth 100000 in
set_option maxHeartbeats 2000000 in
theorem Sm.first_any (w : World) : Calls Tryz.prog 112 #[] w fun e w' => e = .returned (.agg (wvs beginL)) ∧ Below w.heap.size w w' := by
  go_enter Tryz.func112, Tryz.ntmps112
  go_wp2_with (refine wpList_store_row rfl 0xa4 _ _ rfl w.heap.size (wvs beginL) rfl rfl 0xa4 (wvs (List.replicate 8 0#32)) (World.alloc_heap_new w _) i27b rfl (wvs_one beginL) ?_)
  rw [z8_eq]
  refine bodyPost_ret (results_cell_row rfl _ _ w.heap.size 0xa4 (wvs beginL) (0, 0) _ rfl (setRow_heap _ _ _ _ _ _ (World.alloc_heap_new w _)) Tryz.underlying164 rfl i27b) rfl ⟨rfl, ?_⟩
  exact below_setRow ((Below.refl _ w).alloc (Nat.le_refl _) _) (Nat.le_refl _) _
theorem Sm.i70_0 : (Tryz.prog.info? 0xb8).map (·.size) = some (nv (ord 0)).size := by kernel_rfl
set_option maxRecDepth 100000 in
set_option maxHeartbeats 2000000 in
theorem Sm.order_0 (w : World) : Calls Tryz.prog 117 #[.int .i64 0] w fun e w' => e = .returned (.agg (nv (ord 0))) ∧ Below w.heap.size w w' := by
  go_enter Tryz.func117, Tryz.ntmps117
  go_wp2_with (refine wpList_store_row rfl 0xb8 _ _ rfl w.heap.size (nv (ord 0)) rfl rfl 0xb8 (nv (List.replicate 16 0)) (World.alloc_heap_new w _) i70_0 rfl (nv_one _) ?_)
  rw [eqz16]
  refine bodyPost_ret (results_cell_row rfl _ _ w.heap.size 0xb8 (nv (ord 0)) (0, 0) _ rfl (setRow_heap _ _ _ _ _ _ (World.alloc_heap_new w _)) Tryz.underlying184 rfl i70_0) rfl ⟨rfl, ?_⟩
  exact below_setRow ((Below.refl _ w).alloc (Nat.le_refl _) _) (Nat.le_refl _) _
theorem Sm.i70_1 : (Tryz.prog.info? 0xb8).map (·.size) = some (nv (ord 1)).size := by kernel_rfl
set_option maxRecDepth 100000 in
set_option maxHeartbeats 2000000 in
theorem Sm.order_1 (w : World) : Calls Tryz.prog 117 #[.int .i64 1] w fun e w' => e = .returned (.agg (nv (ord 1))) ∧ Below w.heap.size w w' := by
  go_enter Tryz.func117, Tryz.ntmps117
  go_wp2_with (refine wpList_store_row rfl 0xb8 _ _ rfl w.heap.size (nv (ord 1)) rfl rfl 0xb8 (nv (List.replicate 16 0)) (World.alloc_heap_new w _) i70_1 rfl (nv_one _) ?_)
  rw [eqz16]
  refine bodyPost_ret (results_cell_row rfl _ _ w.heap.size 0xb8 (nv (ord 1)) (0, 0) _ rfl (setRow_heap _ _ _ _ _ _ (World.alloc_heap_new w _)) Tryz.underlying184 rfl i70_1) rfl ⟨rfl, ?_⟩
  exact below_setRow ((Below.refl _ w).alloc (Nat.le_refl _) _) (Nat.le_refl _) _
theorem Sm.i70_2 : (Tryz.prog.info? 0xb8).map (·.size) = some (nv (ord 2)).size := by kernel_rfl
set_option maxRecDepth 100000 in
set_option maxHeartbeats 2000000 in
theorem Sm.order_2 (w : World) : Calls Tryz.prog 117 #[.int .i64 2] w fun e w' => e = .returned (.agg (nv (ord 2))) ∧ Below w.heap.size w w' := by
  go_enter Tryz.func117, Tryz.ntmps117
  go_wp2_with (refine wpList_store_row rfl 0xb8 _ _ rfl w.heap.size (nv (ord 2)) rfl rfl 0xb8 (nv (List.replicate 16 0)) (World.alloc_heap_new w _) i70_2 rfl (nv_one _) ?_)
  rw [eqz16]
  refine bodyPost_ret (results_cell_row rfl _ _ w.heap.size 0xb8 (nv (ord 2)) (0, 0) _ rfl (setRow_heap _ _ _ _ _ _ (World.alloc_heap_new w _)) Tryz.underlying184 rfl i70_2) rfl ⟨rfl, ?_⟩
  exact below_setRow ((Below.refl _ w).alloc (Nat.le_refl _) _) (Nat.le_refl _) _
theorem Sm.i70_3 : (Tryz.prog.info? 0xb8).map (·.size) = some (nv (ord 3)).size := by kernel_rfl
set_option maxRecDepth 100000 in
set_option maxHeartbeats 2000000 in
theorem Sm.order_3 (w : World) : Calls Tryz.prog 117 #[.int .i64 3] w fun e w' => e = .returned (.agg (nv (ord 3))) ∧ Below w.heap.size w w' := by
  go_enter Tryz.func117, Tryz.ntmps117
  go_wp2_with (refine wpList_store_row rfl 0xb8 _ _ rfl w.heap.size (nv (ord 3)) rfl rfl 0xb8 (nv (List.replicate 16 0)) (World.alloc_heap_new w _) i70_3 rfl (nv_one _) ?_)
  rw [eqz16]
  refine bodyPost_ret (results_cell_row rfl _ _ w.heap.size 0xb8 (nv (ord 3)) (0, 0) _ rfl (setRow_heap _ _ _ _ _ _ (World.alloc_heap_new w _)) Tryz.underlying184 rfl i70_3) rfl ⟨rfl, ?_⟩
  exact below_setRow ((Below.refl _ w).alloc (Nat.le_refl _) _) (Nat.le_refl _) _
theorem Sm.i70_4 : (Tryz.prog.info? 0xb8).map (·.size) = some (nv (ord 4)).size := by kernel_rfl
set_option maxRecDepth 100000 in
set_option maxHeartbeats 2000000 in
theorem Sm.order_4 (w : World) : Calls Tryz.prog 117 #[.int .i64 4] w fun e w' => e = .returned (.agg (nv (ord 4))) ∧ Below w.heap.size w w' := by
  go_enter Tryz.func117, Tryz.ntmps117
  go_wp2_with (refine wpList_store_row rfl 0xb8 _ _ rfl w.heap.size (nv (ord 4)) rfl rfl 0xb8 (nv (List.replicate 16 0)) (World.alloc_heap_new w _) i70_4 rfl (nv_one _) ?_)
  rw [eqz16]
  refine bodyPost_ret (results_cell_row rfl _ _ w.heap.size 0xb8 (nv (ord 4)) (0, 0) _ rfl (setRow_heap _ _ _ _ _ _ (World.alloc_heap_new w _)) Tryz.underlying184 rfl i70_4) rfl ⟨rfl, ?_⟩
  exact below_setRow ((Below.refl _ w).alloc (Nat.le_refl _) _) (Nat.le_refl _) _
theorem Sm.i70_5 : (Tryz.prog.info? 0xb8).map (·.size) = some (nv (ord 5)).size := by kernel_rfl
set_option maxRecDepth 100000 in
set_option maxHeartbeats 2000000 in
theorem Sm.order_5 (w : World) : Calls Tryz.prog 117 #[.int .i64 5] w fun e w' => e = .returned (.agg (nv (ord 5))) ∧ Below w.heap.size w w' := by
  go_enter Tryz.func117, Tryz.ntmps117
  go_wp2_with (refine wpList_store_row rfl 0xb8 _ _ rfl w.heap.size (nv (ord 5)) rfl rfl 0xb8 (nv (List.replicate 16 0)) (World.alloc_heap_new w _) i70_5 rfl (nv_one _) ?_)
  rw [eqz16]
  refine bodyPost_ret (results_cell_row rfl _ _ w.heap.size 0xb8 (nv (ord 5)) (0, 0) _ rfl (setRow_heap _ _ _ _ _ _ (World.alloc_heap_new w _)) Tryz.underlying184 rfl i70_5) rfl ⟨rfl, ?_⟩
  exact below_setRow ((Below.refl _ w).alloc (Nat.le_refl _) _) (Nat.le_refl _) _
theorem Sm.i70_6 : (Tryz.prog.info? 0xb8).map (·.size) = some (nv (ord 6)).size := by kernel_rfl
set_option maxRecDepth 100000 in
set_option maxHeartbeats 2000000 in
theorem Sm.order_6 (w : World) : Calls Tryz.prog 117 #[.int .i64 6] w fun e w' => e = .returned (.agg (nv (ord 6))) ∧ Below w.heap.size w w' := by
  go_enter Tryz.func117, Tryz.ntmps117
  go_wp2_with (refine wpList_store_row rfl 0xb8 _ _ rfl w.heap.size (nv (ord 6)) rfl rfl 0xb8 (nv (List.replicate 16 0)) (World.alloc_heap_new w _) i70_6 rfl (nv_one _) ?_)
  rw [eqz16]
  refine bodyPost_ret (results_cell_row rfl _ _ w.heap.size 0xb8 (nv (ord 6)) (0, 0) _ rfl (setRow_heap _ _ _ _ _ _ (World.alloc_heap_new w _)) Tryz.underlying184 rfl i70_6) rfl ⟨rfl, ?_⟩
  exact below_setRow ((Below.refl _ w).alloc (Nat.le_refl _) _) (Nat.le_refl _) _
theorem Sm.i70_7 : (Tryz.prog.info? 0xb8).map (·.size) = some (nv (ord 7)).size := by kernel_rfl
set_option maxRecDepth 100000 in
set_option maxHeartbeats 2000000 in
theorem Sm.order_7 (w : World) : Calls Tryz.prog 117 #[.int .i64 7] w fun e w' => e = .returned (.agg (nv (ord 7))) ∧ Below w.heap.size w w' := by
  go_enter Tryz.func117, Tryz.ntmps117
  go_wp2_with (refine wpList_store_row rfl 0xb8 _ _ rfl w.heap.size (nv (ord 7)) rfl rfl 0xb8 (nv (List.replicate 16 0)) (World.alloc_heap_new w _) i70_7 rfl (nv_one _) ?_)
  rw [eqz16]
  refine bodyPost_ret (results_cell_row rfl _ _ w.heap.size 0xb8 (nv (ord 7)) (0, 0) _ rfl (setRow_heap _ _ _ _ _ _ (World.alloc_heap_new w _)) Tryz.underlying184 rfl i70_7) rfl ⟨rfl, ?_⟩
  exact below_setRow ((Below.refl _ w).alloc (Nat.le_refl _) _) (Nat.le_refl _) _
theorem Sm.i70_8 : (Tryz.prog.info? 0xb8).map (·.size) = some (nv (ord 8)).size := by kernel_rfl
set_option maxRecDepth 100000 in
set_option maxHeartbeats 2000000 in
theorem Sm.order_8 (w : World) : Calls Tryz.prog 117 #[.int .i64 8] w fun e w' => e = .returned (.agg (nv (ord 8))) ∧ Below w.heap.size w w' := by
  go_enter Tryz.func117, Tryz.ntmps117
  go_wp2_with (refine wpList_store_row rfl 0xb8 _ _ rfl w.heap.size (nv (ord 8)) rfl rfl 0xb8 (nv (List.replicate 16 0)) (World.alloc_heap_new w _) i70_8 rfl (nv_one _) ?_)
  rw [eqz16]
  refine bodyPost_ret (results_cell_row rfl _ _ w.heap.size 0xb8 (nv (ord 8)) (0, 0) _ rfl (setRow_heap _ _ _ _ _ _ (World.alloc_heap_new w _)) Tryz.underlying184 rfl i70_8) rfl ⟨rfl, ?_⟩
  exact below_setRow ((Below.refl _ w).alloc (Nat.le_refl _) _) (Nat.le_refl _) _
theorem Sm.i70_9 : (Tryz.prog.info? 0xb8).map (·.size) = some (nv (ord 9)).size := by kernel_rfl
set_option maxRecDepth 100000 in
set_option maxHeartbeats 2000000 in
theorem Sm.order_9 (w : World) : Calls Tryz.prog 117 #[.int .i64 9] w fun e w' => e = .returned (.agg (nv (ord 9))) ∧ Below w.heap.size w w' := by
  go_enter Tryz.func117, Tryz.ntmps117
  go_wp2_with (refine wpList_store_row rfl 0xb8 _ _ rfl w.heap.size (nv (ord 9)) rfl rfl 0xb8 (nv (List.replicate 16 0)) (World.alloc_heap_new w _) i70_9 rfl (nv_one _) ?_)
  rw [eqz16]
  refine bodyPost_ret (results_cell_row rfl _ _ w.heap.size 0xb8 (nv (ord 9)) (0, 0) _ rfl (setRow_heap _ _ _ _ _ _ (World.alloc_heap_new w _)) Tryz.underlying184 rfl i70_9) rfl ⟨rfl, ?_⟩
  exact below_setRow ((Below.refl _ w).alloc (Nat.le_refl _) _) (Nat.le_refl _) _
theorem Sm.order_any (n : Nat) (h : n < 10) (w : World) : Calls Tryz.prog 117 #[.int .i64 (n : Int)] w fun e w' => e = .returned (.agg (nv (ord n))) ∧ Below w.heap.size w w' := by
  match n, h with
  | 0, _ => exact order_0 w
  | 1, _ => exact order_1 w
  | 2, _ => exact order_2 w
  | 3, _ => exact order_3 w
  | 4, _ => exact order_4 w
  | 5, _ => exact order_5 w
  | 6, _ => exact order_6 w
  | 7, _ => exact order_7 w
  | 8, _ => exact order_8 w
  | 9, _ => exact order_9 w
theorem Sm.i88_0 : (Tryz.prog.info? 0xba).map (·.size) = some (nv (mxR 0)).size := by kernel_rfl
set_option maxRecDepth 100000 in
set_option maxHeartbeats 2000000 in
theorem Sm.places_0 (w : World) : Calls Tryz.prog 118 #[.int .i64 0] w fun e w' => e = .returned (.agg (nv (mxR 0))) ∧ Below w.heap.size w w' := by
  go_enter Tryz.func118, Tryz.ntmps118
  go_wp2_with (refine wpList_store_row rfl 0xba _ _ rfl w.heap.size (nv (mxR 0)) rfl rfl 0xba (nv (List.replicate 4 0)) (World.alloc_heap_new w _) i88_0 rfl (nv_one _) ?_)
  rw [eqz4]
  refine bodyPost_ret (results_cell_row rfl _ _ w.heap.size 0xba (nv (mxR 0)) (0, 0) _ rfl (setRow_heap _ _ _ _ _ _ (World.alloc_heap_new w _)) Tryz.underlying186 rfl i88_0) rfl ⟨rfl, ?_⟩
  exact below_setRow ((Below.refl _ w).alloc (Nat.le_refl _) _) (Nat.le_refl _) _
theorem Sm.i88_1 : (Tryz.prog.info? 0xba).map (·.size) = some (nv (mxR 1)).size := by kernel_rfl
set_option maxRecDepth 100000 in
set_option maxHeartbeats 2000000 in
theorem Sm.places_1 (w : World) : Calls Tryz.prog 118 #[.int .i64 1] w fun e w' => e = .returned (.agg (nv (mxR 1))) ∧ Below w.heap.size w w' := by
  go_enter Tryz.func118, Tryz.ntmps118
  go_wp2_with (refine wpList_store_row rfl 0xba _ _ rfl w.heap.size (nv (mxR 1)) rfl rfl 0xba (nv (List.replicate 4 0)) (World.alloc_heap_new w _) i88_1 rfl (nv_one _) ?_)
  rw [eqz4]
  refine bodyPost_ret (results_cell_row rfl _ _ w.heap.size 0xba (nv (mxR 1)) (0, 0) _ rfl (setRow_heap _ _ _ _ _ _ (World.alloc_heap_new w _)) Tryz.underlying186 rfl i88_1) rfl ⟨rfl, ?_⟩
  exact below_setRow ((Below.refl _ w).alloc (Nat.le_refl _) _) (Nat.le_refl _) _
theorem Sm.i88_2 : (Tryz.prog.info? 0xba).map (·.size) = some (nv (mxR 2)).size := by kernel_rfl
set_option maxRecDepth 100000 in
set_option maxHeartbeats 2000000 in
theorem Sm.places_2 (w : World) : Calls Tryz.prog 118 #[.int .i64 2] w fun e w' => e = .returned (.agg (nv (mxR 2))) ∧ Below w.heap.size w w' := by
  go_enter Tryz.func118, Tryz.ntmps118
  go_wp2_with (refine wpList_store_row rfl 0xba _ _ rfl w.heap.size (nv (mxR 2)) rfl rfl 0xba (nv (List.replicate 4 0)) (World.alloc_heap_new w _) i88_2 rfl (nv_one _) ?_)
  rw [eqz4]
  refine bodyPost_ret (results_cell_row rfl _ _ w.heap.size 0xba (nv (mxR 2)) (0, 0) _ rfl (setRow_heap _ _ _ _ _ _ (World.alloc_heap_new w _)) Tryz.underlying186 rfl i88_2) rfl ⟨rfl, ?_⟩
  exact below_setRow ((Below.refl _ w).alloc (Nat.le_refl _) _) (Nat.le_refl _) _
theorem Sm.i88_3 : (Tryz.prog.info? 0xba).map (·.size) = some (nv (mxR 3)).size := by kernel_rfl
set_option maxRecDepth 100000 in
set_option maxHeartbeats 2000000 in
theorem Sm.places_3 (w : World) : Calls Tryz.prog 118 #[.int .i64 3] w fun e w' => e = .returned (.agg (nv (mxR 3))) ∧ Below w.heap.size w w' := by
  go_enter Tryz.func118, Tryz.ntmps118
  go_wp2_with (refine wpList_store_row rfl 0xba _ _ rfl w.heap.size (nv (mxR 3)) rfl rfl 0xba (nv (List.replicate 4 0)) (World.alloc_heap_new w _) i88_3 rfl (nv_one _) ?_)
  rw [eqz4]
  refine bodyPost_ret (results_cell_row rfl _ _ w.heap.size 0xba (nv (mxR 3)) (0, 0) _ rfl (setRow_heap _ _ _ _ _ _ (World.alloc_heap_new w _)) Tryz.underlying186 rfl i88_3) rfl ⟨rfl, ?_⟩
  exact below_setRow ((Below.refl _ w).alloc (Nat.le_refl _) _) (Nat.le_refl _) _
theorem Sm.i88_4 : (Tryz.prog.info? 0xba).map (·.size) = some (nv (mxR 4)).size := by kernel_rfl
set_option maxRecDepth 100000 in
set_option maxHeartbeats 2000000 in
theorem Sm.places_4 (w : World) : Calls Tryz.prog 118 #[.int .i64 4] w fun e w' => e = .returned (.agg (nv (mxR 4))) ∧ Below w.heap.size w w' := by
  go_enter Tryz.func118, Tryz.ntmps118
  go_wp2_with (refine wpList_store_row rfl 0xba _ _ rfl w.heap.size (nv (mxR 4)) rfl rfl 0xba (nv (List.replicate 4 0)) (World.alloc_heap_new w _) i88_4 rfl (nv_one _) ?_)
  rw [eqz4]
  refine bodyPost_ret (results_cell_row rfl _ _ w.heap.size 0xba (nv (mxR 4)) (0, 0) _ rfl (setRow_heap _ _ _ _ _ _ (World.alloc_heap_new w _)) Tryz.underlying186 rfl i88_4) rfl ⟨rfl, ?_⟩
  exact below_setRow ((Below.refl _ w).alloc (Nat.le_refl _) _) (Nat.le_refl _) _
theorem Sm.i88_5 : (Tryz.prog.info? 0xba).map (·.size) = some (nv (mxR 5)).size := by kernel_rfl
set_option maxRecDepth 100000 in
set_option maxHeartbeats 2000000 in
theorem Sm.places_5 (w : World) : Calls Tryz.prog 118 #[.int .i64 5] w fun e w' => e = .returned (.agg (nv (mxR 5))) ∧ Below w.heap.size w w' := by
  go_enter Tryz.func118, Tryz.ntmps118
  go_wp2_with (refine wpList_store_row rfl 0xba _ _ rfl w.heap.size (nv (mxR 5)) rfl rfl 0xba (nv (List.replicate 4 0)) (World.alloc_heap_new w _) i88_5 rfl (nv_one _) ?_)
  rw [eqz4]
  refine bodyPost_ret (results_cell_row rfl _ _ w.heap.size 0xba (nv (mxR 5)) (0, 0) _ rfl (setRow_heap _ _ _ _ _ _ (World.alloc_heap_new w _)) Tryz.underlying186 rfl i88_5) rfl ⟨rfl, ?_⟩
  exact below_setRow ((Below.refl _ w).alloc (Nat.le_refl _) _) (Nat.le_refl _) _
theorem Sm.i88_6 : (Tryz.prog.info? 0xba).map (·.size) = some (nv (mxR 6)).size := by kernel_rfl
set_option maxRecDepth 100000 in
set_option maxHeartbeats 2000000 in
theorem Sm.places_6 (w : World) : Calls Tryz.prog 118 #[.int .i64 6] w fun e w' => e = .returned (.agg (nv (mxR 6))) ∧ Below w.heap.size w w' := by
  go_enter Tryz.func118, Tryz.ntmps118
  go_wp2_with (refine wpList_store_row rfl 0xba _ _ rfl w.heap.size (nv (mxR 6)) rfl rfl 0xba (nv (List.replicate 4 0)) (World.alloc_heap_new w _) i88_6 rfl (nv_one _) ?_)
  rw [eqz4]
  refine bodyPost_ret (results_cell_row rfl _ _ w.heap.size 0xba (nv (mxR 6)) (0, 0) _ rfl (setRow_heap _ _ _ _ _ _ (World.alloc_heap_new w _)) Tryz.underlying186 rfl i88_6) rfl ⟨rfl, ?_⟩
  exact below_setRow ((Below.refl _ w).alloc (Nat.le_refl _) _) (Nat.le_refl _) _
theorem Sm.i88_7 : (Tryz.prog.info? 0xba).map (·.size) = some (nv (mxR 7)).size := by kernel_rfl
set_option maxRecDepth 100000 in
set_option maxHeartbeats 2000000 in
theorem Sm.places_7 (w : World) : Calls Tryz.prog 118 #[.int .i64 7] w fun e w' => e = .returned (.agg (nv (mxR 7))) ∧ Below w.heap.size w w' := by
  go_enter Tryz.func118, Tryz.ntmps118
  go_wp2_with (refine wpList_store_row rfl 0xba _ _ rfl w.heap.size (nv (mxR 7)) rfl rfl 0xba (nv (List.replicate 4 0)) (World.alloc_heap_new w _) i88_7 rfl (nv_one _) ?_)
  rw [eqz4]
  refine bodyPost_ret (results_cell_row rfl _ _ w.heap.size 0xba (nv (mxR 7)) (0, 0) _ rfl (setRow_heap _ _ _ _ _ _ (World.alloc_heap_new w _)) Tryz.underlying186 rfl i88_7) rfl ⟨rfl, ?_⟩
  exact below_setRow ((Below.refl _ w).alloc (Nat.le_refl _) _) (Nat.le_refl _) _
theorem Sm.places_any (n : Nat) (h : n < 8) (w : World) : Calls Tryz.prog 118 #[.int .i64 (n : Int)] w fun e w' => e = .returned (.agg (nv (mxR n))) ∧ Below w.heap.size w w' := by
  match n, h with
  | 0, _ => exact places_0 w
  | 1, _ => exact places_1 w
  | 2, _ => exact places_2 w
  | 3, _ => exact places_3 w
  | 4, _ => exact places_4 w
  | 5, _ => exact places_5 w
  | 6, _ => exact places_6 w
  | 7, _ => exact places_7 w
theorem Sm.refmixc (a b c d x y : BitVec 32) (q : Q4) (hq : Hid (mixS ⟨a, b, c, d⟩ x y = q)) (w : World) : Calls Tryz.prog 119 #[.agg #[.int .u32 (iv a), .int .u32 (iv b), .int .u32 (iv c), .int .u32 (iv d)], .int .u32 (iv x), .int .u32 (iv y)] w fun e w' => e = .returned (.agg #[.int .u32 (iv q.a), .int .u32 (iv q.b), .int .u32 (iv q.c), .int .u32 (iv q.d)]) ∧ Below w.heap.size w w' := by
  rw [← hq.out]
  exact refMix_any ⟨a, b, c, d⟩ x y w
end Go.Proofs
