/-
  slots: Rounds, and what its iterator promises: the rounds, by their numbers, each with its slots. Conditions: as each theorem names them.
-/
import Derived.Test.YtdiidiaipfkmlaaHdI
import Derived.Test.YtdiidiaipfkmlaaSlV
namespace Go.Proofs
open Go Go.RowKit Sm Go.Lib
attribute [local go_sem] Oper.semAt_some
theorem Sm.rounds_any (c : Int) (w : World) : Calls Try.prog 27 #[.int .i64 c] w fun e w' => e = .returned (.func (.func 45) #[] #[.pointer (some ⟨w.heap.size, 0, none⟩)]) ∧ w.alloc (.cells #[.int .i64 c] 25) = w' := by
  go_enter Try.func27, Try.ntmps27
  go_wp2
  go_ret
  exact ⟨rfl, rfl⟩
/-- how many rounds there are -/
def Sm.rdN (c : Int) : Nat := (manyV c 0 0 4096).toNat
theorem Sm.rdN_yes {cn : Nat} (h : chB (cn : Int) = true) : (rdN (cn : Int) : Int) = (4096 + (cn : Int) - 1) / cn ∧ manyV (cn : Int) 0 0 4096 = (rdN (cn : Int) : Int) ∧ rdN (cn : Int) ≤ 1366 := by
  have hx : mxV (cn : Int) 0 0 4096 = 0 := mxV_iff h (Int.le_refl _) (by rcases chB_iff.1 h with e | e | e | e <;> omega) (Int.le_refl _) (by decide) (by decide)
  have h1 : manyV (cn : Int) 0 0 4096 = ahV (cn : Int) 0 4096 - ahV (cn : Int) 0 0 := by
    unfold manyV
    rw [if_pos hx]
    rfl
  unfold rdN
  rw [h1]
  unfold ahV
  have h2 := chB_iff.1 h
  obtain rfl | rfl | rfl | rfl : cn = 3 ∨ cn = 5 ∨ cn = 7 ∨ cn = 9 := by omega
  all_goals decide
theorem Sm.rdN_no {c : Int} (h : chB c = false) : rdN c = 0 ∧ manyV c 0 0 4096 = 0 := by
  have := many_no (mx_no (c := c) (p := 0) (f := 0) (t := 4096) (.inl h))
  unfold rdN
  rw [this]
  exact ⟨rfl, rfl⟩
theorem Sm.rd_at {cn k : Nat} (h : chB (cn : Int) = true) (hk : k < rdN (cn : Int)) : atV (cn : Int) 0 0 k = ((k * cn : Nat) : Int) ∧ k * cn ≤ 4095 := by
  have h3 := (rdN_yes h).1
  unfold atV ahV
  have h2 := chB_iff.1 h
  obtain rfl | rfl | rfl | rfl : cn = 3 ∨ cn = 5 ∨ cn = 7 ∨ cn = 9 := by omega
  all_goals omega
/-- with what round k is told -/
def Sm.HRo (cn R : Nat) (L k : Nat) (args : Array Value) (W : World) : Prop :=
  k < R ∧ ∃ v, args = #[.int .i64 (k : Int), v] ∧ RowG W L v (min cn (4096 - k * cn)) (rowB ((k * cn : Nat) : Int) (min cn (4096 - k * cn)))
def Sm.rowR2 (args : Array Value) (b : Nat) : Prop := ∃ x v, args = #[x, v] ∧ v.ownBlock = some b
theorem Sm.RowG.but {S : Nat → Prop} {W W' : World} {L n : Nat} {v : Value} {xs : List Value} (h : RowG W L v n xs) (hb : But S W W') (hS : ∀ g, v.ownBlock = some g → ¬ S g) : RowG W' L v n xs := by
  obtain ⟨h1, g, cur, rfl, h2, h3, h4⟩ := h
  exact ⟨h1, g, cur, rfl, h2, hb.box h3 (hS g rfl), h4⟩
structure Sm.RdI (J : Nat → World → Prop) (L L0 bx k : Nat) (c : Int) (W : World) : Prop where
  j : J k W
  yb : W.heap[L]? = some (.cells #[.func (.yield L0) #[] #[]] 60 (0, 0))
  cb : W.heap[bx]? = some (.cells #[.int .i64 c] 25 (0, 0))
set_option maxRecDepth 100000 in
set_option maxHeartbeats 4000000 in
theorem Sm.rounds_seq {c : Int} {bx : Nat} (w : World) (hbx : w.heap[bx]? = some (.cells #[.int .i64 c] 25 (0, 0))) (X : Nat → Prop) (hX : ∀ b, X b → b < w.heap.size ∧ b ≠ bx) :
    SeqX Try.prog 45 #[.pointer (some ⟨bx, 0, none⟩)] X (HRo c.toNat (rdN c)) rowR2 (fun _ => True) (fun k => k = rdN c) (fun k => 1 ≤ k ∧ k ≤ rdN c) w := by
  intro L0 J Jx W hW hJ hJx hY hJ0
  have hbl := (Array.getElem?_eq_some_iff.1 hbx).1
  obtain ⟨L, hL⟩ : ∃ L, W.heap.size = L := ⟨_, rfl⟩
  have hwL : w.heap.size ≤ L := by rw [← hL]; exact hW.size
  have hbW : W.heap[bx]? = some (.cells #[.int .i64 c] 25 (0, 0)) := (hW.block _ hbl).trans hbx
  have hOwn := fun W => Own_any c 0 0 4096 W
  unfold ownF at hOwn
  obtain ⟨W1, hW1⟩ : ∃ W1, W.alloc (.cells #[.func (.yield L0) #[] #[]] 60) = W1 := ⟨_, rfl⟩
  have hb1 : Below L W W1 := by rw [← hW1, ← hL]; exact (Below.refl _ W).alloc (Nat.le_refl _) _
  have hs1 : W1.heap.size = L + 1 := by rw [← hW1, ← hL]; simp
  have hy1 : W1.heap[L]? = some (.cells #[.func (.yield L0) #[] #[]] 60 (0, 0)) := by rw [← hW1, ← hL]; exact World.alloc_heap_new _ _
  have hc1 : W1.heap[bx]? = some (.cells #[.int .i64 c] 25 (0, 0)) := (hb1.block _ (by omega)).trans hbW
  have k1 := cell_of_heap hc1 0
  simp only [List.getElem?_toArray, List.getElem?_cons_zero] at k1
  show Calls Try.prog 45 #[.func (.yield L0) #[] #[], .pointer (some ⟨bx, 0, none⟩)] W _
  refine (callsIn_wide (n := 3)).1 ?_
  refine callsIn_of_wp_marks Try.func45 rfl trivial ?_ rfl
  simp only [Try.ntmps45, List.size_toArray, List.length_cons, List.length_nil, Nat.reduceAdd, Nat.reduceSub, Array.replicate_succ, Array.replicate_zero, List.push_toArray, List.append_toArray, List.nil_append, List.cons_append]
  gi_wp2
  refine wpIn_wide.2 (wp_scope_straight ((wpIn_wide (n := 3)).1 ?_))
  gi_wp2
  refine wpIn_label ?_
  gi_wp2_with ((try refine ⟨trivial, ?_⟩); gi_at_call 26; refine (callsIn_wide.2 (hOwn _)).mono ?_; rintro e W2 ⟨bm, bc, bp, bf, rfl, hOw, hbm, hbc, hbp, hbf, hb2⟩)
  have hs2 := hb2.size
  have hy2 : W2.heap[L]? = some (.cells #[.func (.yield L0) #[] #[]] 60 (0, 0)) := (hb2.block _ (by omega)).trans hy1
  have hc2 : W2.heap[bx]? = some (.cells #[.int .i64 c] 25 (0, 0)) := (hb2.block _ (by omega)).trans hc1
  have hJ2 : J 0 W2 := by
    rw [hL] at hJ
    exact hJ 0 W W2 hJ0 (hb1.trans (hb2.mono (by omega)))
  have hml := manyV_le c 0 0 4096
  have HSEQ := Lib.hid (own_seq W2 hOw (fun h => (manyV_own h).1) (fun b => X b ∨ (w.heap.size ≤ b ∧ b < L)) (fun b e => by rcases e with e | e; (have := (hX b e).1; omega); omega) hml)
  rw [hL] at hJ hJx hY
  have HRD : Hid ((manyV c 0 0 4096).toNat = rdN c) := Lib.hid rfl
  obtain ⟨mv, hmv⟩ : ∃ mv, manyV c 0 0 4096 = mv := ⟨_, rfl⟩
  have HMV := Lib.hid hmv
  rw [hmv] at HSEQ HRD hml
  have HX : Hid (∀ b, X b → b < w.heap.size ∧ b ≠ bx) := Lib.hid hX
  have HY := Lib.hid hY
  clear hOw hbm hbc hbp hbf hb2 hy1 hc1 k1 hb1 hW1 hJ0 hOwn hbW hX hmv hW hY
  refine wpIn_range1 (gf := 44) (lb := #[.pointer (some ⟨bm, 0, none⟩), .pointer (some ⟨bc, 0, none⟩), .pointer (some ⟨bp, 0, none⟩), .pointer (some ⟨bf, 0, none⟩)]) rfl (enters_of Try.func44 (by kernel_rfl) rfl)
    HSEQ.out (fun b e => by rcases e with e | e; (have := (HX.out b e).1; omega); omega) ?hH ?hrow 6 3 rfl ?hargs
    (fun k W => (k : Int) ≤ max mv 0 ∧ RdI J L L0 bx k c W) (fun q k W => q = .exit 0 ∧ 1 ≤ k ∧ (k : Int) ≤ mv ∧ Jx k W) ?hI ?hIx ⟨by omega, hJ2, hy2, hc2⟩ ?assign ?body ?done ?stop
  case hH => exact fun k args W W' hh _ => hh
  case hrow => exact fun k args W b _ e => e.elim
  case hargs =>
    rintro k args W ⟨_, rfl⟩
    exact ⟨_, rfl⟩
  case hI => exact fun k W W' ⟨i1, i2, i3, i4⟩ hb => ⟨i1, hJ k W W' i2 (hb.mono (by omega)), (hb.block _ (by omega)).trans i3, (hb.block _ (by omega)).trans i4⟩
  case hIx => exact fun q k W W' ⟨i1, i2, i3, i4⟩ hb => ⟨i1, i2, i3, hJx k W W' i4 (hb.mono (by omega))⟩
  case assign =>
    intro l0 x W1 K hK
    simp only [List.setIfInBounds_toArray, List.set_cons_zero, List.set_cons_succ] at hK ⊢
    gi_wp2
    exact hK
  case body =>
    rintro l0 k x W1 hsz ⟨hk, hI⟩ ⟨hkm, e⟩
    simp only [Array.mk.injEq, List.cons.injEq, and_true] at e
    obtain rfl := e
    simp only [List.setIfInBounds_toArray, List.set_cons_zero, List.set_cons_succ]
    have hch : chB c = true := (manyV_own (c := c) (p := 0) (b := 0) (t := 4096) (by rw [HMV.out]; omega)).1.ch
    obtain ⟨cn, rfl⟩ : ∃ cn : Nat, c = (cn : Int) := ⟨c.toNat, by rcases chB_iff.1 hch with e | e | e | e <;> omega⟩
    obtain ⟨hat, hbg⟩ := rd_at hch (k := k) (by have := HRD.out; omega)
    have hcr : 1 ≤ cn ∧ cn ≤ 9 := by rcases chB_iff.1 hch with e | e | e | e <;> omega
    obtain ⟨bg, hbe⟩ : ∃ bg, k * cn = bg := ⟨_, rfl⟩
    rw [hbe] at hat hbg
    rw [hat]
    have hq : (bg : Int) / (cn : Int) = (k : Int) := by rw [← hbe, Int.natCast_mul, Int.mul_ediv_cancel _ (by omega)]
    have hrd := fun W => round_any cn bg W hcr.1 hcr.2 hbg
    have ky := cell_of_heap hI.yb 0
    have kc := cell_of_heap hI.cb 0
    simp only [List.getElem?_toArray, List.getElem?_cons_zero] at ky kc
    have HI := Lib.hid hI
    have HBE := Lib.hid hbe
    have HRR := Lib.hid hrd
    have hlt1 : L < W1.heap.size := by omega
    have HK : Hid ((k : Int) + 1 ≤ mv ∧ k < rdN (cn : Int)) := Lib.hid ⟨by omega, by have := HRD.out; omega⟩
    clear hI hbe hrd hat hch
    gi_wp2
    have HSK : Hid (∀ W, Below W1.heap.size W1 W → W.cell? ⟨L, 0, none⟩ = some (.func (.yield L0) #[] #[]) ∧ W.cell? ⟨bx, 0, none⟩ = some (.int .i64 (cn : Int))) := Lib.hid fun W hb =>
      ⟨(hb.cell (p := ⟨L, 0, none⟩) (by simp only; omega)).trans ky, (hb.cell (p := ⟨bx, 0, none⟩) (by simp only; omega)).trans kc⟩
    have hcz2 : ¬ cn = 0 := by omega
    have hwk : IntKind.i64.wrap (k : Int) = (k : Int) := IntWalk.i64_in _ (by omega)
    clear ky kc
    refine wpIn_region_heldI (S := fun W => W.cell? ⟨L, 0, none⟩ = some (.func (.yield L0) #[] #[]) ∧ W.cell? ⟨bx, 0, none⟩ = some (.int .i64 (cn : Int))) (by kernel_rfl) (HSK.out _ (Below.refl _ _).drew) fun hHeld => ?_
    simp only [List.size_toArray, List.length_cons, List.length_nil, Nat.reduceAdd, Array.replicate_succ, Array.replicate_zero, List.push_toArray, List.nil_append, List.cons_append]
    refine wpAnyHI_take (i := 0) (v := .func (.yield L0) #[] #[]) (fun _ => trivial) rfl (by kernel_rfl) (by kernel_rfl) (by kernel_rfl) (by kernel_rfl) (fun _ _ _ h => h) (Or.inl ⟨by rfl, ?_⟩) hHeld ?_
    · rintro wx ⟨s1, s2⟩; go_simp
    try simp only [Act.put, List.setIfInBounds_toArray, List.set_cons_zero, List.set_cons_succ, List.getElem_toArray, List.getElem_cons_zero]
    refine wpAnyHI_take (i := 1) (v := .int .i64 (bg : Int)) (fun _ => trivial) rfl (by kernel_rfl) (by kernel_rfl) (by kernel_rfl) (by kernel_rfl) (fun _ _ _ h => h) (Or.inl ⟨by rfl, ?_⟩) hHeld ?_
    · rintro wx ⟨s1, s2⟩; go_simp
    try simp only [Act.put, List.setIfInBounds_toArray, List.set_cons_zero, List.set_cons_succ, List.getElem_toArray, List.getElem_cons_succ, List.getElem_cons_zero]
    refine wpAnyHI_take (i := 2) (v := .int .i64 (cn : Int)) (fun _ => trivial) rfl (by kernel_rfl) (by kernel_rfl) (by kernel_rfl) (by kernel_rfl) (fun _ _ _ h => h) (Or.inl ⟨by rfl, ?_⟩) hHeld ?_
    · rintro wx ⟨s1, s2⟩; go_simp
    try simp only [Act.put, List.setIfInBounds_toArray, List.set_cons_zero, List.set_cons_succ, List.getElem_toArray, List.getElem_cons_succ, List.getElem_cons_zero]
    refine wpAnyHI_take (i := 3) (v := .int .i64 (k : Int)) (fun _ => trivial) rfl (by kernel_rfl) (by kernel_rfl) (by kernel_rfl) (by kernel_rfl) (fun _ _ _ h => h) (Or.inl ⟨by rfl, ?_⟩) hHeld ?_
    · rintro wx ⟨s1, s2⟩; go_simp
    try simp only [Act.put, List.setIfInBounds_toArray, List.set_cons_zero, List.set_cons_succ, List.getElem_toArray, List.getElem_cons_succ, List.getElem_cons_zero]
    refine wpAnyHI_take (i := 4) (v := .int .i64 (cn : Int)) (fun _ => trivial) rfl (by kernel_rfl) (by kernel_rfl) (by kernel_rfl) (by kernel_rfl) (fun _ _ _ h => h) (Or.inl ⟨by rfl, ?_⟩) hHeld ?_
    · rintro wx ⟨s1, s2⟩; go_simp
    try simp only [Act.put, List.setIfInBounds_toArray, List.set_cons_zero, List.set_cons_succ, List.getElem_toArray, List.getElem_cons_succ, List.getElem_cons_zero]
    refine wpAnyHI_take (i := 5) (v := .int .i64 (bg : Int)) (fun _ => trivial) rfl (by kernel_rfl) (by kernel_rfl) (by kernel_rfl) (by kernel_rfl) (fun _ _ _ h => h) (Or.inl ⟨by rfl, ?_⟩) hHeld ?_
    · rintro wx ⟨s1, s2⟩; go_simp
    try simp only [Act.put, List.setIfInBounds_toArray, List.set_cons_zero, List.set_cons_succ, List.getElem_toArray, List.getElem_cons_succ, List.getElem_cons_zero]
    refine wpAnyHI_one (i := 6) (by kernel_rfl) rfl (by rfl) fun K hK => ?_
    refine ⟨fun _ _ => trivial, ?_⟩
    go_simp
    clear hcz2 hwk
    refine (CallsIn.inRound l0 (callsIn_wide.2 (HRR.out _))).mono ?_
    rintro e W4 ⟨v, rfl, hrow, hb4⟩
    have hb14 : Below W1.heap.size W1 W4 := (Below.refl _ _).drew.trans hb4
    refine hK.out _ _ (HSK.out _ hb14) (fun _ => ?_)
    clear hK K
    try simp only [List.setIfInBounds_toArray, List.set_cons_zero, List.set_cons_succ]
    refine wpAnyHI_one (i := 7) (by kernel_rfl) rfl (by rfl) fun K hK => ?_
    have hrow2 : RowG W4 L v (min cn (4096 - bg)) (rowB (bg : Int) (min cn (4096 - bg))) := by
      obtain ⟨r1, g, cur, r2, r3, r4⟩ := hrow
      exact ⟨r1, g, cur, r2, by have r5 : W1.heap.size ≤ g := r3; omega, r4⟩
    have hro : ∀ g, v.ownBlock = some g → W1.heap.size ≤ g := fun g e => by
      obtain ⟨_, g', cur, rfl, r3, _⟩ := hrow
      have r5 : W1.heap.size ≤ g' := r3
      cases e
      exact r5
    obtain ⟨fn, tmps, assign, body, hy, hR⟩ := HY.out k #[.int .i64 (k : Int), v] W4 (hJ k _ _ HI.out.j (hb14.mono (by omega))) ⟨HK.out.2, v, rfl, by
      rw [show (cn : Int).toNat = cn from rfl, HBE.out]
      exact hrow2⟩
    have HRO := Lib.hid hro
    have HB14 := Lib.hid hb14
    clear hrow hrow2 hro hb14 hb4
    refine ⟨fun _ _ => trivial, ?_⟩
    go_simp
    refine RoundIn.mono (F := Fence.wide.inRound l0) (show RoundIn (Fence.wide.inRound l0) 0 _ _ _ _ _ _ _ _ from roundIn_any hR) ?_
    clear hR hy
    have hnot : ∀ b, RoundMay X w.heap.size L rowR2 #[.int .i64 (k : Int), v] b → (b ≠ L ∧ b ≠ bx) ∧ (b < W1.heap.size → X b ∨ (w.heap.size ≤ b ∧ b < L)) := fun b e => by
      rcases e with e | e | ⟨x, v', e, e2⟩
      · have := HX.out b e
        exact ⟨⟨by omega, this.2⟩, fun _ => .inl e⟩
      · exact ⟨⟨by omega, by omega⟩, fun _ => .inr e⟩
      · simp only [Array.mk.injEq, List.cons.injEq, and_true] at e
        obtain ⟨_, e3⟩ := e
        rw [← e3] at e2
        have := HRO.out b e2
        exact ⟨⟨by omega, by omega⟩, fun h => by omega⟩
    rintro e W5 (⟨rfl, _, hJ5, hbut⟩ | ⟨rfl, hJx5, hbut⟩)
    · have y5 := hbut.box ((HB14.out.block L hlt1).trans HI.out.yb) (fun e => (hnot _ e).1.1 rfl)
      have c5 := hbut.box ((HB14.out.block bx (by omega)).trans HI.out.cb) (fun e => (hnot _ e).1.2 rfl)
      have hfin : But (fun b => X b ∨ (w.heap.size ≤ b ∧ b < L)) W1 W5 := (But.of_all HB14.out _).trans hbut (fun b hb e => (hnot b e).2 hb)
      refine hK.out _ _ ⟨cell_of_heap y5 0, cell_of_heap c5 0⟩ (fun hS5 => ?_)
      clear hK K
      try simp only [List.setIfInBounds_toArray, List.set_cons_zero, List.set_cons_succ]
      refine wpAnyHI_take (i := 8) (v := .bool false) (fun _ => trivial) rfl (by kernel_rfl) (by kernel_rfl) (by kernel_rfl) (by kernel_rfl) (fun _ _ _ h => h) (Or.inl ⟨by rfl, ?_⟩) hS5 ?_
      · rintro wx ⟨s1, s2⟩; go_simp
      try simp only [Act.put, List.setIfInBounds_toArray, List.set_cons_zero, List.set_cons_succ, List.getElem_toArray, List.getElem_cons_succ, List.getElem_cons_zero]
      refine wpAnyHI_done (by kernel_rfl) ?_ _
      have HF : Hid (But (fun b => X b ∨ (w.heap.size ≤ b ∧ b < L)) W1 W5 ∧ RdI J L L0 bx (k + 1) (cn : Int) W5) := Lib.hid ⟨hfin, hJ5, y5, c5⟩
      clear hS5 hfin y5 c5 hnot hbut hJ5
      gi_wp2
      exact ⟨trivial, HF.out.1.mono (fun b _ e => .inl e), by have := HK.out.1; omega, HF.out.2⟩
    · have y5 := hbut.box ((HB14.out.block L hlt1).trans HI.out.yb) (fun e => (hnot _ e).1.1 rfl)
      have c5 := hbut.box ((HB14.out.block bx (by omega)).trans HI.out.cb) (fun e => (hnot _ e).1.2 rfl)
      have hfin : But (fun b => X b ∨ (w.heap.size ≤ b ∧ b < L)) W1 W5 := (But.of_all HB14.out _).trans hbut (fun b hb e => (hnot b e).2 hb)
      refine hK.out _ _ ⟨cell_of_heap y5 0, cell_of_heap c5 0⟩ (fun hS5 => ?_)
      clear hK K
      try simp only [List.setIfInBounds_toArray, List.set_cons_zero, List.set_cons_succ]
      refine wpAnyHI_take (i := 8) (v := .bool true) (fun _ => trivial) rfl (by kernel_rfl) (by kernel_rfl) (by kernel_rfl) (by kernel_rfl) (fun _ _ _ h => h) (Or.inl ⟨by rfl, ?_⟩) hS5 ?_
      · rintro wx ⟨s1, s2⟩; go_simp
      try simp only [Act.put, List.setIfInBounds_toArray, List.set_cons_zero, List.set_cons_succ, List.getElem_toArray, List.getElem_cons_succ, List.getElem_cons_zero]
      refine wpAnyHI_done (by kernel_rfl) ?_ _
      have HF : Hid (But (fun b => X b ∨ (w.heap.size ≤ b ∧ b < L)) W1 W5 ∧ Jx (k + 1) W5) := Lib.hid ⟨hfin, hJx5⟩
      clear hS5 hfin y5 c5 hnot hbut hJx5
      gi_wp2
      exact ⟨HF.out.1.mono (fun b _ e => .inl e), rfl, by omega, by have := HK.out.1; omega, HF.out.2⟩
  case done =>
    rintro k W hkm ⟨hk, hI⟩ hD
    refine ⟨by simp, .inl ⟨_, _, rfl, run_takeDeferred hD, ?_⟩⟩
    refine ⟨_, results_none rfl _ _ _, ⟨_, rfl⟩, ?_⟩
    have hlow : Below L W (W.putObj W2.heap.size (.deferred none)) := (put_but W _ _).to_below (by have := (Array.getElem?_eq_some_iff.1 hD).1; omega) (fun b e => by omega)
    exact .inl ⟨k, by rw [hkm, HRD.out], hJ _ _ _ hI.j hlow⟩
  case stop =>
    rintro q k W hkm ⟨rfl, h1, h2, h3⟩ hD
    gi_wp2
    refine ⟨by simp, .inl ⟨_, _, rfl, run_takeDeferred hD, ?_⟩⟩
    refine ⟨_, results_none rfl _ _ _, ⟨_, rfl⟩, ?_⟩
    have hlow : Below L W (W.putObj W2.heap.size (.deferred none)) := (put_but W _ _).to_below (by have := (Array.getElem?_eq_some_iff.1 hD).1; omega) (fun b e => by omega)
    exact .inr ⟨k, ⟨h1, by rw [← HRD.out]; omega⟩, hJx _ _ _ h3 hlow⟩
end Go.Proofs
