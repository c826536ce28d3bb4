/-
  ballot: Above. Conditions: as each theorem names them.
-/
import Derived.Test.YtjdmnajjfikehaaBaE
namespace Go.Proofs
open Go Go.RowKit Sm Go.Lib
attribute [local go_sem] Oper.semAt_some
/-- is a ballot wrong: none of the choir's, and not no ballot -/
def Sm.wrB (c : Int) (x : Int × Int) : Bool := !(decide (x.1 = -1) && decide (x.2 = 0)) && !ckB c x.1 x.2
/-- the round above -/
def Sm.upI (p : Int) (t : Int × Int) : Int := if lessB t.1 t.2 (max 1 t.1) p = true then max 1 t.1 else max 1 t.1 + 1
/-- the least ballot of a place above others -/
def Sm.aboV (c p : Int) (xs : List (Int × Int)) : (Int × Int) × Int :=
  if bpB c p = false ∨ xs.any (wrB c) = true then ((0, 0), 2) else
  if upI p (topP (-1, 0) xs) ≤ 2147483647 then ((upI p (topP (-1, 0) xs), p), 0) else ((0, 0), 230)
theorem Sm.topP_bd (c : Int) (t : Int × Int) (ht : -1 ≤ t.1 ∧ t.1 ≤ 2147483647) (xs : List (Int × Int)) (h : xs.any (wrB c) = false) : -1 ≤ (topP t xs).1 ∧ (topP t xs).1 ≤ 2147483647 := by
  induction xs generalizing t with
  | nil => exact ht
  | cons x xs ih =>
    simp only [List.any_cons, Bool.or_eq_false_iff] at h
    refine ih (gtP t x) ?_ h.2
    unfold gtP
    split
    · have h1 := h.1
      unfold wrB ckB roB at h1
      simp only [Bool.and_eq_false_iff, Bool.not_eq_false', Bool.and_eq_true, decide_eq_true_eq] at h1
      omega
    · exact ht
theorem Sm.ckB_one (c p : Int) : ckB c 1 p = bpB c p := by
  unfold ckB roB
  simp
theorem Sm.ckB_up {c p r : Int} (h : bpB c p = true) (h1 : 1 ≤ r) : ckB c r p = decide (r ≤ 2147483647) := by
  unfold ckB roB
  rw [h]
  have : decide (0 ≤ r) = true := decide_eq_true (by omega)
  rw [this]
  simp
/-- what lies while others are gone over -/
def Sm.AbS (w wr : World) (p : Int) : Prop := wr.heap[w.heap.size]? = some (.cells #[.int .i64 0, .int .i64 0] 23 (0, 0)) ∧ wr.heap[w.heap.size + 1]? = some (.cells #[.int .i64 1, .int .i64 p] 23 (0, 0)) ∧ Below w.heap.size w wr
theorem Sm.AbS.keep {w wr wr' : World} {p : Int} (h : AbS w wr p) (hb : Below wr.heap.size wr wr') : AbS w wr' p :=
  ⟨(hb.block _ (Array.getElem?_eq_some_iff.1 h.1).1).trans h.1, (hb.block _ (Array.getElem?_eq_some_iff.1 h.2.1).1).trans h.2.1, h.2.2.trans (hb.mono h.2.2.size)⟩
theorem Sm.AbS.at {w wr : World} {p : Int} (h : AbS w wr p) : (wr.cell? ⟨w.heap.size, 0, none⟩ = some (.int .i64 0) ∧ wr.cell? ⟨w.heap.size, 1, none⟩ = some (.int .i64 0)) ∧ (wr.cell? ⟨w.heap.size + 1, 0, none⟩ = some (.int .i64 1) ∧ wr.cell? ⟨w.heap.size + 1, 1, none⟩ = some (.int .i64 p)) ∧
    wr.frozen? ⟨w.heap.size, 0, none⟩ = false ∧ wr.frozen? ⟨w.heap.size, 1, none⟩ = false ∧ wr.frozen? ⟨w.heap.size + 1, 0, none⟩ = false :=
  ⟨⟨cell_of_heap h.1 0, cell_of_heap h.1 1⟩, ⟨cell_of_heap h.2.1 0, cell_of_heap h.2.1 1⟩, frozen_of_heap h.1 0, frozen_of_heap h.1 1, frozen_of_heap h.2.1 0⟩
theorem Sm.AbS.new (w : World) (p : Int) : AbS w ((w.alloc (.cells #[.int .i64 0, .int .i64 0] 23)).alloc (.cells #[.int .i64 1, .int .i64 p] 23)) p := by
  refine ⟨(Below.heap_alloc _ _ _ (by simp)).trans (World.alloc_heap_new w _), ?_, ((Below.refl _ w).alloc (Nat.le_refl _) _).alloc (by simp) _⟩
  have := World.alloc_heap_new (w.alloc (.cells #[.int .i64 0, .int .i64 0] 23)) (.cells #[.int .i64 1, .int .i64 p] 23)
  rwa [World.size_alloc] at this
/-- the result's block, when it is written -/
theorem Sm.AbS.put {w wr : World} (h : wr.heap[w.heap.size]? = some (.cells #[.int .i64 0, .int .i64 0] 23 (0, 0))) (u v : Value) :
    ((wr.setCell ⟨w.heap.size, 0, none⟩ u).setCell ⟨w.heap.size, 1, none⟩ v).cell? ⟨w.heap.size, 0, none⟩ = some u ∧ ((wr.setCell ⟨w.heap.size, 0, none⟩ u).setCell ⟨w.heap.size, 1, none⟩ v).cell? ⟨w.heap.size, 1, none⟩ = some v := by
  have hz := heap_setCells (i := 1) (u := v) (heap_setCells (i := 0) (u := u) h)
  have z0 := cell_of_heap hz 0
  have z1 := cell_of_heap hz 1
  simp at z0 z1
  exact ⟨z0, z1⟩
/-- what lies behind that -/
structure Sm.AbT (w W : World) (D : Nat) (m p tr tp : Int) : Prop where
  r : W.heap[w.heap.size]? = some (.cells #[.int .i64 0, .int .i64 0] 23 (0, 0))
  o : W.heap[w.heap.size + 1]? = some (.cells #[.int .i64 m, .int .i64 p] 23 (0, 0))
  t : W.heap[D]? = some (.cells #[.int .i64 tr, .int .i64 tp] 23 (0, 0))
  d : w.heap.size + 1 < D
  b : Below w.heap.size w W
theorem Sm.AbS.top {w wr : World} {p : Int} (h : AbS w wr p) (tr tp : Int) : AbT w (wr.alloc (.cells #[.int .i64 tr, .int .i64 tp] 23)) wr.heap.size 1 p tr tp := by
  have hb : Below wr.heap.size wr (wr.alloc (.cells #[.int .i64 tr, .int .i64 tp] 23)) := (Below.refl _ _).alloc (Nat.le_refl _) _
  have h2 := h.keep hb
  exact ⟨h2.1, h2.2.1, World.alloc_heap_new _ _, (Array.getElem?_eq_some_iff.1 h.2.1).1, h2.2.2⟩
theorem Sm.AbT.keep {w W W' : World} {D : Nat} {m p tr tp : Int} (h : AbT w W D m p tr tp) (hb : Below W.heap.size W W') : AbT w W' D m p tr tp :=
  ⟨(hb.block _ (Array.getElem?_eq_some_iff.1 h.r).1).trans h.r, (hb.block _ (Array.getElem?_eq_some_iff.1 h.o).1).trans h.o, (hb.block _ (Array.getElem?_eq_some_iff.1 h.t).1).trans h.t, h.d, h.b.trans (hb.mono h.b.size)⟩
theorem Sm.AbT.set {w W : World} {D : Nat} {m p tr tp : Int} (h : AbT w W D m p tr tp) (m2 : Int) : AbT w (W.setCell ⟨w.heap.size + 1, 0, none⟩ (.int .i64 m2)) D m2 p tr tp :=
  ⟨(heap_setOther (by omega)).trans h.r, heap_setCells (i := 0) (u := .int .i64 m2) h.o, (heap_setOther (by have := h.d; omega)).trans h.t, h.d, h.b.setCell (p := ⟨w.heap.size + 1, 0, none⟩) (by simp) _⟩
theorem Sm.AbT.at {w W : World} {D : Nat} {m p tr tp : Int} (h : AbT w W D m p tr tp) : W.frozen? ⟨w.heap.size, 0, none⟩ = false ∧ W.frozen? ⟨w.heap.size, 1, none⟩ = false ∧ W.cell? ⟨w.heap.size + 1, 0, none⟩ = some (.int .i64 m) ∧ W.cell? ⟨w.heap.size + 1, 1, none⟩ = some (.int .i64 p) ∧
    W.frozen? ⟨w.heap.size + 1, 0, none⟩ = false ∧ (W.cell? ⟨w.heap.size, 0, none⟩ = some (.int .i64 0) ∧ W.cell? ⟨w.heap.size, 1, none⟩ = some (.int .i64 0)) ∧ W.cell? ⟨D, 0, none⟩ = some (.int .i64 tr) ∧ W.cell? ⟨D, 1, none⟩ = some (.int .i64 tp) :=
  ⟨frozen_of_heap h.r 0, frozen_of_heap h.r 1, cell_of_heap h.o 0, cell_of_heap h.o 1, frozen_of_heap h.o 0, ⟨cell_of_heap h.r 0, cell_of_heap h.r 1⟩, cell_of_heap h.t 0, cell_of_heap h.t 1⟩
theorem Sm.below_put {w W : World} (h : Below w.heap.size w W) (u v : Value) : Below w.heap.size w ((W.setCell ⟨w.heap.size, 0, none⟩ u).setCell ⟨w.heap.size, 1, none⟩ v) :=
  (h.setCell (p := ⟨w.heap.size, 0, none⟩) (Nat.le_refl _) _).setCell (p := ⟨w.heap.size, 1, none⟩) (Nat.le_refl _) _
set_option maxRecDepth 100000 in
set_option maxHeartbeats 4000000 in
theorem Sm.Above_any (c p : Int) (A : Option Addr) (n k : Nat) (xs : List (Int × Int)) (w : World) (h : RowP w A n k xs) :
    Calls Try.prog 21 #[.int .i64 c, .int .i64 p, .slice A n k] w fun e w' => e = .returned (.tuple #[.agg #[.int .i64 (aboV c p xs).1.1, .int .i64 (aboV c p xs).1.2], .int .i64 (aboV c p xs).2]) ∧ Below w.heap.size w w' := by
  have hA0 := AbS.new w p
  have hC := fun W => CheckB_any c 1 p W
  rw [ckB_one] at hC
  obtain ⟨R, hR⟩ : ∃ R : (Int × Int) × Int, aboV c p xs = R := ⟨_, rfl⟩
  rw [hR]
  unfold aboV at hR
  cases hbp : bpB c p with
  | false =>
    rw [hbp] at hC hR
    rw [if_pos (.inl rfl)] at hR
    simp only [Bool.false_eq_true, if_false] at hC
    have HA0 := Lib.hid hA0
    have HR := Lib.hid hR
    clear h hA0 hR hbp
    go_enter Try.func21, Try.ntmps21
    go_wp2_with (go_at_call 10; (with_reducible refine (hC _).mono ?_); rintro e w2 ⟨rfl, hb⟩
                 have HA := Lib.hid (HA0.out.keep hb)
                 clear hb
                 obtain ⟨⟨a0, a1⟩, _, f0, f1, _⟩ := HA.out.at)
    obtain ⟨z0, z1⟩ := AbS.put HA.out.1 (.int .i64 0) (.int .i64 0)
    exact bodyPost_ret (v := .tuple #[.agg #[.int .i64 0, .int .i64 0], .int .i64 2]) (by simp [results, Try.results21, go_sem, z0, z1]) rfl ⟨by rw [← HR.out], below_put HA.out.2.2 _ _⟩
  | true =>
    rw [hbp] at hC
    simp only [if_true] at hC
    obtain ⟨hn, hnc, hn1, hx⟩ := id h
    have hG := fun W (hb : Below w.heap.size w W) => greatest_any (-1) 0 A n k xs W (h.keep hb)
    have hNo := fun W => None_any W
    have hCk := fun r p W => CheckB_any c r p W
    have hCm := fun r p r2 p2 W => Compare_any r p r2 p2 W
    have HX := Lib.hid hx
    have HN := Lib.hid hn
    have HG := Lib.hid hG
    have HCK := Lib.hid hCk
    have HCM := Lib.hid hCm
    have hnI : (n : Int) ≤ 1000 := by omega
    have HA0 := Lib.hid hA0
    have HBP := Lib.hid hbp
    clear h hA0 hx hn hG hCk hCm hbp
    rw [HBP.out] at hR
    have HR := Lib.hid hR
    clear hR
    go_enter Try.func21, Try.ntmps21
    go_wp2_with (go_at_call 10; (with_reducible refine (hC _).mono ?_); rintro e w2 ⟨rfl, hb⟩
                 have HA : Hid (AbS w w2 p) := Lib.hid (HA0.out.keep hb)
                 clear hb)
    go_loopw [21] (fun v21 wr => ∃ i : Nat, i ≤ n ∧ v21 = .int .i64 (i : Int) ∧ Hid ((xs.take i).any (wrB c) = false ∧ AbS w wr p)) (fun v21 _ => n - (RowKit.intOf v21).toNat)
    case atStart => exact ⟨0, Nat.zero_le _, rfl, Lib.hid ⟨rfl, HA.out⟩⟩
    case round =>
      obtain ⟨wo, rfl⟩ : ∃ wo : World, wo = wr := ⟨_, rfl⟩
      obtain ⟨i, hi, rfl, HI⟩ := hrel
      clear HA
      by_cases hlt : i < n
      · have hkx : i < xs.length := by rw [HN.out]; exact hlt
        rcases HX.out with e | ⟨g, off, rfl, hg, hcl⟩
        · rw [e] at hkx; simp at hkx
        · obtain ⟨ck0, ck1⟩ := hcl i hkx
          have hmem : xs[i] ∈ xs := List.getElem_mem hkx
          have htk : (xs.take (i + 1)).any (wrB c) = wrB c xs[i] := by
            rw [List.take_succ_eq_append_getElem hkx, List.any_append, HI.out.1]; simp
          obtain ⟨x, hx⟩ : ∃ x, xs[i] = x := ⟨_, rfl⟩
          rw [hx] at ck0 ck1 htk hmem
          obtain ⟨xr, xp⟩ := x
          have hbo := HI.out.2.2.2
          have d0 := (hbo.cell (p := ⟨g, off + i * 2, none⟩) hg).trans ck0
          have d1 := (hbo.cell (p := ⟨g, off + i * 2 + 1, none⟩) hg).trans ck1
          have hgl := Nat.lt_of_lt_of_le hg hbo.size
          clear hcl hx ck0 ck1 hbo
          have HTK := Lib.hid htk
          have HM := Lib.hid hmem
          clear htk hmem
          obtain ⟨w1, hw1⟩ : ∃ w1, wo.alloc (.cells #[.int .i64 xr, .int .i64 xp] 23) = w1 := ⟨_, rfl⟩
          have hb1 : Below wo.heap.size wo w1 := by rw [← hw1]; exact (Below.refl _ _).alloc (Nat.le_refl _) _
          have p2 : w1.heap[wo.heap.size]? = some (.cells #[.int .i64 xr, .int .i64 xp] 23 (0, 0)) := by rw [← hw1]; exact World.alloc_heap_new _ _
          have HA1 : Hid (AbS w w1 p) := Lib.hid (HI.out.2.keep hb1)
          have hl2 := (Array.getElem?_eq_some_iff.1 p2).1
          have HS : Hid (∀ W, Below w1.heap.size w1 W → W.cell? ⟨wo.heap.size, 0, none⟩ = some (.int .i64 xr) ∧ W.cell? ⟨wo.heap.size, 1, none⟩ = some (.int .i64 xp)) := Lib.hid fun W hb => ⟨cell_keep hb hl2 (cell_of_heap p2 0), cell_keep hb hl2 (cell_of_heap p2 1)⟩
          have q0 := HS.out w1 (Below.refl _ _)
          clear hb1 p2 HI hl2
          have hck := HCK.out xr xp
          by_cases hno : xr = -1 ∧ xp = 0
          · have e1 : (xr == -1) = true := by simpa using hno.1
            have e2 : (xp == 0) = true := by simpa using hno.2
            have HW : Hid ((xs.take (i + 1)).any (wrB c) = false) := Lib.hid (by rw [HTK.out]; unfold wrB; simp [hno])
            clear hno HTK HM hck
            go_upto_region 7 with fail
            clear hw1
            have hS0 : (fun W => W.cell? ⟨wo.heap.size, 0, none⟩ = some (.int .i64 xr) ∧ W.cell? ⟨wo.heap.size, 1, none⟩ = some (.int .i64 xp)) w1.drew := q0
            refine wp_region_held_drew (S := fun W => W.cell? ⟨wo.heap.size, 0, none⟩ = some (.int .i64 xr) ∧ W.cell? ⟨wo.heap.size, 1, none⟩ = some (.int .i64 xp)) rfl hS0 (fun hHeld => ?_)
            simp only [List.size_toArray, List.length_cons, List.length_nil, Nat.reduceAdd]
            have HB0 : Hid (Below w1.heap.size w1 w1.drew) := Lib.hid (Below.refl _ w1).drew
            obtain ⟨V0, hV0⟩ : ∃ V, w1.drew = V := ⟨_, rfl⟩
            rw [hV0] at hHeld hS0 HB0 ⊢
            clear hV0
            refine wpAnyH_take (i := 0) (v := .agg #[.int .i64 xr, .int .i64 xp]) rfl (by kernel_rfl) (by kernel_rfl) (by kernel_rfl) (fun _ _ _ h => h) (Or.inl ⟨by rfl, ?_⟩) (by assumption) ?_
            · intro wx hs1; obtain ⟨s0, s1⟩ := hs1; go_simp
            (try simp only [Act.put, List.getElem_toArray, List.getElem_cons_zero, List.setIfInBounds_toArray, List.set_cons_zero, List.set_cons_succ])
            refine wpAnyH_ready (rs := [1]) (by kernel_rfl) (by simp) (AllReadyH.cons rfl (fun K hK => ?_) AllReadyH.nil)
            go_simp
            go_at_call 9
            (with_reducible refine (hNo _).mono ?_)
            rintro e w2 ⟨rfl, hb2⟩
            dsimp only
            have HB2 : Hid (Below w1.heap.size w1 w2) := Lib.hid (HB0.out.trans (hb2.mono HB0.out.size)); clear hb2; have hS := HS.out _ HB2.out
            refine hK.out _ _ hS (fun _ => ?_)
            clear hK K
            (try simp only [Act.put, List.getElem_toArray, List.getElem_cons_succ, List.getElem_cons_zero, List.setIfInBounds_toArray, List.set_cons_zero, List.set_cons_succ])
            refine wpAnyH_take (i := 2) (v := .bool false) rfl (by kernel_rfl) (by kernel_rfl) (by kernel_rfl) (fun _ _ _ h => h) (Or.inl ⟨by rfl, ?_⟩) (by assumption) ?_
            · intro wx hs1; go_simp
            (try simp only [Act.put, List.getElem_toArray, List.getElem_cons_succ, List.getElem_cons_zero, List.setIfInBounds_toArray, List.set_cons_zero, List.set_cons_succ])
            refine wpAnyH_take (i := 3) (v := .bool false) rfl (by kernel_rfl) (by kernel_rfl) (by kernel_rfl) (fun _ _ _ h => h) (Or.inl ⟨by rfl, ?_⟩) (by assumption) ?_
            · intro wx hs1; go_simp
            (try simp only [Act.put, List.getElem_toArray, List.getElem_cons_succ, List.getElem_cons_zero, List.setIfInBounds_toArray, List.set_cons_zero, List.set_cons_succ])
            refine wpAnyH_take (i := 4) (v := undef) rfl (by kernel_rfl) (by kernel_rfl) (by kernel_rfl) (fun _ _ _ h => h) (Or.inr ⟨by rfl, rfl⟩) (by assumption) ?_
            (try simp only [Act.put, List.getElem_toArray, List.getElem_cons_succ, List.getElem_cons_zero, List.setIfInBounds_toArray, List.set_cons_zero, List.set_cons_succ])
            refine wpAnyH_take (i := 5) (v := undef) rfl (by kernel_rfl) (by kernel_rfl) (by kernel_rfl) (fun _ _ _ h => h) (Or.inr ⟨by rfl, rfl⟩) (by assumption) ?_
            (try simp only [Act.put, List.getElem_toArray, List.getElem_cons_succ, List.getElem_cons_zero, List.setIfInBounds_toArray, List.set_cons_zero, List.set_cons_succ])
            refine wpAnyH_take (i := 6) (v := undef) rfl (by kernel_rfl) (by kernel_rfl) (by kernel_rfl) (fun _ _ _ h => h) (Or.inr ⟨by rfl, rfl⟩) (by assumption) ?_
            (try simp only [Act.put, List.getElem_toArray, List.getElem_cons_succ, List.getElem_cons_zero, List.setIfInBounds_toArray, List.set_cons_zero, List.set_cons_succ])
            refine wpAnyH_take (i := 7) (v := undef) rfl (by kernel_rfl) (by kernel_rfl) (by kernel_rfl) (fun _ _ _ h => h) (Or.inr ⟨by rfl, rfl⟩) (by assumption) ?_
            (try simp only [Act.put, List.getElem_toArray, List.getElem_cons_succ, List.getElem_cons_zero, List.setIfInBounds_toArray, List.set_cons_zero, List.set_cons_succ])
            refine wpAnyH_take (i := 8) (v := .bool false) rfl (by kernel_rfl) (by kernel_rfl) (by kernel_rfl) (fun _ _ _ h => h) (Or.inl ⟨by rfl, ?_⟩) (by assumption) ?_
            · intro wx hs1; go_simp
            (try simp only [Act.put, List.getElem_toArray, List.getElem_cons_succ, List.getElem_cons_zero, List.setIfInBounds_toArray, List.set_cons_zero, List.set_cons_succ])
            refine wpAnyH_done (by kernel_rfl) ?_ _
            have HE : Hid ((xs.take (i + 1)).any (wrB c) = false ∧ AbS w w2 p) := Lib.hid ⟨HW.out, HA1.out.keep HB2.out⟩
            go_wp2
            go_roundw
            case rel => exact ⟨i + 1, by omega, by go_num, HE⟩
            case measure => simp [RowKit.intOf]; omega
          · have hne : (xr == -1) = false ∨ ((xr == -1) = true ∧ (xp == 0) = false) := by
              by_cases h1 : xr = -1
              · exact .inr ⟨by simpa using h1, by simpa using fun h2 => hno ⟨h1, h2⟩⟩
              · exact .inl (by simpa using h1)
            have hwr : wrB c (xr, xp) = !ckB c xr xp := by
              unfold wrB
              have : (decide (xr = -1) && decide (xp = 0)) = false := by
                rw [Bool.and_eq_false_iff, decide_eq_false_iff_not, decide_eq_false_iff_not]
                omega
              simp only [this]
              rfl
            clear hno
            cases hcx : ckB c xr xp with
            | true =>
              rw [hcx] at hck hwr
              simp only [if_true] at hck
              have HW : Hid ((xs.take (i + 1)).any (wrB c) = false) := Lib.hid (by rw [HTK.out, hwr]; rfl)
              clear hcx hwr HTK HM
              rcases hne with e1 | ⟨e1, e2⟩
              all_goals
                go_upto_region 7 with fail
                clear hw1
                have hS0 : (fun W => W.cell? ⟨wo.heap.size, 0, none⟩ = some (.int .i64 xr) ∧ W.cell? ⟨wo.heap.size, 1, none⟩ = some (.int .i64 xp)) w1.drew := q0
                refine wp_region_held_drew (S := fun W => W.cell? ⟨wo.heap.size, 0, none⟩ = some (.int .i64 xr) ∧ W.cell? ⟨wo.heap.size, 1, none⟩ = some (.int .i64 xp)) rfl hS0 (fun hHeld => ?_)
                simp only [List.size_toArray, List.length_cons, List.length_nil, Nat.reduceAdd]
                have HB0 : Hid (Below w1.heap.size w1 w1.drew) := Lib.hid (Below.refl _ w1).drew
                obtain ⟨V0, hV0⟩ : ∃ V, w1.drew = V := ⟨_, rfl⟩
                rw [hV0] at hHeld hS0 HB0 ⊢
                clear hV0
                refine wpAnyH_take (i := 0) (v := .agg #[.int .i64 xr, .int .i64 xp]) rfl (by kernel_rfl) (by kernel_rfl) (by kernel_rfl) (fun _ _ _ h => h) (Or.inl ⟨by rfl, ?_⟩) (by assumption) ?_
                · intro wx hs1; obtain ⟨s0, s1⟩ := hs1; go_simp
                (try simp only [Act.put, List.getElem_toArray, List.getElem_cons_zero, List.setIfInBounds_toArray, List.set_cons_zero, List.set_cons_succ])
                refine wpAnyH_ready (rs := [1]) (by kernel_rfl) (by simp) (AllReadyH.cons rfl (fun K hK => ?_) AllReadyH.nil)
                go_simp
                go_at_call 9
                (with_reducible refine (hNo _).mono ?_)
                rintro e w2 ⟨rfl, hb2⟩
                dsimp only
                have HB2 : Hid (Below w1.heap.size w1 w2) := Lib.hid (HB0.out.trans (hb2.mono HB0.out.size)); clear hb2; have hS := HS.out _ HB2.out
                refine hK.out _ _ hS (fun _ => ?_)
                clear hK K
                (try simp only [Act.put, List.getElem_toArray, List.getElem_cons_succ, List.getElem_cons_zero, List.setIfInBounds_toArray, List.set_cons_zero, List.set_cons_succ])
                refine wpAnyH_take (i := 2) (v := .bool true) rfl (by kernel_rfl) (by kernel_rfl) (by kernel_rfl) (fun _ _ _ h => h) (Or.inl ⟨by rfl, ?_⟩) (by assumption) ?_
                · intro wx hs1; go_simp
                (try simp only [Act.put, List.getElem_toArray, List.getElem_cons_succ, List.getElem_cons_zero, List.setIfInBounds_toArray, List.set_cons_zero, List.set_cons_succ])
                refine wpAnyH_take (i := 3) (v := .bool true) rfl (by kernel_rfl) (by kernel_rfl) (by kernel_rfl) (fun _ _ _ h => h) (Or.inl ⟨by rfl, ?_⟩) (by assumption) ?_
                · intro wx hs1; go_simp
                (try simp only [Act.put, List.getElem_toArray, List.getElem_cons_succ, List.getElem_cons_zero, List.setIfInBounds_toArray, List.set_cons_zero, List.set_cons_succ])
                refine wpAnyH_take (i := 4) (v := .int .i64 c) rfl (by kernel_rfl) (by kernel_rfl) (by kernel_rfl) (fun _ _ _ h => h) (Or.inl ⟨by rfl, ?_⟩) (by assumption) ?_
                · intro wx hs1; go_simp
                (try simp only [Act.put, List.getElem_toArray, List.getElem_cons_succ, List.getElem_cons_zero, List.setIfInBounds_toArray, List.set_cons_zero, List.set_cons_succ])
                refine wpAnyH_take (i := 5) (v := .agg #[.int .i64 xr, .int .i64 xp]) rfl (by kernel_rfl) (by kernel_rfl) (by kernel_rfl) (fun _ _ _ h => h) (Or.inl ⟨by rfl, ?_⟩) (by assumption) ?_
                · intro wx hs1; obtain ⟨s0, s1⟩ := hs1; go_simp
                (try simp only [Act.put, List.getElem_toArray, List.getElem_cons_succ, List.getElem_cons_zero, List.setIfInBounds_toArray, List.set_cons_zero, List.set_cons_succ])
                refine wpAnyH_ready (rs := [6]) (by kernel_rfl) (by simp) (AllReadyH.cons rfl (fun K hK => ?_) AllReadyH.nil)
                go_simp
                go_at_call 10
                (with_reducible refine (hck _).mono ?_)
                rintro e w3 ⟨rfl, hb3⟩
                dsimp only
                have HB3 : Hid (Below w1.heap.size w1 w3) := Lib.hid (HB2.out.trans (hb3.mono HB2.out.size)); clear hb3; have hS := HS.out _ HB3.out
                refine hK.out _ _ hS (fun _ => ?_)
                clear hK K
                (try simp only [Act.put, List.getElem_toArray, List.getElem_cons_succ, List.getElem_cons_zero, List.setIfInBounds_toArray, List.set_cons_zero, List.set_cons_succ])
                refine wpAnyH_take (i := 7) (v := .bool false) rfl (by kernel_rfl) (by kernel_rfl) (by kernel_rfl) (fun _ _ _ h => h) (Or.inl ⟨by rfl, ?_⟩) (by assumption) ?_
                · intro wx hs1; go_simp
                (try simp only [Act.put, List.getElem_toArray, List.getElem_cons_succ, List.getElem_cons_zero, List.setIfInBounds_toArray, List.set_cons_zero, List.set_cons_succ])
                refine wpAnyH_take (i := 8) (v := .bool false) rfl (by kernel_rfl) (by kernel_rfl) (by kernel_rfl) (fun _ _ _ h => h) (Or.inl ⟨by rfl, ?_⟩) (by assumption) ?_
                · intro wx hs1; go_simp
                (try simp only [Act.put, List.getElem_toArray, List.getElem_cons_succ, List.getElem_cons_zero, List.setIfInBounds_toArray, List.set_cons_zero, List.set_cons_succ])
                refine wpAnyH_done (by kernel_rfl) ?_ _
                have HE : Hid ((xs.take (i + 1)).any (wrB c) = false ∧ AbS w w3 p) := Lib.hid ⟨HW.out, HA1.out.keep HB3.out⟩
                go_wp2
                go_roundw
                case rel => exact ⟨i + 1, by omega, by go_num, HE⟩
                case measure => simp [RowKit.intOf]; omega
            | false =>
              rw [hcx] at hck hwr
              simp only [Bool.false_eq_true, if_false] at hck
              have hany : xs.any (wrB c) = true := List.any_eq_true.2 ⟨_, HM.out, hwr⟩
              have HR2 : Hid (((0, 0), 2) = R) := Lib.hid (by have := HR.out; rw [if_pos (.inr hany)] at this; exact this)
              clear hcx hwr HTK HM HR hany
              rcases hne with e1 | ⟨e1, e2⟩
              all_goals
                go_upto_region 7 with fail
                clear hw1
                have hS0 : (fun W => W.cell? ⟨wo.heap.size, 0, none⟩ = some (.int .i64 xr) ∧ W.cell? ⟨wo.heap.size, 1, none⟩ = some (.int .i64 xp)) w1.drew := q0
                refine wp_region_held_drew (S := fun W => W.cell? ⟨wo.heap.size, 0, none⟩ = some (.int .i64 xr) ∧ W.cell? ⟨wo.heap.size, 1, none⟩ = some (.int .i64 xp)) rfl hS0 (fun hHeld => ?_)
                simp only [List.size_toArray, List.length_cons, List.length_nil, Nat.reduceAdd]
                have HB0 : Hid (Below w1.heap.size w1 w1.drew) := Lib.hid (Below.refl _ w1).drew
                obtain ⟨V0, hV0⟩ : ∃ V, w1.drew = V := ⟨_, rfl⟩
                rw [hV0] at hHeld hS0 HB0 ⊢
                clear hV0
                refine wpAnyH_take (i := 0) (v := .agg #[.int .i64 xr, .int .i64 xp]) rfl (by kernel_rfl) (by kernel_rfl) (by kernel_rfl) (fun _ _ _ h => h) (Or.inl ⟨by rfl, ?_⟩) (by assumption) ?_
                · intro wx hs1; obtain ⟨s0, s1⟩ := hs1; go_simp
                (try simp only [Act.put, List.getElem_toArray, List.getElem_cons_zero, List.setIfInBounds_toArray, List.set_cons_zero, List.set_cons_succ])
                refine wpAnyH_ready (rs := [1]) (by kernel_rfl) (by simp) (AllReadyH.cons rfl (fun K hK => ?_) AllReadyH.nil)
                go_simp
                go_at_call 9
                (with_reducible refine (hNo _).mono ?_)
                rintro e w2 ⟨rfl, hb2⟩
                dsimp only
                have HB2 : Hid (Below w1.heap.size w1 w2) := Lib.hid (HB0.out.trans (hb2.mono HB0.out.size)); clear hb2; have hS := HS.out _ HB2.out
                refine hK.out _ _ hS (fun _ => ?_)
                clear hK K
                (try simp only [Act.put, List.getElem_toArray, List.getElem_cons_succ, List.getElem_cons_zero, List.setIfInBounds_toArray, List.set_cons_zero, List.set_cons_succ])
                refine wpAnyH_take (i := 2) (v := .bool true) rfl (by kernel_rfl) (by kernel_rfl) (by kernel_rfl) (fun _ _ _ h => h) (Or.inl ⟨by rfl, ?_⟩) (by assumption) ?_
                · intro wx hs1; go_simp
                (try simp only [Act.put, List.getElem_toArray, List.getElem_cons_succ, List.getElem_cons_zero, List.setIfInBounds_toArray, List.set_cons_zero, List.set_cons_succ])
                refine wpAnyH_take (i := 3) (v := .bool true) rfl (by kernel_rfl) (by kernel_rfl) (by kernel_rfl) (fun _ _ _ h => h) (Or.inl ⟨by rfl, ?_⟩) (by assumption) ?_
                · intro wx hs1; go_simp
                (try simp only [Act.put, List.getElem_toArray, List.getElem_cons_succ, List.getElem_cons_zero, List.setIfInBounds_toArray, List.set_cons_zero, List.set_cons_succ])
                refine wpAnyH_take (i := 4) (v := .int .i64 c) rfl (by kernel_rfl) (by kernel_rfl) (by kernel_rfl) (fun _ _ _ h => h) (Or.inl ⟨by rfl, ?_⟩) (by assumption) ?_
                · intro wx hs1; go_simp
                (try simp only [Act.put, List.getElem_toArray, List.getElem_cons_succ, List.getElem_cons_zero, List.setIfInBounds_toArray, List.set_cons_zero, List.set_cons_succ])
                refine wpAnyH_take (i := 5) (v := .agg #[.int .i64 xr, .int .i64 xp]) rfl (by kernel_rfl) (by kernel_rfl) (by kernel_rfl) (fun _ _ _ h => h) (Or.inl ⟨by rfl, ?_⟩) (by assumption) ?_
                · intro wx hs1; obtain ⟨s0, s1⟩ := hs1; go_simp
                (try simp only [Act.put, List.getElem_toArray, List.getElem_cons_succ, List.getElem_cons_zero, List.setIfInBounds_toArray, List.set_cons_zero, List.set_cons_succ])
                refine wpAnyH_ready (rs := [6]) (by kernel_rfl) (by simp) (AllReadyH.cons rfl (fun K hK => ?_) AllReadyH.nil)
                go_simp
                go_at_call 10
                (with_reducible refine (hck _).mono ?_)
                rintro e w3 ⟨rfl, hb3⟩
                dsimp only
                have HB3 : Hid (Below w1.heap.size w1 w3) := Lib.hid (HB2.out.trans (hb3.mono HB2.out.size)); clear hb3; have hS := HS.out _ HB3.out
                refine hK.out _ _ hS (fun _ => ?_)
                clear hK K
                (try simp only [Act.put, List.getElem_toArray, List.getElem_cons_succ, List.getElem_cons_zero, List.setIfInBounds_toArray, List.set_cons_zero, List.set_cons_succ])
                refine wpAnyH_take (i := 7) (v := .bool true) rfl (by kernel_rfl) (by kernel_rfl) (by kernel_rfl) (fun _ _ _ h => h) (Or.inl ⟨by rfl, ?_⟩) (by assumption) ?_
                · intro wx hs1; go_simp
                (try simp only [Act.put, List.getElem_toArray, List.getElem_cons_succ, List.getElem_cons_zero, List.setIfInBounds_toArray, List.set_cons_zero, List.set_cons_succ])
                refine wpAnyH_take (i := 8) (v := .bool true) rfl (by kernel_rfl) (by kernel_rfl) (by kernel_rfl) (fun _ _ _ h => h) (Or.inl ⟨by rfl, ?_⟩) (by assumption) ?_
                · intro wx hs1; go_simp
                (try simp only [Act.put, List.getElem_toArray, List.getElem_cons_succ, List.getElem_cons_zero, List.setIfInBounds_toArray, List.set_cons_zero, List.set_cons_succ])
                refine wpAnyH_done (by kernel_rfl) ?_ _
                have HA3 := Lib.hid (HA1.out.keep HB3.out)
                obtain ⟨⟨a0, a1⟩, _, f0, f1, _⟩ := HA3.out.at
                go_wp2
                obtain ⟨z0, z1⟩ := AbS.put HA3.out.1 (.int .i64 0) (.int .i64 0)
                exact bodyPost_ret (v := .tuple #[.agg #[.int .i64 0, .int .i64 0], .int .i64 2]) (by simp [results, Try.results21, go_sem, z0, z1]) rfl ⟨by rw [← HR2.out], below_put HA3.out.2.2 _ _⟩
      · obtain rfl : i = n := by omega
        have h1 := HI.out.1
        rw [List.take_of_length_le (by rw [HN.out]; exact Nat.le_refl _)] at h1
        have HA : Hid (AbS w wo p) := Lib.hid HI.out.2
        have hbd := topP_bd c (-1, 0) ⟨by decide, by decide⟩ xs h1
        have hR := HR.out
        rw [if_neg (by rw [h1]; simp)] at hR
        obtain ⟨t, ht⟩ : ∃ t, topP (-1, 0) xs = t := ⟨_, rfl⟩
        rw [ht] at hR hbd
        obtain ⟨tr, tp⟩ := t
        have HR := Lib.hid hR
        have HGN : Hid (∀ W, Below w.heap.size w W → Calls Try.prog 44 #[.func (.func 11) #[] #[], .agg #[.int .i64 (-1), .int .i64 0], .slice A i k] W fun e w' => e = .returned (.agg #[.int .i64 tr, .int .i64 tp]) ∧ Below W.heap.size W w') := Lib.hid fun W hb => by
          have h := HG.out W hb
          rw [ht] at h
          exact h
        clear hR ht h1 HI hC HG
        go_upto_region 11 with (first
          | (go_at_call 9; (with_reducible refine (hNo _).mono ?_); rintro e w2 ⟨rfl, hb2⟩; have HA2 : Hid (AbS w w2 p) := Lib.hid (HA.out.keep hb2); have hg2 := HGN.out w2 HA2.out.2.2; clear hb2)
          | (go_at_call 44; (with_reducible refine hg2.mono ?_); clear hg2; rintro e w3 ⟨rfl, hb3⟩; have HA3 : Hid (AbS w w3 p) := Lib.hid (HA2.out.keep hb3); clear hb3; obtain ⟨w4, hw4⟩ : ∃ v, w3.alloc (.cells #[.int .i64 tr, .int .i64 tp] 23) = v := ⟨_, rfl⟩; have HT4 : Hid (AbT w w4 w3.heap.size 1 p tr tp) := Lib.hid (by rw [← hw4]; exact HA3.out.top tr tp)))
        clear hw4
        obtain ⟨D, hD⟩ : ∃ D, w3.heap.size = D := ⟨_, rfl⟩
        rw [hD] at HT4 ⊢
        clear hD
        obtain ⟨_, _, c0, c1, f0, _, d0, d1⟩ := HT4.out.at
        go_upto_region 12 with fail
        clear c0 c1 f0 d0 d1
        have HT5 := Lib.hid (HT4.out.set (max 1 tr))
        obtain ⟨w5, hw5⟩ : ∃ v, w4.setCell ⟨w.heap.size + 1, 0, none⟩ (.int .i64 (max 1 tr)) = v := ⟨_, rfl⟩
        rw [hw5] at HT5 ⊢
        clear hw5 HT4 HA HA2 HA3 HA0
        have hR := HR.out
        unfold upI at hR
        simp only at hR
        have hm1 : 1 ≤ max 1 tr := by omega
        have hm2 : max 1 tr ≤ 2147483647 := by omega
        obtain ⟨m, hm⟩ : ∃ m, max 1 tr = m := ⟨_, rfl⟩
        rw [hm] at hR hm1 hm2 HT5 ⊢
        clear hm hbd HR
        have hm3 := ckB_up HBP.out hm1
        rw [decide_eq_true hm2] at hm3
        have hm4 := ckB_up (r := m + 1) HBP.out (by omega)
        obtain ⟨_, _, c0, c1, f0, _, d0, d1⟩ := HT5.out.at
        have hcm := HCM.out m p tr tp w5
        have hgt := cmpB_gt m p tr tp
        obtain ⟨q, hq⟩ : ∃ q, cmpB m p tr tp = q := ⟨_, rfl⟩
        rw [hq] at hcm hgt
        clear hq
        cases hl : lessB tr tp m p with
        | true =>
          rw [hl] at hR hgt
          have hq := hgt.2 rfl
          rw [if_pos rfl, if_pos hm2] at hR
          have HR := Lib.hid hR
          have hck := HCK.out m p
          rw [hm3, if_pos rfl] at hck
          clear hgt hl hR hm3 hm4 HBP
          go_wp2_with (first
            | (go_at_call 11; (with_reducible refine hcm.mono ?_); clear hcm; rintro e w6 ⟨rfl, hb6⟩; have HT6 : Hid (AbT w w6 D m p tr tp) := Lib.hid (HT5.out.keep hb6); clear hb6; obtain ⟨_, _, e0, e1, _⟩ := HT6.out.at)
            | (go_at_call 10; (with_reducible refine (hck _).mono ?_); rintro e w7 ⟨rfl, hb7⟩; have HT7 : Hid (AbT w w7 D m p tr tp) := Lib.hid (HT6.out.keep hb7); clear hb7; obtain ⟨g0, g1, e2, e3, _⟩ := HT7.out.at))
          obtain ⟨z0, z1⟩ := AbS.put HT7.out.r (.int .i64 m) (.int .i64 p)
          exact bodyPost_ret (v := .tuple #[.agg #[.int .i64 m, .int .i64 p], .int .i64 0]) (by simp [results, Try.results21, go_sem, z0, z1]) rfl ⟨by rw [← HR.out], below_put HT7.out.b _ _⟩
        | false =>
          rw [hl] at hR hgt
          have hq : ¬ 0 < q := fun h => by have := hgt.1 h; cases this
          simp only [Bool.false_eq_true, if_false] at hR
          have hck := HCK.out (m + 1) p
          rw [hm4] at hck
          clear hgt hl hm3 hm4 HBP
          by_cases h7 : m + 1 ≤ 2147483647
          · rw [if_pos h7] at hR
            rw [decide_eq_true h7, if_pos rfl] at hck
            have HR := Lib.hid hR
            clear hR
            go_wp2_with (first
              | (go_at_call 11; (with_reducible refine hcm.mono ?_); clear hcm; rintro e w6 ⟨rfl, hb6⟩; have HT6 : Hid (AbT w w6 D m p tr tp) := Lib.hid (HT5.out.keep hb6); clear hb6; obtain ⟨_, _, e0, e1, f6, _⟩ := HT6.out.at)
              | (go_at_call 10; (with_reducible refine (hck _).mono ?_); rintro e w7 ⟨rfl, hb7⟩; have HT7 : Hid (AbT w w7 D (m + 1) p tr tp) := Lib.hid ((HT6.out.set (m + 1)).keep hb7); clear hb7; obtain ⟨g0, g1, e2, e3, _⟩ := HT7.out.at))
            obtain ⟨z0, z1⟩ := AbS.put HT7.out.r (.int .i64 (m + 1)) (.int .i64 p)
            exact bodyPost_ret (v := .tuple #[.agg #[.int .i64 (m + 1), .int .i64 p], .int .i64 0]) (by simp [results, Try.results21, go_sem, z0, z1]) rfl ⟨by rw [← HR.out], below_put HT7.out.b _ _⟩
          · rw [if_neg h7] at hR
            rw [decide_eq_false h7, if_neg (by decide)] at hck
            have HR := Lib.hid hR
            clear hR
            go_wp2_with (first
              | (go_at_call 11; (with_reducible refine hcm.mono ?_); clear hcm; rintro e w6 ⟨rfl, hb6⟩; have HT6 : Hid (AbT w w6 D m p tr tp) := Lib.hid (HT5.out.keep hb6); clear hb6; obtain ⟨_, _, e0, e1, f6, _⟩ := HT6.out.at)
              | (go_at_call 10; (with_reducible refine (hck _).mono ?_); rintro e w7 ⟨rfl, hb7⟩; have HT7 : Hid (AbT w w7 D (m + 1) p tr tp) := Lib.hid ((HT6.out.set (m + 1)).keep hb7); clear hb7; obtain ⟨g0, g1, e2, e3, _, ⟨k0, k1⟩, _⟩ := HT7.out.at))
            obtain ⟨z0, z1⟩ := AbS.put HT7.out.r (.int .i64 0) (.int .i64 0)
            exact bodyPost_ret (v := .tuple #[.agg #[.int .i64 0, .int .i64 0], .int .i64 230]) (by simp [results, Try.results21, go_sem, z0, z1]) rfl ⟨by rw [← HR.out], below_put HT7.out.b _ _⟩
end Go.Proofs
