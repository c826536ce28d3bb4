/-
  ballot: the document's Above. Conditions: as each theorem names them.
-/
import Derived.Test.YtjdmnajjfikehaaBaF
namespace Go.Proofs
open Go Go.RowKit Sm Go.Lib
attribute [local go_sem] Oper.semAt_some
/-- what lies while others are gone over -/
def Sm.AbU (w wr : World) (tr tp : Int) : Prop := wr.heap[w.heap.size]? = some (.cells #[.int .i64 0, .int .i64 0] 23 (0, 0)) ∧ wr.heap[w.heap.size + 1]? = some (.cells #[.int .i64 tr, .int .i64 tp] 23 (0, 0)) ∧ Below w.heap.size w wr
theorem Sm.AbU.keep {w wr wr' : World} {tr tp : Int} (h : AbU w wr tr tp) (hb : Below wr.heap.size wr wr') : AbU w wr' tr tp :=
  ⟨(hb.block _ (Array.getElem?_eq_some_iff.1 h.1).1).trans h.1, (hb.block _ (Array.getElem?_eq_some_iff.1 h.2.1).1).trans h.2.1, h.2.2.trans (hb.mono h.2.2.size)⟩
theorem Sm.AbU.at {w wr : World} {tr tp : Int} (h : AbU w wr tr tp) : (wr.cell? ⟨w.heap.size, 0, none⟩ = some (.int .i64 0) ∧ wr.cell? ⟨w.heap.size, 1, none⟩ = some (.int .i64 0)) ∧ (wr.cell? ⟨w.heap.size + 1, 0, none⟩ = some (.int .i64 tr) ∧ wr.cell? ⟨w.heap.size + 1, 1, none⟩ = some (.int .i64 tp)) ∧
    wr.frozen? ⟨w.heap.size, 0, none⟩ = false ∧ wr.frozen? ⟨w.heap.size, 1, none⟩ = false ∧ wr.frozen? ⟨w.heap.size + 1, 0, none⟩ = false ∧ wr.frozen? ⟨w.heap.size + 1, 1, none⟩ = false :=
  ⟨⟨cell_of_heap h.1 0, cell_of_heap h.1 1⟩, ⟨cell_of_heap h.2.1 0, cell_of_heap h.2.1 1⟩, frozen_of_heap h.1 0, frozen_of_heap h.1 1, frozen_of_heap h.2.1 0, frozen_of_heap h.2.1 1⟩
theorem Sm.AbU.new {w W : World} (h : W.heap[w.heap.size]? = some (.cells #[.int .i64 0, .int .i64 0] 23 (0, 0))) (hz : W.heap.size = w.heap.size + 1) (hb : Below w.heap.size w W) (tr tp : Int) : AbU w (W.alloc (.cells #[.int .i64 tr, .int .i64 tp] 23)) tr tp := by
  refine ⟨(Below.heap_alloc _ _ _ (Array.getElem?_eq_some_iff.1 h).1).trans h, ?_, hb.alloc (by omega) _⟩
  rw [← hz]
  exact World.alloc_heap_new W _
theorem Sm.AbU.set {w W : World} {tr tp : Int} (h : AbU w W tr tp) (xr xp : Int) : AbU w ((W.setCell ⟨w.heap.size + 1, 0, none⟩ (.int .i64 xr)).setCell ⟨w.heap.size + 1, 1, none⟩ (.int .i64 xp)) xr xp :=
  ⟨(heap_setOther (by omega)).trans ((heap_setOther (by omega)).trans h.1), heap_setCells (i := 1) (u := .int .i64 xp) (heap_setCells (i := 0) (u := .int .i64 xr) h.2.1), (h.2.2.setCell (p := ⟨w.heap.size + 1, 0, none⟩) (by simp) _).setCell (p := ⟨w.heap.size + 1, 1, none⟩) (by simp) _⟩
theorem Sm.AbU.top {w wr : World} {tr tp : Int} (h : AbU w wr tr tp) (m p : Int) : AbT w (wr.alloc (.cells #[.int .i64 m, .int .i64 p] 23)) wr.heap.size tr tp m p := by
  have hb : Below wr.heap.size wr (wr.alloc (.cells #[.int .i64 m, .int .i64 p] 23)) := (Below.refl _ _).alloc (Nat.le_refl _) _
  have h2 := h.keep hb
  exact ⟨h2.1, h2.2.1, World.alloc_heap_new _ _, (Array.getElem?_eq_some_iff.1 h.2.1).1, h2.2.2⟩
theorem Sm.AbT.set2 {w W : World} {D : Nat} {m p tr tp : Int} (h : AbT w W D m p tr tp) (m2 : Int) : AbT w (W.setCell ⟨D, 0, none⟩ (.int .i64 m2)) D m p m2 tp :=
  ⟨(heap_setOther (by have := h.d; omega)).trans h.r, (heap_setOther (by have := h.d; omega)).trans h.o, heap_setCells (i := 0) (u := .int .i64 m2) h.t, h.d, h.b.setCell (p := ⟨D, 0, none⟩) (by have := h.d; simp; omega) _⟩
theorem Sm.AbT.fz {w W : World} {D : Nat} {m p tr tp : Int} (h : AbT w W D m p tr tp) : W.frozen? ⟨D, 0, none⟩ = false := frozen_of_heap h.t 0
set_option maxRecDepth 100000 in
set_option maxHeartbeats 4000000 in
theorem Sm.rAbove_any (c p : Int) (A : Option Addr) (n k : Nat) (xs : List (Int × Int)) (w : World) (h : RowP w A n k xs) :
    Calls Try.prog 22 #[.int .i64 c, .int .i64 p, .slice A n k] w fun e w' => e = .returned (.tuple #[.agg #[.int .i64 (aboV c p xs).1.1, .int .i64 (aboV c p xs).1.2], .int .i64 (aboV c p xs).2]) ∧ Below w.heap.size w w' := by
  have hRt := fun W => Right_any c W
  have hPl := fun W => Place_any c p W
  obtain ⟨R, hR⟩ : ∃ R : (Int × Int) × Int, aboV c p xs = R := ⟨_, rfl⟩
  rw [hR]
  unfold aboV at hR
  obtain ⟨w0, hw0⟩ : ∃ v, w.alloc (.cells #[.int .i64 0, .int .i64 0] 23) = v := ⟨_, rfl⟩
  have hq0 : w0.heap[w.heap.size]? = some (.cells #[.int .i64 0, .int .i64 0] 23 (0, 0)) := by rw [← hw0]; exact World.alloc_heap_new w _
  have hz0 : w0.heap.size = w.heap.size + 1 := by rw [← hw0]; simp
  have hb0 : Below w.heap.size w w0 := by rw [← hw0]; exact (Below.refl _ w).alloc (Nat.le_refl _) _
  have HU := Lib.hid (AbU.new hq0 hz0 hb0 (-1) 0)
  have HZ0 := Lib.hid hz0
  cases hbp : bpB c p with
  | false =>
    rw [hbp, if_pos (.inl rfl)] at hR
    unfold bpB at hbp
    have HR := Lib.hid hR
    have HB0 := Lib.hid hb0
    have HQ0 := Lib.hid hq0
    have r0 := cell_of_heap hq0 0
    have r1 := cell_of_heap hq0 1
    have f0 := frozen_of_heap hq0 0
    have f1 := frozen_of_heap hq0 1
    simp only [List.getElem?_toArray, List.getElem?_cons_zero, List.getElem?_cons_succ] at r0 r1
    clear h hb0 hR hq0 hz0 HU
    cases hc : chB c with
    | false =>
      rw [hc] at hRt
      clear hbp hc
      go_enter Try.func22, Try.ntmps22
      go_wp2_with (go_at_call 31; (with_reducible refine (hRt _).mono ?_); rintro e w' ⟨rfl, rfl⟩)
      obtain ⟨z0, z1⟩ := AbS.put HQ0.out (.int .i64 0) (.int .i64 0)
      exact bodyPost_ret (v := .tuple #[.agg #[.int .i64 0, .int .i64 0], .int .i64 2]) (by simp [results, Try.results22, go_sem, z0, z1]) rfl ⟨by rw [← HR.out], below_put HB0.out _ _⟩
    | true =>
      rw [hc, Bool.true_and] at hbp
      rw [hc] at hRt
      rw [hbp] at hPl
      clear hbp hc
      go_enter Try.func22, Try.ntmps22
      go_wp2_with (first | (go_at_call 31; (with_reducible refine (hRt _).mono ?_); rintro e w' ⟨rfl, rfl⟩) | (go_at_call 40; (with_reducible refine (hPl _).mono ?_); rintro e w' ⟨rfl, rfl⟩))
      obtain ⟨z0, z1⟩ := AbS.put HQ0.out (.int .i64 0) (.int .i64 0)
      exact bodyPost_ret (v := .tuple #[.agg #[.int .i64 0, .int .i64 0], .int .i64 2]) (by simp [results, Try.results22, go_sem, z0, z1]) rfl ⟨by rw [← HR.out], below_put HB0.out _ _⟩
  | true =>
    have HBP := Lib.hid hbp
    unfold bpB at hbp
    rw [Bool.and_eq_true] at hbp
    rw [hbp.1] at hRt
    rw [hbp.2] at hPl
    rw [HBP.out] at hR
    obtain ⟨hn, hnc, hn1, hx⟩ := id h
    have hCk := fun r p W => rRight_any c r p W
    have hNo := fun r p W => rNone_any r p W
    have hLe := fun r p r2 p2 W => Less_any r p r2 p2 W
    have HX := Lib.hid hx
    have HN := Lib.hid hn
    have HCK := Lib.hid hCk
    have HNO := Lib.hid hNo
    have HLE := Lib.hid hLe
    have hnI : (n : Int) ≤ 1000 := by omega
    have HR := Lib.hid hR
    subst hw0
    clear h hx hn hCk hNo hLe hbp hR hq0 hb0 hz0 HZ0
    go_enter Try.func22, Try.ntmps22
    go_wp2_with (first | (go_at_call 31; (with_reducible refine (hRt _).mono ?_); rintro e w' ⟨rfl, rfl⟩) | (go_at_call 40; (with_reducible refine (hPl _).mono ?_); rintro e w' ⟨rfl, rfl⟩))
    go_loopw [9] (fun v9 wr => ∃ i : Nat, i ≤ n ∧ v9 = .int .i64 (i : Int) ∧ Hid ((xs.take i).any (wrB c) = false ∧ ∃ t, t = topP (-1, 0) (xs.take i) ∧ AbU w wr t.1 t.2)) (fun v9 _ => n - (RowKit.intOf v9).toNat)
    case atStart => exact ⟨0, Nat.zero_le _, rfl, Lib.hid ⟨rfl, (-1, 0), rfl, HU.out⟩⟩
    case round =>
      obtain ⟨wo, rfl⟩ : ∃ wo : World, wo = wr := ⟨_, rfl⟩
      obtain ⟨i, hi, rfl, HI⟩ := hrel
      clear HU
      obtain ⟨⟨tr, tp⟩, ht, hu⟩ := HI.out.2
      have HT := Lib.hid ht
      have HU : Hid (AbU w wo tr tp) := Lib.hid hu
      have hany := HI.out.1
      have HAN := Lib.hid hany
      clear ht hu HI hany
      by_cases hlt : i < n
      · have hkx : i < xs.length := by rw [HN.out]; exact hlt
        rcases HX.out with e | ⟨g, off, rfl, hg, hcl⟩
        · rw [e] at hkx; simp at hkx
        · obtain ⟨ck0, ck1⟩ := hcl i hkx
          have hmem : xs[i] ∈ xs := List.getElem_mem hkx
          have htk : (xs.take (i + 1)).any (wrB c) = wrB c xs[i] := by
            rw [List.take_succ_eq_append_getElem hkx, List.any_append, HAN.out]; simp
          have htt := topP_take (-1, 0) xs hkx
          rw [← HT.out] at htt
          obtain ⟨x, hx⟩ : ∃ x, xs[i] = x := ⟨_, rfl⟩
          rw [hx] at ck0 ck1 htk hmem htt
          obtain ⟨xr, xp⟩ := x
          have HS : Hid (∀ W, Below w.heap.size w W → W.cell? ⟨g, off + i * 2, none⟩ = some (.int .i64 xr) ∧ W.cell? ⟨g, off + i * 2 + 1, none⟩ = some (.int .i64 xp)) := Lib.hid fun W hb => ⟨(hb.cell (p := ⟨g, off + i * 2, none⟩) hg).trans ck0, (hb.cell (p := ⟨g, off + i * 2 + 1, none⟩) hg).trans ck1⟩
          have hbo := HU.out.2.2
          have hgl := Nat.lt_of_lt_of_le hg hbo.size
          obtain ⟨d0, d1⟩ := HS.out wo hbo
          clear hcl hx ck0 ck1 hbo
          have HTK := Lib.hid htk
          have HTT := Lib.hid htt
          have HM := Lib.hid hmem
          clear htk hmem htt HT HAN
          have hck := HCK.out xr xp
          have hno := HNO.out xr xp
          have hwr : wrB c (xr, xp) = (!(decide (xr = -1) && decide (xp = 0)) && !ckB c xr xp) := rfl
          obtain ⟨y, hy⟩ : ∃ y, (decide (xr = -1) && decide (xp = 0)) = y := ⟨_, rfl⟩
          obtain ⟨x, hx⟩ : ∃ x, ckB c xr xp = x := ⟨_, rfl⟩
          rw [hx] at hck hwr
          rw [hy] at hno hwr
          clear hx hy
          by_cases hb : y = false ∧ x = false
          · obtain ⟨rfl, rfl⟩ := hb
            have hany : xs.any (wrB c) = true := List.any_eq_true.2 ⟨_, HM.out, hwr⟩
            have HR2 : Hid (((0, 0), 2) = R) := Lib.hid (by have := HR.out; rw [if_pos (.inr hany)] at this; exact this)
            clear hwr HTK HTT HM HR hany
            go_wp2_with (first
              | (go_at_call 14; (with_reducible refine (hck _).mono ?_); rintro e w2 ⟨rfl, hb2⟩; have HU2 : Hid (AbU w w2 tr tp) := Lib.hid (HU.out.keep hb2); clear hb2; obtain ⟨e0, e1⟩ := HS.out w2 HU2.out.2.2; have hgl2 := Nat.lt_of_lt_of_le hg HU2.out.2.2.size)
              | (go_at_call 45; (with_reducible refine (hno _).mono ?_); rintro e w3 ⟨rfl, hb3⟩; have HU3 : Hid (AbU w w3 tr tp) := Lib.hid (HU2.out.keep hb3); clear hb3; obtain ⟨⟨a0, a1⟩, _, f0, f1, _⟩ := HU3.out.at))
            obtain ⟨z0, z1⟩ := AbS.put HU3.out.1 (.int .i64 0) (.int .i64 0)
            exact bodyPost_ret (v := .tuple #[.agg #[.int .i64 0, .int .i64 0], .int .i64 2]) (by simp [results, Try.results22, go_sem, z0, z1]) rfl ⟨by rw [← HR2.out], below_put HU3.out.2.2 _ _⟩
          · have HW : Hid ((xs.take (i + 1)).any (wrB c) = false) := Lib.hid (by rw [HTK.out, hwr]; cases y <;> cases x <;> first | rfl | exact absurd ⟨rfl, rfl⟩ hb)
            clear hwr HTK HM
            rcases (show x = true ∨ (x = false ∧ y = true) by cases y <;> cases x <;> simp at hb ⊢) with rfl | ⟨rfl, rfl⟩
            · clear hb
              go_upto_region 9 with (first | (go_at_call 14; (with_reducible refine (hck _).mono ?_); rintro e w2 ⟨rfl, hb2⟩; have HU2 : Hid (AbU w w2 tr tp) := Lib.hid (HU.out.keep hb2); clear hb2; obtain ⟨e0, e1⟩ := HS.out w2 HU2.out.2.2; have hgl2 := Nat.lt_of_lt_of_le hg HU2.out.2.2.size))
              have HS9 : Hid (∀ W, Below w2.heap.size w2 W → W.cell? ⟨g, off + i * 2, none⟩ = some (.int .i64 xr) ∧ W.cell? ⟨g, off + i * 2 + 1, none⟩ = some (.int .i64 xp) ∧ W.cell? ⟨w.heap.size + 1, 0, none⟩ = some (.int .i64 tr) ∧ W.cell? ⟨w.heap.size + 1, 1, none⟩ = some (.int .i64 tp)) := Lib.hid fun W hb => by
                have h := HU2.out.keep hb
                exact ⟨(HS.out W h.2.2).1, (HS.out W h.2.2).2, cell_of_heap h.2.1 0, cell_of_heap h.2.1 1⟩
              have q9 := HS9.out w2 (Below.refl _ _)
              have hle := HLE.out tr tp xr xp
              cases hl : lessB tr tp xr xp with
              | true =>
                rw [hl] at hle
                have HTN : Hid ((xr, xp) = topP (-1, 0) (xs.take (i + 1))) := Lib.hid (by rw [HTT.out]; unfold gtP; rw [if_pos hl])
                clear hl HTT
                refine wp_region_held_drew (S := fun W => W.cell? ⟨g, off + i * 2, none⟩ = some (.int .i64 xr) ∧ W.cell? ⟨g, off + i * 2 + 1, none⟩ = some (.int .i64 xp) ∧ W.cell? ⟨w.heap.size + 1, 0, none⟩ = some (.int .i64 tr) ∧ W.cell? ⟨w.heap.size + 1, 1, none⟩ = some (.int .i64 tp)) rfl q9 (fun hHeld => ?_)
                simp only [List.size_toArray, List.length_cons, List.length_nil, Nat.reduceAdd]
                have HB0 : Hid (Below w2.heap.size w2 w2.drew) := Lib.hid (Below.refl _ _).drew
                have hS0 : (fun W => W.cell? ⟨g, off + i * 2, none⟩ = some (.int .i64 xr) ∧ W.cell? ⟨g, off + i * 2 + 1, none⟩ = some (.int .i64 xp) ∧ W.cell? ⟨w.heap.size + 1, 0, none⟩ = some (.int .i64 tr) ∧ W.cell? ⟨w.heap.size + 1, 1, none⟩ = some (.int .i64 tp)) w2.drew := q9
                obtain ⟨V0, hV0⟩ : ∃ V, w2.drew = V := ⟨_, rfl⟩
                rw [hV0] at hHeld hS0 HB0 ⊢
                clear hV0
                refine wpAnyH_take (i := 0) (v := .agg #[.int .i64 tr, .int .i64 tp]) rfl (by kernel_rfl) (by kernel_rfl) (by kernel_rfl) (fun _ _ _ h => h) (Or.inl ⟨by rfl, ?_⟩) (by assumption) ?_
                · intro wx hs1; obtain ⟨s0, s1, s2, s3⟩ := hs1; go_simp
                (try simp only [Act.put, List.getElem_toArray, List.getElem_cons_zero, List.setIfInBounds_toArray, List.set_cons_zero, List.set_cons_succ])
                refine wpAnyH_take (i := 1) (v := .slice (some ⟨g, off, none⟩) n k) rfl (by kernel_rfl) (by kernel_rfl) (by kernel_rfl) (fun _ _ _ h => h) (Or.inl ⟨by rfl, ?_⟩) (by assumption) ?_
                · intro wx hs1; go_simp
                (try simp only [Act.put, List.getElem_toArray, List.getElem_cons_succ, List.getElem_cons_zero, List.setIfInBounds_toArray, List.set_cons_zero, List.set_cons_succ])
                refine wpAnyH_take (i := 2) (v := .int .i64 (i : Int)) rfl (by kernel_rfl) (by kernel_rfl) (by kernel_rfl) (fun _ _ _ h => h) (Or.inl ⟨by rfl, ?_⟩) (by assumption) ?_
                · intro wx hs1; go_simp
                (try simp only [Act.put, List.getElem_toArray, List.getElem_cons_succ, List.getElem_cons_zero, List.setIfInBounds_toArray, List.set_cons_zero, List.set_cons_succ])
                refine wpAnyH_take (i := 3) (v := .pointer (some ⟨g, off + i * 2, none⟩)) rfl (by kernel_rfl) (by kernel_rfl) (by kernel_rfl) (fun _ _ _ h => h) (Or.inl ⟨by rfl, ?_⟩) (by assumption) ?_
                · intro wx hs1; go_simp
                (try simp only [Act.put, List.getElem_toArray, List.getElem_cons_succ, List.getElem_cons_zero, List.setIfInBounds_toArray, List.set_cons_zero, List.set_cons_succ])
                refine wpAnyH_take (i := 4) (v := .agg #[.int .i64 xr, .int .i64 xp]) rfl (by kernel_rfl) (by kernel_rfl) (by kernel_rfl) (fun _ _ _ h => h) (Or.inl ⟨by rfl, ?_⟩) (by assumption) ?_
                · intro wx hs1; obtain ⟨s0, s1, s2, s3⟩ := hs1; go_simp
                (try simp only [Act.put, List.getElem_toArray, List.getElem_cons_succ, List.getElem_cons_zero, List.setIfInBounds_toArray, List.set_cons_zero, List.set_cons_succ])
                refine wpAnyH_ready (rs := [5]) (by kernel_rfl) (by simp) (AllReadyH.cons rfl (fun K hK => ?_) AllReadyH.nil)
                go_simp
                go_at_call 39
                (with_reducible refine (hle _).mono ?_)
                rintro e w9 ⟨rfl, hb9⟩
                dsimp only
                have HB9 : Hid (Below w2.heap.size w2 w9) := Lib.hid (HB0.out.trans (hb9.mono HB0.out.size)); clear hb9; have hS := HS9.out _ HB9.out
                refine hK.out _ _ hS (fun _ => ?_)
                clear hK K
                (try simp only [Act.put, List.getElem_toArray, List.getElem_cons_succ, List.getElem_cons_zero, List.setIfInBounds_toArray, List.set_cons_zero, List.set_cons_succ])
                refine wpAnyH_done (by kernel_rfl) ?_ _
                have HU9 : Hid (AbU w w9 tr tp) := Lib.hid (HU2.out.keep HB9.out)
                obtain ⟨k0, k1⟩ := HS.out w9 HU9.out.2.2
                obtain ⟨_, _, _, _, f2, f3⟩ := HU9.out.at
                have hgl9 := Nat.lt_of_lt_of_le hg HU9.out.2.2.size
                have HE : Hid ((xs.take (i + 1)).any (wrB c) = false ∧ ∃ t, t = topP (-1, 0) (xs.take (i + 1)) ∧ AbU w ((w9.setCell ⟨w.heap.size + 1, 0, none⟩ (.int .i64 xr)).setCell ⟨w.heap.size + 1, 1, none⟩ (.int .i64 xp)) t.1 t.2) := Lib.hid ⟨HW.out, (xr, xp), HTN.out, HU9.out.set xr xp⟩
                go_wp2
                go_roundw
                case rel => exact ⟨i + 1, by omega, by go_num, HE⟩
                case measure => simp [RowKit.intOf]; omega
              | false =>
                rw [hl] at hle
                have HTN : Hid ((tr, tp) = topP (-1, 0) (xs.take (i + 1))) := Lib.hid (by rw [HTT.out]; unfold gtP; rw [if_neg (by rw [hl]; simp)])
                clear hl HTT
                refine wp_region_held_drew (S := fun W => W.cell? ⟨g, off + i * 2, none⟩ = some (.int .i64 xr) ∧ W.cell? ⟨g, off + i * 2 + 1, none⟩ = some (.int .i64 xp) ∧ W.cell? ⟨w.heap.size + 1, 0, none⟩ = some (.int .i64 tr) ∧ W.cell? ⟨w.heap.size + 1, 1, none⟩ = some (.int .i64 tp)) rfl q9 (fun hHeld => ?_)
                simp only [List.size_toArray, List.length_cons, List.length_nil, Nat.reduceAdd]
                have HB0 : Hid (Below w2.heap.size w2 w2.drew) := Lib.hid (Below.refl _ _).drew
                have hS0 : (fun W => W.cell? ⟨g, off + i * 2, none⟩ = some (.int .i64 xr) ∧ W.cell? ⟨g, off + i * 2 + 1, none⟩ = some (.int .i64 xp) ∧ W.cell? ⟨w.heap.size + 1, 0, none⟩ = some (.int .i64 tr) ∧ W.cell? ⟨w.heap.size + 1, 1, none⟩ = some (.int .i64 tp)) w2.drew := q9
                obtain ⟨V0, hV0⟩ : ∃ V, w2.drew = V := ⟨_, rfl⟩
                rw [hV0] at hHeld hS0 HB0 ⊢
                clear hV0
                refine wpAnyH_take (i := 0) (v := .agg #[.int .i64 tr, .int .i64 tp]) rfl (by kernel_rfl) (by kernel_rfl) (by kernel_rfl) (fun _ _ _ h => h) (Or.inl ⟨by rfl, ?_⟩) (by assumption) ?_
                · intro wx hs1; obtain ⟨s0, s1, s2, s3⟩ := hs1; go_simp
                (try simp only [Act.put, List.getElem_toArray, List.getElem_cons_zero, List.setIfInBounds_toArray, List.set_cons_zero, List.set_cons_succ])
                refine wpAnyH_take (i := 1) (v := .slice (some ⟨g, off, none⟩) n k) rfl (by kernel_rfl) (by kernel_rfl) (by kernel_rfl) (fun _ _ _ h => h) (Or.inl ⟨by rfl, ?_⟩) (by assumption) ?_
                · intro wx hs1; go_simp
                (try simp only [Act.put, List.getElem_toArray, List.getElem_cons_succ, List.getElem_cons_zero, List.setIfInBounds_toArray, List.set_cons_zero, List.set_cons_succ])
                refine wpAnyH_take (i := 2) (v := .int .i64 (i : Int)) rfl (by kernel_rfl) (by kernel_rfl) (by kernel_rfl) (fun _ _ _ h => h) (Or.inl ⟨by rfl, ?_⟩) (by assumption) ?_
                · intro wx hs1; go_simp
                (try simp only [Act.put, List.getElem_toArray, List.getElem_cons_succ, List.getElem_cons_zero, List.setIfInBounds_toArray, List.set_cons_zero, List.set_cons_succ])
                refine wpAnyH_take (i := 3) (v := .pointer (some ⟨g, off + i * 2, none⟩)) rfl (by kernel_rfl) (by kernel_rfl) (by kernel_rfl) (fun _ _ _ h => h) (Or.inl ⟨by rfl, ?_⟩) (by assumption) ?_
                · intro wx hs1; go_simp
                (try simp only [Act.put, List.getElem_toArray, List.getElem_cons_succ, List.getElem_cons_zero, List.setIfInBounds_toArray, List.set_cons_zero, List.set_cons_succ])
                refine wpAnyH_take (i := 4) (v := .agg #[.int .i64 xr, .int .i64 xp]) rfl (by kernel_rfl) (by kernel_rfl) (by kernel_rfl) (fun _ _ _ h => h) (Or.inl ⟨by rfl, ?_⟩) (by assumption) ?_
                · intro wx hs1; obtain ⟨s0, s1, s2, s3⟩ := hs1; go_simp
                (try simp only [Act.put, List.getElem_toArray, List.getElem_cons_succ, List.getElem_cons_zero, List.setIfInBounds_toArray, List.set_cons_zero, List.set_cons_succ])
                refine wpAnyH_ready (rs := [5]) (by kernel_rfl) (by simp) (AllReadyH.cons rfl (fun K hK => ?_) AllReadyH.nil)
                go_simp
                go_at_call 39
                (with_reducible refine (hle _).mono ?_)
                rintro e w9 ⟨rfl, hb9⟩
                dsimp only
                have HB9 : Hid (Below w2.heap.size w2 w9) := Lib.hid (HB0.out.trans (hb9.mono HB0.out.size)); clear hb9; have hS := HS9.out _ HB9.out
                refine hK.out _ _ hS (fun _ => ?_)
                clear hK K
                (try simp only [Act.put, List.getElem_toArray, List.getElem_cons_succ, List.getElem_cons_zero, List.setIfInBounds_toArray, List.set_cons_zero, List.set_cons_succ])
                refine wpAnyH_done (by kernel_rfl) ?_ _
                have HU9 : Hid (AbU w w9 tr tp) := Lib.hid (HU2.out.keep HB9.out)
                obtain ⟨k0, k1⟩ := HS.out w9 HU9.out.2.2
                obtain ⟨_, _, _, _, f2, f3⟩ := HU9.out.at
                have hgl9 := Nat.lt_of_lt_of_le hg HU9.out.2.2.size
                have HE : Hid ((xs.take (i + 1)).any (wrB c) = false ∧ ∃ t, t = topP (-1, 0) (xs.take (i + 1)) ∧ AbU w w9 t.1 t.2) := Lib.hid ⟨HW.out, (tr, tp), HTN.out, HU9.out⟩
                go_wp2
                go_roundw
                case rel => exact ⟨i + 1, by omega, by go_num, HE⟩
                case measure => simp [RowKit.intOf]; omega
            · clear hb
              go_upto_region 9 with (first | (go_at_call 14; (with_reducible refine (hck _).mono ?_); rintro e w2 ⟨rfl, hb2⟩; have HU2 : Hid (AbU w w2 tr tp) := Lib.hid (HU.out.keep hb2); clear hb2; obtain ⟨e0, e1⟩ := HS.out w2 HU2.out.2.2; have hgl2 := Nat.lt_of_lt_of_le hg HU2.out.2.2.size) | (go_at_call 45; (with_reducible refine (hno _).mono ?_); rintro e w3 ⟨rfl, hb3⟩; have HU3 : Hid (AbU w w3 tr tp) := Lib.hid (HU2.out.keep hb3); clear hb3; obtain ⟨e2, e3⟩ := HS.out w3 HU3.out.2.2; have hgl3 := Nat.lt_of_lt_of_le hg HU3.out.2.2.size))
              have HS9 : Hid (∀ W, Below w3.heap.size w3 W → W.cell? ⟨g, off + i * 2, none⟩ = some (.int .i64 xr) ∧ W.cell? ⟨g, off + i * 2 + 1, none⟩ = some (.int .i64 xp) ∧ W.cell? ⟨w.heap.size + 1, 0, none⟩ = some (.int .i64 tr) ∧ W.cell? ⟨w.heap.size + 1, 1, none⟩ = some (.int .i64 tp)) := Lib.hid fun W hb => by
                have h := HU3.out.keep hb
                exact ⟨(HS.out W h.2.2).1, (HS.out W h.2.2).2, cell_of_heap h.2.1 0, cell_of_heap h.2.1 1⟩
              have q9 := HS9.out w3 (Below.refl _ _)
              have hle := HLE.out tr tp xr xp
              cases hl : lessB tr tp xr xp with
              | true =>
                rw [hl] at hle
                have HTN : Hid ((xr, xp) = topP (-1, 0) (xs.take (i + 1))) := Lib.hid (by rw [HTT.out]; unfold gtP; rw [if_pos hl])
                clear hl HTT
                refine wp_region_held_drew (S := fun W => W.cell? ⟨g, off + i * 2, none⟩ = some (.int .i64 xr) ∧ W.cell? ⟨g, off + i * 2 + 1, none⟩ = some (.int .i64 xp) ∧ W.cell? ⟨w.heap.size + 1, 0, none⟩ = some (.int .i64 tr) ∧ W.cell? ⟨w.heap.size + 1, 1, none⟩ = some (.int .i64 tp)) rfl q9 (fun hHeld => ?_)
                simp only [List.size_toArray, List.length_cons, List.length_nil, Nat.reduceAdd]
                have HB0 : Hid (Below w3.heap.size w3 w3.drew) := Lib.hid (Below.refl _ _).drew
                have hS0 : (fun W => W.cell? ⟨g, off + i * 2, none⟩ = some (.int .i64 xr) ∧ W.cell? ⟨g, off + i * 2 + 1, none⟩ = some (.int .i64 xp) ∧ W.cell? ⟨w.heap.size + 1, 0, none⟩ = some (.int .i64 tr) ∧ W.cell? ⟨w.heap.size + 1, 1, none⟩ = some (.int .i64 tp)) w3.drew := q9
                obtain ⟨V0, hV0⟩ : ∃ V, w3.drew = V := ⟨_, rfl⟩
                rw [hV0] at hHeld hS0 HB0 ⊢
                clear hV0
                refine wpAnyH_take (i := 0) (v := .agg #[.int .i64 tr, .int .i64 tp]) rfl (by kernel_rfl) (by kernel_rfl) (by kernel_rfl) (fun _ _ _ h => h) (Or.inl ⟨by rfl, ?_⟩) (by assumption) ?_
                · intro wx hs1; obtain ⟨s0, s1, s2, s3⟩ := hs1; go_simp
                (try simp only [Act.put, List.getElem_toArray, List.getElem_cons_zero, List.setIfInBounds_toArray, List.set_cons_zero, List.set_cons_succ])
                refine wpAnyH_take (i := 1) (v := .slice (some ⟨g, off, none⟩) n k) rfl (by kernel_rfl) (by kernel_rfl) (by kernel_rfl) (fun _ _ _ h => h) (Or.inl ⟨by rfl, ?_⟩) (by assumption) ?_
                · intro wx hs1; go_simp
                (try simp only [Act.put, List.getElem_toArray, List.getElem_cons_succ, List.getElem_cons_zero, List.setIfInBounds_toArray, List.set_cons_zero, List.set_cons_succ])
                refine wpAnyH_take (i := 2) (v := .int .i64 (i : Int)) rfl (by kernel_rfl) (by kernel_rfl) (by kernel_rfl) (fun _ _ _ h => h) (Or.inl ⟨by rfl, ?_⟩) (by assumption) ?_
                · intro wx hs1; go_simp
                (try simp only [Act.put, List.getElem_toArray, List.getElem_cons_succ, List.getElem_cons_zero, List.setIfInBounds_toArray, List.set_cons_zero, List.set_cons_succ])
                refine wpAnyH_take (i := 3) (v := .pointer (some ⟨g, off + i * 2, none⟩)) rfl (by kernel_rfl) (by kernel_rfl) (by kernel_rfl) (fun _ _ _ h => h) (Or.inl ⟨by rfl, ?_⟩) (by assumption) ?_
                · intro wx hs1; go_simp
                (try simp only [Act.put, List.getElem_toArray, List.getElem_cons_succ, List.getElem_cons_zero, List.setIfInBounds_toArray, List.set_cons_zero, List.set_cons_succ])
                refine wpAnyH_take (i := 4) (v := .agg #[.int .i64 xr, .int .i64 xp]) rfl (by kernel_rfl) (by kernel_rfl) (by kernel_rfl) (fun _ _ _ h => h) (Or.inl ⟨by rfl, ?_⟩) (by assumption) ?_
                · intro wx hs1; obtain ⟨s0, s1, s2, s3⟩ := hs1; go_simp
                (try simp only [Act.put, List.getElem_toArray, List.getElem_cons_succ, List.getElem_cons_zero, List.setIfInBounds_toArray, List.set_cons_zero, List.set_cons_succ])
                refine wpAnyH_ready (rs := [5]) (by kernel_rfl) (by simp) (AllReadyH.cons rfl (fun K hK => ?_) AllReadyH.nil)
                go_simp
                go_at_call 39
                (with_reducible refine (hle _).mono ?_)
                rintro e w9 ⟨rfl, hb9⟩
                dsimp only
                have HB9 : Hid (Below w3.heap.size w3 w9) := Lib.hid (HB0.out.trans (hb9.mono HB0.out.size)); clear hb9; have hS := HS9.out _ HB9.out
                refine hK.out _ _ hS (fun _ => ?_)
                clear hK K
                (try simp only [Act.put, List.getElem_toArray, List.getElem_cons_succ, List.getElem_cons_zero, List.setIfInBounds_toArray, List.set_cons_zero, List.set_cons_succ])
                refine wpAnyH_done (by kernel_rfl) ?_ _
                have HU9 : Hid (AbU w w9 tr tp) := Lib.hid (HU3.out.keep HB9.out)
                obtain ⟨k0, k1⟩ := HS.out w9 HU9.out.2.2
                obtain ⟨_, _, _, _, f2, f3⟩ := HU9.out.at
                have hgl9 := Nat.lt_of_lt_of_le hg HU9.out.2.2.size
                have HE : Hid ((xs.take (i + 1)).any (wrB c) = false ∧ ∃ t, t = topP (-1, 0) (xs.take (i + 1)) ∧ AbU w ((w9.setCell ⟨w.heap.size + 1, 0, none⟩ (.int .i64 xr)).setCell ⟨w.heap.size + 1, 1, none⟩ (.int .i64 xp)) t.1 t.2) := Lib.hid ⟨HW.out, (xr, xp), HTN.out, HU9.out.set xr xp⟩
                go_wp2
                go_roundw
                case rel => exact ⟨i + 1, by omega, by go_num, HE⟩
                case measure => simp [RowKit.intOf]; omega
              | false =>
                rw [hl] at hle
                have HTN : Hid ((tr, tp) = topP (-1, 0) (xs.take (i + 1))) := Lib.hid (by rw [HTT.out]; unfold gtP; rw [if_neg (by rw [hl]; simp)])
                clear hl HTT
                refine wp_region_held_drew (S := fun W => W.cell? ⟨g, off + i * 2, none⟩ = some (.int .i64 xr) ∧ W.cell? ⟨g, off + i * 2 + 1, none⟩ = some (.int .i64 xp) ∧ W.cell? ⟨w.heap.size + 1, 0, none⟩ = some (.int .i64 tr) ∧ W.cell? ⟨w.heap.size + 1, 1, none⟩ = some (.int .i64 tp)) rfl q9 (fun hHeld => ?_)
                simp only [List.size_toArray, List.length_cons, List.length_nil, Nat.reduceAdd]
                have HB0 : Hid (Below w3.heap.size w3 w3.drew) := Lib.hid (Below.refl _ _).drew
                have hS0 : (fun W => W.cell? ⟨g, off + i * 2, none⟩ = some (.int .i64 xr) ∧ W.cell? ⟨g, off + i * 2 + 1, none⟩ = some (.int .i64 xp) ∧ W.cell? ⟨w.heap.size + 1, 0, none⟩ = some (.int .i64 tr) ∧ W.cell? ⟨w.heap.size + 1, 1, none⟩ = some (.int .i64 tp)) w3.drew := q9
                obtain ⟨V0, hV0⟩ : ∃ V, w3.drew = V := ⟨_, rfl⟩
                rw [hV0] at hHeld hS0 HB0 ⊢
                clear hV0
                refine wpAnyH_take (i := 0) (v := .agg #[.int .i64 tr, .int .i64 tp]) rfl (by kernel_rfl) (by kernel_rfl) (by kernel_rfl) (fun _ _ _ h => h) (Or.inl ⟨by rfl, ?_⟩) (by assumption) ?_
                · intro wx hs1; obtain ⟨s0, s1, s2, s3⟩ := hs1; go_simp
                (try simp only [Act.put, List.getElem_toArray, List.getElem_cons_zero, List.setIfInBounds_toArray, List.set_cons_zero, List.set_cons_succ])
                refine wpAnyH_take (i := 1) (v := .slice (some ⟨g, off, none⟩) n k) rfl (by kernel_rfl) (by kernel_rfl) (by kernel_rfl) (fun _ _ _ h => h) (Or.inl ⟨by rfl, ?_⟩) (by assumption) ?_
                · intro wx hs1; go_simp
                (try simp only [Act.put, List.getElem_toArray, List.getElem_cons_succ, List.getElem_cons_zero, List.setIfInBounds_toArray, List.set_cons_zero, List.set_cons_succ])
                refine wpAnyH_take (i := 2) (v := .int .i64 (i : Int)) rfl (by kernel_rfl) (by kernel_rfl) (by kernel_rfl) (fun _ _ _ h => h) (Or.inl ⟨by rfl, ?_⟩) (by assumption) ?_
                · intro wx hs1; go_simp
                (try simp only [Act.put, List.getElem_toArray, List.getElem_cons_succ, List.getElem_cons_zero, List.setIfInBounds_toArray, List.set_cons_zero, List.set_cons_succ])
                refine wpAnyH_take (i := 3) (v := .pointer (some ⟨g, off + i * 2, none⟩)) rfl (by kernel_rfl) (by kernel_rfl) (by kernel_rfl) (fun _ _ _ h => h) (Or.inl ⟨by rfl, ?_⟩) (by assumption) ?_
                · intro wx hs1; go_simp
                (try simp only [Act.put, List.getElem_toArray, List.getElem_cons_succ, List.getElem_cons_zero, List.setIfInBounds_toArray, List.set_cons_zero, List.set_cons_succ])
                refine wpAnyH_take (i := 4) (v := .agg #[.int .i64 xr, .int .i64 xp]) rfl (by kernel_rfl) (by kernel_rfl) (by kernel_rfl) (fun _ _ _ h => h) (Or.inl ⟨by rfl, ?_⟩) (by assumption) ?_
                · intro wx hs1; obtain ⟨s0, s1, s2, s3⟩ := hs1; go_simp
                (try simp only [Act.put, List.getElem_toArray, List.getElem_cons_succ, List.getElem_cons_zero, List.setIfInBounds_toArray, List.set_cons_zero, List.set_cons_succ])
                refine wpAnyH_ready (rs := [5]) (by kernel_rfl) (by simp) (AllReadyH.cons rfl (fun K hK => ?_) AllReadyH.nil)
                go_simp
                go_at_call 39
                (with_reducible refine (hle _).mono ?_)
                rintro e w9 ⟨rfl, hb9⟩
                dsimp only
                have HB9 : Hid (Below w3.heap.size w3 w9) := Lib.hid (HB0.out.trans (hb9.mono HB0.out.size)); clear hb9; have hS := HS9.out _ HB9.out
                refine hK.out _ _ hS (fun _ => ?_)
                clear hK K
                (try simp only [Act.put, List.getElem_toArray, List.getElem_cons_succ, List.getElem_cons_zero, List.setIfInBounds_toArray, List.set_cons_zero, List.set_cons_succ])
                refine wpAnyH_done (by kernel_rfl) ?_ _
                have HU9 : Hid (AbU w w9 tr tp) := Lib.hid (HU3.out.keep HB9.out)
                obtain ⟨k0, k1⟩ := HS.out w9 HU9.out.2.2
                obtain ⟨_, _, _, _, f2, f3⟩ := HU9.out.at
                have hgl9 := Nat.lt_of_lt_of_le hg HU9.out.2.2.size
                have HE : Hid ((xs.take (i + 1)).any (wrB c) = false ∧ ∃ t, t = topP (-1, 0) (xs.take (i + 1)) ∧ AbU w w9 t.1 t.2) := Lib.hid ⟨HW.out, (tr, tp), HTN.out, HU9.out⟩
                go_wp2
                go_roundw
                case rel => exact ⟨i + 1, by omega, by go_num, HE⟩
                case measure => simp [RowKit.intOf]; omega
      · obtain rfl : i = n := by omega
        rw [List.take_of_length_le (by rw [HN.out]; exact Nat.le_refl _)] at HAN HT
        have h1 := HAN.out
        have ht := HT.out
        have hbd := topP_bd c (-1, 0) ⟨by decide, by decide⟩ xs h1
        have hR := HR.out
        rw [if_neg (by rw [h1]; simp)] at hR
        rw [← ht] at hR hbd
        unfold upI at hR
        simp only at hR hbd
        clear HR HT HAN ht h1
        obtain ⟨a0, a1⟩ := HU.out.at.2.1
        have hm1 : 1 ≤ max 1 tr := by omega
        have hm2 : max 1 tr ≤ 2147483647 := by omega
        go_upto_region 12 with fail
        obtain ⟨m, hm⟩ : ∃ m, max 1 tr = m := ⟨_, rfl⟩
        rw [hm] at hR hm1 hm2 ⊢
        clear hm hbd a0 a1
        have HT4 := Lib.hid (HU.out.top m p)
        obtain ⟨D, hD⟩ : ∃ D, wo.heap.size = D := ⟨_, rfl⟩
        obtain ⟨w4, hw4⟩ : ∃ v, wo.alloc (.cells #[.int .i64 m, .int .i64 p] 23) = v := ⟨_, rfl⟩
        rw [hD, hw4] at HT4
        rw [hD, hw4]
        clear hD hw4
        obtain ⟨_, _, c0, c1, _, _, d0, d1⟩ := HT4.out.at
        have hle := HLE.out tr tp m p
        cases hl : lessB tr tp m p with
        | true =>
          rw [hl] at hR hle
          rw [if_pos rfl, if_pos hm2] at hR
          have HR := Lib.hid hR
          clear hl hR
          go_wp2_with (go_at_call 39; (with_reducible refine (hle _).mono ?_); clear hle; rintro e w6 ⟨rfl, hb6⟩; have HT6 : Hid (AbT w w6 D tr tp m p) := Lib.hid (HT4.out.keep hb6); clear hb6; obtain ⟨g0, g1, _, _, _, _, e0, e1⟩ := HT6.out.at)
          obtain ⟨z0, z1⟩ := AbS.put HT6.out.r (.int .i64 m) (.int .i64 p)
          exact bodyPost_ret (v := .tuple #[.agg #[.int .i64 m, .int .i64 p], .int .i64 0]) (by simp [results, Try.results22, go_sem, z0, z1]) rfl ⟨by rw [← HR.out], below_put HT6.out.b _ _⟩
        | false =>
          rw [hl] at hR hle
          simp only [Bool.false_eq_true, if_false] at hR
          clear hl
          by_cases h7 : m + 1 ≤ 2147483647
          · rw [if_pos h7] at hR
            have HR := Lib.hid hR
            clear hR
            go_wp2_with (go_at_call 39; (with_reducible refine (hle _).mono ?_); clear hle; rintro e w6 ⟨rfl, hb6⟩; have HT6 : Hid (AbT w w6 D tr tp m p) := Lib.hid (HT4.out.keep hb6); clear hb6; obtain ⟨g0, g1, _, _, _, _, e0, e1⟩ := HT6.out.at; have e2 := HT6.out.fz; obtain ⟨g2, g3, _⟩ := (HT6.out.set2 (m + 1)).at)
            have HT7 := Lib.hid (HT6.out.set2 (m + 1))
            obtain ⟨z0, z1⟩ := AbS.put HT7.out.r (.int .i64 (m + 1)) (.int .i64 p)
            exact bodyPost_ret (v := .tuple #[.agg #[.int .i64 (m + 1), .int .i64 p], .int .i64 0]) (by simp [results, Try.results22, go_sem, z0, z1]) rfl ⟨by rw [← HR.out], below_put HT7.out.b _ _⟩
          · rw [if_neg h7] at hR
            have HR := Lib.hid hR
            clear hR
            go_wp2_with (go_at_call 39; (with_reducible refine (hle _).mono ?_); clear hle; rintro e w6 ⟨rfl, hb6⟩; have HT6 : Hid (AbT w w6 D tr tp m p) := Lib.hid (HT4.out.keep hb6); clear hb6; obtain ⟨g0, g1, _, _, _, ⟨l0, l1⟩, e0, e1⟩ := HT6.out.at; have e2 := HT6.out.fz; obtain ⟨g2, g3, _, _, _, ⟨l2, l3⟩, _⟩ := (HT6.out.set2 (m + 1)).at)
            have HT7 := Lib.hid (HT6.out.set2 (m + 1))
            obtain ⟨z0, z1⟩ := AbS.put HT7.out.r (.int .i64 0) (.int .i64 0)
            exact bodyPost_ret (v := .tuple #[.agg #[.int .i64 0, .int .i64 0], .int .i64 230]) (by simp [results, Try.results22, go_sem, z0, z1]) rfl ⟨by rw [← HR.out], below_put HT7.out.b _ _⟩
end Go.Proofs
