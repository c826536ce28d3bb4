/-
  slots: Next. Conditions: as each theorem names them.
-/
import Derived.Test.YtdiidiaipfkmlaaItrA
import Derived.Test.YtdiidiaipfkmlaaSlI
import Derived.Test.YtdiidiaipfkmlaaSlG
namespace Go.Proofs
open Go Go.RowKit Sm Go.Lib
attribute [local go_sem] Oper.semAt_some
theorem Sm.heap_setCells {w : World} {B i : Nat} {cs : Array Value} {u : Value} {t : TypeId} {fr : Nat × Nat} (h : w.heap[B]? = some (.cells cs t fr)) : (w.setCell ⟨B, i, none⟩ u).heap[B]? = some (.cells (cs.setIfInBounds i u) t fr) := by
  show (w.heap.modify B _)[B]? = _
  rw [Array.getElem?_modify, if_pos rfl, h]
  rfl
theorem Sm.retM1 {n : Nat} {P : Program} {fn : Func} {R : Ending → World → Prop} {a : Act} {w : World} {v : Value} {D : Nat} (hd : a.defers = [{ target := .collected D, args := #[] }]) (hD : w.heap[D]? = some (.deferred (some []))) (hr : (results fn a.tmps).run P (w.putObj D (.deferred none)) = .ok v (w.putObj D (.deferred none))) (hR : R (.returned v) (w.putObj D (.deferred none))) : bodyPostM Fence.wide n P fn R .ret a w := by
  show LeavesInM Fence.wide n P fn a.tmps R a.defers .returning w
  rw [hd]
  exact ⟨by simp, .inl ⟨_, _, rfl, run_takeDeferred hD, v, hr, hR⟩⟩
theorem Sm.wp_dead {P : Program} {c : Code} {K : Act → World → Prop} {Q : Exit → Act → World → Prop} {a : Act} {w : World} (h : c.wp P (Exit.then K (fun _ _ _ => False)) a w) : c.wp P (Exit.then K Q) a w :=
  wp_mono h (fun e a w h => by cases e <;> first | exact h | exact h.elim)
/-- a place's next slot, if there is one -/
def Sm.nxV (c p f : Int) : Int := if 0 < manyV c p (bndI 0 f 4096) 4096 then atV c p (bndI 0 f 4096) 0 else 4096
def Sm.nxE (c p f : Int) : Int := refM c [!plB c p] [!slB (nxV c p f)]
def Sm.NxF (c p f : Int) (w : World) (bm bc bp bf : Nat) (b : Int) (x : Value) (df : List Deferred) : Act :=
  { tmps := #[.int .i64 c, .int .i64 p, .int .i64 f, undef, undef, undef, .int .i64 0, .int .i64 0, .pointer (some ⟨w.heap.size, 0, none⟩), .int .i64 c, .int .i64 p, .int .i64 f, .int .i64 b, ownF bm bc bp bf, x, undef, undef, undef, undef, undef, undef, undef, undef, undef, undef, undef, undef, undef, undef, undef, undef], defers := df }
theorem Sm.manyV_own {c p b t : Int} (hm : 0 < manyV c p b t) : OwC c p b (manyV c p b t) ∧ manyV c p b t = maV c p b t ∧ mxV c p b t = 0 ∧ manyV c p b t ≤ 4096 := by
  unfold manyV at hm ⊢
  split at hm
  · rename_i h
    rw [if_pos h]
    obtain ⟨h1, h2, h3, h4, h5⟩ := mxV_zero h
    have ht := ahV_nn h1 h2.1 h2.2 (s := t) (by omega) h5
    have hb := ahV_nn h1 h2.1 h2.2 (s := b) h3 (by omega)
    unfold maV at *
    exact ⟨⟨h1, h2.1, h2.2, h3, by omega, by omega⟩, rfl, h, by omega⟩
  · omega
theorem Sm.manyV_le (c p b t : Int) : manyV c p b t ≤ 4096 := by
  by_cases h : 0 < manyV c p b t
  · exact (manyV_own h).2.2.2
  · omega
set_option maxRecDepth 100000 in
set_option maxHeartbeats 8000000 in
theorem Sm.Next_any (c p f : Int) (w : World) : Calls Try.prog 21 #[.int .i64 c, .int .i64 p, .int .i64 f] w fun e w' => e = .returned (.tuple #[.int .i64 (if nxE c p f = 0 then nxV c p f else 0), .int .i64 (nxE c p f)]) ∧ Below w.heap.size w w' := by
  have hB := fun W => bnd39 0 f 4096 W
  have hO := fun b W => Own_any c p b 4096 W
  obtain ⟨nx, hnx⟩ : ∃ nx, nxV c p f = nx := ⟨_, rfl⟩
  obtain ⟨x, hx⟩ : ∃ x, nxE c p f = x := ⟨_, rfl⟩
  obtain ⟨y, hy⟩ : ∃ y, (if x = 0 then nx else 0) = y := ⟨_, rfl⟩
  have hxe : refM c [!plB c p] [!slB nx] = x := by rw [← hx, ← hnx]; rfl
  have hnx2 := hnx
  unfold nxV at hnx2
  obtain ⟨b, hb⟩ : ∃ b, bndI 0 f 4096 = b := ⟨_, rfl⟩
  rw [hnx, hx, hy]
  rw [hb] at hB hnx2
  have HR : Hid (∀ (n k : Nat) (A : Option Addr) W, RowB W A n k [!plB c p] → Calls Try.prog 31 #[.int .i64 c, .slice A n k] W fun e w' => ∃ a b, e = .returned (.func (.func 47) #[] #[.pointer (some ⟨a, 0, none⟩), .pointer (some ⟨b, 0, none⟩)]) ∧ RefAt w' a b c [!plB c p] ∧ Below W.heap.size W w') := Lib.hid fun n k A W h => refusal_any c A n k _ W h
  have HP : Hid (∀ W, Calls Try.prog 37 #[.int .i64 c, .int .i64 p] W fun e w' => e = .returned (.bool (plB c p)) ∧ W = w') := Lib.hid fun W => isPlace c p W
  have HL : Hid (∀ W, Calls Try.prog 32 #[.int .i64 nx] W fun e w' => e = .returned (.bool (slB nx)) ∧ W = w') := Lib.hid fun W => isSlot nx W
  have HT : Hid (∀ (a b n k : Nat) (A : Option Addr) W, RefAt W a b c [!plB c p] → RowB W A n k [!slB nx] → Calls Try.prog 47 #[.slice A n k, .pointer (some ⟨a, 0, none⟩), .pointer (some ⟨b, 0, none⟩)] W fun e w' => e = .returned (.int .i64 x) ∧ W = w') :=
    Lib.hid fun a b n k A W h1 h2 => by rw [← hxe]; exact told_any c _ _ a b n k A W h1 h2
  have HA : Hid (∀ W, W.cell? ⟨w.heap.size, 0, none⟩ = some (.int .i64 nx) → Calls Try.prog 29 #[.int .i64 x, .func (.func 40) #[] #[.pointer (some ⟨w.heap.size, 0, none⟩)]] W fun e w' => e = .returned (.tuple #[.int .i64 y, .int .i64 x]) ∧ W = w') :=
    Lib.hid fun W hw => by rw [← hy]; exact ans_gen 40 _ (enters_of Try.func40 (by kernel_rfl) rfl) x nx W fun _ => f40_any _ nx W hw
  obtain ⟨m1, hm1⟩ : ∃ m, plB c p = m := ⟨_, rfl⟩
  obtain ⟨m3, hm3⟩ : ∃ m, slB nx = m := ⟨_, rfl⟩
  rw [hm1] at HR HP HT
  rw [hm3] at HL HT
  have HNX := Lib.hid hnx2
  clear hnx hx hy hxe hnx2 hb hm1 hm3
  refine (callsIn_wide (n := 3)).1 ?_
  refine callsIn_of_wp_marks Try.func21 rfl trivial ?_ rfl
  simp only [Try.ntmps21, List.size_toArray, List.length_cons, List.length_nil, Nat.reduceAdd, Nat.reduceSub, Array.replicate_succ, Array.replicate_zero, List.push_toArray, List.append_toArray, List.nil_append, List.cons_append]
  gi_wp2
  refine wpIn_wide.2 (wp_scope_straight ((wpIn_wide (n := 3)).1 ?_))
  gi_wp2
  refine wpIn_label ?_
  have hb1 : Below w.heap.size w (w.alloc (.cells #[.int .i64 4096] 3)) := (Below.refl _ w).alloc (Nat.le_refl _) _
  have hw1 : (w.alloc (.cells #[.int .i64 4096] 3)).heap[w.heap.size]? = some (.cells #[.int .i64 4096] 3 (0, 0)) := World.alloc_heap_new w _
  gi_wp2_with (first
    | ((try refine ⟨trivial, ?_⟩); gi_at_call 39; refine (callsIn_wide.2 (hB _)).mono ?_; rintro e w' ⟨rfl, rfl⟩)
    | ((try refine ⟨trivial, ?_⟩); gi_at_call 26; refine (callsIn_wide.2 (hO _ _)).mono ?_; clear hB hO; rintro e w2 ⟨bm, bc, bp, bf, rfl, hOw, hbm, hbc, hbp, hbf, hb2⟩))
  rename_i K hK
  have hsz2 : w.heap.size < w2.heap.size := by have := hb2.size; simp at this; omega
  have hbw2 : Below w.heap.size w w2 := hb1.trans (hb2.mono hb1.size)
  have hw2 : w2.heap[w.heap.size]? = some (.cells #[.int .i64 4096] 3 (0, 0)) := (hb2.block _ (by simp)).trans hw1
  have fin : ∀ W6, W6.heap[w.heap.size]? = some (.cells #[.int .i64 nx] 3 (0, 0)) → But (fun q => q = w.heap.size) w2 W6 → W6.heap[w2.heap.size]? = some (.deferred (some [])) → K (NxF c p f w bm bc bp bf b undef [{ target := .collected w2.heap.size, args := #[] }]) W6 := by
    intro W6 h6 hb6 hD6
    have hB6 : Below w.heap.size w W6 := hbw2.trans (hb6.to_below hbw2.size (fun q e => by omega))
    have hs6 := (Array.getElem?_eq_some_iff.1 h6).1
    have hsD := (Array.getElem?_eq_some_iff.1 hD6).1
    have HS : Hid (∀ W, Below W6.heap.size W6 W → W.cell? ⟨w.heap.size, 0, none⟩ = some (.int .i64 nx)) := Lib.hid fun W hb => cell_keep hb hs6 (cell_of_heap h6 0)
    have q0 := HS.out W6 (Below.refl _ _)
    have HB6 := Lib.hid hB6
    have HD6 := Lib.hid hD6
    clear h6 hb6 hD6 hB6 HNX hw2 hw1 hbw2 hb1 hb2 hOw
    refine hK _ _ ?_
    clear hK
    unfold NxF ownF
    refine wpIn_wide.2 ?_
    go_upto_region 4 with fail
    refine wp_dead ?_
    go_region_held_law (fun W => W.cell? ⟨w.heap.size, 0, none⟩ = some (.int .i64 nx))
      (first | exact q0 | (refine HS.out _ ?_; repeat' (first | exact HB2.out | exact Below.refl _ _ | refine Below.drew ?_ | refine Below.alloc ?_ ?_ _ | (simp; done) | (simp; omega) | omega)))
      (first
        | (go_at_call 37; refine (HP.out _).mono ?_; rintro e w' ⟨rfl, rfl⟩)
        | (go_at_call 31; refine (HR.out _ _ _ _ (row_new W6.drew [!m1] 4 (by simp))).mono ?_; rintro e w3 ⟨a, b, rfl, hr, hb3⟩; have HB2 : Hid (Below W6.heap.size W6 w3) := Lib.hid (((Below.refl _ W6).drew.alloc (Nat.le_refl _) _).trans (hb3.mono (by simp))); have hz := HB2.out.size)
        | (go_at_call 32; refine (HL.out _).mono ?_; rintro e w' ⟨rfl, rfl⟩)
        | (go_at_call 47; refine (HT.out _ _ _ _ _ _ (hr.keep ((Below.refl _ w3).alloc (Nat.le_refl _) _)) (row_new w3 [!m3] 4 (by simp))).mono ?_; rintro e w' ⟨rfl, rfl⟩)
        | (go_at_call 29; refine (HA.out _ (HS.out _ (HB2.out.alloc hz _))).mono ?_; rintro e w' ⟨rfl, rfl⟩))
    all_goals
      go_wp2
      simp only [Exit.noGoto]
      have hb7 := HB2.out.alloc hz (.cells #[.bool !m3] 4)
      refine retM1 (D := w2.heap.size) (v := .tuple #[.int .i64 y, .int .i64 x]) rfl ((hb7.block _ hsD).trans HD6.out) ?_ ⟨rfl, But.below (HB6.out.trans (hb7.mono HB6.out.size)) (put_but _ _ _) (fun b e => by omega)⟩
      simp [results, Try.results21, go_sem]
  have HK := Lib.hid fin
  have hm4 := manyV_le c p b 4096
  have hseq := own_seq w2 hOw (fun h => (manyV_own h).1) (fun q => q = w.heap.size) (fun q e => by simp at hbm hbc hbp hbf; omega) hm4
  have HSEQ := Lib.hid hseq
  clear fin hK hseq hOw hbm hbc hbp hbf hb2 hb1 hw1 HA HP HR HT HL hbw2
  have hat : ∀ k : Nat, ((k : Int) < manyV c p b 4096 → k = 0 → atV c p b k = nx) ∧ (¬ (0 : Int) < manyV c p b 4096 → nx = 4096) := fun k => by
    have h := HNX.out
    refine ⟨fun h1 h2 => ?_, fun h1 => ?_⟩
    · subst h2
      rw [if_pos (by omega)] at h
      exact h
    · rw [if_neg h1] at h
      exact h.symm
  obtain ⟨m, hm⟩ : ∃ m, manyV c p b 4096 = m := ⟨_, rfl⟩
  rw [hm] at HSEQ hat hm4
  have HAT := Lib.hid hat
  clear HNX hm hat
  show Code.wpIn Fence.wide 3 Try.prog _ _ (NxF c p f w bm bc bp bf b undef []) w2
  refine wpIn_rangeA (gf := 44) (lb := #[.pointer (some ⟨bm, 0, none⟩), .pointer (some ⟨bc, 0, none⟩), .pointer (some ⟨bp, 0, none⟩), .pointer (some ⟨bf, 0, none⟩)]) rfl (enters_of Try.func44 (by kernel_rfl) rfl)
    HSEQ.out (fun q e => by omega) ?hH ?hrow ?hps
    (fun k W => k = 0 ∧ W.heap[w.heap.size]? = some (.cells #[.int .i64 4096] 3 (0, 0)) ∧ But (fun q => q = w.heap.size) w2 W)
    (fun k W => k = 0 ∧ W.heap[w.heap.size]? = some (.cells #[.int .i64 nx] 3 (0, 0)) ∧ But (fun q => q = w.heap.size) w2 W)
    (fun c _ W => c = .exit 0 ∧ W.heap[w.heap.size]? = some (.cells #[.int .i64 nx] 3 (0, 0)) ∧ But (fun q => q = w.heap.size) w2 W)
    ?hI ?hIa ?hIx ⟨rfl, hw2, But.refl _ _⟩ (fun args a' _ => ∃ v, args = #[v] ∧ a' = NxF c p f w bm bc bp bf b v []) (fun _ _ _ _ h _ => h) ?assign ?body ?done ?stop
  case hH => exact fun k args W W' hh _ => hh
  case hrow => exact fun k args W b _ e => e.elim
  case hps =>
    rintro k args W ⟨_, rfl⟩
    rfl
  case hI => exact fun k W W' ⟨i1, i2, i3⟩ hb => ⟨i1, (hb.block _ hsz2).trans i2, i3.trans (But.of_below hb) (fun b hb' e => absurd hb' (Nat.not_lt.2 e))⟩
  case hIa => exact fun k W W' ⟨i1, i2, i3⟩ hb => ⟨i1, (hb.block _ hsz2).trans i2, i3.trans (But.of_below hb) (fun b hb' e => absurd hb' (Nat.not_lt.2 e))⟩
  case hIx => exact fun c k W W' ⟨i1, i2, i3⟩ hb => ⟨i1, (hb.block _ hsz2).trans i2, i3.trans (But.of_below hb) (fun b hb' e => absurd hb' (Nat.not_lt.2 e))⟩
  case assign =>
    rintro l0 k args W K2 hsz ⟨rfl, i2, i3⟩ ⟨hk, rfl⟩ hK2
    have e0 := (HAT.out 0).1 hk rfl
    rw [e0] at hK2 ⊢
    have f0 := frozen_of_heap i2 0
    have c0 := cell_of_heap i2 0
    simp only [List.getElem?_toArray, List.getElem?_cons_zero] at c0
    unfold NxF ownF
    have HI2 := Lib.hid i2
    have HI3 := Lib.hid i3
    have HK2 := Lib.hid hK2
    clear i2 i3 hK2 e0
    gi_wp2
    have h8 := heap_setCells (i := 0) (u := .int .i64 nx) HI2.out
    have hbs : But (fun q => q = w.heap.size) W (W.setCell ⟨w.heap.size, 0, none⟩ (.int .i64 nx)) := (But.refl _ W).set ⟨w.heap.size, 0, none⟩ _ (.inl rfl)
    exact HK2.out _ _ hbs ⟨trivial, h8, HI3.out.trans hbs (fun _ _ e => e)⟩ ⟨_, rfl, rfl⟩
  case body =>
    rintro l0 k args a' W hsz ⟨rfl, i2, i3⟩ _ ⟨v, rfl, rfl⟩
    gi_wp2
    exact ⟨But.refl _ _, rfl, i2, i3⟩
  case done =>
    rintro k W rfl ⟨h1, i2, i3⟩ hD
    have e := (HAT.out 0).2 (by omega)
    rw [← e] at i2
    exact HK.out W i2 i3 hD
  case stop =>
    rintro c2 k W _ ⟨rfl, i2, i3⟩ hD
    gi_wp2
    exact HK.out W i2 i3 hD
end Go.Proofs
