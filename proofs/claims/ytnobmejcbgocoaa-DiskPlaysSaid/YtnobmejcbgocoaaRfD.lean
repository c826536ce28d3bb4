/-
  Why the document refuses a step. Conditions: as each theorem names them.
-/
import Derived.Deep.RegionHeldLaw
import Derived.BigQuiet
import Derived.Test.YtnobmejcbgocoaaRfC
namespace Go.Proofs
open Go Go.RowKit Sm Go.Lib Go.Maps Go.WideMaps
attribute [local go_sem] Oper.semAt_some
/-- why a step is refused, but for a dead disk -/
def Sm.whyM (s : DSt) (L : List (List (BitVec 8) × List (BitVec 8) × Nat)) (y : ActV) : Int :=
  if nameOK (strL y.name) = false ∨ ((3 < y.what ∨ y.what < 0) ∧ nameOK (strL y.to_) = false) then 170 else match getL (strL y.name) L with
    | none => if y.what ≠ 0 then 5 else if s.room < (usedL L : Int) + y.bytes.length then 171 else 0
    | some t => if y.what = 2 ∧ (y.N < 0 ∨ (t.2.1.length : Int) < y.N) then 4 else if y.what = 0 ∧ s.room < (usedL L : Int) + y.bytes.length then 171 else 0
/-- the files behind a step that is done -/
def Sm.nextL (L : List (List (BitVec 8) × List (BitVec 8) × Nat)) (y : ActV) : List (List (BitVec 8) × List (BitVec 8) × Nat) :=
  if y.what = 0 then putL (strL y.name, ((getL (strL y.name) L).map fun t => t.2.1).getD [] ++ y.bytes, ((getL (strL y.name) L).map fun t => t.2.2).getD 0) L
  else match getL (strL y.name) L with
    | none => L
    | some t => if y.what = 1 then putL (strL y.name, t.2.1, t.2.1.length) L else if y.what = 2 then putL (strL y.name, t.2.1.take y.N.toNat, min t.2.2 y.N.toNat) L
      else if y.what = 3 then delL (strL y.name) L else putL (strL y.to_, t.2.1, t.2.2) (delL (strL y.name) L)
theorem Sm.stepM_why (s : DSt) (L : List (List (BitVec 8) × List (BitVec 8) × Nat)) (y : ActV) : stepM s L y = if whyM s L y = 0 then doneM s L (nextL L y) else (s, L, whyM s L y) := by
  unfold stepM whyM nextL
  by_cases h0 : y.what = 0
  · rw [if_pos h0]
    unfold appM
    cases hn : nameOK (strL y.name) with
    | false => simp
    | true =>
      simp only [h0]
      cases getL (strL y.name) L with
      | none =>
        by_cases hr : s.room < (usedL L : Int) + y.bytes.length
        · simp [hr]
        · simp [hr]
      | some t =>
        by_cases hr : s.room < (usedL L : Int) + y.bytes.length
        · simp [hr]
        · simp [hr]
  rw [if_neg h0]
  by_cases h1 : y.what = 1
  · rw [if_pos h1]
    unfold synM
    cases hn : nameOK (strL y.name) with
    | false => simp
    | true =>
      simp only [h1]
      cases getL (strL y.name) L with
      | none => simp
      | some t => simp
  rw [if_neg h1]
  by_cases h2 : y.what = 2
  · rw [if_pos h2]
    unfold cutM
    cases hn : nameOK (strL y.name) with
    | false => simp
    | true =>
      simp only [h2]
      cases getL (strL y.name) L with
      | none => simp
      | some t =>
        by_cases hr : y.N < 0 ∨ (t.2.1.length : Int) < y.N
        · simp [hr]
        · simp [hr]
  rw [if_neg h2]
  by_cases h3 : y.what = 3
  · rw [if_pos h3]
    unfold remM
    cases hn : nameOK (strL y.name) with
    | false => simp
    | true =>
      simp only [h3]
      cases getL (strL y.name) L with
      | none => simp
      | some t => simp
  rw [if_neg h3]
  unfold renM
  have h4 : 3 < y.what ∨ y.what < 0 := by omega
  cases hn : nameOK (strL y.name) with
  | false => simp
  | true =>
    cases ht : nameOK (strL y.to_) with
    | false => simp [h4]
    | true =>
      cases getL (strL y.name) L with
      | none => simp [h0]
      | some t => simp [h0, h1, h2, h3]
theorem Sm.getR_none {fs : List FileR} {nm : List (BitVec 8)} (h : ∀ f ∈ fs, f.t.1 ≠ nm) : getL nm (fs.map fun f => f.t) = none := by
  unfold getL
  refine List.find?_eq_none.2 (fun t ht => ?_)
  obtain ⟨g, hg, rfl⟩ := List.mem_map.1 ht
  exact fun e => h g hg (of_decide_eq_true e)
theorem Sm.getR_some {fs : List FileR} (hs : SortL (fs.map fun f => f.t)) {f : FileR} (hf : f ∈ fs) : getL f.t.1 (fs.map fun f => f.t) = some f.t := get_mem hs (List.mem_map.2 ⟨f, hf, rfl⟩)
set_option maxRecDepth 100000 in
set_option maxHeartbeats 4000000 in
theorem Sm.refused_any {S : Nat → Prop} (s : DSt) (A : Option Addr) (n c : Nat) (fs : List FileR) (y : ActV) (w : World) (h : FsAt S w A fs) (hn : fs.length = n) (hn2 : n ≤ 1000000) (hs : SortL (fs.map fun f => f.t)) (hu : (usedR fs : Int) ≤ s.room) (hr : 0 < s.room ∧ s.room ≤ 16777216) (hy : smallA y = true) (hyl : y.bytes.length = y.n) :
    Calls Try.prog 71 #[refV s A n c, y.stepV] w fun e w' => e = .returned (.int .i64 (whyM s (fs.map fun f => f.t) y)) ∧ Below w.heap.size w w' := by
  obtain ⟨hy1, hy2, hy3, _⟩ := small_parts hy
  obtain ⟨w2, hw2⟩ : ∃ w2, (w.alloc (.cells #[.int .i64 s.room, .slice A n c, .bool s.stops, .int .i64 s.after, .bool s.dead] 28)).alloc (.cells #[.int .i64 y.what, .string y.name, .string y.to_, .slice y.A y.n y.c, .int .i64 y.N] 66) = w2 := ⟨_, rfl⟩
  have hb2 : Below w.heap.size w w2 := by rw [← hw2]; exact ((Below.refl _ w).alloc (Nat.le_refl _) _).alloc (by simp) _
  have hx : w2.heap[w.heap.size]? = some (.cells #[.int .i64 s.room, .slice A n c, .bool s.stops, .int .i64 s.after, .bool s.dead] 28 (0, 0)) := by
    rw [← hw2]; exact (Below.heap_alloc _ _ _ (by simp)).trans (World.alloc_heap_new w _)
  have hz : w2.heap[w.heap.size + 1]? = some (.cells #[.int .i64 y.what, .string y.name, .string y.to_, .slice y.A y.n y.c, .int .i64 y.N] 66 (0, 0)) := by
    rw [← hw2]
    have := World.alloc_heap_new (w.alloc (.cells #[.int .i64 s.room, .slice A n c, .bool s.stops, .int .i64 s.after, .bool s.dead] 28)) (.cells #[.int .i64 y.what, .string y.name, .string y.to_, .slice y.A y.n y.c, .int .i64 y.N] 66)
    rwa [World.size_alloc] at this
  have hQ : ∀ W, Below w2.heap.size w2 W → (W.cell? ⟨w.heap.size, 0, none⟩ = some (.int .i64 s.room) ∧ W.cell? ⟨w.heap.size, 1, none⟩ = some (.slice A n c) ∧ W.cell? ⟨w.heap.size, 2, none⟩ = some (.bool s.stops) ∧ W.cell? ⟨w.heap.size, 3, none⟩ = some (.int .i64 s.after) ∧ W.cell? ⟨w.heap.size, 4, none⟩ = some (.bool s.dead)) ∧
      W.cell? ⟨w.heap.size + 1, 0, none⟩ = some (.int .i64 y.what) ∧ W.cell? ⟨w.heap.size + 1, 1, none⟩ = some (.string y.name) ∧ W.cell? ⟨w.heap.size + 1, 2, none⟩ = some (.string y.to_) ∧ W.cell? ⟨w.heap.size + 1, 3, none⟩ = some (.slice y.A y.n y.c) ∧ W.cell? ⟨w.heap.size + 1, 4, none⟩ = some (.int .i64 y.N) := fun W hb => by
    have k1 := (hb.block _ (Array.getElem?_eq_some_iff.1 hx).1).trans hx
    have k2 := (hb.block _ (Array.getElem?_eq_some_iff.1 hz).1).trans hz
    exact ⟨⟨cell_of_heap k1 0, cell_of_heap k1 1, cell_of_heap k1 2, cell_of_heap k1 3, cell_of_heap k1 4⟩, cell_of_heap k2 0, cell_of_heap k2 1, cell_of_heap k2 2, cell_of_heap k2 3, cell_of_heap k2 4⟩
  have hnm1 := fun W => refName_any y.name W (by omega)
  have hnm2 := fun W => refName_any y.to_ W (by omega)
  have hat := refAt_any s A n c fs y.name w2 (h.keep hb2) hn hn2
  have hus := fun W (hb : Below w2.heap.size w2 W) => refUsed_any s A n c fs W ((h.keep hb2).keep hb) hn hn2 (by omega)
  obtain ⟨r1, hr1⟩ : ∃ r1, nameOK (strL y.name) = r1 := ⟨_, rfl⟩
  obtain ⟨r2, hr2⟩ : ∃ r2, nameOK (strL y.to_) = r2 := ⟨_, rfl⟩
  rw [hr1] at hnm1
  rw [hr2] at hnm2
  obtain ⟨Wh, hWh⟩ : ∃ Wh, whyM s (fs.map fun f => f.t) y = Wh := ⟨_, rfl⟩
  have HWH := Lib.hid hWh
  rw [hWh]
  clear hWh
  unfold whyM at HWH
  rw [hr1, hr2] at HWH
  have HQ := Lib.hid hQ
  have H := Lib.hid (h.keep hb2)
  have HB2 := Lib.hid hb2
  have HUS := Lib.hid hus
  have HS := Lib.hid hs
  have HN := Lib.hid hn
  obtain ⟨⟨x0, x1, x2, x3, x4⟩, z0, z1, z2, z3, z4⟩ := hQ w2 (Below.refl _ _)
  unfold refV at hat
  unfold refV ActV.stepV
  clear h hx hz hQ hus hb2 hr1 hr2 hs hn
  obtain ⟨what, hwhat⟩ : ∃ what, y.what = what := ⟨_, rfl⟩
  obtain ⟨NN, hNN⟩ : ∃ NN, y.N = NN := ⟨_, rfl⟩
  obtain ⟨yn, hyn⟩ : ∃ yn, y.n = yn := ⟨_, rfl⟩
  obtain ⟨R, hR⟩ : ∃ R, s.room = R := ⟨_, rfl⟩
  obtain ⟨U, hU⟩ : ∃ U, usedR fs = U := ⟨_, rfl⟩
  rw [hwhat, hNN, hyl, hyn, hR, ← usedR_map, hU] at HWH
  rw [hwhat, hNN, hyn] at HQ
  rw [hR] at HQ
  rw [hU] at HUS
  rw [hwhat] at z0
  rw [hyn] at z3
  rw [hNN] at z4
  rw [hR] at x0
  rw [hR] at hr
  rw [hU, hR] at hu
  rw [hyn] at hy1
  obtain ⟨hr0, hr9⟩ := hr
  have hyI : (yn : Int) ≤ 100 := by omega
  have hUI : (U : Int) ≤ 16777216 := by omega
  rw [hR] at hat
  rw [hwhat, hNN, hyn, hR]
  unfold refV at HUS
  rw [hR] at HUS
  rw [hwhat, hNN, hyn, hR] at hw2
  clear hwhat hNN hyn hR hU hyl
  cases r1 with
  | false =>
    rw [if_pos (.inl rfl)] at HWH
    go_enter Try.func71, Try.ntmps71
    go_wp2_with (first | (go_at_call 28; (with_reducible refine (hnm1 _).mono ?_); rintro e w' ⟨rfl, rfl⟩) | (go_at_call 28; (with_reducible refine (hnm2 _).mono ?_); rintro e w' ⟨rfl, rfl⟩))
    go_ret
    exact ⟨by rw [← HWH.out]; rfl, HB2.out⟩
  | true =>
    by_cases hbad : (3 < what ∨ what < 0) ∧ r2 = false
    · rw [if_pos (.inr hbad)] at HWH
      obtain ⟨hcl, rfl⟩ := hbad
      by_cases h3 : 3 < what
      · clear hcl
        go_enter Try.func71, Try.ntmps71
        go_wp2_with (first | (go_at_call 28; (with_reducible refine (hnm1 _).mono ?_); rintro e w' ⟨rfl, rfl⟩) | (go_at_call 28; (with_reducible refine (hnm2 _).mono ?_); rintro e w' ⟨rfl, rfl⟩))
        go_ret
        exact ⟨by rw [← HWH.out]; rfl, HB2.out⟩
      · have hneg : what < 0 := hcl.resolve_left h3
        clear hcl
        go_enter Try.func71, Try.ntmps71
        go_wp2_with (first | (go_at_call 28; (with_reducible refine (hnm1 _).mono ?_); rintro e w' ⟨rfl, rfl⟩) | (go_at_call 28; (with_reducible refine (hnm2 _).mono ?_); rintro e w' ⟨rfl, rfl⟩))
        go_ret
        exact ⟨by rw [← HWH.out]; rfl, HB2.out⟩
    · have hcls : (3 < what ∧ r2 = true) ∨ ((¬ 3 < what ∧ what < 0) ∧ r2 = true) ∨ (¬ 3 < what ∧ ¬ what < 0) := by
        cases r2 with
        | true =>
          by_cases h1 : 3 < what
          · exact .inl ⟨h1, rfl⟩
          · by_cases h2 : what < 0
            · exact .inr (.inl ⟨⟨h1, h2⟩, rfl⟩)
            · exact .inr (.inr ⟨h1, h2⟩)
        | false =>
          refine .inr (.inr ⟨fun e => hbad ⟨.inl e, rfl⟩, fun e => hbad ⟨.inr e, rfl⟩⟩)
      rw [if_neg (fun e => e.elim (fun e => by cases e) hbad)] at HWH
      clear hbad
      rcases hcls with ⟨hc1, rfl⟩ | ⟨⟨hc1, hc2⟩, rfl⟩ | ⟨hc1, hc2⟩
      all_goals
        go_enter Try.func71, Try.ntmps71
        go_upto_region 3 with (first | (go_at_call 28; (with_reducible refine (hnm1 _).mono ?_); rintro e w' ⟨rfl, rfl⟩) | (go_at_call 28; (with_reducible refine (hnm2 _).mono ?_); rintro e w' ⟨rfl, rfl⟩))
        go_upto_region 4 with (go_at_call 27; (with_reducible refine hat.mono ?_); clear hat; rintro e w3 ⟨r, rfl, hres, hb3⟩)
        obtain ⟨⟨x0', x1', x2', x3', x4'⟩, z0', z1', z2', z3', z4'⟩ := HQ.out w3 hb3
        have HB3 := Lib.hid hb3
        clear x0 x1 x2 x3 x4 z0 z1 z2 z3 z4 hb3
        rcases hres with ⟨rfl, hno⟩ | ⟨i, f, rfl, hfi, hfn⟩
        · rw [getR_none hno] at HWH
          dsimp only at HWH
          clear hno
          rcases Classical.em (what = 0) with h0 | h0
          · first
              | (exfalso; omega)
              | skip
            all_goals
              subst h0
              rw [if_neg (by decide)] at HWH
              go_upto_region 6 with fail
              go_quiet (fail)
              obtain ⟨V, hV⟩ : ∃ V, w3.drewN nq = V := ⟨_, rfl⟩
              have hbV : Below w2.heap.size w2 V := HB3.out.trans (by rw [← hV]; exact (show Below w3.heap.size w3 (w3.drewN nq) from ⟨rfl, rfl, rfl, Nat.le_refl _, fun _ _ => rfl⟩).mono HB3.out.size)
              have hQV := HQ.out V hbV
              have HBV := Lib.hid hbV
              rw [hV]
              clear hV hbV x0' x1' x2' x3' x4' z0' z1' z2' z3' z4'
              have hu1 := HUS.out V.drew HBV.out.drew
              have hru0 : 0 ≤ R - (U : Int) := by omega
              have hru1 : R - (U : Int) ≤ 16777216 := by omega
              by_cases hroom : R < (U : Int) + (yn : Int)
              · rw [if_pos hroom] at HWH
                have hroom2 : R - (U : Int) < (yn : Int) := by omega
                go_upto_region 8 with fail
                go_region_held_law (fun W => (W.cell? ⟨w.heap.size, 0, none⟩ = some (.int .i64 R) ∧ W.cell? ⟨w.heap.size, 1, none⟩ = some (.slice A n c) ∧ W.cell? ⟨w.heap.size, 2, none⟩ = some (.bool s.stops) ∧ W.cell? ⟨w.heap.size, 3, none⟩ = some (.int .i64 s.after) ∧ W.cell? ⟨w.heap.size, 4, none⟩ = some (.bool s.dead)) ∧ W.cell? ⟨w.heap.size + 1, 0, none⟩ = some (.int .i64 0) ∧ W.cell? ⟨w.heap.size + 1, 1, none⟩ = some (.string y.name) ∧ W.cell? ⟨w.heap.size + 1, 2, none⟩ = some (.string y.to_) ∧ W.cell? ⟨w.heap.size + 1, 3, none⟩ = some (.slice y.A yn y.c) ∧ W.cell? ⟨w.heap.size + 1, 4, none⟩ = some (.int .i64 NN)) (first | exact hQV | exact HK) (first | (go_at_call 57; (with_reducible refine hu1.mono ?_); rintro e w4 ⟨rfl, hb4⟩; have HB4 := Lib.hid (HBV.out.drew.trans (hb4.mono HBV.out.size)); have HK := HQ.out w4 HB4.out; clear hb4))
                all_goals
                  try rw [wrap_small (R - (U : Int)) hru0 (by omega)]
                  go_wp2
                  go_ret
                  exact ⟨by rw [← HWH.out]; rfl, HB2.out.trans (HB4.out.mono HB2.out.size)⟩
              · rw [if_neg hroom] at HWH
                have hroom2 : ¬ R - (U : Int) < (yn : Int) := by omega
                go_upto_region 8 with fail
                go_region_held_law (fun W => (W.cell? ⟨w.heap.size, 0, none⟩ = some (.int .i64 R) ∧ W.cell? ⟨w.heap.size, 1, none⟩ = some (.slice A n c) ∧ W.cell? ⟨w.heap.size, 2, none⟩ = some (.bool s.stops) ∧ W.cell? ⟨w.heap.size, 3, none⟩ = some (.int .i64 s.after) ∧ W.cell? ⟨w.heap.size, 4, none⟩ = some (.bool s.dead)) ∧ W.cell? ⟨w.heap.size + 1, 0, none⟩ = some (.int .i64 0) ∧ W.cell? ⟨w.heap.size + 1, 1, none⟩ = some (.string y.name) ∧ W.cell? ⟨w.heap.size + 1, 2, none⟩ = some (.string y.to_) ∧ W.cell? ⟨w.heap.size + 1, 3, none⟩ = some (.slice y.A yn y.c) ∧ W.cell? ⟨w.heap.size + 1, 4, none⟩ = some (.int .i64 NN)) (first | exact hQV | exact HK) (first | (go_at_call 57; (with_reducible refine hu1.mono ?_); rintro e w4 ⟨rfl, hb4⟩; have HB4 := Lib.hid (HBV.out.drew.trans (hb4.mono HBV.out.size)); have HK := HQ.out w4 HB4.out; clear hb4))
                all_goals
                  try rw [wrap_small (R - (U : Int)) hru0 (by omega)]
                  go_wp2
                  go_ret
                  exact ⟨by rw [← HWH.out]; rfl, HB2.out.trans (HB4.out.mono HB2.out.size)⟩
          · rw [if_pos h0] at HWH
            have h0n : (what != 0) = true := by rw [bne_iff_ne]; exact h0
            clear h0
            go_wp2
            go_ret
            exact ⟨by rw [← HWH.out]; rfl, HB2.out.trans (HB3.out.mono HB2.out.size)⟩
        · have hfm : f ∈ fs := List.mem_of_getElem? hfi
          have hge := getR_some HS.out hfm
          rw [hfn] at hge
          rw [hge] at HWH
          dsimp only at HWH
          have hil : (i : Int) < (n : Int) := by have := (List.getElem?_eq_some_iff.1 hfi).1; have := HN.out; omega
          obtain ⟨b, off, hAe, hb, _, hcl⟩ := H.out.1 (by have := (List.getElem?_eq_some_iff.1 hfi).1; omega)
          have hq : ∀ W, Below w2.heap.size w2 W → W.cell? ⟨b, off + i * 3 + 1, none⟩ = some (.slice f.A f.t.2.1.length f.c) := fun W hb' => (hb'.cell (p := ⟨b, off + i * 3 + 1, none⟩) hb).trans (hcl i f hfi 1 _ rfl)
          obtain ⟨lb, hlb⟩ : ∃ lb, f.t.2.1.length = lb := ⟨_, rfl⟩
          rw [hlb] at HWH hq
          have hqv := hq w3 HB3.out
          have hi0 : ¬ (i : Int) < 0 := by omega
          have HAE := Lib.hid hAe
          clear hfi hfn hfm hge hcl hlb hq hb hAe
          rcases Classical.em (what = 0) with h0 | h0
          · first
              | (exfalso; omega)
              | skip
            all_goals
              subst h0
              rw [if_neg (fun e => absurd e.1 (by decide))] at HWH
              go_upto_region 6 with fail
              go_quiet (fail)
              obtain ⟨V, hV⟩ : ∃ V, w3.drewN nq = V := ⟨_, rfl⟩
              have hbV : Below w2.heap.size w2 V := HB3.out.trans (by rw [← hV]; exact (show Below w3.heap.size w3 (w3.drewN nq) from ⟨rfl, rfl, rfl, Nat.le_refl _, fun _ _ => rfl⟩).mono HB3.out.size)
              have hQV := HQ.out V hbV
              have HBV := Lib.hid hbV
              rw [hV]
              clear hV hbV x0' x1' x2' x3' x4' z0' z1' z2' z3' z4'
              have hu1 := HUS.out V.drew HBV.out.drew
              have hru0 : 0 ≤ R - (U : Int) := by omega
              have hru1 : R - (U : Int) ≤ 16777216 := by omega
              by_cases hroom : R < (U : Int) + (yn : Int)
              · rw [if_pos ⟨rfl, hroom⟩] at HWH
                have hroom2 : R - (U : Int) < (yn : Int) := by omega
                go_upto_region 8 with fail
                go_region_held_law (fun W => (W.cell? ⟨w.heap.size, 0, none⟩ = some (.int .i64 R) ∧ W.cell? ⟨w.heap.size, 1, none⟩ = some (.slice A n c) ∧ W.cell? ⟨w.heap.size, 2, none⟩ = some (.bool s.stops) ∧ W.cell? ⟨w.heap.size, 3, none⟩ = some (.int .i64 s.after) ∧ W.cell? ⟨w.heap.size, 4, none⟩ = some (.bool s.dead)) ∧ W.cell? ⟨w.heap.size + 1, 0, none⟩ = some (.int .i64 0) ∧ W.cell? ⟨w.heap.size + 1, 1, none⟩ = some (.string y.name) ∧ W.cell? ⟨w.heap.size + 1, 2, none⟩ = some (.string y.to_) ∧ W.cell? ⟨w.heap.size + 1, 3, none⟩ = some (.slice y.A yn y.c) ∧ W.cell? ⟨w.heap.size + 1, 4, none⟩ = some (.int .i64 NN)) (first | exact hQV | exact HK) (first | (go_at_call 57; (with_reducible refine hu1.mono ?_); rintro e w4 ⟨rfl, hb4⟩; have HB4 := Lib.hid (HBV.out.drew.trans (hb4.mono HBV.out.size)); have HK := HQ.out w4 HB4.out; clear hb4))
                all_goals
                  try rw [wrap_small (R - (U : Int)) hru0 (by omega)]
                  go_wp2
                  go_ret
                  exact ⟨by rw [← HWH.out]; rfl, HB2.out.trans (HB4.out.mono HB2.out.size)⟩
              · rw [if_neg (fun e => hroom e.2)] at HWH
                have hroom2 : ¬ R - (U : Int) < (yn : Int) := by omega
                go_upto_region 8 with fail
                go_region_held_law (fun W => (W.cell? ⟨w.heap.size, 0, none⟩ = some (.int .i64 R) ∧ W.cell? ⟨w.heap.size, 1, none⟩ = some (.slice A n c) ∧ W.cell? ⟨w.heap.size, 2, none⟩ = some (.bool s.stops) ∧ W.cell? ⟨w.heap.size, 3, none⟩ = some (.int .i64 s.after) ∧ W.cell? ⟨w.heap.size, 4, none⟩ = some (.bool s.dead)) ∧ W.cell? ⟨w.heap.size + 1, 0, none⟩ = some (.int .i64 0) ∧ W.cell? ⟨w.heap.size + 1, 1, none⟩ = some (.string y.name) ∧ W.cell? ⟨w.heap.size + 1, 2, none⟩ = some (.string y.to_) ∧ W.cell? ⟨w.heap.size + 1, 3, none⟩ = some (.slice y.A yn y.c) ∧ W.cell? ⟨w.heap.size + 1, 4, none⟩ = some (.int .i64 NN)) (first | exact hQV | exact HK) (first | (go_at_call 57; (with_reducible refine hu1.mono ?_); rintro e w4 ⟨rfl, hb4⟩; have HB4 := Lib.hid (HBV.out.drew.trans (hb4.mono HBV.out.size)); have HK := HQ.out w4 HB4.out; clear hb4))
                all_goals
                  try rw [wrap_small (R - (U : Int)) hru0 (by omega)]
                  go_wp2
                  go_ret
                  exact ⟨by rw [← HWH.out]; rfl, HB2.out.trans (HB4.out.mono HB2.out.size)⟩
          · have h0n : (what != 0) = true := by rw [bne_iff_ne]; exact h0
            have h0e : (what == 0) = false := by rw [beq_eq_false_iff_ne]; exact h0
            rcases Classical.em (what = 2) with h2 | h2
            · first
                | (exfalso; omega)
                | skip
              all_goals
                subst h2
                have hAe := HAE.out
                clear HAE
                subst hAe
                clear h0 h0n h0e
                by_cases g1 : NN < 0
                · rw [if_pos ⟨rfl, .inl g1⟩] at HWH
                  go_upto_region 6 with fail
                  go_quiet (fail)
                  go_wp2
                  go_ret
                  exact ⟨by rw [← HWH.out]; rfl, HB2.out.trans ((HB3.out.trans ((show Below w3.heap.size w3 (w3.drewN nq) from ⟨rfl, rfl, rfl, Nat.le_refl _, fun _ _ => rfl⟩).mono HB3.out.size)).mono HB2.out.size)⟩
                · by_cases g2 : (lb : Int) < NN
                  · rw [if_pos ⟨rfl, .inr g2⟩] at HWH
                    go_upto_region 6 with fail
                    go_quiet (fail)
                    go_wp2
                    go_ret
                    exact ⟨by rw [← HWH.out]; rfl, HB2.out.trans ((HB3.out.trans ((show Below w3.heap.size w3 (w3.drewN nq) from ⟨rfl, rfl, rfl, Nat.le_refl _, fun _ _ => rfl⟩).mono HB3.out.size)).mono HB2.out.size)⟩
                  · rw [if_neg (fun e => e.2.elim g1 g2), if_neg (fun e => absurd e.1 (by decide))] at HWH
                    go_upto_region 6 with fail
                    go_quiet (fail)
                    obtain ⟨V, hV⟩ : ∃ V, w3.drewN nq = V := ⟨_, rfl⟩
                    have hbV : Below w2.heap.size w2 V := HB3.out.trans (by rw [← hV]; exact (show Below w3.heap.size w3 (w3.drewN nq) from ⟨rfl, rfl, rfl, Nat.le_refl _, fun _ _ => rfl⟩).mono HB3.out.size)
                    have hQV := HQ.out V hbV
                    have HBV := Lib.hid hbV
                    rw [hV]
                    clear hV hbV x0' x1' x2' x3' x4' z0' z1' z2' z3' z4'
                    obtain ⟨⟨x0', x1', x2', x3', x4'⟩, z0', z1', z2', z3', z4'⟩ := hQV
                    go_upto_region 8 with fail
                    go_quiet (fail)
                    go_wp2
                    go_ret
                    exact ⟨by rw [← HWH.out]; rfl, HB2.out.trans ((HBV.out.trans ((show Below V.heap.size V (V.drewN nq) from ⟨rfl, rfl, rfl, Nat.le_refl _, fun _ _ => rfl⟩).mono HBV.out.size)).mono HB2.out.size)⟩
            · have h2e : (what == 2) = false := by rw [beq_eq_false_iff_ne]; exact h2
              rw [if_neg (fun e => h2 e.1), if_neg (fun e => h0 e.1)] at HWH
              clear h0 h2
              go_upto_region 6 with fail
              go_quiet (fail)
              obtain ⟨V, hV⟩ : ∃ V, w3.drewN nq = V := ⟨_, rfl⟩
              have hbV : Below w2.heap.size w2 V := HB3.out.trans (by rw [← hV]; exact (show Below w3.heap.size w3 (w3.drewN nq) from ⟨rfl, rfl, rfl, Nat.le_refl _, fun _ _ => rfl⟩).mono HB3.out.size)
              have hQV := HQ.out V hbV
              have HBV := Lib.hid hbV
              rw [hV]
              clear hV hbV x0' x1' x2' x3' x4' z0' z1' z2' z3' z4'
              obtain ⟨⟨x0', x1', x2', x3', x4'⟩, z0', z1', z2', z3', z4'⟩ := hQV
              go_upto_region 8 with fail
              go_quiet (fail)
              go_wp2
              go_ret
              exact ⟨by rw [← HWH.out]; rfl, HB2.out.trans ((HBV.out.trans ((show Below V.heap.size V (V.drewN nq) from ⟨rfl, rfl, rfl, Nat.le_refl _, fun _ _ => rfl⟩).mono HBV.out.size)).mono HB2.out.size)⟩
end Go.Proofs
