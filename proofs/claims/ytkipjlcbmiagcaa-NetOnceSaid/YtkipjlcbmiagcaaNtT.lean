/-
  find: what it refuses, and where the picked message stands. Conditions: as each theorem names them.
-/
import Derived.Test.YtkipjlcbmiagcaaNtS
namespace Go.Proofs
open Go Go.RowKit Sm Go.Lib Go.Maps Go.WideMaps
attribute [local go_sem] Oper.semAt_some
theorem Sm.find_no {v : Value} (x y pick : Int) (w : World) (h : NoNet w v) : Calls Try.prog 41 #[v, .int .i64 x, .int .i64 y, .int .i64 pick] w fun e w' => e = .returned (.tuple #[.int .i64 0, .int .i64 1]) ∧ Below w.heap.size w w' := by
  obtain ⟨r, rfl⟩ := h.ptr
  exact find_bad r x y pick true true true 1 w (fun _ _ _ => rfl) (by decide) (fun W b hb hx => none1_no b W (h.keep hb) hx) (fun e => by cases e) (fun e => by cases e)
theorem Sm.firstF_three (f2 f3 : Bool) (c1 c2 c3 : Array Value) : firstF [⟨59, c1, 1, false⟩, ⟨62, c2, 2, f2⟩, ⟨64, c3, 5, f3⟩] = if f2 = true then 2 else if f3 = true then 5 else 0 := by
  cases f2 <;> cases f3 <;> rfl
theorem Sm.findE_first {s : NSt} {D : List (Int × Int)} {P : List PD} (x y : Int) (c1 c2 c3 : Array Value) : firstF [⟨59, c1, 1, false⟩, ⟨62, c2, 2, !(anyB x y || lnkB s x y)⟩, ⟨64, c3, 5, decide ((onP x y P).length = 0)⟩] = findE ⟨s, D, P⟩ x y := by
  rw [firstF_three]
  unfold findE
  cases (anyB x y || lnkB s x y)
  · rfl
  · simp
theorem Sm.find_err {p Mb base : Nat} {s : NSt} {D : List (Int × Int)} {A : Option Addr} {cap : Nat} {L : List MsgM} (x y pick : Int) (w : World) (h : NAt w p Mb base s D A cap L) (hE : findE ⟨s, D, L.map MsgM.d⟩ x y ≠ 0) :
    Calls Try.prog 41 #[.pointer (some ⟨p, 0, none⟩), .int .i64 x, .int .i64 y, .int .i64 pick] w fun e w' => e = .returned (.tuple #[.int .i64 0, .int .i64 (findE ⟨s, D, L.map MsgM.d⟩ x y)]) ∧ Below w.heap.size w w' :=
  find_bad (some ⟨p, 0, none⟩) x y pick false (!(anyB x y || lnkB s x y)) (decide ((onP x y (L.map MsgM.d)).length = 0)) _ w (fun c1 c2 c3 => findE_first x y c1 c2 c3) hE (fun W b hb hx => none1_yes b W (h.keep hb) hx)
    (fun _ W hW => find1_any _ _ _ x y W (h.keep hW.b) hW.x hW.y hW.n) (fun _ _ W hW => find2_any _ _ _ x y W (h.keep hW.b) hW.n hW.x hW.y)
set_option maxRecDepth 100000 in
set_option maxHeartbeats 4000000 in
theorem Sm.find_yes {p Mb base : Nat} {s : NSt} {D : List (Int × Int)} {A : Option Addr} {cap : Nat} {L : List MsgM} (x y pick : Int) (w : World) (h : NAt w p Mb base s D A cap L) (hE : findE ⟨s, D, L.map MsgM.d⟩ x y = 0) :
    Calls Try.prog 41 #[.pointer (some ⟨p, 0, none⟩), .int .i64 x, .int .i64 y, .int .i64 pick] w fun e w' => e = .returned (.tuple #[.int .i64 (findA ⟨s, D, L.map MsgM.d⟩ x y pick : Int), .int .i64 0]) ∧ Below w.heap.size w w' := by
  have hB := fiB_new w (some ⟨p, 0, none⟩) x y
  obtain ⟨W0, hW0⟩ : ∃ V, fiW w (some ⟨p, 0, none⟩) x y = V := ⟨_, rfl⟩
  rw [hW0] at hB
  unfold fiW at hW0
  have h0 := none_any (some ⟨p, 0, none⟩) W0
  have HBX := Lib.hid hB
  obtain ⟨q1, q2, q3, q4, q5⟩ := hB.cells
  obtain ⟨n2, hn2⟩ : ∃ n2, (!(anyB x y || lnkB s x y)) = n2 := ⟨_, rfl⟩
  obtain ⟨n3, hn3⟩ : ∃ n3, decide ((onP x y (L.map MsgM.d)).length = 0) = n3 := ⟨_, rfl⟩
  obtain ⟨n1, hn1⟩ : ∃ n1, false = n1 := ⟨_, rfl⟩
  have HF : Hid (∀ c1 c2 c3 : Array Value, firstF [⟨59, c1, 1, n1⟩, ⟨62, c2, 2, n2⟩, ⟨64, c3, 5, n3⟩] = 0) := Lib.hid fun c1 c2 c3 => by rw [← hn1, ← hn2, ← hn3, findE_first (D := D), hE]
  have H59 : Hid (∀ W b, Below w.heap.size w W → W.heap[b]? = some (.cells #[.pointer (some ⟨p, 0, none⟩)] 25 (0, 0)) → Calls Try.prog 59 #[.pointer (some ⟨b, 0, none⟩)] W fun e w' => e = .returned (.bool n1) ∧ Below W.heap.size W w') := Lib.hid fun W b hb hx => by rw [← hn1]; exact none1_yes b W (h.keep hb) hx
  have H62 : Hid (n1 = false → ∀ W, FiB w W (some ⟨p, 0, none⟩) x y 0 → Calls Try.prog 62 #[.pointer (some ⟨w.heap.size + 1, 0, none⟩), .pointer (some ⟨w.heap.size + 1 + 1, 0, none⟩), .pointer (some ⟨w.heap.size, 0, none⟩)] W fun e w' => e = .returned (.bool n2) ∧ Below W.heap.size W w') :=
    Lib.hid fun _ W hW => by rw [← hn2]; exact find1_any _ _ _ x y W (h.keep hW.b) hW.x hW.y hW.n
  have H64 : Hid (n1 = false → n2 = false → ∀ W, FiB w W (some ⟨p, 0, none⟩) x y 0 → Calls Try.prog 64 #[.pointer (some ⟨w.heap.size, 0, none⟩), .pointer (some ⟨w.heap.size + 1, 0, none⟩), .pointer (some ⟨w.heap.size + 1 + 1, 0, none⟩)] W fun e w' => e = .returned (.bool n3) ∧ Below W.heap.size W w') :=
    Lib.hid fun _ _ W hW => by rw [← hn3]; exact find2_any _ _ _ x y W (h.keep hW.b) hW.n hW.x hW.y
  obtain ⟨hat, hfl, hfp, hpos, _⟩ := find_ok pick hE
  have hlen : (onP x y (L.map MsgM.d)).length ≤ 4096 := by
    have h1 := onN_len x y (L.map MsgM.d) (L.map MsgM.d).length
    have h2 : (onP x y (L.map MsgM.d)).length ≤ L.length := by unfold onP; rw [List.length_map] at h1 ⊢; exact h1
    have := h.lim
    omega
  obtain ⟨R, hR⟩ : ∃ R, findA ⟨s, D, L.map MsgM.d⟩ x y pick = R := ⟨_, rfl⟩
  simp only at hat hpos
  rw [hR] at hat ⊢
  obtain ⟨ln, hln⟩ : ∃ ln, (onP x y (L.map MsgM.d)).length = ln := ⟨_, rfl⟩
  have hpk := pickI_lt pick (ln : Int) (by omega)
  rw [hln] at hat hlen hpos
  have h65 := fun W => picked_any pick (ln : Int) (by omega) (by omega) W
  obtain ⟨K0, hK0⟩ : ∃ K0 : Nat, pickI pick (ln : Int) = (K0 : Int) := ⟨(pickI pick (ln : Int)).toNat, by omega⟩
  rw [hK0] at hpk hat h65
  have H20 : Hid (∀ W, FiB w W (some ⟨p, 0, none⟩) x y 0 → Calls Try.prog 20 #[.pointer (some ⟨p, 0, none⟩), .int .i64 x, .int .i64 y] W fun e w' => e = .returned (.int .i64 (ln : Int)) ∧ Below W.heap.size W w') := Lib.hid fun W hW => by rw [← hln]; exact len_any x y W (h.keep hW.b)
  have h47 := fun W => on_any p x y W
  have HN := Lib.hid h
  have HAT := Lib.hid hat
  have HLN := Lib.hid hln
  clear hB h hE hn1 hn2 hn3 hat hfl hfp hR hK0 hln
  refine (callsIn_wide (n := 3)).1 (callsIn_of_wp_marks Try.func41 rfl trivial ?_ rfl)
  simp only [Try.ntmps41, List.size_toArray, List.length_cons, List.length_nil, Nat.reduceAdd, Nat.reduceSub, Array.replicate_succ, Array.replicate_zero, List.push_toArray, List.append_toArray, List.nil_append, List.cons_append]
  gi_wp2
  refine wpIn_wide.2 (wp_scope_straight ?_)
  clear hW0
  go_upto_region 5 with
  (first
    | (go_at_call 33; (with_reducible refine h0.mono ?_); clear h0; rintro e w1 ⟨rfl, hx1, hb1⟩; have HX1 := Lib.hid hx1; have HB1 := Lib.hid hb1; clear hx1 hb1;
        have hf := first_new [⟨59, #[.pointer (some ⟨W0.heap.size, 0, none⟩)], 1, n1⟩, ⟨62, #[.pointer (some ⟨w.heap.size + 1, 0, none⟩), .pointer (some ⟨w.heap.size + 1 + 1, 0, none⟩), .pointer (some ⟨w.heap.size, 0, none⟩)], 2, n2⟩, ⟨64, #[.pointer (some ⟨w.heap.size, 0, none⟩), .pointer (some ⟨w.heap.size + 1, 0, none⟩), .pointer (some ⟨w.heap.size + 1 + 1, 0, none⟩)], 5, n3⟩] 0 (HF.out _ _ _) 3 W0 w1 #[.func (.func 59) #[] #[.pointer (some ⟨W0.heap.size, 0, none⟩)], .int .i64 1, .func (.func 62) #[] #[.pointer (some ⟨w.heap.size + 1, 0, none⟩), .pointer (some ⟨w.heap.size + 1 + 1, 0, none⟩), .pointer (some ⟨w.heap.size, 0, none⟩)], .int .i64 2, .func (.func 64) #[] #[.pointer (some ⟨w.heap.size, 0, none⟩), .pointer (some ⟨w.heap.size + 1, 0, none⟩), .pointer (some ⟨w.heap.size + 1 + 1, 0, none⟩)], .int .i64 5] rfl rfl (by omega) HB1.out (by simp [flNums]) (fun j hj ht W hW => by
          have hbW := HB1.out.trans (hW.mono HB1.out.size)
          match j, hj, ht with
          | 0, _, _ => exact H59.out W _ (HBX.out.b.trans (hbW.mono HBX.out.b.size)) ((hW.block _ (Array.getElem?_eq_some_iff.1 HX1.out).1).trans HX1.out)
          | 1, _, ht => exact H62.out (ht _ (List.mem_cons_self ..)) W (HBX.out.keep hbW)
          | 2, _, ht => exact H64.out (ht _ (List.mem_cons_self ..)) (ht _ (List.mem_cons_of_mem _ (List.mem_cons_self ..))) W (HBX.out.keep hbW)))
    | (go_at_call 32; (with_reducible refine hf.mono ?_); clear hf; rintro e w2 ⟨rfl, hb2⟩; have HB2 := Lib.hid (HBX.out.keep hb2); obtain ⟨p1, p2, p3, p4, p5⟩ := (HBX.out.keep hb2).cells; clear q1 q2 q3 q4 q5 HX1 HB1 hb2)
    | (go_at_call 20; (with_reducible refine (H20.out _ HB2.out).mono ?_); rintro e w3 ⟨rfl, hb3⟩; have HB3 := Lib.hid (HB2.out.keep hb3); obtain ⟨r1, r2, r3, r4, r5⟩ := (HB2.out.keep hb3).cells; clear p1 p2 p3 p4 p5 hb3)
    | (go_at_call 65; (with_reducible refine (h65 _).mono ?_); clear h65; rintro e w4 ⟨rfl, hb4⟩; have HB4 := Lib.hid (HB3.out.keep hb4); obtain ⟨u1, u2, u3, u4, u5⟩ := (HB3.out.keep hb4).cells; clear r1 r2 r3 r4 r5 hb4))
  have hb5 := HB4.out.b.alloc HB4.out.b.size (.cells #[.int .i64 (K0 : Int)] 3)
  have hw5 := World.alloc_heap_new w4 (.cells #[.int .i64 (K0 : Int)] 3)
  have hF5 := HB4.out.keep ((Below.refl _ w4).alloc (Nat.le_refl _) (.cells #[.int .i64 (K0 : Int)] 3))
  have hs4 := HB4.out.b.size
  obtain ⟨w5, hw⟩ : ∃ V, w4.alloc (.cells #[.int .i64 (K0 : Int)] 3) = V := ⟨_, rfl⟩
  have hs5 : w5.heap.size = w4.heap.size + 1 := by rw [← hw]; simp
  rw [hw] at hw5 hF5 hb5 ⊢
  obtain ⟨v1, v2, v3, v4, v5⟩ := hF5.cells
  have HSZ : Hid (w.heap.size + 4 ≤ w4.heap.size) := Lib.hid (by have := (Array.getElem?_eq_some_iff.1 HB4.out.a).1; omega)
  clear hw HB2 HB3 HB4 H20 u1 u2 u3 u4 u5
  have HF5 := Lib.hid hF5
  have HS5 := Lib.hid hs5
  clear hF5 hs5
  refine (wpIn_wide (n := 3)).1 ?_
  refine wpIn_label ?_
  go_wp2_with (go_at_call 47; (with_reducible refine (h47 _).mono ?_); clear h47; rintro e w6 ⟨bn, bf, g1, g2, rfl, hO, z1, z2, z3, z4, hb6⟩)
  rename_i K hK
  have hs6 := hb6.size
  have h6x := HF5.out.keep hb6
  have hn6 := (hb6.block _ (Array.getElem?_eq_some_iff.1 hw5).1).trans hw5
  have hN6 := HN.out.keep h6x.b
  have hs45 := HS5.out
  have hlo := HN.out.lt.1
  have hap : Apart (fun q => q = w.heap.size + 1 + 1 + 1 ∨ q = w4.heap.size) p Mb (.slice A L.length cap) L := HN.out.apart (fun b e => by omega)
  have hap4 : w.heap.size + 4 ≤ w4.heap.size := HSZ.out
  clear v1 v2 v3 v4 v5 hw5
  have fin : ∀ u v W6, W6.heap[w.heap.size + 1 + 1 + 1]? = some (.cells #[.int .i64 (R : Int)] 3 (0, 0)) → But (fun q => q = w.heap.size + 1 + 1 + 1 ∨ q = w4.heap.size) w6 W6 → W6.heap[w6.heap.size]? = some (.deferred (some [])) → K ({ tmps := #[.pointer (some ⟨p, 0, none⟩), .int .i64 x, .int .i64 y, .int .i64 pick, .pointer (some ⟨w.heap.size, 0, none⟩), .pointer (some ⟨w.heap.size + 1, 0, none⟩), .pointer (some ⟨w.heap.size + 1 + 1, 0, none⟩), undef, .pointer (some ⟨w.heap.size + 1 + 1 + 1, 0, none⟩), .int .i64 0, .pointer (some ⟨w4.heap.size, 0, none⟩), .pointer (some ⟨p, 0, none⟩), .agg #[.func (.func 59) #[] #[.pointer (some ⟨W0.heap.size, 0, none⟩)], .int .i64 1], .func (.func 62) #[] #[.pointer (some ⟨w.heap.size + 1, 0, none⟩), .pointer (some ⟨w.heap.size + 1 + 1, 0, none⟩), .pointer (some ⟨w.heap.size, 0, none⟩)], .agg #[.func (.func 62) #[] #[.pointer (some ⟨w.heap.size + 1, 0, none⟩), .pointer (some ⟨w.heap.size + 1 + 1, 0, none⟩), .pointer (some ⟨w.heap.size, 0, none⟩)], .int .i64 2], .func (.func 64) #[] #[.pointer (some ⟨w.heap.size, 0, none⟩), .pointer (some ⟨w.heap.size + 1, 0, none⟩), .pointer (some ⟨w.heap.size + 1 + 1, 0, none⟩)], .agg #[.func (.func 64) #[] #[.pointer (some ⟨w.heap.size, 0, none⟩), .pointer (some ⟨w.heap.size + 1, 0, none⟩), .pointer (some ⟨w.heap.size + 1 + 1, 0, none⟩)], .int .i64 5], .slice (some ⟨w1.heap.size, 0, none⟩) 3 3, .int .i64 0, .int .i64 0, .bool false, undef, .int .i64 pick, .pointer (some ⟨p, 0, none⟩), .int .i64 x, .int .i64 y, .int .i64 (ln : Int), .int .i64 (K0 : Int), .pointer (some ⟨p, 0, none⟩), .int .i64 x, .int .i64 y, .func (.func 67) #[] #[.pointer (some ⟨bn, 0, none⟩), .pointer (some ⟨bf, 0, none⟩)], u, v, undef, undef, undef, undef, undef], defers := [{ target := .collected w6.heap.size, args := #[] }] }) W6 := by
    intro u v W6 i1 i2 hD
    have k1 := cell_of_heap i1 0
    have f1 := frozen_of_heap i1 0
    have k3 := cell_of_heap (heap_setCells (i := 0) (u := .int .i64 (R : Int)) i1) 0
    simp only [List.getElem?_toArray, List.getElem?_cons_zero, List.setIfInBounds_toArray, List.set_cons_zero] at k1 k3
    have hb7 : Below w.heap.size w W6 := h6x.b.trans (i2.to_below (by have := h6x.b.size; omega) (fun b e => by omega))
    have hb8 := hb7.setCell (p := ⟨w.heap.size + 1 + 1 + 1, 0, none⟩) (by simp only; omega) (.int .i64 (R : Int))
    have hD8 : (W6.setCell ⟨w.heap.size + 1 + 1 + 1, 0, none⟩ (.int .i64 (R : Int))).heap[w6.heap.size]? = some (.deferred (some [])) := (Below.heap_setCell _ _ _ _ (by simp only; omega)).trans hD
    have HB8 := Lib.hid hb8
    have HD8 := Lib.hid hD8
    have K3 := Lib.hid k3
    clear hb7 hb8 hD8 i1 i2 hD k3
    refine hK _ _ ?_
    clear hK
    go_wp2
    simp only [Exit.noGoto]
    refine retM1 (D := w6.heap.size) (v := .tuple #[.int .i64 (R : Int), .int .i64 0]) rfl HD8.out ?_ ⟨rfl, ?_⟩
    · have k4 : ((W6.setCell ⟨w.heap.size + 1 + 1 + 1, 0, none⟩ (.int .i64 (R : Int))).putObj w6.heap.size (.deferred none)).cell? ⟨w.heap.size + 1 + 1 + 1, 0, none⟩ = some (.int .i64 (R : Int)) := (World.cell?_of_block (World.putObj_heap_other (by simp only; omega))).trans K3.out
      simp [results, Try.results41, go_sem, k4]
    · exact But.below HB8.out (put_but _ _ _) (fun b e => by omega)
  have HFIN := Lib.hid fin
  clear fin hK
  refine (wpIn_wide (n := 3)).1 ?_
  show Code.wpIn Fence.wide 3 Try.prog _ _ ({ tmps := #[.pointer (some ⟨p, 0, none⟩), .int .i64 x, .int .i64 y, .int .i64 pick, .pointer (some ⟨w.heap.size, 0, none⟩), .pointer (some ⟨w.heap.size + 1, 0, none⟩), .pointer (some ⟨w.heap.size + 1 + 1, 0, none⟩), undef, .pointer (some ⟨w.heap.size + 1 + 1 + 1, 0, none⟩), .int .i64 0, .pointer (some ⟨w4.heap.size, 0, none⟩), .pointer (some ⟨p, 0, none⟩), .agg #[.func (.func 59) #[] #[.pointer (some ⟨W0.heap.size, 0, none⟩)], .int .i64 1], .func (.func 62) #[] #[.pointer (some ⟨w.heap.size + 1, 0, none⟩), .pointer (some ⟨w.heap.size + 1 + 1, 0, none⟩), .pointer (some ⟨w.heap.size, 0, none⟩)], .agg #[.func (.func 62) #[] #[.pointer (some ⟨w.heap.size + 1, 0, none⟩), .pointer (some ⟨w.heap.size + 1 + 1, 0, none⟩), .pointer (some ⟨w.heap.size, 0, none⟩)], .int .i64 2], .func (.func 64) #[] #[.pointer (some ⟨w.heap.size, 0, none⟩), .pointer (some ⟨w.heap.size + 1, 0, none⟩), .pointer (some ⟨w.heap.size + 1 + 1, 0, none⟩)], .agg #[.func (.func 64) #[] #[.pointer (some ⟨w.heap.size, 0, none⟩), .pointer (some ⟨w.heap.size + 1, 0, none⟩), .pointer (some ⟨w.heap.size + 1 + 1, 0, none⟩)], .int .i64 5], .slice (some ⟨w1.heap.size, 0, none⟩) 3 3, .int .i64 0, .int .i64 0, .bool false, undef, .int .i64 pick, .pointer (some ⟨p, 0, none⟩), .int .i64 x, .int .i64 y, .int .i64 (ln : Int), .int .i64 (K0 : Int), .pointer (some ⟨p, 0, none⟩), .int .i64 x, .int .i64 y, .func (.func 67) #[] #[.pointer (some ⟨bn, 0, none⟩), .pointer (some ⟨bf, 0, none⟩)], undef, undef, undef, undef, undef, undef, undef], defers := [] }) w6
  refine wpIn_rangeA (gf := 67) (lb := #[.pointer (some ⟨bn, 0, none⟩), .pointer (some ⟨bf, 0, none⟩)]) rfl (enters_of Try.func67 (by kernel_rfl) rfl)
    (on_seq x y w6 hN6 hO (fun q => q = w.heap.size + 1 + 1 + 1 ∨ q = w4.heap.size) hap (fun b e => by omega) (fun b e => by omega)) (fun q e => by omega) ?hH ?hrow ?hps
    (fun k W => k ≤ K0 ∧ W.heap[w4.heap.size]? = some (.cells #[.int .i64 ((K0 : Int) - k)] 3 (0, 0)) ∧ (∃ z : Int, W.heap[w.heap.size + 1 + 1 + 1]? = some (.cells #[.int .i64 z] 3 (0, 0))) ∧ But (fun q => q = w.heap.size + 1 + 1 + 1 ∨ q = w4.heap.size) w6 W)
    (fun k W => k ≤ K0 ∧ W.heap[w4.heap.size]? = some (.cells #[.int .i64 ((K0 : Int) - k)] 3 (0, 0)) ∧ (∃ z : Nat, (onP x y (L.map MsgM.d))[k]? = some z ∧ W.heap[w.heap.size + 1 + 1 + 1]? = some (.cells #[.int .i64 (z : Int)] 3 (0, 0))) ∧ But (fun q => q = w.heap.size + 1 + 1 + 1 ∨ q = w4.heap.size) w6 W)
    (fun c k W => c = .exit 0 ∧ W.heap[w.heap.size + 1 + 1 + 1]? = some (.cells #[.int .i64 (R : Int)] 3 (0, 0)) ∧ But (fun q => q = w.heap.size + 1 + 1 + 1 ∨ q = w4.heap.size) w6 W)
    ?hI ?hIa ?hIx ⟨by omega, by simpa using hn6, ⟨0, h6x.a⟩, But.refl _ _⟩
    (fun args a' _ => ∃ u v, args = #[u, v] ∧ a' = { tmps := #[.pointer (some ⟨p, 0, none⟩), .int .i64 x, .int .i64 y, .int .i64 pick, .pointer (some ⟨w.heap.size, 0, none⟩), .pointer (some ⟨w.heap.size + 1, 0, none⟩), .pointer (some ⟨w.heap.size + 1 + 1, 0, none⟩), undef, .pointer (some ⟨w.heap.size + 1 + 1 + 1, 0, none⟩), .int .i64 0, .pointer (some ⟨w4.heap.size, 0, none⟩), .pointer (some ⟨p, 0, none⟩), .agg #[.func (.func 59) #[] #[.pointer (some ⟨W0.heap.size, 0, none⟩)], .int .i64 1], .func (.func 62) #[] #[.pointer (some ⟨w.heap.size + 1, 0, none⟩), .pointer (some ⟨w.heap.size + 1 + 1, 0, none⟩), .pointer (some ⟨w.heap.size, 0, none⟩)], .agg #[.func (.func 62) #[] #[.pointer (some ⟨w.heap.size + 1, 0, none⟩), .pointer (some ⟨w.heap.size + 1 + 1, 0, none⟩), .pointer (some ⟨w.heap.size, 0, none⟩)], .int .i64 2], .func (.func 64) #[] #[.pointer (some ⟨w.heap.size, 0, none⟩), .pointer (some ⟨w.heap.size + 1, 0, none⟩), .pointer (some ⟨w.heap.size + 1 + 1, 0, none⟩)], .agg #[.func (.func 64) #[] #[.pointer (some ⟨w.heap.size, 0, none⟩), .pointer (some ⟨w.heap.size + 1, 0, none⟩), .pointer (some ⟨w.heap.size + 1 + 1, 0, none⟩)], .int .i64 5], .slice (some ⟨w1.heap.size, 0, none⟩) 3 3, .int .i64 0, .int .i64 0, .bool false, undef, .int .i64 pick, .pointer (some ⟨p, 0, none⟩), .int .i64 x, .int .i64 y, .int .i64 (ln : Int), .int .i64 (K0 : Int), .pointer (some ⟨p, 0, none⟩), .int .i64 x, .int .i64 y, .func (.func 67) #[] #[.pointer (some ⟨bn, 0, none⟩), .pointer (some ⟨bf, 0, none⟩)], u, v, undef, undef, undef, undef, undef], defers := [] }) (fun _ _ _ _ h _ => h) ?assign ?body ?done ?stop
  case hH => exact fun k args W W' hh _ => hh
  case hrow => exact fun k args W b _ e => e.elim
  case hps =>
    rintro k args W ⟨i, m, _, _, _, rfl⟩
    rfl
  case hI => exact fun k W W' ⟨i0, i1, ⟨z, i2⟩, i3⟩ hb => ⟨i0, (hb.block _ (by omega)).trans i1, ⟨z, (hb.block _ (by omega)).trans i2⟩, i3.trans (But.of_below hb) (fun b hb' e => absurd hb' (Nat.not_lt.2 e))⟩
  case hIa => exact fun k W W' ⟨i0, i1, ⟨z, iz, i2⟩, i3⟩ hb => ⟨i0, (hb.block _ (by omega)).trans i1, ⟨z, iz, (hb.block _ (by omega)).trans i2⟩, i3.trans (But.of_below hb) (fun b hb' e => absurd hb' (Nat.not_lt.2 e))⟩
  case hIx => exact fun c k W W' ⟨i1, i2, i3⟩ hb => ⟨i1, (hb.block _ (by omega)).trans i2, i3.trans (But.of_below hb) (fun b hb' e => absurd hb' (Nat.not_lt.2 e))⟩
  case assign =>
    rintro l0 k args W K2 hsz ⟨i0, i1, ⟨z, i2⟩, i3⟩ ⟨i, m, hm, hp, hk, rfl⟩ hK2
    have f0 := frozen_of_heap i2 0
    have c0 := cell_of_heap i2 0
    simp only [List.getElem?_toArray, List.getElem?_cons_zero] at c0
    have hmd : (L.map MsgM.d)[i]? = some m.d := by rw [List.getElem?_map, hm]; rfl
    have hoi : (onP x y (L.map MsgM.d))[k]? = some i := by rw [hk]; exact onP_at hmd hp
    have h8 := heap_setCells (i := 0) (u := .int .i64 (i : Int)) i2
    have h9 : (W.setCell ⟨w.heap.size + 1 + 1 + 1, 0, none⟩ (.int .i64 (i : Int))).heap[w4.heap.size]? = some (.cells #[.int .i64 ((K0 : Int) - k)] 3 (0, 0)) := (Below.heap_setCell _ _ _ _ (by simp only; omega)).trans i1
    have hbs : But (fun q => q = w.heap.size + 1 + 1 + 1 ∨ q = w4.heap.size) W (W.setCell ⟨w.heap.size + 1 + 1 + 1, 0, none⟩ (.int .i64 (i : Int))) := (But.refl _ W).set ⟨w.heap.size + 1 + 1 + 1, 0, none⟩ _ (.inl (.inl rfl))
    have HK2 := Lib.hid (hK2 { tmps := #[.pointer (some ⟨p, 0, none⟩), .int .i64 x, .int .i64 y, .int .i64 pick, .pointer (some ⟨w.heap.size, 0, none⟩), .pointer (some ⟨w.heap.size + 1, 0, none⟩), .pointer (some ⟨w.heap.size + 1 + 1, 0, none⟩), undef, .pointer (some ⟨w.heap.size + 1 + 1 + 1, 0, none⟩), .int .i64 0, .pointer (some ⟨w4.heap.size, 0, none⟩), .pointer (some ⟨p, 0, none⟩), .agg #[.func (.func 59) #[] #[.pointer (some ⟨W0.heap.size, 0, none⟩)], .int .i64 1], .func (.func 62) #[] #[.pointer (some ⟨w.heap.size + 1, 0, none⟩), .pointer (some ⟨w.heap.size + 1 + 1, 0, none⟩), .pointer (some ⟨w.heap.size, 0, none⟩)], .agg #[.func (.func 62) #[] #[.pointer (some ⟨w.heap.size + 1, 0, none⟩), .pointer (some ⟨w.heap.size + 1 + 1, 0, none⟩), .pointer (some ⟨w.heap.size, 0, none⟩)], .int .i64 2], .func (.func 64) #[] #[.pointer (some ⟨w.heap.size, 0, none⟩), .pointer (some ⟨w.heap.size + 1, 0, none⟩), .pointer (some ⟨w.heap.size + 1 + 1, 0, none⟩)], .agg #[.func (.func 64) #[] #[.pointer (some ⟨w.heap.size, 0, none⟩), .pointer (some ⟨w.heap.size + 1, 0, none⟩), .pointer (some ⟨w.heap.size + 1 + 1, 0, none⟩)], .int .i64 5], .slice (some ⟨w1.heap.size, 0, none⟩) 3 3, .int .i64 0, .int .i64 0, .bool false, undef, .int .i64 pick, .pointer (some ⟨p, 0, none⟩), .int .i64 x, .int .i64 y, .int .i64 (ln : Int), .int .i64 (K0 : Int), .pointer (some ⟨p, 0, none⟩), .int .i64 x, .int .i64 y, .func (.func 67) #[] #[.pointer (some ⟨bn, 0, none⟩), .pointer (some ⟨bf, 0, none⟩)], .int .i64 (i : Int), m.val, undef, undef, undef, undef, undef], defers := [] } _ hbs ⟨i0, h9, ⟨i, hoi, h8⟩, i3.trans hbs (fun _ _ e => e)⟩ ⟨_, _, rfl, rfl⟩)
    clear i1 i2 i3 hK2 h8 h9 hbs hm hp hk hmd hoi
    gi_wp2
    exact HK2.out
  case body =>
    rintro l0 k args a' W hsz ⟨i0, i1, ⟨z, iz, i2⟩, i3⟩ _ ⟨u, v, rfl, rfl⟩
    have k1 := cell_of_heap i1 0
    have k2 := frozen_of_heap i1 0
    simp only [List.getElem?_toArray, List.getElem?_cons_zero] at k1
    by_cases e : k = K0
    · subst e
      have hz : z = R := by
        have h1 := HAT.out
        simp only [Int.toNat_natCast] at h1
        rw [iz] at h1
        exact Option.some.inj h1
      rw [hz] at i2
      rw [show (k : Int) - k = 0 by omega] at k1
      have HI2 := Lib.hid i2
      have HI3 := Lib.hid i3
      clear i1 i2 i3 hz iz
      gi_wp2
      exact ⟨But.refl _ _, rfl, HI2.out, HI3.out⟩
    · obtain ⟨q, hq⟩ : ∃ q : Int, (K0 : Int) - k = q := ⟨_, rfl⟩
      rw [hq] at k1
      have hq0 : (q == 0) = false := by simp; omega
      have hq1 : 0 < q := by omega
      have hq2 : q ≤ 4096 := by omega
      have h8 := heap_setCells (i := 0) (u := .int .i64 (q - 1)) i1
      have h9 : (W.setCell ⟨w4.heap.size, 0, none⟩ (.int .i64 (q - 1))).heap[w.heap.size + 1 + 1 + 1]? = some (.cells #[.int .i64 (z : Int)] 3 (0, 0)) := (Below.heap_setCell _ _ _ _ (by simp only; omega)).trans i2
      have hbs : But (fun q => q = w.heap.size + 1 + 1 + 1 ∨ q = w4.heap.size) W (W.setCell ⟨w4.heap.size, 0, none⟩ (.int .i64 (q - 1))) := (But.refl _ W).set ⟨w4.heap.size, 0, none⟩ _ (.inl (.inr rfl))
      have H8 : Hid ((W.setCell ⟨w4.heap.size, 0, none⟩ (.int .i64 (q - 1))).heap[w4.heap.size]? = some (.cells #[.int .i64 ((K0 : Int) - ((k + 1 : Nat) : Int))] 3 (0, 0))) := Lib.hid (by rw [show (K0 : Int) - ((k + 1 : Nat) : Int) = q - 1 by omega]; exact h8)
      have H9 := Lib.hid h9
      have HBS := Lib.hid hbs
      have HI3 := Lib.hid (i3.trans hbs (fun _ _ e => e))
      have hk1 : k + 1 ≤ K0 := by omega
      clear i1 i2 i3 iz h8 h9 hbs hq
      gi_wp2
      exact ⟨trivial, HBS.out.mono (fun b _ e => .inl e), hk1, H8.out, ⟨_, H9.out⟩, HI3.out⟩
  case done =>
    rintro k W hk ⟨i0, _⟩ hD
    have := HLN.out
    omega
  case stop =>
    rintro c2 k W _ ⟨rfl, i2, i3⟩ hD
    gi_wp2
    exact HFIN.out undef undef W i2 i3 hD
end Go.Proofs
