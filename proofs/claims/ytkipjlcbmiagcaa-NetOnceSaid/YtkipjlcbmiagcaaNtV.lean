/-
  reach: the picked message, if its link is up. Conditions: as each theorem names them.
-/
import Derived.Test.YtkipjlcbmiagcaaNtU
namespace Go.Proofs
open Go Go.RowKit Sm Go.Lib Go.Maps Go.WideMaps
attribute [local go_sem] Oper.semAt_some
theorem Sm.own_rd {W : World} {base n c : Nat} {A : Option Addr} {l : List (BitVec 8)} (h : W.ownsRow base 5 1 (.slice A n c) n (l.map byteCell)) : Rd W W.heap.size A l := fun hl => by
  have h1 := h.1
  rw [List.length_map] at h1
  obtain ⟨g, cap, hv, _, hg⟩ := h.form (by omega)
  injection hv with hv1 hv2 hv3
  subst hv1 hv3
  refine ⟨g, 0, rfl, hg, fun j x hx => ?_⟩
  have hj := (List.getElem?_eq_some_iff.1 hx).1
  rw [Nat.zero_add, h.cellAt j (by omega), List.getElem?_map, hx]
  rfl
theorem Sm.own_len {W : World} {base n : Nat} {v : Value} {l : List (BitVec 8)} (h : W.ownsRow base 5 1 v n (l.map byteCell)) : l.length = n := by
  have h1 := h.1
  rw [List.length_map] at h1
  omega
def Sm.zPar : Value := .agg #[.int .i64 0, .int .i64 0, .int .i64 0, .slice none 0 0]
theorem Sm.build41 (w : World) : (Instr.build 41 #[]).run Try.prog w = .ok zPar w := by kernel_rfl
theorem Sm.par_new (w : World) : (w.alloc (.cells #[.int .i64 0, .int .i64 0, .int .i64 0, .slice none 0 0] 41)).heap[w.heap.size]? = some (.cells #[.int .i64 0, .int .i64 0, .int .i64 0, .slice none 0 0] 41 (0, 0)) := World.alloc_heap_new w _
theorem Sm.four_cells {w : World} {p : Nat} {a b c d : Value} {t : TypeId} (h : w.heap[p]? = some (.cells #[a, b, c, d] t (0, 0))) : (w.cell? ⟨p, 0, none⟩ = some a ∧ w.cell? ⟨p, 1, none⟩ = some b ∧ w.cell? ⟨p, 2, none⟩ = some c ∧ w.cell? ⟨p, 3, none⟩ = some d)
    ∧ (w.frozen? ⟨p, 0, none⟩ = false ∧ w.frozen? ⟨p, 1, none⟩ = false ∧ w.frozen? ⟨p, 2, none⟩ = false ∧ w.frozen? ⟨p, 3, none⟩ = false) :=
  ⟨⟨cell_of_heap h 0, cell_of_heap h 1, cell_of_heap h 2, cell_of_heap h 3⟩, frozen_of_heap h 0, frozen_of_heap h 1, frozen_of_heap h 2, frozen_of_heap h 3⟩
set_option maxRecDepth 100000 in
set_option maxHeartbeats 1000000 in
/-- nothing is found -/
theorem Sm.reach_bad (v : Value) (x y pick E : Int) (w : World) (hE : E ≠ 0) (hf : ∀ W, Below w.heap.size w W → Calls Try.prog 41 #[v, .int .i64 x, .int .i64 y, .int .i64 pick] W fun e w' => e = .returned (.tuple #[.int .i64 0, .int .i64 E]) ∧ Below W.heap.size W w') :
    Calls Try.prog 39 #[v, .int .i64 x, .int .i64 y, .int .i64 pick] w fun e w' => e = .returned (.tuple #[.int .i64 0, zPar, .int .i64 E]) ∧ Below w.heap.size w w' := by
  obtain ⟨W0, hW0⟩ : ∃ V, w.alloc (.cells #[.int .i64 0, .int .i64 0, .int .i64 0, .slice none 0 0] 41) = V := ⟨_, rfl⟩
  have hb0 : Below w.heap.size w W0 := by rw [← hW0]; exact (Below.refl _ w).alloc (Nat.le_refl _) _
  have hx0 := par_new w
  rw [hW0] at hx0
  have h41 := hf W0 hb0
  have HX := Lib.hid hx0
  have HB := Lib.hid hb0
  have hE2 : (E != 0) = true := by simpa using hE
  have hz := build41
  unfold zPar at hz ⊢
  clear hb0 hx0 hf hE
  go_enter Try.func39, Try.ntmps39
  go_upto_region 1 with fail
  clear hW0
  go_wp2_with (go_at_call 41; (with_reducible refine h41.mono ?_); clear h41; rintro e w1 ⟨rfl, hb1⟩; have HX1 := Lib.hid ((hb1.block _ (Array.getElem?_eq_some_iff.1 HX.out).1).trans HX.out); obtain ⟨⟨k0, k1, k2, k3⟩, ⟨f0, f1, f2, f3⟩⟩ := four_cells HX1.out; have HB1 := Lib.hid (HB.out.trans (hb1.mono HB.out.size)); clear hb1)
  have h4 := put4 HX1.out (.int .i64 0) (.int .i64 0) (.int .i64 0) (.slice none 0 0)
  have h5 := put4_but w1 w.heap.size (.int .i64 0) (.int .i64 0) (.int .i64 0) (.slice none 0 0)
  unfold put4W at h4 h5
  obtain ⟨⟨z0, z1, z2, z3⟩, _⟩ := four_cells h4
  have hb6 := HB1.out.trans (h5.to_below HB1.out.size (fun b e => by omega))
  exact bodyPost_ret (v := .tuple #[.int .i64 0, .agg #[.int .i64 0, .int .i64 0, .int .i64 0, .slice none 0 0], .int .i64 E]) (by simp [results, Try.results39, go_sem, z0, z1, z2, z3]) rfl ⟨rfl, hb6⟩
theorem Sm.reach_no {v : Value} (x y pick : Int) (w : World) (h : NoNet w v) : Calls Try.prog 39 #[v, .int .i64 x, .int .i64 y, .int .i64 pick] w fun e w' => e = .returned (.tuple #[.int .i64 0, zPar, .int .i64 1]) ∧ Below w.heap.size w w' :=
  reach_bad v x y pick 1 w (by decide) (fun W hb => find_no x y pick W (h.keep hb))
theorem Sm.find_msg {N : NM} {L : List MsgM} (hL : L.map MsgM.d = N.P) {x y : Int} (pick : Int) (hE : findE N x y = 0) : ∃ m, L[findA N x y pick]? = some m ∧ findP N x y pick = m.d ∧ findA N x y pick < L.length := by
  obtain ⟨_, h2, h3, _⟩ := find_ok pick hE
  rw [← hL, List.length_map] at h2
  rw [← hL, List.getElem?_map] at h3
  obtain ⟨m, hm⟩ : ∃ m, L[findA N x y pick]? = some m := ⟨_, List.getElem?_eq_getElem h2⟩
  rw [hm] at h3
  exact ⟨m, hm, (Option.some.inj h3).symm, h2⟩
set_option maxRecDepth 100000 in
set_option maxHeartbeats 2000000 in
/-- something is found -/
theorem Sm.reach_found {p Mb base : Nat} {s : NSt} {D : List (Int × Int)} {A : Option Addr} {cap : Nat} {L : List MsgM} (x y pick : Int) (R : Nat) (m : MsgM) (w : World) (h : NAt w p Mb base s D A cap L) (hm : L[R]? = some m)
    (hf : ∀ W, Below w.heap.size w W → Calls Try.prog 41 #[.pointer (some ⟨p, 0, none⟩), .int .i64 x, .int .i64 y, .int .i64 pick] W fun e w' => e = .returned (.tuple #[.int .i64 (R : Int), .int .i64 0]) ∧ Below W.heap.size W w') :
    Calls Try.prog 39 #[.pointer (some ⟨p, 0, none⟩), .int .i64 x, .int .i64 y, .int .i64 pick] w fun e w' => Below w.heap.size w w' ∧
      ((((m.src, m.dst) ∈ D) ∧ e = .returned (.tuple #[.int .i64 0, zPar, .int .i64 210])) ∨ (((m.src, m.dst) ∉ D) ∧ ∃ A' c', e = .returned (.tuple #[.int .i64 (R : Int), .agg #[.int .i64 m.num, .int .i64 m.src, .int .i64 m.dst, .slice A' m.bytes.length c'], .int .i64 0]) ∧ w'.ownsRow w.heap.size 5 1 (.slice A' m.bytes.length c') m.bytes.length (m.bytes.map byteCell))) := by
  obtain ⟨W0, hW0⟩ : ∃ V, w.alloc (.cells #[.int .i64 0, .int .i64 0, .int .i64 0, .slice none 0 0] 41) = V := ⟨_, rfl⟩
  have hb0 : Below w.heap.size w W0 := by rw [← hW0]; exact (Below.refl _ w).alloc (Nat.le_refl _) _
  have hx0 := par_new w
  rw [hW0] at hx0
  have h41 := hf W0 hb0
  have hR := (List.getElem?_eq_some_iff.1 hm).1
  have hlm := h.lim
  have hRI : (R : Int) < (L.length : Int) := by omega
  have hR2 : (L.length : Int) ≤ 4096 := by omega
  have hms := h.msg m (List.mem_of_getElem? hm)
  have hi64 : I64 m.src ∧ I64 m.dst := by unfold I64; omega
  have HX := Lib.hid hx0
  have HB := Lib.hid hb0
  have HN := Lib.hid h
  have HM := Lib.hid hm
  have hz := build41
  obtain ⟨g, cap', hv, hbg, hgl⟩ := h.row.form (by omega)
  injection hv with hv1 hv2 hv3
  subst hv1
  have hbl := hms.2.2.2.2.2.2
  clear hb0 hx0 hf hms hlm hv2 hv3 h
  unfold zPar at hz ⊢
  go_enter Try.func39, Try.ntmps39
  go_upto_region 1 with fail
  clear hW0
  go_upto_region 4 with (go_at_call 41; (with_reducible refine h41.mono ?_); clear h41; rintro e w1 ⟨rfl, hb1⟩)
  have HX1 := Lib.hid ((hb1.block _ (Array.getElem?_eq_some_iff.1 HX.out).1).trans HX.out)
  have HB1 := Lib.hid (HB.out.trans (hb1.mono HB.out.size))
  have hN1 := HN.out.keep HB1.out
  have c4 := cell_of_heap hN1.blk 4
  simp only [List.getElem?_toArray, List.getElem?_cons_zero, List.getElem?_cons_succ] at c4
  have hc := cellsM_at L R m HM.out
  have hl4 : (cellsM L).length = L.length * 4 := hN1.row.1
  have ck0 := (hN1.row.cellAt (R * 4) (by omega)).trans hc.1
  have ck1 := (hN1.row.cellAt (R * 4 + 1) (by omega)).trans hc.2.1
  have ck2 := (hN1.row.cellAt (R * 4 + 2) (by omega)).trans hc.2.2.1
  have ck3 : w1.cell? ⟨g, R * 4 + 3, none⟩ = some (.slice m.A m.bytes.length m.c) := (hN1.row.cellAt (R * 4 + 3) (by omega)).trans hc.2.2.2
  have hx2 := World.alloc_heap_new w1 (.cells #[.int .i64 m.num, .int .i64 m.src, .int .i64 m.dst, .slice m.A m.bytes.length m.c] 83)
  have hb2 : Below w1.heap.size w1 (w1.alloc (.cells #[.int .i64 m.num, .int .i64 m.src, .int .i64 m.dst, .slice m.A m.bytes.length m.c] 83)) := (Below.refl _ w1).alloc (Nat.le_refl _) _
  obtain ⟨w2, hw2⟩ : ∃ V, w1.alloc (.cells #[.int .i64 m.num, .int .i64 m.src, .int .i64 m.dst, .slice m.A m.bytes.length m.c] 83) = V := ⟨_, rfl⟩
  rw [hw2] at hx2 hb2
  have HX2 := Lib.hid hx2
  have HB2 := Lib.hid hb2
  have h19 := isDown_any m.src m.dst w2 (hN1.keep hb2) hi64.1 hi64.2
  have hs1 := HB1.out.size
  clear hb1 hc hl4 hN1 hx2 hb2
  go_upto_region 5 with fail
  clear hw2 ck0 ck1 ck2 ck3 c4
  obtain ⟨⟨i0, i1, i2, i3⟩, _⟩ := four_cells HX2.out
  have hin : (decide ((m.src, m.dst) ∈ D) = true) = ((m.src, m.dst) ∈ D) := decide_eq_true_eq
  obtain ⟨dn, hdn⟩ : ∃ dn, decide ((m.src, m.dst) ∈ D) = dn := ⟨_, rfl⟩
  rw [hdn] at h19
  have HDN := Lib.hid hdn
  clear hin hdn
  cases dn with
  | true =>
    go_wp2_with (go_at_call 19; (with_reducible refine h19.mono ?_); clear h19; rintro e w3 ⟨rfl, hb3⟩; have HX3 := Lib.hid (((HB2.out.trans (hb3.mono HB2.out.size)).block _ (Array.getElem?_eq_some_iff.1 HX1.out).1).trans HX1.out); obtain ⟨⟨k0, k1, k2, k3⟩, ⟨f0, f1, f2, f3⟩⟩ := four_cells HX3.out; have HB3 := Lib.hid (HB1.out.trans ((HB2.out.trans (hb3.mono HB2.out.size)).mono HB1.out.size)); clear hb3 i0 i1 i2 i3)
    have h4 := put4 HX3.out (.int .i64 0) (.int .i64 0) (.int .i64 0) (.slice none 0 0)
    have h5 := put4_but w3 w.heap.size (.int .i64 0) (.int .i64 0) (.int .i64 0) (.slice none 0 0)
    unfold put4W at h4 h5
    obtain ⟨⟨z0, z1, z2, z3⟩, _⟩ := four_cells h4
    have hb6 := HB3.out.trans (h5.to_below HB3.out.size (fun b e => by omega))
    exact bodyPost_ret (v := .tuple #[.int .i64 0, .agg #[.int .i64 0, .int .i64 0, .int .i64 0, .slice none 0 0], .int .i64 210]) (by simp [results, Try.results39, go_sem, z0, z1, z2, z3]) rfl ⟨hb6, .inl ⟨of_decide_eq_true HDN.out, rfl⟩⟩
  | false =>
    have HCP : Hid (∀ W, Below w2.heap.size w2 W → Calls Try.prog 46 #[.agg #[.int .i64 m.num, .int .i64 m.src, .int .i64 m.dst, .slice m.A m.bytes.length m.c]] W fun e w' => ∃ A' c', e = .returned (.agg #[.int .i64 m.num, .int .i64 m.src, .int .i64 m.dst, .slice A' m.bytes.length c']) ∧ w'.ownsRow W.heap.size 5 1 (.slice A' m.bytes.length c') m.bytes.length (m.bytes.map byteCell) ∧ Below W.heap.size W w') := Lib.hid fun W hb => by
      have hbw := HB1.out.trans ((HB2.out.trans (hb.mono HB2.out.size)).mono HB1.out.size)
      have hby := (HN.out.keep hbw).byt m (List.mem_of_getElem? HM.out)
      exact copied_any m.num m.src m.dst W.heap.size m.bytes.length m.c m.A m.bytes W rfl (own_rd hby) (Nat.le_refl _) hbl
    go_wp2_with (first
      | (go_at_call 19; (with_reducible refine h19.mono ?_); clear h19; rintro e w3 ⟨rfl, hb3⟩; have HX3 := Lib.hid (((HB2.out.trans (hb3.mono HB2.out.size)).block _ (Array.getElem?_eq_some_iff.1 HX1.out).1).trans HX1.out); have HB3 := Lib.hid (HB1.out.trans ((HB2.out.trans (hb3.mono HB2.out.size)).mono HB1.out.size)); clear i0 i1 i2 i3; obtain ⟨⟨i0, i1, i2, i3⟩, _⟩ := four_cells ((hb3.block _ (Array.getElem?_eq_some_iff.1 HX2.out).1).trans HX2.out); have h46 := HCP.out w3 hb3; have hs3 := HB3.out.size; clear hb3)
      | (go_at_call 46; (with_reducible refine h46.mono ?_); clear h46; rintro e w4 ⟨A', c', rfl, ho, hb4⟩; have HX4 := Lib.hid ((hb4.block _ (Array.getElem?_eq_some_iff.1 HX3.out).1).trans HX3.out); obtain ⟨⟨k0, k1, k2, k3⟩, ⟨f0, f1, f2, f3⟩⟩ := four_cells HX4.out; have HB4 := Lib.hid (HB3.out.trans (hb4.mono HB3.out.size)); have HO := Lib.hid ho; have hl3 := (Array.getElem?_eq_some_iff.1 HX3.out).1; clear hb4 ho i0 i1 i2 i3))
    have h4 := put4 HX4.out (.int .i64 m.num) (.int .i64 m.src) (.int .i64 m.dst) (.slice A' m.bytes.length c')
    have h5 := put4_but w4 w.heap.size (.int .i64 m.num) (.int .i64 m.src) (.int .i64 m.dst) (.slice A' m.bytes.length c')
    unfold put4W at h4 h5
    obtain ⟨⟨z0, z1, z2, z3⟩, _⟩ := four_cells h4
    have hb6 := HB4.out.trans (h5.to_below HB4.out.size (fun b e => by omega))
    have ho6 := h5.row HO.out (fun g e1 e2 => by have := (HO.out.lt g e1).1; omega)
    exact bodyPost_ret (v := .tuple #[.int .i64 (R : Int), .agg #[.int .i64 m.num, .int .i64 m.src, .int .i64 m.dst, .slice A' m.bytes.length c'], .int .i64 0]) (by simp [results, Try.results39, go_sem, z0, z1, z2, z3]) rfl ⟨hb6, .inr ⟨of_decide_eq_false HDN.out, A', c', rfl, own_base ho6 (by omega)⟩⟩
end Go.Proofs
