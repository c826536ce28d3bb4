/-
  Peek, Take, Drop. Conditions: as each theorem names them.
-/
import Derived.Test.YtkipjlcbmiagcaaNtV
namespace Go.Proofs
open Go Go.RowKit Sm Go.Lib Go.Maps Go.WideMaps
attribute [local go_sem] Oper.semAt_some
/-- a parcel's value, its bytes at A -/
def Sm.parVal (P : PD) (A : Option Addr) (c : Nat) : Value := .agg #[.int .i64 P.1, .int .i64 P.2.1, .int .i64 P.2.2.1, .slice A P.2.2.2.length c]
def Sm.ParV (W : World) (base : Nat) (P : PD) (A : Option Addr) (c : Nat) : Prop := W.ownsRow base 5 1 (.slice A P.2.2.2.length c) P.2.2.2.length (P.2.2.2.map byteCell)
theorem Sm.ParV.but {S : Nat → Prop} {W W' : World} {base base' : Nat} {P : PD} {A : Option Addr} {c : Nat} (h : ParV W base P A c) (hb : But S W W') (hS : ∀ b, S b → b < base) (hl : base' ≤ base) : ParV W' base' P A c :=
  own_base (hb.row h (fun g e e2 => by have h1 := (h.lt g e).1; have := hS g e2; omega)) hl
theorem Sm.reach_N {p Mb base : Nat} {A : Option Addr} {cap : Nat} {L : List MsgM} {N : NM} (x y pick : Int) (w : World) (h : NAt w p Mb base N.s N.D A cap L) (hL : L.map MsgM.d = N.P) :
    Calls Try.prog 39 #[.pointer (some ⟨p, 0, none⟩), .int .i64 x, .int .i64 y, .int .i64 pick] w fun e w' => ∃ A c, e = .returned (.tuple #[.int .i64 (if reachE N x y pick = 0 then (findA N x y pick : Int) else 0), parVal (peekN N x y pick).1 A c, .int .i64 (peekN N x y pick).2]) ∧ ParV w' w.heap.size (peekN N x y pick).1 A c ∧ Below w.heap.size w w' := by
  have hNe : (⟨N.s, N.D, L.map MsgM.d⟩ : NM) = N := by rw [hL]
  by_cases hE : findE N x y = 0
  · obtain ⟨m, hm, hfp, hlt⟩ := find_msg hL pick hE
    refine (reach_found x y pick (findA N x y pick) m w h hm (fun W hb => ?_)).mono ?_
    · have := find_yes x y pick W (h.keep hb) (by rw [hNe]; exact hE)
      rw [hNe] at this
      exact this
    · rintro e w' ⟨hb, ⟨h1, rfl⟩ | ⟨h1, A', c', rfl, ho⟩⟩
      · have hr : reachE N x y pick = 210 := by
          unfold reachE
          rw [if_neg (by simp [hE]), hfp]
          exact if_pos h1
        have hp : peekN N x y pick = (zeroP, 210) := by
          unfold peekN
          rw [hr]
          rfl
        rw [hp, hr]
        exact ⟨none, 0, rfl, World.ownsRow_nil _ _ _ _, hb⟩
      · have hr : reachE N x y pick = 0 := by
          unfold reachE
          rw [if_neg (by simp [hE]), hfp]
          exact if_neg h1
        have hp : peekN N x y pick = (m.d, 0) := by
          unfold peekN
          rw [hr, hfp]
          rfl
        rw [hp, hr]
        exact ⟨A', c', rfl, ho, hb⟩
  · have hr : reachE N x y pick = findE N x y := by
      unfold reachE
      rw [if_pos hE]
    have hp : peekN N x y pick = (zeroP, findE N x y) := by
      unfold peekN
      rw [hr, if_pos hE]
    rw [hp, hr, if_neg hE]
    refine (reach_bad (.pointer (some ⟨p, 0, none⟩)) x y pick (findE N x y) w hE (fun W hb => ?_)).mono ?_
    · have := find_err x y pick W (h.keep hb) (by rw [hNe]; exact hE)
      rw [hNe] at this
      exact this
    · rintro e w' ⟨rfl, hb⟩
      exact ⟨none, 0, rfl, World.ownsRow_nil _ _ _ _, hb⟩
theorem Sm.reach_N0 {v : Value} (x y pick : Int) (w : World) (h : NoNet w v) :
    Calls Try.prog 39 #[v, .int .i64 x, .int .i64 y, .int .i64 pick] w fun e w' => ∃ A c, e = .returned (.tuple #[.int .i64 0, parVal zeroP A c, .int .i64 1]) ∧ ParV w' w.heap.size zeroP A c ∧ Below w.heap.size w w' :=
  (reach_no x y pick w h).mono fun e w' ⟨h1, h2⟩ => ⟨none, 0, h1, World.ownsRow_nil _ _ _ _, h2⟩
set_option maxRecDepth 100000 in
set_option maxHeartbeats 1000000 in
theorem Sm.peek_of (v : Value) (x y pick r E : Int) (P : PD) (w : World) (hf : ∀ W, Below w.heap.size w W → Calls Try.prog 39 #[v, .int .i64 x, .int .i64 y, .int .i64 pick] W fun e w' => ∃ A c, e = .returned (.tuple #[.int .i64 r, parVal P A c, .int .i64 E]) ∧ ParV w' W.heap.size P A c ∧ Below W.heap.size W w') :
    Calls Try.prog 13 #[v, .int .i64 x, .int .i64 y, .int .i64 pick] w fun e w' => ∃ A c, e = .returned (.tuple #[parVal P A c, .int .i64 E]) ∧ ParV w' w.heap.size P A c ∧ Below w.heap.size w w' := by
  obtain ⟨W0, hW0⟩ : ∃ V, w.alloc (.cells #[.int .i64 0, .int .i64 0, .int .i64 0, .slice none 0 0] 41) = V := ⟨_, rfl⟩
  have hb0 : Below w.heap.size w W0 := by rw [← hW0]; exact (Below.refl _ w).alloc (Nat.le_refl _) _
  have hx0 := par_new w
  rw [hW0] at hx0
  have h39 := hf W0 hb0
  have HX := Lib.hid hx0
  have HB := Lib.hid hb0
  obtain ⟨a, b, c, l⟩ := P
  unfold parVal at h39 ⊢
  simp only at h39 ⊢
  obtain ⟨n, hn⟩ : ∃ n, l.length = n := ⟨_, rfl⟩
  rw [hn] at h39 ⊢
  have hl0 := (Array.getElem?_eq_some_iff.1 hx0).1
  clear hb0 hx0 hf hn
  go_enter Try.func13, Try.ntmps13
  go_upto_region 1 with fail
  clear hW0
  go_upto_region 2 with (go_at_call 39; (with_reducible refine h39.mono ?_); clear h39; rintro e w1 ⟨A, cp, rfl, ho, hb1⟩)
  have hx1 := (hb1.block _ (Array.getElem?_eq_some_iff.1 HX.out).1).trans HX.out
  have hbw := HB.out.trans (hb1.mono HB.out.size)
  have hl1 : w.heap.size < w1.heap.size := Nat.lt_of_lt_of_le hl0 hb1.size
  have hx2 := old_alloc (.cells #[.int .i64 a, .int .i64 b, .int .i64 c, .slice A n cp] 41) hx1
  have hx3 := World.alloc_heap_new w1 (.cells #[.int .i64 a, .int .i64 b, .int .i64 c, .slice A n cp] 41)
  have hb2 := hbw.alloc hbw.size (.cells #[.int .i64 a, .int .i64 b, .int .i64 c, .slice A n cp] 41)
  have ho2 := ho.but (But.of_all ((Below.refl _ w1).alloc (Nat.le_refl _) (.cells #[.int .i64 a, .int .i64 b, .int .i64 c, .slice A n cp] 41)) (fun _ => False)) (fun _ e => e.elim) (Nat.le_refl _)
  obtain ⟨w2, hw2⟩ : ∃ V, w1.alloc (.cells #[.int .i64 a, .int .i64 b, .int .i64 c, .slice A n cp] 41) = V := ⟨_, rfl⟩
  rw [hw2] at hx2 hx3 hb2 ho2 ⊢
  have HX1 := Lib.hid hx2
  have HB1 := Lib.hid hb2
  have HO := Lib.hid ho2
  obtain ⟨⟨k0, k1, k2, k3⟩, ⟨f0, f1, f2, f3⟩⟩ := four_cells hx2
  obtain ⟨⟨j0, j1, j2, j3⟩, _⟩ := four_cells hx3
  clear hb1 ho hx1 hx2 hx3 hb2 ho2 hw2 hbw
  go_wp2
  have h4 := put4 HX1.out (.int .i64 a) (.int .i64 b) (.int .i64 c) (.slice A n cp)
  have h5 := put4_but w2 w.heap.size (.int .i64 a) (.int .i64 b) (.int .i64 c) (.slice A n cp)
  unfold put4W at h4 h5
  obtain ⟨⟨z0, z1, z2, z3⟩, _⟩ := four_cells h4
  have hb6 := HB1.out.trans (h5.to_below HB1.out.size (fun b e => by omega))
  have ho6 := HO.out.but h5 (fun b e => by omega) (Nat.le_of_lt hl0)
  exact bodyPost_ret (v := .tuple #[.agg #[.int .i64 a, .int .i64 b, .int .i64 c, .slice A n cp], .int .i64 E]) (by simp [results, Try.results13, go_sem, z0, z1, z2, z3]) rfl ⟨A, cp, rfl, ho6, hb6⟩
end Go.Proofs
