/-
  The document's Down. Conditions: as each theorem names them.
  A call by both nets: Drop. Conditions: as the theorem names them.
  A call by both nets: Take. Conditions: as the theorem names them.
  A call by both nets: Down. Conditions: as the theorem names them.
  A call by both nets: Peek. Conditions: as the theorem names them.
  A call by both nets: Put. Conditions: as the theorem names them.
  All: what it gives; its iterator gives the messages, in order, each with bytes of its own. Conditions: as each theorem names them.
  A call by both nets: is a net the document's. Conditions: as the theorem names them.
  Any call by both nets. Conditions: as the theorem names them.
  A call by both nets: both nets behind calls. Conditions: as the theorem names them.
  NetLinks: the walk. Conditions: as each theorem names them.
  Calls of a net that is none; a law's play where none is made. Conditions: as each theorem names them.
-/
import Derived.Test.YtkipjlcbmiagcaaZ02
import Derived.LoopIn
import Derived.OwnWalkIn
import Derived.TacticsInMore
import Derived.Test.YtkipjlcbmiagcaaZ00
namespace Go.Proofs
open Go Go.RowKit Sm Go.Lib Go.Maps Go.WideMaps
attribute [local go_sem] Oper.semAt_some
set_option maxRecDepth 100000 in
theorem Sm.info93 : ∃ i, Try.prog.info? 93 = some i ∧ i.zero = some (.agg #[.int .i64 0, .int .i64 0]) ∧ i.size = 2 ∧ i.bytes = 16 := ⟨Try.t93, rfl, rfl, rfl, rfl⟩
theorem Sm.cellsD_add (D : List (Int × Int)) (z : Int × Int) : cellsD (D ++ [z]) = cellsD D ++ [.int .i64 z.1, .int .i64 z.2] := by
  unfold cellsD
  rw [List.flatMap_append]
  rfl
theorem Sm.delL_keep {x z : Int × Int} {D : List (Int × Int)} {k : Nat} (h : D[k]? = some z) (hp : z ≠ x) : delL x (D.take (k + 1)) = delL x (D.take k) ++ [z] := by
  rw [List.take_add_one, h]
  unfold delL
  rw [List.filter_append]
  simp [hp]
theorem Sm.delL_drop {x : Int × Int} {D : List (Int × Int)} {k : Nat} (h : D[k]? = some x) : delL x (D.take (k + 1)) = delL x (D.take k) := by
  rw [List.take_add_one, h]
  unfold delL
  rw [List.filter_append]
  simp
theorem Sm.delL_len (x : Int × Int) (D : List (Int × Int)) (k : Nat) : (delL x (D.take k)).length ≤ k := by
  unfold delL
  exact Nat.le_trans (List.length_filter_le _ _) (by rw [List.length_take]; omega)
theorem Sm.down_at {S : Nat → Prop} {W : World} {N : NM} {AL AD A9 : Option Addr} {nL cL nD cD n9 c9 : Nat} {R : List MsgM} {x y : Int} {is : Bool} (h : RfAt S W N AL nL cL AD nD cD R) (hf : (downL is x y N.D).length ≤ 4096) (hn : (downL is x y N.D).length = n9) (h1 : Rds W S A9 (cellsD (downL is x y N.D))) :
    RfAt S W ⟨N.s, downL is x y N.D, N.P⟩ AL nL cL A9 n9 c9 R :=
  ⟨h.len, h.room, hn, h.map, h.row, h.byt, h1, ⟨h.few.1, by omega⟩⟩
set_option maxRecDepth 100000 in
set_option maxHeartbeats 4000000 in
theorem Sm.refDown_bad {S : Nat → Prop} {N : NM} {AL AD : Option Addr} {nL cL nD cD : Nat} {R : List MsgM} (x y : Int) (is : Bool) (w : World) (h : RfAt S w N AL nL cL AD nD cD R) (hl : lnkB N.s x y = false) :
    Calls Try.prog 58 #[refV N.s AL nL cL AD nD cD, .int .i64 x, .int .i64 y, .bool is] w fun e w' => e = .returned (.tuple #[refV N.s AL nL cL AD nD cD, .int .i64 2]) ∧ RfAt S w' N AL nL cL AD nD cD R ∧ Below w.heap.size w w' := by
  unfold refV
  obtain ⟨a1, ha1⟩ : ∃ a, N.s.ends = a := ⟨_, rfl⟩
  obtain ⟨a2, ha2⟩ : ∃ a, N.s.most = a := ⟨_, rfl⟩
  obtain ⟨a3, ha3⟩ : ∃ a, N.s.came = a := ⟨_, rfl⟩
  rw [ha1, ha2, ha3]
  obtain ⟨w1, hw1⟩ : ∃ V, (w.alloc (.cells #[.int .i64 a1, .int .i64 a2, .int .i64 a3, .slice AL nL cL, .slice AD nD cD] 29)).alloc (.cells #[.int .i64 0, .int .i64 0, .int .i64 0, .slice none 0 0, .slice none 0 0] 29) = V := ⟨_, rfl⟩
  have hb1 : Below w.heap.size w w1 := by rw [← hw1]; exact bel2 w _ _
  have hx4 : w1.heap[w.heap.size]? = some (.cells #[.int .i64 a1, .int .i64 a2, .int .i64 a3, .slice AL nL cL, .slice AD nD cD] 29 (0, 0)) := by rw [← hw1]; exact old_alloc _ (new_alloc _ rfl)
  have hx8 : w1.heap[w.heap.size + 1]? = some (.cells #[.int .i64 0, .int .i64 0, .int .i64 0, .slice none 0 0, .slice none 0 0] 29 (0, 0)) := by rw [← hw1]; exact new_alloc _ (by simp)
  have hs1 : w1.heap.size = w.heap.size + 2 := by rw [← hw1]; simp
  have HX4 : Hid (∀ W, Below w1.heap.size w1 W → W.heap[w.heap.size]? = some (.cells #[.int .i64 a1, .int .i64 a2, .int .i64 a3, .slice AL nL cL, .slice AD nD cD] 29 (0, 0))) := Lib.hid fun W hb => (hb.block _ (by omega)).trans hx4
  have HX8 : Hid (∀ W, Below w1.heap.size w1 W → W.heap[w.heap.size + 1]? = some (.cells #[.int .i64 0, .int .i64 0, .int .i64 0, .slice none 0 0, .slice none 0 0] 29 (0, 0))) := Lib.hid fun W hb => (hb.block _ (by omega)).trans hx8
  have HB := Lib.hid hb1
  have HH := Lib.hid h
  have HBW : Hid (Below w1.heap.size w1 w1) := Lib.hid (Below.refl _ _)
  have HS1 := Lib.hid hs1
  obtain ⟨⟨c0, c1, c2, c3, c4⟩, _⟩ := five_cells hx4
  obtain ⟨⟨j0, j1, j2, j3, j4⟩, ⟨g0, g1, g2, g3, g4⟩⟩ := five_cells hx8
  obtain ⟨bx, hbx⟩ : ∃ b, wiB 0 x (a1 - 1) = b := ⟨_, rfl⟩
  obtain ⟨bY, hby⟩ : ∃ b, wiB 0 y (a1 - 1) = b := ⟨_, rfl⟩
  have hex := fun W => refEnd_any a1 a2 a3 (.slice AL nL cL) (.slice AD nD cD) x W
  have hey := fun W => refEnd_any a1 a2 a3 (.slice AL nL cL) (.slice AD nD cD) y W
  rw [hbx] at hex
  rw [hby] at hey
  obtain ⟨dn, hdn⟩ : ∃ dn, decide ((x, y) ∈ N.D) = dn := ⟨_, rfl⟩
  have hD : ∀ W, Below w1.heap.size w1 W → Calls Try.prog 25 #[.agg #[.int .i64 a1, .int .i64 a2, .int .i64 a3, .slice AL nL cL, .slice AD nD cD], .int .i64 x, .int .i64 y] W fun e w' => e = .returned (.bool dn) ∧ Below W.heap.size W w' := fun W hb => by
    have := refDown_at a1 a2 a3 (.slice AL nL cL) AD nD cD N.D x y W h.dlen h.few.2 (h.keep (hb1.trans (hb.mono hb1.size))).dn
    rwa [hdn] at this
  have HD := Lib.hid hD
  have HEx := Lib.hid hex
  have HEy := Lib.hid hey
  have hlk : lnkB N.s x y = (bx && bY) := by rw [lnkB_wi, ha1, hbx, hby]
  have hPL : N.P.length = nL := by rw [← h.map, List.length_map, h.len]
  cases bx with
  | false =>
    clear h hx4 hx8 hex hey hs1 hb1 hlk hPL hbx hby hl ha1 ha2 ha3 hdn hD HD
    go_enter Try.func58, Try.ntmps58
    go_upto_region 1 with fail
    clear hw1
    go_wp2_with (first | (go_at_call 52; (with_reducible (first | refine (HEx.out _).mono ?_ | refine (HEy.out _).mono ?_)); rintro e w2 ⟨rfl, hbb⟩; have HBW := Lib.hid (HBW.out.trans (hbb.mono HBW.out.size)); clear hbb c0 c1 c2 c3 c4 j0 j1 j2 j3 j4 g0 g1 g2 g3 g4; obtain ⟨⟨c0, c1, c2, c3, c4⟩, _⟩ := five_cells (HX4.out _ HBW.out); obtain ⟨⟨j0, j1, j2, j3, j4⟩, ⟨g0, g1, g2, g3, g4⟩⟩ := five_cells (HX8.out _ HBW.out)) | (go_at_call 25; (with_reducible refine (HD.out _ HBW.out).mono ?_); rintro e w2 ⟨rfl, hbb⟩; have HBW := Lib.hid (HBW.out.trans (hbb.mono HBW.out.size)); clear hbb c0 c1 c2 c3 c4 j0 j1 j2 j3 j4 g0 g1 g2 g3 g4; obtain ⟨⟨c0, c1, c2, c3, c4⟩, _⟩ := five_cells (HX4.out _ HBW.out); obtain ⟨⟨j0, j1, j2, j3, j4⟩, ⟨g0, g1, g2, g3, g4⟩⟩ := five_cells (HX8.out _ HBW.out)))
    have h4 := put5 (HX8.out _ HBW.out) (.int .i64 a1) (.int .i64 a2) (.int .i64 a3) (.slice AL nL cL) (.slice AD nD cD)
    have h5 := put5_but w2 (w.heap.size + 1) (.int .i64 a1) (.int .i64 a2) (.int .i64 a3) (.slice AL nL cL) (.slice AD nD cD)
    unfold put5W at h4 h5
    obtain ⟨⟨z0, z1, z2, z3, z4⟩, _⟩ := five_cells h4
    have hbf0 := HB.out.trans (HBW.out.mono HB.out.size)
    have hbf := hbf0.trans (h5.to_below hbf0.size (fun b e => by omega))
    exact bodyPost_ret (v := .tuple #[.agg #[.int .i64 a1, .int .i64 a2, .int .i64 a3, .slice AL nL cL, .slice AD nD cD], .int .i64 2]) (by simp [results, Try.results58, go_sem, z0, z1, z2, z3, z4]) rfl ⟨rfl, HH.out.keep hbf, hbf⟩
  | true =>
    cases bY with
    | false =>
      clear h hx4 hx8 hex hey hs1 hb1 hlk hPL hbx hby hl ha1 ha2 ha3 hdn hD HD
      go_enter Try.func58, Try.ntmps58
      go_upto_region 1 with fail
      clear hw1
      go_wp2_with (first | (go_at_call 52; (with_reducible (first | refine (HEx.out _).mono ?_ | refine (HEy.out _).mono ?_)); rintro e w2 ⟨rfl, hbb⟩; have HBW := Lib.hid (HBW.out.trans (hbb.mono HBW.out.size)); clear hbb c0 c1 c2 c3 c4 j0 j1 j2 j3 j4 g0 g1 g2 g3 g4; obtain ⟨⟨c0, c1, c2, c3, c4⟩, _⟩ := five_cells (HX4.out _ HBW.out); obtain ⟨⟨j0, j1, j2, j3, j4⟩, ⟨g0, g1, g2, g3, g4⟩⟩ := five_cells (HX8.out _ HBW.out)) | (go_at_call 25; (with_reducible refine (HD.out _ HBW.out).mono ?_); rintro e w2 ⟨rfl, hbb⟩; have HBW := Lib.hid (HBW.out.trans (hbb.mono HBW.out.size)); clear hbb c0 c1 c2 c3 c4 j0 j1 j2 j3 j4 g0 g1 g2 g3 g4; obtain ⟨⟨c0, c1, c2, c3, c4⟩, _⟩ := five_cells (HX4.out _ HBW.out); obtain ⟨⟨j0, j1, j2, j3, j4⟩, ⟨g0, g1, g2, g3, g4⟩⟩ := five_cells (HX8.out _ HBW.out)))
      have h4 := put5 (HX8.out _ HBW.out) (.int .i64 a1) (.int .i64 a2) (.int .i64 a3) (.slice AL nL cL) (.slice AD nD cD)
      have h5 := put5_but w2 (w.heap.size + 1) (.int .i64 a1) (.int .i64 a2) (.int .i64 a3) (.slice AL nL cL) (.slice AD nD cD)
      unfold put5W at h4 h5
      obtain ⟨⟨z0, z1, z2, z3, z4⟩, _⟩ := five_cells h4
      have hbf0 := HB.out.trans (HBW.out.mono HB.out.size)
      have hbf := hbf0.trans (h5.to_below hbf0.size (fun b e => by omega))
      exact bodyPost_ret (v := .tuple #[.agg #[.int .i64 a1, .int .i64 a2, .int .i64 a3, .slice AL nL cL, .slice AD nD cD], .int .i64 2]) (by simp [results, Try.results58, go_sem, z0, z1, z2, z3, z4]) rfl ⟨rfl, HH.out.keep hbf, hbf⟩
    | true => exact absurd (hlk.symm.trans hl) (by decide)
set_option maxRecDepth 100000 in
set_option maxHeartbeats 4000000 in
theorem Sm.refDown_yes {S : Nat → Prop} {N : NM} {AL AD : Option Addr} {nL cL nD cD : Nat} {R : List MsgM} (x y : Int) (is : Bool) (w : World) (h : RfAt S w N AL nL cL AD nD cD R) (hS : ∀ b, S b → b < w.heap.size) (hl : lnkB N.s x y = true) (hD0 : nD < 4096) :
    Calls Try.prog 58 #[refV N.s AL nL cL AD nD cD, .int .i64 x, .int .i64 y, .bool is] w fun e w' => ∃ A' n' c', e = .returned (.tuple #[refV N.s AL nL cL A' n' c', .int .i64 0]) ∧ RfAt S w' ⟨N.s, downL is x y N.D, N.P⟩ AL nL cL A' n' c' R ∧ Below w.heap.size w w' := by
  unfold refV
  obtain ⟨a1, ha1⟩ : ∃ a, N.s.ends = a := ⟨_, rfl⟩
  obtain ⟨a2, ha2⟩ : ∃ a, N.s.most = a := ⟨_, rfl⟩
  obtain ⟨a3, ha3⟩ : ∃ a, N.s.came = a := ⟨_, rfl⟩
  rw [ha1, ha2, ha3]
  obtain ⟨w1, hw1⟩ : ∃ V, (w.alloc (.cells #[.int .i64 a1, .int .i64 a2, .int .i64 a3, .slice AL nL cL, .slice AD nD cD] 29)).alloc (.cells #[.int .i64 0, .int .i64 0, .int .i64 0, .slice none 0 0, .slice none 0 0] 29) = V := ⟨_, rfl⟩
  have hb1 : Below w.heap.size w w1 := by rw [← hw1]; exact bel2 w _ _
  have hx4 : w1.heap[w.heap.size]? = some (.cells #[.int .i64 a1, .int .i64 a2, .int .i64 a3, .slice AL nL cL, .slice AD nD cD] 29 (0, 0)) := by rw [← hw1]; exact old_alloc _ (new_alloc _ rfl)
  have hx8 : w1.heap[w.heap.size + 1]? = some (.cells #[.int .i64 0, .int .i64 0, .int .i64 0, .slice none 0 0, .slice none 0 0] 29 (0, 0)) := by rw [← hw1]; exact new_alloc _ (by simp)
  have hs1 : w1.heap.size = w.heap.size + 2 := by rw [← hw1]; simp
  have HX4 : Hid (∀ W, Below w1.heap.size w1 W → W.heap[w.heap.size]? = some (.cells #[.int .i64 a1, .int .i64 a2, .int .i64 a3, .slice AL nL cL, .slice AD nD cD] 29 (0, 0))) := Lib.hid fun W hb => (hb.block _ (by omega)).trans hx4
  have HX8 : Hid (∀ W, Below w1.heap.size w1 W → W.heap[w.heap.size + 1]? = some (.cells #[.int .i64 0, .int .i64 0, .int .i64 0, .slice none 0 0, .slice none 0 0] 29 (0, 0))) := Lib.hid fun W hb => (hb.block _ (by omega)).trans hx8
  have HB := Lib.hid hb1
  have HH := Lib.hid h
  have HBW : Hid (Below w1.heap.size w1 w1) := Lib.hid (Below.refl _ _)
  have HS1 := Lib.hid hs1
  obtain ⟨⟨c0, c1, c2, c3, c4⟩, _⟩ := five_cells hx4
  obtain ⟨⟨j0, j1, j2, j3, j4⟩, ⟨g0, g1, g2, g3, g4⟩⟩ := five_cells hx8
  obtain ⟨bx, hbx⟩ : ∃ b, wiB 0 x (a1 - 1) = b := ⟨_, rfl⟩
  obtain ⟨bY, hby⟩ : ∃ b, wiB 0 y (a1 - 1) = b := ⟨_, rfl⟩
  have hex := fun W => refEnd_any a1 a2 a3 (.slice AL nL cL) (.slice AD nD cD) x W
  have hey := fun W => refEnd_any a1 a2 a3 (.slice AL nL cL) (.slice AD nD cD) y W
  rw [hbx] at hex
  rw [hby] at hey
  obtain ⟨dn, hdn⟩ : ∃ dn, decide ((x, y) ∈ N.D) = dn := ⟨_, rfl⟩
  have hD : ∀ W, Below w1.heap.size w1 W → Calls Try.prog 25 #[.agg #[.int .i64 a1, .int .i64 a2, .int .i64 a3, .slice AL nL cL, .slice AD nD cD], .int .i64 x, .int .i64 y] W fun e w' => e = .returned (.bool dn) ∧ Below W.heap.size W w' := fun W hb => by
    have := refDown_at a1 a2 a3 (.slice AL nL cL) AD nD cD N.D x y W h.dlen h.few.2 (h.keep (hb1.trans (hb.mono hb1.size))).dn
    rwa [hdn] at this
  have HD := Lib.hid hD
  have HEx := Lib.hid hex
  have HEy := Lib.hid hey
  have hlk : lnkB N.s x y = (bx && bY) := by rw [lnkB_wi, ha1, hbx, hby]
  have hPL : N.P.length = nL := by rw [← h.map, List.length_map, h.len]
  rw [hlk, Bool.and_eq_true] at hl
  obtain ⟨rfl, rfl⟩ := hl
  have HRS := Lib.hid hS
  have HDN : Hid (N.D.length = nD) := Lib.hid h.dlen
  have HLD : Hid ((delL (x, y) N.D).length < 4096) := Lib.hid (by have := delL_len (x, y) N.D N.D.length; rw [List.take_length] at this; have := h.dlen; omega)
  have HDL := Lib.hid (fun k => delL_len (x, y) N.D k)
  have H1 : Hid (Rds w1 S AD (cellsD N.D)) := Lib.hid (h.keep hb1).dn
  have hfI : (nD : Int) < 4096 := by omega
  obtain ⟨i93, q93, r93, s93, t93⟩ := info93
  clear h hS hx4 hx8 hex hey hs1 hb1 hlk hPL hbx hby hdn hD HD ha1 ha2 ha3 dn
  go_enter Try.func58, Try.ntmps58
  go_upto_region 1 with fail
  clear hw1
  go_wp2_with (first | (go_at_call 52; (with_reducible (first | refine (HEx.out _).mono ?_ | refine (HEy.out _).mono ?_)); rintro e w2 ⟨rfl, hbb⟩; have HBW := Lib.hid (HBW.out.trans (hbb.mono HBW.out.size)); clear hbb c0 c1 c2 c3 c4 j0 j1 j2 j3 j4 g0 g1 g2 g3 g4; obtain ⟨⟨c0, c1, c2, c3, c4⟩, _⟩ := five_cells (HX4.out _ HBW.out); obtain ⟨⟨j0, j1, j2, j3, j4⟩, ⟨g0, g1, g2, g3, g4⟩⟩ := five_cells (HX8.out _ HBW.out)) | (go_at_call 25; (with_reducible refine (HD.out _ HBW.out).mono ?_); rintro e w2 ⟨rfl, hbb⟩; have HBW := Lib.hid (HBW.out.trans (hbb.mono HBW.out.size)); clear hbb c0 c1 c2 c3 c4 j0 j1 j2 j3 j4 g0 g1 g2 g3 g4; obtain ⟨⟨c0, c1, c2, c3, c4⟩, _⟩ := five_cells (HX4.out _ HBW.out); obtain ⟨⟨j0, j1, j2, j3, j4⟩, ⟨g0, g1, g2, g3, g4⟩⟩ := five_cells (HX8.out _ HBW.out)))
  clear j0 j1 j2 j3 j4 g0 g1 g2 g3 g4
  go_loopw [10, 11] (fun v10 v11 wr => ∃ (k : Nat) (A : Option Addr) (c : Nat), k ≤ nD ∧ v11 = .int .i64 (k : Int) ∧ v10 = .slice A (delL (x, y) (N.D.take k)).length c ∧ Hid (Below w1.heap.size w1 wr ∧ wr.ownsRow w1.heap.size 93 2 (.slice A (delL (x, y) (N.D.take k)).length c) (delL (x, y) (N.D.take k)).length (cellsD (delL (x, y) (N.D.take k))))) (fun _ v11 _ => nD - (RowKit.intOf v11).toNat)
  case atStart => exact ⟨0, none, 0, Nat.zero_le _, rfl, rfl, Lib.hid ⟨HBW.out, World.ownsRow_nil _ _ _ _⟩⟩
  case round =>
    obtain ⟨wo, rfl⟩ : ∃ wo : World, wo = wr := ⟨_, rfl⟩
    obtain ⟨k, A, c, hk, rfl, rfl, HO⟩ := hrel
    clear c0 c1 c2 c3 c4
    obtain ⟨⟨c0, c1, c2, c3, c4⟩, ⟨_, _, _, _, f4⟩⟩ := five_cells (HX4.out wo HO.out.1)
    have hkl := HDL.out k
    by_cases hlt : k < nD
    · have hkx : k < N.D.length := by rw [HDN.out]; exact hlt
      have hkI : (k : Int) < (nD : Int) := by omega
      obtain ⟨z, hz⟩ : ∃ z, N.D[k]? = some z := ⟨_, List.getElem?_eq_getElem hkx⟩
      obtain ⟨b, off, rfl, hbl, _, hcl⟩ := (H1.out.but (But.of_all HO.out.1 (fun _ => False)) (fun _ e => e.elim)) (by rw [cellsD_len]; omega)
      have hc := cellsD_at N.D k z hz
      have q0 := hcl (k * 2) _ hc.1
      have q1 := hcl (k * 2 + 1) _ hc.2
      rw [← Nat.add_assoc] at q1
      obtain ⟨z1, z2⟩ := z
      simp only at q0 q1
      clear hcl hc
      by_cases g1 : z1 = x
      · have g1' : (z1 == x) = true := by simpa using g1
        by_cases g2 : z2 = y
        · have g2' : (z2 == y) = true := by simpa using g2
          have HTK : Hid (delL (x, y) (N.D.take (k + 1)) = delL (x, y) (N.D.take k)) := Lib.hid (delL_drop (by rw [hz, g1, g2]))
          clear hz
          go_wp2
          go_roundw
          case rel => exact ⟨k + 1, A, c, by omega, by go_num, by rw [HTK.out], by rw [HTK.out]; exact HO⟩
          case measure => simp [RowKit.intOf]; omega
        · have g2' : (z2 == y) = false := by simpa using g2
          rw [g1] at hz q0
          clear g1 g1'
          have hp : (x, z2) ≠ (x, y) := by intro e; injection e with e1 e2; exact g2 e2
          have htk : delL (x, y) (N.D.take (k + 1)) = delL (x, y) (N.D.take k) ++ [(x, z2)] := delL_keep hz hp
          have hlk : (delL (x, y) (N.D.take (k + 1))).length = (delL (x, y) (N.D.take k)).length + 1 := by rw [htk]; simp
          have HTK := Lib.hid htk
          have HLK := Lib.hid hlk
          have ho := HO.out.2.alloc (.cells #[.int .i64 x, .int .i64 z2] 93)
          have hnw := World.alloc_heap_new wo (.cells #[.int .i64 x, .int .i64 z2] 93)
          have hwnn := World.news_of_block hnw
          have hlo := HO.out.1.size
          clear hp htk hlk hz 
          go_wp2_with (at_builtin; refine wpList_append_own_at _ rfl (.tmp 48) (.tmp 54) 27 rfl w1.heap.size 93 i93 _ 2 16 Try.underlying27 q93 r93 s93 t93 rfl (by decide) _ ((delL (x, y) (N.D.take k)).length) (cellsD (delL (x, y) (N.D.take k))) rfl ho ⟨wo.heap.size, 0, none⟩ 1 1 [.int .i64 x, .int .i64 z2] rfl rfl hwnn (by simp [Value.oneCell']) ?_ ?_ ?_ ?_; (unfold maxLen; omega); omega; (simp; omega); intro v5 w5 hown5 hg5 _ hat5; obtain ⟨A7, c7, rfl⟩ := own_form hown5; have HO2 : Hid (Below w1.heap.size w1 w5 ∧ w5.ownsRow w1.heap.size 93 2 (.slice A7 (delL (x, y) (N.D.take (k + 1))).length c7) (delL (x, y) (N.D.take (k + 1))).length (cellsD (delL (x, y) (N.D.take (k + 1))))) := Lib.hid ⟨(HO.out.1.alloc hlo _).trans ((But.grown hg5).to_below (by simp; omega) (fun b e => (HO.out.2.lt b e).1)), by rw [HLK.out, HTK.out, cellsD_add]; exact hown5⟩; clear hown5 hg5 hat5 ho hwnn hnw)
          go_roundw
          case rel => exact ⟨k + 1, A7, c7, by omega, by go_num, by rw [HLK.out], HO2⟩
          case measure => simp [RowKit.intOf]; omega
      · have g1' : (z1 == x) = false := by simpa using g1
        have hp : (z1, z2) ≠ (x, y) := by intro e; injection e with e1 e2; exact g1 e1
        have htk : delL (x, y) (N.D.take (k + 1)) = delL (x, y) (N.D.take k) ++ [(z1, z2)] := delL_keep hz hp
        have hlk : (delL (x, y) (N.D.take (k + 1))).length = (delL (x, y) (N.D.take k)).length + 1 := by rw [htk]; simp
        have HTK := Lib.hid htk
        have HLK := Lib.hid hlk
        have ho := HO.out.2.alloc (.cells #[.int .i64 z1, .int .i64 z2] 93)
        have hnw := World.alloc_heap_new wo (.cells #[.int .i64 z1, .int .i64 z2] 93)
        have hwnn := World.news_of_block hnw
        have hlo := HO.out.1.size
        clear hp htk hlk hz 
        go_wp2_with (at_builtin; refine wpList_append_own_at _ rfl (.tmp 48) (.tmp 54) 27 rfl w1.heap.size 93 i93 _ 2 16 Try.underlying27 q93 r93 s93 t93 rfl (by decide) _ ((delL (x, y) (N.D.take k)).length) (cellsD (delL (x, y) (N.D.take k))) rfl ho ⟨wo.heap.size, 0, none⟩ 1 1 [.int .i64 z1, .int .i64 z2] rfl rfl hwnn (by simp [Value.oneCell']) ?_ ?_ ?_ ?_; (unfold maxLen; omega); omega; (simp; omega); intro v5 w5 hown5 hg5 _ hat5; obtain ⟨A7, c7, rfl⟩ := own_form hown5; have HO2 : Hid (Below w1.heap.size w1 w5 ∧ w5.ownsRow w1.heap.size 93 2 (.slice A7 (delL (x, y) (N.D.take (k + 1))).length c7) (delL (x, y) (N.D.take (k + 1))).length (cellsD (delL (x, y) (N.D.take (k + 1))))) := Lib.hid ⟨(HO.out.1.alloc hlo _).trans ((But.grown hg5).to_below (by simp; omega) (fun b e => (HO.out.2.lt b e).1)), by rw [HLK.out, HTK.out, cellsD_add]; exact hown5⟩; clear hown5 hg5 hat5 ho hwnn hnw)
        go_roundw
        case rel => exact ⟨k + 1, A7, c7, by omega, by go_num, by rw [HLK.out], HO2⟩
        case measure => simp [RowKit.intOf]; omega
    · obtain rfl : k = nD := by omega
      have HTK : Hid (delL (x, y) (N.D.take k) = delL (x, y) N.D) := Lib.hid (by rw [List.take_of_length_le (by rw [HDN.out]; exact Nat.le_refl _)])
      rw [HTK.out] at HO hkl
      rw [HTK.out]
      cases is with
      | false =>
        have HOF := Lib.hid HO.out.2
        have HBF := Lib.hid HO.out.1
        go_upto_region 12 with fail
        have hb3s := heap_setCells (i := 4) (u := .slice A ((delL (x, y) N.D).length) c) (HX4.out wo HBF.out)
        have hbt : But (fun q => q = w.heap.size) wo (wo.setCell ⟨w.heap.size, 4, none⟩ (.slice A ((delL (x, y) N.D).length) c)) := (But.refl _ _).set ⟨w.heap.size, 4, none⟩ _ (.inl rfl)
        have hpx3 := hbt.box (HX8.out wo HBF.out) (by omega)
        simp only [List.setIfInBounds_toArray, List.set_cons_zero, List.set_cons_succ] at hb3s
        have HB3S := Lib.hid hb3s
        have HBT := Lib.hid hbt
        have HPX3 := Lib.hid hpx3
        obtain ⟨W9, hW9⟩ : ∃ W9, wo.setCell ⟨w.heap.size, 4, none⟩ (.slice A ((delL (x, y) N.D).length) c) = W9 := ⟨_, rfl⟩
        rw [hW9] at HB3S HBT HPX3 ⊢
        clear c0 c1 c2 c3 c4 f4 hb3s hbt hpx3 hW9
        obtain ⟨⟨c0, c1, c2, c3, c4⟩, _⟩ := five_cells HB3S.out
        obtain ⟨⟨j0, j1, j2, j3, j4⟩, ⟨g0, g1, g2, g3, g4⟩⟩ := five_cells HPX3.out
        go_wp2
        have h4 := put5 HPX3.out (.int .i64 a1) (.int .i64 a2) (.int .i64 a3) (.slice AL nL cL) (.slice A ((delL (x, y) N.D).length) c)
        have h5 := put5_but W9 (w.heap.size + 1) (.int .i64 a1) (.int .i64 a2) (.int .i64 a3) (.slice AL nL cL) (.slice A ((delL (x, y) N.D).length) c)
        unfold put5W at h4 h5
        obtain ⟨⟨z0, z1, z2, z3, z4⟩, _⟩ := five_cells h4
        have hb1 := HB.out.trans (HBF.out.mono HB.out.size)
        have hb2 := hb1.trans (HBT.out.to_below hb1.size (fun b e => by omega))
        have hb3 := hb2.trans (h5.to_below hb2.size (fun b e => by omega))
        have hs9 : w.heap.size + 2 ≤ w1.heap.size := by have := HS1.out; omega
        have hro := h5.row (HBT.out.row HOF.out (fun g e e2 => by have h9 := (HOF.out.lt g e).1; have h10 : g = w.heap.size := e2; omega)) (fun g e e2 => by have h9 := (HOF.out.lt g e).1; have h10 : g = w.heap.size + 1 := e2; omega)
        have hH := HH.out.keep hb3
        exact bodyPost_ret (v := .tuple #[.agg #[.int .i64 a1, .int .i64 a2, .int .i64 a3, .slice AL nL cL, .slice A ((delL (x, y) N.D).length) c], .int .i64 0]) (by simp [results, Try.results58, go_sem, z0, z1, z2, z3, z4]) rfl ⟨A, (delL (x, y) N.D).length, c, rfl, down_at hH (by have := HLD.out; unfold downL; simp; omega) (by unfold downL; simp) (own_rds (by unfold downL; simpa [cellsD_add] using hro) (fun b e => by have := HRS.out b e; omega)), hb3⟩
      | true =>
        have ho := HO.out.2.alloc (.cells #[.int .i64 x, .int .i64 y] 93)
        have hnw := World.alloc_heap_new wo (.cells #[.int .i64 x, .int .i64 y] 93)
        have hwnn := World.news_of_block hnw
        have hlo := HO.out.1.size
        go_upto_region 12 with (at_builtin; refine wpList_append_own_at _ rfl (.tmp 57) (.tmp 61) 27 rfl w1.heap.size 93 i93 _ 2 16 Try.underlying27 q93 r93 s93 t93 rfl (by decide) _ ((delL (x, y) N.D).length) (cellsD (delL (x, y) N.D)) rfl ho ⟨wo.heap.size, 0, none⟩ 1 1 [.int .i64 x, .int .i64 y] rfl rfl hwnn (by simp [Value.oneCell']) ?_ ?_ ?_ ?_; (unfold maxLen; omega); omega; (simp; omega); intro v5 w5 hown5 hg5 _ hat5; obtain ⟨A7, c7, rfl⟩ := own_form hown5; have HOF := Lib.hid hown5; have HBF : Hid (Below w1.heap.size w1 w5) := Lib.hid ((HO.out.1.alloc hlo _).trans ((But.grown hg5).to_below (by simp; omega) (fun b e => (HO.out.2.lt b e).1))); clear hown5 hg5 hat5 ho hwnn hnw; clear c0 c1 c2 c3 c4 f4; obtain ⟨⟨c0, c1, c2, c3, c4⟩, ⟨_, _, _, _, f4⟩⟩ := five_cells (HX4.out _ HBF.out))
        have hb3s := heap_setCells (i := 4) (u := .slice A7 ((delL (x, y) N.D).length + 1) c7) (HX4.out w5 HBF.out)
        have hbt : But (fun q => q = w.heap.size) w5 (w5.setCell ⟨w.heap.size, 4, none⟩ (.slice A7 ((delL (x, y) N.D).length + 1) c7)) := (But.refl _ _).set ⟨w.heap.size, 4, none⟩ _ (.inl rfl)
        have hpx3 := hbt.box (HX8.out w5 HBF.out) (by omega)
        simp only [List.setIfInBounds_toArray, List.set_cons_zero, List.set_cons_succ] at hb3s
        have HB3S := Lib.hid hb3s
        have HBT := Lib.hid hbt
        have HPX3 := Lib.hid hpx3
        obtain ⟨W9, hW9⟩ : ∃ W9, w5.setCell ⟨w.heap.size, 4, none⟩ (.slice A7 ((delL (x, y) N.D).length + 1) c7) = W9 := ⟨_, rfl⟩
        rw [hW9] at HB3S HBT HPX3 ⊢
        clear c0 c1 c2 c3 c4 f4 hb3s hbt hpx3 hW9
        obtain ⟨⟨c0, c1, c2, c3, c4⟩, _⟩ := five_cells HB3S.out
        obtain ⟨⟨j0, j1, j2, j3, j4⟩, ⟨g0, g1, g2, g3, g4⟩⟩ := five_cells HPX3.out
        go_wp2
        have h4 := put5 HPX3.out (.int .i64 a1) (.int .i64 a2) (.int .i64 a3) (.slice AL nL cL) (.slice A7 ((delL (x, y) N.D).length + 1) c7)
        have h5 := put5_but W9 (w.heap.size + 1) (.int .i64 a1) (.int .i64 a2) (.int .i64 a3) (.slice AL nL cL) (.slice A7 ((delL (x, y) N.D).length + 1) c7)
        unfold put5W at h4 h5
        obtain ⟨⟨z0, z1, z2, z3, z4⟩, _⟩ := five_cells h4
        have hb1 := HB.out.trans (HBF.out.mono HB.out.size)
        have hb2 := hb1.trans (HBT.out.to_below hb1.size (fun b e => by omega))
        have hb3 := hb2.trans (h5.to_below hb2.size (fun b e => by omega))
        have hs9 : w.heap.size + 2 ≤ w1.heap.size := by have := HS1.out; omega
        have hro := h5.row (HBT.out.row HOF.out (fun g e e2 => by have h9 := (HOF.out.lt g e).1; have h10 : g = w.heap.size := e2; omega)) (fun g e e2 => by have h9 := (HOF.out.lt g e).1; have h10 : g = w.heap.size + 1 := e2; omega)
        have hH := HH.out.keep hb3
        exact bodyPost_ret (v := .tuple #[.agg #[.int .i64 a1, .int .i64 a2, .int .i64 a3, .slice AL nL cL, .slice A7 ((delL (x, y) N.D).length + 1) c7], .int .i64 0]) (by simp [results, Try.results58, go_sem, z0, z1, z2, z3, z4]) rfl ⟨A7, (delL (x, y) N.D).length + 1, c7, rfl, down_at hH (by have := HLD.out; unfold downL; simp; omega) (by unfold downL; simp) (own_rds (by unfold downL; simpa [cellsD_add] using hro) (fun b e => by have := HRS.out b e; omega)), hb3⟩
end Go.Proofs
namespace Go.Proofs
open Go Go.RowKit Sm Go.Lib Go.Maps Go.WideMaps
attribute [local go_sem] Oper.semAt_some
def Sm.refB (s : NSt) (AL : Option Addr) (nL cL : Nat) (AD : Option Addr) (nD cD : Nat) : Array Value := #[.int .i64 s.ends, .int .i64 s.most, .int .i64 s.came, .slice AL nL cL, .slice AD nD cD]
theorem Sm.six_cells {w : World} {p : Nat} {a b c d e f : Value} {t : TypeId} (h : w.heap[p]? = some (.cells #[a, b, c, d, e, f] t (0, 0))) : w.cell? ⟨p, 0, none⟩ = some a ∧ w.cell? ⟨p, 1, none⟩ = some b ∧ w.cell? ⟨p, 2, none⟩ = some c ∧ w.cell? ⟨p, 3, none⟩ = some d ∧ w.cell? ⟨p, 4, none⟩ = some e ∧ w.cell? ⟨p, 5, none⟩ = some f :=
  ⟨cell_of_heap h 0, cell_of_heap h 1, cell_of_heap h 2, cell_of_heap h 3, cell_of_heap h 4, cell_of_heap h 5⟩
theorem Sm.findE_num (N : NM) (x y : Int) : 0 ≤ findE N x y ∧ findE N x y ≤ 1000 := by
  unfold findE
  split
  · omega
  · split <;> omega
theorem Sm.reachE_num (N : NM) (x y pick : Int) : 0 ≤ reachE N x y pick ∧ reachE N x y pick ≤ 1000 := by
  unfold reachE
  split
  · exact findE_num N x y
  · split <;> omega
theorem Sm.dropN_num (N : NM) (x y pick : Int) : 0 ≤ (dropN N x y pick).2.2 ∧ (dropN N x y pick).2.2 ≤ 1000 := by
  unfold dropN
  split
  · exact findE_num N x y
  · exact ⟨Int.le_refl 0, by show (0 : Int) ≤ 1000; decide⟩
theorem Sm.takeN_num (N : NM) (x y pick : Int) : 0 ≤ (takeN N x y pick).2.2 ∧ (takeN N x y pick).2.2 ≤ 1000 := by
  unfold takeN
  split
  · exact reachE_num N x y pick
  · exact ⟨Int.le_refl 0, by show (0 : Int) ≤ 1000; decide⟩
set_option maxRecDepth 100000 in
set_option maxHeartbeats 4000000 in
theorem Sm.actDrop {B S : Nat → Prop} {p : Nat} {N : NM} {AL AD : Option Addr} {nL cL nD cD : Nat} {R : List MsgM} (x y pick : Int) (Ax : Option Addr) (nx cx : Nat) (is : Bool) (w : World) (hn : Nt B w p N) (h : RfAt S w N AL nL cL AD nD cD R) (hSB : ∀ b, B b → S b) (hSw : ∀ b, S b → b < w.heap.size) :
    Calls Try.prog 27 #[.pointer (some ⟨p, 0, none⟩), refV N.s AL nL cL AD nD cD, .agg #[.int .i64 3, .int .i64 x, .int .i64 y, .int .i64 pick, .slice Ax nx cx, .bool is]] w fun e w' => ∃ A' nM c' R', e = .returned (.tuple #[refV N.s A' nM c' AD nD cD, .bool true]) ∧ RfAt S w' (dropN N x y pick).1 A' nM c' AD nD cD R' ∧ Nt B w' p (dropN N x y pick).1 ∧ But B w w' := by
  have hB : ∀ b, B b → b < w.heap.size := fun b e => hSw b (hSB b e)
  obtain ⟨S2, hS2⟩ : ∃ S2 : Nat → Prop, S2 = fun b => S b ∨ b = w.heap.size + 2 := ⟨_, rfl⟩
  have h2 : RfAt S2 w N AL nL cL AD nD cD R := h.less (fun b hb e => by
    rw [hS2] at e
    rcases e with e | e
    · exact e
    · omega)
  have hS2b : ∀ b, S2 b → b < w.heap.size + 3 := fun b e => by
    rw [hS2] at e
    rcases e with e | e
    · have := hSw b e; omega
    · omega
  have HS2 : Hid ((∀ b, B b → S2 b) ∧ S2 (w.heap.size + 2) ∧ ∀ b, S b → S2 b) := Lib.hid (by rw [hS2]; exact ⟨fun b e => .inl (hSB b e), .inr rfl, fun b e => .inl e⟩)
  have HSB := Lib.hid hSB
  obtain ⟨w1, hw1⟩ : ∃ V, ((w.alloc (.cells (refB N.s AL nL cL AD nD cD) 29)).alloc (.cells #[.int .i64 3, .int .i64 x, .int .i64 y, .int .i64 pick, .slice Ax nx cx, .bool is] 64)).alloc (.cells #[.int .i64 0, .int .i64 0, .int .i64 0, .slice none 0 0, .slice none 0 0] 29) = V := ⟨_, rfl⟩
  have hb1 : Below w.heap.size w w1 := by rw [← hw1]; exact (bel2 w _ _).alloc (bel2 w _ _).size _
  have hx4 : w1.heap[w.heap.size]? = some (.cells (refB N.s AL nL cL AD nD cD) 29 (0, 0)) := by rw [← hw1]; exact old_alloc _ (old_alloc _ (new_alloc _ rfl))
  have hx5 : w1.heap[w.heap.size + 1]? = some (.cells #[.int .i64 3, .int .i64 x, .int .i64 y, .int .i64 pick, .slice Ax nx cx, .bool is] 64 (0, 0)) := by rw [← hw1]; exact old_alloc _ (new_alloc _ (by simp))
  have hx6 : w1.heap[w.heap.size + 2]? = some (.cells #[.int .i64 0, .int .i64 0, .int .i64 0, .slice none 0 0, .slice none 0 0] 29 (0, 0)) := by rw [← hw1]; exact new_alloc _ (by simp)
  have hs1 : w1.heap.size = w.heap.size + 3 := by rw [← hw1]; simp
  have hr := refDrop_any x y pick w1 (h2.keep hb1) (fun b e => by have := hS2b b e; omega)
  have hd := fun W (hb : Below w.heap.size w W) => drop_N x y pick W (hn.keep hb)
  have hnum := dropN_num N x y pick
  unfold refV at hr ⊢
  unfold refB at hx4 hw1
  obtain ⟨a1, ha1⟩ : ∃ a, N.s.ends = a := ⟨_, rfl⟩
  obtain ⟨a2, ha2⟩ : ∃ a, N.s.most = a := ⟨_, rfl⟩
  obtain ⟨a3, ha3⟩ : ∃ a, N.s.came = a := ⟨_, rfl⟩
  rw [ha1, ha2, ha3] at hr hx4 hw1 ⊢
  obtain ⟨⟨N2, M, E⟩, hD⟩ : ∃ d, dropN N x y pick = d := ⟨_, rfl⟩
  rw [hD] at hr hd hnum ⊢
  simp only at hr hd hnum ⊢
  have h17 := fun W => num_any E W hnum.1 hnum.2
  have H17 := Lib.hid h17
  have HD := Lib.hid hd
  have HB := Lib.hid hb1
  have HHB := Lib.hid hB
  have H5 := Lib.hid hx5
  have H6 := Lib.hid hx6
  have HS1 := Lib.hid hs1
  obtain ⟨⟨c0, c1, c2, c3, c4⟩, _⟩ := five_cells hx4
  obtain ⟨d0, d1, d2, d3, d4, d5⟩ := six_cells hx5
  clear h h2 hS2b hS2 hn hd hb1 hx4 hx5 hx6 hs1 hnum h17 hD hB hSB hSw ha1 ha2 ha3
  go_enter Try.func27, Try.ntmps27
  go_upto_region 1 with fail
  clear hw1
  go_upto_region 26 with (go_at_call 57; (with_reducible refine hr.mono ?_); clear hr; rintro e w2 ⟨A9, nM, c9, R9, rfl, hrf, hbb⟩)
  have hbc : Below w2.heap.size w2 (w2.alloc (.cells #[.int .i64 a1, .int .i64 a2, .int .i64 a3, .slice A9 nM c9, .slice AD nD cD] 29)) := (Below.refl _ _).alloc (Nat.le_refl _) _
  have hx26 := World.alloc_heap_new w2 (.cells #[.int .i64 a1, .int .i64 a2, .int .i64 a3, .slice A9 nM c9, .slice AD nD cD] 29)
  obtain ⟨w3, hw3⟩ : ∃ V, w2.alloc (.cells #[.int .i64 a1, .int .i64 a2, .int .i64 a3, .slice A9 nM c9, .slice AD nD cD] 29) = V := ⟨_, rfl⟩
  rw [hw3] at hbc hx26 ⊢
  have hbe : Below w1.heap.size w1 w3 := hbb.trans (hbc.mono hbb.size)
  have hbw := HB.out.trans (hbe.mono HB.out.size)
  have hd3 := HD.out w3 hbw
  have hrf3 := hrf.keep hbc
  have HBW := Lib.hid hbw
  have HBE := Lib.hid hbe
  have HS22 := Lib.hid (show w.heap.size + 3 ≤ w2.heap.size by have := hbb.size; have := HS1.out; omega)
  have HX26 := Lib.hid hx26
  have HRF3 := Lib.hid hrf3
  clear c0 c1 c2 c3 c4 d0 d1 d2 d3 d4 d5
  obtain ⟨d0, d1, d2, d3, d4, d5⟩ := six_cells ((hbe.block _ (by have := HS1.out; omega)).trans H5.out)
  clear hbb hbc hrf hrf3 hx26 hw3 hbe hbw
  obtain ⟨w3', hw3'⟩ : ∃ V : World, V = w3 := ⟨_, rfl⟩
  go_upto_region 27 with (go_at_call 15; (with_reducible refine hd3.mono ?_); clear hd3; rintro e w4 ⟨rfl, hnt, hbut⟩)
  have HNT := Lib.hid hnt
  have HBUT := Lib.hid hbut
  have hnB : ∀ q, w.heap.size ≤ q → ¬ B q := fun q e e2 => by have := HHB.out q e2; omega
  have hs3 : w2.heap.size < w3.heap.size := (Array.getElem?_eq_some_iff.1 HX26.out).1
  have HT : Hid (∀ W, But (fun q => q = w.heap.size + 2) w4 W → W.heap[w2.heap.size]? = some (.cells #[.int .i64 a1, .int .i64 a2, .int .i64 a3, .slice A9 nM c9, .slice AD nD cD] 29 (0, 0))) := Lib.hid fun W hb => hb.box (HBUT.out.box HX26.out (hnB _ (by have := HS22.out; omega))) (by have := HS22.out; omega)
  have HX6 : Hid (∀ W, Below w4.heap.size w4 W → W.heap[w.heap.size + 2]? = some (.cells #[.int .i64 0, .int .i64 0, .int .i64 0, .slice none 0 0, .slice none 0 0] 29 (0, 0))) := Lib.hid fun W hb => (hb.block _ (by have := HS22.out; have := HBUT.out.size; omega)).trans (HBUT.out.box ((HBE.out.block _ (by have := HS1.out; omega)).trans H6.out) (hnB _ (by omega)))
  clear hnt hbut d0 d1 d2 d3 d4 d5 hw3' w3'
  have hS0 : (fun W => But (fun q => q = w.heap.size + 2) w4 W) w4.drew := (But.refl _ _).drew
  refine wp_region_held_drew (S := fun W => But (fun q => q = w.heap.size + 2) w4 W) rfl hS0 (fun hHeld => ?_)
  simp only [List.size_toArray, List.length_cons, List.length_nil, Nat.reduceAdd]
  have HB0 : Hid (Below w4.heap.size w4 w4.drew) := Lib.hid (Below.refl _ _).drew
  obtain ⟨V0, hV0⟩ : ∃ V, w4.drew = V := ⟨_, rfl⟩
  rw [hV0] at hHeld hS0 HB0 ⊢
  clear hV0
  refine wpAnyH_take (i := 0) (v := .agg #[.int .i64 a1, .int .i64 a2, .int .i64 a3, .slice A9 nM c9, .slice AD nD cD]) rfl (by kernel_rfl) (by kernel_rfl) (by kernel_rfl) (fun _ _ _ h => h) (Or.inl ⟨by rfl, ?_⟩) (by assumption) ?_
  · intro wx hs1; obtain ⟨k0, k1, k2, k3, k4⟩ := (five_cells (HT.out wx hs1)).1; go_simp
  (try simp only [Act.put, List.getElem_toArray, List.getElem_cons_zero, List.setIfInBounds_toArray, List.set_cons_zero, List.set_cons_succ])
  refine wpAnyH_take (i := 1) (v := .int .i64 M) rfl (by kernel_rfl) (by kernel_rfl) (by kernel_rfl) (fun _ _ _ h => h) (Or.inl ⟨by rfl, ?_⟩) (by assumption) ?_
  · intro wx hs1; go_simp
  (try simp only [Act.put, List.getElem_toArray, List.getElem_cons_succ, List.getElem_cons_zero, List.setIfInBounds_toArray, List.set_cons_zero, List.set_cons_succ])
  refine wpAnyH_take (i := 2) (v := .int .i64 M) rfl (by kernel_rfl) (by kernel_rfl) (by kernel_rfl) (fun _ _ _ h => h) (Or.inl ⟨by rfl, ?_⟩) (by assumption) ?_
  · intro wx hs1; go_simp
  (try simp only [Act.put, List.getElem_toArray, List.getElem_cons_succ, List.getElem_cons_zero, List.setIfInBounds_toArray, List.set_cons_zero, List.set_cons_succ])
  refine wpAnyH_take (i := 3) (v := .bool true) rfl (by kernel_rfl) (by kernel_rfl) (by kernel_rfl) (fun _ _ _ h => h) (Or.inl ⟨by rfl, ?_⟩) (by assumption) ?_
  · intro wx hs1; go_simp
  (try simp only [Act.put, List.getElem_toArray, List.getElem_cons_succ, List.getElem_cons_zero, List.setIfInBounds_toArray, List.set_cons_zero, List.set_cons_succ])
  refine wpAnyH_take (i := 4) (v := .bool true) rfl (by kernel_rfl) (by kernel_rfl) (by kernel_rfl) (fun _ _ _ h => h) (Or.inl ⟨by rfl, ?_⟩) (by assumption) ?_
  · intro wx hs1; go_simp
  (try simp only [Act.put, List.getElem_toArray, List.getElem_cons_succ, List.getElem_cons_zero, List.setIfInBounds_toArray, List.set_cons_zero, List.set_cons_succ])
  refine wpAnyH_take (i := 5) (v := .int .i64 E) rfl (by kernel_rfl) (by kernel_rfl) (by kernel_rfl) (fun _ _ _ h => h) (Or.inl ⟨by rfl, ?_⟩) (by assumption) ?_
  · intro wx hs1; go_simp
  (try simp only [Act.put, List.getElem_toArray, List.getElem_cons_succ, List.getElem_cons_zero, List.setIfInBounds_toArray, List.set_cons_zero, List.set_cons_succ])
  refine wpAnyH_take (i := 7) (v := .int .i64 E) rfl (by kernel_rfl) (by kernel_rfl) (by kernel_rfl) (fun _ _ _ h => h) (Or.inl ⟨by rfl, ?_⟩) (by assumption) ?_
  · intro wx hs1; go_simp
  (try simp only [Act.put, List.getElem_toArray, List.getElem_cons_succ, List.getElem_cons_zero, List.setIfInBounds_toArray, List.set_cons_zero, List.set_cons_succ])
  refine wpAnyH_ready (rs := [6]) (by kernel_rfl) (by simp) (AllReadyH.cons rfl (fun K hK => ?_) AllReadyH.nil)
  go_simp
  go_at_call 17
  (with_reducible refine (H17.out _).mono ?_)
  rintro e w5 ⟨rfl, rfl⟩
  try dsimp only
  have hS := hS0
  refine hK.out _ _ hS (fun _ => ?_)
  clear hK K
  (try simp only [Act.put, List.getElem_toArray, List.getElem_cons_succ, List.getElem_cons_zero, List.setIfInBounds_toArray, List.set_cons_zero, List.set_cons_succ])
  refine wpAnyH_take (i := 8) (v := .bool true) rfl (by kernel_rfl) (by kernel_rfl) (by kernel_rfl) (fun _ _ _ h => h) (Or.inl ⟨by rfl, ?_⟩) (by assumption) ?_
  · intro wx hs1; go_simp
  (try simp only [Act.put, List.getElem_toArray, List.getElem_cons_succ, List.getElem_cons_zero, List.setIfInBounds_toArray, List.set_cons_zero, List.set_cons_succ])
  refine wpAnyH_take (i := 9) (v := .bool true) rfl (by kernel_rfl) (by kernel_rfl) (by kernel_rfl) (fun _ _ _ h => h) (Or.inl ⟨by rfl, ?_⟩) (by assumption) ?_
  · intro wx hs1; go_simp
  (try simp only [Act.put, List.getElem_toArray, List.getElem_cons_succ, List.getElem_cons_zero, List.setIfInBounds_toArray, List.set_cons_zero, List.set_cons_succ])
  obtain ⟨⟨j0, j1, j2, j3, j4⟩, ⟨g0, g1, g2, g3, g4⟩⟩ := five_cells (HX6.out V0 HB0.out)
  refine wpAnyH_ready (rs := [10]) (by kernel_rfl) (by simp) (AllReadyH.cons rfl (fun K hK => ?_) AllReadyH.nil)
  go_simp
  try dsimp only
  have hW5x := put5 (HX6.out V0 HB0.out) (.int .i64 a1) (.int .i64 a2) (.int .i64 a3) (.slice A9 nM c9) (.slice AD nD cD)
  have hW5b := put5_but V0 (w.heap.size + 2) (.int .i64 a1) (.int .i64 a2) (.int .i64 a3) (.slice A9 nM c9) (.slice AD nD cD)
  unfold put5W at hW5x hW5b
  obtain ⟨W5, hqW5⟩ : ∃ V, put5W V0 (w.heap.size + 2) (.int .i64 a1) (.int .i64 a2) (.int .i64 a3) (.slice A9 nM c9) (.slice AD nD cD) = V := ⟨_, rfl⟩
  unfold put5W at hqW5
  rw [hqW5] at hW5x hW5b ⊢
  clear hqW5 j0 j1 j2 j3 j4 g0 g1 g2 g3 g4
  have hS := hS0.trans hW5b (fun _ _ e => e)
  refine hK.out _ _ hS (fun _ => ?_)
  clear hK K
  (try simp only [Act.put, List.getElem_toArray, List.getElem_cons_succ, List.getElem_cons_zero, List.setIfInBounds_toArray, List.set_cons_zero, List.set_cons_succ])
  refine wpAnyH_take (i := 11) (v := .bool true) rfl (by kernel_rfl) (by kernel_rfl) (by kernel_rfl) (fun _ _ _ h => h) (Or.inl ⟨by rfl, ?_⟩) (by assumption) ?_
  · intro wx hs1; go_simp
  (try simp only [Act.put, List.getElem_toArray, List.getElem_cons_succ, List.getElem_cons_zero, List.setIfInBounds_toArray, List.set_cons_zero, List.set_cons_succ])
  refine wpAnyH_done (by kernel_rfl) ?_ _
  obtain ⟨⟨z0, z1, z2, z3, z4⟩, _⟩ := five_cells hW5x
  have hb4 := (But.of_all HBW.out B).trans HBUT.out (fun _ _ e => e)
  have hb5 := hb4.trans (But.of_all HB0.out B) (fun _ _ e => e)
  have hb6 := hb5.trans hW5b (fun b e1 e2 => by omega)
  have hrf5 := (((HRF3.out.but HBUT.out HS2.out.1).keep HB0.out).but hW5b (fun b e => by rw [e]; exact HS2.out.2.1)).less (S' := S) (fun b _ e => HS2.out.2.2 b e)
  have hnt5 := (HNT.out.keep HB0.out).but hW5b (fun b e => by rw [e]; exact hnB _ (by omega))
  go_wp2
  exact bodyPost_ret (v := .tuple #[.agg #[.int .i64 a1, .int .i64 a2, .int .i64 a3, .slice A9 nM c9, .slice AD nD cD], .bool true]) (by simp [results, Try.results27, go_sem, z0, z1, z2, z3, z4]) rfl ⟨A9, nM, c9, R9, rfl, hrf5, hnt5, hb6⟩
end Go.Proofs
namespace Go.Proofs
open Go Go.RowKit Sm Go.Lib Go.Maps Go.WideMaps
attribute [local go_sem] Oper.semAt_some
theorem Sm.Rds.rd {W : World} {S : Nat → Prop} {A : Option Addr} {l : List (BitVec 8)} (h : Rds W S A (l.map byteCell)) : Rd W W.heap.size A l := fun h0 => by
  obtain ⟨b, off, e1, e2, e3, e4⟩ := h (by simpa using h0)
  exact ⟨b, off, e1, e2, fun j c hj => e4 j _ (by rw [List.getElem?_map, hj]; rfl)⟩
set_option maxRecDepth 100000 in
set_option maxHeartbeats 4000000 in
theorem Sm.actTake {B S : Nat → Prop} {p : Nat} {N : NM} {AL AD : Option Addr} {nL cL nD cD : Nat} {R : List MsgM} (x y pick : Int) (Ax : Option Addr) (nx cx : Nat) (is : Bool) (w : World) (hn : Nt B w p N) (h : RfAt S w N AL nL cL AD nD cD R) (hSB : ∀ b, B b → S b) (hSw : ∀ b, S b → b < w.heap.size) :
    Calls Try.prog 27 #[.pointer (some ⟨p, 0, none⟩), refV N.s AL nL cL AD nD cD, .agg #[.int .i64 2, .int .i64 x, .int .i64 y, .int .i64 pick, .slice Ax nx cx, .bool is]] w fun e w' => ∃ A' nM c' R', e = .returned (.tuple #[refV N.s A' nM c' AD nD cD, .bool true]) ∧ RfAt S w' (takeN N x y pick).1 A' nM c' AD nD cD R' ∧ Nt B w' p (takeN N x y pick).1 ∧ But B w w' := by
  have hB : ∀ b, B b → b < w.heap.size := fun b e => hSw b (hSB b e)
  obtain ⟨S2, hS2⟩ : ∃ S2 : Nat → Prop, S2 = fun b => S b ∨ b = w.heap.size + 2 := ⟨_, rfl⟩
  have h2 : RfAt S2 w N AL nL cL AD nD cD R := h.less (fun b hb e => by
    rw [hS2] at e
    rcases e with e | e
    · exact e
    · omega)
  have hS2b : ∀ b, S2 b → b < w.heap.size + 3 := fun b e => by
    rw [hS2] at e
    rcases e with e | e
    · have := hSw b e; omega
    · omega
  have HS2 : Hid ((∀ b, B b → S2 b) ∧ S2 (w.heap.size + 2) ∧ ∀ b, S b → S2 b) := Lib.hid (by rw [hS2]; exact ⟨fun b e => .inl (hSB b e), .inr rfl, fun b e => .inl e⟩)
  have HSB := Lib.hid hSB
  obtain ⟨w1, hw1⟩ : ∃ V, ((w.alloc (.cells (refB N.s AL nL cL AD nD cD) 29)).alloc (.cells #[.int .i64 2, .int .i64 x, .int .i64 y, .int .i64 pick, .slice Ax nx cx, .bool is] 64)).alloc (.cells #[.int .i64 0, .int .i64 0, .int .i64 0, .slice none 0 0, .slice none 0 0] 29) = V := ⟨_, rfl⟩
  have hb1 : Below w.heap.size w w1 := by rw [← hw1]; exact (bel2 w _ _).alloc (bel2 w _ _).size _
  have hx4 : w1.heap[w.heap.size]? = some (.cells (refB N.s AL nL cL AD nD cD) 29 (0, 0)) := by rw [← hw1]; exact old_alloc _ (old_alloc _ (new_alloc _ rfl))
  have hx5 : w1.heap[w.heap.size + 1]? = some (.cells #[.int .i64 2, .int .i64 x, .int .i64 y, .int .i64 pick, .slice Ax nx cx, .bool is] 64 (0, 0)) := by rw [← hw1]; exact old_alloc _ (new_alloc _ (by simp))
  have hx6 : w1.heap[w.heap.size + 2]? = some (.cells #[.int .i64 0, .int .i64 0, .int .i64 0, .slice none 0 0, .slice none 0 0] 29 (0, 0)) := by rw [← hw1]; exact new_alloc _ (by simp)
  have hs1 : w1.heap.size = w.heap.size + 3 := by rw [← hw1]; simp
  have hr := refTake_any x y pick w1 (h2.keep hb1) (fun b e => by have := hS2b b e; omega)
  have hd := fun W (hb : Below w.heap.size w W) => take_N x y pick W (hn.keep hb)
  have hnum := takeN_num N x y pick
  unfold refV at hr ⊢
  unfold refB at hx4 hw1
  obtain ⟨a1, ha1⟩ : ∃ a, N.s.ends = a := ⟨_, rfl⟩
  obtain ⟨a2, ha2⟩ : ∃ a, N.s.most = a := ⟨_, rfl⟩
  obtain ⟨a3, ha3⟩ : ∃ a, N.s.came = a := ⟨_, rfl⟩
  rw [ha1, ha2, ha3] at hr hx4 hw1 ⊢
  obtain ⟨⟨N2, ⟨m1, m2, m3, ml⟩, E⟩, hD⟩ : ∃ d, takeN N x y pick = d := ⟨_, rfl⟩
  rw [hD] at hr hd hnum ⊢
  unfold parVal at hr hd
  simp only at hr hd hnum ⊢
  obtain ⟨m4, hm4⟩ : ∃ m4, ml.length = m4 := ⟨_, rfl⟩
  rw [hm4] at hr hd
  have h17 := fun W => num_any E W hnum.1 hnum.2
  have HM4 := Lib.hid hm4
  have H17 := Lib.hid h17
  have HD := Lib.hid hd
  have HB := Lib.hid hb1
  have HHB := Lib.hid hB
  have H5 := Lib.hid hx5
  have H6 := Lib.hid hx6
  have HS1 := Lib.hid hs1
  obtain ⟨⟨c0, c1, c2, c3, c4⟩, _⟩ := five_cells hx4
  obtain ⟨d0, d1, d2, d3, d4, d5⟩ := six_cells hx5
  clear h h2 hS2b hS2 hn hd hb1 hx4 hx5 hx6 hs1 hnum h17 hD hB hSB hSw ha1 ha2 ha3 hm4
  go_enter Try.func27, Try.ntmps27
  go_upto_region 1 with fail
  clear hw1
  go_upto_region 22 with (go_at_call 56; (with_reducible refine hr.mono ?_); clear hr; rintro e w2 ⟨A9, nM, c9, R9, A8, c8, rfl, hrf, hrd, hbb⟩)
  have hbc : Below w2.heap.size w2 ((w2.alloc (.cells #[.int .i64 a1, .int .i64 a2, .int .i64 a3, .slice A9 nM c9, .slice AD nD cD] 29)).alloc (.cells #[.int .i64 m1, .int .i64 m2, .int .i64 m3, .slice A8 m4 c8] 41)) := bel2 w2 _ _
  have hx21 : ((w2.alloc (.cells #[.int .i64 a1, .int .i64 a2, .int .i64 a3, .slice A9 nM c9, .slice AD nD cD] 29)).alloc (.cells #[.int .i64 m1, .int .i64 m2, .int .i64 m3, .slice A8 m4 c8] 41)).heap[w2.heap.size]? = some (.cells #[.int .i64 a1, .int .i64 a2, .int .i64 a3, .slice A9 nM c9, .slice AD nD cD] 29 (0, 0)) := old_alloc _ (new_alloc _ rfl)
  have hx22 : ((w2.alloc (.cells #[.int .i64 a1, .int .i64 a2, .int .i64 a3, .slice A9 nM c9, .slice AD nD cD] 29)).alloc (.cells #[.int .i64 m1, .int .i64 m2, .int .i64 m3, .slice A8 m4 c8] 41)).heap[w2.heap.size + 1]? = some (.cells #[.int .i64 m1, .int .i64 m2, .int .i64 m3, .slice A8 m4 c8] 41 (0, 0)) := new_alloc _ (by simp)
  obtain ⟨w3, hw3⟩ : ∃ V, (w2.alloc (.cells #[.int .i64 a1, .int .i64 a2, .int .i64 a3, .slice A9 nM c9, .slice AD nD cD] 29)).alloc (.cells #[.int .i64 m1, .int .i64 m2, .int .i64 m3, .slice A8 m4 c8] 41) = V := ⟨_, rfl⟩
  rw [hw3] at hbc hx21 hx22 ⊢
  have hbe : Below w1.heap.size w1 w3 := hbb.trans (hbc.mono hbb.size)
  have hbw := HB.out.trans (hbe.mono HB.out.size)
  have hd3 := HD.out w3 hbw
  have HBW := Lib.hid hbw
  have HBE := Lib.hid hbe
  have HS22 := Lib.hid (show w.heap.size + 3 ≤ w2.heap.size by have := hbb.size; have := HS1.out; omega)
  have HX21 := Lib.hid hx21
  have HX22 := Lib.hid hx22
  have HRF3 := Lib.hid (hrf.keep hbc)
  have HRD3 := Lib.hid (hrd.but (But.of_all hbc (fun _ => False)) (fun _ e => e.elim))
  clear c0 c1 c2 c3 c4 d0 d1 d2 d3 d4 d5
  obtain ⟨d0, d1, d2, d3, d4, d5⟩ := six_cells ((hbe.block _ (by have := HS1.out; omega)).trans H5.out)
  clear hbb hbc hrf hrd hx21 hx22 hw3 hbe hbw
  obtain ⟨w3', hw3'⟩ : ∃ V : World, V = w3 := ⟨_, rfl⟩
  go_upto_region 23 with (go_at_call 14; (with_reducible refine hd3.mono ?_); clear hd3; rintro e w4 ⟨A7, c7, rfl, hpv, hnt, hbut⟩)
  have hbc : Below w4.heap.size w4 (w4.alloc (.cells #[.int .i64 m1, .int .i64 m2, .int .i64 m3, .slice A7 m4 c7] 41)) := (Below.refl _ _).alloc (Nat.le_refl _) _
  have hx24 := World.alloc_heap_new w4 (.cells #[.int .i64 m1, .int .i64 m2, .int .i64 m3, .slice A7 m4 c7] 41)
  obtain ⟨w5, hw5⟩ : ∃ V, w4.alloc (.cells #[.int .i64 m1, .int .i64 m2, .int .i64 m3, .slice A7 m4 c7] 41) = V := ⟨_, rfl⟩
  rw [hw5] at hbc hx24 ⊢
  have hbut5 := hbut.trans (But.of_all hbc B) (fun _ _ e => e)
  have HNT := Lib.hid (hnt.keep hbc)
  have HBUT := Lib.hid hbut5
  have HRD7 : Hid (Rds w5 (fun _ => False) A7 (ml.map byteCell)) := Lib.hid (by
    have h9 := hpv
    unfold ParV at h9
    exact own_rds (own_below h9 hbc) (fun _ e => e.elim))
  have hnB : ∀ q, w.heap.size ≤ q → ¬ B q := fun q e e2 => by have := HHB.out q e2; omega
  have hs3 : w2.heap.size + 1 < w3.heap.size := (Array.getElem?_eq_some_iff.1 HX22.out).1
  have hs4 : w3.heap.size ≤ w4.heap.size := hbut.size
  have HT : Hid (∀ W, But (fun q => q = w.heap.size + 2) w5 W → W.heap[w2.heap.size]? = some (.cells #[.int .i64 a1, .int .i64 a2, .int .i64 a3, .slice A9 nM c9, .slice AD nD cD] 29 (0, 0))) := Lib.hid fun W hb => hb.box (HBUT.out.box HX21.out (hnB _ (by have := HS22.out; omega))) (by have := HS22.out; omega)
  have HP1 : Hid (∀ W, But (fun q => q = w.heap.size + 2) w5 W → W.heap[w2.heap.size + 1]? = some (.cells #[.int .i64 m1, .int .i64 m2, .int .i64 m3, .slice A8 m4 c8] 41 (0, 0))) := Lib.hid fun W hb => hb.box (HBUT.out.box HX22.out (hnB _ (by have := HS22.out; omega))) (by have := HS22.out; omega)
  have HP2 : Hid (∀ W, But (fun q => q = w.heap.size + 2) w5 W → W.heap[w4.heap.size]? = some (.cells #[.int .i64 m1, .int .i64 m2, .int .i64 m3, .slice A7 m4 c7] 41 (0, 0))) := Lib.hid fun W hb => hb.box hx24 (by have := HS22.out; omega)
  have HX6 : Hid (∀ W, Below w5.heap.size w5 W → W.heap[w.heap.size + 2]? = some (.cells #[.int .i64 0, .int .i64 0, .int .i64 0, .slice none 0 0, .slice none 0 0] 29 (0, 0))) := Lib.hid fun W hb => (hb.block _ (by have := HS22.out; have := HBUT.out.size; omega)).trans (HBUT.out.box ((HBE.out.block _ (by have := HS1.out; omega)).trans H6.out) (hnB _ (by omega)))
  have HRD8 : Hid (Rds w5 S2 A8 (ml.map byteCell)) := Lib.hid (HRD3.out.but HBUT.out HS2.out.1)
  have H28 : Hid (∀ W, Below w5.heap.size w5 W → Calls Try.prog 28 #[.agg #[.int .i64 m1, .int .i64 m2, .int .i64 m3, .slice A8 m4 c8], .agg #[.int .i64 m1, .int .i64 m2, .int .i64 m3, .slice A7 m4 c7]] W fun e w' => e = .returned (.bool true) ∧ Below W.heap.size W w') := Lib.hid fun W hb => by
    have h9 := sameP_any m1 m2 m3 m1 m2 m3 ml ml A8 A7 m4 c8 m4 c7 W HM4.out HM4.out (HRD8.out.but (But.of_all hb (fun _ => False)) (fun _ e => e.elim)).rd (HRD7.out.but (But.of_all hb (fun _ => False)) (fun _ e => e.elim)).rd
    rw [decide_eq_true (show m1 = m1 ∧ m2 = m2 ∧ m3 = m3 ∧ ml = ml from ⟨rfl, rfl, rfl, rfl⟩)] at h9
    exact h9
  clear hnt hbut hbut5 hpv hbc hx24 hw5 hs3 d0 d1 d2 d3 d4 d5 hw3' w3'
  have hS0 : (fun W => But (fun q => q = w.heap.size + 2) w5 W) w5.drew := (But.refl _ _).drew
  refine wp_region_held_drew (S := fun W => But (fun q => q = w.heap.size + 2) w5 W) rfl hS0 (fun hHeld => ?_)
  simp only [List.size_toArray, List.length_cons, List.length_nil, Nat.reduceAdd]
  have HB0 : Hid (Below w5.heap.size w5 w5.drew) := Lib.hid (Below.refl _ _).drew
  obtain ⟨V0, hV0⟩ : ∃ V, w5.drew = V := ⟨_, rfl⟩
  rw [hV0] at hHeld hS0 HB0 ⊢
  clear hV0
  refine wpAnyH_take (i := 0) (v := .agg #[.int .i64 a1, .int .i64 a2, .int .i64 a3, .slice A9 nM c9, .slice AD nD cD]) rfl (by kernel_rfl) (by kernel_rfl) (by kernel_rfl) (fun _ _ _ h => h) (Or.inl ⟨by rfl, ?_⟩) (by assumption) ?_
  · intro wx hs1; obtain ⟨k0, k1, k2, k3, k4⟩ := (five_cells (HT.out wx hs1)).1; go_simp
  (try simp only [Act.put, List.getElem_toArray, List.getElem_cons_zero, List.setIfInBounds_toArray, List.set_cons_zero, List.set_cons_succ])
  refine wpAnyH_take (i := 1) (v := .agg #[.int .i64 m1, .int .i64 m2, .int .i64 m3, .slice A8 m4 c8]) rfl (by kernel_rfl) (by kernel_rfl) (by kernel_rfl) (fun _ _ _ h => h) (Or.inl ⟨by rfl, ?_⟩) (by assumption) ?_
  · intro wx hs1; obtain ⟨k0, k1, k2, k3⟩ := (four_cells (HP1.out wx hs1)).1; go_simp
  (try simp only [Act.put, List.getElem_toArray, List.getElem_cons_succ, List.getElem_cons_zero, List.setIfInBounds_toArray, List.set_cons_zero, List.set_cons_succ])
  refine wpAnyH_take (i := 2) (v := .agg #[.int .i64 m1, .int .i64 m2, .int .i64 m3, .slice A7 m4 c7]) rfl (by kernel_rfl) (by kernel_rfl) (by kernel_rfl) (fun _ _ _ h => h) (Or.inl ⟨by rfl, ?_⟩) (by assumption) ?_
  · intro wx hs1; obtain ⟨k0, k1, k2, k3⟩ := (four_cells (HP2.out wx hs1)).1; go_simp
  (try simp only [Act.put, List.getElem_toArray, List.getElem_cons_succ, List.getElem_cons_zero, List.setIfInBounds_toArray, List.set_cons_zero, List.set_cons_succ])
  refine wpAnyH_ready (rs := [3]) (by kernel_rfl) (by simp) (AllReadyH.cons rfl (fun K hK => ?_) AllReadyH.nil)
  go_simp
  go_at_call 28
  (with_reducible refine (H28.out _ HB0.out).mono ?_)
  rintro e w6 ⟨rfl, hb⟩
  try dsimp only
  have HB1 : Hid (Below w5.heap.size w5 w6) := Lib.hid (HB0.out.trans (hb.mono HB0.out.size)); clear hb; have hS := But.of_all HB1.out (fun q => q = w.heap.size + 2)
  refine hK.out _ _ hS (fun _ => ?_)
  clear hK K
  (try simp only [Act.put, List.getElem_toArray, List.getElem_cons_succ, List.getElem_cons_zero, List.setIfInBounds_toArray, List.set_cons_zero, List.set_cons_succ])
  refine wpAnyH_take (i := 4) (v := .bool true) rfl (by kernel_rfl) (by kernel_rfl) (by kernel_rfl) (fun _ _ _ h => h) (Or.inl ⟨by rfl, ?_⟩) (by assumption) ?_
  · intro wx hs1; go_simp
  (try simp only [Act.put, List.getElem_toArray, List.getElem_cons_succ, List.getElem_cons_zero, List.setIfInBounds_toArray, List.set_cons_zero, List.set_cons_succ])
  refine wpAnyH_take (i := 5) (v := .int .i64 E) rfl (by kernel_rfl) (by kernel_rfl) (by kernel_rfl) (fun _ _ _ h => h) (Or.inl ⟨by rfl, ?_⟩) (by assumption) ?_
  · intro wx hs1; go_simp
  (try simp only [Act.put, List.getElem_toArray, List.getElem_cons_succ, List.getElem_cons_zero, List.setIfInBounds_toArray, List.set_cons_zero, List.set_cons_succ])
  refine wpAnyH_take (i := 7) (v := .int .i64 E) rfl (by kernel_rfl) (by kernel_rfl) (by kernel_rfl) (fun _ _ _ h => h) (Or.inl ⟨by rfl, ?_⟩) (by assumption) ?_
  · intro wx hs1; go_simp
  (try simp only [Act.put, List.getElem_toArray, List.getElem_cons_succ, List.getElem_cons_zero, List.setIfInBounds_toArray, List.set_cons_zero, List.set_cons_succ])
  refine wpAnyH_ready (rs := [6]) (by kernel_rfl) (by simp) (AllReadyH.cons rfl (fun K hK => ?_) AllReadyH.nil)
  go_simp
  go_at_call 17
  (with_reducible refine (H17.out _).mono ?_)
  rintro e w7 ⟨rfl, rfl⟩
  try dsimp only
  have hS := But.of_all HB1.out (fun q => q = w.heap.size + 2)
  refine hK.out _ _ hS (fun _ => ?_)
  clear hK K
  (try simp only [Act.put, List.getElem_toArray, List.getElem_cons_succ, List.getElem_cons_zero, List.setIfInBounds_toArray, List.set_cons_zero, List.set_cons_succ])
  refine wpAnyH_take (i := 8) (v := .bool true) rfl (by kernel_rfl) (by kernel_rfl) (by kernel_rfl) (fun _ _ _ h => h) (Or.inl ⟨by rfl, ?_⟩) (by assumption) ?_
  · intro wx hs1; go_simp
  (try simp only [Act.put, List.getElem_toArray, List.getElem_cons_succ, List.getElem_cons_zero, List.setIfInBounds_toArray, List.set_cons_zero, List.set_cons_succ])
  refine wpAnyH_take (i := 9) (v := .bool true) rfl (by kernel_rfl) (by kernel_rfl) (by kernel_rfl) (fun _ _ _ h => h) (Or.inl ⟨by rfl, ?_⟩) (by assumption) ?_
  · intro wx hs1; go_simp
  (try simp only [Act.put, List.getElem_toArray, List.getElem_cons_succ, List.getElem_cons_zero, List.setIfInBounds_toArray, List.set_cons_zero, List.set_cons_succ])
  obtain ⟨⟨j0, j1, j2, j3, j4⟩, ⟨g0, g1, g2, g3, g4⟩⟩ := five_cells (HX6.out w6 HB1.out)
  refine wpAnyH_ready (rs := [10]) (by kernel_rfl) (by simp) (AllReadyH.cons rfl (fun K hK => ?_) AllReadyH.nil)
  go_simp
  try dsimp only
  have hW5x := put5 (HX6.out w6 HB1.out) (.int .i64 a1) (.int .i64 a2) (.int .i64 a3) (.slice A9 nM c9) (.slice AD nD cD)
  have hW5b := put5_but w6 (w.heap.size + 2) (.int .i64 a1) (.int .i64 a2) (.int .i64 a3) (.slice A9 nM c9) (.slice AD nD cD)
  unfold put5W at hW5x hW5b
  obtain ⟨W5, hqW5⟩ : ∃ V, put5W w6 (w.heap.size + 2) (.int .i64 a1) (.int .i64 a2) (.int .i64 a3) (.slice A9 nM c9) (.slice AD nD cD) = V := ⟨_, rfl⟩
  unfold put5W at hqW5
  rw [hqW5] at hW5x hW5b ⊢
  clear hqW5 j0 j1 j2 j3 j4 g0 g1 g2 g3 g4
  have hS := (But.of_all HB1.out (fun q => q = w.heap.size + 2)).trans hW5b (fun _ _ e => e)
  refine hK.out _ _ hS (fun _ => ?_)
  clear hK K
  (try simp only [Act.put, List.getElem_toArray, List.getElem_cons_succ, List.getElem_cons_zero, List.setIfInBounds_toArray, List.set_cons_zero, List.set_cons_succ])
  refine wpAnyH_take (i := 11) (v := .bool true) rfl (by kernel_rfl) (by kernel_rfl) (by kernel_rfl) (fun _ _ _ h => h) (Or.inl ⟨by rfl, ?_⟩) (by assumption) ?_
  · intro wx hs1; go_simp
  (try simp only [Act.put, List.getElem_toArray, List.getElem_cons_succ, List.getElem_cons_zero, List.setIfInBounds_toArray, List.set_cons_zero, List.set_cons_succ])
  refine wpAnyH_done (by kernel_rfl) ?_ _
  obtain ⟨⟨z0, z1, z2, z3, z4⟩, _⟩ := five_cells hW5x
  have hb4 := (But.of_all HBW.out B).trans HBUT.out (fun _ _ e => e)
  have hb5 := hb4.trans (But.of_all HB1.out B) (fun _ _ e => e)
  have hb6 := hb5.trans hW5b (fun b e1 e2 => by omega)
  have hrf5 := (((HRF3.out.but HBUT.out HS2.out.1).keep HB1.out).but hW5b (fun b e => by rw [e]; exact HS2.out.2.1)).less (S' := S) (fun b _ e => HS2.out.2.2 b e)
  have hnt5 := (HNT.out.keep HB1.out).but hW5b (fun b e => by rw [e]; exact hnB _ (by omega))
  go_wp2
  exact bodyPost_ret (v := .tuple #[.agg #[.int .i64 a1, .int .i64 a2, .int .i64 a3, .slice A9 nM c9, .slice AD nD cD], .bool true]) (by simp [results, Try.results27, go_sem, z0, z1, z2, z3, z4]) rfl ⟨A9, nM, c9, R9, rfl, hrf5, hnt5, hb6⟩
end Go.Proofs
namespace Go.Proofs
open Go Go.RowKit Sm Go.Lib Go.Maps Go.WideMaps
attribute [local go_sem] Oper.semAt_some
theorem Sm.downN_num (N : NM) (x y : Int) (is : Bool) : 0 ≤ (downN N x y is).2 ∧ (downN N x y is).2 ≤ 1000 := by
  unfold downN
  split
  · exact ⟨Int.le_refl 0, by show (0 : Int) ≤ 1000; decide⟩
  · exact ⟨by show (0 : Int) ≤ 2; decide, by show (2 : Int) ≤ 1000; decide⟩
theorem Sm.refDown_any {S : Nat → Prop} {N : NM} {AL AD : Option Addr} {nL cL nD cD : Nat} {R : List MsgM} (x y : Int) (is : Bool) (w : World) (h : RfAt S w N AL nL cL AD nD cD R) (hS : ∀ b, S b → b < w.heap.size) (hD0 : nD < 4096) :
    Calls Try.prog 58 #[refV N.s AL nL cL AD nD cD, .int .i64 x, .int .i64 y, .bool is] w fun e w' => ∃ A' n' c', e = .returned (.tuple #[refV N.s AL nL cL A' n' c', .int .i64 (downN N x y is).2]) ∧ RfAt S w' (downN N x y is).1 AL nL cL A' n' c' R ∧ Below w.heap.size w w' := by
  unfold downN
  cases hl : lnkB N.s x y with
  | true =>
    rw [if_pos rfl]
    exact refDown_yes x y is w h hS hl hD0
  | false =>
    rw [if_neg (by decide)]
    refine (refDown_bad x y is w h hl).mono ?_
    rintro e w' ⟨rfl, h1, h2⟩
    exact ⟨AD, nD, cD, rfl, h1, h2⟩
set_option maxRecDepth 100000 in
set_option maxHeartbeats 4000000 in
theorem Sm.actDown {B S : Nat → Prop} {p : Nat} {N : NM} {AL AD : Option Addr} {nL cL nD cD : Nat} {R : List MsgM} (x y pick : Int) (Ax : Option Addr) (nx cx : Nat) (is : Bool) (w : World) (hn : Nt B w p N) (h : RfAt S w N AL nL cL AD nD cD R) (hSB : ∀ b, B b → S b) (hSw : ∀ b, S b → b < w.heap.size) (hD0 : nD < 4096) (k : Int) (k0 : k ≠ 0) (k1 : k ≠ 1) (k2 : k ≠ 2) (k3 : k ≠ 3) :
    Calls Try.prog 27 #[.pointer (some ⟨p, 0, none⟩), refV N.s AL nL cL AD nD cD, .agg #[.int .i64 k, .int .i64 x, .int .i64 y, .int .i64 pick, .slice Ax nx cx, .bool is]] w fun e w' => ∃ A' n' c', e = .returned (.tuple #[refV N.s AL nL cL A' n' c', .bool true]) ∧ RfAt S w' (downN N x y is).1 AL nL cL A' n' c' R ∧ Nt B w' p (downN N x y is).1 ∧ But B w w' := by
  have hB : ∀ b, B b → b < w.heap.size := fun b e => hSw b (hSB b e)
  obtain ⟨S2, hS2⟩ : ∃ S2 : Nat → Prop, S2 = fun b => S b ∨ b = w.heap.size + 2 := ⟨_, rfl⟩
  have h2 : RfAt S2 w N AL nL cL AD nD cD R := h.less (fun b hb e => by
    rw [hS2] at e
    rcases e with e | e
    · exact e
    · omega)
  have hS2b : ∀ b, S2 b → b < w.heap.size + 3 := fun b e => by
    rw [hS2] at e
    rcases e with e | e
    · have := hSw b e; omega
    · omega
  have HS2 : Hid ((∀ b, B b → S2 b) ∧ S2 (w.heap.size + 2) ∧ ∀ b, S b → S2 b) := Lib.hid (by rw [hS2]; exact ⟨fun b e => .inl (hSB b e), .inr rfl, fun b e => .inl e⟩)
  have HSB := Lib.hid hSB
  obtain ⟨w1, hw1⟩ : ∃ V, ((w.alloc (.cells (refB N.s AL nL cL AD nD cD) 29)).alloc (.cells #[.int .i64 k, .int .i64 x, .int .i64 y, .int .i64 pick, .slice Ax nx cx, .bool is] 64)).alloc (.cells #[.int .i64 0, .int .i64 0, .int .i64 0, .slice none 0 0, .slice none 0 0] 29) = V := ⟨_, rfl⟩
  have hb1 : Below w.heap.size w w1 := by rw [← hw1]; exact (bel2 w _ _).alloc (bel2 w _ _).size _
  have hx4 : w1.heap[w.heap.size]? = some (.cells (refB N.s AL nL cL AD nD cD) 29 (0, 0)) := by rw [← hw1]; exact old_alloc _ (old_alloc _ (new_alloc _ rfl))
  have hx5 : w1.heap[w.heap.size + 1]? = some (.cells #[.int .i64 k, .int .i64 x, .int .i64 y, .int .i64 pick, .slice Ax nx cx, .bool is] 64 (0, 0)) := by rw [← hw1]; exact old_alloc _ (new_alloc _ (by simp))
  have hx6 : w1.heap[w.heap.size + 2]? = some (.cells #[.int .i64 0, .int .i64 0, .int .i64 0, .slice none 0 0, .slice none 0 0] 29 (0, 0)) := by rw [← hw1]; exact new_alloc _ (by simp)
  have hs1 : w1.heap.size = w.heap.size + 3 := by rw [← hw1]; simp
  have hr := refDown_any x y is w1 (h2.keep hb1) (fun b e => by have := hS2b b e; omega) hD0
  have hd := fun W (hb : Below w.heap.size w W) => down_N x y is W (hn.keep hb)
  have hnum := downN_num N x y is
  unfold refV at hr ⊢
  unfold refB at hx4 hw1
  obtain ⟨a1, ha1⟩ : ∃ a, N.s.ends = a := ⟨_, rfl⟩
  obtain ⟨a2, ha2⟩ : ∃ a, N.s.most = a := ⟨_, rfl⟩
  obtain ⟨a3, ha3⟩ : ∃ a, N.s.came = a := ⟨_, rfl⟩
  rw [ha1, ha2, ha3] at hr hx4 hw1 ⊢
  obtain ⟨⟨N2, E⟩, hD⟩ : ∃ d, downN N x y is = d := ⟨_, rfl⟩
  rw [hD] at hr hd hnum ⊢
  simp only at hr hd hnum ⊢
  have h17 := fun W => num_any E W hnum.1 hnum.2
  have q0 : (k == 0) = false := by simpa using k0
  have q1 : (k == 1) = false := by simpa using k1
  have q2 : (k == 2) = false := by simpa using k2
  have q3 : (k == 3) = false := by simpa using k3
  have H17 := Lib.hid h17
  have HD := Lib.hid hd
  have HB := Lib.hid hb1
  have HHB := Lib.hid hB
  have H5 := Lib.hid hx5
  have H6 := Lib.hid hx6
  have HS1 := Lib.hid hs1
  obtain ⟨⟨c0, c1, c2, c3, c4⟩, _⟩ := five_cells hx4
  obtain ⟨d0, d1, d2, d3, d4, d5⟩ := six_cells hx5
  clear h h2 hS2b hS2 hn hd hb1 hx4 hx5 hx6 hs1 hnum h17 hD hB hSB hSw ha1 ha2 ha3 hD0 k0 k1 k2 k3
  go_enter Try.func27, Try.ntmps27
  go_upto_region 1 with fail
  clear hw1
  go_upto_region 29 with (go_at_call 58; (with_reducible refine hr.mono ?_); clear hr; rintro e w2 ⟨A9, nM, c9, rfl, hrf, hbb⟩)
  have hbc : Below w2.heap.size w2 (w2.alloc (.cells #[.int .i64 a1, .int .i64 a2, .int .i64 a3, .slice AL nL cL, .slice A9 nM c9] 29)) := (Below.refl _ _).alloc (Nat.le_refl _) _
  have hx26 := World.alloc_heap_new w2 (.cells #[.int .i64 a1, .int .i64 a2, .int .i64 a3, .slice AL nL cL, .slice A9 nM c9] 29)
  obtain ⟨w3, hw3⟩ : ∃ V, w2.alloc (.cells #[.int .i64 a1, .int .i64 a2, .int .i64 a3, .slice AL nL cL, .slice A9 nM c9] 29) = V := ⟨_, rfl⟩
  rw [hw3] at hbc hx26 ⊢
  have hbe : Below w1.heap.size w1 w3 := hbb.trans (hbc.mono hbb.size)
  have hbw := HB.out.trans (hbe.mono HB.out.size)
  have HBW := Lib.hid hbw
  have HBE := Lib.hid hbe
  have hs22 : w.heap.size + 3 ≤ w2.heap.size := by have := hbb.size; have := HS1.out; omega
  have HS22 := Lib.hid hs22
  have HRF3 := Lib.hid (hrf.keep hbc)
  have hnB : ∀ q, w.heap.size ≤ q → ¬ B q := fun q e e2 => by have := HHB.out q e2; omega
  have HNB := Lib.hid hnB
  have H18 : Hid (∀ W, Below w3.heap.size w3 W → Calls Try.prog 18 #[.pointer (some ⟨p, 0, none⟩), .int .i64 x, .int .i64 y, .bool is] W fun e w' => e = .returned (.int .i64 E) ∧ StepK B W w' p N2) := Lib.hid fun W hb => HD.out W (HBW.out.trans (hb.mono HBW.out.size))
  have HT : Hid (∀ W, But (fun q => B q ∨ q = w.heap.size + 2) w3 W → W.heap[w2.heap.size]? = some (.cells #[.int .i64 a1, .int .i64 a2, .int .i64 a3, .slice AL nL cL, .slice A9 nM c9] 29 (0, 0))) := Lib.hid fun W hb => hb.box hx26 (fun e => by
    rcases e with e | e
    · exact hnB _ (by omega) e
    · omega)
  have H5S : Hid (∀ W, But (fun q => B q ∨ q = w.heap.size + 2) w3 W → W.heap[w.heap.size + 1]? = some (.cells #[.int .i64 k, .int .i64 x, .int .i64 y, .int .i64 pick, .slice Ax nx cx, .bool is] 64 (0, 0))) := Lib.hid fun W hb => hb.box ((hbe.block _ (by have := HS1.out; omega)).trans H5.out) (fun e => by
    rcases e with e | e
    · exact hnB _ (by omega) e
    · omega)
  have HX6 : Hid (∀ W, But B w3 W → W.heap[w.heap.size + 2]? = some (.cells #[.int .i64 0, .int .i64 0, .int .i64 0, .slice none 0 0, .slice none 0 0] 29 (0, 0))) := Lib.hid fun W hb => hb.box ((hbe.block _ (by have := HS1.out; omega)).trans H6.out) (hnB _ (by omega))
  clear hbb hbc hrf hx26 hw3 hbe hbw c0 c1 c2 c3 c4 d0 d1 d2 d3 d4 d5 hs22 hnB
  have hS0 : (fun W => But (fun q => B q ∨ q = w.heap.size + 2) w3 W) w3.drew := (But.refl _ _).drew
  refine wp_region_held_drew (S := fun W => But (fun q => B q ∨ q = w.heap.size + 2) w3 W) rfl hS0 (fun hHeld => ?_)
  simp only [List.size_toArray, List.length_cons, List.length_nil, Nat.reduceAdd]
  have HB0 : Hid (Below w3.heap.size w3 w3.drew) := Lib.hid (Below.refl _ _).drew
  obtain ⟨V0, hV0⟩ : ∃ V, w3.drew = V := ⟨_, rfl⟩
  rw [hV0] at hHeld hS0 HB0 ⊢
  clear hV0
  have HB0b : But B w3 V0 := But.of_all HB0.out B
  refine wpAnyH_take (i := 0) (v := .agg #[.int .i64 a1, .int .i64 a2, .int .i64 a3, .slice AL nL cL, .slice A9 nM c9]) rfl (by kernel_rfl) (by kernel_rfl) (by kernel_rfl) (fun _ _ _ h => h) (Or.inl ⟨by rfl, ?_⟩) (by assumption) ?_
  · intro wx hs1; obtain ⟨k0, k1, k2, k3, k4⟩ := (five_cells (HT.out wx hs1)).1; go_simp
  (try simp only [Act.put, List.getElem_toArray, List.getElem_cons_zero, List.setIfInBounds_toArray, List.set_cons_zero, List.set_cons_succ])
  refine wpAnyH_take (i := 1) (v := .pointer (some ⟨p, 0, none⟩)) rfl (by kernel_rfl) (by kernel_rfl) (by kernel_rfl) (fun _ _ _ h => h) (Or.inl ⟨by rfl, ?_⟩) (by assumption) ?_
  · intro wx hs1; go_simp
  (try simp only [Act.put, List.getElem_toArray, List.getElem_cons_succ, List.getElem_cons_zero, List.setIfInBounds_toArray, List.set_cons_zero, List.set_cons_succ])
  refine wpAnyH_take (i := 2) (v := .pointer (some ⟨w.heap.size + 1, 1, none⟩)) rfl (by kernel_rfl) (by kernel_rfl) (by kernel_rfl) (fun _ _ _ h => h) (Or.inl ⟨by rfl, ?_⟩) (by assumption) ?_
  · intro wx hs1; go_simp
  (try simp only [Act.put, List.getElem_toArray, List.getElem_cons_succ, List.getElem_cons_zero, List.setIfInBounds_toArray, List.set_cons_zero, List.set_cons_succ])
  refine wpAnyH_take (i := 3) (v := .int .i64 x) rfl (by kernel_rfl) (by kernel_rfl) (by kernel_rfl) (fun _ _ _ h => h) (Or.inl ⟨by rfl, ?_⟩) (by assumption) ?_
  · intro wx hs1; obtain ⟨k0, k1, k2, k3, k4, k5⟩ := six_cells (H5S.out wx hs1); go_simp
  (try simp only [Act.put, List.getElem_toArray, List.getElem_cons_succ, List.getElem_cons_zero, List.setIfInBounds_toArray, List.set_cons_zero, List.set_cons_succ])
  refine wpAnyH_take (i := 4) (v := .pointer (some ⟨w.heap.size + 1, 2, none⟩)) rfl (by kernel_rfl) (by kernel_rfl) (by kernel_rfl) (fun _ _ _ h => h) (Or.inl ⟨by rfl, ?_⟩) (by assumption) ?_
  · intro wx hs1; go_simp
  (try simp only [Act.put, List.getElem_toArray, List.getElem_cons_succ, List.getElem_cons_zero, List.setIfInBounds_toArray, List.set_cons_zero, List.set_cons_succ])
  refine wpAnyH_take (i := 5) (v := .int .i64 y) rfl (by kernel_rfl) (by kernel_rfl) (by kernel_rfl) (fun _ _ _ h => h) (Or.inl ⟨by rfl, ?_⟩) (by assumption) ?_
  · intro wx hs1; obtain ⟨k0, k1, k2, k3, k4, k5⟩ := six_cells (H5S.out wx hs1); go_simp
  (try simp only [Act.put, List.getElem_toArray, List.getElem_cons_succ, List.getElem_cons_zero, List.setIfInBounds_toArray, List.set_cons_zero, List.set_cons_succ])
  refine wpAnyH_take (i := 6) (v := .pointer (some ⟨w.heap.size + 1, 5, none⟩)) rfl (by kernel_rfl) (by kernel_rfl) (by kernel_rfl) (fun _ _ _ h => h) (Or.inl ⟨by rfl, ?_⟩) (by assumption) ?_
  · intro wx hs1; go_simp
  (try simp only [Act.put, List.getElem_toArray, List.getElem_cons_succ, List.getElem_cons_zero, List.setIfInBounds_toArray, List.set_cons_zero, List.set_cons_succ])
  refine wpAnyH_take (i := 7) (v := .bool is) rfl (by kernel_rfl) (by kernel_rfl) (by kernel_rfl) (fun _ _ _ h => h) (Or.inl ⟨by rfl, ?_⟩) (by assumption) ?_
  · intro wx hs1; obtain ⟨k0, k1, k2, k3, k4, k5⟩ := six_cells (H5S.out wx hs1); go_simp
  (try simp only [Act.put, List.getElem_toArray, List.getElem_cons_succ, List.getElem_cons_zero, List.setIfInBounds_toArray, List.set_cons_zero, List.set_cons_succ])
  refine wpAnyH_take (i := 10) (v := .int .i64 E) rfl (by kernel_rfl) (by kernel_rfl) (by kernel_rfl) (fun _ _ _ h => h) (Or.inl ⟨by rfl, ?_⟩) (by assumption) ?_
  · intro wx hs1; go_simp
  (try simp only [Act.put, List.getElem_toArray, List.getElem_cons_succ, List.getElem_cons_zero, List.setIfInBounds_toArray, List.set_cons_zero, List.set_cons_succ])
  refine wpAnyH_ready (rs := [8]) (by kernel_rfl) (by simp) (AllReadyH.cons rfl (fun K hK => ?_) AllReadyH.nil)
  go_simp
  go_at_call 18
  (with_reducible refine (H18.out _ HB0.out).mono ?_)
  rintro e w5 ⟨rfl, hnt, hbut⟩
  try dsimp only
  have HNT := Lib.hid hnt; have HBUT := Lib.hid hbut; clear hnt hbut; have hS := hS0.trans HBUT.out (fun _ _ e => Or.inl e)
  refine hK.out _ _ hS (fun _ => ?_)
  clear hK K
  (try simp only [Act.put, List.getElem_toArray, List.getElem_cons_succ, List.getElem_cons_zero, List.setIfInBounds_toArray, List.set_cons_zero, List.set_cons_succ])
  refine wpAnyH_ready (rs := [9]) (by kernel_rfl) (by simp) (AllReadyH.cons rfl (fun K hK => ?_) AllReadyH.nil)
  go_simp
  go_at_call 17
  (with_reducible refine (H17.out _).mono ?_)
  rintro e w7 ⟨rfl, rfl⟩
  try dsimp only
  have hS := hS0.trans HBUT.out (fun _ _ e => Or.inl e)
  refine hK.out _ _ hS (fun _ => ?_)
  clear hK K
  (try simp only [Act.put, List.getElem_toArray, List.getElem_cons_succ, List.getElem_cons_zero, List.setIfInBounds_toArray, List.set_cons_zero, List.set_cons_succ])
  refine wpAnyH_take (i := 11) (v := .bool true) rfl (by kernel_rfl) (by kernel_rfl) (by kernel_rfl) (fun _ _ _ h => h) (Or.inl ⟨by rfl, ?_⟩) (by assumption) ?_
  · intro wx hs1; go_simp
  (try simp only [Act.put, List.getElem_toArray, List.getElem_cons_succ, List.getElem_cons_zero, List.setIfInBounds_toArray, List.set_cons_zero, List.set_cons_succ])
  obtain ⟨⟨j0, j1, j2, j3, j4⟩, ⟨g0, g1, g2, g3, g4⟩⟩ := five_cells (HX6.out w5 (HB0b.trans HBUT.out (fun _ _ e => e)))
  refine wpAnyH_ready (rs := [12]) (by kernel_rfl) (by simp) (AllReadyH.cons rfl (fun K hK => ?_) AllReadyH.nil)
  go_simp
  try dsimp only
  have hW5x := put5 (HX6.out w5 (HB0b.trans HBUT.out (fun _ _ e => e))) (.int .i64 a1) (.int .i64 a2) (.int .i64 a3) (.slice AL nL cL) (.slice A9 nM c9)
  have hW5b := put5_but w5 (w.heap.size + 2) (.int .i64 a1) (.int .i64 a2) (.int .i64 a3) (.slice AL nL cL) (.slice A9 nM c9)
  unfold put5W at hW5x hW5b
  obtain ⟨W5, hqW5⟩ : ∃ V, put5W w5 (w.heap.size + 2) (.int .i64 a1) (.int .i64 a2) (.int .i64 a3) (.slice AL nL cL) (.slice A9 nM c9) = V := ⟨_, rfl⟩
  unfold put5W at hqW5
  rw [hqW5] at hW5x hW5b ⊢
  clear hqW5 j0 j1 j2 j3 j4 g0 g1 g2 g3 g4
  have hS := (hS0.trans HBUT.out (fun _ _ e => Or.inl e)).trans hW5b (fun _ _ e => Or.inr e)
  refine hK.out _ _ hS (fun _ => ?_)
  clear hK K
  (try simp only [Act.put, List.getElem_toArray, List.getElem_cons_succ, List.getElem_cons_zero, List.setIfInBounds_toArray, List.set_cons_zero, List.set_cons_succ])
  refine wpAnyH_take (i := 13) (v := .bool true) rfl (by kernel_rfl) (by kernel_rfl) (by kernel_rfl) (fun _ _ _ h => h) (Or.inl ⟨by rfl, ?_⟩) (by assumption) ?_
  · intro wx hs1; go_simp
  (try simp only [Act.put, List.getElem_toArray, List.getElem_cons_succ, List.getElem_cons_zero, List.setIfInBounds_toArray, List.set_cons_zero, List.set_cons_succ])
  refine wpAnyH_done (by kernel_rfl) ?_ _
  obtain ⟨⟨z0, z1, z2, z3, z4⟩, _⟩ := five_cells hW5x
  have hb4 := (But.of_all HBW.out B).trans (HB0b.trans HBUT.out (fun _ _ e => e)) (fun _ _ e => e)
  have hb6 := hb4.trans hW5b (fun b e1 e2 => by omega)
  have hrf5 := (((HRF3.out.keep HB0.out).but HBUT.out HS2.out.1).but hW5b (fun b e => by rw [e]; exact HS2.out.2.1)).less (S' := S) (fun b _ e => HS2.out.2.2 b e)
  have hnt5 := HNT.out.but hW5b (fun b e => by rw [e]; exact HNB.out _ (by omega))
  go_wp2
  exact bodyPost_ret (v := .tuple #[.agg #[.int .i64 a1, .int .i64 a2, .int .i64 a3, .slice AL nL cL, .slice A9 nM c9], .bool true]) (by simp [results, Try.results27, go_sem, z0, z1, z2, z3, z4]) rfl ⟨A9, nM, c9, rfl, hrf5, hnt5, hb6⟩
end Go.Proofs
namespace Go.Proofs
open Go Go.RowKit Sm Go.Lib Go.Maps Go.WideMaps
attribute [local go_sem] Oper.semAt_some
theorem Sm.byte_up (z : Int) (h0 : 0 ≤ z) (h1 : z ≤ 255) : 0 ≤ IntKind.u8.wrap (z + 1) ∧ IntKind.u8.wrap (z + 1) ≤ 255 := by
  by_cases h : z = 255
  · subst h; decide
  · have : IntKind.u8.wrap (z + 1) = z + 1 := by
      unfold IntKind.wrap
      simp [IntKind.signed, IntKind.bits]
      omega
    omega
/-- bytes that are turned, one by one -/
def Sm.KeepI (w8 W : World) (base : Nat) (A : Option Addr) (n c : Nat) : Prop :=
  ∃ zs : List Int, zs.length = n ∧ (∀ z ∈ zs, 0 ≤ z ∧ z ≤ 255) ∧ W.ownsRow base 5 1 (.slice A n c) n (zs.map (Value.int .u8)) ∧ But (fun b => (Value.slice A n c).ownBlock = some b) w8 W
theorem Sm.keepI_of {W : World} {base n c : Nat} {A : Option Addr} {l : List (BitVec 8)} (h : W.ownsRow base 5 1 (.slice A n c) n (l.map byteCell)) (hl : l.length = n) : KeepI W W base A n c :=
  ⟨l.map ib, by rw [List.length_map]; exact hl, fun z hz => by
    obtain ⟨y, _, rfl⟩ := List.mem_map.1 hz
    exact ⟨ib_lo y, by have := ib_hi y; omega⟩, by rw [List.map_map]; exact h, But.refl _ _⟩
theorem Sm.Nt.short {B : Nat → Prop} {W : World} {p : Nat} {N : NM} (h : Nt B W p N) : ∀ m ∈ N.P, m.2.2.2.length ≤ 8192 := by
  obtain ⟨Mb, base, A, cap, L, h1, h2, _⟩ := h
  rw [← h2]
  intro m hm
  obtain ⟨q, hq, rfl⟩ := List.mem_map.1 hm
  exact (h1.msg q hq).2.2.2.2.2.2
theorem Sm.findP_short {B : Nat → Prop} {W : World} {p : Nat} {N : NM} (h : Nt B W p N) (x y pick : Int) : (findP N x y pick).2.2.2.length ≤ 8192 := by
  unfold findP
  cases e : N.P[findA N x y pick]? with
  | none => exact Nat.zero_le _
  | some m => exact h.short m (List.mem_of_getElem? e)
theorem Sm.peekN_short {B : Nat → Prop} {W : World} {p : Nat} {N : NM} (h : Nt B W p N) (x y pick : Int) : (peekN N x y pick).1.2.2.2.length ≤ 8192 := by
  unfold peekN
  split
  · exact Nat.zero_le _
  · exact findP_short h x y pick
theorem Sm.peekN_num (N : NM) (x y pick : Int) : 0 ≤ (peekN N x y pick).2 ∧ (peekN N x y pick).2 ≤ 1000 := by
  unfold peekN
  split
  · exact reachE_num N x y pick
  · exact ⟨Int.le_refl 0, by show (0 : Int) ≤ 1000; decide⟩
set_option maxRecDepth 100000 in
set_option maxHeartbeats 4000000 in
theorem Sm.actPeek {B S : Nat → Prop} {p : Nat} {N : NM} {AL AD : Option Addr} {nL cL nD cD : Nat} {R : List MsgM} (x y pick : Int) (Ax : Option Addr) (nx cx : Nat) (is : Bool) (w : World) (hn : Nt B w p N) (h : RfAt S w N AL nL cL AD nD cD R) :
    Calls Try.prog 27 #[.pointer (some ⟨p, 0, none⟩), refV N.s AL nL cL AD nD cD, .agg #[.int .i64 1, .int .i64 x, .int .i64 y, .int .i64 pick, .slice Ax nx cx, .bool is]] w fun e w' => e = .returned (.tuple #[refV N.s AL nL cL AD nD cD, .bool true]) ∧ Below w.heap.size w w' := by
  obtain ⟨w1, hw1⟩ : ∃ V, ((w.alloc (.cells (refB N.s AL nL cL AD nD cD) 29)).alloc (.cells #[.int .i64 1, .int .i64 x, .int .i64 y, .int .i64 pick, .slice Ax nx cx, .bool is] 64)).alloc (.cells #[.int .i64 0, .int .i64 0, .int .i64 0, .slice none 0 0, .slice none 0 0] 29) = V := ⟨_, rfl⟩
  have hb1 : Below w.heap.size w w1 := by rw [← hw1]; exact (bel2 w _ _).alloc (bel2 w _ _).size _
  have hx4 : w1.heap[w.heap.size]? = some (.cells (refB N.s AL nL cL AD nD cD) 29 (0, 0)) := by rw [← hw1]; exact old_alloc _ (old_alloc _ (new_alloc _ rfl))
  have hx5 : w1.heap[w.heap.size + 1]? = some (.cells #[.int .i64 1, .int .i64 x, .int .i64 y, .int .i64 pick, .slice Ax nx cx, .bool is] 64 (0, 0)) := by rw [← hw1]; exact old_alloc _ (new_alloc _ (by simp))
  have hx6 : w1.heap[w.heap.size + 2]? = some (.cells #[.int .i64 0, .int .i64 0, .int .i64 0, .slice none 0 0, .slice none 0 0] 29 (0, 0)) := by rw [← hw1]; exact new_alloc _ (by simp)
  have hs1 : w1.heap.size = w.heap.size + 3 := by rw [← hw1]; simp
  have hr := refPeek_any x y pick w1 (h.keep hb1)
  have hd := fun W (hb : Below w.heap.size w W) => peek_N x y pick W (hn.keep hb)
  have hnum := peekN_num N x y pick
  have hshort := peekN_short hn x y pick
  unfold refV at hr ⊢
  unfold refB at hx4 hw1
  obtain ⟨a1, ha1⟩ : ∃ a, N.s.ends = a := ⟨_, rfl⟩
  obtain ⟨a2, ha2⟩ : ∃ a, N.s.most = a := ⟨_, rfl⟩
  obtain ⟨a3, ha3⟩ : ∃ a, N.s.came = a := ⟨_, rfl⟩
  rw [ha1, ha2, ha3] at hr hx4 hw1 ⊢
  obtain ⟨⟨⟨m1, m2, m3, ml⟩, E⟩, hD⟩ : ∃ d, peekN N x y pick = d := ⟨_, rfl⟩
  rw [hD] at hr hd hnum hshort
  unfold parVal at hr hd
  simp only at hr hd hnum hshort ⊢
  obtain ⟨m4, hm4⟩ : ∃ m4, ml.length = m4 := ⟨_, rfl⟩
  rw [hm4] at hr hd hshort
  have h17 := fun W => num_any E W hnum.1 hnum.2
  have HM4 := Lib.hid hm4
  have H17 := Lib.hid h17
  have HD := Lib.hid hd
  have HB := Lib.hid hb1
  have H4 := Lib.hid hx4
  have H5 := Lib.hid hx5
  have H6 := Lib.hid hx6
  have HS1 := Lib.hid hs1
  obtain ⟨⟨c0, c1, c2, c3, c4⟩, _⟩ := five_cells hx4
  obtain ⟨d0, d1, d2, d3, d4, d5⟩ := six_cells hx5
  clear h hn hd hb1 hx4 hx5 hx6 hs1 hnum h17 hD ha1 ha2 ha3 hm4
  go_enter Try.func27, Try.ntmps27
  go_upto_region 1 with fail
  clear hw1
  go_upto_region 13 with (go_at_call 55; (with_reducible refine hr.mono ?_); clear hr; rintro e w2 ⟨A8, c8, rfl, hrd, hbb⟩)
  have hbc : Below w2.heap.size w2 (w2.alloc (.cells #[.int .i64 m1, .int .i64 m2, .int .i64 m3, .slice A8 m4 c8] 41)) := (Below.refl _ _).alloc (Nat.le_refl _) _
  have hx15 := World.alloc_heap_new w2 (.cells #[.int .i64 m1, .int .i64 m2, .int .i64 m3, .slice A8 m4 c8] 41)
  obtain ⟨w3, hw3⟩ : ∃ V, w2.alloc (.cells #[.int .i64 m1, .int .i64 m2, .int .i64 m3, .slice A8 m4 c8] 41) = V := ⟨_, rfl⟩
  rw [hw3] at hbc hx15 ⊢
  have hbe : Below w1.heap.size w1 w3 := hbb.trans (hbc.mono hbb.size)
  have hbw := HB.out.trans (hbe.mono HB.out.size)
  have hd3 := HD.out w3 hbw
  have HBW := Lib.hid hbw
  have HBE := Lib.hid hbe
  have HS22 := Lib.hid (show w.heap.size + 3 ≤ w2.heap.size by have := hbb.size; have := HS1.out; omega)
  have HX15 := Lib.hid hx15
  have HRD3 := Lib.hid (hrd.but (But.of_all hbc (fun _ => False)) (fun _ e => e.elim))
  clear c0 c1 c2 c3 c4 d0 d1 d2 d3 d4 d5
  obtain ⟨d0, d1, d2, d3, d4, d5⟩ := six_cells ((hbe.block _ (by have := HS1.out; omega)).trans H5.out)
  clear hbb hbc hrd hx15 hw3 hbe hbw
  obtain ⟨w3', hw3'⟩ : ∃ V : World, V = w3 := ⟨_, rfl⟩
  go_upto_region 14 with (go_at_call 13; (with_reducible refine hd3.mono ?_); clear hd3; rintro e w4 ⟨A7, c7, rfl, hpv, hbb⟩)
  have hbc : Below w4.heap.size w4 (w4.alloc (.cells #[.int .i64 m1, .int .i64 m2, .int .i64 m3, .slice A7 m4 c7] 41)) := (Below.refl _ _).alloc (Nat.le_refl _) _
  have hx17 := World.alloc_heap_new w4 (.cells #[.int .i64 m1, .int .i64 m2, .int .i64 m3, .slice A7 m4 c7] 41)
  obtain ⟨w5, hw5⟩ : ∃ V, w4.alloc (.cells #[.int .i64 m1, .int .i64 m2, .int .i64 m3, .slice A7 m4 c7] 41) = V := ⟨_, rfl⟩
  rw [hw5] at hbc hx17 ⊢
  have hb35 := hbb.trans (hbc.mono hbb.size)
  have hs3 : w2.heap.size < w3.heap.size := (Array.getElem?_eq_some_iff.1 HX15.out).1
  have hs34 := hbb.size
  have hs45 : w4.heap.size < w5.heap.size := (Array.getElem?_eq_some_iff.1 hx17).1
  have HSZ : Hid (w2.heap.size < w3.heap.size ∧ w3.heap.size ≤ w4.heap.size ∧ w4.heap.size < w5.heap.size) := Lib.hid ⟨hs3, hs34, hs45⟩
  have h9 := hpv
  unfold ParV at h9
  simp only at h9
  rw [HM4.out] at h9
  have HLT := Lib.hid (fun g e => (h9.lt g e).2)
  have h95 := own_below h9 hbc
  have HOW := Lib.hid h95
  have hrd7 : Rds w5 (fun _ => False) A7 (ml.map byteCell) := own_rds h95 (fun _ e => e.elim)
  have hrd8 : Rds w5 S A8 (ml.map byteCell) := HRD3.out.but (But.of_all hb35 (fun _ => False)) (fun _ e => e.elim)
  have h28 := sameP_any m1 m2 m3 m1 m2 m3 ml ml A8 A7 m4 c8 m4 c7 w5 HM4.out HM4.out hrd8.rd hrd7.rd
  rw [decide_eq_true (show m1 = m1 ∧ m2 = m2 ∧ m3 = m3 ∧ ml = ml from ⟨rfl, rfl, rfl, rfl⟩)] at h28
  obtain ⟨⟨x0, x1, x2, x3⟩, _⟩ := four_cells ((hb35.block _ hs3).trans HX15.out)
  obtain ⟨⟨y0, y1, y2, y3⟩, _⟩ := four_cells hx17
  have H35 := Lib.hid hb35
  have HX17 := Lib.hid hx17
  clear hbb hbc hpv hw5 hs3 hs34 hs45 h9 h95 hrd7 hrd8 hb35 hx17 d0 d1 d2 d3 d4 d5 hw3' w3'
  go_upto_region 15 with (first
    | (go_at_call 28; (with_reducible refine h28.mono ?_); clear h28; rintro e w6 ⟨rfl, hb6⟩)
    | (go_at_call 17; (with_reducible refine (H17.out _).mono ?_); rintro e w7 ⟨rfl, rfl⟩))
  have HB6 := Lib.hid hb6
  have HI0 : Hid (KeepI w6 w6 w3.heap.size A7 m4 c7) := Lib.hid (keepI_of (own_below HOW.out hb6) HM4.out)
  have HY : Hid (∀ W, But (fun b => (Value.slice A7 m4 c7).ownBlock = some b) w6 W → W.heap[w4.heap.size]? = some (.cells #[.int .i64 m1, .int .i64 m2, .int .i64 m3, .slice A7 m4 c7] 41 (0, 0))) := Lib.hid fun W hb => hb.box ((hb6.block _ HSZ.out.2.2).trans HX17.out) (fun e => by have := HLT.out _ e; omega)
  clear hb6 x0 x1 x2 x3 y0 y1 y2 y3
  go_wp2
  go_loopw [20] (fun v20 wr => ∃ k : Nat, k ≤ m4 ∧ v20 = .int .i64 (k : Int) ∧ Hid (KeepI w6 wr w3.heap.size A7 m4 c7)) (fun v20 _ => m4 - (RowKit.intOf v20).toNat)
  case atStart => exact ⟨0, Nat.zero_le _, rfl, HI0⟩
  case round =>
    obtain ⟨wo, rfl⟩ : ∃ wo : World, wo = wr := ⟨_, rfl⟩
    obtain ⟨k, hk, rfl, HI⟩ := hrel
    clear HI0
    obtain ⟨zs, hz1', hz2', hrow, hbt⟩ := HI.out
    obtain ⟨⟨y0, y1, y2, y3⟩, _⟩ := four_cells (HY.out wo hbt)
    by_cases hlt : k < m4
    · obtain ⟨g, cap, hv, _⟩ := hrow.form (by omega)
      injection hv with hv1 hv2 hv3
      subst hv1
      have hkz : k < zs.length := by omega
      have ck := hrow.cellAt k (by omega)
      rw [List.getElem?_map, List.getElem?_eq_getElem hkz, Option.map_some] at ck
      have fk := hrow.frozenAt k
      obtain ⟨z, hz⟩ : ∃ z, zs[k] = z := ⟨_, rfl⟩
      have hzr := hz2' z (by rw [← hz]; exact List.getElem_mem hkz)
      rw [hz] at ck
      have hzu := byte_up z hzr.1 hzr.2
      obtain ⟨u, hu⟩ : ∃ u, IntKind.u8.wrap (z + 1) = u := ⟨_, rfl⟩
      rw [hu] at hzu
      have hst := hrow.stored k (.int .u8 u)
      have hnew : KeepI w6 (wo.setCell ⟨g, k, none⟩ (.int .u8 u)) w3.heap.size (some ⟨g, 0, none⟩) m4 c7 := by
        refine ⟨zs.set k u, by simpa using hz1', fun y hy => ?_, ?_, hbt.trans (But.grown hst.2) (fun b _ e => e)⟩
        · rcases List.mem_or_eq_of_mem_set hy with h | h
          · exact hz2' y h
          · rw [h]; exact hzu
        · rw [List.map_set]
          exact hst.1
      have HNEW := Lib.hid hnew
      have hw8 : IntKind.u8.wrap (z + 1) = u := hu
      have hkI : (k : Int) ≤ 1000000000 := by omega
      have hkL : (k : Int) < (m4 : Int) := by omega
      clear hnew hst hbt hrow hz hz1' hz2' hv2 hv3 hzu hzr hkz
      go_wp2
      go_roundw
      case rel => exact ⟨k + 1, by omega, by go_num, HNEW⟩
      case measure => simp [RowKit.intOf]; omega
    · obtain rfl : k = m4 := by omega
      have hbw3 : Below w3.heap.size w3 wo := (H35.out.trans (HB6.out.mono H35.out.size)).trans (hbt.to_below (H35.out.trans (HB6.out.mono H35.out.size)).size (fun b e => (HOW.out.lt b e).1))
      have hb1o := HBE.out.trans (hbw3.mono HBE.out.size)
      have HBo := Lib.hid (HB.out.trans (hb1o.mono HB.out.size))
      obtain ⟨⟨c0, c1, c2, c3, c4⟩, _⟩ := five_cells ((hb1o.block _ (by have := HS1.out; omega)).trans H4.out)
      have HX6 := Lib.hid ((hb1o.block _ (by have := HS1.out; omega)).trans H6.out)
      obtain ⟨⟨j0, j1, j2, j3, j4⟩, ⟨g0, g1, g2, g3, g4⟩⟩ := five_cells HX6.out
      clear hbt hrow hz1' hz2' hbw3 hb1o
      go_wp2
      have h4 := put5 HX6.out (.int .i64 a1) (.int .i64 a2) (.int .i64 a3) (.slice AL nL cL) (.slice AD nD cD)
      have h5 := put5_but wo (w.heap.size + 2) (.int .i64 a1) (.int .i64 a2) (.int .i64 a3) (.slice AL nL cL) (.slice AD nD cD)
      unfold put5W at h4 h5
      obtain ⟨⟨z0, z1, z2, z3, z4⟩, _⟩ := five_cells h4
      exact bodyPost_ret (v := .tuple #[.agg #[.int .i64 a1, .int .i64 a2, .int .i64 a3, .slice AL nL cL, .slice AD nD cD], .bool true]) (by simp [results, Try.results27, go_sem, z0, z1, z2, z3, z4]) rfl ⟨rfl, HBo.out.trans (h5.to_below HBo.out.size (fun b e => by omega))⟩
end Go.Proofs
namespace Go.Proofs
open Go Go.RowKit Sm Go.Lib Go.Maps Go.WideMaps
attribute [local go_sem] Oper.semAt_some
theorem Sm.Nt.most {B : Nat → Prop} {W : World} {p : Nat} {N : NM} (h : Nt B W p N) : N.s.most ≤ 4096 := by
  obtain ⟨Mb, base, A, cap, L, h1, h2, _⟩ := h
  exact h1.lim.2.2.2.1
theorem Sm.putE_num (s : NSt) (D : List (Int × Int)) (k : Nat) (x y : Int) (n : Nat) : 0 ≤ putE s D k x y n ∧ putE s D k x y n ≤ 1000 := by
  unfold putE
  split
  · omega
  · split
    · omega
    · split
      · omega
      · split <;> omega
theorem Sm.putN_num (N : NM) (x y : Int) (l : List (BitVec 8)) : 0 ≤ (putN N x y l).2.2 ∧ (putN N x y l).2.2 ≤ 1000 := by
  unfold putN
  split
  · exact putE_num _ _ _ _ _ _
  · exact ⟨Int.le_refl 0, by show (0 : Int) ≤ 1000; decide⟩
theorem Sm.refPut_any {S : Nat → Prop} {N : NM} {AL AD : Option Addr} {nL cL nD cD : Nat} {R : List MsgM} (x y : Int) (Ab : Option Addr) (nb cb : Nat) (l : List (BitVec 8)) (w : World) (h : RfAt S w N AL nL cL AD nD cD R) (hS : ∀ b, S b → b < w.heap.size) (hl : l.length = nb) (hn : nb ≤ 1000000000) (hrd : Rds w S Ab (l.map byteCell)) (hM : N.s.most ≤ 4096) (hC : 0 ≤ N.s.came ∧ N.s.came ≤ 1000000000) (hk : (nL : Int) ≤ N.s.most) :
    Calls Try.prog 54 #[refV N.s AL nL cL AD nD cD, .int .i64 x, .int .i64 y, .slice Ab nb cb] w fun e w' => ∃ A' nM c' R', e = .returned (.tuple #[refV (putN N x y l).1.s A' nM c' AD nD cD, .int .i64 (putN N x y l).2.1, .int .i64 (putN N x y l).2.2]) ∧ RfAt S w' (putN N x y l).1 A' nM c' AD nD cD R' ∧ Below w.heap.size w w' := by
  unfold putN
  rw [hl]
  by_cases hE : putE N.s N.D N.P.length x y nb = 0
  · rw [if_neg (by simp [hE])]
    refine (refPut_yes x y Ab nb cb l w h hS hl hrd hM hC hk hE).mono ?_
    rintro e w' ⟨A', c', rfl, ⟨m, h1⟩, h2⟩
    exact ⟨A', nL + 1, c', _, rfl, h1, h2⟩
  · rw [if_pos hE]
    refine (refPut_bad x y Ab nb cb w h hn hE).mono ?_
    rintro e w' ⟨rfl, h1, h2⟩
    exact ⟨AL, nL, cL, R, rfl, h1, h2⟩
set_option maxRecDepth 100000 in
set_option maxHeartbeats 4000000 in
theorem Sm.actPut {B S : Nat → Prop} {p : Nat} {N : NM} {AL AD : Option Addr} {nL cL nD cD : Nat} {R : List MsgM} (x y pick : Int) (Ax : Option Addr) (nx cx : Nat) (is : Bool) (w : World) (hn : Nt B w p N) (h : RfAt S w N AL nL cL AD nD cD R) (hSB : ∀ b, B b → S b) (hSw : ∀ b, S b → b < w.heap.size) (l : List (BitVec 8)) (hl : l.length = nx) (hnx : nx ≤ 1000000) (hrx : Rds w S Ax (l.map byteCell)) (hC : N.s.came < 1000000000) :
    Calls Try.prog 27 #[.pointer (some ⟨p, 0, none⟩), refV N.s AL nL cL AD nD cD, .agg #[.int .i64 0, .int .i64 x, .int .i64 y, .int .i64 pick, .slice Ax nx cx, .bool is]] w fun e w' => ∃ A' nM c' R' B' S', e = .returned (.tuple #[refV (putN N x y l).1.s A' nM c' AD nD cD, .bool true]) ∧ RfAt S' w' (putN N x y l).1 A' nM c' AD nD cD R' ∧ Nt B' w' p (putN N x y l).1 ∧ But B w w' ∧ (∀ b, S b → S' b) ∧ (∀ b, B' b → S' b) ∧ (∀ b, S' b → b < w'.heap.size) ∧ (∀ b, b < w.heap.size → S' b → S b) ∧ ∀ b, b < w.heap.size → B' b → B b := by
  have hB : ∀ b, B b → b < w.heap.size := fun b e => hSw b (hSB b e)
  obtain ⟨S2, hS2⟩ : ∃ S2 : Nat → Prop, S2 = fun b => S b ∨ b = w.heap.size + 2 := ⟨_, rfl⟩
  have h2 : RfAt S2 w N AL nL cL AD nD cD R := h.less (fun b hb e => by
    rw [hS2] at e
    rcases e with e | e
    · exact e
    · omega)
  have hS2b : ∀ b, S2 b → b < w.heap.size + 3 := fun b e => by
    rw [hS2] at e
    rcases e with e | e
    · have := hSw b e; omega
    · omega
  have HS2 : Hid ((∀ b, B b → S2 b) ∧ S2 (w.heap.size + 2) ∧ ∀ b, S b → S2 b) := Lib.hid (by rw [hS2]; exact ⟨fun b e => .inl (hSB b e), .inr rfl, fun b e => .inl e⟩)
  have HSB := Lib.hid hSB
  obtain ⟨w1, hw1⟩ : ∃ V, ((w.alloc (.cells (refB N.s AL nL cL AD nD cD) 29)).alloc (.cells #[.int .i64 0, .int .i64 x, .int .i64 y, .int .i64 pick, .slice Ax nx cx, .bool is] 64)).alloc (.cells #[.int .i64 0, .int .i64 0, .int .i64 0, .slice none 0 0, .slice none 0 0] 29) = V := ⟨_, rfl⟩
  have hb1 : Below w.heap.size w w1 := by rw [← hw1]; exact (bel2 w _ _).alloc (bel2 w _ _).size _
  have hx4 : w1.heap[w.heap.size]? = some (.cells (refB N.s AL nL cL AD nD cD) 29 (0, 0)) := by rw [← hw1]; exact old_alloc _ (old_alloc _ (new_alloc _ rfl))
  have hx5 : w1.heap[w.heap.size + 1]? = some (.cells #[.int .i64 0, .int .i64 x, .int .i64 y, .int .i64 pick, .slice Ax nx cx, .bool is] 64 (0, 0)) := by rw [← hw1]; exact old_alloc _ (new_alloc _ (by simp))
  have hx6 : w1.heap[w.heap.size + 2]? = some (.cells #[.int .i64 0, .int .i64 0, .int .i64 0, .slice none 0 0, .slice none 0 0] 29 (0, 0)) := by rw [← hw1]; exact new_alloc _ (by simp)
  have hs1 : w1.heap.size = w.heap.size + 3 := by rw [← hw1]; simp
  have hlen := hn.lens
  have hPL : N.P.length = nL := by rw [← h.map, List.length_map, h.len]
  have hr := refPut_any x y Ax nx cx l w1 (h2.keep hb1) (fun b e => by have := hS2b b e; omega) hl (by omega) ((hrx.less (fun b hb e => by
    rw [hS2] at e
    rcases e with e | e
    · exact e
    · omega)).but (But.of_all hb1 (fun _ => False)) (fun _ e => e.elim)) hn.most ⟨hlen.2.2.1, by omega⟩ (by omega)
  have hd := fun (A : Option Addr) (c : Nat) W (hb : Below w.heap.size w W) (hr : Rd W W.heap.size A l) => put_N x y A nx c l W (hn.keep hb) hC hl (by omega) hr
  have hnum := putN_num N x y l
  unfold refV at hr ⊢
  unfold refB at hx4 hw1
  obtain ⟨a1, ha1⟩ : ∃ a, N.s.ends = a := ⟨_, rfl⟩
  obtain ⟨a2, ha2⟩ : ∃ a, N.s.most = a := ⟨_, rfl⟩
  obtain ⟨a3, ha3⟩ : ∃ a, N.s.came = a := ⟨_, rfl⟩
  rw [ha1, ha2, ha3] at hx4 hw1 ⊢
  simp only [ha1, ha2, ha3] at hr
  obtain ⟨⟨N2, M, E⟩, hD⟩ : ∃ d, putN N x y l = d := ⟨_, rfl⟩
  rw [hD] at hr hd hnum ⊢
  simp only at hr hd hnum ⊢
  obtain ⟨b1, hb1'⟩ : ∃ a, N2.s.ends = a := ⟨_, rfl⟩
  obtain ⟨b2, hb2'⟩ : ∃ a, N2.s.most = a := ⟨_, rfl⟩
  obtain ⟨b3, hb3'⟩ : ∃ a, N2.s.came = a := ⟨_, rfl⟩
  rw [hb1', hb2', hb3'] at hr ⊢
  have h17 := fun W => num_any E W hnum.1 hnum.2
  have HL := Lib.hid hl
  have H17 := Lib.hid h17
  have HD := Lib.hid hd
  have HB := Lib.hid hb1
  have HHB := Lib.hid hB
  have HSW := Lib.hid hSw
  have HRX := Lib.hid hrx
  have H5 := Lib.hid hx5
  have H6 := Lib.hid hx6
  have HS1 := Lib.hid hs1
  obtain ⟨i5, q5, r5, s5, t5⟩ := info5
  obtain ⟨⟨c0, c1, c2, c3, c4⟩, _⟩ := five_cells hx4
  obtain ⟨d0, d1, d2, d3, d4, d5⟩ := six_cells hx5
  clear h h2 hS2b hS2 hn hd hb1 hx4 hx5 hx6 hs1 hnum h17 hD hB hSB hSw ha1 ha2 ha3 hb1' hb2' hb3' hlen hPL hC hl hrx
  go_enter Try.func27, Try.ntmps27
  go_upto_region 1 with fail
  clear hw1
  go_upto_region 4 with (go_at_call 54; (with_reducible refine hr.mono ?_); clear hr; rintro e w2 ⟨A9, nM, c9, R9, rfl, hrf, hbb⟩)
  have hbc : Below w2.heap.size w2 (w2.alloc (.cells #[.int .i64 b1, .int .i64 b2, .int .i64 b3, .slice A9 nM c9, .slice AD nD cD] 29)) := (Below.refl _ _).alloc (Nat.le_refl _) _
  have hx8 := World.alloc_heap_new w2 (.cells #[.int .i64 b1, .int .i64 b2, .int .i64 b3, .slice A9 nM c9, .slice AD nD cD] 29)
  obtain ⟨w3, hw3⟩ : ∃ V, w2.alloc (.cells #[.int .i64 b1, .int .i64 b2, .int .i64 b3, .slice A9 nM c9, .slice AD nD cD] 29) = V := ⟨_, rfl⟩
  rw [hw3] at hbc hx8 ⊢
  have hbe : Below w1.heap.size w1 w3 := hbb.trans (hbc.mono hbb.size)
  have hbw := HB.out.trans (hbe.mono HB.out.size)
  have HBW := Lib.hid hbw
  have HBE := Lib.hid hbe
  have hs3 : w2.heap.size < w3.heap.size := (Array.getElem?_eq_some_iff.1 hx8).1
  have HSZ : Hid (w.heap.size + 3 ≤ w2.heap.size ∧ w2.heap.size < w3.heap.size) := Lib.hid ⟨by have := hbb.size; have := HS1.out; omega, hs3⟩
  have HX8 := Lib.hid hx8
  have HRF3 : Hid (RfAt (fun b => S2 b ∨ w3.heap.size ≤ b) w3 N2 A9 nM c9 AD nD cD R9) := Lib.hid ((hrf.keep hbc).less (fun b hb e => e.resolve_right (by omega)))
  clear c0 c1 c2 c3 c4 d0 d1 d2 d3 d4 d5
  obtain ⟨d0, d1, d2, d3, d4, d5⟩ := six_cells ((hbe.block _ (by have := HS1.out; omega)).trans H5.out)
  have hba : Below w3.heap.size w3 (w3.alloc (.cells #[] 5)) := (Below.refl _ _).alloc (Nat.le_refl _) _
  have own0 := World.ownsRow_lit (base := w3.heap.size) (size := 1) (e := 5) w3 #[] 0 (Nat.le_refl _) (by decide) rfl
  have hrdA : Rd (w3.alloc (.cells #[] 5)) (w3.alloc (.cells #[] 5)).heap.size Ax l := (HRX.out.but (But.of_all (hbw.trans (hba.mono hbw.size)) (fun _ => False)) (fun _ e => e.elim)).rd
  have d4a := (hba.cell (p := ⟨w.heap.size + 1, 4, none⟩) (by have := HSZ.out; simp only; omega)).trans d4
  clear hbb hbc hrf hx8 hw3 hbe hbw hs3
  obtain ⟨w3', hw3'⟩ : ∃ V : World, V = w3 := ⟨_, rfl⟩
  go_upto_region 5 with (at_builtin; refine wpList_append_rd _ rfl (.tmp 49) (.tmp 51) 39 rfl w3.heap.size 5 i5 _ Try.underlying39 q5 r5 s5 t5 rfl _ _ _ rfl own0 _ Ax nx cx l rfl HL.out hrdA ?_ ?_ ?_; omega; (simp); intro v4 w4 hown4 hg4 hat4; obtain ⟨A7, c7, rfl⟩ := own_form hown4)
  simp only [Nat.zero_add, List.nil_append] at hown4 ⊢
  have hb34 : Below w3.heap.size w3 w4 := hba.trans ((But.grown hg4).to_below hba.size (fun b e => (own0.lt b e).1))
  have h12 := HD.out A7 c7 w4 (HBW.out.trans (hb34.mono HBW.out.size)) (Sm.Rd.of_own (by have := hown4; exact this) (Nat.le_refl _))
  have HOW := Lib.hid hown4
  have HLT := Lib.hid (fun g e => (hown4.lt g e))
  have HB34 := Lib.hid hb34
  clear d0 d1 d2 d3 d4 d5 d4a hba own0 hrdA hown4 hg4 hat4
  obtain ⟨d0, d1, d2, d3, d4, d5⟩ := six_cells ((hb34.block _ (by have := HSZ.out; omega)).trans ((HBE.out.block _ (by have := HS1.out; omega)).trans H5.out))
  clear hb34
  go_upto_region 6 with (go_at_call 12; (with_reducible refine h12.mono ?_); clear h12; rintro e w5 ⟨rfl, hnt, hbut⟩)
  have hnB : ∀ q, w.heap.size ≤ q → ¬ B q := fun q e e2 => by have := HHB.out q e2; omega
  obtain ⟨B', hB'⟩ : ∃ B' : Nat → Prop, B' = fun b => (B b ∨ w4.heap.size ≤ b) ∧ b < w5.heap.size := ⟨_, rfl⟩
  have HBP : Hid (∀ b, B' b ↔ (B b ∨ w4.heap.size ≤ b) ∧ b < w5.heap.size) := Lib.hid (fun b => by rw [hB'])
  have HNT : Hid (Nt B' w5 p N2) := Lib.hid (hnt.mono (fun b hb e => (HBP.out b).2 ⟨e, hb⟩))
  have HBUT := Lib.hid hbut
  have hrow5 := hbut.row HOW.out (fun g e => hnB g (by have := (HLT.out g e).1; have := HSZ.out; omega))
  have HI0 : Hid (KeepI w5 w5 w3.heap.size A7 nx c7) := Lib.hid (keepI_of hrow5 HL.out)
  clear hnt hbut hrow5 hB' d0 d1 d2 d3 d4 d5 hw3' w3'
  go_wp2
  go_loopw [14] (fun v14 wr => ∃ k : Nat, k ≤ nx ∧ v14 = .int .i64 (k : Int) ∧ Hid (KeepI w5 wr w3.heap.size A7 nx c7)) (fun v14 _ => nx - (RowKit.intOf v14).toNat)
  case atStart => exact ⟨0, Nat.zero_le _, rfl, HI0⟩
  case round =>
    obtain ⟨wo, rfl⟩ : ∃ wo : World, wo = wr := ⟨_, rfl⟩
    obtain ⟨k, hk, rfl, HI⟩ := hrel
    clear HI0
    obtain ⟨zs, hz1', hz2', hrow, hbt⟩ := HI.out
    by_cases hlt : k < nx
    · obtain ⟨g, cap, hv, _⟩ := hrow.form (by omega)
      injection hv with hv1 hv2 hv3
      subst hv1
      have hkz : k < zs.length := by omega
      have ck := hrow.cellAt k (by omega)
      rw [List.getElem?_map, List.getElem?_eq_getElem hkz, Option.map_some] at ck
      have fk := hrow.frozenAt k
      obtain ⟨z, hz⟩ : ∃ z, zs[k] = z := ⟨_, rfl⟩
      have hzr := hz2' z (by rw [← hz]; exact List.getElem_mem hkz)
      rw [hz] at ck
      have hzu := byte_up z hzr.1 hzr.2
      obtain ⟨u, hu⟩ : ∃ u, IntKind.u8.wrap (z + 1) = u := ⟨_, rfl⟩
      rw [hu] at hzu
      have hst := hrow.stored k (.int .u8 u)
      have hnew : KeepI w5 (wo.setCell ⟨g, k, none⟩ (.int .u8 u)) w3.heap.size (some ⟨g, 0, none⟩) nx c7 := by
        refine ⟨zs.set k u, by simpa using hz1', fun y hy => ?_, ?_, hbt.trans (But.grown hst.2) (fun b _ e => e)⟩
        · rcases List.mem_or_eq_of_mem_set hy with h | h
          · exact hz2' y h
          · rw [h]; exact hzu
        · rw [List.map_set]
          exact hst.1
      have HNEW := Lib.hid hnew
      have hw8 : IntKind.u8.wrap (z + 1) = u := hu
      have hkI : (k : Int) ≤ 1000000000 := by omega
      have hkL : (k : Int) < (nx : Int) := by omega
      clear hnew hst hbt hrow hz hz1' hz2' hv2 hv3 hzu hzr hkz hnB
      go_wp2
      go_roundw
      case rel => exact ⟨k + 1, by omega, by go_num, HNEW⟩
      case measure => simp [RowKit.intOf]; omega
    · obtain rfl : k = nx := by omega
      have HKB : Hid (But (fun b => (Value.slice A7 k c7).ownBlock = some b) w5 wo) := Lib.hid hbt
      have hown3 : ∀ g, (Value.slice A7 k c7).ownBlock = some g → w3.heap.size ≤ g ∧ g < w4.heap.size := fun g e => HLT.out g e
      have HO3 := Lib.hid hown3
      have HS45 := Lib.hid HBUT.out.size
      have HS34 := Lib.hid HB34.out.size
      have HT : Hid (∀ W, But (fun q => q = w.heap.size + 2) wo W → W.heap[w2.heap.size]? = some (.cells #[.int .i64 b1, .int .i64 b2, .int .i64 b3, .slice A9 nM c9, .slice AD nD cD] 29 (0, 0))) := Lib.hid fun W hb => hb.box (HKB.out.box (HBUT.out.box ((HB34.out.block _ HSZ.out.2).trans HX8.out) (hnB _ (by have := HSZ.out; omega))) (fun e => by have := HO3.out _ e; have := HSZ.out; omega)) (by have := HSZ.out; omega)
      have HX6 : Hid (∀ W, Below wo.heap.size wo W → W.heap[w.heap.size + 2]? = some (.cells #[.int .i64 0, .int .i64 0, .int .i64 0, .slice none 0 0, .slice none 0 0] 29 (0, 0))) := Lib.hid fun W hb => (hb.block _ (by have := HSZ.out; have := HKB.out.size; have := HS45.out; have := HS34.out; omega)).trans (HKB.out.box (HBUT.out.box ((HB34.out.block _ (by have := HSZ.out; omega)).trans ((HBE.out.block _ (by have := HS1.out; omega)).trans H6.out)) (hnB _ (by omega))) (fun e => by have := HO3.out _ e; have := HSZ.out; omega))
      have HNB := Lib.hid hnB
      clear hbt hrow hz1' hz2' hown3 hnB
      go_upto_region 10 with fail
      have hS0 : (fun W => But (fun q => q = w.heap.size + 2) wo W) wo.drew := (But.refl _ _).drew
      refine wp_region_held_drew (S := fun W => But (fun q => q = w.heap.size + 2) wo W) rfl hS0 (fun hHeld => ?_)
      simp only [List.size_toArray, List.length_cons, List.length_nil, Nat.reduceAdd]
      have HB0 : Hid (Below wo.heap.size wo wo.drew) := Lib.hid (Below.refl _ _).drew
      obtain ⟨V0, hV0⟩ : ∃ V, wo.drew = V := ⟨_, rfl⟩
      rw [hV0] at hHeld hS0 HB0 ⊢
      clear hV0
      refine wpAnyH_take (i := 0) (v := .agg #[.int .i64 b1, .int .i64 b2, .int .i64 b3, .slice A9 nM c9, .slice AD nD cD]) rfl (by kernel_rfl) (by kernel_rfl) (by kernel_rfl) (fun _ _ _ h => h) (Or.inl ⟨by rfl, ?_⟩) (by assumption) ?_
      · intro wx hs1; obtain ⟨k0, k1, k2, k3, k4⟩ := (five_cells (HT.out wx hs1)).1; go_simp
      (try simp only [Act.put, List.getElem_toArray, List.getElem_cons_zero, List.setIfInBounds_toArray, List.set_cons_zero, List.set_cons_succ])
      refine wpAnyH_take (i := 1) (v := .int .i64 M) rfl (by kernel_rfl) (by kernel_rfl) (by kernel_rfl) (fun _ _ _ h => h) (Or.inl ⟨by rfl, ?_⟩) (by assumption) ?_
      · intro wx hs1; go_simp
      (try simp only [Act.put, List.getElem_toArray, List.getElem_cons_succ, List.getElem_cons_zero, List.setIfInBounds_toArray, List.set_cons_zero, List.set_cons_succ])
      refine wpAnyH_take (i := 2) (v := .int .i64 M) rfl (by kernel_rfl) (by kernel_rfl) (by kernel_rfl) (fun _ _ _ h => h) (Or.inl ⟨by rfl, ?_⟩) (by assumption) ?_
      · intro wx hs1; go_simp
      (try simp only [Act.put, List.getElem_toArray, List.getElem_cons_succ, List.getElem_cons_zero, List.setIfInBounds_toArray, List.set_cons_zero, List.set_cons_succ])
      refine wpAnyH_take (i := 3) (v := .bool true) rfl (by kernel_rfl) (by kernel_rfl) (by kernel_rfl) (fun _ _ _ h => h) (Or.inl ⟨by rfl, ?_⟩) (by assumption) ?_
      · intro wx hs1; go_simp
      (try simp only [Act.put, List.getElem_toArray, List.getElem_cons_succ, List.getElem_cons_zero, List.setIfInBounds_toArray, List.set_cons_zero, List.set_cons_succ])
      refine wpAnyH_take (i := 4) (v := .bool true) rfl (by kernel_rfl) (by kernel_rfl) (by kernel_rfl) (fun _ _ _ h => h) (Or.inl ⟨by rfl, ?_⟩) (by assumption) ?_
      · intro wx hs1; go_simp
      (try simp only [Act.put, List.getElem_toArray, List.getElem_cons_succ, List.getElem_cons_zero, List.setIfInBounds_toArray, List.set_cons_zero, List.set_cons_succ])
      refine wpAnyH_take (i := 5) (v := .int .i64 E) rfl (by kernel_rfl) (by kernel_rfl) (by kernel_rfl) (fun _ _ _ h => h) (Or.inl ⟨by rfl, ?_⟩) (by assumption) ?_
      · intro wx hs1; go_simp
      (try simp only [Act.put, List.getElem_toArray, List.getElem_cons_succ, List.getElem_cons_zero, List.setIfInBounds_toArray, List.set_cons_zero, List.set_cons_succ])
      refine wpAnyH_take (i := 7) (v := .int .i64 E) rfl (by kernel_rfl) (by kernel_rfl) (by kernel_rfl) (fun _ _ _ h => h) (Or.inl ⟨by rfl, ?_⟩) (by assumption) ?_
      · intro wx hs1; go_simp
      (try simp only [Act.put, List.getElem_toArray, List.getElem_cons_succ, List.getElem_cons_zero, List.setIfInBounds_toArray, List.set_cons_zero, List.set_cons_succ])
      refine wpAnyH_ready (rs := [6]) (by kernel_rfl) (by simp) (AllReadyH.cons rfl (fun K hK => ?_) AllReadyH.nil)
      go_simp
      go_at_call 17
      (with_reducible refine (H17.out _).mono ?_)
      rintro e w7 ⟨rfl, rfl⟩
      try dsimp only
      have hS := hS0
      refine hK.out _ _ hS (fun _ => ?_)
      clear hK K
      (try simp only [Act.put, List.getElem_toArray, List.getElem_cons_succ, List.getElem_cons_zero, List.setIfInBounds_toArray, List.set_cons_zero, List.set_cons_succ])
      refine wpAnyH_take (i := 8) (v := .bool true) rfl (by kernel_rfl) (by kernel_rfl) (by kernel_rfl) (fun _ _ _ h => h) (Or.inl ⟨by rfl, ?_⟩) (by assumption) ?_
      · intro wx hs1; go_simp
      (try simp only [Act.put, List.getElem_toArray, List.getElem_cons_succ, List.getElem_cons_zero, List.setIfInBounds_toArray, List.set_cons_zero, List.set_cons_succ])
      refine wpAnyH_take (i := 9) (v := .bool true) rfl (by kernel_rfl) (by kernel_rfl) (by kernel_rfl) (fun _ _ _ h => h) (Or.inl ⟨by rfl, ?_⟩) (by assumption) ?_
      · intro wx hs1; go_simp
      (try simp only [Act.put, List.getElem_toArray, List.getElem_cons_succ, List.getElem_cons_zero, List.setIfInBounds_toArray, List.set_cons_zero, List.set_cons_succ])
      obtain ⟨⟨j0, j1, j2, j3, j4⟩, ⟨g0, g1, g2, g3, g4⟩⟩ := five_cells (HX6.out V0 HB0.out)
      refine wpAnyH_ready (rs := [10]) (by kernel_rfl) (by simp) (AllReadyH.cons rfl (fun K hK => ?_) AllReadyH.nil)
      go_simp
      try dsimp only
      have hW5x := put5 (HX6.out V0 HB0.out) (.int .i64 b1) (.int .i64 b2) (.int .i64 b3) (.slice A9 nM c9) (.slice AD nD cD)
      have hW5b := put5_but V0 (w.heap.size + 2) (.int .i64 b1) (.int .i64 b2) (.int .i64 b3) (.slice A9 nM c9) (.slice AD nD cD)
      unfold put5W at hW5x hW5b
      obtain ⟨W5, hqW5⟩ : ∃ V, put5W V0 (w.heap.size + 2) (.int .i64 b1) (.int .i64 b2) (.int .i64 b3) (.slice A9 nM c9) (.slice AD nD cD) = V := ⟨_, rfl⟩
      unfold put5W at hqW5
      rw [hqW5] at hW5x hW5b ⊢
      clear hqW5 j0 j1 j2 j3 j4 g0 g1 g2 g3 g4
      have hS := hS0.trans hW5b (fun _ _ e => e)
      refine hK.out _ _ hS (fun _ => ?_)
      clear hK K
      (try simp only [Act.put, List.getElem_toArray, List.getElem_cons_succ, List.getElem_cons_zero, List.setIfInBounds_toArray, List.set_cons_zero, List.set_cons_succ])
      refine wpAnyH_take (i := 11) (v := .bool true) rfl (by kernel_rfl) (by kernel_rfl) (by kernel_rfl) (fun _ _ _ h => h) (Or.inl ⟨by rfl, ?_⟩) (by assumption) ?_
      · intro wx hs1; go_simp
      (try simp only [Act.put, List.getElem_toArray, List.getElem_cons_succ, List.getElem_cons_zero, List.setIfInBounds_toArray, List.set_cons_zero, List.set_cons_succ])
      refine wpAnyH_done (by kernel_rfl) ?_ _
      obtain ⟨⟨z0, z1, z2, z3, z4⟩, _⟩ := five_cells hW5x
      have hb4 := ((But.of_all HBW.out B).trans (But.of_all HB34.out B) (fun _ _ e => e)).trans HBUT.out (fun _ _ e => e)
      have hb5 := hb4.trans HKB.out (fun b e1 e2 => by have := HO3.out b e2; have := HSZ.out; omega)
      have hb6 := (hb5.trans (But.of_all HB0.out B) (fun _ _ e => e)).trans hW5b (fun b e1 e2 => by omega)
      have hrf5 := (((((HRF3.out.keep HB34.out).but HBUT.out (fun b e => .inl (HS2.out.1 b e))).but HKB.out (fun b e => .inr (HO3.out b e).1)).keep HB0.out).but hW5b (fun b e => .inl (by rw [e]; exact HS2.out.2.1))).less (S' := fun b => S b ∨ B' b) (fun b _ e => by
        rcases e with e | e
        · exact .inl (HS2.out.2.2 b e)
        · rcases ((HBP.out b).1 e).1 with e | e
          · exact .inl (HS2.out.1 b e)
          · exact .inr (by have := HS34.out; omega))
      have hnt5 := ((HNT.out.but HKB.out (fun b e e2 => by
        have h8 := HO3.out b e
        rcases ((HBP.out b).1 e2).1 with e3 | e3
        · exact HNB.out b (by have := HSZ.out; omega) e3
        · omega)).keep HB0.out).but hW5b (fun b e e2 => by
          rcases ((HBP.out b).1 e2).1 with e3 | e3
          · exact HNB.out b (by omega) e3
          · have := HS34.out; have := HSZ.out; omega)
      have hszf : w5.heap.size ≤ W5.heap.size := Nat.le_trans HKB.out.size (Nat.le_trans HB0.out.size hW5b.size)
      go_wp2
      exact bodyPost_ret (v := .tuple #[.agg #[.int .i64 b1, .int .i64 b2, .int .i64 b3, .slice A9 nM c9, .slice AD nD cD], .bool true]) (by simp [results, Try.results27, go_sem, z0, z1, z2, z3, z4]) rfl ⟨A9, nM, c9, R9, B', _, rfl, hrf5, hnt5, hb6, fun b e => .inl e, fun b e => .inr e, fun b e => e.elim (fun e => Nat.lt_of_lt_of_le (HSW.out b e) hb6.size) (fun e => Nat.lt_of_lt_of_le ((HBP.out b).1 e).2 hszf), fun b hb e => e.elim id (fun e => by
        rcases ((HBP.out b).1 e).1 with e3 | e3
        · exact HSB.out b e3
        · have := HS34.out; have := HSZ.out; omega), fun b hb e => by
        rcases ((HBP.out b).1 e).1 with e3 | e3
        · exact e3
        · have := HS34.out; have := HSZ.out; omega⟩
end Go.Proofs
namespace Go.Proofs
open Go Go.RowKit Sm Go.Lib Go.Maps Go.WideMaps
attribute [local go_sem] Oper.semAt_some
set_option maxRecDepth 100000 in
theorem Sm.cloneM_any (A : Option Addr) (n cap base : Nat) (xs : List Value) (w : World) (h : w.ownsRow base 83 4 (.slice A n cap) n xs) (hn : n ≤ 4096) (h1 : ∀ u ∈ xs, u.oneCell' = true) :
    Calls Try.prog 44 #[.slice A n cap] w fun e w' => ∃ A' c', e = .returned (.slice A' n c') ∧ w'.ownsRow w.heap.size 83 4 (.slice A' n c') n xs ∧ Below w.heap.size w w' := by
  obtain ⟨i83, q83, r83, s83, t83⟩ := info83
  have hlen := h.1
  rcases h.2 with ⟨e1, e2⟩ | ⟨g, cap', cur, e1, hbg, hg, hnc, hcm, hcs, htake⟩
  · injection e1 with e3 e4 e5
    subst e3 e4 e5
    obtain rfl : xs = [] := List.eq_nil_of_length_eq_zero (by omega)
    have hne : ∀ W, (binOp BinOp.eql 33 (.slice none 0 0) (.slice none 0 0)).run Try.prog W = .ok (.bool true) W := fun W => by first | rfl | kernel_rfl
    clear h hlen hn h1
    go_enter Try.func44, Try.ntmps44
    go_wp2
    go_ret
    exact ⟨none, 0, rfl, World.ownsRow_nil _ _ _ _, Below.refl _ _⟩
  · injection e1 with e3 e4 e5
    subst e3
    subst e5
    have hne : ∀ W, (binOp BinOp.eql 33 (.slice (some ⟨g, 0, none⟩) n cap) (.slice none 0 0)).run Try.prog W = .ok (.bool false) W := fun W => by first | rfl | kernel_rfl
    have hgl : g < w.heap.size := (Array.getElem?_eq_some_iff.1 hg).1
    have hba : Below w.heap.size w (w.alloc (.cells #[] 83)) := (Below.refl _ w).alloc (Nat.le_refl _) _
    have own0 := World.ownsRow_lit (base := w.heap.size) (size := 4) (e := 83) w #[] 0 (Nat.le_refl _) (by decide) rfl
    have hnews : ∀ j u, xs[j]? = some u → (w.alloc (.cells #[] 83)).cell? ((⟨g, 0, none⟩ : Addr).add j) = some u := fun j u hj => by
      have hj2 := (List.getElem?_eq_some_iff.1 hj).1
      rw [Addr.add_lit, Nat.zero_add]
      refine (hba.cell (p := ⟨g, j, none⟩) hgl).trans ?_
      rw [h.cellAt j (by omega)]
      exact hj
    clear htake hcs hcm hnc hg hbg h
    go_enter Try.func44, Try.ntmps44
    go_wp2_with (at_builtin; refine wpList_append_own_at _ rfl (.tmp 5) (.tmp 6) 33 rfl w.heap.size 83 i83 _ 4 48 Try.underlying33 q83 r83 s83 t83 rfl (by decide) _ 0 [] rfl own0 ⟨g, 0, none⟩ n cap xs rfl hlen hnews h1 ?_ ?_ ?_ ?_; (unfold maxLen; omega); omega; (simp); intro v5 w5 hown5 hg5 _ hat5; obtain ⟨A7, c7, rfl⟩ := own_form hown5)
    go_ret
    simp only [Nat.zero_add, List.nil_append] at hown5 ⊢
    exact ⟨A7, c7, rfl, hown5, hba.trans ((But.grown hg5).to_below hba.size (fun b e => (own0.lt b e).1))⟩
theorem Sm.all_at {p Mb base : Nat} {s : NSt} {D : List (Int × Int)} {A : Option Addr} {cap : Nat} {L : List MsgM} (w : World) (h : NAt w p Mb base s D A cap L) :
    Calls Try.prog 16 #[.pointer (some ⟨p, 0, none⟩)] w fun e w' => ∃ q A' c', e = .returned (.func (.func 45) #[] #[.pointer (some ⟨q, 0, none⟩)]) ∧ w.heap.size ≤ q ∧ w'.heap[q]? = some (.cells #[.slice A' L.length c'] 33 (0, 0)) ∧ w'.ownsRow w.heap.size 83 4 (.slice A' L.length c') L.length (cellsM L) ∧ Below w.heap.size w w' := by
  have hmf : ∀ (fn : Fn) (first cap : Array Value) (w : World), (Instr.makeFunc fn first cap).run Try.prog w = .ok (.func fn first cap) w := fun _ _ _ _ => rfl
  have h42 := there_yes w h
  have h44 := cloneM_any A L.length cap base (cellsM L) w h.row (by have := h.lim; omega) (cellsM_one L)
  have c4 := cell_of_heap h.blk 4
  simp only [List.getElem?_toArray, List.getElem?_cons_zero, List.getElem?_cons_succ] at c4
  clear h
  go_enter Try.func16, Try.ntmps16
  go_wp2_with (first
    | (go_at_call 42; (with_reducible refine h42.mono ?_); clear h42; rintro e w' ⟨rfl, rfl⟩)
    | (go_at_call 44; (with_reducible refine h44.mono ?_); clear h44; rintro e w2 ⟨A', c', rfl, hown, hb⟩))
  go_ret
  have hbc : Below w2.heap.size w2 (w2.alloc (.cells #[.slice A' L.length c'] 33)) := (Below.refl _ _).alloc (Nat.le_refl _) _
  exact ⟨_, A', c', rfl, hb.size, World.alloc_heap_new _ _, own_below hown hbc, hb.trans (hbc.mono hb.size)⟩
/-- with what message k is told: bytes of its own, in memory that is new since the iterator began -/
def Sm.HAl (L : List MsgM) (Lb k : Nat) (args : Array Value) (W : World) : Prop := ∃ m A' c', L[k]? = some m ∧ args = #[.agg #[.int .i64 m.num, .int .i64 m.src, .int .i64 m.dst, .slice A' m.bytes.length c']] ∧ W.ownsRow Lb 5 1 (.slice A' m.bytes.length c') m.bytes.length (m.bytes.map byteCell)
/-- the bytes of what is told -/
def Sm.rowP (args : Array Value) (b : Nat) : Prop := ∃ num src dst A n c, args = #[.agg #[.int .i64 num, .int .i64 src, .int .i64 dst, .slice A n c]] ∧ (Value.slice A n c).ownBlock = some b
theorem Sm.rowP_lo {L : List MsgM} {Lb k : Nat} {args : Array Value} {W : World} {b : Nat} (h : HAl L Lb k args W) (hr : rowP args b) : Lb ≤ b := by
  obtain ⟨m, A', c', _, rfl, h3⟩ := h
  obtain ⟨num, src, dst, A, n, c, e1, e2⟩ := hr
  injection e1 with e1
  injection e1 with e1 _
  injection e1 with e1
  injection e1 with e1
  injection e1 with _ e1
  injection e1 with _ e1
  injection e1 with _ e1
  injection e1 with e1 _
  rw [← e1] at e2
  exact (h3.lt b e2).1
structure Sm.AlAt (X : Nat → Prop) (J : Nat → World → Prop) (w wr : World) (Lb k : Nat) : Prop where
  j : J k wr
  keep : But (fun b => X b ∨ w.heap.size ≤ b) w wr
  sz : Lb ≤ wr.heap.size
set_option maxRecDepth 100000 in
set_option maxHeartbeats 4000000 in
theorem Sm.all_seq {q n c : Nat} {A : Option Addr} {L : List MsgM} (w : World) (X : Nat → Prop) (hq : w.heap[q]? = some (.cells #[.slice A n c] 33 (0, 0))) (hl : L.length = n) (hn : n ≤ 4096) (hr : Rds w X A (cellsM L)) (hby : ∀ m ∈ L, Rds w X m.A (m.bytes.map byteCell) ∧ m.bytes.length ≤ 8192) :
    SeqX Try.prog 45 #[.pointer (some ⟨q, 0, none⟩)] X (HAl L) rowP (fun _ => True) (fun k => k = n) (fun k => 1 ≤ k ∧ k ≤ n) w := by
  intro L0 J Jx W hW hJ hJx hY hJ0
  have hBl : q < w.heap.size := (Array.getElem?_eq_some_iff.1 hq).1
  have c1 : W.cell? ⟨q, 0, none⟩ = some (.slice A n c) := cell_of_heap ((hW.block q hBl).trans hq) 0
  obtain ⟨Lb, hL⟩ : ∃ L, W.heap.size = L := ⟨_, rfl⟩
  have hwL : w.heap.size ≤ Lb := by rw [← hL]; exact hW.size
  have hr2 : Rds w (fun b => X b ∨ w.heap.size ≤ b) A (cellsM L) := hr.less (fun b hb e => e.resolve_right (by omega))
  have hby2 : ∀ m ∈ L, Rds w (fun b => X b ∨ w.heap.size ≤ b) m.A (m.bytes.map byteCell) ∧ m.bytes.length ≤ 8192 := fun m hm => ⟨(hby m hm).1.less (fun b hb e => e.resolve_right (by omega)), (hby m hm).2⟩
  have HE0 : Hid (AlAt X J w W Lb 0) := Lib.hid ⟨hJ0, (But.of_below hW).mono (fun b _ e => .inr e), Nat.le_of_eq hL.symm⟩
  have HR := Lib.hid hr2
  have HBY := Lib.hid hby2
  have HLN := Lib.hid hl
  have HWL := Lib.hid hwL
  have hfI : (n : Int) ≤ 4096 := by omega
  show Calls Try.prog 45 #[.func (.yield L0) #[] #[], .pointer (some ⟨q, 0, none⟩)] W _
  rw [hL] at hJ hJx hY
  have HY := Lib.hid hY
  have HJ := Lib.hid hJ
  clear hJ0 hW hY hr hr2 hby hby2 hl hq hBl hwL hL hJ hJx
  go_enter Try.func45, Try.ntmps45
  go_wp2
  clear c1
  go_loopw [7] (fun v7 wr => ∃ k : Nat, k ≤ n ∧ v7 = .int .i64 (k : Int) ∧ Hid (AlAt X J w wr Lb k)) (fun v7 _ => n - (RowKit.intOf v7).toNat)
  case atStart => exact ⟨0, Nat.zero_le _, rfl, HE0⟩
  case round =>
    obtain ⟨wo, rfl⟩ : ∃ wo : World, wo = wr := ⟨_, rfl⟩
    obtain ⟨k, hk, rfl, HE⟩ := hrel
    clear HE0
    by_cases hlt : k < n
    · have hkx : k < L.length := by rw [HLN.out]; exact hlt
      have hkI : (k : Int) < (n : Int) := by omega
      obtain ⟨m, hm⟩ : ∃ m, L[k]? = some m := ⟨_, List.getElem?_eq_getElem hkx⟩
      obtain ⟨b, off, rfl, hbl, _, hcl⟩ := (HR.out.but HE.out.keep (fun _ e => e)) (by rw [cellsM_len]; omega)
      have hc := cellsM_at L k m hm
      have q0 := hcl (k * 4) _ hc.1
      have q1 := hcl (k * 4 + 1) _ hc.2.1
      have q2 := hcl (k * 4 + 2) _ hc.2.2.1
      have q3 := hcl (k * 4 + 3) _ hc.2.2.2
      unfold MsgM.sl at q3
      rw [← Nat.add_assoc] at q1 q2 q3
      obtain ⟨w1, hw1⟩ : ∃ V, wo.alloc (.cells #[.int .i64 m.num, .int .i64 m.src, .int .i64 m.dst, .slice m.A m.bytes.length m.c] 83) = V := ⟨_, rfl⟩
      have hb1 : Below wo.heap.size wo w1 := by rw [← hw1]; exact (Below.refl _ _).alloc (Nat.le_refl _) _
      have hx1 : w1.heap[wo.heap.size]? = some (.cells #[.int .i64 m.num, .int .i64 m.src, .int .i64 m.dst, .slice m.A m.bytes.length m.c] 83 (0, 0)) := by rw [← hw1]; exact World.alloc_heap_new _ _
      have hmb := HBY.out m (List.mem_of_getElem? hm)
      have hrd1 := ((hmb.1.but HE.out.keep (fun _ e => e)).but (But.of_all hb1 (fun _ => False)) (fun _ e => e.elim)).rd
      have h46 := copied_any m.num m.src m.dst w1.heap.size m.bytes.length m.c m.A m.bytes w1 rfl hrd1 (Nat.le_refl _) hmb.2
      obtain ⟨⟨x0, x1, x2, x3⟩, _⟩ := four_cells hx1
      have HB1 := Lib.hid hb1
      have HM := Lib.hid hm
      clear hb1 hx1 hmb hrd1 hc hcl hm
      go_upto_region 3 with fail
      clear hw1 q0 q1 q2 q3
      refine (wpIn_wide (n := 3)).1 ?_
      gi_wp2_with ((try refine ⟨trivial, ?_⟩); gi_at_call 46; refine (callsIn_wide.2 h46).mono ?_; clear h46; rintro e w2 ⟨A', c', rfl, hown, hb2⟩; have hb02 := HB1.out.trans (hb2.mono HB1.out.size); have hszw := Nat.le_trans HE.out.sz HB1.out.size; obtain ⟨fn, tmps, assign, body, hy, hR⟩ := HY.out k #[.agg #[.int .i64 m.num, .int .i64 m.src, .int .i64 m.dst, .slice A' m.bytes.length c']] w2 (HJ.out k _ _ HE.out.j (hb02.mono HE.out.sz)) ⟨m, A', c', HM.out, rfl, own_base hown hszw⟩)
      refine (roundIn_any hR).mono ?_
      clear hR hy
      have HB02 := Lib.hid hb02
      have HSZW := Lib.hid hszw
      have HOWN := Lib.hid hown
      clear hb02 hszw hown hb2 x0 x1 x2 x3
      rintro e W3 (⟨rfl, _, hJ3, hbut⟩ | ⟨rfl, hJx3, _⟩)
      · have HE3 : Hid (AlAt X J w W3 Lb (k + 1)) := Lib.hid ⟨hJ3, (HE.out.keep.trans (But.of_all HB02.out _) (fun _ _ e => e)).trans hbut (fun b _ e => by
          rcases e with e | e | e
          · exact .inl e
          · exact .inr e.1
          · exact .inr (Nat.le_trans HWL.out (rowP_lo (L := L) (k := k) ⟨m, A', c', HM.out, rfl, own_base HOWN.out HSZW.out⟩ e))), Nat.le_trans HE.out.sz (Nat.le_trans HB02.out.size hbut.size)⟩
        clear hbut hJ3
        gi_wp2
        go_wp2_with fail
        go_roundw
        case rel => exact ⟨k + 1, by omega, by go_num, HE3⟩
        case measure => simp [RowKit.intOf]; omega
      · gi_wp2
        go_wp2_with fail
        refine bodyPost_ret (results_none rfl _ _ _) rfl ?_
        exact ⟨⟨_, rfl⟩, .inr ⟨k + 1, ⟨by omega, by omega⟩, hJx3⟩⟩
    · obtain rfl : k = n := by omega
      go_wp2_with fail
      go_end0
      exact ⟨⟨_, rfl⟩, .inl ⟨_, rfl, HE.out.j⟩⟩
end Go.Proofs
namespace Go.Proofs
open Go Go.RowKit Sm Go.Lib Go.Maps Go.WideMaps
attribute [local go_sem] Oper.semAt_some
theorem Sm.wp_alive {P : Program} {c : Code} {Q : Exit → Act → World → Prop} {a : Act} {w : World} (h : c.wp P (fun e a w => (∀ ch, e ≠ .panic ch) ∧ Q e a w) a w) : c.wp P Q a w := wp_mono h (fun _ _ _ h => h.2)
theorem Sm.rdb_of {W : World} {base n c : Nat} {A : Option Addr} {l : List (BitVec 8)} (h : W.ownsRow base 5 1 (.slice A n c) n (l.map byteCell)) : Rd W W.heap.size A l := Sm.Rd.of_own h (Nat.le_refl _)
set_option maxRecDepth 100000 in
set_option maxHeartbeats 4000000 in
theorem Sm.is_any {B S : Nat → Prop} {p : Nat} {N : NM} {AL AD : Option Addr} {nL cL nD cD : Nat} {R : List MsgM} (w : World) (hn : Nt B w p N) (h : RfAt S w N AL nL cL AD nD cD R) :
    Calls Try.prog 29 #[.pointer (some ⟨p, 0, none⟩), refV N.s AL nL cL AD nD cD] w fun e w' => e = .returned (.bool true) ∧ Below w.heap.size w w' := by
  have hn0 := hn
  obtain ⟨Mb, base, A, cap, L, h1, h2, h3, h4, h5, h6⟩ := hn
  have hall := fun W (hb : Below w.heap.size w W) => all_at W (h1.keep hb)
  have hlen := fun W (hb : Below w.heap.size w W) => len_N (-1) (-1) W (hn0.keep hb)
  have hcame := fun W (hb : Below w.heap.size w W) => came_N W (hn0.keep hb)
  have hLR : L.length = nL := by rw [← h.len]; have e := h.map; rw [← h2] at e; have := congrArg List.length e; simpa using this.symm
  have hon : (onP (-1) (-1) N.P).length = nL := by rw [onP_all, List.length_range, ← h2, List.length_map, hLR]
  simp only [hon] at hlen
  have hkk : ∀ (k : Nat) (m : MsgM), L[k]? = some m → ∃ r, R[k]? = some r ∧ r.num = m.num ∧ r.src = m.src ∧ r.dst = m.dst ∧ r.bytes = m.bytes := fun k m hm => by
    have e : (R.map MsgM.d)[k]? = (L.map MsgM.d)[k]? := by rw [h.map, h2]
    rw [List.getElem?_map, List.getElem?_map, hm] at e
    obtain ⟨r, hr, e2⟩ := Option.map_eq_some_iff.1 e
    injection e2 with e3 e4
    injection e4 with e5 e6
    injection e6 with e7 e8
    exact ⟨r, hr, e3, e5, e7, e8⟩
  have hby := fun m hm => h1.byt m hm
  have hbl := fun m hm => (h1.msg m hm).2.2.2.2.2.2
  unfold refV
  obtain ⟨a1, ha1⟩ : ∃ a, N.s.ends = a := ⟨_, rfl⟩
  obtain ⟨a2, ha2⟩ : ∃ a, N.s.most = a := ⟨_, rfl⟩
  obtain ⟨a3, ha3⟩ : ∃ a, N.s.came = a := ⟨_, rfl⟩
  simp only [ha3] at hcame
  rw [ha1, ha2, ha3]
  obtain ⟨wA, hwA⟩ : ∃ V, ((w.alloc (.cells #[.int .i64 a1, .int .i64 a2, .int .i64 a3, .slice AL nL cL, .slice AD nD cD] 29)).alloc (.cells #[.bool false] 4)).alloc (.cells #[.int .i64 0] 3) = V := ⟨_, rfl⟩
  have hbA : Below w.heap.size w wA := by rw [← hwA]; exact (bel2 w _ _).alloc (bel2 w _ _).size _
  have hxA3 : wA.heap[w.heap.size]? = some (.cells #[.int .i64 a1, .int .i64 a2, .int .i64 a3, .slice AL nL cL, .slice AD nD cD] 29 (0, 0)) := by rw [← hwA]; exact old_alloc _ (old_alloc _ (new_alloc _ rfl))
  have hxA4 : wA.heap[w.heap.size + 1]? = some (.cells #[.bool false] 4 (0, 0)) := by rw [← hwA]; exact old_alloc _ (new_alloc _ (by simp))
  have hxA5 : wA.heap[w.heap.size + 2]? = some (.cells #[.int .i64 0] 3 (0, 0)) := by rw [← hwA]; exact new_alloc _ (by simp)
  have hsA : wA.heap.size = w.heap.size + 3 := by rw [← hwA]; simp
  have fA := frozen_of_heap hxA5 0
  have cA := cell_of_heap hxA5 0
  simp only [List.getElem?_toArray, List.getElem?_cons_zero] at cA
  obtain ⟨w1, hw1⟩ : ∃ V, wA.setCell ⟨w.heap.size + 2, 0, none⟩ (.int .i64 0) = V := ⟨_, rfl⟩
  have hbt : But (fun q => q = w.heap.size + 2) wA w1 := by rw [← hw1]; exact (But.refl _ _).set ⟨w.heap.size + 2, 0, none⟩ _ (.inl rfl)
  have hb1 : Below w.heap.size w w1 := hbA.trans (hbt.to_below hbA.size (fun b e => by omega))
  have hx3 := hbt.box hxA3 (by omega)
  have hx4 := hbt.box hxA4 (by omega)
  have hx5 : w1.heap[w.heap.size + 2]? = some (.cells #[.int .i64 0] 3 (0, 0)) := by rw [← hw1]; exact heap_setCells (i := 0) (u := .int .i64 0) hxA5
  have hs1 : w1.heap.size = w.heap.size + 3 := by rw [← hw1, ← hsA]; simp
  have hne : ∀ W q, (binOp BinOp.eql 46 (.func (.func 45) #[] #[.pointer (some ⟨q, 0, none⟩)]) Value.nilFunc).run Try.prog W = .ok (.bool false) W := fun W q => by first | rfl | kernel_rfl
  have HALL := Lib.hid hall
  have HLEN := Lib.hid hlen
  have HCAME := Lib.hid hcame
  have HH := Lib.hid h
  have HKK := Lib.hid hkk
  have HBY := Lib.hid hby
  have HBL := Lib.hid hbl
  have HLR := Lib.hid hLR
  have HL0 := Lib.hid (show L.length ≤ 4096 by have := h.few; omega)
  have HB := Lib.hid hb1
  have HX3 := Lib.hid hx3
  have HX4 := Lib.hid hx4
  have HX5 := Lib.hid hx5
  have HS1 := Lib.hid hs1
  have HBW : Hid (Below w1.heap.size w1 w1) := Lib.hid (Below.refl _ _)
  have hfI : (nL : Int) ≤ 4096 := by have := h.few; omega
  clear hbt hbA hxA3 hxA4 hxA5 hsA hall hlen hcame hkk hby hbl hLR hon hb1 hx3 hx4 hx5 hs1 hn0 h h1 h2 h3 h4 h5 h6 ha1 ha2 ha3
  refine (callsIn_wide (n := 3)).1 (callsIn_of_wp_marks Try.func29 rfl trivial ?_ rfl)
  refine wpIn_wide.2 ?_
  simp only [Try.ntmps29, List.size_toArray, List.length_cons, List.length_nil, Nat.reduceAdd, Nat.reduceSub, Array.replicate_succ, Array.replicate_zero, List.push_toArray, List.append_toArray, List.nil_append, List.cons_append]
  go_upto_region 2 with fail
  clear hw1 hwA fA cA
  go_upto_region 4 with (go_at_call 16; (with_reducible refine (HALL.out _ HB.out).mono ?_); rintro e w2 ⟨q1, A1, c1, rfl, hq1, hq2, hq3, hbb⟩; have HBW := Lib.hid hbb; clear hq1 hq2 hq3 hbb)
  go_wp2_with (go_at_call 16; (with_reducible refine (HALL.out _ (HB.out.trans (HBW.out.mono HB.out.size))).mono ?_); rintro e w3 ⟨q2, A2, c2, rfl, hq1, hq2, hq3, hbb⟩; have HB3 := Lib.hid (HBW.out.trans (hbb.mono HBW.out.size)); have HQ := Lib.hid (And.intro hq1 (And.intro hq2 hq3)); have HB23 := Lib.hid hbb; clear hq1 hq2 hq3 hbb)
  rename_i K hK
  refine (wpIn_wide (n := 3)).1 ?_
  have hb03 := HB.out.trans (HB3.out.mono HB.out.size)
  have hs3 : w.heap.size + 3 ≤ w3.heap.size := by have := HS1.out; have := HB3.out.size; omega
  have hz5 := (HB3.out.block _ (by have := HS1.out; omega)).trans HX5.out
  have hrl : Rds w3 (fun q => q = w.heap.size + 2) A2 (cellsM L) := own_rds HQ.out.2.2 (fun b e => by have := HBW.out.size; have := HS1.out; omega)
  have hbyt : ∀ m ∈ L, Rds w3 (fun q => q = w.heap.size + 2) m.A (m.bytes.map byteCell) ∧ m.bytes.length ≤ 8192 := fun m hm => ⟨Rds.but (Sm.Rds.less (S' := fun q => q = w.heap.size + 2) (own_rds (S := fun _ => False) (HBY.out m hm) (fun _ e => e.elim)) (fun b hb e => by omega)) (But.of_all hb03 (fun _ => False)) (fun _ e => e.elim), HBL.out m hm⟩
  refine wpIn_range (gf := 45) (lb := #[.pointer (some ⟨q2, 0, none⟩)]) rfl (enters_of Try.func45 (by kernel_rfl) rfl)
    (all_seq w3 (fun q => q = w.heap.size + 2) HQ.out.2.1 rfl HL0.out hrl hbyt) (fun q e => by omega) ?hH ?hrow ?hps
    (fun k W => k ≤ nL ∧ W.heap[w.heap.size + 2]? = some (.cells #[.int .i64 (k : Int)] 3 (0, 0)) ∧ But (fun q => q = w.heap.size + 2) w3 W) (fun _ _ _ => False) ?hI (fun _ _ _ _ h _ => h) ⟨Nat.zero_le _, hz5, But.refl _ _⟩
    (fun args a' W => ∃ (t : Nat) (C : Array Value), args = #[.agg C] ∧ w3.heap.size + 2 ≤ t ∧ W.heap[t]? = some (.cells C 41 (0, 0)) ∧ a' = { tmps := #[.pointer (some ⟨p, 0, none⟩), .agg #[.int .i64 a1, .int .i64 a2, .int .i64 a3, .slice AL nL cL, .slice AD nD cD], undef, .pointer (some ⟨w.heap.size, 0, none⟩), .pointer (some ⟨w.heap.size + 1, 0, none⟩), .pointer (some ⟨w.heap.size + 2, 0, none⟩), .pointer (some ⟨t, 0, none⟩), .pointer (some ⟨p, 0, none⟩), .func (.func 45) #[] #[.pointer (some ⟨q1, 0, none⟩)], .bool false, .pointer (some ⟨p, 0, none⟩), .func (.func 45) #[] #[.pointer (some ⟨q2, 0, none⟩)], .agg C, undef, undef, undef, undef, undef, undef, undef, undef, undef, undef, undef, undef, undef, undef, undef, undef, undef, undef, undef, undef, undef, undef, undef, undef, undef, undef, undef, undef, undef, undef, undef, undef, undef, undef, undef], defers := [] }) ?hAx ?assign ?body ?done (fun _ _ _ _ h _ => h.elim)
  case hH =>
    rintro k args W W' ⟨m, A', c', g1, g2, g3⟩ hb
    exact ⟨m, A', c', g1, g2, hb.row g3 (fun g e e2 => by have := (g3.lt g e).1; omega)⟩
  case hrow => exact fun k args W b hh e => rowP_lo hh e
  case hps =>
    rintro k args W ⟨m, A', c', _, rfl, _⟩
    rfl
  case hI => exact fun k W W' ⟨i0, i1, i2⟩ hb => ⟨i0, (hb.block _ (by omega)).trans i1, i2.trans (But.of_below hb) (fun b hb' e => absurd hb' (Nat.not_lt.2 e))⟩
  case hAx =>
    rintro args a' W W' ⟨t, C, g1, g2, g3, g4⟩ hb
    exact ⟨t, C, g1, g2, hb.box g3 (by omega), g4⟩
  case assign =>
    rintro l0 k args W K2 hsz hi ⟨m, A', c', _, rfl, _⟩ hK2
    gi_wp2
    exact hK2 _ _ ((Below.refl _ _).alloc (Nat.le_refl _) _) ⟨W.heap.size, _, rfl, hsz, World.alloc_heap_new _ _, by simp⟩
  case body =>
    rintro l0 k args a' W hsz ⟨i0, i1, i2⟩ ⟨m, A', c', hm, rfl, hrow⟩ ⟨t, C, hC, ht, hxt, rfl⟩
    obtain rfl : #[.int .i64 m.num, .int .i64 m.src, .int .i64 m.dst, .slice A' m.bytes.length c'] = C := by
      injection hC with hC
      injection hC with hC _
      injection hC with hC
    have hkl : k < L.length := (List.getElem?_eq_some_iff.1 hm).1
    rw [HLR.out] at hkl
    obtain ⟨r, hr, e1, e2, e3, e4⟩ := HKK.out k m hm
    have hbw : Below w.heap.size w W := hb03.trans (i2.to_below hb03.size (fun b e => by omega))
    obtain ⟨b, off, hAL, hbl, _, hcl⟩ := (HH.out.keep hbw).row (by rw [cellsM_len, HH.out.len]; omega)
    subst hAL
    have hc := cellsM_at R k r hr
    have q0 := hcl (k * 4) _ hc.1
    have q1' := hcl (k * 4 + 1) _ hc.2.1
    have q2' := hcl (k * 4 + 2) _ hc.2.2.1
    have q3 := hcl (k * 4 + 3) _ hc.2.2.2
    unfold MsgM.sl at q3
    rw [← Nat.add_assoc] at q1' q2' q3
    have HRX : Hid (∀ Wx, Below W.heap.size W Wx → Wx.cell? ⟨b, off + k * 4, none⟩ = some (.int .i64 r.num) ∧ Wx.cell? ⟨b, off + k * 4 + 1, none⟩ = some (.int .i64 r.src) ∧ Wx.cell? ⟨b, off + k * 4 + 2, none⟩ = some (.int .i64 r.dst) ∧ Wx.cell? ⟨b, off + k * 4 + 3, none⟩ = some (.slice r.A r.bytes.length r.c)) := Lib.hid fun Wx hb =>
      ⟨(hb.cell (p := ⟨b, off + k * 4, none⟩) hbl).trans q0, (hb.cell (p := ⟨b, off + k * 4 + 1, none⟩) hbl).trans q1', (hb.cell (p := ⟨b, off + k * 4 + 2, none⟩) hbl).trans q2', (hb.cell (p := ⟨b, off + k * 4 + 3, none⟩) hbl).trans q3⟩
    have hx3 := (hbw.trans (Below.refl _ _ |>.mono (Nat.le_refl _)) |> fun _ => i2.box ((HB3.out.block _ (by have := HS1.out; omega)).trans HX3.out) (by omega))
    have hlt3 := (Array.getElem?_eq_some_iff.1 hx3).1
    have hlt5 := (Array.getElem?_eq_some_iff.1 i1).1
    have hltt := (Array.getElem?_eq_some_iff.1 hxt).1
    have HBX : Hid (∀ Wx, Below W.heap.size W Wx → Wx.cell? ⟨w.heap.size, 0, none⟩ = some (.int .i64 a1) ∧ Wx.cell? ⟨w.heap.size, 1, none⟩ = some (.int .i64 a2) ∧ Wx.cell? ⟨w.heap.size, 2, none⟩ = some (.int .i64 a3) ∧ Wx.cell? ⟨w.heap.size, 3, none⟩ = some (.slice (some ⟨b, off, none⟩) nL cL) ∧ Wx.cell? ⟨w.heap.size, 4, none⟩ = some (.slice AD nD cD)) := Lib.hid fun Wx hb => (five_cells ((hb.block _ hlt3).trans hx3)).1
    have HKX : Hid (∀ Wx, Below W.heap.size W Wx → Wx.cell? ⟨w.heap.size + 2, 0, none⟩ = some (.int .i64 (k : Int))) := Lib.hid fun Wx hb => by
      have := cell_of_heap ((hb.block _ hlt5).trans i1) 0
      simpa using this
    have HPX : Hid (∀ Wx, Below W.heap.size W Wx → Wx.cell? ⟨t, 0, none⟩ = some (.int .i64 m.num) ∧ Wx.cell? ⟨t, 1, none⟩ = some (.int .i64 m.src) ∧ Wx.cell? ⟨t, 2, none⟩ = some (.int .i64 m.dst) ∧ Wx.cell? ⟨t, 3, none⟩ = some (.slice A' m.bytes.length c')) := Lib.hid fun Wx hb => (four_cells ((hb.block _ hltt).trans hxt)).1
    have hrb := (HH.out.keep hbw).byt r (List.mem_of_getElem? hr)
    have H28 : Hid (∀ Wx, Below W.heap.size W Wx → Calls Try.prog 28 #[.agg #[.int .i64 m.num, .int .i64 m.src, .int .i64 m.dst, .slice A' m.bytes.length c'], .agg #[.int .i64 r.num, .int .i64 r.src, .int .i64 r.dst, .slice r.A r.bytes.length r.c]] Wx fun e w' => e = .returned (.bool true) ∧ Below Wx.heap.size Wx w') := Lib.hid fun Wx hb => by
      have h9 := sameP_any m.num m.src m.dst r.num r.src r.dst m.bytes r.bytes A' r.A m.bytes.length c' r.bytes.length r.c Wx rfl rfl (rdb_of (own_below hrow hb)) (hrb.but (But.of_all hb (fun _ => False)) (fun _ e => e.elim)).rd
      rw [decide_eq_true (show m.num = r.num ∧ m.src = r.src ∧ m.dst = r.dst ∧ m.bytes = r.bytes from ⟨e1.symm, e2.symm, e3.symm, e4.symm⟩)] at h9
      exact h9
    have HI1 := Lib.hid i1
    have HI2 := Lib.hid i2
    have hkI : (k : Int) < (nL : Int) := by omega
    have hpw : p < 0 ∨ True := .inr trivial
    clear hrow hrb hx3 hxt i1 i2 q0 q1' q2' q3 hcl hc hr e1 e2 e3 e4 hm hbw hpw hC
    dsimp only
    gi_wp2
    have hS0 : (fun Wx => Below W.heap.size W Wx) W.drew := (Below.refl _ _).drew
    refine wpIn_region_heldI (S := fun Wx => Below W.heap.size W Wx) (by kernel_rfl) hS0 fun hHeld => ?_
    simp only [List.size_toArray, List.length_cons, List.length_nil, Nat.reduceAdd, Array.replicate_succ, Array.replicate_zero, List.push_toArray, List.nil_append, List.cons_append]
    refine wpAnyHI_take (i := 0) (v := .int .i64 (k : Int)) (fun _ => trivial) rfl (by kernel_rfl) (by kernel_rfl) (by kernel_rfl) (by kernel_rfl) (fun _ _ _ h => h) (Or.inl ⟨by rfl, ?_⟩) (by assumption) ?_
    · intro wx hs1; have kk := HKX.out wx hs1; go_simp
    try simp only [Act.put, List.setIfInBounds_toArray, List.set_cons_zero, List.set_cons_succ, List.getElem_toArray, List.getElem_cons_zero]
    refine wpAnyHI_take (i := 1) (v := .pointer (some ⟨w.heap.size, 3, none⟩)) (fun _ => trivial) rfl (by kernel_rfl) (by kernel_rfl) (by kernel_rfl) (by kernel_rfl) (fun _ _ _ h => h) (Or.inl ⟨by rfl, ?_⟩) (by assumption) ?_
    · intro wx hs1; go_simp
    try simp only [Act.put, List.setIfInBounds_toArray, List.set_cons_zero, List.set_cons_succ, List.getElem_toArray, List.getElem_cons_succ, List.getElem_cons_zero]
    refine wpAnyHI_take (i := 2) (v := .slice (some ⟨b, off, none⟩) nL cL) (fun _ => trivial) rfl (by kernel_rfl) (by kernel_rfl) (by kernel_rfl) (by kernel_rfl) (fun _ _ _ h => h) (Or.inl ⟨by rfl, ?_⟩) (by assumption) ?_
    · intro wx hs1; obtain ⟨k0, k1, k2, k3, k4⟩ := HBX.out wx hs1; go_simp
    try simp only [Act.put, List.setIfInBounds_toArray, List.set_cons_zero, List.set_cons_succ, List.getElem_toArray, List.getElem_cons_succ, List.getElem_cons_zero]
    refine wpAnyHI_take (i := 3) (v := .int .i64 (nL : Int)) (fun _ => trivial) rfl (by kernel_rfl) (by kernel_rfl) (by kernel_rfl) (by kernel_rfl) (fun _ _ _ h => h) (Or.inl ⟨by rfl, ?_⟩) (by assumption) ?_
    · intro wx hs1; go_simp
    try simp only [Act.put, List.setIfInBounds_toArray, List.set_cons_zero, List.set_cons_succ, List.getElem_toArray, List.getElem_cons_succ, List.getElem_cons_zero]
    refine wpAnyHI_take (i := 4) (v := .bool false) (fun _ => trivial) rfl (by kernel_rfl) (by kernel_rfl) (by kernel_rfl) (by kernel_rfl) (fun _ _ _ h => h) (Or.inl ⟨by rfl, ?_⟩) (by assumption) ?_
    · intro wx hs1; go_simp
    try simp only [Act.put, List.setIfInBounds_toArray, List.set_cons_zero, List.set_cons_succ, List.getElem_toArray, List.getElem_cons_succ, List.getElem_cons_zero]
    refine wpAnyHI_take (i := 5) (v := .bool false) (fun _ => trivial) rfl (by kernel_rfl) (by kernel_rfl) (by kernel_rfl) (by kernel_rfl) (fun _ _ _ h => h) (Or.inl ⟨by rfl, ?_⟩) (by assumption) ?_
    · intro wx hs1; go_simp
    try simp only [Act.put, List.setIfInBounds_toArray, List.set_cons_zero, List.set_cons_succ, List.getElem_toArray, List.getElem_cons_succ, List.getElem_cons_zero]
    refine wpAnyHI_take (i := 6) (v := .agg #[.int .i64 m.num, .int .i64 m.src, .int .i64 m.dst, .slice A' m.bytes.length c']) (fun _ => trivial) rfl (by kernel_rfl) (by kernel_rfl) (by kernel_rfl) (by kernel_rfl) (fun _ _ _ h => h) (Or.inl ⟨by rfl, ?_⟩) (by assumption) ?_
    · intro wx hs1; obtain ⟨k0, k1, k2, k3⟩ := HPX.out wx hs1; go_simp
    try simp only [Act.put, List.setIfInBounds_toArray, List.set_cons_zero, List.set_cons_succ, List.getElem_toArray, List.getElem_cons_succ, List.getElem_cons_zero]
    refine wpAnyHI_take (i := 7) (v := .pointer (some ⟨w.heap.size, 3, none⟩)) (fun _ => trivial) rfl (by kernel_rfl) (by kernel_rfl) (by kernel_rfl) (by kernel_rfl) (fun _ _ _ h => h) (Or.inl ⟨by rfl, ?_⟩) (by assumption) ?_
    · intro wx hs1; go_simp
    try simp only [Act.put, List.setIfInBounds_toArray, List.set_cons_zero, List.set_cons_succ, List.getElem_toArray, List.getElem_cons_succ, List.getElem_cons_zero]
    refine wpAnyHI_take (i := 8) (v := .slice (some ⟨b, off, none⟩) nL cL) (fun _ => trivial) rfl (by kernel_rfl) (by kernel_rfl) (by kernel_rfl) (by kernel_rfl) (fun _ _ _ h => h) (Or.inl ⟨by rfl, ?_⟩) (by assumption) ?_
    · intro wx hs1; obtain ⟨k0, k1, k2, k3, k4⟩ := HBX.out wx hs1; go_simp
    try simp only [Act.put, List.setIfInBounds_toArray, List.set_cons_zero, List.set_cons_succ, List.getElem_toArray, List.getElem_cons_succ, List.getElem_cons_zero]
    refine wpAnyHI_take (i := 9) (v := .int .i64 (k : Int)) (fun _ => trivial) rfl (by kernel_rfl) (by kernel_rfl) (by kernel_rfl) (by kernel_rfl) (fun _ _ _ h => h) (Or.inl ⟨by rfl, ?_⟩) (by assumption) ?_
    · intro wx hs1; have kk := HKX.out wx hs1; go_simp
    try simp only [Act.put, List.setIfInBounds_toArray, List.set_cons_zero, List.set_cons_succ, List.getElem_toArray, List.getElem_cons_succ, List.getElem_cons_zero]
    refine wpAnyHI_take (i := 10) (v := .pointer (some ⟨b, off + k * 4, none⟩)) (fun _ => trivial) rfl (by kernel_rfl) (by kernel_rfl) (by kernel_rfl) (by kernel_rfl) (fun _ _ _ h => h) (Or.inl ⟨by rfl, ?_⟩) (by assumption) ?_
    · intro wx hs1; go_simp
    try simp only [Act.put, List.setIfInBounds_toArray, List.set_cons_zero, List.set_cons_succ, List.getElem_toArray, List.getElem_cons_succ, List.getElem_cons_zero]
    refine wpAnyHI_take (i := 11) (v := .agg #[.int .i64 r.num, .int .i64 r.src, .int .i64 r.dst, .slice r.A r.bytes.length r.c]) (fun _ => trivial) rfl (by kernel_rfl) (by kernel_rfl) (by kernel_rfl) (by kernel_rfl) (fun _ _ _ h => h) (Or.inl ⟨by rfl, ?_⟩) (by assumption) ?_
    · intro wx hs1; obtain ⟨k0, k1, k2, k3⟩ := HRX.out wx hs1; go_simp
    try simp only [Act.put, List.setIfInBounds_toArray, List.set_cons_zero, List.set_cons_succ, List.getElem_toArray, List.getElem_cons_succ, List.getElem_cons_zero]
    refine wpAnyHI_one (i := 12) (by kernel_rfl) rfl (by rfl) fun K hK => ?_
    refine ⟨fun _ _ => trivial, ?_⟩
    go_simp
    refine (CallsIn.inRound l0 (callsIn_wide.2 (H28.out _ hHeld))).mono ?_
    rintro e W4 ⟨rfl, hb4⟩
    have hb14 : Below W.heap.size W W4 := hS0.trans (hb4.mono hS0.size)
    refine hK.out _ _ hb14 (fun _ => ?_)
    clear hK K
    try simp only [List.setIfInBounds_toArray, List.set_cons_zero, List.set_cons_succ]
    refine wpAnyHI_take (i := 13) (v := .bool false) (fun _ => trivial) rfl (by kernel_rfl) (by kernel_rfl) (by kernel_rfl) (by kernel_rfl) (fun _ _ _ h => h) (Or.inl ⟨by rfl, ?_⟩) (by assumption) ?_
    · intro wx hs1; go_simp
    try simp only [Act.put, List.setIfInBounds_toArray, List.set_cons_zero, List.set_cons_succ, List.getElem_toArray, List.getElem_cons_succ, List.getElem_cons_zero]
    refine wpAnyHI_take (i := 14) (v := .bool false) (fun _ => trivial) rfl (by kernel_rfl) (by kernel_rfl) (by kernel_rfl) (by kernel_rfl) (fun _ _ _ h => h) (Or.inl ⟨by rfl, ?_⟩) (by assumption) ?_
    · intro wx hs1; go_simp
    try simp only [Act.put, List.setIfInBounds_toArray, List.set_cons_zero, List.set_cons_succ, List.getElem_toArray, List.getElem_cons_succ, List.getElem_cons_zero]
    refine wpAnyHI_done (by kernel_rfl) ?_ _
    have hx5 := (hb14.block _ hlt5).trans HI1.out
    have j0 := cell_of_heap hx5 0
    have f0 := frozen_of_heap hx5 0
    simp only [List.getElem?_toArray, List.getElem?_cons_zero] at j0
    have hbx := heap_setCells (i := 0) (u := .int .i64 ((k : Int) + 1)) hx5
    have hbq : But (fun q => q = w.heap.size + 2) W4 (W4.setCell ⟨w.heap.size + 2, 0, none⟩ (.int .i64 ((k : Int) + 1))) := (But.refl _ _).set ⟨w.heap.size + 2, 0, none⟩ _ (.inl rfl)
    have HBq := Lib.hid ((But.of_all hb14 (fun q => q = w.heap.size + 2)).trans hbq (fun _ _ e => e))
    have HBx := Lib.hid hbx
    have hw9 : IntKind.i64.wrap ((k : Int) + 1) = (k : Int) + 1 := by rw [IntKind.wrap_i64]; omega
    clear hbx hbq hx5 hb14 hS0
    gi_wp2
    exact ⟨trivial, HBq.out.mono (fun b _ e => .inl e), by omega, by rw [show ((k + 1 : Nat) : Int) = (k : Int) + 1 by omega]; exact HBx.out, HI2.out.trans HBq.out (fun _ _ e => e)⟩
  case done =>
    rintro k W hk ⟨_, i1, i2⟩ hD
    have hk2 : k = nL := hk.trans HLR.out
    rw [hk2] at i1
    have hbw : Below w.heap.size w W := hb03.trans (i2.to_below hb03.size (fun b e => by omega))
    have hx3 := i2.box ((HB3.out.block _ (by have := HS1.out; omega)).trans HX3.out) (by omega)
    have hx4 := i2.box ((HB3.out.block _ (by have := HS1.out; omega)).trans HX4.out) (by omega)
    have hlt4 := (Array.getElem?_eq_some_iff.1 hx4).1
    have HBX : Hid (∀ Wx, But (fun q => q = w.heap.size + 1) W Wx → Wx.cell? ⟨w.heap.size, 0, none⟩ = some (.int .i64 a1) ∧ Wx.cell? ⟨w.heap.size, 1, none⟩ = some (.int .i64 a2) ∧ Wx.cell? ⟨w.heap.size, 2, none⟩ = some (.int .i64 a3) ∧ Wx.cell? ⟨w.heap.size, 3, none⟩ = some (.slice AL nL cL) ∧ Wx.cell? ⟨w.heap.size, 4, none⟩ = some (.slice AD nD cD)) := Lib.hid fun Wx hb => (five_cells (hb.box hx3 (by omega))).1
    have HKX : Hid (∀ Wx, But (fun q => q = w.heap.size + 1) W Wx → Wx.cell? ⟨w.heap.size + 2, 0, none⟩ = some (.int .i64 (nL : Int))) := Lib.hid fun Wx hb => by
      have := cell_of_heap (hb.box i1 (by omega)) 0
      simpa using this
    have HT4 : Hid (∀ Wx, Below W.heap.size W Wx → Wx.heap[w.heap.size + 1]? = some (.cells #[.bool false] 4 (0, 0))) := Lib.hid fun Wx hb => (hb.block _ hlt4).trans hx4
    have HBw := Lib.hid hbw
    have HD := Lib.hid hD
    have HS3 := Lib.hid hs3
    clear i1 i2 hD hbw hx3 hx4 hlt4 hk2 hk hrl hbyt hz5 hb03
    refine hK _ _ ?_
    clear hK
    go_upto_region 9 with fail
    refine wp_alive ?_
    have hS0 : (fun Wx => But (fun q => q = w.heap.size + 1) W Wx) W.drew := (But.refl _ _).drew
    refine wp_region_held_drew (S := fun Wx => But (fun q => q = w.heap.size + 1) W Wx) rfl hS0 (fun hHeld => ?_)
    simp only [List.size_toArray, List.length_cons, List.length_nil, Nat.reduceAdd]
    have HB0 : Hid (Below W.heap.size W W.drew) := Lib.hid (Below.refl _ _).drew
    obtain ⟨V0, hV0⟩ : ∃ V, W.drew = V := ⟨_, rfl⟩
    rw [hV0] at hHeld hS0 HB0 ⊢
    clear hV0
    refine wpAnyH_take (i := 0) (v := .int .i64 (nL : Int)) rfl (by kernel_rfl) (by kernel_rfl) (by kernel_rfl) (fun _ _ _ h => (h.1 _ rfl).elim) (Or.inl ⟨by rfl, ?_⟩) (by assumption) ?_
    · intro wx hs1; have kk := HKX.out wx hs1; go_simp
    (try simp only [Act.put, List.getElem_toArray, List.getElem_cons_zero, List.setIfInBounds_toArray, List.set_cons_zero, List.set_cons_succ])
    refine wpAnyH_take (i := 1) (v := .pointer (some ⟨w.heap.size, 3, none⟩)) rfl (by kernel_rfl) (by kernel_rfl) (by kernel_rfl) (fun _ _ _ h => (h.1 _ rfl).elim) (Or.inl ⟨by rfl, ?_⟩) (by assumption) ?_
    · intro wx hs1; go_simp
    (try simp only [Act.put, List.getElem_toArray, List.getElem_cons_succ, List.getElem_cons_zero, List.setIfInBounds_toArray, List.set_cons_zero, List.set_cons_succ])
    refine wpAnyH_take (i := 2) (v := .slice AL nL cL) rfl (by kernel_rfl) (by kernel_rfl) (by kernel_rfl) (fun _ _ _ h => (h.1 _ rfl).elim) (Or.inl ⟨by rfl, ?_⟩) (by assumption) ?_
    · intro wx hs1; obtain ⟨k0, k1, k2, k3, k4⟩ := HBX.out wx hs1; go_simp
    (try simp only [Act.put, List.getElem_toArray, List.getElem_cons_succ, List.getElem_cons_zero, List.setIfInBounds_toArray, List.set_cons_zero, List.set_cons_succ])
    refine wpAnyH_take (i := 3) (v := .int .i64 (nL : Int)) rfl (by kernel_rfl) (by kernel_rfl) (by kernel_rfl) (fun _ _ _ h => (h.1 _ rfl).elim) (Or.inl ⟨by rfl, ?_⟩) (by assumption) ?_
    · intro wx hs1; go_simp
    (try simp only [Act.put, List.getElem_toArray, List.getElem_cons_succ, List.getElem_cons_zero, List.setIfInBounds_toArray, List.set_cons_zero, List.set_cons_succ])
    refine wpAnyH_take (i := 4) (v := .bool true) rfl (by kernel_rfl) (by kernel_rfl) (by kernel_rfl) (fun _ _ _ h => (h.1 _ rfl).elim) (Or.inl ⟨by rfl, ?_⟩) (by assumption) ?_
    · intro wx hs1; go_simp
    (try simp only [Act.put, List.getElem_toArray, List.getElem_cons_succ, List.getElem_cons_zero, List.setIfInBounds_toArray, List.set_cons_zero, List.set_cons_succ])
    refine wpAnyH_take (i := 5) (v := .bool true) rfl (by kernel_rfl) (by kernel_rfl) (by kernel_rfl) (fun _ _ _ h => (h.1 _ rfl).elim) (Or.inl ⟨by rfl, ?_⟩) (by assumption) ?_
    · intro wx hs1; go_simp
    (try simp only [Act.put, List.getElem_toArray, List.getElem_cons_succ, List.getElem_cons_zero, List.setIfInBounds_toArray, List.set_cons_zero, List.set_cons_succ])
    refine wpAnyH_take (i := 6) (v := .pointer (some ⟨p, 0, none⟩)) rfl (by kernel_rfl) (by kernel_rfl) (by kernel_rfl) (fun _ _ _ h => (h.1 _ rfl).elim) (Or.inl ⟨by rfl, ?_⟩) (by assumption) ?_
    · intro wx hs1; go_simp
    (try simp only [Act.put, List.getElem_toArray, List.getElem_cons_succ, List.getElem_cons_zero, List.setIfInBounds_toArray, List.set_cons_zero, List.set_cons_succ])
    refine wpAnyH_take (i := 8) (v := .int .i64 (nL : Int)) rfl (by kernel_rfl) (by kernel_rfl) (by kernel_rfl) (fun _ _ _ h => (h.1 _ rfl).elim) (Or.inl ⟨by rfl, ?_⟩) (by assumption) ?_
    · intro wx hs1; have kk := HKX.out wx hs1; go_simp
    (try simp only [Act.put, List.getElem_toArray, List.getElem_cons_succ, List.getElem_cons_zero, List.setIfInBounds_toArray, List.set_cons_zero, List.set_cons_succ])
    refine wpAnyH_ready (rs := [7]) (by kernel_rfl) (by simp) (AllReadyH.cons rfl (fun K hK => ?_) AllReadyH.nil)
    go_simp
    go_at_call 20
    (with_reducible refine (HLEN.out _ (HBw.out.trans (HB0.out.mono HBw.out.size))).mono ?_)
    rintro e w5 ⟨rfl, hb⟩
    try dsimp only
    have HB1 : Hid (Below W.heap.size W w5) := Lib.hid (HB0.out.trans (hb.mono HB0.out.size)); clear hb; have hS := But.of_all HB1.out (fun q => q = w.heap.size + 1)
    refine hK.out _ _ hS (fun _ => ?_)
    clear hK K
    (try simp only [Act.put, List.getElem_toArray, List.getElem_cons_succ, List.getElem_cons_zero, List.setIfInBounds_toArray, List.set_cons_zero, List.set_cons_succ])
    refine wpAnyH_take (i := 9) (v := .bool true) rfl (by kernel_rfl) (by kernel_rfl) (by kernel_rfl) (fun _ _ _ h => (h.1 _ rfl).elim) (Or.inl ⟨by rfl, ?_⟩) (by assumption) ?_
    · intro wx hs1; go_simp
    (try simp only [Act.put, List.getElem_toArray, List.getElem_cons_succ, List.getElem_cons_zero, List.setIfInBounds_toArray, List.set_cons_zero, List.set_cons_succ])
    refine wpAnyH_take (i := 10) (v := .bool true) rfl (by kernel_rfl) (by kernel_rfl) (by kernel_rfl) (fun _ _ _ h => (h.1 _ rfl).elim) (Or.inl ⟨by rfl, ?_⟩) (by assumption) ?_
    · intro wx hs1; go_simp
    (try simp only [Act.put, List.getElem_toArray, List.getElem_cons_succ, List.getElem_cons_zero, List.setIfInBounds_toArray, List.set_cons_zero, List.set_cons_succ])
    refine wpAnyH_take (i := 11) (v := .bool true) rfl (by kernel_rfl) (by kernel_rfl) (by kernel_rfl) (fun _ _ _ h => (h.1 _ rfl).elim) (Or.inl ⟨by rfl, ?_⟩) (by assumption) ?_
    · intro wx hs1; go_simp
    (try simp only [Act.put, List.getElem_toArray, List.getElem_cons_succ, List.getElem_cons_zero, List.setIfInBounds_toArray, List.set_cons_zero, List.set_cons_succ])
    refine wpAnyH_take (i := 12) (v := .pointer (some ⟨p, 0, none⟩)) rfl (by kernel_rfl) (by kernel_rfl) (by kernel_rfl) (fun _ _ _ h => (h.1 _ rfl).elim) (Or.inl ⟨by rfl, ?_⟩) (by assumption) ?_
    · intro wx hs1; go_simp
    (try simp only [Act.put, List.getElem_toArray, List.getElem_cons_succ, List.getElem_cons_zero, List.setIfInBounds_toArray, List.set_cons_zero, List.set_cons_succ])
    refine wpAnyH_take (i := 14) (v := .pointer (some ⟨w.heap.size, 2, none⟩)) rfl (by kernel_rfl) (by kernel_rfl) (by kernel_rfl) (fun _ _ _ h => (h.1 _ rfl).elim) (Or.inl ⟨by rfl, ?_⟩) (by assumption) ?_
    · intro wx hs1; go_simp
    (try simp only [Act.put, List.getElem_toArray, List.getElem_cons_succ, List.getElem_cons_zero, List.setIfInBounds_toArray, List.set_cons_zero, List.set_cons_succ])
    refine wpAnyH_take (i := 15) (v := .int .i64 a3) rfl (by kernel_rfl) (by kernel_rfl) (by kernel_rfl) (fun _ _ _ h => (h.1 _ rfl).elim) (Or.inl ⟨by rfl, ?_⟩) (by assumption) ?_
    · intro wx hs1; obtain ⟨k0, k1, k2, k3, k4⟩ := HBX.out wx hs1; go_simp
    (try simp only [Act.put, List.getElem_toArray, List.getElem_cons_succ, List.getElem_cons_zero, List.setIfInBounds_toArray, List.set_cons_zero, List.set_cons_succ])
    refine wpAnyH_ready (rs := [13]) (by kernel_rfl) (by simp) (AllReadyH.cons rfl (fun K hK => ?_) AllReadyH.nil)
    go_simp
    go_at_call 21
    (with_reducible refine (HCAME.out _ (HBw.out.trans (HB1.out.mono HBw.out.size))).mono ?_)
    rintro e w6 ⟨rfl, rfl⟩
    try dsimp only
    have hS := But.of_all HB1.out (fun q => q = w.heap.size + 1)
    refine hK.out _ _ hS (fun _ => ?_)
    clear hK K
    (try simp only [Act.put, List.getElem_toArray, List.getElem_cons_succ, List.getElem_cons_zero, List.setIfInBounds_toArray, List.set_cons_zero, List.set_cons_succ])
    refine wpAnyH_take (i := 16) (v := .bool true) rfl (by kernel_rfl) (by kernel_rfl) (by kernel_rfl) (fun _ _ _ h => (h.1 _ rfl).elim) (Or.inl ⟨by rfl, ?_⟩) (by assumption) ?_
    · intro wx hs1; go_simp
    (try simp only [Act.put, List.getElem_toArray, List.getElem_cons_succ, List.getElem_cons_zero, List.setIfInBounds_toArray, List.set_cons_zero, List.set_cons_succ])
    refine wpAnyH_take (i := 17) (v := .bool true) rfl (by kernel_rfl) (by kernel_rfl) (by kernel_rfl) (fun _ _ _ h => (h.1 _ rfl).elim) (Or.inl ⟨by rfl, ?_⟩) (by assumption) ?_
    · intro wx hs1; go_simp
    (try simp only [Act.put, List.getElem_toArray, List.getElem_cons_succ, List.getElem_cons_zero, List.setIfInBounds_toArray, List.set_cons_zero, List.set_cons_succ])
    have j0 := cell_of_heap (HT4.out w5 HB1.out) 0
    simp only [List.getElem?_toArray, List.getElem?_cons_zero] at j0
    have g0 := frozen_of_heap (HT4.out w5 HB1.out) 0
    refine wpAnyH_ready (rs := [18]) (by kernel_rfl) (by simp) (AllReadyH.cons rfl (fun K hK => ?_) AllReadyH.nil)
    go_simp
    try dsimp only
    have hz := heap_setCells (i := 0) (u := .bool true) (HT4.out w5 HB1.out)
    have hbq : But (fun q => q = w.heap.size + 1) w5 (w5.setCell ⟨w.heap.size + 1, 0, none⟩ (.bool true)) := (But.refl _ _).set ⟨w.heap.size + 1, 0, none⟩ _ (.inl rfl)
    obtain ⟨W9, hW9⟩ : ∃ W9, w5.setCell ⟨w.heap.size + 1, 0, none⟩ (.bool true) = W9 := ⟨_, rfl⟩
    rw [hW9] at hz hbq ⊢
    clear hW9 j0 g0
    have hS := (But.of_all HB1.out (fun q => q = w.heap.size + 1)).trans hbq (fun _ _ e => e)
    refine hK.out _ _ hS (fun _ => ?_)
    clear hK K
    (try simp only [Act.put, List.getElem_toArray, List.getElem_cons_succ, List.getElem_cons_zero, List.setIfInBounds_toArray, List.set_cons_zero, List.set_cons_succ])
    refine wpAnyH_done (by kernel_rfl) ⟨(fun _ h => by cases h), ?_⟩ _
    have hz2 := But.box (put_but W9 w3.heap.size (.deferred none)) hz (by omega)
    have z0 := cell_of_heap hz2 0
    simp only [List.getElem?_toArray, List.getElem?_cons_zero, List.setIfInBounds_toArray, List.set_cons_zero] at z0
    have hDf := But.box ((But.of_all HB1.out (fun q => q = w.heap.size + 1)).trans hbq (fun _ _ e => e)) HD.out (by omega)
    have hb1w := HBw.out.trans (HB1.out.mono HBw.out.size)
    have hb9 := hb1w.trans (hbq.to_below hb1w.size (fun b e => by omega))
    go_wp2
    refine retM1 (D := w3.heap.size) (v := .bool true) rfl hDf ?_ ⟨rfl, But.below hb9 (put_but _ _ _) (fun b e => by omega)⟩
    simp [results, Try.results29, go_sem, z0]
end Go.Proofs
namespace Go.Proofs
open Go Go.RowKit Sm Go.Lib Go.Maps Go.WideMaps
/-- a net behind a call -/
def Sm.stepA (N : NM) (what x y pick : Int) (l : List (BitVec 8)) (is : Bool) : NM :=
  if what = 0 then (putN N x y l).1 else if what = 1 then N else if what = 2 then (takeN N x y pick).1 else if what = 3 then (dropN N x y pick).1 else (downN N x y is).1
theorem Sm.takeN_s (N : NM) (x y pick : Int) : (takeN N x y pick).1.s = N.s := by
  unfold takeN
  split <;> rfl
theorem Sm.dropN_s (N : NM) (x y pick : Int) : (dropN N x y pick).1.s = N.s := by
  unfold dropN
  split <;> rfl
theorem Sm.downN_s (N : NM) (x y : Int) (is : Bool) : (downN N x y is).1.s = N.s := by
  unfold downN
  split <;> rfl
theorem Sm.act_any {B S : Nat → Prop} {p : Nat} {N : NM} {AL AD : Option Addr} {nL cL nD cD : Nat} {R : List MsgM} (what x y pick : Int) (Ax : Option Addr) (nx cx : Nat) (is : Bool) (w : World) (hn : Nt B w p N) (h : RfAt S w N AL nL cL AD nD cD R) (hSB : ∀ b, B b → S b) (hSw : ∀ b, S b → b < w.heap.size)
    (l : List (BitVec 8)) (hl : l.length = nx) (hnx : nx ≤ 1000000) (hrx : Rds w S Ax (l.map byteCell)) (hC : N.s.came < 1000000000) (hD : nD < 4096) :
    Calls Try.prog 27 #[.pointer (some ⟨p, 0, none⟩), refV N.s AL nL cL AD nD cD, .agg #[.int .i64 what, .int .i64 x, .int .i64 y, .int .i64 pick, .slice Ax nx cx, .bool is]] w fun e w' => ∃ A1 n1 c1 A2 n2 c2 R' B' S', e = .returned (.tuple #[refV (stepA N what x y pick l is).s A1 n1 c1 A2 n2 c2, .bool true]) ∧ RfAt S' w' (stepA N what x y pick l is) A1 n1 c1 A2 n2 c2 R' ∧ Nt B' w' p (stepA N what x y pick l is) ∧ But B w w' ∧ (∀ b, S b → S' b) ∧ (∀ b, B' b → S' b) ∧ (∀ b, S' b → b < w'.heap.size) ∧ (∀ b, b < w.heap.size → S' b → S b) ∧ ∀ b, b < w.heap.size → B' b → B b := by
  unfold stepA
  by_cases h0 : what = 0
  · subst h0
    rw [if_pos rfl]
    refine (actPut x y pick Ax nx cx is w hn h hSB hSw l hl hnx hrx hC).mono ?_
    rintro e w' ⟨A', nM, c', R', B', S', rfl, h1, h2, h3, h4, h5, h6, h7, h8⟩
    exact ⟨A', nM, c', AD, nD, cD, R', B', S', rfl, h1, h2, h3, h4, h5, h6, h7, h8⟩
  · rw [if_neg h0]
    by_cases h1 : what = 1
    · subst h1
      rw [if_pos rfl]
      refine (actPeek x y pick Ax nx cx is w hn h).mono ?_
      rintro e w' ⟨rfl, h1⟩
      exact ⟨AL, nL, cL, AD, nD, cD, R, B, S, rfl, h.keep h1, hn.keep h1, But.of_all h1 _, fun _ e => e, hSB, fun b e => Nat.lt_of_lt_of_le (hSw b e) h1.size, fun _ _ e => e, fun _ _ e => e⟩
    · rw [if_neg h1]
      by_cases h2 : what = 2
      · subst h2
        rw [if_pos rfl]
        refine (actTake x y pick Ax nx cx is w hn h hSB hSw).mono ?_
        rintro e w' ⟨A', nM, c', R', rfl, h1, h2, h3⟩
        exact ⟨A', nM, c', AD, nD, cD, R', B, S, by rw [takeN_s], h1, h2, h3, fun _ e => e, hSB, fun b e => Nat.lt_of_lt_of_le (hSw b e) h3.size, fun _ _ e => e, fun _ _ e => e⟩
      · rw [if_neg h2]
        by_cases h3 : what = 3
        · subst h3
          rw [if_pos rfl]
          refine (actDrop x y pick Ax nx cx is w hn h hSB hSw).mono ?_
          rintro e w' ⟨A', nM, c', R', rfl, h1, h2, h3⟩
          exact ⟨A', nM, c', AD, nD, cD, R', B, S, by rw [dropN_s], h1, h2, h3, fun _ e => e, hSB, fun b e => Nat.lt_of_lt_of_le (hSw b e) h3.size, fun _ _ e => e, fun _ _ e => e⟩
        · rw [if_neg h3]
          refine (actDown x y pick Ax nx cx is w hn h hSB hSw hD what h0 h1 h2 h3).mono ?_
          rintro e w' ⟨A', nM, c', rfl, h1, h2, h3⟩
          exact ⟨AL, nL, cL, A', nM, c', R, B, S, by rw [downN_s], h1, h2, h3, fun _ e => e, hSB, fun b e => Nat.lt_of_lt_of_le (hSw b e) h3.size, fun _ _ e => e, fun _ _ e => e⟩
end Go.Proofs
namespace Go.Proofs
open Go Go.RowKit Sm Go.Lib Go.Maps Go.WideMaps
attribute [local go_sem] Oper.semAt_some
def Sm.stepV (N : NM) (x : ActV) : NM := stepA N x.what x.src x.dst x.pick x.bytes x.is
def Sm.runV (N : NM) (xs : List ActV) : NM := xs.foldl stepV N
theorem Sm.runV_succ {N : NM} {xs : List ActV} {k : Nat} {x : ActV} (h : xs[k]? = some x) : runV N (xs.take (k + 1)) = stepV (runV N (xs.take k)) x := by
  unfold runV
  rw [List.take_add_one, h, List.foldl_append]
  rfl
theorem Sm.stepV_lim (N : NM) (x : ActV) : (stepV N x).s.came ≤ N.s.came + 1 ∧ (stepV N x).D.length ≤ N.D.length + 1 := by
  unfold stepV stepA
  split
  · unfold putN
    split
    · exact ⟨by show N.s.came ≤ N.s.came + 1; omega, Nat.le_succ _⟩
    · exact ⟨Int.le_refl _, Nat.le_succ _⟩
  · split
    · exact ⟨by omega, Nat.le_succ _⟩
    · split
      · unfold takeN
        split <;> exact ⟨by show N.s.came ≤ N.s.came + 1; omega, Nat.le_succ _⟩
      · split
        · unfold dropN
          split <;> exact ⟨by show N.s.came ≤ N.s.came + 1; omega, Nat.le_succ _⟩
        · unfold downN
          split
          · refine ⟨by show N.s.came ≤ N.s.came + 1; omega, ?_⟩
            show (downL x.is x.src x.dst N.D).length ≤ N.D.length + 1
            have h := delL_len (x.src, x.dst) N.D N.D.length
            rw [List.take_length] at h
            unfold downL
            split
            · rw [List.length_append]; simp only [List.length_cons, List.length_nil]; omega
            · omega
          · exact ⟨by show N.s.came ≤ N.s.came + 1; omega, Nat.le_succ _⟩
theorem Sm.runV_lim (ends most : Int) (xs : List ActV) : ∀ k, (runV ⟨⟨ends, most, 0⟩, [], []⟩ (xs.take k)).s.came ≤ (k : Int) ∧ (runV ⟨⟨ends, most, 0⟩, [], []⟩ (xs.take k)).D.length ≤ k
  | 0 => ⟨Int.le_refl _, Nat.le_refl _⟩
  | k + 1 => by
    have ih := runV_lim ends most xs k
    cases e : xs[k]? with
    | none => rw [List.take_add_one, e, Option.toList_none, List.append_nil]; omega
    | some x =>
      rw [runV_succ e]
      have := stepV_lim (runV ⟨⟨ends, most, 0⟩, [], []⟩ (xs.take k)) x
      omega
/-- both nets behind k calls -/
def Sm.PlK (w wr : World) (p tb : Nat) (N : NM) : Prop := ∃ B S A1 n1 c1 A2 n2 c2 R, wr.heap[tb]? = some (.cells #[.int .i64 N.s.ends, .int .i64 N.s.most, .int .i64 N.s.came, .slice A1 n1 c1, .slice A2 n2 c2] 29 (0, 0)) ∧ RfAt S wr N A1 n1 c1 A2 n2 c2 R ∧ Nt B wr p N ∧ (∀ b, B b → S b) ∧ (∀ b, S b → w.heap.size ≤ b ∧ b < wr.heap.size) ∧ (∀ b, B b → w.heap.size < b) ∧ (S tb ∧ S w.heap.size) ∧ ¬ B tb ∧ Below w.heap.size w wr ∧ wr.heap[w.heap.size]? = some (.cells #[.int .i64 0, .int .i64 0, .int .i64 0, .slice none 0 0, .slice none 0 0] 29 (0, 0))
set_option maxRecDepth 100000 in
set_option maxHeartbeats 4000000 in
theorem Sm.played_any (ends most : Int) (A : Option Addr) (n c : Nat) (xs : List ActV) (w : World) (hb : newB ends most = true) (hR : RdActs w A xs) (hn : xs.length = n) (_hc : n ≤ c) (_hc2 : c ≤ 9223372036854775807) (hcame : ∀ x ∈ xs, x.came w) (hsm : ∀ x ∈ xs, x.n ≤ 200) (hfew : n ≤ 50) :
    Calls Try.prog 11 #[.int .i64 ends, .int .i64 most, .slice A n c] w fun e w' => ∃ p B A1 n1 c1 A2 n2 c2 R, e = .returned (.tuple #[.pointer (some ⟨p, 0, none⟩), refV (runV ⟨⟨ends, most, 0⟩, [], []⟩ xs).s A1 n1 c1 A2 n2 c2, .bool true]) ∧ RfAt B w' (runV ⟨⟨ends, most, 0⟩, [], []⟩ xs) A1 n1 c1 A2 n2 c2 R ∧ Nt B w' p (runV ⟨⟨ends, most, 0⟩, [], []⟩ xs) ∧ (∀ b, B b → w.heap.size ≤ b ∧ b < w'.heap.size) ∧ Below w.heap.size w w' := by
  obtain ⟨w1, hw1⟩ : ∃ V, w.alloc (.cells #[.int .i64 0, .int .i64 0, .int .i64 0, .slice none 0 0, .slice none 0 0] 29) = V := ⟨_, rfl⟩
  have hb1 : Below w.heap.size w w1 := by rw [← hw1]; exact (Below.refl _ w).alloc (Nat.le_refl _) _
  have hx7 : w1.heap[w.heap.size]? = some (.cells #[.int .i64 0, .int .i64 0, .int .i64 0, .slice none 0 0, .slice none 0 0] 29 (0, 0)) := by rw [← hw1]; exact World.alloc_heap_new w _
  have hs1 : w1.heap.size = w.heap.size + 1 := by rw [← hw1]; simp
  have h26 := new_N ends most w1 hb
  have h31 := fun W => refNew_any ends most W
  simp only [hb, if_true] at h31
  unfold refV at h31 ⊢
  have HB := Lib.hid hb1
  have HX7 := Lib.hid hx7
  have HS1 := Lib.hid hs1
  have HR := Lib.hid hR
  have HN := Lib.hid hn
  have HCA := Lib.hid hcame
  have HSM := Lib.hid hsm
  have HLM := Lib.hid (runV_lim ends most xs)
  have H17 := Lib.hid (fun W => num_any 0 W (Int.le_refl 0) (by decide))
  have hnI : (n : Int) ≤ 50 := by omega
  clear hb1 hx7 hs1 hR hn hcame hsm hb
  go_enter Try.func11, Try.ntmps11
  go_upto_region 1 with fail
  clear hw1
  go_upto_region 2 with (go_at_call 26; (with_reducible refine h26.mono ?_); clear h26; rintro e w2 ⟨p, rfl, hnt, hb12⟩)
  have h31 := h31 w2
  go_upto_region 3 with (go_at_call 31; (with_reducible refine h31.mono ?_); clear h31; rintro e w3 ⟨rfl, hb23⟩)
  have hbc : Below w3.heap.size w3 (w3.alloc (.cells #[.int .i64 ends, .int .i64 most, .int .i64 0, .slice none 0 0, .slice none 0 0] 29)) := (Below.refl _ _).alloc (Nat.le_refl _) _
  have hx11 := World.alloc_heap_new w3 (.cells #[.int .i64 ends, .int .i64 most, .int .i64 0, .slice none 0 0, .slice none 0 0] 29)
  have hz4 : (w3.alloc (.cells #[.int .i64 ends, .int .i64 most, .int .i64 0, .slice none 0 0, .slice none 0 0] 29)).heap.size = w3.heap.size + 1 := by simp
  obtain ⟨w4, hw4⟩ : ∃ V, w3.alloc (.cells #[.int .i64 ends, .int .i64 most, .int .i64 0, .slice none 0 0, .slice none 0 0] 29) = V := ⟨_, rfl⟩
  rw [hw4] at hbc hx11 hz4 ⊢
  obtain ⟨tb, htb⟩ : ∃ t, w3.heap.size = t := ⟨_, rfl⟩
  have hs12 := hb12.size
  have hs23 := hb23.size
  have hb24 := hb23.trans (hbc.mono hb23.size)
  have hb14 := hb12.trans (hb24.mono hb12.size)
  have HP0 : Hid (PlK w w4 p tb (runV ⟨⟨ends, most, 0⟩, [], []⟩ (xs.take 0))) := Lib.hid ⟨fun b => w1.heap.size ≤ b ∧ b < w2.heap.size, fun b => (w1.heap.size ≤ b ∧ b < w2.heap.size) ∨ b = tb ∨ b = w.heap.size, none, 0, 0, none, 0, 0, [], by rw [← htb]; exact hx11,
    ⟨rfl, ⟨Nat.le_refl _, by decide⟩, rfl, rfl, fun h0 => absurd h0 (by simp [cellsM]), fun m hm => (by cases hm), fun h0 => absurd h0 (by simp [runV, cellsD]), ⟨by decide, by decide⟩⟩, (hnt.mono (fun b hb e => ⟨e, hb⟩)).keep hb24, fun b e => .inl e, fun b e => by have := HS1.out; rcases e with e | e | e <;> omega, fun b e => by have := HS1.out; omega, ⟨.inr (.inl rfl), .inr (.inr rfl)⟩, fun e => by omega, HB.out.trans (hb14.mono HB.out.size), (hb14.block _ (by have := HS1.out; omega)).trans HX7.out⟩
  have HTB : Hid (w.heap.size < tb) := Lib.hid (by have := HS1.out; omega)
  clear hnt hb12 hb23 hbc hx11 hz4 hs12 hs23 hb24 hb14 hw4
  rw [htb]
  clear htb
  go_wp2_with (go_at_call 17; (with_reducible refine (H17.out _).mono ?_); rintro e w' ⟨rfl, rfl⟩)
  go_loopw [13, 14] (fun v13 v14 wr => ∃ k : Nat, k ≤ n ∧ v14 = .int .i64 (k : Int) ∧ v13 = .bool true ∧ Hid (PlK w wr p tb (runV ⟨⟨ends, most, 0⟩, [], []⟩ (xs.take k)))) (fun _ v14 _ => n - (RowKit.intOf v14).toNat)
  case atStart => exact ⟨0, Nat.zero_le _, rfl, rfl, HP0⟩
  case round =>
    obtain ⟨wo, rfl⟩ : ∃ wo : World, wo = wr := ⟨_, rfl⟩
    obtain ⟨k, hk, rfl, rfl, HP⟩ := hrel
    clear HP0
    by_cases hlt : k < n
    · have hkx : k < xs.length := by rw [HN.out]; exact hlt
      have hkI : (k : Int) < (n : Int) := by omega
      obtain ⟨xk, hxk⟩ : ∃ x, xs[k]? = some x := ⟨_, List.getElem?_eq_getElem hkx⟩
      obtain ⟨NK, hNK⟩ : ∃ N, runV ⟨⟨ends, most, 0⟩, [], []⟩ (xs.take k) = N := ⟨_, rfl⟩
      obtain ⟨NK1, hNK1⟩ : ∃ N, stepV NK xk = N := ⟨_, rfl⟩
      have hsucc : runV ⟨⟨ends, most, 0⟩, [], []⟩ (xs.take (k + 1)) = NK1 := by rw [runV_succ hxk, hNK, hNK1]
      have hlim := HLM.out k
      rw [hNK] at HP hlim
      obtain ⟨B, S, A1, n1, c1, A2, n2, c2, R, hbx, hrf, hnt, hBS, hSb, hBlo, ⟨hSt, hS7⟩, hBt, hbw, h7⟩ := HP.out
      have hmem := List.mem_of_getElem? hxk
      have hca := HCA.out xk hmem
      have hsm := HSM.out xk hmem
      obtain ⟨b, off, rfl, hbl, hcl⟩ := HR.out (by omega)
      have hcells := hcl k xk hxk
      have hnS : ∀ q, q < w.heap.size → ¬ S q := fun q hq e => by have := (hSb _ e).1; omega
      have hnB : ∀ q, q < w.heap.size → ¬ (B q ∨ q = tb) := fun q hq e => by
        have := HTB.out
        rcases e with e | e
        · exact hnS q hq (hBS q e)
        · omega
      have hRx : ∀ W, But (fun q => B q ∨ q = tb) wo W → ∀ i v, xk.cells[i]? = some v → W.cell? ⟨b, off + k * 6 + i, none⟩ = some v := fun W hb i v hi => (hb.cell (p := ⟨b, off + k * 6 + i, none⟩) (Nat.lt_of_lt_of_le hbl hbw.size) (hnB b hbl)).trans ((hbw.cell (p := ⟨b, off + k * 6 + i, none⟩) hbl).trans (hcells i v hi))
      have HXK : Hid (∀ W, But (fun q => B q ∨ q = tb) wo W → W.cell? ⟨b, off + k * 6, none⟩ = some (.int .i64 xk.what) ∧ W.cell? ⟨b, off + k * 6 + 1, none⟩ = some (.int .i64 xk.src) ∧ W.cell? ⟨b, off + k * 6 + 2, none⟩ = some (.int .i64 xk.dst) ∧ W.cell? ⟨b, off + k * 6 + 3, none⟩ = some (.int .i64 xk.pick) ∧ W.cell? ⟨b, off + k * 6 + 4, none⟩ = some (.slice xk.A xk.n xk.c) ∧ W.cell? ⟨b, off + k * 6 + 5, none⟩ = some (.bool xk.is)) := Lib.hid fun W hb => ⟨hRx W hb 0 _ rfl, hRx W hb 1 _ rfl, hRx W hb 2 _ rfl, hRx W hb 3 _ rfl, hRx W hb 4 _ rfl, hRx W hb 5 _ rfl⟩
      have HT2 : Hid (∀ W, But B wo W → W.heap[tb]? = some (.cells #[.int .i64 NK.s.ends, .int .i64 NK.s.most, .int .i64 NK.s.came, .slice A1 n1 c1, .slice A2 n2 c2] 29 (0, 0))) := Lib.hid fun W hb => hb.box hbx hBt
      have hrdx : Rds w S xk.A (xk.bytes.map byteCell) := fun h0 => by
        obtain ⟨b2, off2, e1, e2, e3⟩ := hca.rd (by simpa using h0)
        exact ⟨b2, off2, e1, e2, hnS b2 e2, fun j c hj => by
          rw [List.getElem?_map] at hj
          obtain ⟨y, hy, rfl⟩ := Option.map_eq_some_iff.1 hj
          exact e3 j y hy⟩
      have H27 : Hid (∀ W, Below wo.heap.size wo W → Calls Try.prog 27 #[.pointer (some ⟨p, 0, none⟩), .agg #[.int .i64 NK.s.ends, .int .i64 NK.s.most, .int .i64 NK.s.came, .slice A1 n1 c1, .slice A2 n2 c2], .agg #[.int .i64 xk.what, .int .i64 xk.src, .int .i64 xk.dst, .int .i64 xk.pick, .slice xk.A xk.n xk.c, .bool xk.is]] W fun e w' => ∃ A3 n3 c3 A4 n4 c4 R' B' S', e = .returned (.tuple #[.agg #[.int .i64 NK1.s.ends, .int .i64 NK1.s.most, .int .i64 NK1.s.came, .slice A3 n3 c3, .slice A4 n4 c4], .bool true]) ∧ RfAt S' w' NK1 A3 n3 c3 A4 n4 c4 R' ∧ Nt B' w' p NK1 ∧ But B W w' ∧ (∀ b, S b → S' b) ∧ (∀ b, B' b → S' b) ∧ (∀ b, S' b → b < w'.heap.size) ∧ (∀ b, b < W.heap.size → S' b → S b) ∧ ∀ b, b < W.heap.size → B' b → B b) := Lib.hid fun W hb => by
        have h9 := act_any xk.what xk.src xk.dst xk.pick xk.A xk.n xk.c xk.is W (hnt.keep hb) (hrf.keep hb) hBS (fun b e => Nat.lt_of_lt_of_le (hSb b e).2 hb.size) xk.bytes hca.len (by omega) (hrdx.but (But.of_all (hbw.trans (hb.mono hbw.size)) (fun _ => False)) (fun _ e => e.elim)) (by omega) (by have := hrf.dlen; omega)
        have e9 : stepA NK xk.what xk.src xk.dst xk.pick xk.bytes xk.is = NK1 := hNK1
        rw [e9] at h9
        exact h9
      have HSb := Lib.hid hSb
      have HSt := Lib.hid hSt
      have HBt := Lib.hid hBt
      have HBS := Lib.hid hBS
      have H7 := Lib.hid h7
      have HBL := Lib.hid hBlo
      have HS7 := Lib.hid hS7
      have HBWo := Lib.hid hbw
      have HSU := Lib.hid hsucc
      have htl : tb < wo.heap.size := (Array.getElem?_eq_some_iff.1 hbx).1
      have HTL := Lib.hid htl
      clear hsucc hlim hbx hrf hnt hBS hSb hSt hBt hbw hca hsm hcl hcells hnS hnB hRx hrdx hmem hxk hNK hNK1 htl h7 hBlo hS7
      go_upto_region 7 with fail
      have hS0 : (fun W => But (fun q => B q ∨ q = tb) wo W) wo.drew := (But.refl _ _).drew
      refine wp_region_held_drew (S := fun W => But (fun q => B q ∨ q = tb) wo W) rfl hS0 (fun hHeld => ?_)
      simp only [List.size_toArray, List.length_cons, List.length_nil, Nat.reduceAdd]
      have HB0 : Hid (Below wo.heap.size wo wo.drew) := Lib.hid (Below.refl _ _).drew
      obtain ⟨V0, hV0⟩ : ∃ V, wo.drew = V := ⟨_, rfl⟩
      rw [hV0] at hHeld hS0 HB0 ⊢
      clear hV0
      refine wpAnyH_take (i := 0) (v := .pointer (some ⟨p, 0, none⟩)) rfl (by kernel_rfl) (by kernel_rfl) (by kernel_rfl) (fun _ _ _ h => h) (Or.inl ⟨by rfl, ?_⟩) (by assumption) ?_
      · intro wx hs1; go_simp
      (try simp only [Act.put, List.getElem_toArray, List.getElem_cons_zero, List.setIfInBounds_toArray, List.set_cons_zero, List.set_cons_succ])
      refine wpAnyH_take (i := 2) (v := .slice (some ⟨b, off, none⟩) n c) rfl (by kernel_rfl) (by kernel_rfl) (by kernel_rfl) (fun _ _ _ h => h) (Or.inl ⟨by rfl, ?_⟩) (by assumption) ?_
      · intro wx hs1; go_simp
      (try simp only [Act.put, List.getElem_toArray, List.getElem_cons_succ, List.getElem_cons_zero, List.setIfInBounds_toArray, List.set_cons_zero, List.set_cons_succ])
      refine wpAnyH_take (i := 3) (v := .int .i64 (k : Int)) rfl (by kernel_rfl) (by kernel_rfl) (by kernel_rfl) (fun _ _ _ h => h) (Or.inl ⟨by rfl, ?_⟩) (by assumption) ?_
      · intro wx hs1; go_simp
      (try simp only [Act.put, List.getElem_toArray, List.getElem_cons_succ, List.getElem_cons_zero, List.setIfInBounds_toArray, List.set_cons_zero, List.set_cons_succ])
      refine wpAnyH_take (i := 4) (v := .pointer (some ⟨b, off + k * 6, none⟩)) rfl (by kernel_rfl) (by kernel_rfl) (by kernel_rfl) (fun _ _ _ h => h) (Or.inl ⟨by rfl, ?_⟩) (by assumption) ?_
      · intro wx hs1; go_simp
      (try simp only [Act.put, List.getElem_toArray, List.getElem_cons_succ, List.getElem_cons_zero, List.setIfInBounds_toArray, List.set_cons_zero, List.set_cons_succ])
      refine wpAnyH_take (i := 5) (v := .agg #[.int .i64 xk.what, .int .i64 xk.src, .int .i64 xk.dst, .int .i64 xk.pick, .slice xk.A xk.n xk.c, .bool xk.is]) rfl (by kernel_rfl) (by kernel_rfl) (by kernel_rfl) (fun _ _ _ h => h) (Or.inl ⟨by rfl, ?_⟩) (by assumption) ?_
      · intro wx hs1; obtain ⟨k0, k1, k2, k3, k4, k5⟩ := HXK.out wx hs1; go_simp
      (try simp only [Act.put, List.getElem_toArray, List.getElem_cons_succ, List.getElem_cons_zero, List.setIfInBounds_toArray, List.set_cons_zero, List.set_cons_succ])
      obtain ⟨⟨k0, k1, k2, k3, k4⟩, _⟩ := five_cells (HT2.out V0 (But.of_all HB0.out B))
      refine wpAnyH_ready (rs := [1]) (by kernel_rfl) (by simp) (AllReadyH.cons rfl (fun K hK => ?_) AllReadyH.nil)
      go_simp
      try dsimp only
      have hS := hS0
      refine hK.out _ _ hS (fun _ => ?_)
      clear hK K
      (try simp only [Act.put, List.getElem_toArray, List.getElem_cons_succ, List.getElem_cons_zero, List.setIfInBounds_toArray, List.set_cons_zero, List.set_cons_succ])
      clear k0 k1 k2 k3 k4
      refine wpAnyH_ready (rs := [6]) (by kernel_rfl) (by simp) (AllReadyH.cons rfl (fun K hK => ?_) AllReadyH.nil)
      go_simp
      go_at_call 27
      (with_reducible refine (H27.out _ HB0.out).mono ?_)
      rintro e w5 ⟨A3, n3, c3, A4, n4, c4, R3, B3, S3, rfl, hrf, hnt, hbut, hs1, hs2, hs3, hs4, hb4⟩
      try dsimp only
      have HRF := Lib.hid hrf; have HNT := Lib.hid hnt; have HBUT := Lib.hid hbut; have HSS := Lib.hid (And.intro hs1 (And.intro hs2 (And.intro hs3 hs4))); have HB4 := Lib.hid hb4; clear hrf hnt hbut hs1 hs2 hs3 hs4 hb4; have hS := hS0.trans HBUT.out (fun _ _ e => Or.inl e)
      refine hK.out _ _ hS (fun _ => ?_)
      clear hK K
      (try simp only [Act.put, List.getElem_toArray, List.getElem_cons_succ, List.getElem_cons_zero, List.setIfInBounds_toArray, List.set_cons_zero, List.set_cons_succ])
      refine wpAnyH_take (i := 7) (v := .tuple #[.agg #[.int .i64 NK1.s.ends, .int .i64 NK1.s.most, .int .i64 NK1.s.came, .slice A3 n3 c3, .slice A4 n4 c4], .bool true]) rfl (by kernel_rfl) (by kernel_rfl) (by kernel_rfl) (fun _ _ _ h => h) (Or.inl ⟨by rfl, ?_⟩) (by assumption) ?_
      · intro wx hs1; go_simp
      (try simp only [Act.put, List.getElem_toArray, List.getElem_cons_succ, List.getElem_cons_zero, List.setIfInBounds_toArray, List.set_cons_zero, List.set_cons_succ])
      refine wpAnyH_take (i := 8) (v := .agg #[.int .i64 NK1.s.ends, .int .i64 NK1.s.most, .int .i64 NK1.s.came, .slice A3 n3 c3, .slice A4 n4 c4]) rfl (by kernel_rfl) (by kernel_rfl) (by kernel_rfl) (fun _ _ _ h => h) (Or.inl ⟨by rfl, ?_⟩) (by assumption) ?_
      · intro wx hs1; go_simp
      (try simp only [Act.put, List.getElem_toArray, List.getElem_cons_succ, List.getElem_cons_zero, List.setIfInBounds_toArray, List.set_cons_zero, List.set_cons_succ])
      refine wpAnyH_take (i := 9) (v := .bool true) rfl (by kernel_rfl) (by kernel_rfl) (by kernel_rfl) (fun _ _ _ h => h) (Or.inl ⟨by rfl, ?_⟩) (by assumption) ?_
      · intro wx hs1; go_simp
      (try simp only [Act.put, List.getElem_toArray, List.getElem_cons_succ, List.getElem_cons_zero, List.setIfInBounds_toArray, List.set_cons_zero, List.set_cons_succ])
      obtain ⟨⟨j0, j1, j2, j3, j4⟩, ⟨g0, g1, g2, g3, g4⟩⟩ := five_cells (HT2.out w5 ((But.of_all HB0.out B).trans HBUT.out (fun _ _ e => e)))
      refine wpAnyH_ready (rs := [10]) (by kernel_rfl) (by simp) (AllReadyH.cons rfl (fun K hK => ?_) AllReadyH.nil)
      go_simp
      try dsimp only
      have hW5x := put5 (HT2.out w5 ((But.of_all HB0.out B).trans HBUT.out (fun _ _ e => e))) (.int .i64 NK1.s.ends) (.int .i64 NK1.s.most) (.int .i64 NK1.s.came) (.slice A3 n3 c3) (.slice A4 n4 c4)
      have hW5b := put5_but w5 (tb) (.int .i64 NK1.s.ends) (.int .i64 NK1.s.most) (.int .i64 NK1.s.came) (.slice A3 n3 c3) (.slice A4 n4 c4)
      unfold put5W at hW5x hW5b
      obtain ⟨W5, hqW5⟩ : ∃ V, put5W w5 (tb) (.int .i64 NK1.s.ends) (.int .i64 NK1.s.most) (.int .i64 NK1.s.came) (.slice A3 n3 c3) (.slice A4 n4 c4) = V := ⟨_, rfl⟩
      unfold put5W at hqW5
      rw [hqW5] at hW5x hW5b ⊢
      clear hqW5 j0 j1 j2 j3 j4 g0 g1 g2 g3 g4
      have hS := (hS0.trans HBUT.out (fun _ _ e => Or.inl e)).trans hW5b (fun _ _ e => Or.inr e)
      refine hK.out _ _ hS (fun _ => ?_)
      clear hK K
      (try simp only [Act.put, List.getElem_toArray, List.getElem_cons_succ, List.getElem_cons_zero, List.setIfInBounds_toArray, List.set_cons_zero, List.set_cons_succ])
      refine wpAnyH_take (i := 11) (v := .bool true) rfl (by kernel_rfl) (by kernel_rfl) (by kernel_rfl) (fun _ _ _ h => h) (Or.inl ⟨by rfl, ?_⟩) (by assumption) ?_
      · intro wx hs1; go_simp
      (try simp only [Act.put, List.getElem_toArray, List.getElem_cons_succ, List.getElem_cons_zero, List.setIfInBounds_toArray, List.set_cons_zero, List.set_cons_succ])
      refine wpAnyH_done (by kernel_rfl) ?_ _
      have hrf5 := HRF.out.but hW5b (fun b e => by rw [e]; exact HSS.out.1 tb HSt.out)
      have hnt5 := HNT.out.but hW5b (fun b e e2 => by rw [e] at e2; exact HBt.out (HB4.out tb (Nat.lt_of_lt_of_le HTL.out HB0.out.size) e2))
      have h29 := is_any W5 hnt5 hrf5
      unfold refV at h29
      have HRF5 := Lib.hid hrf5
      have HNT5 := Lib.hid hnt5
      have HWX := Lib.hid hW5x
      have HWB := Lib.hid hW5b
      obtain ⟨⟨z0, z1, z2, z3, z4⟩, _⟩ := five_cells hW5x
      clear hrf5 hnt5 hW5x hW5b hS0
      go_wp2_with (go_at_call 29; (with_reducible refine h29.mono ?_); clear h29; rintro e w7 ⟨rfl, hb7⟩; have HB7 := Lib.hid hb7; clear hb7)
      go_roundw
      case rel =>
        refine ⟨k + 1, by omega, by go_num, rfl, Lib.hid ?_⟩
        rw [HSU.out]
        have hbig : Below w.heap.size w W5 := ((HBWo.out.trans (HB0.out.mono HBWo.out.size)).trans (HBUT.out.to_below (Nat.le_trans HBWo.out.size HB0.out.size) (fun b e => by have := (HSb.out b (HBS.out b e)).1; omega))).trans (HWB.out.to_below (Nat.le_trans HBWo.out.size (Nat.le_trans HB0.out.size HBUT.out.size)) (fun b e => by have := HTB.out; omega))
        exact ⟨B3, S3, A3, n3, c3, A4, n4, c4, R3, (HB7.out.block _ (Array.getElem?_eq_some_iff.1 HWX.out).1).trans HWX.out, HRF5.out.keep HB7.out, HNT5.out.keep HB7.out, HSS.out.2.1, fun b e => ⟨by
          by_cases hlt2 : b < wo.heap.size
          · exact (HSb.out b (HSS.out.2.2.2 b (Nat.lt_of_lt_of_le hlt2 HB0.out.size) e)).1
          · have := HBWo.out.size; have := HTB.out; have := HTL.out; omega, Nat.lt_of_lt_of_le (HSS.out.2.2.1 b e) (Nat.le_trans HWB.out.size HB7.out.size)⟩, fun b e => by
          by_cases hlt2 : b < V0.heap.size
          · exact HBL.out b (HB4.out b hlt2 e)
          · have := HB0.out.size; have := HTB.out; have := HTL.out; omega, ⟨HSS.out.1 tb HSt.out, HSS.out.1 _ HS7.out⟩, fun e => HBt.out (HB4.out tb (Nat.lt_of_lt_of_le HTL.out HB0.out.size) e), hbig.trans (HB7.out.mono hbig.size), (HB7.out.block _ (by have := HTB.out; have := (Array.getElem?_eq_some_iff.1 HWX.out).1; omega)).trans (HWB.out.box (HBUT.out.box ((HB0.out.block _ (by have := HTB.out; have := HTL.out; omega)).trans H7.out) (fun e => by have := HBL.out _ e; omega)) (by have := HTB.out; omega))⟩
      case measure => simp [RowKit.intOf]; omega
    · have hkn : k = n := by omega
      obtain ⟨NK, hNK⟩ : ∃ N, runV ⟨⟨ends, most, 0⟩, [], []⟩ (xs.take k) = N := ⟨_, rfl⟩
      have hall : runV ⟨⟨ends, most, 0⟩, [], []⟩ xs = NK := by rw [← hNK, List.take_of_length_le (by rw [HN.out]; omega)]
      rw [hNK] at HP
      have HALL := Lib.hid hall
      obtain ⟨B, S, A1, n1, c1, A2, n2, c2, R, hbx, hrf, hnt, hBS, hSb, hBlo, ⟨hSt, hS7⟩, hBt, hbw, h7⟩ := HP.out
      have htl : tb < wo.heap.size := (Array.getElem?_eq_some_iff.1 hbx).1
      have HT : Hid (∀ W, But (fun q => q = w.heap.size) wo W → W.heap[tb]? = some (.cells #[.int .i64 NK.s.ends, .int .i64 NK.s.most, .int .i64 NK.s.came, .slice A1 n1 c1, .slice A2 n2 c2] 29 (0, 0))) := Lib.hid fun W hb => hb.box hbx (by have := HTB.out; omega)
      have HT7 : Hid (∀ W, Below wo.heap.size wo W → W.heap[w.heap.size]? = some (.cells #[.int .i64 0, .int .i64 0, .int .i64 0, .slice none 0 0, .slice none 0 0] 29 (0, 0))) := Lib.hid fun W hb => (hb.block _ (by have := HTB.out; omega)).trans h7
      have HRF := Lib.hid hrf
      have HNT := Lib.hid hnt
      have HSb := Lib.hid hSb
      have HBS := Lib.hid hBS
      have HBL := Lib.hid hBlo
      have HS7 := Lib.hid hS7
      have HBWo := Lib.hid hbw
      have HTL := Lib.hid htl
      clear hall hbx hrf hnt hBS hSb hSt hBt hbw h7 hNK htl hkn hBlo hS7
      go_upto_region 9 with fail
      have hS0 : (fun W => But (fun q => q = w.heap.size) wo W) wo.drew := (But.refl _ _).drew
      refine wp_region_held_drew (S := fun W => But (fun q => q = w.heap.size) wo W) rfl hS0 (fun hHeld => ?_)
      simp only [List.size_toArray, List.length_cons, List.length_nil, Nat.reduceAdd]
      have HB0 : Hid (Below wo.heap.size wo wo.drew) := Lib.hid (Below.refl _ _).drew
      obtain ⟨V0, hV0⟩ : ∃ V, wo.drew = V := ⟨_, rfl⟩
      rw [hV0] at hHeld hS0 HB0 ⊢
      clear hV0
      refine wpAnyH_take (i := 0) (v := .pointer (some ⟨p, 0, none⟩)) rfl (by kernel_rfl) (by kernel_rfl) (by kernel_rfl) (fun _ _ _ h => h) (Or.inl ⟨by rfl, ?_⟩) (by assumption) ?_
      · intro wx hs1; go_simp
      (try simp only [Act.put, List.getElem_toArray, List.getElem_cons_zero, List.setIfInBounds_toArray, List.set_cons_zero, List.set_cons_succ])
      refine wpAnyH_take (i := 1) (v := .agg #[.int .i64 NK.s.ends, .int .i64 NK.s.most, .int .i64 NK.s.came, .slice A1 n1 c1, .slice A2 n2 c2]) rfl (by kernel_rfl) (by kernel_rfl) (by kernel_rfl) (fun _ _ _ h => h) (Or.inl ⟨by rfl, ?_⟩) (by assumption) ?_
      · intro wx hs1; obtain ⟨k0, k1, k2, k3, k4⟩ := (five_cells (HT.out wx hs1)).1; go_simp
      (try simp only [Act.put, List.getElem_toArray, List.getElem_cons_succ, List.getElem_cons_zero, List.setIfInBounds_toArray, List.set_cons_zero, List.set_cons_succ])
      refine wpAnyH_take (i := 2) (v := .bool true) rfl (by kernel_rfl) (by kernel_rfl) (by kernel_rfl) (fun _ _ _ h => h) (Or.inl ⟨by rfl, ?_⟩) (by assumption) ?_
      · intro wx hs1; go_simp
      (try simp only [Act.put, List.getElem_toArray, List.getElem_cons_succ, List.getElem_cons_zero, List.setIfInBounds_toArray, List.set_cons_zero, List.set_cons_succ])
      refine wpAnyH_take (i := 3) (v := .pointer (some ⟨p, 0, none⟩)) rfl (by kernel_rfl) (by kernel_rfl) (by kernel_rfl) (fun _ _ _ h => h) (Or.inl ⟨by rfl, ?_⟩) (by assumption) ?_
      · intro wx hs1; go_simp
      (try simp only [Act.put, List.getElem_toArray, List.getElem_cons_succ, List.getElem_cons_zero, List.setIfInBounds_toArray, List.set_cons_zero, List.set_cons_succ])
      obtain ⟨⟨j0, j1, j2, j3, j4⟩, ⟨g0, g1, g2, g3, g4⟩⟩ := five_cells (HT7.out V0 HB0.out)
      refine wpAnyH_ready (rs := [4]) (by kernel_rfl) (by simp) (AllReadyH.cons rfl (fun K hK => ?_) AllReadyH.nil)
      go_simp
      try dsimp only
      have hW5x := put5 (HT7.out V0 HB0.out) (.int .i64 NK.s.ends) (.int .i64 NK.s.most) (.int .i64 NK.s.came) (.slice A1 n1 c1) (.slice A2 n2 c2)
      have hW5b := put5_but V0 (w.heap.size) (.int .i64 NK.s.ends) (.int .i64 NK.s.most) (.int .i64 NK.s.came) (.slice A1 n1 c1) (.slice A2 n2 c2)
      unfold put5W at hW5x hW5b
      obtain ⟨W5, hqW5⟩ : ∃ V, put5W V0 (w.heap.size) (.int .i64 NK.s.ends) (.int .i64 NK.s.most) (.int .i64 NK.s.came) (.slice A1 n1 c1) (.slice A2 n2 c2) = V := ⟨_, rfl⟩
      unfold put5W at hqW5
      rw [hqW5] at hW5x hW5b ⊢
      clear hqW5 j0 j1 j2 j3 j4 g0 g1 g2 g3 g4
      have hS := hS0.trans hW5b (fun _ _ e => e)
      refine hK.out _ _ hS (fun _ => ?_)
      clear hK K
      (try simp only [Act.put, List.getElem_toArray, List.getElem_cons_succ, List.getElem_cons_zero, List.setIfInBounds_toArray, List.set_cons_zero, List.set_cons_succ])
      refine wpAnyH_take (i := 5) (v := .bool true) rfl (by kernel_rfl) (by kernel_rfl) (by kernel_rfl) (fun _ _ _ h => h) (Or.inl ⟨by rfl, ?_⟩) (by assumption) ?_
      · intro wx hs1; go_simp
      (try simp only [Act.put, List.getElem_toArray, List.getElem_cons_succ, List.getElem_cons_zero, List.setIfInBounds_toArray, List.set_cons_zero, List.set_cons_succ])
      refine wpAnyH_done (by kernel_rfl) ?_ _
      have hb5 := HB0.out
      have hbig : Below w.heap.size w W5 := (HBWo.out.trans (HB0.out.mono HBWo.out.size)).trans (hW5b.to_below (Nat.le_trans HBWo.out.size HB0.out.size) (fun b e => by omega))
      have hwlt : w.heap.size < wo.heap.size := by have := HTB.out; have := HTL.out; omega
      have hrf5 := ((HRF.out.keep HB0.out).but hW5b (fun b e => by rw [e]; exact HS7.out)).less (S' := B) (fun b _ e => HBS.out b e)
      obtain ⟨⟨z0, z1, z2, z3, z4⟩, _⟩ := five_cells hW5x
      go_wp2
      exact bodyPost_ret (v := .tuple #[.pointer (some ⟨p, 0, none⟩), .agg #[.int .i64 NK.s.ends, .int .i64 NK.s.most, .int .i64 NK.s.came, .slice A1 n1 c1, .slice A2 n2 c2], .bool true]) (by simp [results, Try.results11, go_sem, z0, z1, z2, z3, z4]) rfl (by rw [HALL.out]; exact ⟨p, B, A1, n1, c1, A2, n2, c2, R, rfl, hrf5, (HNT.out.keep HB0.out).but hW5b (fun b e e2 => by have := HBL.out b e2; omega), fun b e => ⟨by have := HBL.out b e; omega, Nat.lt_of_lt_of_le (HSb.out b (HBS.out b e)).2 (Nat.le_trans HB0.out.size hW5b.size)⟩, hbig⟩)
end Go.Proofs
namespace Go.Proofs
open Go Go.RowKit Sm Go.Lib Go.Maps Go.WideMaps
attribute [local go_sem] Oper.semAt_some
/-- no message is on a link of an end that may not be -/
theorem Sm.Nt.onP_no {B : Nat → Prop} {W : World} {p : Nat} {N : NM} (h : Nt B W p N) {x y : Int} (ha : anyB x y = false) (hl : lnkB N.s x y = false) : onP x y N.P = [] := by
  obtain ⟨Mb, base, A, cap, L, h1, h2, _⟩ := h
  rw [List.eq_nil_iff_forall_not_mem]
  intro i hi
  obtain ⟨_, m, hm, hp⟩ := onN_lt hi
  have hmem : m ∈ N.P := List.mem_of_getElem? hm
  rw [← h2] at hmem
  obtain ⟨M, hM, rfl⟩ := List.mem_map.1 hmem
  have hmsg := h1.msg M hM
  unfold pkD pkB at hp
  rw [ha, Bool.false_or, Bool.and_eq_true] at hp
  have e1 : M.src = x := of_decide_eq_true hp.1
  have e2 : M.dst = y := of_decide_eq_true hp.2
  refine absurd hl ?_
  unfold lnkB wiB
  rw [← e1, ← e2]
  simp
  omega
theorem Sm.refOn_len {B S : Nat → Prop} {p : Nat} {N : NM} {AL AD : Option Addr} {nL cL nD cD : Nat} {R : List MsgM} (x y : Int) (w : World) (hn : Nt B w p N) (h : RfAt S w N AL nL cL AD nD cD R) :
    Calls Try.prog 24 #[.agg #[.int .i64 N.s.ends, .int .i64 N.s.most, .int .i64 N.s.came, .slice AL nL cL, .slice AD nD cD], .int .i64 x, .int .i64 y] w fun e w' => ∃ A c E, e = .returned (.tuple #[.slice A (onP x y N.P).length c, .int .i64 E]) ∧ Below w.heap.size w w' := by
  by_cases hok : (anyB x y || lnkB N.s x y) = true
  · have h1 := refOn_yes (S := S) N.s.ends N.s.most N.s.came AL AD nL cL nD cD R x y w h.len h.few.1 h.row (by rw [← lnkB_wi]; exact hok)
    rw [h.map] at h1
    exact h1.mono fun e w' ⟨A, c, he, _, hb⟩ => ⟨A, c, 0, he, hb⟩
  · rw [Bool.not_eq_true, Bool.or_eq_false_iff] at hok
    have h1 := refOn_bad N.s.ends N.s.most N.s.came AL AD nL cL nD cD x y w hok.1 (by rw [← lnkB_wi]; exact hok.2)
    rw [hn.onP_no hok.1 hok.2]
    exact h1.mono fun e w' ⟨he, hb⟩ => ⟨none, 0, 2, he, hb⟩
set_option maxRecDepth 100000 in
set_option maxHeartbeats 4000000 in
theorem Sm.links_law (A : Option Addr) (n c : Nat) (xs : List ActV) (x y : Int) (w : World) (hn : xs.length = n) (hc : n ≤ c) (hc2 : c ≤ 9223372036854775807) (hR : RdActs w A xs) (hcame : ∀ x ∈ xs, x.came w) (hx : I64 x) (hy : I64 y) :
    Calls Try.prog 4 #[.slice A n c, .int .i64 x, .int .i64 y] w fun e w' => e = .returned (.bool true) ∧ Below w.heap.size w w' := by
  have hwk := fun W => works_any W
  have hfew := few_any A n c xs 30 w hR hn hc hc2 hcame
  cases hf : fewM xs 30 with
  | false =>
    rw [hf] at hfew
    clear hf hR hcame
    go_enter Try.func4, Try.ntmps4
    go_wp2_with (first
      | (go_at_call 9; (with_reducible refine hfew.mono ?_); rintro e w' ⟨rfl, rfl⟩)
      | (go_at_call 10; (with_reducible refine (hwk _).mono ?_); rintro e w' ⟨rfl, hb⟩))
    go_ret
    exact ⟨rfl, hb⟩
  | true =>
    rw [hf] at hfew
    obtain ⟨hsm, hl50⟩ := few_small hf
    rw [hn] at hl50
    have hpl := played_any 4 20 A n c xs w (by decide) hR hn hc hc2 hcame hsm (by omega)
    obtain ⟨NK, hNK⟩ : ∃ N, runV ⟨⟨4, 20, 0⟩, [], []⟩ xs = N := ⟨_, rfl⟩
    rw [hNK] at hpl
    unfold refV at hpl
    clear hNK hf hR hcame hsm hn hl50
    go_enter Try.func4, Try.ntmps4
    go_upto_region 3 with (go_at_call 9; (with_reducible refine hfew.mono ?_); clear hfew; rintro e w' ⟨rfl, rfl⟩)
    go_upto_region 4 with (go_at_call 11; (with_reducible refine hpl.mono ?_); clear hpl; rintro e w1 ⟨p, B, A1, n1, c1, A2, n2, c2, R, rfl, hrf, hnt, hBb, hb1⟩)
    have hbc : Below w1.heap.size w1 (w1.alloc (.cells #[.int .i64 NK.s.ends, .int .i64 NK.s.most, .int .i64 NK.s.came, .slice A1 n1 c1, .slice A2 n2 c2] 29)) := (Below.refl _ _).alloc (Nat.le_refl _) _
    have hx8 := World.alloc_heap_new w1 (.cells #[.int .i64 NK.s.ends, .int .i64 NK.s.most, .int .i64 NK.s.came, .slice A1 n1 c1, .slice A2 n2 c2] 29)
    obtain ⟨w2, hw2⟩ : ∃ V, w1.alloc (.cells #[.int .i64 NK.s.ends, .int .i64 NK.s.most, .int .i64 NK.s.came, .slice A1 n1 c1, .slice A2 n2 c2] 29) = V := ⟨_, rfl⟩
    rw [hw2] at hbc hx8 ⊢
    obtain ⟨tb, htb⟩ : ∃ t, w1.heap.size = t := ⟨_, rfl⟩
    have hrf2 := hrf.keep hbc
    have hnt2 := hnt.keep hbc
    have hb2 := hb1.trans (hbc.mono hb1.size)
    clear hrf hnt hbc hb1 hw2 hBb
    rw [htb] at hx8 ⊢
    clear htb
    have hon := refOn_len x y w2 hnt2 hrf2
    obtain ⟨⟨c80, c81, c82, c83, c84⟩, _⟩ := five_cells hx8
    go_upto_region 5 with (go_at_call 24; (with_reducible refine hon.mono ?_); clear hon; rintro e w3 ⟨A3, c3, E3, rfl, hb3⟩)
    have HT : Hid (∀ W, Below w3.heap.size w3 W → W.heap[tb]? = some (.cells #[.int .i64 NK.s.ends, .int .i64 NK.s.most, .int .i64 NK.s.came, .slice A1 n1 c1, .slice A2 n2 c2] 29 (0, 0))) := Lib.hid fun W hb => ((hb3.trans (hb.mono hb3.size)).block tb (Array.getElem?_eq_some_iff.1 hx8).1).trans hx8
    have hnt3 := hnt2.keep hb3
    have hrf3 := hrf2.keep hb3
    have HBA : Hid (Below w.heap.size w w3) := Lib.hid (hb2.trans (hb3.mono hb2.size))
    have H20 : Hid (∀ W, Below w3.heap.size w3 W → Calls Try.prog 20 #[.pointer (some ⟨p, 0, none⟩), .int .i64 x, .int .i64 y] W fun e w' => e = .returned (.int .i64 ((onP x y NK.P).length : Int)) ∧ Below W.heap.size W w') := Lib.hid fun W hb => len_N x y W (hnt3.keep hb)
    have H19 : Hid (∀ W, Below w3.heap.size w3 W → Calls Try.prog 19 #[.pointer (some ⟨p, 0, none⟩), .int .i64 x, .int .i64 y] W fun e w' => e = .returned (.bool (decide ((x, y) ∈ NK.D))) ∧ Below W.heap.size W w') := Lib.hid fun W hb => isDown_N x y W (hnt3.keep hb) hx hy
    have H25 : Hid (∀ W, Below w3.heap.size w3 W → Calls Try.prog 25 #[.agg #[.int .i64 NK.s.ends, .int .i64 NK.s.most, .int .i64 NK.s.came, .slice A1 n1 c1, .slice A2 n2 c2], .int .i64 x, .int .i64 y] W fun e w' => e = .returned (.bool (decide ((x, y) ∈ NK.D))) ∧ Below W.heap.size W w') := Lib.hid fun W hb => refDown_at (S := B) NK.s.ends NK.s.most NK.s.came _ A2 n2 c2 NK.D x y W hrf3.dlen hrf3.few.2 (hrf3.keep hb).dn
    have H10 : Hid (∀ W, Below w3.heap.size w3 W → Calls Try.prog 10 #[] W fun e w' => e = .returned (.bool true) ∧ Below W.heap.size W w') := Lib.hid fun W _ => hwk W
    obtain ⟨bd, hbd⟩ : ∃ bd, decide ((x, y) ∈ NK.D) = bd := ⟨_, rfl⟩
    rw [hbd] at H19 H25
    clear hbd hnt3 hrf3 hnt2 hrf2 hb3 hb2 hx8 c80 c81 c82 c83 c84 hx hy hwk
    have hS0 : (fun W => Below w3.heap.size w3 W) w3.drew := (Below.refl _ _).drew
    refine wp_region_held_drew (S := fun W => Below w3.heap.size w3 W) rfl hS0 (fun hHeld => ?_)
    simp only [List.size_toArray, List.length_cons, List.length_nil, Nat.reduceAdd]
    have HB0 : Hid (Below w3.heap.size w3 w3.drew) := Lib.hid (Below.refl _ _).drew
    obtain ⟨V0, hV0⟩ : ∃ V, w3.drew = V := ⟨_, rfl⟩
    rw [hV0] at hHeld hS0 HB0 ⊢
    clear hV0
    refine wpAnyH_take (i := 0) (v := .bool true) rfl (by kernel_rfl) (by kernel_rfl) (by kernel_rfl) (fun _ _ _ h => h) (Or.inl ⟨by rfl, ?_⟩) (by assumption) ?_
    · intro wx hs1; go_simp
    (try simp only [Act.put, List.getElem_toArray, List.getElem_cons_zero, List.setIfInBounds_toArray, List.set_cons_zero, List.set_cons_succ])
    refine wpAnyH_take (i := 1) (v := .bool true) rfl (by kernel_rfl) (by kernel_rfl) (by kernel_rfl) (fun _ _ _ h => h) (Or.inl ⟨by rfl, ?_⟩) (by assumption) ?_
    · intro wx hs1; go_simp
    (try simp only [Act.put, List.getElem_toArray, List.getElem_cons_succ, List.getElem_cons_zero, List.setIfInBounds_toArray, List.set_cons_zero, List.set_cons_succ])
    refine wpAnyH_take (i := 2) (v := .pointer (some ⟨p, 0, none⟩)) rfl (by kernel_rfl) (by kernel_rfl) (by kernel_rfl) (fun _ _ _ h => h) (Or.inl ⟨by rfl, ?_⟩) (by assumption) ?_
    · intro wx hs1; go_simp
    (try simp only [Act.put, List.getElem_toArray, List.getElem_cons_succ, List.getElem_cons_zero, List.setIfInBounds_toArray, List.set_cons_zero, List.set_cons_succ])
    refine wpAnyH_take (i := 3) (v := .int .i64 x) rfl (by kernel_rfl) (by kernel_rfl) (by kernel_rfl) (fun _ _ _ h => h) (Or.inl ⟨by rfl, ?_⟩) (by assumption) ?_
    · intro wx hs1; go_simp
    (try simp only [Act.put, List.getElem_toArray, List.getElem_cons_succ, List.getElem_cons_zero, List.setIfInBounds_toArray, List.set_cons_zero, List.set_cons_succ])
    refine wpAnyH_take (i := 4) (v := .int .i64 y) rfl (by kernel_rfl) (by kernel_rfl) (by kernel_rfl) (fun _ _ _ h => h) (Or.inl ⟨by rfl, ?_⟩) (by assumption) ?_
    · intro wx hs1; go_simp
    (try simp only [Act.put, List.getElem_toArray, List.getElem_cons_succ, List.getElem_cons_zero, List.setIfInBounds_toArray, List.set_cons_zero, List.set_cons_succ])
    refine wpAnyH_take (i := 6) (v := .slice A3 (onP x y NK.P).length c3) rfl (by kernel_rfl) (by kernel_rfl) (by kernel_rfl) (fun _ _ _ h => h) (Or.inl ⟨by rfl, ?_⟩) (by assumption) ?_
    · intro wx hs1; go_simp
    (try simp only [Act.put, List.getElem_toArray, List.getElem_cons_succ, List.getElem_cons_zero, List.setIfInBounds_toArray, List.set_cons_zero, List.set_cons_succ])
    refine wpAnyH_take (i := 7) (v := .int .i64 ((onP x y NK.P).length : Int)) rfl (by kernel_rfl) (by kernel_rfl) (by kernel_rfl) (fun _ _ _ h => h) (Or.inl ⟨by rfl, ?_⟩) (by assumption) ?_
    · intro wx hs1; go_simp
    (try simp only [Act.put, List.getElem_toArray, List.getElem_cons_succ, List.getElem_cons_zero, List.setIfInBounds_toArray, List.set_cons_zero, List.set_cons_succ])
    refine wpAnyH_ready (rs := [5]) (by kernel_rfl) (by simp) (AllReadyH.cons rfl (fun K hK => ?_) AllReadyH.nil)
    go_simp
    go_at_call 20
    (with_reducible refine (H20.out _ HB0.out).mono ?_)
    rintro e w4 ⟨rfl, hb⟩
    try dsimp only
    have HB1 : Hid (Below w3.heap.size w3 w4) := Lib.hid (HB0.out.trans (hb.mono HB0.out.size)); clear hb; have hS := HB1.out
    refine hK.out _ _ hS (fun _ => ?_)
    clear hK K
    (try simp only [Act.put, List.getElem_toArray, List.getElem_cons_succ, List.getElem_cons_zero, List.setIfInBounds_toArray, List.set_cons_zero, List.set_cons_succ])
    refine wpAnyH_take (i := 8) (v := .bool true) rfl (by kernel_rfl) (by kernel_rfl) (by kernel_rfl) (fun _ _ _ h => h) (Or.inl ⟨by rfl, ?_⟩) (by assumption) ?_
    · intro wx hs1; go_simp
    (try simp only [Act.put, List.getElem_toArray, List.getElem_cons_succ, List.getElem_cons_zero, List.setIfInBounds_toArray, List.set_cons_zero, List.set_cons_succ])
    refine wpAnyH_take (i := 9) (v := .bool true) rfl (by kernel_rfl) (by kernel_rfl) (by kernel_rfl) (fun _ _ _ h => h) (Or.inl ⟨by rfl, ?_⟩) (by assumption) ?_
    · intro wx hs1; go_simp
    (try simp only [Act.put, List.getElem_toArray, List.getElem_cons_succ, List.getElem_cons_zero, List.setIfInBounds_toArray, List.set_cons_zero, List.set_cons_succ])
    refine wpAnyH_take (i := 10) (v := .bool true) rfl (by kernel_rfl) (by kernel_rfl) (by kernel_rfl) (fun _ _ _ h => h) (Or.inl ⟨by rfl, ?_⟩) (by assumption) ?_
    · intro wx hs1; go_simp
    (try simp only [Act.put, List.getElem_toArray, List.getElem_cons_succ, List.getElem_cons_zero, List.setIfInBounds_toArray, List.set_cons_zero, List.set_cons_succ])
    refine wpAnyH_take (i := 11) (v := .pointer (some ⟨p, 0, none⟩)) rfl (by kernel_rfl) (by kernel_rfl) (by kernel_rfl) (fun _ _ _ h => h) (Or.inl ⟨by rfl, ?_⟩) (by assumption) ?_
    · intro wx hs1; go_simp
    (try simp only [Act.put, List.getElem_toArray, List.getElem_cons_succ, List.getElem_cons_zero, List.setIfInBounds_toArray, List.set_cons_zero, List.set_cons_succ])
    refine wpAnyH_take (i := 12) (v := .int .i64 x) rfl (by kernel_rfl) (by kernel_rfl) (by kernel_rfl) (fun _ _ _ h => h) (Or.inl ⟨by rfl, ?_⟩) (by assumption) ?_
    · intro wx hs1; go_simp
    (try simp only [Act.put, List.getElem_toArray, List.getElem_cons_succ, List.getElem_cons_zero, List.setIfInBounds_toArray, List.set_cons_zero, List.set_cons_succ])
    refine wpAnyH_take (i := 13) (v := .int .i64 y) rfl (by kernel_rfl) (by kernel_rfl) (by kernel_rfl) (fun _ _ _ h => h) (Or.inl ⟨by rfl, ?_⟩) (by assumption) ?_
    · intro wx hs1; go_simp
    (try simp only [Act.put, List.getElem_toArray, List.getElem_cons_succ, List.getElem_cons_zero, List.setIfInBounds_toArray, List.set_cons_zero, List.set_cons_succ])
    refine wpAnyH_take (i := 15) (v := .agg #[.int .i64 NK.s.ends, .int .i64 NK.s.most, .int .i64 NK.s.came, .slice A1 n1 c1, .slice A2 n2 c2]) rfl (by kernel_rfl) (by kernel_rfl) (by kernel_rfl) (fun _ _ _ h => h) (Or.inl ⟨by rfl, ?_⟩) (by assumption) ?_
    · intro wx hs1; obtain ⟨k0, k1, k2, k3, k4⟩ := (five_cells (HT.out wx hs1)).1; go_simp
    (try simp only [Act.put, List.getElem_toArray, List.getElem_cons_succ, List.getElem_cons_zero, List.setIfInBounds_toArray, List.set_cons_zero, List.set_cons_succ])
    refine wpAnyH_take (i := 16) (v := .int .i64 x) rfl (by kernel_rfl) (by kernel_rfl) (by kernel_rfl) (fun _ _ _ h => h) (Or.inl ⟨by rfl, ?_⟩) (by assumption) ?_
    · intro wx hs1; go_simp
    (try simp only [Act.put, List.getElem_toArray, List.getElem_cons_succ, List.getElem_cons_zero, List.setIfInBounds_toArray, List.set_cons_zero, List.set_cons_succ])
    refine wpAnyH_take (i := 17) (v := .int .i64 y) rfl (by kernel_rfl) (by kernel_rfl) (by kernel_rfl) (fun _ _ _ h => h) (Or.inl ⟨by rfl, ?_⟩) (by assumption) ?_
    · intro wx hs1; go_simp
    (try simp only [Act.put, List.getElem_toArray, List.getElem_cons_succ, List.getElem_cons_zero, List.setIfInBounds_toArray, List.set_cons_zero, List.set_cons_succ])
    refine wpAnyH_ready (rs := [14]) (by kernel_rfl) (by simp) (AllReadyH.cons rfl (fun K hK => ?_) AllReadyH.nil)
    go_simp
    go_at_call 19
    (with_reducible refine (H19.out _ HB1.out).mono ?_)
    rintro e w5 ⟨rfl, hb⟩
    try dsimp only
    have HB2 : Hid (Below w3.heap.size w3 w5) := Lib.hid (HB1.out.trans (hb.mono HB1.out.size)); clear hb; have hS := HB2.out
    refine hK.out _ _ hS (fun _ => ?_)
    clear hK K
    (try simp only [Act.put, List.getElem_toArray, List.getElem_cons_succ, List.getElem_cons_zero, List.setIfInBounds_toArray, List.set_cons_zero, List.set_cons_succ])
    refine wpAnyH_ready (rs := [18]) (by kernel_rfl) (by simp) (AllReadyH.cons rfl (fun K hK => ?_) AllReadyH.nil)
    go_simp
    go_at_call 25
    (with_reducible refine (H25.out _ HB2.out).mono ?_)
    rintro e w6 ⟨rfl, hb⟩
    try dsimp only
    have HB3 : Hid (Below w3.heap.size w3 w6) := Lib.hid (HB2.out.trans (hb.mono HB2.out.size)); clear hb; have hS := HB3.out
    refine hK.out _ _ hS (fun _ => ?_)
    clear hK K
    (try simp only [Act.put, List.getElem_toArray, List.getElem_cons_succ, List.getElem_cons_zero, List.setIfInBounds_toArray, List.set_cons_zero, List.set_cons_succ])
    refine wpAnyH_take (i := 19) (v := .bool true) rfl (by kernel_rfl) (by kernel_rfl) (by kernel_rfl) (fun _ _ _ h => h) (Or.inl ⟨by rfl, ?_⟩) (by assumption) ?_
    · intro wx hs1; go_simp
    (try simp only [Act.put, List.getElem_toArray, List.getElem_cons_succ, List.getElem_cons_zero, List.setIfInBounds_toArray, List.set_cons_zero, List.set_cons_succ])
    refine wpAnyH_take (i := 20) (v := .bool true) rfl (by kernel_rfl) (by kernel_rfl) (by kernel_rfl) (fun _ _ _ h => h) (Or.inl ⟨by rfl, ?_⟩) (by assumption) ?_
    · intro wx hs1; go_simp
    (try simp only [Act.put, List.getElem_toArray, List.getElem_cons_succ, List.getElem_cons_zero, List.setIfInBounds_toArray, List.set_cons_zero, List.set_cons_succ])
    refine wpAnyH_take (i := 21) (v := .bool true) rfl (by kernel_rfl) (by kernel_rfl) (by kernel_rfl) (fun _ _ _ h => h) (Or.inl ⟨by rfl, ?_⟩) (by assumption) ?_
    · intro wx hs1; go_simp
    (try simp only [Act.put, List.getElem_toArray, List.getElem_cons_succ, List.getElem_cons_zero, List.setIfInBounds_toArray, List.set_cons_zero, List.set_cons_succ])
    refine wpAnyH_ready (rs := [22]) (by kernel_rfl) (by simp) (AllReadyH.cons rfl (fun K hK => ?_) AllReadyH.nil)
    go_simp
    go_at_call 10
    (with_reducible refine (H10.out _ HB3.out).mono ?_)
    rintro e w7 ⟨rfl, hb⟩
    try dsimp only
    have HB4 : Hid (Below w3.heap.size w3 w7) := Lib.hid (HB3.out.trans (hb.mono HB3.out.size)); clear hb; have hS := HB4.out
    refine hK.out _ _ hS (fun _ => ?_)
    clear hK K
    (try simp only [Act.put, List.getElem_toArray, List.getElem_cons_succ, List.getElem_cons_zero, List.setIfInBounds_toArray, List.set_cons_zero, List.set_cons_succ])
    refine wpAnyH_take (i := 23) (v := .bool true) rfl (by kernel_rfl) (by kernel_rfl) (by kernel_rfl) (fun _ _ _ h => h) (Or.inl ⟨by rfl, ?_⟩) (by assumption) ?_
    · intro wx hs1; go_simp
    (try simp only [Act.put, List.getElem_toArray, List.getElem_cons_succ, List.getElem_cons_zero, List.setIfInBounds_toArray, List.set_cons_zero, List.set_cons_succ])
    refine wpAnyH_take (i := 24) (v := .bool true) rfl (by kernel_rfl) (by kernel_rfl) (by kernel_rfl) (fun _ _ _ h => h) (Or.inl ⟨by rfl, ?_⟩) (by assumption) ?_
    · intro wx hs1; go_simp
    (try simp only [Act.put, List.getElem_toArray, List.getElem_cons_succ, List.getElem_cons_zero, List.setIfInBounds_toArray, List.set_cons_zero, List.set_cons_succ])
    refine wpAnyH_done (by kernel_rfl) ?_ _
    go_wp2
    go_ret
    exact ⟨rfl, HBA.out.trans (HB4.out.mono HBA.out.size)⟩
end Go.Proofs
namespace Go.Proofs
open Go Go.RowKit Sm Go.Lib Go.Maps Go.WideMaps
attribute [local go_sem] Oper.semAt_some
theorem Sm.peek_no0 {v : Value} (x y pick : Int) (w : World) (h : NoNet w v) : Calls Try.prog 13 #[v, .int .i64 x, .int .i64 y, .int .i64 pick] w fun e w' => ∃ A c, e = .returned (.tuple #[parVal zeroP A c, .int .i64 1]) ∧ ParV w' w.heap.size zeroP A c ∧ Below w.heap.size w w' :=
  peek_of v x y pick 0 1 zeroP w (fun W hb => reach_N0 x y pick W (h.keep hb))
theorem Sm.take_no0 {v : Value} (x y pick : Int) (w : World) (h : NoNet w v) : Calls Try.prog 14 #[v, .int .i64 x, .int .i64 y, .int .i64 pick] w fun e w' => ∃ A c, e = .returned (.tuple #[parVal zeroP A c, .int .i64 1]) ∧ ParV w' w.heap.size zeroP A c ∧ Below w.heap.size w w' :=
  take_bad v x y pick 0 1 zeroP w (by decide) (fun W hb => reach_N0 x y pick W (h.keep hb))
theorem Sm.drop_no0 {v : Value} (x y pick : Int) (w : World) (h : NoNet w v) : Calls Try.prog 15 #[v, .int .i64 x, .int .i64 y, .int .i64 pick] w fun e w' => e = .returned (.tuple #[.int .i64 0, .int .i64 1]) ∧ Below w.heap.size w w' :=
  drop_bad v x y pick 1 w (by decide) (find_no x y pick w h)
theorem Sm.all_no {v : Value} (w : World) (h : NoNet w v) : Calls Try.prog 16 #[v] w fun e w' => e = .returned (.func (.func 43) #[] #[]) ∧ w = w' := by
  have h42 := there_no w h
  clear h
  go_enter Try.func16, Try.ntmps16
  go_wp2_with (go_at_call 42; (with_reducible refine h42.mono ?_); clear h42; rintro e w' ⟨rfl, rfl⟩)
  go_ret
  exact ⟨rfl, rfl⟩
theorem Sm.copy_no {v : Value} (w : World) (h : NoNet w v) : Calls Try.prog 22 #[v] w fun e w' => e = .returned (.pointer none) ∧ w = w' := by
  have h42 := there_no w h
  clear h
  go_enter Try.func22, Try.ntmps22
  go_wp2_with (go_at_call 42; (with_reducible refine h42.mono ?_); clear h42; rintro e w' ⟨rfl, rfl⟩)
  go_ret
  exact ⟨rfl, rfl⟩
/-- where one of two nets at least is none -/
theorem Sm.same_none {v u : Value} (a b : Bool) (hab : (a && b) = false) (w : World) (ha : Calls Try.prog 42 #[v] w fun e w' => e = .returned (.bool a) ∧ w = w') (hb : Calls Try.prog 42 #[u] w fun e w' => e = .returned (.bool b) ∧ w = w') : Calls Try.prog 23 #[v, u] w fun e w' => e = .returned (.bool (a == b)) ∧ w = w' := by
  cases a <;> cases b
  · go_enter Try.func23, Try.ntmps23
    go_wp2_with (first
      | (go_at_call 42; (with_reducible refine ha.mono ?_); rintro e w' ⟨rfl, rfl⟩)
      | (go_at_call 42; (with_reducible refine hb.mono ?_); rintro e w' ⟨rfl, rfl⟩))
    go_ret
    exact ⟨rfl, rfl⟩
  · go_enter Try.func23, Try.ntmps23
    go_wp2_with (first
      | (go_at_call 42; (with_reducible refine ha.mono ?_); rintro e w' ⟨rfl, rfl⟩)
      | (go_at_call 42; (with_reducible refine hb.mono ?_); rintro e w' ⟨rfl, rfl⟩))
    go_ret
    exact ⟨rfl, rfl⟩
  · go_enter Try.func23, Try.ntmps23
    go_wp2_with (first
      | (go_at_call 42; (with_reducible refine ha.mono ?_); rintro e w' ⟨rfl, rfl⟩)
      | (go_at_call 42; (with_reducible refine hb.mono ?_); rintro e w' ⟨rfl, rfl⟩))
    go_ret
    exact ⟨rfl, rfl⟩
  · cases hab
theorem Sm.there_N {B : Nat → Prop} {p : Nat} {N : NM} (w : World) (h : Nt B w p N) : Calls Try.prog 42 #[.pointer (some ⟨p, 0, none⟩)] w fun e w' => e = .returned (.bool true) ∧ w = w' := by
  obtain ⟨Mb, base, A, cap, L, h1, _⟩ := h
  exact there_yes w h1
/-- the iterator of none gives nothing -/
theorem Sm.none_seq (w : World) : SeqX Try.prog 43 #[] (fun _ => False) (fun _ _ _ _ => False) (fun _ _ => False) (fun _ => True) (fun k => k = 0) (fun _ => False) w := by
  intro l J Jx W hW hJ hJx hY hJ0
  show Calls Try.prog 43 #[.func (.yield l) #[] #[]] W _
  go_enter Try.func43, Try.ntmps43
  go_wp2
  go_end0
  exact ⟨⟨_, rfl⟩, hJ0⟩
set_option maxRecDepth 100000 in
set_option maxHeartbeats 4000000 in
theorem Sm.played_bad (ends most : Int) (A : Option Addr) (n c : Nat) (w : World) (hb : newB ends most = false) (hfew : n ≤ 50) :
    Calls Try.prog 11 #[.int .i64 ends, .int .i64 most, .slice A n c] w fun e w' => e = .returned (.tuple #[.pointer none, .agg #[.int .i64 0, .int .i64 0, .int .i64 0, .slice none 0 0, .slice none 0 0], .bool true]) ∧ Below w.heap.size w w' := by
  obtain ⟨w1, hw1⟩ : ∃ V, w.alloc (.cells #[.int .i64 0, .int .i64 0, .int .i64 0, .slice none 0 0, .slice none 0 0] 29) = V := ⟨_, rfl⟩
  have hb1 : Below w.heap.size w w1 := by rw [← hw1]; exact (Below.refl _ w).alloc (Nat.le_refl _) _
  have hx7 : w1.heap[w.heap.size]? = some (.cells #[.int .i64 0, .int .i64 0, .int .i64 0, .slice none 0 0, .slice none 0 0] 29 (0, 0)) := by rw [← hw1]; exact World.alloc_heap_new w _
  have h26 := new_no ends most w1 hb
  have h31 := fun W => refNew_any ends most W
  simp only [hb, Bool.false_eq_true, if_false] at h31
  unfold refV at h31
  have HB := Lib.hid hb1
  have HX7 := Lib.hid hx7
  have H17 := Lib.hid (fun W => num_any 2 W (by decide) (by decide))
  have hnI : (n : Int) ≤ 50 := by omega
  clear hb1 hx7 hb
  go_enter Try.func11, Try.ntmps11
  go_upto_region 1 with fail
  clear hw1
  go_upto_region 2 with (go_at_call 26; (with_reducible refine h26.mono ?_); clear h26; rintro e w2 ⟨rfl, hb12⟩)
  have h31 := h31 w2
  go_upto_region 3 with (go_at_call 31; (with_reducible refine h31.mono ?_); clear h31; rintro e w3 ⟨rfl, hb23⟩)
  have hbc : Below w3.heap.size w3 (w3.alloc (.cells #[.int .i64 0, .int .i64 0, .int .i64 0, .slice none 0 0, .slice none 0 0] 29)) := (Below.refl _ _).alloc (Nat.le_refl _) _
  have hx11 := World.alloc_heap_new w3 (.cells #[.int .i64 0, .int .i64 0, .int .i64 0, .slice none 0 0, .slice none 0 0] 29)
  obtain ⟨w4, hw4⟩ : ∃ V, w3.alloc (.cells #[.int .i64 0, .int .i64 0, .int .i64 0, .slice none 0 0, .slice none 0 0] 29) = V := ⟨_, rfl⟩
  rw [hw4] at hbc hx11 ⊢
  obtain ⟨tb, htb⟩ : ∃ t, w3.heap.size = t := ⟨_, rfl⟩
  have hb14 := hb12.trans ((hb23.trans (hbc.mono hb23.size)).mono hb12.size)
  have hb04 := HB.out.trans (hb14.mono HB.out.size)
  have hlt1 := (Array.getElem?_eq_some_iff.1 HX7.out).1
  have HT : Hid (∀ W, But (fun q => q = w.heap.size) w4 W → W.heap[tb]? = some (.cells #[.int .i64 0, .int .i64 0, .int .i64 0, .slice none 0 0, .slice none 0 0] 29 (0, 0))) := Lib.hid fun W hb => hb.box (by rw [← htb]; exact hx11) (by have := hb12.size; have := hb23.size; omega)
  have HT7 : Hid (∀ W, Below w4.heap.size w4 W → W.heap[w.heap.size]? = some (.cells #[.int .i64 0, .int .i64 0, .int .i64 0, .slice none 0 0, .slice none 0 0] 29 (0, 0))) := Lib.hid fun W hb => ((hb14.trans (hb.mono hb14.size)).block _ hlt1).trans HX7.out
  have HB4 := Lib.hid hb04
  clear hb12 hb23 hbc hx11 hb14 hb04 hw4 hlt1
  rw [htb]
  clear htb
  go_wp2_with (go_at_call 17; (with_reducible refine (H17.out _).mono ?_); rintro e w' ⟨rfl, rfl⟩)
  go_loopw [13, 14] (fun v13 v14 wr => v14 = .int .i64 0 ∧ v13 = .bool true ∧ wr = w4) (fun _ v14 _ => 0)
  case atStart => exact ⟨rfl, rfl, rfl⟩
  case round =>
    obtain ⟨rfl, rfl, rfl⟩ := hrel
    by_cases hlt : (0 : Int) < (n : Int)
    · go_upto_region 9 with fail
      have hS0 : (fun W => But (fun q => q = w.heap.size) wr W) wr.drew := (But.refl _ _).drew
      refine wp_region_held_drew (S := fun W => But (fun q => q = w.heap.size) wr W) rfl hS0 (fun hHeld => ?_)
      simp only [List.size_toArray, List.length_cons, List.length_nil, Nat.reduceAdd]
      have HB0 : Hid (Below wr.heap.size wr wr.drew) := Lib.hid (Below.refl _ _).drew
      obtain ⟨V0, hV0⟩ : ∃ V, wr.drew = V := ⟨_, rfl⟩
      rw [hV0] at hHeld hS0 HB0 ⊢
      clear hV0
      refine wpAnyH_take (i := 0) (v := .pointer none) rfl (by kernel_rfl) (by kernel_rfl) (by kernel_rfl) (fun _ _ _ h => h) (Or.inl ⟨by rfl, ?_⟩) (by assumption) ?_
      · intro wx hs1; go_simp
      (try simp only [Act.put, List.getElem_toArray, List.getElem_cons_zero, List.setIfInBounds_toArray, List.set_cons_zero, List.set_cons_succ])
      refine wpAnyH_take (i := 1) (v := .agg #[.int .i64 0, .int .i64 0, .int .i64 0, .slice none 0 0, .slice none 0 0]) rfl (by kernel_rfl) (by kernel_rfl) (by kernel_rfl) (fun _ _ _ h => h) (Or.inl ⟨by rfl, ?_⟩) (by assumption) ?_
      · intro wx hs1; obtain ⟨k0, k1, k2, k3, k4⟩ := (five_cells (HT.out wx hs1)).1; go_simp
      (try simp only [Act.put, List.getElem_toArray, List.getElem_cons_succ, List.getElem_cons_zero, List.setIfInBounds_toArray, List.set_cons_zero, List.set_cons_succ])
      refine wpAnyH_take (i := 2) (v := .bool true) rfl (by kernel_rfl) (by kernel_rfl) (by kernel_rfl) (fun _ _ _ h => h) (Or.inl ⟨by rfl, ?_⟩) (by assumption) ?_
      · intro wx hs1; go_simp
      (try simp only [Act.put, List.getElem_toArray, List.getElem_cons_succ, List.getElem_cons_zero, List.setIfInBounds_toArray, List.set_cons_zero, List.set_cons_succ])
      refine wpAnyH_take (i := 3) (v := .pointer none) rfl (by kernel_rfl) (by kernel_rfl) (by kernel_rfl) (fun _ _ _ h => h) (Or.inl ⟨by rfl, ?_⟩) (by assumption) ?_
      · intro wx hs1; go_simp
      (try simp only [Act.put, List.getElem_toArray, List.getElem_cons_succ, List.getElem_cons_zero, List.setIfInBounds_toArray, List.set_cons_zero, List.set_cons_succ])
      obtain ⟨⟨j0, j1, j2, j3, j4⟩, ⟨g0, g1, g2, g3, g4⟩⟩ := five_cells (HT7.out V0 HB0.out)
      refine wpAnyH_ready (rs := [4]) (by kernel_rfl) (by simp) (AllReadyH.cons rfl (fun K hK => ?_) AllReadyH.nil)
      go_simp
      try dsimp only
      have hW5x := put5 (HT7.out V0 HB0.out) (.int .i64 0) (.int .i64 0) (.int .i64 0) (.slice none 0 0) (.slice none 0 0)
      have hW5b := put5_but V0 (w.heap.size) (.int .i64 0) (.int .i64 0) (.int .i64 0) (.slice none 0 0) (.slice none 0 0)
      unfold put5W at hW5x hW5b
      obtain ⟨W5, hqW5⟩ : ∃ V, put5W V0 (w.heap.size) (.int .i64 0) (.int .i64 0) (.int .i64 0) (.slice none 0 0) (.slice none 0 0) = V := ⟨_, rfl⟩
      unfold put5W at hqW5
      rw [hqW5] at hW5x hW5b ⊢
      clear hqW5 j0 j1 j2 j3 j4 g0 g1 g2 g3 g4
      have hS := hS0.trans hW5b (fun _ _ e => e)
      refine hK.out _ _ hS (fun _ => ?_)
      clear hK K
      (try simp only [Act.put, List.getElem_toArray, List.getElem_cons_succ, List.getElem_cons_zero, List.setIfInBounds_toArray, List.set_cons_zero, List.set_cons_succ])
      refine wpAnyH_take (i := 5) (v := .bool true) rfl (by kernel_rfl) (by kernel_rfl) (by kernel_rfl) (fun _ _ _ h => h) (Or.inl ⟨by rfl, ?_⟩) (by assumption) ?_
      · intro wx hs1; go_simp
      (try simp only [Act.put, List.getElem_toArray, List.getElem_cons_succ, List.getElem_cons_zero, List.setIfInBounds_toArray, List.set_cons_zero, List.set_cons_succ])
      refine wpAnyH_done (by kernel_rfl) ?_ _
      have hb5 := HB0.out
      have hbig := (HB4.out.trans (HB0.out.mono HB4.out.size)).trans (hW5b.to_below (Nat.le_trans HB4.out.size HB0.out.size) (fun b e => by omega))
      obtain ⟨⟨z0, z1, z2, z3, z4⟩, _⟩ := five_cells hW5x
      go_wp2
      exact bodyPost_ret (v := .tuple #[.pointer none, .agg #[.int .i64 0, .int .i64 0, .int .i64 0, .slice none 0 0, .slice none 0 0], .bool true]) (by simp [results, Try.results11, go_sem, z0, z1, z2, z3, z4]) rfl ⟨rfl, hbig⟩
    · go_upto_region 9 with fail
      have hS0 : (fun W => But (fun q => q = w.heap.size) wr W) wr.drew := (But.refl _ _).drew
      refine wp_region_held_drew (S := fun W => But (fun q => q = w.heap.size) wr W) rfl hS0 (fun hHeld => ?_)
      simp only [List.size_toArray, List.length_cons, List.length_nil, Nat.reduceAdd]
      have HB0 : Hid (Below wr.heap.size wr wr.drew) := Lib.hid (Below.refl _ _).drew
      obtain ⟨V0, hV0⟩ : ∃ V, wr.drew = V := ⟨_, rfl⟩
      rw [hV0] at hHeld hS0 HB0 ⊢
      clear hV0
      refine wpAnyH_take (i := 0) (v := .pointer none) rfl (by kernel_rfl) (by kernel_rfl) (by kernel_rfl) (fun _ _ _ h => h) (Or.inl ⟨by rfl, ?_⟩) (by assumption) ?_
      · intro wx hs1; go_simp
      (try simp only [Act.put, List.getElem_toArray, List.getElem_cons_zero, List.setIfInBounds_toArray, List.set_cons_zero, List.set_cons_succ])
      refine wpAnyH_take (i := 1) (v := .agg #[.int .i64 0, .int .i64 0, .int .i64 0, .slice none 0 0, .slice none 0 0]) rfl (by kernel_rfl) (by kernel_rfl) (by kernel_rfl) (fun _ _ _ h => h) (Or.inl ⟨by rfl, ?_⟩) (by assumption) ?_
      · intro wx hs1; obtain ⟨k0, k1, k2, k3, k4⟩ := (five_cells (HT.out wx hs1)).1; go_simp
      (try simp only [Act.put, List.getElem_toArray, List.getElem_cons_succ, List.getElem_cons_zero, List.setIfInBounds_toArray, List.set_cons_zero, List.set_cons_succ])
      refine wpAnyH_take (i := 2) (v := .bool true) rfl (by kernel_rfl) (by kernel_rfl) (by kernel_rfl) (fun _ _ _ h => h) (Or.inl ⟨by rfl, ?_⟩) (by assumption) ?_
      · intro wx hs1; go_simp
      (try simp only [Act.put, List.getElem_toArray, List.getElem_cons_succ, List.getElem_cons_zero, List.setIfInBounds_toArray, List.set_cons_zero, List.set_cons_succ])
      refine wpAnyH_take (i := 3) (v := .pointer none) rfl (by kernel_rfl) (by kernel_rfl) (by kernel_rfl) (fun _ _ _ h => h) (Or.inl ⟨by rfl, ?_⟩) (by assumption) ?_
      · intro wx hs1; go_simp
      (try simp only [Act.put, List.getElem_toArray, List.getElem_cons_succ, List.getElem_cons_zero, List.setIfInBounds_toArray, List.set_cons_zero, List.set_cons_succ])
      obtain ⟨⟨j0, j1, j2, j3, j4⟩, ⟨g0, g1, g2, g3, g4⟩⟩ := five_cells (HT7.out V0 HB0.out)
      refine wpAnyH_ready (rs := [4]) (by kernel_rfl) (by simp) (AllReadyH.cons rfl (fun K hK => ?_) AllReadyH.nil)
      go_simp
      try dsimp only
      have hW5x := put5 (HT7.out V0 HB0.out) (.int .i64 0) (.int .i64 0) (.int .i64 0) (.slice none 0 0) (.slice none 0 0)
      have hW5b := put5_but V0 (w.heap.size) (.int .i64 0) (.int .i64 0) (.int .i64 0) (.slice none 0 0) (.slice none 0 0)
      unfold put5W at hW5x hW5b
      obtain ⟨W5, hqW5⟩ : ∃ V, put5W V0 (w.heap.size) (.int .i64 0) (.int .i64 0) (.int .i64 0) (.slice none 0 0) (.slice none 0 0) = V := ⟨_, rfl⟩
      unfold put5W at hqW5
      rw [hqW5] at hW5x hW5b ⊢
      clear hqW5 j0 j1 j2 j3 j4 g0 g1 g2 g3 g4
      have hS := hS0.trans hW5b (fun _ _ e => e)
      refine hK.out _ _ hS (fun _ => ?_)
      clear hK K
      (try simp only [Act.put, List.getElem_toArray, List.getElem_cons_succ, List.getElem_cons_zero, List.setIfInBounds_toArray, List.set_cons_zero, List.set_cons_succ])
      refine wpAnyH_take (i := 5) (v := .bool true) rfl (by kernel_rfl) (by kernel_rfl) (by kernel_rfl) (fun _ _ _ h => h) (Or.inl ⟨by rfl, ?_⟩) (by assumption) ?_
      · intro wx hs1; go_simp
      (try simp only [Act.put, List.getElem_toArray, List.getElem_cons_succ, List.getElem_cons_zero, List.setIfInBounds_toArray, List.set_cons_zero, List.set_cons_succ])
      refine wpAnyH_done (by kernel_rfl) ?_ _
      have hb5 := HB0.out
      have hbig := (HB4.out.trans (HB0.out.mono HB4.out.size)).trans (hW5b.to_below (Nat.le_trans HB4.out.size HB0.out.size) (fun b e => by omega))
      obtain ⟨⟨z0, z1, z2, z3, z4⟩, _⟩ := five_cells hW5x
      go_wp2
      exact bodyPost_ret (v := .tuple #[.pointer none, .agg #[.int .i64 0, .int .i64 0, .int .i64 0, .slice none 0 0, .slice none 0 0], .bool true]) (by simp [results, Try.results11, go_sem, z0, z1, z2, z3, z4]) rfl ⟨rfl, hbig⟩
end Go.Proofs
