/-
  Drop. Conditions: as each theorem names them.
-/
import Derived.Test.YtkipjlcbmiagcaaNtX
namespace Go.Proofs
open Go Go.RowKit Sm Go.Lib Go.Maps Go.WideMaps
attribute [local go_sem] Oper.semAt_some
set_option maxRecDepth 100000 in
set_option maxHeartbeats 1000000 in
theorem Sm.drop_bad (v : Value) (x y pick E : Int) (w : World) (hE : E ≠ 0) (hf : Calls Try.prog 41 #[v, .int .i64 x, .int .i64 y, .int .i64 pick] w fun e w' => e = .returned (.tuple #[.int .i64 0, .int .i64 E]) ∧ Below w.heap.size w w') :
    Calls Try.prog 15 #[v, .int .i64 x, .int .i64 y, .int .i64 pick] w fun e w' => e = .returned (.tuple #[.int .i64 0, .int .i64 E]) ∧ Below w.heap.size w w' := by
  have hE2 : (E != 0) = true := by simpa using hE
  clear hE
  go_enter Try.func15, Try.ntmps15
  go_wp2_with (go_at_call 41; (with_reducible refine hf.mono ?_); clear hf; rintro e w1 ⟨rfl, hb1⟩)
  go_ret2
  exact ⟨rfl, hb1⟩
set_option maxRecDepth 100000 in
set_option maxHeartbeats 1000000 in
theorem Sm.drop_yes {p Mb base g cap : Nat} {s : NSt} {D : List (Int × Int)} {L : List MsgM} (x y pick : Int) (i m : Nat) (M : MsgM) (w : World) (h : NAt w p Mb base s D (some ⟨g, 0, none⟩) cap L) (hn : L.length = i + 1 + m) (hM : L[i]? = some M)
    (hf : Calls Try.prog 41 #[.pointer (some ⟨p, 0, none⟩), .int .i64 x, .int .i64 y, .int .i64 pick] w fun e w' => e = .returned (.tuple #[.int .i64 (i : Int), .int .i64 0]) ∧ Below w.heap.size w w') :
    Calls Try.prog 15 #[.pointer (some ⟨p, 0, none⟩), .int .i64 x, .int .i64 y, .int .i64 pick] w fun e w' => e = .returned (.tuple #[.int .i64 M.num, .int .i64 0]) ∧ NAt w' p Mb base s D (some ⟨g, 0, none⟩) cap (L.eraseIdx i) ∧ But (PMay p (.slice (some ⟨g, 0, none⟩) L.length cap)) w w' := by
  have HN := Lib.hid h
  have hpg : p ≠ g := fun e => by have h1 := (h.row.lt g rfl).1; have := h.low; omega
  have hlim := h.lim
  have hn4 : i + 1 + m ≤ 4096 := by omega
  have HL := Lib.hid hn
  have HM := Lib.hid hM
  obtain ⟨q, hq⟩ : ∃ q, M.num = q := ⟨_, rfl⟩
  rw [hq]
  have HQ := Lib.hid hq
  have hiI : (i : Int) < (i : Int) + 1 + (m : Int) := by omega
  clear hlim h hn hM hq
  go_enter Try.func15, Try.ntmps15
  go_upto_region 2 with (go_at_call 41; (with_reducible refine hf.mono ?_); clear hf; rintro e w1 ⟨rfl, hb1⟩)
  have hN1 := HN.out.keep hb1
  have hrow := hN1.row
  have hc4 := cell_of_heap hN1.blk 4
  simp only [List.getElem?_toArray, List.getElem?_cons_zero, List.getElem?_cons_succ] at hc4
  have hl4 : (cellsM L).length = L.length * 4 := hN1.row.1
  have hll := HL.out
  have ck0 := (hN1.row.cellAt (i * 4) (by omega)).trans (cellsM_at L i M HM.out).1
  rw [HQ.out] at ck0
  rw [HL.out] at hrow hc4
  have h40 := without_any g i m cap base (cellsM L) w1 hrow hn4 (cellsM_one L)
  have HB1 := Lib.hid hb1
  have HN1 := Lib.hid hN1
  clear hb1 hN1 hrow hl4 hll
  go_upto_region 6 with (go_at_call 40; (with_reducible refine h40.mono ?_); clear h40; rintro e w3 ⟨rfl, hr3, hb3⟩; have HR3 := Lib.hid hr3; have HB3 := Lib.hid hb3; have d4 := cell_of_heap (hb3.box HN1.out.blk hpg) 4; have g4 := frozen_of_heap (hb3.box HN1.out.blk hpg) 4; simp only [List.getElem?_toArray, List.getElem?_cons_zero, List.getElem?_cons_succ] at d4; clear hr3 hb3 hc4)
  obtain ⟨w4, hw4⟩ : ∃ V, w3.setCell ⟨p, 4, none⟩ (.slice (some ⟨g, 0, none⟩) (i + m) cap) = V := ⟨_, rfl⟩
  rw [hw4]
  obtain ⟨hN4, hP4⟩ := NAt.cut HN1.out HL.out HB3.out HR3.out hw4.symm
  have HN4 := Lib.hid hN4
  have HP4 := Lib.hid hP4
  clear d4 g4 hN4 hP4 hw4
  go_wp2
  go_ret2
  exact ⟨rfl, HN4.out, (But.of_all HB1.out _).trans HP4.out (fun b _ e => e)⟩
end Go.Proofs
