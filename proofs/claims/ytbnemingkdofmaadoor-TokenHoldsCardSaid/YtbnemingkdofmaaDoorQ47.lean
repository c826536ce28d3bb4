/-
  The law of holding, and the opening of its arguments: texts in a row, and a token. Conditions: what the frame says of an argument that can be read.
-/
import Derived.SliceStrings
import Derived.Deep.Strs
import Derived.Test.YtbnemingkdofmaaDoorQ46
import Derived.Test.YtbnemingkdofmaaDoorQ16
namespace Go.Proofs
open Go.RowKit Go.Shelf Sm
set_option maxRecDepth 100000 in
set_option maxHeartbeats 2000000 in
theorem Sm.holds_long (f : ByteArray) (nn cc n c : Nat) (bh : Int) (A2 A : Option Addr) (ss : List ByteArray) (m s i : Int) (t : ByteArray) (w : World) (ht : Tabs w) (hs : ss.length = nn) (hm : nn ≤ 9223372036854775807) (hrs : Rds w (fun _ => False) A2 (ss.map Value.string))
    (hno : ¬ (fewB f ss = true ∧ n ≤ 200 ∧ t.size ≤ 200 ∧ 0 ≤ bh ∧ bh ≤ 5)) :
    Calls Tryd.prog 5 #[.string f, .slice A2 nn cc, .agg #[.int .i64 m, .int .i64 s, .int .i64 i], .int .i64 bh, .slice A n c, .string t] w fun e w' => e = .returned (.bool true) ∧ Below w.heap.size w w' := by
  obtain ⟨W1, hW1⟩ : ∃ x, w.alloc (.cells #[.int .i64 m, .int .i64 s, .int .i64 i] 0x24) = x := ⟨_, rfl⟩
  have hb1 : Below w.heap.size w W1 := by rw [← hW1]; exact (Below.refl _ w).alloc (Nat.le_refl _) _
  have hfw1 := few_any f nn cc A2 ss W1 hs hm (Rds.below hrs hb1)
  have HW := Lib.hid hW1
  have HB1 := Lib.hid hb1
  have HWK := Lib.hid (works_any W1 (ht.keep hb1))
  clear hW1 hb1 hrs ht hs
  by_cases g1 : fewB f ss = true
  · rw [g1] at hfw1
    have HFW := Lib.hid hfw1
    clear hfw1
    by_cases g2 : n ≤ 200
    · have h2 : ¬ (200 : Int) < (n : Int) := by omega
      by_cases g3 : t.size ≤ 200
      · have h3 : ¬ (200 : Int) < (t.size : Int) := by omega
        by_cases g4 : 0 ≤ bh
        · have h4 : ¬ bh < 0 := by omega
          have h5 : (5 : Int) < bh := by
            rcases Int.lt_or_le 5 bh with h | h
            · exact h
            · exact absurd ⟨g1, g2, g3, g4, h⟩ hno
          clear hno g1 g2 g3 g4
          go_enter Tryd.func5, Tryd.ntmps5
          go_upto_region 1 with fail
          rw [HW.out]
          go_wp2_with (first
            | (go_at_call 15; (with_reducible refine HFW.out.mono ?_); rintro e w2 ⟨rfl, rfl⟩)
            | (go_at_call 6; (with_reducible refine HWK.out.mono ?_); rintro e w8 ⟨rfl, hb8⟩))
          go_ret
          exact ⟨rfl, HB1.out.trans (hb8.mono HB1.out.size)⟩
        · have h4 : bh < 0 := by omega
          clear hno g1 g2 g3 g4
          go_enter Tryd.func5, Tryd.ntmps5
          go_upto_region 1 with fail
          rw [HW.out]
          go_wp2_with (first
            | (go_at_call 15; (with_reducible refine HFW.out.mono ?_); rintro e w2 ⟨rfl, rfl⟩)
            | (go_at_call 6; (with_reducible refine HWK.out.mono ?_); rintro e w8 ⟨rfl, hb8⟩))
          go_ret
          exact ⟨rfl, HB1.out.trans (hb8.mono HB1.out.size)⟩
      · have h3 : (200 : Int) < (t.size : Int) := by omega
        clear hno g1 g2 g3
        go_enter Tryd.func5, Tryd.ntmps5
        go_upto_region 1 with fail
        rw [HW.out]
        go_wp2_with (first
          | (go_at_call 15; (with_reducible refine HFW.out.mono ?_); rintro e w2 ⟨rfl, rfl⟩)
          | (go_at_call 6; (with_reducible refine HWK.out.mono ?_); rintro e w8 ⟨rfl, hb8⟩))
        go_ret
        exact ⟨rfl, HB1.out.trans (hb8.mono HB1.out.size)⟩
    · have h2 : (200 : Int) < (n : Int) := by omega
      clear hno g1 g2
      go_enter Tryd.func5, Tryd.ntmps5
      go_upto_region 1 with fail
      rw [HW.out]
      go_wp2_with (first
        | (go_at_call 15; (with_reducible refine HFW.out.mono ?_); rintro e w2 ⟨rfl, rfl⟩)
        | (go_at_call 6; (with_reducible refine HWK.out.mono ?_); rintro e w8 ⟨rfl, hb8⟩))
      go_ret
      exact ⟨rfl, HB1.out.trans (hb8.mono HB1.out.size)⟩
  · rw [show fewB f ss = false by simpa using g1] at hfw1
    have HFW := Lib.hid hfw1
    clear hfw1 hno g1
    go_enter Tryd.func5, Tryd.ntmps5
    go_upto_region 1 with fail
    rw [HW.out]
    go_wp2_with (first
      | (go_at_call 15; (with_reducible refine HFW.out.mono ?_); rintro e w2 ⟨rfl, rfl⟩)
      | (go_at_call 6; (with_reducible refine HWK.out.mono ?_); rintro e w8 ⟨rfl, hb8⟩))
    go_ret
    exact ⟨rfl, HB1.out.trans (hb8.mono HB1.out.size)⟩
theorem Sm.holds6_law (f : ByteArray) (nn cc n c : Nat) (bh : Int) (A2 A : Option Addr) (ss : List ByteArray) (m s i : Int) (l : List (BitVec 8)) (t : ByteArray) (w : World) (ht : Tabs w) (hs : ss.length = nn) (hm : nn ≤ 9223372036854775807) (hrs : Rds w (fun _ => False) A2 (ss.map Value.string))
    (hl : l.length = n) (hr : Rd w w.heap.size A l) :
    Calls Tryd.prog 5 #[.string f, .slice A2 nn cc, .agg #[.int .i64 m, .int .i64 s, .int .i64 i], .int .i64 bh, .slice A n c, .string t] w fun e w' => e = .returned (.bool true) ∧ Below w.heap.size w w' := by
  by_cases h : fewB f ss = true ∧ n ≤ 200 ∧ t.size ≤ 200 ∧ 0 ≤ bh ∧ bh ≤ 5
  · obtain ⟨g1, g2, g3, g4, g5⟩ := h
    have g0 := g1
    unfold fewB at g0
    simp only [Bool.and_eq_true, decide_eq_true_eq, List.all_eq_true] at g0
    obtain ⟨b, rfl⟩ : ∃ b : Nat, bh = (b : Int) := ⟨bh.toNat, by omega⟩
    exact holds_few f nn cc n c b A2 A ss m s i l t w ht hs hrs hl hr g0.2.1 g1 (fun x hx => g0.1 x hx) (by omega) g2 g3 (by omega)
  · exact holds_long f nn cc n c bh A2 A ss m s i t w ht hs hm hrs h
end Go.Proofs
namespace Go.Proofs.YtbnemingkdofmaaDoor
open Go Go.ChangeShapes Go.WideShapes Go.ChangeAt Go.WideMaps Go.WideElems Go.RowKit Sm
theorem c9s : Tryd.prog.cellsOf 9 = 1 := by kernel_rfl
theorem c36t : Tryd.prog.cellsOf 36 = 3 := by kernel_rfl
theorem c3t : Tryd.prog.cellsOf 3 = 1 := by kernel_rfl
theorem c2t : Tryd.prog.cellsOf 2 = 1 := by kernel_rfl
set_option maxRecDepth 100000 in
theorem open_strs {H : Type} {enc : TypeId × Value → H} {W : World} {base : Nat} {v : Value} {d : DataW H} {p : List MemPlace} (hok : Value.okWide Tryd.prog W .any base 41 v) (h : DataW.Trod enc Tryd.prog W 0 (fun _ => true) true 41 v d p) :
    ∃ (A : Option Addr) (n c : Nat) (ss : List ByteArray), v = .slice A n c ∧ ss.length = n ∧ n ≤ c ∧ c ≤ 9223372036854775807 ∧ Rds W (fun _ => False) A (ss.map Value.string) := by
  obtain ⟨a0, len, cap, rfl⟩ := okWide_slice Tryd.underlying41 hok
  obtain ⟨fuel, hf⟩ := h
  rcases open_strings Tryd.underlying41 Tryd.underlying9 c9s (cs := [.slice a0 len cap]) (by simpa [Value.cells] using hf) with ⟨hcs, _⟩ | ⟨a, len', cap', ss, hcs, _, hl, hm, hsl, _, hc, _⟩
  · simp only [List.cons.injEq, and_true] at hcs
    exact ⟨none, 0, 0, [], hcs, rfl, Nat.le_refl _, by omega, (fun h => absurd h (by simp))⟩
  · simp only [List.cons.injEq, and_true] at hcs
    have hlm : len' ≤ ss.length := by rw [hsl]; simp; omega
    refine ⟨some a, len', cap', ss.take len', hcs, by rw [List.length_take]; omega, hl, by unfold maxLen at hm; omega, ?_⟩
    intro h0
    rw [List.length_map, List.length_take] at h0
    have c0 := hc 0 (by omega)
    obtain ⟨b, off, spot⟩ := a
    have hspot : spot = none := by simpa [Addr.add] using World.cell?_spot c0
    subst hspot
    have hb : b < W.heap.size := by
      have := World.block_lt_of_cell? W _ c0
      rw [Go.WideShapes.add_plain] at this
      exact this
    refine ⟨b, off, rfl, hb, id, fun j x hj => ?_⟩
    rw [List.getElem?_map] at hj
    obtain ⟨s, hjs, rfl⟩ := Option.map_eq_some_iff.1 hj
    rw [List.getElem?_take] at hjs
    split at hjs
    · rename_i hjl
      have hjz : j < ss.length := (List.getElem?_eq_some_iff.1 hjs).1
      have := hc j hjz
      simp only [Go.WideShapes.add_plain] at this
      rw [this]
      rw [List.getD_eq_getElem?_getD, hjs]
      rfl
    · simp at hjs
set_option maxRecDepth 100000 in
theorem open_tok {H : Type} {enc : TypeId × Value → H} {W : World} {base : Nat} {v : Value} {d : DataW H} {p : List MemPlace} (hok : Value.okWide Tryd.prog W .any base 36 v) (h : DataW.Trod enc Tryd.prog W 0 (fun _ => true) true 36 v d p) :
    ∃ m s i : Int, v = .agg #[.int .i64 m, .int .i64 s, .int .i64 i] := by
  obtain ⟨cs, rfl, hcs⟩ := okWide_struct Tryd.underlying36 hok
  obtain ⟨fuel, hf⟩ := h
  rw [c36t] at hcs
  obtain ⟨y0, y1, y2, n, _, _, g0, g1, g2⟩ := Go.Deep.trod_struct3 Tryd.underlying36 (cs := cs.toList) (by simpa [Value.cells] using hf)
  obtain ⟨a, ha, _, _⟩ := DataW.trod_int Tryd.underlying3 g0
  obtain ⟨b, hb, _, _⟩ := DataW.trod_int Tryd.underlying2 g1
  obtain ⟨c, hc, _, _⟩ := DataW.trod_int Tryd.underlying2 g2
  rw [c3t] at ha
  rw [c2t] at hb hc
  obtain ⟨l⟩ := cs
  match l, hcs with
  | [x, y, z], _ =>
    simp at ha hb hc
    subst ha hb hc
    exact ⟨a, b, c, rfl⟩
end Go.Proofs.YtbnemingkdofmaaDoor
