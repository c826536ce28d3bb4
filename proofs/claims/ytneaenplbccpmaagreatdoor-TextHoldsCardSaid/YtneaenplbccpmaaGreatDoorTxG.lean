/-
  The law TextCuts, where works holds. Condition: works returns true wherever nothing that lay has turned.
-/
import Derived.Test.YtneaenplbccpmaaGreatDoorTxF
namespace Go.Proofs
open Go Go.RowKit Sm Go.Lib
/-- works holds, wherever what lay at w0 still lies -/
def Sm.WorksT (w0 : World) : Prop := ∀ w, Below w0.heap.size w0 w → Calls Tryz.prog 12 #[] w fun e w' => e = .returned (.bool true) ∧ Below w.heap.size w w'
set_option maxRecDepth 100000 in
set_option maxHeartbeats 2000000 in
theorem Sm.cuts_law (s : ByteArray) (n : Int) (w : World) (hs : s.size ≤ 9223372036854775807) (h0 : -9223372036854775808 ≤ n) (h1 : n ≤ 9223372036854775807) (hw : WorksT w) :
    Calls Tryz.prog 4 #[.string s, .int .i64 n] w fun e w' => e = .returned (.bool true) ∧ Below w.heap.size w w' := by
  by_cases hl : 300 < s.size
  · have h12 := hw w (Below.refl _ _)
    go_enter Tryz.func4, Tryz.ntmps4
    go_wp2_with (go_at_call 12; (with_reducible refine h12.mono ?_); rintro e w1 ⟨rfl, hb1⟩)
    go_ret
    exact ⟨rfl, hb1⟩
  · have hm : s.size ≤ 1000000 := by omega
    have c16 := Cut_any s n w hm h0 h1
    have c17 := fun w => refCut_any s n w hm h0 h1
    have c18 := fun w => Fold_any s w hm
    have c19 := fun w => refFold_any s w hm
    have HW := Lib.hid hw
    clear hw
    go_enter Tryz.func4, Tryz.ntmps4
    go_wp2_with (first
      | (go_at_call 16; (with_reducible refine c16.mono ?_); clear c16; rintro e w1 ⟨rfl, hb1⟩)
      | (go_at_call 17; (with_reducible refine (c17 _).mono ?_); rintro e w2 ⟨rfl, hb2⟩; replace hb2 := hb1.trans (hb2.mono hb1.size))
      | (go_at_call 18; (with_reducible refine (c18 _).mono ?_); rintro e w3 ⟨rfl, hb3⟩; replace hb3 := hb2.trans (hb3.mono hb2.size))
      | (go_at_call 19; (with_reducible refine (c19 _).mono ?_); rintro e w4 ⟨rfl, hb4⟩; replace hb4 := hb3.trans (hb4.mono hb3.size); have h12 := HW.out _ hb4)
      | (go_at_call 12; (with_reducible refine h12.mono ?_); clear h12; rintro e w5 ⟨rfl, hb5⟩))
    go_ret
    exact ⟨rfl, hb4.trans (hb5.mono hb4.size)⟩
end Go.Proofs
