/-
  The document's sign. Condition: there is a byte.
-/
import Derived.Test.YtamlacofmihldaaDoorTxA3
import Derived.Test.YtamlacofmihldaaDoorTxA4
namespace Go.Proofs
open Go Go.RowKit Sm Go.Lib
set_option maxRecDepth 100000 in
set_option maxHeartbeats 4000000 in
theorem Sm.sign_walk (s : ByteArray) (w : World) (n b0 b1 b2 b3 : Nat) (hn : s.size = n) (hm : n ≤ 9223372036854775807) (g0 : b0 < 256) (g1 : b1 < 256) (g2 : b2 < 256) (g3 : b3 < 256)
    (i0 : ∀ w, (Instr.index 9 (.string s) (.int .i64 0)).run Tryd.prog w = .ok (.int .u8 (b0 : Int)) w)
    (i1 : 1 < n → ∀ w, (Instr.index 9 (.string s) (.int .i64 1)).run Tryd.prog w = .ok (.int .u8 (b1 : Int)) w)
    (i2 : 2 < n → ∀ w, (Instr.index 9 (.string s) (.int .i64 2)).run Tryd.prog w = .ok (.int .u8 (b2 : Int)) w)
    (i3 : 3 < n → ∀ w, (Instr.index 9 (.string s) (.int .i64 3)).run Tryd.prog w = .ok (.int .u8 (b3 : Int)) w) :
    Calls Tryd.prog 40 #[.string s] w fun e w' => e = .returned (.tuple #[.int .i64 ((signN n b0 b1 b2 b3).1 : Int), .int .i64 ((signN n b0 b1 b2 b3).2 : Int)]) ∧ Below w.heap.size w w' := by
  by_cases h1 : b0 < 224 ∨ 248 ≤ b0
  · exact sign_lo s w n b0 b1 b2 b3 hn hm g0 g1 g2 g3 h1 i0 i1 i2 i3
  · by_cases h2 : b0 < 240
    · exact sign_3 s w n b0 b1 b2 b3 hn hm g0 g1 g2 g3 ⟨by omega, h2⟩ i0 i1 i2 i3
    · exact sign_4 s w n b0 b1 b2 b3 hn hm g0 g1 g2 g3 ⟨by omega, by omega⟩ i0 i1 i2 i3
end Go.Proofs
