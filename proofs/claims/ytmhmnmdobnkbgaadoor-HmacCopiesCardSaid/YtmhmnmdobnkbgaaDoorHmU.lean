/-
  The laws HmacWrites and HmacCopies, both ways together, where works is under contract (the hypothesis hw5).
-/
import Derived.Test.YtmhmnmdobnkbgaaDoorM18
namespace Go.Proofs
open Go.RowKit Sm
theorem Sm.copies5_law (hw5 : Works5) (n1 c1 n2 c2 n3 c3 n4 c4 : Nat) (A1 A2 A3 A4 : Option Addr) (key a b d : List (BitVec 8)) (w : World) (ht : Tabs w) (hk : key.length = n1) (ha : a.length = n2) (hb : b.length = n3) (hd : d.length = n4)
    (hr1 : Rd w w.heap.size A1 key) (hr2 : Rd w w.heap.size A2 a) (hr3 : Rd w w.heap.size A3 b) (hr4 : Rd w w.heap.size A4 d) (hc1 : n1 ≤ c1 ∧ c1 ≤ 9223372036854775807) (hc2 : n2 ≤ c2 ∧ c2 ≤ 9223372036854775807) (hc3 : n3 ≤ c3 ∧ c3 ≤ 9223372036854775807) (hc4 : n4 ≤ c4 ∧ c4 ≤ 9223372036854775807) :
    Calls Tryd.prog 8 #[.slice A1 n1 c1, .slice A2 n2 c2, .slice A3 n3 c3, .slice A4 n4 c4] w fun e w' => e = .returned (.bool true) ∧ Below w.heap.size w w' := by
  by_cases h : 200 < n1 ∨ 200 < n2 ∨ 200 < n3 ∨ 200 < n4
  · exact copies5_no hw5 n1 c1 n2 c2 n3 c3 n4 c4 A1 A2 A3 A4 w ht h
  · exact copies5_yes hw5 n1 c1 n2 c2 n3 c3 n4 c4 A1 A2 A3 A4 key a b d w ht hk ha hb hd hr1 hr2 hr3 hr4 hc1 hc2 hc3 hc4 (by omega) (by omega) (by omega) (by omega)
theorem Sm.writes5_law (hw5 : Works5) (n1 c1 n c : Nat) (A1 A : Option Addr) (key : List (BitVec 8)) (ps : List Pt) (w : World) (ht : Tabs w) (h : PsC w A n ps) (hk : key.length = n1) (hr : Rd w w.heap.size A1 key) (hc : n1 ≤ c1 ∧ c1 ≤ 9223372036854775807) (hnm : n ≤ 9223372036854775807) :
    Calls Tryd.prog 7 #[.slice A1 n1 c1, .slice A n c] w fun e w' => e = .returned (.bool true) ∧ Below w.heap.size w w' := by
  by_cases hf : Few 10 ps ∧ n1 ≤ 200
  · exact writes5_yes hw5 n1 c1 n c A1 A key ps w ht h hf.1 hf.2 hk hr hc.1 hc.2
  · exact writes5_no hw5 n1 c1 n c A1 A ps w ht h hnm hf
end Go.Proofs
