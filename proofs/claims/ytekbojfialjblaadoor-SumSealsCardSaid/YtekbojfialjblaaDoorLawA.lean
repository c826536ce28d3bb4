/-
  The walk of the law SumPowers: at every integers it returns true and nothing that lay has turned, where the table lies in memory.
-/
import Derived.Test.YtekbojfialjblaaDoorFrame
namespace Go.Proofs
open Go.RowKit Go.Shelf Sm
section
variable {w0 w : World}
theorem Sm.mul_from (hb : Below w0.heap.size w0 w) (a b : BitVec 32) : Calls Tryd.prog 18 #[.int .u32 (iv a), .int .u32 (iv b)] w fun e W' => e = .returned (.int .u32 (iv (mul a b))) ∧ Below w0.heap.size w0 W' :=
  (mul_any a b w).mono fun _ _ ⟨he, h⟩ => ⟨he, hb.trans (h.mono hb.size)⟩
theorem Sm.mul_one_from (hb : Below w0.heap.size w0 w) (a : BitVec 32) : Calls Tryd.prog 18 #[.int .u32 (iv a), .int .u32 2147483648] w fun e W' => e = .returned (.int .u32 (iv (mul a one))) ∧ Below w0.heap.size w0 W' := by
  have e : (2147483648 : Int) = iv one := rfl
  rw [e]
  exact mul_from hb a one
theorem Sm.works_from (hb : Below w0.heap.size w0 w) (ht : Tab w0) : Calls Tryd.prog 13 #[] w fun e W' => e = .returned (.bool true) ∧ Below w0.heap.size w0 W' :=
  (works_any w (ht.below hb)).mono fun _ _ ⟨he, h⟩ => ⟨he, hb.trans (h.mono hb.size)⟩
theorem Sm.power_from (hb : Below w0.heap.size w0 w) (n : Int) (h : mayB n = true) : Calls Tryd.prog 20 #[.int .i64 n] w fun e w' => e = .returned (.tuple #[.int .u32 (iv (pw n.toNat)), .int .i64 0]) ∧ Below w0.heap.size w0 w' :=
  (Power_yes n w h).mono fun _ _ ⟨he, h⟩ => ⟨he, hb.trans (h.mono hb.size)⟩
theorem Sm.join_from (hb : Below w0.heap.size w0 w) (n : Int) (a b : BitVec 32) (h : mayB n = true) : Calls Tryd.prog 21 #[.int .u32 (iv a), .int .u32 (iv b), .int .i64 n] w fun e w' => e = .returned (.tuple #[.int .u32 (iv (mul a (pw (8 * n.toNat)) ^^^ b)), .int .i64 0]) ∧ Below w0.heap.size w0 w' :=
  (Join_yes n a b w h).mono fun _ _ ⟨he, h⟩ => ⟨he, hb.trans (h.mono hb.size)⟩
end
theorem Sm.ne_self {x y : Int} (h : x = y) : (x != y) = false := by simp [h]
theorem Sm.eq_self {x y : Int} (h : x = y) : (x == y) = true := by simp [h]
theorem Sm.mayB_mk {n : Int} (h0 : 0 ≤ n) (h1 : n ≤ 1099511627776) : mayB n = true := by simp [mayB, h0, h1]
set_option maxRecDepth 100000 in
set_option maxHeartbeats 2000000 in
theorem Sm.powers_yes (n : Int) (a b : BitVec 32) (w : World) (ht : Tab w) (h : mayB n = true) : Calls Tryd.prog 7 #[.int .i64 n, .int .u32 (iv a), .int .u32 (iv b)] w fun e w' => e = .returned (.bool true) ∧ Below w.heap.size w w' := by
  have HH := Lib.hid h
  obtain ⟨b1, b2⟩ := mayB_yes h
  clear h
  have hb := Below.refl w.heap.size w
  go_enter Tryd.func7, Tryd.ntmps7
  go_wp2_with (first
    | (go_at_call 20; refine (power_from hb n HH.out).mono ?_; clear hb; rintro e w1 ⟨rfl, hb⟩)
    | (go_at_call 21; refine (join_from hb n a b HH.out).mono ?_; clear hb; rintro e w1 ⟨rfl, hb⟩)
    | (go_at_call 22; refine (right_yes n _ HH.out).mono ?_; rintro e w2 ⟨rfl, rfl⟩)
    | (go_at_call 24; refine (refPower_any n _ b1 (by omega)).mono ?_; rintro e w2 ⟨rfl, rfl⟩)
    | (go_at_call 25; refine (refJoin_any n a b _ HH.out).mono ?_; rintro e w2 ⟨rfl, rfl⟩)
    | (go_at_call 23; refine (num_any _ _).mono ?_; rintro e w2 ⟨rfl, rfl⟩)
    | (go_at_call 13; refine (works_from hb ht).mono ?_; clear hb; rintro e w1 ⟨rfl, hb⟩))
  go_ret
  exact ⟨rfl, hb⟩
set_option maxRecDepth 100000 in
set_option maxHeartbeats 2000000 in
theorem Sm.powers_no (n : Int) (a b : BitVec 32) (w : World) (ht : Tab w) (h : mayB n = false) : Calls Tryd.prog 7 #[.int .i64 n, .int .u32 (iv a), .int .u32 (iv b)] w fun e w' => e = .returned (.bool true) ∧ Below w.heap.size w w' := by
  have HH := Lib.hid h
  clear h
  have hb := Below.refl w.heap.size w
  go_enter Tryd.func7, Tryd.ntmps7
  go_wp2_with (first
    | (go_at_call 20; refine (Power_no n _ HH.out).mono ?_; rintro e w2 ⟨rfl, rfl⟩)
    | (go_at_call 21; refine (Join_no n a b _ HH.out).mono ?_; rintro e w2 ⟨rfl, rfl⟩)
    | (go_at_call 22; refine (right_no n _ HH.out).mono ?_; rintro e w2 ⟨rfl, rfl⟩)
    | (go_at_call 23; refine (num_any _ _).mono ?_; rintro e w2 ⟨rfl, rfl⟩)
    | (go_at_call 13; refine (works_from hb ht).mono ?_; clear hb; rintro e w1 ⟨rfl, hb⟩))
  go_ret
  exact ⟨rfl, hb⟩
theorem Sm.powers_walk (n : Int) (a b : BitVec 32) (w : World) (ht : Tab w) : Calls Tryd.prog 7 #[.int .i64 n, .int .u32 (iv a), .int .u32 (iv b)] w fun e w' => e = .returned (.bool true) ∧ Below w.heap.size w w' := by
  cases h : mayB n
  · exact powers_no n a b w ht h
  · exact powers_yes n a b w ht h
