/-
  The walk of the law SumRing: at every integers it returns true and nothing that lay has turned, where the table lies in memory.
-/
import Derived.Test.YtekbojfialjblaaDoorLawA
namespace Go.Proofs
open Go.RowKit Go.Shelf Sm
set_option maxRecDepth 100000 in
set_option maxHeartbeats 4000000 in
theorem Sm.ring_walk (a b c : BitVec 32) (m n : Int) (w : World) (ht : Tab w) : Calls Tryd.prog 12 #[.int .u32 (iv a), .int .u32 (iv b), .int .u32 (iv c), .int .i64 m, .int .i64 n] w fun e w' => e = .returned (.bool true) ∧ Below w.heap.size w w' := by
  have hb := Below.refl w.heap.size w
  have f1 := ne_self (congrArg iv (mul_comm a b))
  have f2 := ne_self (congrArg iv (mul_assoc a b c))
  have x1 := bits_xor b c
  have x2 := bits_xor (mul a b) (mul a c)
  have f3 := ne_self (congrArg iv (mul_xor a b c))
  have f4 := ne_self (congrArg iv (mul_one a))
  by_cases h : (0 ≤ m ∧ 0 ≤ n) ∧ m ≤ 549755813888 ∧ n ≤ 549755813888
  · obtain ⟨⟨m0, n0⟩, m1, n1⟩ := h
    have HM := Lib.hid (mayB_mk m0 (by omega))
    have HN := Lib.hid (mayB_mk n0 (by omega))
    have HS := Lib.hid (mayB_mk (n := m + n) (by omega) (by omega))
    have f5 : (iv (pw (m + n).toNat) == iv (mul (pw m.toNat) (pw n.toNat))) = true := eq_self (by rw [pw_add, Int.toNat_add m0 n0])
    go_enter Tryd.func12, Tryd.ntmps12
    go_wp2_with (first
      | (go_at_call 18; (with_reducible refine (mul_from hb _ _).mono ?_); clear hb; rintro e w1 ⟨rfl, hb⟩)
      | (go_at_call 18; (with_reducible refine (mul_one_from hb _).mono ?_); clear hb; rintro e w1 ⟨rfl, hb⟩)
      | (go_at_call 20; (with_reducible refine (power_from hb m HM.out).mono ?_); clear hb; rintro e w1 ⟨rfl, hb⟩)
      | (go_at_call 20; (with_reducible refine (power_from hb n HN.out).mono ?_); clear hb; rintro e w1 ⟨rfl, hb⟩)
      | (go_at_call 20; (with_reducible refine (power_from hb (m + n) HS.out).mono ?_); clear hb; rintro e w1 ⟨rfl, hb⟩)
      | (go_at_call 23; (with_reducible refine (num_any _ _).mono ?_); rintro e w2 ⟨rfl, rfl⟩)
      | (go_at_call 13; (with_reducible refine (works_from hb ht).mono ?_); clear hb; rintro e w1 ⟨rfl, hb⟩))
    go_ret
    exact ⟨rfl, hb⟩
  · go_enter Tryd.func12, Tryd.ntmps12
    go_wp2_with (first
      | (go_at_call 18; (with_reducible refine (mul_from hb _ _).mono ?_); clear hb; rintro e w1 ⟨rfl, hb⟩)
      | (go_at_call 18; (with_reducible refine (mul_one_from hb _).mono ?_); clear hb; rintro e w1 ⟨rfl, hb⟩)
      | (go_at_call 13; (with_reducible refine (works_from hb ht).mono ?_); clear hb; rintro e w1 ⟨rfl, hb⟩))
    all_goals (go_ret; exact ⟨rfl, hb⟩)

