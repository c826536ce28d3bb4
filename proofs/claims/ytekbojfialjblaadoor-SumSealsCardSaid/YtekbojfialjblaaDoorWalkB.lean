/-
  The contract of the range over the bits of a word of 32 bits, for every loop body that keeps the box of the word.
-/
import Derived.RangeFuncNested
import Derived.RangeFuncBound
import Derived.RangeFuncCalls
import Derived.RangeFuncLeaves
import Derived.Shelf.Abstract
import Derived.Shelf.RegionOpen
import Derived.WalkKit
import Derived.OwnWalkIn
import Derived.TacticsInMore
import Derived.LoopNIn
import Derived.LoopIn
import Derived.Outline
import Derived.LoopTactic
import Derived.OwnWalk
import Derived.Lib.Hide
import Derived.Test.YtekbojfialjblaaDoorProg
import Derived.Test.YtekbojfialjblaaDoorVals
namespace Go.Proofs
open Go.RowKit Go.Shelf Sm
attribute [local go_sem] Oper.semAt_some
namespace Sm
/-- what a round keeps: the block B with the word w -/
def KeepB (B : Nat) (v : Value) (W W' : World) : Prop := Boxed W B 24 v → Boxed W' B 24 v
end Sm
set_option maxRecDepth 100000 in
set_option maxHeartbeats 2000000 in
theorem Sm.bits32_in (F : Fence) (n : Nat) (h42 : F.fn 42) (hro : F.round = none) (hn : 1 ≤ n) (l B : Nat) (x : BitVec 32) (J Jx : List (Fin 32) → World → Prop)
    (hY : ∀ pre k W, J pre W → pre.length < 32 → YieldAt F (n - 1) Tryd.prog l (enc32 x k) W fun e W' =>
      (e = .returned (.bool true) ∧ J (pre ++ [k]) W' ∧ KeepB B (.int .u32 (iv x)) W W') ∨ (e = .returned (.bool false) ∧ Jx (pre ++ [k]) W'))
    (W : World) (hB : Boxed W B 24 (.int .u32 (iv x))) (h0 : J [] W) :
    CallsIn F n Tryd.prog 42 #[.func (.yield l) #[] #[], .pointer (some ⟨B, 0, none⟩)] W fun e W' => (∃ v, e = .returned v) ∧
      ((∃ ys, ys = upto 32 ∧ J ys W') ∨ (∃ pre, (∃ k, k < 32 ∧ pre = upto (k + 1)) ∧ Jx pre W')) := by
  refine callsIn_of_wp Tryd.func42 rfl h42 ?_ hro
  simp only [Tryd.ntmps42, List.size_toArray, List.length_cons, List.length_nil, Nat.reduceAdd, Nat.reduceSub, Array.replicate_succ, Array.replicate_zero, List.push_toArray, List.append_toArray, List.nil_append, List.cons_append]
  have e1 : IntKind.u32.signed = false := rfl
  have e2 : IntKind.u32.max = 4294967295 := rfl
  have e3 : bits .xor .u32 4294967295 0 = 4294967295 := by decide
  have e4 : bits .xor .u32 4294967295 2147483647 = iv (bas 0) := by decide
  gi_wp2
  clear e1 e2 e3 e4
  gi_loopw [3, 4] (fun vi vm wr => ∃ k : Nat, k ≤ 32 ∧ vi = .int .i64 (k : Int) ∧ vm = .int .u32 (iv (bas k)) ∧ J (upto k) wr ∧ Boxed wr B 24 (.int .u32 (iv x)))
    (fun vi _ _ => 32 - (intOf vi).toNat)
  case atStart => exact ⟨0, Nat.zero_le _, rfl, rfl, h0, hB⟩
  case round =>
    obtain ⟨k, hk, rfl, rfl, hJs, hBx⟩ := hrel
    have hc := hBx.cell
    by_cases hlt : k < 32
    · obtain ⟨fn, tmps, assign, body, hy, hR⟩ := hY _ ⟨k, hlt⟩ wr hJs (by rw [upto_length]; exact hlt)
      dsimp only [enc32] at hy
      have hz := bas_nz k hlt
      have ht := and_bas x k hlt
      gi_wp2
      refine hR.mono ?_
      rintro e W3 (⟨rfl, hJ3, hk3⟩ | ⟨rfl, hJx3⟩)
      · -- the round goes on
        gi_wp2
        go_roundw
        case rel => exact ⟨k + 1, by omega, by simp, by rw [bas_half], by rw [upto_succ k hlt]; exact hJ3, hk3 hBx⟩
        case measure => simp [intOf]; omega
      · gi_wp2
        refine bodyPost_ret (results_none rfl _ _ _) rfl ?_
        exact ⟨⟨_, rfl⟩, .inr ⟨_, ⟨k, hlt, (upto_succ k hlt).symm⟩, hJx3⟩⟩
    · obtain rfl : k = 32 := by omega
      have hz := bas_z
      gi_wp2
      go_end0
      exact ⟨⟨_, rfl⟩, .inl ⟨_, rfl, hJs⟩⟩
