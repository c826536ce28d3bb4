/-
  The contracts of the reference Sum and More, at every readable bytes.
-/
import Derived.Laws.BytesArg
import Derived.Deep.Cut
import Derived.WalkSpells
import Derived.Test.YteeponciegmlcaaDoorWalkJ
namespace Go.Proofs
open Go.RowKit Go.Shelf Sm
theorem Sm.iv_not (x : BitVec 32) : 4294967295 - iv x = iv (~~~x) := by
  have h := x.isLt
  unfold iv
  rw [BitVec.toNat_not]
  omega
def Sm.ones : BitVec 32 := 0xffffffff#32
/-- the sum of bytes -/
def Sm.sumB (l : List (BitVec 8)) : BitVec 32 := ~~~(crc ones l)
set_option maxRecDepth 100000 in
set_option maxHeartbeats 1000000 in
theorem Sm.refSum_any (l : List (BitVec 8)) (n c B : Nat) (A : Option Addr) (w : World) (hn : Hid (l.length = n)) (hm : n ≤ 9223372036854775807) (hr : Rd w B A l) :
    Calls Tryd.prog 70 #[.slice A n c] w fun e w' => e = .returned (.int .u32 (iv (sumB l))) ∧ w = w' := by
  have hx := iv_not (crc ones l)
  have h0 := iv_lo (crc ones l)
  have h1 := iv_hi (crc ones l)
  have e : ~~~(crc ones l) = sumB l := rfl
  rw [e] at hx
  clear e
  go_enter Tryd.func70, Tryd.ntmps70
  go_wp2_with (go_at_call 75; refine (refRun_any ones l n c B A _ hn hm hr).mono ?_; rintro e w' ⟨rfl, rfl⟩)
  go_ret
  exact ⟨rfl, rfl⟩
theorem Sm.sumP_one (p : Pt) : sumP [p] = sumB p.l := rfl
theorem Sm.sumP_nil : sumP [] = 0#32 := by decide
theorem Sm.crc_append (x : BitVec 32) (a b : List (BitVec 8)) : crc x (a ++ b) = crc (crc x a) b := by simp [crc]
theorem Sm.crcs_flat (x : BitVec 32) (ps : List Pt) : crcs x ps = crc x (ps.flatMap (·.l)) := by
  induction ps generalizing x with
  | nil => rfl
  | cons p r ih => rw [List.flatMap_cons, crc_append, ← ih]; rfl
theorem Sm.sumP_flat (ps : List Pt) : sumP ps = sumB (ps.flatMap (·.l)) := by
  unfold sumP sumB
  rw [crcs_flat]
  rfl
