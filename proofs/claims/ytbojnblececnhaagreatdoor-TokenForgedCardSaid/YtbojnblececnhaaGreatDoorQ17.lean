/-
  A tag under way, told by its key and what was written; the contracts of New, Write, Copy and Tag in these words; num of layer 5.
-/
import Derived.Test.YtbojnblececnhaaGreatDoorQ16
namespace Go.Proofs
open Go.RowKit Sm
/-- a tag of this key to which these bytes were written -/
def Sm.MacK (w : World) (gm g : Nat) (key b : List (BitVec 8)) : Prop := MacAt w gm g (outH key) (takeS (inS key) b)
section
variable {w w' : World} {gm g : Nat} {key b : List (BitVec 8)}
theorem Sm.MacK.keep (h : MacK w gm g key b) (hb : Below w.heap.size w w') : MacK w' gm g key b := MacAt.keep h hb
theorem Sm.MacK.drew (h : MacK w gm g key b) : MacK w.drew gm g key b := MacAt.drew h
theorem Sm.MacK.but {S : Nat → Prop} (h : MacK w gm g key b) (hb : But S w w') (h1 : ¬ S gm) (h2 : ¬ S g) : MacK w' gm g key b := MacAt.but h hb h1 h2
theorem Sm.MacK.lt (h : MacK w gm g key b) : gm < w.heap.size ∧ g < w.heap.size := MacAt.lt h
end
theorem Sm.inS_cur (key : List (BitVec 8)) : (inS key).cur.length ≤ 64 := takeS_cur_le _ _
theorem Sm.newK_any (n c : Nat) (A : Option Addr) (key : List (BitVec 8)) (w : World) (ht : Tabs w) (hk : key.length = n) (hn : n ≤ 1000) (hnc : n ≤ c) (hcm : c ≤ 9223372036854775807) (hr : Rd w w.heap.size A key) :
    Calls Tryz.prog 89 #[.slice A n c] w fun e w' => ∃ gm g, e = .returned (.pointer (some ⟨gm, 0, none⟩)) ∧ w.heap.size ≤ gm ∧ w.heap.size ≤ g ∧ MacK w' gm g key [] ∧ Below w.heap.size w w' := by
  have h := macNew_any n c A key w ht hk hn hnc hcm hr
  have e : takeS (inS key) [] = inS key := takeS_none _ (inS_cur key)
  unfold MacK
  rw [e]
  exact h
theorem Sm.copyK_any (gm g : Nat) (key b : List (BitVec 8)) (w : World) (h : MacK w gm g key b) :
    Calls Tryz.prog 103 #[.pointer (some ⟨gm, 0, none⟩)] w fun e w' => ∃ gm2 g2, e = .returned (.pointer (some ⟨gm2, 0, none⟩)) ∧ w.heap.size ≤ gm2 ∧ w.heap.size ≤ g2 ∧ MacK w' gm2 g2 key b ∧ Below w.heap.size w w' := macCopy_any gm g (outH key) (takeS (inS key) b) w h
/-- what may have turned but for a hash that is the same has not -/
theorem Sm.same_hash {w w' : World} {gm g : Nat} {key b : List (BitVec 8)} (h : MacK w gm g key b) (h' : MacK w' gm g key b) (hb : But (fun k => k = g) w w') : Below w.heap.size w w' :=
  ⟨hb.os, hb.tape, hb.output, hb.size, fun k hk => by
    by_cases e : k = g
    · subst e
      have h1 := (MacAt.h h).blk
      have h2 := (MacAt.h h').blk
      exact h2.trans h1.symm
    · exact hb.block k hk e⟩
/-- the bytes of a tag, as a text -/
theorem Sm.tag_conv {w w' : World} {R : Nat} {T : List (BitVec 8)} (h : Blk w R 0x7e (bvs T)) (hl : T.length = 32) (hb : Below w.heap.size w w') : (convert 0x38 9 (.slice (some ⟨R, 0, none⟩) 32 32)).run Tryz.prog w' = .ok (.string (strB T)) w' := by
  have h2 := h.keep hb
  refine conv_rd hl fun h0 => ⟨R, 0, rfl, h2.lt, fun j c hj => ?_⟩
  rw [Nat.zero_add, h2.cell]
  simp only [bvs, List.getElem?_toArray, List.getElem?_map, hj, Option.map_some]
  rfl
end Go.Proofs
