/-
  The contracts of Sum and More, for at most 1000000 readable parts.
-/
import Derived.Test.YteeponciegmlcaaDoorWalkI
namespace Go.Proofs
open Go.RowKit Go.Shelf Sm
theorem Sm.Only.below {a : Addr} {w w0 w' : World} (h0 : Below w.heap.size w w0) (h : Only a w0 w') (ha : w.heap.size ≤ a.block) : Below w.heap.size w w' :=
  h0.grown h.grown h0.size (fun k e => by cases e; exact ha)
theorem Sm.RdP.keep {w w' : World} {B : Nat} {A : Option Addr} {ps : List Pt} (h : RdP w B A ps) (hk : ∀ p : Addr, p.block < B → w'.cell? p = w.cell? p) : RdP w' B A ps := fun hn => by
  obtain ⟨b, off, rfl, hb, hc⟩ := h hn
  exact ⟨b, off, rfl, hb, fun j p hj => (hk _ hb).trans (hc j p hj)⟩
theorem Sm.RdP.more {w : World} {B B' : Nat} {A : Option Addr} {ps : List Pt} (h : RdP w B A ps) (hB : B ≤ B') : RdP w B' A ps := fun hn => by
  obtain ⟨b, off, rfl, hb, hc⟩ := h hn
  exact ⟨b, off, rfl, by omega, hc⟩
theorem Sm.Pt.ok.keep {p : Pt} {w w' : World} {B : Nat} (h : p.ok w B) (hk : ∀ q : Addr, q.block < B → w'.cell? q = w.cell? q) : p.ok w' B := ⟨h.1, h.2.1, h.2.2.keep hk⟩
theorem Sm.Pt.ok.more {p : Pt} {w : World} {B B' : Nat} (h : p.ok w B) (hB : B ≤ B') : p.ok w B' := ⟨h.1, h.2.1, h.2.2.more hB⟩
/-- the sum of all parts -/
def Sm.sumP (ps : List Pt) : BitVec 32 := ~~~(crcs (~~~0#32) ps)
/-- one part, in a block of its own -/
theorem Sm.RdP.one (w : World) (p : Pt) (N B : Nat) (hN : w.heap.size = N) (hB : N < B) : RdP (w.alloc (.cells #[p.val] 27)) B (some ⟨N, 0, none⟩) [p] := fun _ => by
  subst hN
  refine ⟨w.heap.size, 0, rfl, hB, fun j q hj => ?_⟩
  match j, hj with
  | 0, hj =>
    simp at hj
    subst hj
    rw [Nat.zero_add]
    simp [World.cell?_alloc_new]