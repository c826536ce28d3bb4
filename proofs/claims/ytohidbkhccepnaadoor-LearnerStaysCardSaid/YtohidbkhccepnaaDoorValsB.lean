/-
  Bytes in memory. No condition.
-/
import Derived.Below
import Derived.Laws.OwnMore
import Derived.Deep.AppendLies
import Derived.Deep.Draws
import Derived.Lib.Hide
import Derived.Test.YtohidbkhccepnaaDoorVals
namespace Go.Proofs.Sm
open Go.RowKit
/-- a byte as the walk's number -/
def ib (x : BitVec 8) : Int := x.toNat
theorem ib_lo (x : BitVec 8) : 0 ≤ ib x := by unfold ib; omega
theorem ib_hi (x : BitVec 8) : ib x < 256 := by
  have := x.isLt
  unfold ib; omega
theorem ib_inj {x y : BitVec 8} (h : ib x = ib y) : x = y := by
  unfold ib at h
  exact BitVec.eq_of_toNat_eq (by omega)
theorem ib_iv (x : BitVec 8) : ib x = iv (x.setWidth 32) := by
  have := x.isLt
  unfold ib iv
  simp
  omega
def byteCell (c : BitVec 8) : Value := .int .u8 (ib c)
/-- the address A is that of cells that hold the bytes l, in a block below B; where there are none, nothing is said -/
def Rd (w : World) (B : Nat) (A : Option Addr) (l : List (BitVec 8)) : Prop :=
  0 < l.length → ∃ b off, A = some ⟨b, off, none⟩ ∧ b < B ∧ ∀ j c, l[j]? = some c → w.cell? ⟨b, off + j, none⟩ = some (.int .u8 (ib c))
section
variable {w w' : World} {B B' : Nat} {A : Option Addr} {l : List (BitVec 8)}
theorem Rd.nil : Rd w B A [] := fun h => absurd h (by simp)
theorem Rd.keep (h : Rd w B A l) (hk : ∀ p : Addr, p.block < B → w'.cell? p = w.cell? p) : Rd w' B A l := fun hn => by
  obtain ⟨b, off, rfl, hb, hc⟩ := h hn
  exact ⟨b, off, rfl, hb, fun j c hj => (hk _ hb).trans (hc j c hj)⟩
theorem Rd.more (h : Rd w B A l) (hB : B ≤ B') : Rd w B' A l := fun hn => by
  obtain ⟨b, off, rfl, hb, hc⟩ := h hn
  exact ⟨b, off, rfl, by omega, hc⟩
theorem Rd.below (h : Rd w B A l) (hb : Below B w w') : Rd w' B A l := h.keep fun _ hp => hb.cell hp
theorem Rd.belowTo (h : Rd w B A l) {N : Nat} (hb : Below N w w') (hN : B ≤ N) : Rd w' B A l := h.keep fun _ hp => hb.cell (by omega)
theorem Rd.alloc (h : Rd w B A l) (hB : B ≤ w.heap.size) (o : Obj) : Rd (w.alloc o) B A l := h.keep fun p hp => World.cell?_alloc_lt w o p (by omega)
theorem Rd.setCell (h : Rd w B A l) {p : Addr} (hB : B ≤ p.block) (u : Value) : Rd (w.setCell p u) B A l :=
  h.keep fun q hq => World.cell?_setCell_other w p q u (fun e => by subst e; omega)
theorem Rd.take (h : Rd w B A l) (k : Nat) : Rd w B A (l.take k) := fun hn => by
  have h0 : 0 < l.length := by rw [List.length_take] at hn; omega
  obtain ⟨b, off, rfl, hb, hc⟩ := h h0
  refine ⟨b, off, rfl, hb, fun j c hj => hc j c ?_⟩
  rw [List.getElem?_take] at hj
  split at hj
  · exact hj
  · cases hj
/-- the cell at k -/
theorem Rd.at_ (h : Rd w B A l) {k : Nat} (hk : k < l.length) : ∃ b off, A = some ⟨b, off, none⟩ ∧ b < B ∧ w.cell? ⟨b, off + k, none⟩ = some (.int .u8 (ib l[k])) := by
  obtain ⟨b, off, rfl, hb, hc⟩ := h (by omega)
  exact ⟨b, off, rfl, hb, hc k _ (List.getElem?_eq_getElem hk)⟩
end
end Go.Proofs.Sm
