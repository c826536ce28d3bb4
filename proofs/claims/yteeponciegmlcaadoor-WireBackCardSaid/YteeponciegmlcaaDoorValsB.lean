/-
  Bytes in memory, a sum over bytes, and the table of four bits: two steps by it are eight by x. No condition.
-/
import Derived.Below
import Derived.Laws.OwnMore
import Derived.Deep.AppendLies
import Derived.Deep.Draws
import Derived.Lib.Hide
import Derived.Test.YteeponciegmlcaaDoorVals
namespace Go.Proofs.Sm
open Go.RowKit
/-- a byte as the walk's number -/
def ib (x : BitVec 8) : Int := x.toNat
theorem ib_lo (x : BitVec 8) : 0 ≤ ib x := by unfold ib; omega
theorem ib_hi (x : BitVec 8) : ib x < 256 := by
  have := x.isLt
  unfold ib; omega
theorem ib_inj {x y : BitVec 8} (h : ib x = ib y) : x = y := by
  unfold ib at h
  exact BitVec.eq_of_toNat_eq (by omega)
theorem ib_iv (x : BitVec 8) : ib x = iv (x.setWidth 32) := by
  have := x.isLt
  unfold ib iv
  simp
  omega
def byteCell (c : BitVec 8) : Value := .int .u8 (ib c)
/-- the address A is that of cells that hold the bytes l, in a block below B; where there are none, nothing is said -/
def Rd (w : World) (B : Nat) (A : Option Addr) (l : List (BitVec 8)) : Prop :=
  0 < l.length → ∃ b off, A = some ⟨b, off, none⟩ ∧ b < B ∧ ∀ j c, l[j]? = some c → w.cell? ⟨b, off + j, none⟩ = some (.int .u8 (ib c))
section
variable {w w' : World} {B B' : Nat} {A : Option Addr} {l : List (BitVec 8)}
theorem Rd.nil : Rd w B A [] := fun h => absurd h (by simp)
theorem Rd.keep (h : Rd w B A l) (hk : ∀ p : Addr, p.block < B → w'.cell? p = w.cell? p) : Rd w' B A l := fun hn => by
  obtain ⟨b, off, rfl, hb, hc⟩ := h hn
  exact ⟨b, off, rfl, hb, fun j c hj => (hk _ hb).trans (hc j c hj)⟩
theorem Rd.more (h : Rd w B A l) (hB : B ≤ B') : Rd w B' A l := fun hn => by
  obtain ⟨b, off, rfl, hb, hc⟩ := h hn
  exact ⟨b, off, rfl, by omega, hc⟩
theorem Rd.below (h : Rd w B A l) (hb : Below B w w') : Rd w' B A l := h.keep fun _ hp => hb.cell hp
theorem Rd.belowTo (h : Rd w B A l) {N : Nat} (hb : Below N w w') (hN : B ≤ N) : Rd w' B A l := h.keep fun _ hp => hb.cell (by omega)
theorem Rd.alloc (h : Rd w B A l) (hB : B ≤ w.heap.size) (o : Obj) : Rd (w.alloc o) B A l := h.keep fun p hp => World.cell?_alloc_lt w o p (by omega)
theorem Rd.setCell (h : Rd w B A l) {p : Addr} (hB : B ≤ p.block) (u : Value) : Rd (w.setCell p u) B A l :=
  h.keep fun q hq => World.cell?_setCell_other w p q u (fun e => by subst e; omega)
theorem Rd.take (h : Rd w B A l) (k : Nat) : Rd w B A (l.take k) := fun hn => by
  have h0 : 0 < l.length := by rw [List.length_take] at hn; omega
  obtain ⟨b, off, rfl, hb, hc⟩ := h h0
  refine ⟨b, off, rfl, hb, fun j c hj => hc j c ?_⟩
  rw [List.getElem?_take] at hj
  split at hj
  · exact hj
  · cases hj
/-- the cell at k -/
theorem Rd.at_ (h : Rd w B A l) {k : Nat} (hk : k < l.length) : ∃ b off, A = some ⟨b, off, none⟩ ∧ b < B ∧ w.cell? ⟨b, off + k, none⟩ = some (.int .u8 (ib l[k])) := by
  obtain ⟨b, off, rfl, hb, hc⟩ := h (by omega)
  exact ⟨b, off, rfl, hb, hc k _ (List.getElem?_eq_getElem hk)⟩
end
/-- a word, and bytes behind it -/
def crc (x : BitVec 32) (l : List (BitVec 8)) : BitVec 32 := l.foldl (fun w c => iter 8 (w ^^^ c.setWidth 32)) x
theorem crc_drop (x : BitVec 32) (l : List (BitVec 8)) (k : Nat) (hk : k < l.length) : crc x (l.drop k) = crc (iter 8 (x ^^^ l[k].setWidth 32)) (l.drop (k + 1)) := by
  rw [List.drop_eq_getElem_cons hk]; rfl
theorem crc_end (x : BitVec 32) (l : List (BitVec 8)) (k : Nat) (hk : l.length ≤ k) : crc x (l.drop k) = x := by
  rw [List.drop_eq_nil_of_le hk]; rfl
theorem xor_byte (x : BitVec 32) (c : BitVec 8) : bits .xor .u32 (iv x) (ib c) = iv (x ^^^ c.setWidth 32) := by rw [ib_iv, bits_xor]
/-- the table of four bits -/
def tabL : List (BitVec 32) := [0x00000000#32, 0x1db71064#32, 0x3b6e20c8#32, 0x26d930ac#32, 0x76dc4190#32, 0x6b6b51f4#32, 0x4db26158#32, 0x5005713c#32, 0xedb88320#32, 0xf00f9344#32, 0xd6d6a3e8#32, 0xcb61b38c#32, 0x9b64c2b0#32, 0x86d3d2d4#32, 0xa00ae278#32, 0xbdbdf21c#32]
def tab (k : Nat) : BitVec 32 := tabL.getD k 0#32
/-- the memory's first block is the table -/
def Tab (w : World) : Prop := 0 < w.heap.size ∧ ∀ k, k < 16 → w.cell? ⟨0, k, none⟩ = some (.int .u32 (iv (tab k)))
theorem Tab.below {w w' : World} (h : Tab w) (hb : Below w.heap.size w w') : Tab w' := ⟨Nat.lt_of_lt_of_le h.1 hb.size, fun k hk => (hb.cell (p := ⟨0, k, none⟩) h.1).trans (h.2 k hk)⟩
theorem Tab.belowTo {w w' : World} {N : Nat} (h : Tab w) (hb : Below N w w') (hN : 0 < N) : Tab w' := ⟨Nat.lt_of_lt_of_le h.1 hb.size, fun k hk => (hb.cell (p := ⟨0, k, none⟩) hN).trans (h.2 k hk)⟩
theorem tab_xor : ∀ i, i < 16 → ∀ j, j < 16 → tab (i ^^^ j) = tab i ^^^ tab j := by decide +kernel
theorem and15 (x : BitVec 32) : bits .and .u32 (iv x) 15 = ((x.toNat % 16 : Nat) : Int) := by
  have e : (15 : Int) = iv 15#32 := rfl
  rw [e, bits_and]
  have e2 : (x &&& 15#32).toNat = x.toNat % 16 := by
    rw [BitVec.toNat_and]
    exact Nat.and_two_pow_sub_one_eq_mod _ 4
  unfold iv
  rw [e2]
theorem nib_lin : Lin (fun x => x >>> 4 ^^^ tab (x.toNat % 16)) := by
  intro a b
  simp only
  have e : (a ^^^ b).toNat % 16 = (a.toNat % 16) ^^^ (b.toNat % 16) := by
    rw [BitVec.toNat_xor]
    have h := Nat.xor_mod_two_pow (a := a.toNat) (b := b.toNat) (n := 4)
    simpa using h
  rw [e, tab_xor _ (Nat.mod_lt _ (by decide)) _ (Nat.mod_lt _ (by decide)), BitVec.ushiftRight_xor_distrib, xor4]
theorem nib_step (x : BitVec 32) : x >>> 4 ^^^ tab (x.toNat % 16) = iter 4 x := by
  revert x
  refine Lin.ext nib_lin (iter_lin 4) ?_
  decide +kernel
theorem nib_twice (x : BitVec 32) : iter 4 (iter 4 x) = iter 8 x := (iter_add 4 4 x).symm
theorem nib_walk (x : BitVec 32) : bits .xor .u32 (iv x / (16 : Int)) (iv (tab (x.toNat % 16))) = iv (iter 4 x) := by
  have h := iv_shr x 4
  have e : iv x / (16 : Int) = iv (x >>> 4) := by simpa using h
  rw [e, bits_xor, nib_step]
end Go.Proofs.Sm
