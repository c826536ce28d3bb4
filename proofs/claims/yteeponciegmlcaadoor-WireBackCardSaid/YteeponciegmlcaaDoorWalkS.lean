/-
  Open and its reference at every readable bytes: both answer the same bytes and the same error.
-/
import Derived.Test.YteeponciegmlcaaDoorWalkR
namespace Go.Proofs
open Go.RowKit Go.Shelf Sm
/-- are they sealed? -/
def Sm.openOk (l : List (BitVec 8)) : Prop := 4 ≤ l.length ∧ l.drop (l.length - 4) = leN (sumB (l.take (l.length - 4))) 4
instance Sm.openOkDec (l : List (BitVec 8)) : Decidable (openOk l) := by unfold openOk; exact inferInstance
/-- the bytes that opening answers -/
def Sm.openL (l : List (BitVec 8)) : List (BitVec 8) := if openOk l then l.take (l.length - 4) else []
/-- the error that opening answers -/
def Sm.openE (l : List (BitVec 8)) : Int := if openOk l then 0 else 110
def Sm.OpenP (w : World) (l : List (BitVec 8)) (e : Ending) (w' : World) : Prop :=
  ∃ v, e = .returned (.tuple #[v, .int .i64 (openE l)]) ∧ w'.ownsRow w.heap.size 5 1 v (openL l).length ((openL l).map byteCell) ∧ Below w.heap.size w w'
theorem Sm.open_short_post {w : World} {l : List (BitVec 8)} (h : l.length < 4) : OpenP w l (.returned (.tuple #[.slice none 0 0, .int .i64 110])) w := by
  have hn : ¬ openOk l := fun h2 => by have := h2.1; omega
  refine ⟨_, by unfold openE; rw [if_neg hn], ?_, Below.refl _ _⟩
  unfold openL
  rw [if_neg hn]
  exact World.ownsRow_nil _ _ _ _
theorem Sm.open_long_post {w w' : World} {l l1 l2 : List (BitVec 8)} {m : Nat} {e : Ending} (hl : l = l1 ++ l2) (h1 : l1.length = m) (h2 : l2.length = 4) (h : OpenPost w l1 l2 m e w') (hb : Below w.heap.size w w') : OpenP w l e w' := by
  have e4 : l.length - 4 = m := by rw [hl, List.length_append]; omega
  have et : l.take m = l1 := by rw [hl, List.take_append_of_le_length (by omega), List.take_of_length_le (by omega)]
  have ed : l.drop m = l2 := by rw [hl, List.drop_append_of_le_length (by omega), List.drop_of_length_le (by omega), List.nil_append]
  have hk : openOk l ↔ l2 = leN (sumB l1) 4 := by
    unfold openOk
    rw [e4, et, ed]
    exact ⟨fun h => h.2, fun h => ⟨by rw [hl, List.length_append]; omega, h⟩⟩
  unfold OpenPost at h
  by_cases hc : l2 = leN (sumB l1) 4
  · rw [if_pos hc] at h
    obtain ⟨v, rfl, hown⟩ := h
    have ho := hk.2 hc
    refine ⟨v, by unfold openE; rw [if_pos ho], ?_, hb⟩
    unfold openL
    rw [if_pos ho, e4, et, h1]
    exact hown
  · rw [if_neg hc] at h
    subst h
    have ho : ¬ openOk l := fun x => hc (hk.1 x)
    refine ⟨_, by unfold openE; rw [if_neg ho], ?_, hb⟩
    unfold openL
    rw [if_neg ho]
    exact World.ownsRow_nil _ _ _ _
theorem Sm.Open_gen (l : List (BitVec 8)) (n c : Nat) (A : Option Addr) (w : World) (hn : l.length = n) (hm : n ≤ 1000000) (hc : n ≤ c) (hr : Rd w w.heap.size A l) (ht : Tab w) :
    Calls Tryd.prog 69 #[.slice A n c] w fun e w' => OpenP w l e w' := by
  by_cases h : n < 4
  · refine (Open_short A n c w h).mono ?_
    rintro e w' ⟨rfl, rfl⟩
    exact open_short_post (by omega)
  · obtain ⟨b, off, rfl, _⟩ := hr (by omega)
    obtain ⟨m, rfl⟩ : ∃ m, n = m + 4 := ⟨n - 4, by omega⟩
    have h1 : (l.take m).length = m := by rw [List.length_take]; omega
    have h2 : (l.drop m).length = 4 := by rw [List.length_drop]; omega
    refine (Open_long (l.take m) (l.drop m) m c b off w (Lib.hid h1) (Lib.hid h2) (by omega) hc (by rw [List.take_append_drop]; exact hr) ht).mono ?_
    rintro e w' ⟨hp, hb⟩
    exact open_long_post (List.take_append_drop m l).symm h1 h2 hp hb
theorem Sm.refOpen_gen (l : List (BitVec 8)) (n c : Nat) (A : Option Addr) (w : World) (hn : l.length = n) (hm : n ≤ 1000000) (hc : n ≤ c) (hr : Rd w w.heap.size A l) :
    Calls Tryd.prog 61 #[.slice A n c] w fun e w' => OpenP w l e w' := by
  by_cases h : n < 4
  · refine (refOpen_short A n c w h).mono ?_
    rintro e w' ⟨rfl, rfl⟩
    exact open_short_post (by omega)
  · obtain ⟨b, off, rfl, _⟩ := hr (by omega)
    obtain ⟨m, rfl⟩ : ∃ m, n = m + 4 := ⟨n - 4, by omega⟩
    have h1 : (l.take m).length = m := by rw [List.length_take]; omega
    have h2 : (l.drop m).length = 4 := by rw [List.length_drop]; omega
    refine (refOpen_long (l.take m) (l.drop m) m c b off w (Lib.hid h1) (Lib.hid h2) (by omega) hc (by rw [List.take_append_drop]; exact hr)).mono ?_
    rintro e w' ⟨hp, hb⟩
    exact open_long_post (List.take_append_drop m l).symm h1 h2 hp hb
theorem Sm.byte_inc (y : BitVec 8) : (ib y + 1) % 256 = ib (y + 1#8) := by
  unfold ib
  rw [BitVec.toNat_add]
  simp
/-- a store into a row of bytes -/
theorem Sm.own_set {w : World} {base n cap g : Nat} {ys : List (BitVec 8)} (h : w.ownsRow base 5 1 (.slice (some ⟨g, 0, none⟩) n cap) n (ys.map byteCell)) (j : Nat) (y : BitVec 8) :
    (w.setCell ⟨g, j, none⟩ (.int .u8 (ib y))).ownsRow base 5 1 (.slice (some ⟨g, 0, none⟩) n cap) n ((ys.set j y).map byteCell) ∧ w.grownBy (w.setCell ⟨g, j, none⟩ (.int .u8 (ib y))) (some g) := by
  have := h.stored j (.int .u8 (ib y))
  rw [List.map_set]
  exact this
