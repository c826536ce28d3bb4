/-
  The contracts of the deeds and of the list of them, for at most 1000000 readable parts.
-/
import Derived.Maps.AppendAt
import Derived.Test.YteeponciegmlcaaDoorWalkG
namespace Go.Proofs
open Go.RowKit Go.Shelf Sm
theorem Sm.not_word (x : BitVec 32) : bits .xor .u32 4294967295 (iv x) = iv (~~~x) := by
  have e : (4294967295 : Int) = iv 0xffffffff#32 := rfl
  rw [e, bits_xor, BitVec.xor_comm]
  exact congrArg iv BitVec.xor_allOnes
set_option maxHeartbeats 400000 in
theorem Sm.deed1_any (x : BitVec 32) (w : World) : Calls Tryd.prog 78 #[.int .u32 (iv x)] w fun e w' => e = .returned (.int .u32 (iv (~~~x))) ∧ w = w' := by
  have e1 : IntKind.u32.signed = false := rfl
  have e2 : IntKind.u32.max = 4294967295 := rfl
  have hx := not_word x
  go_enter Tryd.func78, Tryd.ntmps78
  go_wp2
  go_ret
  exact ⟨rfl, rfl⟩
/-- one of the parts: where it lies, how long it is, its room, its bytes -/
structure Sm.Pt where
  A : Option Addr
  n : Nat
  c : Nat
  l : List (BitVec 8)
def Sm.Pt.val (p : Pt) : Value := .slice p.A p.n p.c
def Sm.Pt.ok (p : Pt) (w : World) (B : Nat) : Prop := p.l.length = p.n ∧ p.n ≤ 9223372036854775807 ∧ Rd w B p.A p.l
set_option maxHeartbeats 400000 in
theorem Sm.deed2_any (x : BitVec 32) (p : Pt) (B D : Nat) (w : World) (hB : w.cell? ⟨D, 0, none⟩ = some p.val) (ho : p.ok w B) (ht : Tab w) : Calls Tryd.prog 79 #[.int .u32 (iv x), .pointer (some ⟨D, 0, none⟩)] w fun e w' => e = .returned (.int .u32 (iv (crc x p.l))) ∧ w = w' := by
  obtain ⟨h1, h2, h3⟩ := ho
  have H1 := Lib.hid h1
  clear h1
  unfold Pt.val at hB
  go_enter Tryd.func79, Tryd.ntmps79
  go_wp2_with (go_at_call 80; refine (through_core _ _ _ _ _ _ _ H1 h2 h3 ht _ (Lib.hid rfl)).mono ?_; rintro e w' ⟨rfl, rfl⟩)
  go_ret
  exact ⟨rfl, rfl⟩
/-- the parts lie behind one another, in a block below B -/
def Sm.RdP (w : World) (B : Nat) (A : Option Addr) (ps : List Pt) : Prop :=
  0 < ps.length → ∃ b off, A = some ⟨b, off, none⟩ ∧ b < B ∧ ∀ (j : Nat) (p : Pt), ps[j]? = some p → w.cell? ⟨b, off + j, none⟩ = some p.val
def Sm.f45 : Value := .func (.func 78) #[] #[]
def Sm.f46 (D : Nat) : Value := .func (.func 79) #[] #[.pointer (some ⟨D, 0, none⟩)]
theorem Sm.info58 : (Tryd.prog.info? 132).map (fun i => (i.zero, i.size, i.bytes)) = some (some .nilFunc, 1, 8) := by kernel_rfl
/-- the boxes that the deeds have taken hold of hold the parts -/
def Sm.Boxes (w : World) (B : Nat) (ps : List Pt) (bx : List Nat) : Prop := bx.length = ps.length ∧ ∀ (j D : Nat) (p : Pt), bx[j]? = some D → ps[j]? = some p → B ≤ D ∧ Boxed w D 27 p.val
set_option maxRecDepth 100000 in
set_option maxHeartbeats 4000000 in
theorem Sm.deeds_any (ps : List Pt) (n c : Nat) (A : Option Addr) (w : World) (hn : Hid (ps.length = n)) (hm : n ≤ 1000000) (hr : RdP w w.heap.size A ps) :
    Calls Tryd.prog 76 #[.slice A n c] w fun e w' => ∃ v bx, e = .returned v ∧ w'.ownsRow w.heap.size 132 1 v (n + 2) (f45 :: bx.map f46 ++ [f45]) ∧ Below w.heap.size w w' ∧ Boxes w' w.heap.size ps bx := by
  obtain ⟨i0, hi, hz0, hz1, hz2⟩ := info_parts info58
  have hmf : ∀ (fn : Fn) (first cap : Array Value) (w : World), (Instr.makeFunc fn first cap).run Tryd.prog w = .ok (.func fn first cap) w := fun _ _ _ _ => rfl
  go_enter Tryd.func76, Tryd.ntmps76
  go_wp2_with (first
    | (at_make; refine wpList_make_own _ rfl _ _ 130 rfl w.heap.size 132 i0 _ 1 Tryd.underlying130 hi hz0 hz1 _ _ _ (n + 2) rfl rfl ?_ ?_ ?_ (Nat.le_refl _) ?_; omega; (rw [hz2]; omega); (unfold maxLen; omega); intro w1 hown1 hg1)
    | (at_builtin; refine wpList_append_own_at _ rfl _ _ 130 rfl w.heap.size 132 i0 _ 1 8 Tryd.underlying130 hi hz0 hz1 hz2 rfl (by decide) _ _ _ rfl (hown1.alloc _) ⟨w1.heap.size, 0, none⟩ 1 1 [f45] rfl rfl (cell_one_new _ _ _) (by simp [Value.oneCell', f45]) (by unfold maxLen; omega) (by omega) (by have := hg1.size; simp; omega) ?_; intro v2 w2 hown2 hg2 _ _))
  have hb1 : Below w.heap.size w w1 := (Below.refl _ _).grown hg1 (Nat.le_refl _) (fun k e => by cases e)
  have hb2 : Below w.heap.size w w2 := (hb1.alloc hb1.size _).grown hg2 (by have := hb1.size; simp; omega) (fun k e => by cases e; exact Nat.le_refl _)
  clear hg1 hown1 hb1 hg2
  go_loopw [4, 17] (fun v vi wr => ∃ (k : Nat) (bx : List Nat), k ≤ n ∧ vi = .int .i64 (k : Int) ∧ wr.ownsRow w.heap.size 132 1 v (k + 1) (f45 :: bx.map f46) ∧ Below w.heap.size w wr ∧ Hid (Boxes wr w.heap.size (ps.take k) bx))
    (fun _ vi _ => n - (intOf vi).toNat)
  case atStart => exact ⟨0, [], Nat.zero_le _, rfl, hown2, hb2, Lib.hid ⟨by simp, fun j D p h => by simp at h⟩⟩
  case round =>
    obtain ⟨k, bx, hk, rfl, hown, hb, HB⟩ := hrel
    clear hown2 hb2
    by_cases hlt : k < n
    · have hkl : k < ps.length := by rw [hn.out]; exact hlt
      obtain ⟨b, off, hA, hbb, hc⟩ := hr (by omega)
      have hck := (hb.cell (p := ⟨b, off + k, none⟩) hbb).trans (hc k _ (List.getElem?_eq_getElem hkl))
      obtain ⟨p, hp⟩ : ∃ p, p = ps[k] := ⟨_, rfl⟩
      rw [← hp] at hck
      have HP := Lib.hid hp
      unfold Pt.val at hck
      clear hr hc hp
      subst hA
      go_wp2_with (at_builtin; refine wpList_append_own_at _ rfl _ _ 130 rfl w.heap.size 132 i0 _ 1 8 Tryd.underlying130 hi hz0 hz1 hz2 rfl (by decide) _ _ _ rfl ((hown.alloc _).alloc _) ⟨wr.heap.size + 1, 0, none⟩ 1 1 [f46 wr.heap.size] rfl rfl ?_ (by simp [Value.oneCell', f46]) (by unfold maxLen; omega) (by omega) (by have := hb.size; simp; omega) ?_; (have hone := cell_one_new (wr.alloc (.cells #[.slice p.A p.n p.c] 27)) (f46 wr.heap.size) 132; rw [World.size_alloc] at hone; exact hone); intro v3 w3 hown3 hg3 _ _)
      have hb3 : Below w.heap.size w w3 := ((hb.alloc hb.size _).alloc (by have := hb.size; simp; omega) _).grown hg3 (by have := hb.size; simp; omega) (fun g e => (hown.lt g e).1)
      have hbx : Boxed w3 wr.heap.size 27 p.val := by
        refine ((Boxed.new wr 27 p.val).alloc _).kept hg3 ?_
        intro e
        have := (hown.lt _ e.symm).2
        omega
      go_roundw
      case rel =>
        refine ⟨k + 1, bx ++ [wr.heap.size], by omega, by go_num, by simpa using hown3, hb3, Lib.hid ⟨?_, ?_⟩⟩
        · rw [List.length_append, HB.out.1, List.length_take, List.length_take]
          simp
          omega
        · intro j D p' hD hp'
          have hl : bx.length = k := by have := HB.out.1; rw [List.length_take] at this; omega
          by_cases hj : j < k
          · rw [List.getElem?_append_left (by omega)] at hD
            have hp2 : (ps.take k)[j]? = some p' := by
              rw [List.getElem?_take, if_pos (by omega)] at hp'
              rw [List.getElem?_take, if_pos hj]
              exact hp'
            obtain ⟨h1, h2⟩ := HB.out.2 j D p' hD hp2
            exact ⟨h1, (((h2.alloc _).alloc _).kept hg3 (h2.not_row (by decide) hown))⟩
          · have hjk : j = k := by
              have := (List.getElem?_eq_some_iff.1 hD).1
              simp at this
              omega
            subst hjk
            rw [← hl] at hD
            simp at hD
            have hp3 : p = p' := by
              rw [List.getElem?_take, if_pos (by omega), List.getElem?_eq_getElem hkl, ← HP.out] at hp'
              exact Option.some.inj hp'
            subst hD
            rw [← hp3]
            exact ⟨hb.size, hbx⟩
      case measure => simp [intOf]; omega
    · have hkn : k = n := by omega
      subst hkn
      go_wp2_with (at_builtin; refine wpList_append_own_at _ rfl _ _ 130 rfl w.heap.size 132 i0 _ 1 8 Tryd.underlying130 hi hz0 hz1 hz2 rfl (by decide) _ _ _ rfl (hown.alloc _) ⟨wr.heap.size, 0, none⟩ 1 1 [f45] rfl rfl (cell_one_new _ _ _) (by simp [Value.oneCell', f45]) (by unfold maxLen; omega) (by omega) (by have := hb.size; simp; omega) ?_; intro v3 w3 hown3 hg3 _ _)
      go_ret
      refine ⟨v3, bx, rfl, hown3, (hb.alloc hb.size _).grown hg3 (by have := hb.size; simp; omega) (fun g e => (hown.lt g e).1), ?_, ?_⟩
      · have := HB.out.1
        rw [List.length_take] at this
        have h2 := hn.out
        omega
      · intro j D p hD hp
        have hj : j < k := by
          have h1 := (List.getElem?_eq_some_iff.1 hp).1
          rw [hn.out] at h1
          exact h1
        obtain ⟨h1, h2⟩ := HB.out.2 j D p hD (by rw [List.getElem?_take, if_pos hj]; exact hp)
        exact ⟨h1, (h2.alloc _).kept hg3 (h2.not_row (by decide) hown)⟩
