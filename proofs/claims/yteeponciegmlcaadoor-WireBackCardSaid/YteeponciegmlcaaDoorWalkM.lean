/-
  The contract of bytes.Clone at readable bytes, at most 1000000.
-/
import Derived.Test.YteeponciegmlcaaDoorWalkL
namespace Go.Proofs
open Go.RowKit Go.Shelf Sm
theorem Sm.Rd.news {w : World} {B : Nat} {ad : Addr} {l : List (BitVec 8)} (h : Rd w B (some ad) l) : ∀ (j : Nat) (u : Value), (l.map byteCell)[j]? = some u → w.cell? (ad.add j) = some u := by
  intro j u hu
  rw [List.getElem?_map] at hu
  obtain ⟨c, hc, rfl⟩ := Option.map_eq_some_iff.1 hu
  have hj := (List.getElem?_eq_some_iff.1 hc).1
  obtain ⟨b, off, e, _, hcell⟩ := h (by omega)
  obtain rfl := Option.some.inj e
  have hadd : (⟨b, off, none⟩ : Addr).add j = ⟨b, off + j, none⟩ := by unfold Addr.add; split <;> simp_all
  rw [hadd]
  exact hcell j c hc
theorem Sm.byteCell_one (l : List (BitVec 8)) : ∀ u ∈ l.map byteCell, u.oneCell' = true := by
  intro u hu
  obtain ⟨c, _, rfl⟩ := List.mem_map.1 hu
  rfl
theorem Sm.info5 : (Tryd.prog.info? 5).map (fun i => (i.zero, i.size, i.bytes)) = some (some (.int .u8 0), 1, 1) := by kernel_rfl
/-- what the call's own row holds, as bytes -/
def Sm.OwnB (w : World) (base : Nat) (v : Value) (l : List (BitVec 8)) : Prop := w.ownsRow base 5 1 v l.length (l.map byteCell)
theorem Sm.Rd.of_own {w : World} {base N n c : Nat} {A : Option Addr} {l : List (BitVec 8)} (h : w.ownsRow base 5 1 (.slice A n c) n (l.map byteCell)) (hN : w.heap.size ≤ N) : Rd w N A l := by
  intro hl
  have hn : 0 < n := by have := h.1; simp at this; omega
  obtain ⟨g, cap, hv, _, hlt⟩ := h.form hn
  have hA : A = some ⟨g, 0, none⟩ := by injection hv
  subst hA
  refine ⟨g, 0, rfl, by omega, fun j c hj => ?_⟩
  have hjl := (List.getElem?_eq_some_iff.1 hj).1
  rw [Nat.zero_add, h.cellAt j (by have := h.1; simp at this; omega), List.getElem?_map, hj]
  rfl
set_option maxRecDepth 100000 in
set_option maxHeartbeats 1000000 in
theorem Sm.Clone_some (l : List (BitVec 8)) (n c N : Nat) (ad : Addr) (w : World) (hn : Hid (l.length = n)) (hm : n ≤ 1000000) (hN : N ≤ w.heap.size) (hr : Rd w N (some ad) l) :
    Calls Tryd.prog 40 #[.slice (some ad) n c] w fun e w' => ∃ v, e = .returned v ∧ w'.ownsRow w.heap.size 5 1 v n (l.map byteCell) ∧ Below w.heap.size w w' := by
  obtain ⟨i0, hi, hz0, hz1, hz2⟩ := info_parts info5
  have hq : ∀ wx : World, (binOp .eql 27 (.slice (some ad) n c) (.slice none 0 0)).run Tryd.prog wx = .ok (.bool false) wx := fun wx => Lib.run_eql_slice_nil wx 27 5 (some ad) n c 0 0 Tryd.underlying27
  go_enter Tryd.func40, Tryd.ntmps40
  go_wp2_with (at_builtin; refine wpList_append_own_at _ rfl _ _ 27 rfl w.heap.size 5 i0 _ 1 1 Tryd.underlying27 hi hz0 hz1 hz2 rfl (by decide) _ 0 [] rfl ?_ ad n c (l.map byteCell) rfl ?_ ?_ ?_ ?_ ?_ ?_ ?_; exact World.ownsRow_made w #[] 0 (Nat.le_refl _) (by decide) rfl; (rw [List.length_map, hn.out, Nat.mul_one]); exact (hr.alloc hN _).news; exact byteCell_one l; (unfold maxLen; omega); omega; (simp); intro v3 w3 hown3 hg3 _ _)
  go_ret
  refine ⟨v3, rfl, by simpa using hown3, ?_⟩
  refine ((Below.refl _ _).alloc (Nat.le_refl _) _).grown hg3 (by simp) (fun g e => ?_)
  cases e
  exact Nat.le_refl _
set_option maxRecDepth 100000 in
set_option maxHeartbeats 1000000 in
theorem Sm.Clone_none (c : Nat) (w : World) :
    Calls Tryd.prog 40 #[.slice none 0 c] w fun e w' => e = .returned (.slice none 0 0) ∧ w = w' := by
  have hq : ∀ wx : World, (binOp .eql 27 (.slice none 0 c) (.slice none 0 0)).run Tryd.prog wx = .ok (.bool true) wx := fun wx => Lib.run_eql_slice_nil wx 27 5 none 0 c 0 0 Tryd.underlying27
  go_enter Tryd.func40, Tryd.ntmps40
  go_wp2
  go_ret
  exact ⟨rfl, rfl⟩
theorem Sm.Clone_any (l : List (BitVec 8)) (n c N : Nat) (A : Option Addr) (w : World) (hn : Hid (l.length = n)) (hm : n ≤ 1000000) (hN : N ≤ w.heap.size) (hr : Rd w N A l) :
    Calls Tryd.prog 40 #[.slice A n c] w fun e w' => ∃ v, e = .returned v ∧ w'.ownsRow w.heap.size 5 1 v n (l.map byteCell) ∧ Below w.heap.size w w' := by
  rcases A with _ | ad
  · have hl : l = [] := by
      cases l with
      | nil => rfl
      | cons x r =>
        obtain ⟨b, off, h, _⟩ := hr (by simp)
        cases h
    subst hl
    obtain rfl : 0 = n := hn.out
    refine (Clone_none c w).mono ?_
    rintro e w' ⟨rfl, rfl⟩
    exact ⟨_, rfl, World.ownsRow_nil _ _ _ _, Below.refl _ _⟩
  · exact Clone_some l n c N ad w hn hm hN hr
