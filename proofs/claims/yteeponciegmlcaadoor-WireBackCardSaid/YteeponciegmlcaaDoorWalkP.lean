/-
  The contract of Open at readable bytes: the bytes without the sum, or ErrSum.
-/
import Derived.Deep.QuietTactic
import Derived.BigQuiet
import Derived.Test.YteeponciegmlcaaDoorWalkO
namespace Go.Proofs
open Go.RowKit Go.Shelf Sm
set_option maxRecDepth 100000 in
set_option maxHeartbeats 2000000 in
theorem Sm.Open_short (A : Option Addr) (n c : Nat) (w : World) (hn : n < 4) :
    Calls Tryd.prog 69 #[.slice A n c] w fun e w' => e = .returned (.tuple #[.slice none 0 0, .int .i64 110]) ∧ w = w' := by
  go_enter Tryd.func69, Tryd.ntmps69
  go_wp2
  go_ret2
  exact ⟨rfl, rfl⟩
theorem Sm.Rd.drop {w : World} {B b off : Nat} {l : List (BitVec 8)} (h : Rd w B (some ⟨b, off, none⟩) l) (k : Nat) : Rd w B (some ⟨b, off + k, none⟩) (l.drop k) := by
  intro hl
  have h0 : 0 < l.length := by rw [List.length_drop] at hl; omega
  obtain ⟨b', off', e, hb, hc⟩ := h h0
  simp only [Option.some.injEq, Addr.mk.injEq, and_true] at e
  obtain ⟨rfl, rfl⟩ := e
  refine ⟨b, off + k, rfl, hb, fun j c hj => ?_⟩
  rw [List.getElem?_drop] at hj
  rw [Nat.add_assoc]
  exact hc _ c hj
theorem Sm.below_drewN (w : World) (n : Nat) : Below w.heap.size w (w.drewN n) := ⟨rfl, rfl, rfl, Nat.le_refl _, fun _ _ => rfl⟩
/-- what opening answers -/
def Sm.OpenPost (w : World) (l1 l2 : List (BitVec 8)) (m : Nat) (e : Ending) (w' : World) : Prop :=
  if l2 = leN (sumB l1) 4 then ∃ v, e = .returned (.tuple #[v, .int .i64 0]) ∧ w'.ownsRow w.heap.size 5 1 v m (l1.map byteCell)
  else e = .returned (.tuple #[.slice none 0 0, .int .i64 110])
set_option maxRecDepth 100000 in
set_option maxHeartbeats 4000000 in
theorem Sm.Open_long (l1 l2 : List (BitVec 8)) (m c b off : Nat) (w : World) (h1 : Hid (l1.length = m)) (h2 : Hid (l2.length = 4)) (hm : m ≤ 1000000) (hc : m + 4 ≤ c) (hr : Rd w w.heap.size (some ⟨b, off, none⟩) (l1 ++ l2)) (ht : Tab w) :
    Calls Tryd.prog 69 #[.slice (some ⟨b, off, none⟩) (m + 4) c] w fun e w' => OpenPost w l1 l2 m e w' ∧ Below w.heap.size w w' := by
  have b0 : 0 ≤ ((m : Int) + 4) - 4 := by omega
  have b2 : (m : Int) + 4 ≤ c := by omega
  have hr1 : Rd w w.heap.size (some ⟨b, off, none⟩) l1 := by
    have := hr.take m
    rwa [List.take_append_of_le_length (by rw [h1.out]; exact Nat.le_refl _), List.take_of_length_le (by rw [h1.out]; exact Nat.le_refl _)] at this
  have hr2 : Rd w w.heap.size (some ⟨b, off + m, none⟩) l2 := by
    have := hr.drop m
    rwa [List.drop_append_of_le_length (by rw [h1.out]; exact Nat.le_refl _), List.drop_of_length_le (by rw [h1.out]; exact Nat.le_refl _), List.nil_append] at this
  have hok1 : Hid (Pt.ok ⟨some ⟨b, off, none⟩, m, c, l1⟩ w w.heap.size) := Lib.hid ⟨h1.out, by show m ≤ 9223372036854775807; omega, hr1⟩
  clear hr
  by_cases he : l2 = leN (sumB l1) 4
  · have hd : decide (leN (sumB l1) 4 = l2) = true := decide_eq_true he.symm
    have HE := Lib.hid he
    clear he
    go_enter Tryd.func69, Tryd.ntmps69
    go_wp2
    go_quiet (fail)
    have hbq := below_drewN w nq
    go_wp2_with (first
      | (go_at_call 66; refine (seal_any ⟨some ⟨b, off, none⟩, m, c, l1⟩ (w.drewN nq) (show Pt.ok _ (w.drewN nq) (w.drewN nq).heap.size from hok1.out) (show Tab (w.drewN nq) from ht)).mono ?_; rintro e w3 ⟨rfl, hb3⟩; have hb3w : Below w.heap.size w w3 := hbq.trans hb3)
      | (go_at_call 67; refine (tail_any _ _ _ _ _).mono ?_; rintro e w4 ⟨v4, rfl, hown4, hb4⟩; obtain ⟨A4, c4, rfl⟩ := own_slice hown4; have hb4w : Below w.heap.size w w4 := hb3w.trans (hb4.mono hb3w.size))
      | (go_at_call 74; refine (Equal_any (leN (sumB l1) 4) l2 4 4 c4 (c - m) A4 (some ⟨b, off + m, none⟩) w4.heap.size w4 (Lib.hid (leN_length _ _)) h2 (Rd.of_own hown4 (Nat.le_refl _)) ((hr2.below hb4w).more hb4w.size)).mono ?_; rintro e w5 ⟨rfl, rfl⟩)
      | (go_at_call 40; refine (Clone_any l1 m c w.heap.size (some ⟨b, off, none⟩) w4 h1 hm hb4w.size (hr1.below hb4w)).mono ?_; rintro e w6 ⟨v6, rfl, hown6, hb6⟩))
    go_ret2
    refine ⟨?_, hb4w.trans (hb6.mono hb4w.size)⟩
    unfold OpenPost
    rw [if_pos HE.out]
    exact ⟨v6, rfl, own_base hown6 hb4w.size⟩
  · have hd : decide (leN (sumB l1) 4 = l2) = false := decide_eq_false (fun e => he e.symm)
    have HE := Lib.hid he
    clear he
    go_enter Tryd.func69, Tryd.ntmps69
    go_wp2
    go_quiet (fail)
    have hbq := below_drewN w nq
    go_wp2_with (first
      | (go_at_call 66; refine (seal_any ⟨some ⟨b, off, none⟩, m, c, l1⟩ (w.drewN nq) (show Pt.ok _ (w.drewN nq) (w.drewN nq).heap.size from hok1.out) (show Tab (w.drewN nq) from ht)).mono ?_; rintro e w3 ⟨rfl, hb3⟩; have hb3w : Below w.heap.size w w3 := hbq.trans hb3)
      | (go_at_call 67; refine (tail_any _ _ _ _ _).mono ?_; rintro e w4 ⟨v4, rfl, hown4, hb4⟩; obtain ⟨A4, c4, rfl⟩ := own_slice hown4; have hb4w : Below w.heap.size w w4 := hb3w.trans (hb4.mono hb3w.size))
      | (go_at_call 74; refine (Equal_any (leN (sumB l1) 4) l2 4 4 c4 (c - m) A4 (some ⟨b, off + m, none⟩) w4.heap.size w4 (Lib.hid (leN_length _ _)) h2 (Rd.of_own hown4 (Nat.le_refl _)) ((hr2.below hb4w).more hb4w.size)).mono ?_; rintro e w5 ⟨rfl, rfl⟩))
    go_ret2
    refine ⟨?_, hb4w⟩
    unfold OpenPost
    rw [if_neg HE.out]
    rfl
