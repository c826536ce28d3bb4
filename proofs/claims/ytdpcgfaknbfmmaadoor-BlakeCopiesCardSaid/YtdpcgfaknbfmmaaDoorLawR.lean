/-
  The walk of the law BlakeKeyed: at every size, key and parts it returns true and nothing that lay has turned, where the tables lie in memory.
-/
import Derived.Test.YtdpcgfaknbfmmaaDoorLawQ
namespace Go.Proofs
open Go.RowKit Sm
theorem Sm.right_yes (size n c : Nat) (A : Option Addr) (w : World) (h0 : 1 ≤ size) (h1 : size ≤ 32) (h2 : n ≤ 32) : Calls Tryd.prog 22 #[.int .i64 (size : Int), .slice A n c] w fun e w' => e = .returned (.bool true) ∧ w = w' := by
  have a0 : (1 : Int) ≤ (size : Int) := by omega
  have a1 : (size : Int) ≤ 32 := by omega
  have a2 : (n : Int) ≤ 32 := by omega
  go_enter Tryd.func22, Tryd.ntmps22
  go_wp2
  go_ret
  exact ⟨rfl, rfl⟩
theorem Sm.right_no (size : Int) (n c : Nat) (A : Option Addr) (w : World) (h : size < 1 ∨ 32 < size ∨ 32 < n) : Calls Tryd.prog 22 #[.int .i64 size, .slice A n c] w fun e w' => e = .returned (.bool false) ∧ w = w' := by
  by_cases h1 : size < 1
  · have a0 : ¬ (1 ≤ size) := by omega
    go_enter Tryd.func22, Tryd.ntmps22
    go_wp2
    go_ret
    exact ⟨rfl, rfl⟩
  · have a0 : 1 ≤ size := by omega
    by_cases h2 : 32 < size
    · have a1 : ¬ (size ≤ 32) := by omega
      go_enter Tryd.func22, Tryd.ntmps22
      go_wp2
      go_ret
      exact ⟨rfl, rfl⟩
    · have a1 : size ≤ 32 := by omega
      have a2 : ¬ ((n : Int) ≤ 32) := by omega
      go_enter Tryd.func22, Tryd.ntmps22
      go_wp2
      go_ret
      exact ⟨rfl, rfl⟩
set_option maxRecDepth 100000 in
set_option maxHeartbeats 2000000 in
theorem Sm.keyed_few (size : Int) (n1 c1 n c : Nat) (A1 A : Option Addr) (ps : List Pt) (w : World) (ht : Tabs w) (h : PsC w A n ps) (hnm : n ≤ 9223372036854775807) (hf : ¬ Few 20 ps) :
    Calls Tryd.prog 5 #[.int .i64 size, .slice A1 n1 c1, .slice A n c] w fun e w' => e = .returned (.bool true) ∧ Below w.heap.size w w' := by
  have hj := joined_no A n c ps w h hnm hf
  have hw := fun v (hb : Below w.heap.size w v) => works_from hb ht
  clear h hf ht
  go_enter Tryd.func5, Tryd.ntmps5
  go_wp2_with (first
    | (go_at_call 18; (with_reducible refine hj.mono ?_); clear hj; rintro e w1 ⟨rfl, hb1⟩)
    | (go_at_call 17; (with_reducible refine (hw _ hb1).mono ?_); clear hw; rintro e w2 ⟨rfl, hb2⟩))
  go_ret
  exact ⟨rfl, hb2⟩
set_option maxRecDepth 100000 in
set_option maxHeartbeats 2000000 in
theorem Sm.keyed_long (size : Int) (n1 c1 n c : Nat) (A1 A : Option Addr) (ps : List Pt) (w : World) (ht : Tabs w) (h : PsC w A n ps) (hf : Few 20 ps) (hl : 100 < n1) :
    Calls Tryd.prog 5 #[.int .i64 size, .slice A1 n1 c1, .slice A n c] w fun e w' => e = .returned (.bool true) ∧ Below w.heap.size w w' := by
  have hj := joined_yes A n c ps w h hf
  have hw := fun v (hb : Below w.heap.size w v) => works_from hb ht
  have hl1 : (100 : Int) < (n1 : Int) := by omega
  clear h hf ht hl
  go_enter Tryd.func5, Tryd.ntmps5
  go_wp2_with (first
    | (go_at_call 18; (with_reducible refine hj.mono ?_); clear hj; rintro e w1 ⟨v1, rfl, _, hb1⟩)
    | (go_at_call 17; (with_reducible refine (hw _ hb1).mono ?_); clear hw; rintro e w2 ⟨rfl, hb2⟩))
  go_ret
  exact ⟨rfl, hb2⟩
/-- what the law's own copy of a key is -/
theorem Sm.copy_row {w : World} {base n : Nat} {v : Value} {l : List (BitVec 8)} (h : w.ownsRow base 5 1 v (0 + n + 1) ([] ++ l.map byteCell ++ [77#8].map byteCell)) (hl : l.length = n) : ∃ g cap, v = .slice (some ⟨g, 0, none⟩) (n + 1) cap ∧ base ≤ g ∧ n + 1 ≤ cap ∧ w.ownsRow base 5 1 (.slice (some ⟨g, 0, none⟩) (n + 1) cap) (n + 1) ((l ++ [77#8]).map byteCell) := by
  have e : [] ++ l.map byteCell ++ [77#8].map byteCell = (l ++ [77#8]).map byteCell := by simp
  rw [e, Nat.zero_add] at h
  obtain ⟨g, cap, rfl, hb, _⟩ := h.form (by omega)
  refine ⟨g, cap, rfl, hb, ?_, h⟩
  rcases h.2 with ⟨h1, _⟩ | ⟨g', cap', cur, h1, _, _, hnc, _⟩
  · cases h1
  · cases h1; exact hnc
theorem Sm.row_reads {w : World} {base g n cap : Nat} {l : List (BitVec 8)} (h : w.ownsRow base 5 1 (.slice (some ⟨g, 0, none⟩) (n + 1) cap) (n + 1) ((l ++ [77#8]).map byteCell)) (hl : l.length = n) : Rd w w.heap.size (some ⟨g, 0, none⟩) l ∧ w.cell? ⟨g, n, none⟩ = some (.int .u8 77) := by
  have hr := Rd.of_own h (Nat.le_refl _)
  refine ⟨?_, ?_⟩
  · have := hr.take n
    rwa [List.take_append_of_le_length (by omega), List.take_of_length_le (by omega)] at this
  · obtain ⟨b, off, e, _, hc⟩ := hr (by simp)
    cases e
    have := hc n 77#8 (by rw [List.getElem?_append_right (by omega), hl]; simp)
    rw [Nat.zero_add] at this
    exact this
end Go.Proofs
