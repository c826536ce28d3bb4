/-
  learner: the majority; places and what their iterator promises; won. Conditions: as each theorem names them.
-/
import Derived.LoopIn
import Derived.OwnWalkIn
import Derived.TacticsInMore
import Derived.Test.YtohidbkhccepnaaDoorSlR
import Derived.Test.YtohidbkhccepnaaDoorLeA
namespace Go.Proofs
open Go Go.RowKit Sm Go.Lib
attribute [local go_sem] Oper.semAt_some
theorem Sm.f30_any (b : Nat) (c : Int) (w : World) (hc : w.cell? ⟨b, 0, none⟩ = some (.int .i64 c)) (h : chB c = true) : Calls Tryd.prog 42 #[.pointer (some ⟨b, 0, none⟩)] w fun e w' => e = .returned (.int .i64 (c / 2 + 1)) ∧ w = w' := by
  rcases chB_iff.1 h with rfl | rfl | rfl | rfl
  all_goals
    go_enter Tryd.func42, Tryd.ntmps42
    go_wp2
    go_ret
    exact ⟨rfl, rfl⟩
theorem Sm.Majority_any (c : Int) (w : World) (hc : chB c = true) : Calls Tryd.prog 29 #[.int .i64 c] w fun e w' => e = .returned (.tuple #[.int .i64 (c / 2 + 1), .int .i64 0]) ∧ Below w.heap.size w w' := by
  have h1 := fun W => Check_any c W
  have hb0 : Below w.heap.size w (w.alloc (.cells #[.int .i64 c] 29)) := (Below.refl _ w).alloc (Nat.le_refl _) _
  have h2 := fun W (hw : W.cell? ⟨w.heap.size, 0, none⟩ = some (.int .i64 c)) => f30_any w.heap.size c W hw
  have c0 := box_cell w (.int .i64 c) 29
  have HK : ∀ W, Below (w.alloc (.cells #[.int .i64 c] 29)).heap.size (w.alloc (.cells #[.int .i64 c] 29)) W → W.cell? ⟨w.heap.size, 0, none⟩ = some (.int .i64 c) := fun W hb => cell_keep hb (by simp) c0
  have h3 : ∀ W, W.cell? ⟨w.heap.size, 0, none⟩ = some (.int .i64 c) → Calls Tryd.prog 24 #[.int .i64 0, .func (.func 42) #[] #[.pointer (some ⟨w.heap.size, 0, none⟩)]] W fun e w' => e = .returned (.tuple #[.int .i64 (c / 2 + 1), .int .i64 0]) ∧ W = w' :=
    fun W hw => answer_ok 42 _ (enters_of Tryd.func42 (by kernel_rfl) rfl) _ W (h2 W hw hc)
  have H3 := Lib.hid h3
  have HK := Lib.hid HK
  rw [hc] at h1
  simp only [if_true] at h1 ⊢
  clear h2 h3 hc
  go_enter Tryd.func29, Tryd.ntmps29
  go_wp2_with (first | (go_at_call 41; (with_reducible refine (h1 _).mono ?_); rintro e w1 ⟨rfl, hb1⟩; have c1 := HK.out w1 hb1) | (go_at_call 24; refine (H3.out _ c1).mono ?_; rintro e w' ⟨rfl, rfl⟩))
  go_ret2
  exact ⟨rfl, hb0.trans (hb1.mono hb0.size)⟩
/-- how many of the first places are among them -/
def Sm.votF (f : Nat → Bool) : Nat → Nat
  | 0 => 0
  | n + 1 => votF f n + (if f n = true then 1 else 0)
theorem Sm.votF_le (f : Nat → Bool) (n : Nat) : votF f n ≤ n := by
  induction n with
  | zero => exact Nat.le_refl _
  | succ n ih => unfold votF; split <;> omega
theorem Sm.votF_mono (f : Nat → Bool) {m n : Nat} (h : m ≤ n) : votF f m ≤ votF f n := by
  induction n with
  | zero =>
    obtain rfl : m = 0 := by omega
    exact Nat.le_refl _
  | succ n ih =>
    by_cases e : m = n + 1
    · rw [e]
      exact Nat.le_refl _
    · exact Nat.le_trans (ih (by omega)) (Nat.le_add_right _ _)
theorem Sm.votF_lt (f : Nat → Bool) {m n : Nat} (h : m < n) (hf : f m = true) : votF f m < votF f n := by
  have h1 := votF_mono f (show m + 1 ≤ n from h)
  have h2 : votF f (m + 1) = votF f m + 1 := by
    rw [votF]
    simp [hf]
  omega
theorem Sm.idx52 (f : Nat → Bool) (k : Nat) (hk : k < 9) (W : World) : (Instr.index 56 (.agg #[.bool (f 0), .bool (f 1), .bool (f 2), .bool (f 3), .bool (f 4), .bool (f 5), .bool (f 6), .bool (f 7), .bool (f 8)]) (.int .i64 (k : Int))).run Tryd.prog W = .ok (.bool (f k)) W := by
  obtain rfl | rfl | rfl | rfl | rfl | rfl | rfl | rfl | rfl : k = 0 ∨ k = 1 ∨ k = 2 ∨ k = 3 ∨ k = 4 ∨ k = 5 ∨ k = 6 ∨ k = 7 ∨ k = 8 := by omega
  all_goals kernel_rfl
theorem Sm.cells9 {W : World} {b : Nat} {f : Nat → Bool} (h : W.heap[b]? = some (.cells #[.bool (f 0), .bool (f 1), .bool (f 2), .bool (f 3), .bool (f 4), .bool (f 5), .bool (f 6), .bool (f 7), .bool (f 8)] 56 (0, 0))) :
    W.cell? ⟨b, 0, none⟩ = some (.bool (f 0)) ∧ W.cell? ⟨b, 1, none⟩ = some (.bool (f 1)) ∧ W.cell? ⟨b, 2, none⟩ = some (.bool (f 2)) ∧ W.cell? ⟨b, 3, none⟩ = some (.bool (f 3)) ∧ W.cell? ⟨b, 4, none⟩ = some (.bool (f 4)) ∧
    W.cell? ⟨b, 5, none⟩ = some (.bool (f 5)) ∧ W.cell? ⟨b, 6, none⟩ = some (.bool (f 6)) ∧ W.cell? ⟨b, 7, none⟩ = some (.bool (f 7)) ∧ W.cell? ⟨b, 8, none⟩ = some (.bool (f 8)) :=
  ⟨cell_of_heap h 0, cell_of_heap h 1, cell_of_heap h 2, cell_of_heap h 3, cell_of_heap h 4, cell_of_heap h 5, cell_of_heap h 6, cell_of_heap h 7, cell_of_heap h 8⟩
theorem Sm.places_any (f : Nat → Bool) (w : World) : Calls Tryd.prog 30 #[.agg #[.bool (f 0), .bool (f 1), .bool (f 2), .bool (f 3), .bool (f 4), .bool (f 5), .bool (f 6), .bool (f 7), .bool (f 8)]] w fun e w' => ∃ b, e = .returned (.func (.func 43) #[] #[.pointer (some ⟨b, 0, none⟩)]) ∧ w.heap.size ≤ b ∧ w'.heap[b]? = some (.cells #[.bool (f 0), .bool (f 1), .bool (f 2), .bool (f 3), .bool (f 4), .bool (f 5), .bool (f 6), .bool (f 7), .bool (f 8)] 56 (0, 0)) ∧ Below w.heap.size w w' := by
  go_enter Tryd.func30, Tryd.ntmps30
  go_wp2
  go_ret
  exact ⟨_, rfl, Nat.le_refl _, World.alloc_heap_new w _, (Below.refl _ _).alloc (Nat.le_refl _) _⟩
def Sm.rowD : Array Value → Nat → Prop := fun _ _ => False
/-- the k-th of the places -/
def Sm.HPl (f : Nat → Bool) (_L k : Nat) (args : Array Value) (_W : World) : Prop := ∃ p : Nat, p < 9 ∧ f p = true ∧ k = votF f p ∧ args = #[.int .i64 (p : Int)]
set_option maxRecDepth 100000 in
set_option maxHeartbeats 4000000 in
theorem Sm.places_seq {b : Nat} {f : Nat → Bool} (w : World) (h : w.heap[b]? = some (.cells #[.bool (f 0), .bool (f 1), .bool (f 2), .bool (f 3), .bool (f 4), .bool (f 5), .bool (f 6), .bool (f 7), .bool (f 8)] 56 (0, 0))) (X : Nat → Prop) :
    SeqX Tryd.prog 43 #[.pointer (some ⟨b, 0, none⟩)] X (HPl f) rowD (fun _ => True) (fun k => k = votF f 9) (fun k => 1 ≤ k ∧ k ≤ votF f 9) w := by
  intro L0 J Jx W hW hJ hJx hY hJ0
  have hc := (hW.block _ (Array.getElem?_eq_some_iff.1 h).1).trans h
  obtain ⟨c0, c1, c2, c3, c4, c5, c6, c7, c8⟩ := cells9 hc
  obtain ⟨L, hL⟩ : ∃ L, W.heap.size = L := ⟨_, rfl⟩
  have HE0 : Hid (J (votF f 0) W ∧ L ≤ W.heap.size) := Lib.hid ⟨hJ0, Nat.le_of_eq hL.symm⟩
  show Calls Tryd.prog 43 #[.func (.yield L0) #[] #[], .pointer (some ⟨b, 0, none⟩)] W _
  rw [hL] at hJ hJx hY
  have HY := Lib.hid hY
  clear hJ0 h hc hL hW hY
  go_enter Tryd.func43, Tryd.ntmps43
  go_wp2
  go_loopw [6] (fun v6 wr => ∃ k : Nat, k ≤ 9 ∧ v6 = .int .i64 (k : Int) ∧ Hid (J (votF f k) wr ∧ L ≤ wr.heap.size)) (fun v6 _ => 9 - (RowKit.intOf v6).toNat)
  case atStart => exact ⟨0, Nat.zero_le _, rfl, HE0⟩
  case round =>
    obtain ⟨wo, rfl⟩ : ∃ wo : World, wo = wr := ⟨_, rfl⟩
    obtain ⟨k, hk, rfl, HE⟩ := hrel
    clear HE0 c0 c1 c2 c3 c4 c5 c6 c7 c8
    by_cases hlt : k < 9
    · have hix := fun W => idx52 f k hlt W
      cases hf : f k with
      | false =>
        rw [hf] at hix
        have HN : Hid (J (votF f (k + 1)) wo ∧ L ≤ wo.heap.size) := Lib.hid (by rw [show votF f (k + 1) = votF f k by rw [votF]; simp [hf]]; exact HE.out)
        clear hf
        go_wp2
        go_roundw
        case rel => exact ⟨k + 1, by omega, by go_num, HN⟩
        case measure => simp [RowKit.intOf]; omega
      | true =>
        rw [hf] at hix
        obtain ⟨fn, tmps, assign, body, hy, hR⟩ := HY.out (votF f k) #[.int .i64 (k : Int)] wo HE.out.1 ⟨k, hlt, hf, rfl, rfl⟩
        have hcn : votF f (k + 1) = votF f k + 1 := by rw [votF]; simp [hf]
        have hle := votF_mono f (show k + 1 ≤ 9 from hlt)
        have HC := Lib.hid hcn
        have HLE := Lib.hid hle
        have HSZ := Lib.hid HE.out.2
        clear hf HY hcn hle HE
        go_upto_region 3 with fail
        refine (wpIn_wide (n := 3)).1 ?_
        gi_wp2
        refine (roundIn_any hR).mono ?_
        clear hR hy
        rintro e W3 (⟨rfl, _, hJ3, hbut⟩ | ⟨rfl, hJx3, _⟩)
        · have HE3 : Hid (J (votF f (k + 1)) W3 ∧ L ≤ W3.heap.size) := Lib.hid ⟨by rw [HC.out]; exact hJ3, Nat.le_trans HSZ.out hbut.size⟩
          clear hbut hJ3
          gi_wp2
          go_wp2_with fail
          go_roundw
          case rel => exact ⟨k + 1, by omega, by go_num, HE3⟩
          case measure => simp [RowKit.intOf]; omega
        · gi_wp2
          go_wp2_with fail
          refine bodyPost_ret (results_none rfl _ _ _) rfl ?_
          exact ⟨⟨_, rfl⟩, .inr ⟨votF f k + 1, ⟨by omega, by rw [← HC.out]; exact HLE.out⟩, hJx3⟩⟩
    · obtain rfl : k = 9 := by omega
      go_wp2_with fail
      go_end0
      exact ⟨⟨_, rfl⟩, .inl ⟨_, rfl, HE.out.1⟩⟩
end Go.Proofs
