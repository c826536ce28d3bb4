/-
  ballot: no ballot; which may be: Check; the document's Less, Compare, Right, None. Conditions: as each theorem names them.
-/
import Derived.Test.YtohidbkhccepnaaDoorBaA
namespace Go.Proofs
open Go Go.RowKit Sm Go.Lib
attribute [local go_sem] Oper.semAt_some
theorem Sm.wi54 (a x b : Int) (w : World) : Calls Tryd.prog 53 #[.int .i64 a, .int .i64 x, .int .i64 b] w fun e w' => e = .returned (.bool (decide (a ≤ x) && decide (x ≤ b))) ∧ w = w' := by
  by_cases h : a ≤ x
  · go_enter Tryd.func53, Tryd.ntmps53
    go_wp2
    go_ret
    exact ⟨by simp [h], rfl⟩
  · go_enter Tryd.func53, Tryd.ntmps53
    go_wp2
    go_ret
    exact ⟨by simp; omega, rfl⟩
theorem Sm.wi62 (a x b : Int) (w : World) : Calls Tryd.prog 61 #[.int .i64 a, .int .i64 x, .int .i64 b] w fun e w' => e = .returned (.bool (decide (a ≤ x) && decide (x ≤ b))) ∧ w = w' := by
  by_cases h : a ≤ x
  · go_enter Tryd.func61, Tryd.ntmps61
    go_wp2
    go_ret
    exact ⟨by simp [h], rfl⟩
  · go_enter Tryd.func61, Tryd.ntmps61
    go_wp2
    go_ret
    exact ⟨by simp; omega, rfl⟩
/-- is a place one of a choir's that may be -/
def Sm.bpB (c p : Int) : Bool := chB c && rpB c p
theorem Sm.isPl_any (c p : Int) (w : World) : Calls Tryd.prog 55 #[.int .i64 c, .int .i64 p] w fun e w' => e = .returned (.bool (bpB c p)) ∧ Below w.heap.size w w' := by
  have h1 := fun W => Check_any c W
  unfold bpB
  cases hc : chB c with
  | false =>
    rw [hc] at h1
    simp only [Bool.false_eq_true, if_false] at h1
    go_enter Tryd.func55, Tryd.ntmps55
    go_wp2_with (go_at_call 41; (with_reducible refine (h1 _).mono ?_); rintro e w1 ⟨rfl, hb⟩)
    go_ret
    exact ⟨rfl, hb⟩
  | true =>
    rw [hc] at h1
    simp only [if_true] at h1
    have h2 : ∀ W, Calls Tryd.prog 61 #[.int .i64 0, .int .i64 p, .int .i64 (c - 1)] W fun e w' => e = .returned (.bool (rpB c p)) ∧ W = w' := fun W => by
      have h := wi62 0 p (c - 1) W
      rw [show (decide (p ≤ c - 1)) = decide (p < c) from decide_eq_decide.2 (by omega)] at h
      exact h
    have h9 : 3 ≤ c ∧ c ≤ 9 := by rcases chB_iff.1 hc with e | e | e | e <;> omega
    obtain ⟨x, hx⟩ : ∃ x, rpB c p = x := ⟨_, rfl⟩
    rw [hx] at h2 ⊢
    clear hx hc
    have hw : wrap64 (c - 1) = c - 1 := by unfold wrap64; omega
    go_enter Tryd.func55, Tryd.ntmps55
    go_wp2_with (first | (go_at_call 41; (with_reducible refine (h1 _).mono ?_); rintro e w1 ⟨rfl, hb⟩) | (go_at_call 61; (with_reducible refine (h2 _).mono ?_); rintro e w' ⟨rfl, rfl⟩))
    go_ret
    exact ⟨rfl, hb⟩
/-- may a round be -/
def Sm.roB (r : Int) : Bool := decide (0 ≤ r) && decide (r ≤ 2147483647)
theorem Sm.flaw1 (r p : Int) (w : World) : Calls Tryd.prog 52 #[.agg #[.int .i64 r, .int .i64 p]] w fun e w' => e = .returned (.bool (!roB r)) ∧ Below w.heap.size w w' := by
  have h1 := fun W => wi54 0 r 2147483647 W
  have hb0 : Below w.heap.size w (w.alloc (.cells #[.int .i64 r, .int .i64 p] 37)) := (Below.refl _ w).alloc (Nat.le_refl _) _
  unfold roB
  obtain ⟨x, hx⟩ : ∃ x, (decide (0 ≤ r) && decide (r ≤ 2147483647)) = x := ⟨_, rfl⟩
  rw [hx] at h1 ⊢
  clear hx
  go_enter Tryd.func52, Tryd.ntmps52
  go_wp2_with (go_at_call 53; (with_reducible refine (h1 _).mono ?_); rintro e w' ⟨rfl, rfl⟩)
  go_ret
  exact ⟨rfl, hb0⟩
theorem Sm.flaw2 (c r p : Int) (a : Nat) (w : World) (ha : a < w.heap.size) (hc : w.cell? ⟨a, 0, none⟩ = some (.int .i64 c)) : Calls Tryd.prog 54 #[.agg #[.int .i64 r, .int .i64 p], .pointer (some ⟨a, 0, none⟩)] w fun e w' => e = .returned (.bool (!bpB c p)) ∧ Below w.heap.size w w' := by
  have h1 := fun W => isPl_any c p W
  have hb0 : Below w.heap.size w (w.alloc (.cells #[.int .i64 r, .int .i64 p] 37)) := (Below.refl _ w).alloc (Nat.le_refl _) _
  obtain ⟨x, hx⟩ : ∃ x, bpB c p = x := ⟨_, rfl⟩
  rw [hx] at h1 ⊢
  clear hx
  go_enter Tryd.func54, Tryd.ntmps54
  go_wp2_with (go_at_call 55; (with_reducible refine (h1 _).mono ?_); rintro e w1 ⟨rfl, hb⟩)
  go_ret
  exact ⟨rfl, hb0.trans (hb.mono hb0.size)⟩
theorem Sm.flaws_any (c : Int) (w : World) : Calls Tryd.prog 45 #[.int .i64 c] w fun e w' => ∃ a g, e = .returned (.slice (some ⟨g, 0, none⟩) 2 2) ∧ a < w'.heap.size ∧ g < w'.heap.size ∧ w'.cell? ⟨a, 0, none⟩ = some (.int .i64 c) ∧
    w'.cell? ⟨g, 0, none⟩ = some (.func (.func 52) #[] #[]) ∧ w'.cell? ⟨g, 1, none⟩ = some (.func (.func 54) #[] #[.pointer (some ⟨a, 0, none⟩)]) ∧ Below w.heap.size w w' := by
  go_enter Tryd.func45, Tryd.ntmps45
  go_wp2
  go_ret
  have h1 := World.alloc_heap_new (w.alloc (.cells #[.int .i64 c] 29)) (.cells #[.func (.func 52) #[] #[], .func (.func 54) #[] #[.pointer (some ⟨w.heap.size, 0, none⟩)]] 65)
  rw [World.size_alloc] at h1
  refine ⟨w.heap.size, w.heap.size + 1, rfl, by simp; omega, by simp, ?_, cell_of_heap h1 0, cell_of_heap h1 1, ?_⟩
  · exact cell_keep ((Below.refl _ _).alloc (Nat.le_refl _) _) (by simp) (box_cell w (.int .i64 c) 29)
  · exact ((Below.refl _ w).alloc (Nat.le_refl _) _).alloc (by simp) _
/-- may a ballot be -/
def Sm.ckB (c r p : Int) : Bool := roB r && bpB c p
set_option maxHeartbeats 2000000 in
theorem Sm.CheckB_any (c r p : Int) (w : World) : Calls Tryd.prog 33 #[.int .i64 c, .agg #[.int .i64 r, .int .i64 p]] w fun e w' => e = .returned (.int .i64 (if ckB c r p = true then 0 else 2)) ∧ Below w.heap.size w w' := by
  have hb0 : Below w.heap.size w (w.alloc (.cells #[.int .i64 r, .int .i64 p] 37)) := (Below.refl _ w).alloc (Nat.le_refl _) _
  have q0 := World.alloc_heap_new w (.cells #[.int .i64 r, .int .i64 p] 37)
  have h0 := fun W => flaws_any c W
  have h1 := fun W => flaw1 r p W
  have h2 := fun a W => flaw2 c r p a W
  unfold ckB
  obtain ⟨x, hx⟩ : ∃ x, roB r = x := ⟨_, rfl⟩
  obtain ⟨y, hy⟩ : ∃ x, bpB c p = x := ⟨_, rfl⟩
  rw [hx] at h1 ⊢
  rw [hy] at h2 ⊢
  clear hx hy
  have H2 := Lib.hid h2
  have HB0 := Lib.hid hb0
  have HQ : Hid (∀ W, Below (w.heap.size + 1) (w.alloc (.cells #[.int .i64 r, .int .i64 p] 37)) W → W.cell? ⟨w.heap.size, 0, none⟩ = some (.int .i64 r) ∧ W.cell? ⟨w.heap.size, 1, none⟩ = some (.int .i64 p)) := Lib.hid fun W hb => ⟨(hb.cell (p := ⟨w.heap.size, 0, none⟩) (by simp)).trans (cell_of_heap q0 0), (hb.cell (p := ⟨w.heap.size, 1, none⟩) (by simp)).trans (cell_of_heap q0 1)⟩
  clear h2 q0 hb0
  go_enter Tryd.func33, Tryd.ntmps33
  go_wp2_with (go_at_call 45; (with_reducible refine (h0 _).mono ?_); rintro e w2 ⟨a, g, rfl, ha, hg, ca, cg0, cg1, hb2⟩)
  have HB2 : Hid (Below (w.heap.size + 1) (w.alloc (.cells #[.int .i64 r, .int .i64 p] 37)) w2) := Lib.hid (hb2.mono (by simp))
  have HC : Hid (∀ W, Below w2.heap.size w2 W → a < W.heap.size ∧ W.cell? ⟨a, 0, none⟩ = some (.int .i64 c) ∧ W.cell? ⟨g, 0, none⟩ = some (.func (.func 52) #[] #[]) ∧ W.cell? ⟨g, 1, none⟩ = some (.func (.func 54) #[] #[.pointer (some ⟨a, 0, none⟩)])) := Lib.hid fun W hb => ⟨Nat.lt_of_lt_of_le ha hb.size, cell_keep hb ha ca, cell_keep hb hg cg0, cell_keep hb hg cg1⟩
  have hz2 : w.heap.size + 1 ≤ w2.heap.size := by have := hb2.size; simpa using this
  clear ca cg0 cg1 hb2 ha hg
  go_loopw [10] (fun v10 wr => (v10 = .int .i64 0 ∨ v10 = .int .i64 1 ∧ x = true ∨ v10 = .int .i64 2 ∧ x = true ∧ y = true) ∧ Hid (Below w2.heap.size w2 wr)) (fun v10 _ => 2 - (RowKit.intOf v10).toNat)
  case atStart => exact ⟨.inl rfl, Lib.hid (Below.refl _ _)⟩
  case round =>
    obtain ⟨wo, rfl⟩ : ∃ wo : World, wo = wr := ⟨_, rfl⟩
    obtain ⟨hk, HB⟩ := hrel
    have hW := HC.out wo HB.out
    obtain ⟨ha, ca, cg0, cg1⟩ := hW
    obtain ⟨d0, d1⟩ := HQ.out wo (HB2.out.trans (HB.out.mono hz2))
    have H2o := Lib.hid (H2.out a wo ha ca)
    have HBF : ∀ W, Below wo.heap.size wo W → Below w.heap.size w W := fun W hb => HB0.out.trans ((HB2.out.trans ((HB.out.trans (hb.mono HB.out.size)).mono hz2)).mono (by omega))
    have HBF := Lib.hid HBF
    have HBR : Hid (∀ W, Below wo.heap.size wo W → Below w2.heap.size w2 W) := Lib.hid fun W hb => HB.out.trans (hb.mono HB.out.size)
    clear HB
    rcases hk with rfl | ⟨rfl, rfl⟩ | ⟨rfl, rfl, rfl⟩
    · cases x with
      | true =>
        go_wp2_with (go_at_call 52; (with_reducible refine (h1 _).mono ?_); rintro e w3 ⟨rfl, hb3⟩; have HB3 := Lib.hid (HBR.out _ hb3); clear hb3)
        go_roundw
        case rel => exact ⟨.inr (.inl ⟨rfl, trivial⟩), HB3⟩
        case measure => simp [RowKit.intOf]
      | false =>
        go_wp2_with (go_at_call 52; (with_reducible refine (h1 _).mono ?_); rintro e w3 ⟨rfl, hb3⟩; have HB3 := Lib.hid (HBF.out _ hb3); clear hb3)
        go_ret
        exact ⟨rfl, HB3.out⟩
    · cases y with
      | true =>
        go_wp2_with (go_at_call 54; refine H2o.out.mono ?_; rintro e w3 ⟨rfl, hb3⟩; have HB3 := Lib.hid (HBR.out _ hb3); clear hb3)
        go_roundw
        case rel => exact ⟨.inr (.inr ⟨rfl, trivial, trivial⟩), HB3⟩
        case measure => simp [RowKit.intOf]
      | false =>
        go_wp2_with (go_at_call 54; refine H2o.out.mono ?_; rintro e w3 ⟨rfl, hb3⟩; have HB3 := Lib.hid (HBF.out _ hb3); clear hb3)
        go_ret
        exact ⟨rfl, HB3.out⟩
    · go_wp2
      go_ret
      exact ⟨rfl, HBF.out _ (Below.refl _ _)⟩
end Go.Proofs
