/-
  acceptor: what it is in memory; nothing, whole, there, isMember, within, all. Conditions: as each theorem names them.
-/
import Derived.Test.YtohidbkhccepnaaDoorBaD
namespace Go.Proofs
open Go Go.RowKit Sm Go.Lib
attribute [local go_sem] Oper.semAt_some
/-- an acceptor: choir, slot, what was promised, what was accepted -/
structure Sm.AcM where
  (c s pr pp ar ap k m n : Int) (t : ByteArray)
theorem Sm.two {w : World} {p : Nat} {a b : Value} {t : TypeId} (h : w.heap[p]? = some (.cells #[a, b] t (0, 0))) : (w.cell? ⟨p, 0, none⟩ = some a ∧ w.cell? ⟨p, 1, none⟩ = some b) ∧ (w.frozen? ⟨p, 0, none⟩ = false ∧ w.frozen? ⟨p, 1, none⟩ = false) :=
  ⟨⟨cell_of_heap h 0, cell_of_heap h 1⟩, frozen_of_heap h 0, frozen_of_heap h 1⟩
theorem Sm.four {w : World} {p : Nat} {a b c d : Value} {t : TypeId} (h : w.heap[p]? = some (.cells #[a, b, c, d] t (0, 0))) : (w.cell? ⟨p, 0, none⟩ = some a ∧ w.cell? ⟨p, 1, none⟩ = some b ∧ w.cell? ⟨p, 2, none⟩ = some c ∧ w.cell? ⟨p, 3, none⟩ = some d)
    ∧ (w.frozen? ⟨p, 0, none⟩ = false ∧ w.frozen? ⟨p, 1, none⟩ = false ∧ w.frozen? ⟨p, 2, none⟩ = false ∧ w.frozen? ⟨p, 3, none⟩ = false) :=
  ⟨⟨cell_of_heap h 0, cell_of_heap h 1, cell_of_heap h 2, cell_of_heap h 3⟩, frozen_of_heap h 0, frozen_of_heap h 1, frozen_of_heap h 2, frozen_of_heap h 3⟩
theorem Sm.six {w : World} {p : Nat} {a b c d e f : Value} {t : TypeId} (h : w.heap[p]? = some (.cells #[a, b, c, d, e, f] t (0, 0))) :
    (w.cell? ⟨p, 0, none⟩ = some a ∧ w.cell? ⟨p, 1, none⟩ = some b ∧ w.cell? ⟨p, 2, none⟩ = some c ∧ w.cell? ⟨p, 3, none⟩ = some d ∧ w.cell? ⟨p, 4, none⟩ = some e ∧ w.cell? ⟨p, 5, none⟩ = some f)
    ∧ (w.frozen? ⟨p, 0, none⟩ = false ∧ w.frozen? ⟨p, 1, none⟩ = false ∧ w.frozen? ⟨p, 2, none⟩ = false ∧ w.frozen? ⟨p, 3, none⟩ = false ∧ w.frozen? ⟨p, 4, none⟩ = false ∧ w.frozen? ⟨p, 5, none⟩ = false) :=
  ⟨⟨cell_of_heap h 0, cell_of_heap h 1, cell_of_heap h 2, cell_of_heap h 3, cell_of_heap h 4, cell_of_heap h 5⟩, frozen_of_heap h 0, frozen_of_heap h 1, frozen_of_heap h 2, frozen_of_heap h 3, frozen_of_heap h 4, frozen_of_heap h 5⟩
theorem Sm.set2 {w : World} {p : Nat} {a b : Value} {t : TypeId} (h : w.heap[p]? = some (.cells #[a, b] t (0, 0))) (a' b' : Value) :
    ((w.setCell ⟨p, 0, none⟩ a').setCell ⟨p, 1, none⟩ b').heap[p]? = some (.cells #[a', b'] t (0, 0)) := heap_setCells (heap_setCells h)
theorem Sm.set6 {w : World} {p : Nat} {a b c d e f : Value} {t : TypeId} (h : w.heap[p]? = some (.cells #[a, b, c, d, e, f] t (0, 0))) (a' b' c' d' e' f' : Value) :
    ((((((w.setCell ⟨p, 0, none⟩ a').setCell ⟨p, 1, none⟩ b').setCell ⟨p, 2, none⟩ c').setCell ⟨p, 3, none⟩ d').setCell ⟨p, 4, none⟩ e').setCell ⟨p, 5, none⟩ f').heap[p]? = some (.cells #[a', b', c', d', e', f'] t (0, 0)) :=
  heap_setCells (heap_setCells (heap_setCells (heap_setCells (heap_setCells (heap_setCells h)))))
theorem Sm.bset2 {N : Nat} {w w1 : World} {p : Nat} (h : Below N w w1) (hp : N ≤ p) (a' b' : Value) : Below N w ((w1.setCell ⟨p, 0, none⟩ a').setCell ⟨p, 1, none⟩ b') := (h.setCell hp _).setCell hp _
theorem Sm.bset6 {N : Nat} {w w1 : World} {p : Nat} (h : Below N w w1) (hp : N ≤ p) (a' b' c' d' e' f' : Value) :
    Below N w ((((((w1.setCell ⟨p, 0, none⟩ a').setCell ⟨p, 1, none⟩ b').setCell ⟨p, 2, none⟩ c').setCell ⟨p, 3, none⟩ d').setCell ⟨p, 4, none⟩ e').setCell ⟨p, 5, none⟩ f') :=
  (((((h.setCell hp _).setCell hp _).setCell hp _).setCell hp _).setCell hp _).setCell hp _
theorem Sm.wi79 (a x b : Int) (w : World) : Calls Tryd.prog 62 #[.int .i64 a, .int .i64 x, .int .i64 b] w fun e w' => e = .returned (.bool (decide (a ≤ x) && decide (x ≤ b))) ∧ w = w' := by
  by_cases h : a ≤ x
  · go_enter Tryd.func62, Tryd.ntmps62
    go_wp2
    go_ret
    exact ⟨by simp [h], rfl⟩
  · go_enter Tryd.func62, Tryd.ntmps62
    go_wp2
    go_ret
    exact ⟨by simp; omega, rfl⟩
theorem Sm.wi73 (a x b : Int) (w : World) : Calls Tryd.prog 58 #[.int .i64 a, .int .i64 x, .int .i64 b] w fun e w' => e = .returned (.bool (decide (a ≤ x) && decide (x ≤ b))) ∧ w = w' := by
  by_cases h : a ≤ x
  · go_enter Tryd.func58, Tryd.ntmps58
    go_wp2
    go_ret
    exact ⟨by simp [h], rfl⟩
  · go_enter Tryd.func58, Tryd.ntmps58
    go_wp2
    go_ret
    exact ⟨by simp; omega, rfl⟩
/-- may a member be -/
def Sm.mbB (m : Int) : Bool := decide (0 ≤ m) && decide (m ≤ 15)
theorem Sm.isMember_any (m : Int) (w : World) : Calls Tryd.prog 57 #[.int .i64 m] w fun e w' => e = .returned (.bool (mbB m)) ∧ w = w' := by
  have h1 := wi79 0 m 15 w
  unfold mbB
  obtain ⟨x, hx⟩ : ∃ x, (decide (0 ≤ m) && decide (m ≤ 15)) = x := ⟨_, rfl⟩
  rw [hx] at h1 ⊢
  clear hx
  go_enter Tryd.func57, Tryd.ntmps57
  go_wp2_with (go_at_call 62; (with_reducible refine h1.mono ?_); rintro e w' ⟨rfl, rfl⟩)
  go_ret
  exact ⟨rfl, rfl⟩
set_option maxHeartbeats 1000000 in
theorem Sm.index_false (A : Option Addr) (n c : Nat) (xs : List Bool) (w : World) (h : RowB w A n c xs) :
    Calls Tryd.prog 44 #[.slice A n c, .bool false] w fun e w' => ∃ i : Int, e = .returned (.int .i64 i) ∧ decide (0 ≤ i) = !xs.all id ∧ w = w' := by
  obtain ⟨hn, hnc, hn1, hx⟩ := h
  have HX := Lib.hid hx
  have HN := Lib.hid hn
  have hnI : (n : Int) ≤ 1000 := by omega
  clear hx hn
  go_enter Tryd.func44, Tryd.ntmps44
  go_wp2
  go_loopw [8] (fun v8 wr => ∃ k : Nat, k ≤ n ∧ v8 = .int .i64 (k : Int) ∧ Hid ((xs.take k).all id = true) ∧ wr = w) (fun v8 _ => n - (RowKit.intOf v8).toNat)
  case atStart => exact ⟨0, Nat.zero_le _, rfl, Lib.hid rfl, rfl⟩
  case round =>
    obtain ⟨k, hk, rfl, HA, rfl⟩ := hrel
    by_cases hlt : k < n
    · have hkx : k < xs.length := by rw [HN.out]; exact hlt
      rcases HX.out with e | ⟨g, rfl, hg, hcl⟩
      · rw [e] at hkx; simp at hkx
      · have ck := hcl k hkx
        have htk : xs.take (k + 1) = xs.take k ++ [xs[k]] := List.take_succ_eq_append_getElem hkx
        cases hb : xs[k] with
        | true =>
          rw [hb] at ck
          have HA2 : Hid ((xs.take (k + 1)).all id = true) := Lib.hid (by rw [htk, List.all_append, HA.out, hb]; rfl)
          clear hcl htk hb
          go_wp2
          go_roundw
          case rel => exact ⟨k + 1, by omega, by go_num, HA2, trivial⟩
          case measure => simp [RowKit.intOf]; omega
        | false =>
          rw [hb] at ck
          have HA2 : Hid (xs.all id = false) := Lib.hid (List.all_eq_false.2 ⟨xs[k], List.getElem_mem hkx, by rw [hb]; simp⟩)
          clear hcl htk hb
          go_wp2
          go_ret
          exact ⟨(k : Int), rfl, by rw [HA2.out]; exact decide_eq_true (by omega), rfl⟩
    · obtain rfl : k = n := by omega
      have h1 := HA.out
      rw [List.take_of_length_le (by rw [HN.out]; exact Nat.le_refl _)] at h1
      have H1 := Lib.hid h1
      clear h1
      go_wp2
      go_ret
      exact ⟨-1, rfl, by rw [H1.out]; rfl, rfl⟩
theorem Sm.all_any (A : Option Addr) (n c : Nat) (xs : List Bool) (w : World) (h : RowB w A n c xs) : Calls Tryd.prog 56 #[.slice A n c] w fun e w' => e = .returned (.bool (xs.all id)) ∧ w = w' := by
  have hi := index_false A n c xs w h
  clear h
  obtain ⟨m, hm⟩ : ∃ m, xs.all id = m := ⟨_, rfl⟩
  rw [hm] at hi ⊢
  clear hm
  have hc : Calls Tryd.prog 32 #[.slice A n c, .bool false] w fun e w' => e = .returned (.bool (!m)) ∧ w = w' := by
    go_enter Tryd.func32, Tryd.ntmps32
    go_wp2_with (go_at_call 44; (with_reducible refine hi.mono ?_); rintro e w' ⟨i, rfl, hi2, rfl⟩)
    go_ret
    exact ⟨by rw [← hi2]; rfl, rfl⟩
  clear hi
  go_enter Tryd.func56, Tryd.ntmps56
  go_wp2_with (go_at_call 32; (with_reducible refine hc.mono ?_); rintro e w' ⟨rfl, rfl⟩)
  go_ret
  exact ⟨by simp, rfl⟩
/-- one truth, two, three in a row just made -/
theorem Sm.row1 (w : World) (a : Bool) (t : TypeId) : RowB (w.alloc (.cells #[.bool a] t)) (some ⟨w.heap.size, 0, none⟩) 1 1 [a] :=
  ⟨rfl, Nat.le_refl _, by omega, .inr ⟨w.heap.size, rfl, by simp, fun j hj => by
    have h := cell_of_heap (World.alloc_heap_new w (.cells #[.bool a] t)) j
    rw [h]
    match j, hj with
    | 0, _ => rfl⟩⟩
theorem Sm.row2 (w : World) (a b : Bool) (t : TypeId) : RowB (w.alloc (.cells #[.bool a, .bool b] t)) (some ⟨w.heap.size, 0, none⟩) 2 2 [a, b] :=
  ⟨rfl, Nat.le_refl _, by omega, .inr ⟨w.heap.size, rfl, by simp, fun j hj => by
    have h := cell_of_heap (World.alloc_heap_new w (.cells #[.bool a, .bool b] t)) j
    rw [h]
    match j, hj with
    | 0, _ => rfl
    | 1, _ => rfl⟩⟩
theorem Sm.row3 (w : World) (a b c : Bool) (t : TypeId) : RowB (w.alloc (.cells #[.bool a, .bool b, .bool c] t)) (some ⟨w.heap.size, 0, none⟩) 3 3 [a, b, c] :=
  ⟨rfl, Nat.le_refl _, by omega, .inr ⟨w.heap.size, rfl, by simp, fun j hj => by
    have h := cell_of_heap (World.alloc_heap_new w (.cells #[.bool a, .bool b, .bool c] t)) j
    rw [h]
    match j, hj with
    | 0, _ => rfl
    | 1, _ => rfl
    | 2, _ => rfl⟩⟩
end Go.Proofs
