/-
  slots: one of some truths; what tells why a call is refused; what is asked for. Conditions: as each theorem names them.
-/
import Derived.Test.YtohidbkhccepnaaDoorSlA
namespace Go.Proofs
open Go Go.RowKit Sm Go.Lib
attribute [local go_sem] Oper.semAt_some
theorem Sm.cell_of_heap {w : World} {B : Nat} {cs : Array Value} {t : TypeId} {fr : Nat × Nat} (h : w.heap[B]? = some (.cells cs t fr)) (i : Nat) : w.cell? ⟨B, i, none⟩ = cs[i]? := by simp [World.cell?, h]
theorem Sm.frozen_of_heap {w : World} {B : Nat} {cs : Array Value} {t : TypeId} (h : w.heap[B]? = some (.cells cs t (0, 0))) (i : Nat) : w.frozen? ⟨B, i, none⟩ = false := by simp [World.frozen?, h]
/-- truths in a row -/
def Sm.RowB (W : World) (A : Option Addr) (n c : Nat) (xs : List Bool) : Prop :=
  xs.length = n ∧ n ≤ c ∧ n ≤ 1000 ∧ (xs = [] ∨ ∃ g, A = some ⟨g, 0, none⟩ ∧ g < W.heap.size ∧ ∀ j (h : j < xs.length), W.cell? ⟨g, j, none⟩ = some (.bool xs[j]))
theorem Sm.RowB.keep {W W' : World} {A : Option Addr} {n c : Nat} {xs : List Bool} (h : RowB W A n c xs) (hb : Below W.heap.size W W') : RowB W' A n c xs :=
  ⟨h.1, h.2.1, h.2.2.1, h.2.2.2.imp id fun ⟨g, e, hg, hc⟩ => ⟨g, e, Nat.lt_of_lt_of_le hg hb.size, fun j hj => (hb.cell (p := ⟨g, j, none⟩) hg).trans (hc j hj)⟩⟩
theorem Sm.RowB.nil (W : World) : RowB W none 0 0 [] := ⟨rfl, Nat.le_refl _, by omega, .inl rfl⟩
/-- the first true one's place, or -1 -/
def Sm.idxB (xs : List Bool) : Int := if xs.any id then 0 else -1
set_option maxHeartbeats 1000000 in
theorem Sm.index_any (A : Option Addr) (n c : Nat) (xs : List Bool) (w : World) (h : RowB w A n c xs) :
    Calls Tryd.prog 44 #[.slice A n c, .bool true] w fun e w' => ∃ i : Int, e = .returned (.int .i64 i) ∧ decide (0 ≤ i) = xs.any id ∧ w = w' := by
  obtain ⟨hn, hnc, hn1, hx⟩ := h
  have HX := Lib.hid hx
  have HN := Lib.hid hn
  have hnI : (n : Int) ≤ 1000 := by omega
  clear hx hn
  go_enter Tryd.func44, Tryd.ntmps44
  go_wp2
  go_loopw [8] (fun v8 wr => ∃ k : Nat, k ≤ n ∧ v8 = .int .i64 (k : Int) ∧ Hid ((xs.take k).any id = false) ∧ wr = w) (fun v8 _ => n - (RowKit.intOf v8).toNat)
  case atStart => exact ⟨0, Nat.zero_le _, rfl, Lib.hid rfl, rfl⟩
  case round =>
    obtain ⟨k, hk, rfl, HA, rfl⟩ := hrel
    by_cases hlt : k < n
    · have hkx : k < xs.length := by rw [HN.out]; exact hlt
      rcases HX.out with e | ⟨g, rfl, hg, hcl⟩
      · rw [e] at hkx; simp at hkx
      · have ck := hcl k hkx
        have htk : xs.take (k + 1) = xs.take k ++ [xs[k]] := List.take_succ_eq_append_getElem hkx
        cases hb : xs[k] with
        | false =>
          rw [hb] at ck
          have HA2 : Hid ((xs.take (k + 1)).any id = false) := Lib.hid (by rw [htk, List.any_append, HA.out, hb]; rfl)
          clear hcl htk hb
          go_wp2
          go_roundw
          case rel => exact ⟨k + 1, by omega, by go_num, HA2, trivial⟩
          case measure => simp [RowKit.intOf]; omega
        | true =>
          rw [hb] at ck
          have HA2 : Hid (xs.any id = true) := Lib.hid (List.any_eq_true.2 ⟨xs[k], List.getElem_mem hkx, hb⟩)
          clear hcl htk hb
          go_wp2
          go_ret
          exact ⟨(k : Int), rfl, by rw [HA2.out]; exact decide_eq_true (by omega), rfl⟩
    · obtain rfl : k = n := by omega
      have h1 := HA.out
      rw [List.take_of_length_le (by rw [HN.out]; exact Nat.le_refl _)] at h1
      have H1 := Lib.hid h1
      clear h1
      go_wp2
      go_ret
      exact ⟨-1, rfl, by rw [H1.out]; rfl, rfl⟩
theorem Sm.one_any (A : Option Addr) (n c : Nat) (xs : List Bool) (w : World) (h : RowB w A n c xs) : Calls Tryd.prog 38 #[.slice A n c] w fun e w' => e = .returned (.bool (xs.any id)) ∧ w = w' := by
  have hi := index_any A n c xs w h
  clear h
  have hc : Calls Tryd.prog 32 #[.slice A n c, .bool true] w fun e w' => e = .returned (.bool (xs.any id)) ∧ w = w' := by
    obtain ⟨m, hm⟩ : ∃ m, xs.any id = m := ⟨_, rfl⟩
    rw [hm] at hi ⊢
    clear hm
    go_enter Tryd.func32, Tryd.ntmps32
    go_wp2_with (go_at_call 44; (with_reducible refine hi.mono ?_); rintro e w' ⟨i, rfl, hi2, rfl⟩)
    go_ret
    exact ⟨by rw [← hi2]; rfl, rfl⟩
  obtain ⟨m, hm⟩ : ∃ m, xs.any id = m := ⟨_, rfl⟩
  rw [hm] at hc ⊢
  clear hm hi
  go_enter Tryd.func38, Tryd.ntmps38
  go_wp2_with (go_at_call 32; (with_reducible refine hc.mono ?_); rintro e w' ⟨rfl, rfl⟩)
  go_ret
  exact ⟨rfl, rfl⟩
/-- what was told of a call ahead -/
structure Sm.RefAt (w : World) (a b : Nat) (c : Int) (xs : List Bool) : Prop where
  lt : a < w.heap.size ∧ b < w.heap.size
  ca : w.cell? ⟨a, 0, none⟩ = some (.int .i64 c)
  cb : ∃ A n k, w.cell? ⟨b, 0, none⟩ = some (.slice A n k) ∧ RowB w A n k xs
theorem Sm.RefAt.keep {w w' : World} {a b : Nat} {c : Int} {xs : List Bool} (h : RefAt w a b c xs) (hb : Below w.heap.size w w') : RefAt w' a b c xs :=
  ⟨⟨Nat.lt_of_lt_of_le h.lt.1 hb.size, Nat.lt_of_lt_of_le h.lt.2 hb.size⟩, (hb.cell (p := ⟨a, 0, none⟩) h.lt.1).trans h.ca, by
    obtain ⟨A, n, k, e, hr⟩ := h.cb
    exact ⟨A, n, k, (hb.cell (p := ⟨b, 0, none⟩) h.lt.2).trans e, hr.keep hb⟩⟩
theorem Sm.refusal_any (c : Int) (A : Option Addr) (n k : Nat) (xs : List Bool) (w : World) (h : RowB w A n k xs) :
    Calls Tryd.prog 25 #[.int .i64 c, .slice A n k] w fun e w' => ∃ a b, e = .returned (.func (.func 36) #[] #[.pointer (some ⟨a, 0, none⟩), .pointer (some ⟨b, 0, none⟩)]) ∧ RefAt w' a b c xs ∧ Below w.heap.size w w' := by
  have H := Lib.hid h
  clear h
  go_enter Tryd.func25, Tryd.ntmps25
  go_wp2
  go_ret
  have hb1 : Below w.heap.size w ((w.alloc (.cells #[.int .i64 c] 29)).alloc (.cells #[.slice A n k] 76)) := ((Below.refl _ w).alloc (Nat.le_refl _) _).alloc (by simp) _
  have h0 := (Below.heap_alloc (w.alloc (.cells #[.int .i64 c] 29)) (.cells #[.slice A n k] 76) w.heap.size (by simp)).trans (World.alloc_heap_new w _)
  have h1 := World.alloc_heap_new (w.alloc (.cells #[.int .i64 c] 29)) (.cells #[.slice A n k] 76)
  rw [World.size_alloc] at h1
  exact ⟨w.heap.size, w.heap.size + 1, rfl, ⟨by simp; omega, cell_of_heap h0 0, A, n, k, cell_of_heap h1 0, H.out.keep hb1⟩, hb1⟩
/-- why a call is refused -/
def Sm.refM (c : Int) (xs ys : List Bool) : Int := if chB c = false ∨ xs.any id = true then 2 else if ys.any id = true then 4 else 0
theorem Sm.told_any (c : Int) (xs ys : List Bool) (a b n k : Nat) (A : Option Addr) (w : World) (hr : RefAt w a b c xs) (hy : RowB w A n k ys) :
    Calls Tryd.prog 36 #[.slice A n k, .pointer (some ⟨a, 0, none⟩), .pointer (some ⟨b, 0, none⟩)] w fun e w' => e = .returned (.int .i64 (refM c xs ys)) ∧ w = w' := by
  obtain ⟨⟨la, lb⟩, ca, A2, n2, k2, cb, hx⟩ := hr
  have hch := isChoir c w
  have hox := one_any A2 n2 k2 xs w hx
  have hoy := one_any A n k ys w hy
  unfold refM
  clear hx hy
  obtain ⟨m1, hm1⟩ : ∃ m, chB c = m := ⟨_, rfl⟩
  obtain ⟨m2, hm2⟩ : ∃ m, xs.any id = m := ⟨_, rfl⟩
  obtain ⟨m3, hm3⟩ : ∃ m, ys.any id = m := ⟨_, rfl⟩
  rw [hm1] at hch ⊢
  rw [hm2] at hox ⊢
  rw [hm3] at hoy ⊢
  clear hm1 hm2 hm3
  cases m1 <;> cases m2 <;> cases m3
  all_goals
    go_enter Tryd.func36, Tryd.ntmps36
    go_wp2_with (first | (go_at_call 37; (with_reducible refine hch.mono ?_); rintro e w' ⟨rfl, rfl⟩) | (go_at_call 38; (with_reducible refine hox.mono ?_); rintro e w' ⟨rfl, rfl⟩) | (go_at_call 38; (with_reducible refine hoy.mono ?_); rintro e w' ⟨rfl, rfl⟩))
    go_ret
    exact ⟨rfl, rfl⟩
end Go.Proofs
