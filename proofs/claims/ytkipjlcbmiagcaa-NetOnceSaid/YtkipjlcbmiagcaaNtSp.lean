/-
  SameParcel: are two parcels the same? Conditions: as each theorem names them.
-/
import Derived.Test.YtkipjlcbmiagcaaNtFw
namespace Go.Proofs
open Go Go.RowKit Sm Go.Lib Go.Maps Go.WideMaps
attribute [local go_sem] Oper.semAt_some
theorem Sm.conv_rd {W : World} {A : Option Addr} {l : List (BitVec 8)} {n c : Nat} (hn : l.length = n) (h : Rd W W.heap.size A l) : (convert 39 9 (.slice A n c)).run Try.prog W = .ok (.string (strB l)) W :=
  run_str (P := Try.prog) W 39 5 Try.underlying39 Try.underlying5 l n c W.heap.size A hn h 9 Try.underlying9
set_option maxRecDepth 100000 in
set_option maxHeartbeats 1000000 in
theorem Sm.sameP_any (a b d a' b' d' : Int) (l l' : List (BitVec 8)) (A A' : Option Addr) (n c n' c' : Nat) (w : World) (hn : l.length = n) (hn' : l'.length = n') (h : Rd w w.heap.size A l) (h' : Rd w w.heap.size A' l') :
    Calls Try.prog 28 #[.agg #[.int .i64 a, .int .i64 b, .int .i64 d, .slice A n c], .agg #[.int .i64 a', .int .i64 b', .int .i64 d', .slice A' n' c']] w fun e w' => e = .returned (.bool (decide (a = a' ∧ b = b' ∧ d = d' ∧ l = l'))) ∧ Below w.heap.size w w' := by
  have hb2 : Below w.heap.size w ((w.alloc (.cells #[.int .i64 a, .int .i64 b, .int .i64 d, .slice A n c] 41)).alloc (.cells #[.int .i64 a', .int .i64 b', .int .i64 d', .slice A' n' c'] 41)) := bel2 w _ _
  by_cases h1 : a = a'
  · subst h1
    by_cases h2 : b = b'
    · subst h2
      by_cases h3 : d = d'
      · subst h3
        have e1 := conv_rd (c := c) hn ((h.belowTo hb2 (Nat.le_refl _)).more hb2.size)
        have e2 := conv_rd (c := c') hn' ((h'.belowTo hb2 (Nat.le_refl _)).more hb2.size)
        clear h h'
        by_cases h4 : l = l'
        · subst h4
          subst hn'
          subst hn
          obtain ⟨S, hS⟩ : ∃ S, strB l = S := ⟨_, rfl⟩
          obtain ⟨N, hN⟩ : ∃ N, l.length = N := ⟨_, rfl⟩
          rw [hS] at e1 e2
          rw [hN] at e1 e2 hb2 ⊢
          clear hS hN
          go_enter Try.func28, Try.ntmps28
          go_wp2
          go_ret
          exact ⟨by simp, hb2⟩
        · have hne : ¬ (strB l).toList = (strB l').toList := fun e => h4 (by
            have h9 := str_cmp (strB l) (strB l')
            rw [e, strL_strB, strL_strB] at h9
            simpa using h9.symm)
          obtain ⟨S, hS⟩ : ∃ S, strB l = S := ⟨_, rfl⟩
          obtain ⟨S', hS'⟩ : ∃ S, strB l' = S := ⟨_, rfl⟩
          rw [hS] at e1 hne
          rw [hS'] at e2 hne
          clear hS hS' hn hn'
          go_enter Try.func28, Try.ntmps28
          go_wp2
          go_ret
          exact ⟨by simp [h4, hne], hb2⟩
      · have h3' : (d == d') = false := by simpa using h3
        clear h h'
        go_enter Try.func28, Try.ntmps28
        go_wp2
        go_ret
        exact ⟨by simp [h3], hb2⟩
    · have h2' : (b == b') = false := by simpa using h2
      clear h h'
      go_enter Try.func28, Try.ntmps28
      go_wp2
      go_ret
      exact ⟨by simp [h2], hb2⟩
  · have h1' : (a == a') = false := by simpa using h1
    clear h h'
    go_enter Try.func28, Try.ntmps28
    go_wp2
    go_ret
    exact ⟨by simp [h1], hb2⟩
end Go.Proofs
