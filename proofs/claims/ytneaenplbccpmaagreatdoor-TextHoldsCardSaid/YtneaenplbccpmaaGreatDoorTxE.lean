/-
  Len and Cut, the program's and the document's: how many signs there are, and the first of them. Condition: a text that is not too long.
-/
import Derived.Test.YtneaenplbccpmaaGreatDoorShf
import Derived.Test.YtneaenplbccpmaaGreatDoorTxD
namespace Go.Proofs
open Go Go.RowKit Sm Go.Lib
theorem Sm.Len_any (s : ByteArray) (w : World) (hm : s.size ≤ 1000000) : Calls Tryz.prog 15 #[.string s] w fun e w' => e = .returned (.int .i64 (cntS s : Int)) ∧ Below w.heap.size w w' := by
  have h := Tryz.utf8_RuneCountInString s w (by omega)
  rw [count_eq] at h
  go_enter Tryz.func15, Tryz.ntmps15
  go_wp2_with (go_at_call 34; (with_reducible refine h.mono ?_); rintro e w' ⟨rfl, p, rfl⟩)
  go_ret
  exact ⟨rfl, (Below.refl _ _).alloc (Nat.le_refl _) _⟩
theorem Sm.Clone_any (s : ByteArray) (w : World) (hm : s.size ≤ 1000000) : Calls Tryz.prog 35 #[.string s] w fun e w' => e = .returned (.string s) ∧ Below w.heap.size w w' := by
  have h := Tryz.stringslite_Clone s w (by omega)
  go_enter Tryz.func35, Tryz.ntmps35
  go_wp2_with (go_at_call 60; (with_reducible refine h.mono ?_); rintro e w' ⟨rfl, hb⟩)
  go_ret
  exact ⟨rfl, hb⟩
/-- the first signs of a text -/
def Sm.cutS (s : ByteArray) (n : Int) : ByteArray := s.extract 0 (posK s (min n.toNat (cntS s)))
theorem Sm.cutS_size (s : ByteArray) (n : Int) : (cutS s n).size ≤ s.size := by
  unfold cutS
  simp
  omega
set_option maxRecDepth 100000 in
theorem Sm.Cut_any (s : ByteArray) (n : Int) (w : World) (hm : s.size ≤ 1000000) (h0 : -9223372036854775808 ≤ n) (h1 : n ≤ 9223372036854775807) :
    Calls Tryz.prog 16 #[.string s, .int .i64 n] w fun e w' => e = .returned (.string (cutS s n)) ∧ Below w.heap.size w w' := by
  have hp := place_any s n w hm h0 h1
  have hc : ∀ w', Calls Tryz.prog 35 #[.string (cutS s n)] w' fun e w'' => e = .returned (.string (cutS s n)) ∧ Below w'.heap.size w' w'' := fun w' => Clone_any _ w' (by have := cutS_size s n; omega)
  unfold cutS at hc ⊢
  obtain ⟨p, hpe⟩ : ∃ p, posK s (min n.toNat (cntS s)) = p := ⟨_, rfl⟩
  have hle : p ≤ s.size := by rw [← hpe]; exact posK_le s _
  rw [hpe] at hp hc ⊢
  clear hpe
  have hsl : ∀ w, (Instr.slice 9 (.string s) none (some (.int .i64 (p : Int))) none).run Tryz.prog w = .ok (.string (s.extract 0 p)) w := fun w => by
    have := run_slice_string_h (P := Tryz.prog) w 9 s Tryz.underlying9 .i64 (p : Int) (by omega) (by omega)
    simpa using this
  go_enter Tryz.func16, Tryz.ntmps16
  go_wp2_with (first
    | (go_at_call 36; (with_reducible refine hp.mono ?_); clear hp; rintro e w1 ⟨rfl, hb1⟩)
    | (go_at_call 35; (with_reducible refine (hc _).mono ?_); rintro e w2 ⟨rfl, hb2⟩))
  go_ret
  exact ⟨rfl, hb1.trans (hb2.mono hb1.size)⟩
theorem Sm.signsC_len (s : ByteArray) : ∀ k, (signsC s k).length = k * 4
  | 0 => rfl
  | k + 1 => by
    rw [signsC, List.length_append, signsC_len s k]
    simp [signC]
    omega
theorem Sm.signsC_get (s : ByteArray) {j : Nat} : ∀ k i, j < k → i < 4 → (signsC s k)[j * 4 + i]? = (signC s j)[i]?
  | 0, _, h, _ => absurd h (by omega)
  | k + 1, i, h, hi => by
    rw [signsC]
    by_cases hj : j < k
    · rw [List.getElem?_append_left (by rw [signsC_len]; omega)]
      exact signsC_get s k i hj hi
    · obtain rfl : j = k := by omega
      rw [List.getElem?_append_right (by rw [signsC_len]; omega), signsC_len]
      congr 1
      omega
set_option maxRecDepth 100000 in
theorem Sm.refCut_any (s : ByteArray) (n : Int) (w : World) (hm : s.size ≤ 1000000) (h0 : -9223372036854775808 ≤ n) (h1 : n ≤ 9223372036854775807) :
    Calls Tryz.prog 17 #[.string s, .int .i64 n] w fun e w' => e = .returned (.string (cutS s n)) ∧ Below w.heap.size w w' := by
  have hs := Signs_any s w hm
  have hc1 := cntS_le s
  unfold cutS
  by_cases hn : n ≤ 0
  · have e : s.extract 0 (posK s (min n.toNat (cntS s))) = ⟨#[]⟩ := by
      rw [show min n.toNat (cntS s) = 0 by omega, posK]
      apply ByteArray.ext
      simp
    rw [e]
    go_enter Tryz.func17, Tryz.ntmps17
    go_wp2_with (go_at_call 13; (with_reducible refine hs.mono ?_); clear hs; rintro e w1 ⟨A, c, rfl, hown, hb1⟩)
    go_ret
    exact ⟨rfl, hb1⟩
  · by_cases hg : (cntS s : Int) ≤ n
    · have e : s.extract 0 (posK s (min n.toNat (cntS s))) = s := by
        rw [show min n.toNat (cntS s) = cntS s by omega, cntS_end]
        simp
      rw [e]
      go_enter Tryz.func17, Tryz.ntmps17
      go_wp2_with (go_at_call 13; (with_reducible refine hs.mono ?_); clear hs; rintro e w1 ⟨A, c, rfl, hown, hb1⟩)
      go_ret
      exact ⟨rfl, hb1⟩
    · obtain ⟨k, rfl⟩ : ∃ k : Nat, n = (k : Int) := ⟨n.toNat, by omega⟩
      have hk : k < cntS s := by omega
      rw [show min ((k : Int)).toNat (cntS s) = k by omega]
      have hget := signsC_get s (j := k) (cntS s) 0 hk (by omega)
      obtain ⟨p, hpe⟩ : ∃ p, posK s k = p := ⟨_, rfl⟩
      have hle : p ≤ s.size := by rw [← hpe]; exact posK_le s _
      unfold signC at hget
      rw [hpe] at hget ⊢
      simp only [Nat.add_zero, List.getElem?_cons_zero] at hget
      have HG := Lib.hid hget
      have hsl : ∀ w, (Instr.slice 9 (.string s) none (some (.int .i64 (p : Int))) none).run Tryz.prog w = .ok (.string (s.extract 0 p)) w := fun w => by
        have := run_slice_string_h (P := Tryz.prog) w 9 s Tryz.underlying9 .i64 (p : Int) (by omega) (by omega)
        simpa using this
      clear hget hpe
      go_enter Tryz.func17, Tryz.ntmps17
      go_wp2_with (go_at_call 13; (with_reducible refine hs.mono ?_); clear hs; rintro e w1 ⟨A, c, rfl, hown, hb1⟩; obtain ⟨g, cap, eg, hgb, hgl⟩ := hown.form (by omega); injection eg with e1 e2 e3; subst e1 e3; have c0 : w1.cell? ⟨g, k * 4, none⟩ = some (.int .i64 (p : Int)) := (hown.cellAt (k * 4) (by omega)).trans HG.out; clear e2)
      go_ret
      exact ⟨rfl, hb1⟩
end Go.Proofs
