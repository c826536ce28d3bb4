/-
  The document's Quote. Condition: a text that is not too long.
-/
import Derived.Test.YtneaenplbccpmaaGreatDoorTxF
import Derived.Test.YtneaenplbccpmaaGreatDoorSpB
namespace Go.Proofs
open Go Go.RowKit Sm Go.Lib
set_option maxRecDepth 100000 in
set_option maxHeartbeats 2000000 in
theorem Sm.refQuote_any (s : ByteArray) (w : World) (hm : s.size ≤ 1000000) : Calls Tryz.prog 31 #[.string s] w fun e w' => e = .returned (.string (strB (quoteS (strL s)))) ∧ w = w' := by
  have hl := strL_length s
  obtain ⟨l, hle⟩ : ∃ l, strL s = l := ⟨_, rfl⟩
  have hgt : ∀ (k : Nat) (h : k < l.length), ((s.get! k).toNat : Int) = ib l[k] := by subst hle; exact get_strL s
  have hone : ∀ (k : Nat) (h : k < l.length), s.extract k (k + 1) = strB [l[k]] := by subst hle; exact one_cut s
  rw [hle] at hl ⊢
  have HL := Lib.hid hl
  have HG := Lib.hid hgt
  have HO := Lib.hid hone
  clear hl hgt hone hle
  go_enter Tryz.func31, Tryz.ntmps31
  go_wp2
  go_loopw [3, 4] (fun vo vi wr => ∃ k : Nat, k ≤ s.size ∧ vi = .int .i64 (k : Int) ∧ vo = .string (strB (quoteL (l.take k))) ∧ wr = w) (fun _ vi _ => s.size - (RowKit.intOf vi).toNat)
  case atStart => exact ⟨0, Nat.zero_le _, rfl, rfl, rfl⟩
  case round =>
    obtain ⟨k, hk, rfl, rfl, rfl⟩ := hrel
    have hq := quoteL_len (l.take k)
    rw [List.length_take] at hq
    obtain ⟨Q, hQ⟩ : ∃ Q, quoteL (l.take k) = Q := ⟨_, rfl⟩
    rw [hQ] at hq ⊢
    have hsz : (strB Q).size ≤ 5000000 := by rw [strB_length]; have := HL.out; omega
    by_cases hlt : k < s.size
    · have hkl : k < l.length := by have := HL.out; omega
      have hsn := quoteL_snoc hkl
      rw [hQ] at hsn
      have hg := HG.out k hkl
      have ho := HO.out k hkl
      obtain ⟨b, hb⟩ : ∃ b, l[k] = b := ⟨_, rfl⟩
      rw [hb] at hsn hg ho
      have hix : ∀ w, (Instr.index 9 (.string s) (.int .i64 (k : Int))).run Tryz.prog w = .ok (.int .u8 (ib b)) w := fun w => by rw [byte_at s k hlt w, hg]
      have hsl : ∀ w, (Instr.slice 9 (.string s) (some (.int .i64 (k : Int))) (some (.int .i64 ((k : Int) + 1))) none).run Tryz.prog w = .ok (.string (strB [b])) w := fun w => by
        rw [run_slice_string w 9 s .i64 .i64 (k : Int) ((k : Int) + 1) Tryz.underlying9 (by omega) (by omega) (by omega)]
        have e2 : ((k : Int) + 1).toNat = k + 1 := by omega
        simp only [Int.toNat_natCast, e2, ho]
      obtain ⟨X, hX⟩ : ∃ X : Nat, b.toNat = X := ⟨_, rfl⟩
      have hib : ib b = (X : Int) := by unfold ib; rw [hX]
      have hXl : X < 256 := by rw [← hX]; exact b.isLt
      have hb34 : b = 34#8 ↔ X = 34 := by rw [← hX]; constructor; (intro e; rw [e]; rfl); intro e; exact BitVec.eq_of_toNat_eq (by rw [e]; rfl)
      have hb92 : b = 92#8 ↔ X = 92 := by rw [← hX]; constructor; (intro e; rw [e]; rfl); intro e; exact BitVec.eq_of_toNat_eq (by rw [e]; rfl)
      rw [hib] at hix
      have hsp : spellB b = if X = 34 ∨ X = 92 then [92#8, b] else if 32 ≤ X ∧ X ≤ 126 then [b] else [92#8, 120#8, hexd (X / 16), hexd (X % 16)] := by
        unfold spellB
        simp only [hX, hb34, hb92]
      rw [hsp] at hsn
      have e92 : ({ data := #[92] } : ByteArray) = strB [92#8] := by decide +kernel
      have e92x : ({ data := #[92, 120] } : ByteArray) = strB [92#8, 120#8] := by decide +kernel
      have hj := strB_join
      have h1s := strB_length [b]
      obtain ⟨SQ, hSQ⟩ : ∃ SQ, strB Q = SQ := ⟨_, rfl⟩
      obtain ⟨SB, hSB⟩ : ∃ SB, strB [b] = SB := ⟨_, rfl⟩
      rw [hSB] at hsl h1s
      rw [hSQ] at hsz ⊢
      simp only [List.length_cons, List.length_nil] at h1s
      clear hg ho hQ hb hkl hib hb34 hb92 hX hsp
      by_cases hA : X = 34 ∨ X = 92
      · rw [if_pos hA] at hsn
        have hfin : SQ ++ ({ data := #[92] } : ByteArray) ++ SB = strB (quoteL (l.take (k + 1))) := by rw [e92, ← hSQ, ← hSB, hj, hj, hsn, List.append_assoc]; rfl
        have HFIN := Lib.hid hfin
        clear hfin hsn hj e92 e92x hSQ hSB
        by_cases h34 : X = 34
        · clear hA
          go_wp2
          refine ⟨⟨k + 1, by omega, by go_num, by rw [← HFIN.out], trivial⟩, by simp [RowKit.intOf]; omega⟩
        · have h92 : X = 92 := by omega
          clear hA
          go_wp2
          refine ⟨⟨k + 1, by omega, by go_num, by rw [← HFIN.out], trivial⟩, by simp [RowKit.intOf]; omega⟩
      · rw [if_neg hA] at hsn
        have h34 : ¬ X = 34 := fun e => hA (.inl e)
        have h92 : ¬ X = 92 := fun e => hA (.inr e)
        have n34 : ((X : Int) == 34) = false := by simp; omega
        have n92 : ((X : Int) == 92) = false := by simp; omega
        clear hA
        by_cases hB : 32 ≤ X ∧ X ≤ 126
        · rw [if_pos hB] at hsn
          have hfin : SQ ++ SB = strB (quoteL (l.take (k + 1))) := by rw [← hSQ, ← hSB, hj, hsn]
          have HFIN := Lib.hid hfin
          obtain ⟨q0, q1⟩ := hB
          clear hfin hsn hj e92 e92x hSQ hSB
          go_wp2
          refine ⟨⟨k + 1, by omega, by go_num, by rw [← HFIN.out], trivial⟩, by simp [RowKit.intOf]; omega⟩
        · rw [if_neg hB] at hsn
          have d1 := digit_any (X / 16) (by omega)
          have d2 := digit_any (X % 16) (by omega)
          obtain ⟨D1, hD1⟩ : ∃ D, strB [hexd (X / 16)] = D := ⟨_, rfl⟩
          obtain ⟨D2, hD2⟩ : ∃ D, strB [hexd (X % 16)] = D := ⟨_, rfl⟩
          have l1 : D1.size = 1 := by rw [← hD1, strB_length]; rfl
          have l2 : D2.size = 1 := by rw [← hD2, strB_length]; rfl
          have hfin : SQ ++ ({ data := #[92, 120] } : ByteArray) ++ D1 ++ D2 = strB (quoteL (l.take (k + 1))) := by rw [e92x, ← hSQ, ← hD1, ← hD2, hj, hj, hj, hsn, List.append_assoc, List.append_assoc]; rfl
          have HFIN := Lib.hid hfin
          rw [hD1] at d1
          rw [hD2] at d2
          obtain ⟨q, hq1⟩ : ∃ q, X / 16 = q := ⟨_, rfl⟩
          obtain ⟨r, hr1⟩ : ∃ r, X % 16 = r := ⟨_, rfl⟩
          rw [hq1] at d1
          rw [hr1] at d2
          have iq : (X : Int) / 16 = (q : Int) := by omega
          have ir : (X : Int) % 16 = (r : Int) := by omega
          clear hfin hsn hj e92 e92x hSQ hSB hD1 hD2 hq1 hr1
          by_cases q0 : 32 ≤ X
          · have q1 : ¬ X ≤ 126 := fun e => hB ⟨q0, e⟩
            clear hB
            go_wp2_with (first
              | (go_at_call 58; (with_reducible refine (d1 _).mono ?_); rintro e w' ⟨rfl, rfl⟩)
              | (go_at_call 58; (with_reducible refine (d2 _).mono ?_); rintro e w' ⟨rfl, rfl⟩))
            refine ⟨⟨k + 1, by omega, by go_num, by rw [← HFIN.out], trivial⟩, by simp [RowKit.intOf]; omega⟩
          · clear hB
            go_wp2_with (first
              | (go_at_call 58; (with_reducible refine (d1 _).mono ?_); rintro e w' ⟨rfl, rfl⟩)
              | (go_at_call 58; (with_reducible refine (d2 _).mono ?_); rintro e w' ⟨rfl, rfl⟩))
            refine ⟨⟨k + 1, by omega, by go_num, by rw [← HFIN.out], trivial⟩, by simp [RowKit.intOf]; omega⟩
    · obtain rfl : k = s.size := by omega
      have hall : l.take s.size = l := List.take_of_length_le (by have := HL.out; omega)
      rw [hall] at hQ
      have e34 : ({ data := #[34] } : ByteArray) = strB [34#8] := by decide +kernel
      have hfin : strB Q ++ ({ data := #[34] } : ByteArray) = strB (quoteS l) := by rw [e34, strB_join]; unfold quoteS; rw [hQ]
      obtain ⟨SQ, hSQ⟩ : ∃ SQ, strB Q = SQ := ⟨_, rfl⟩
      rw [hSQ] at hfin hsz ⊢
      have HFIN := Lib.hid hfin
      clear e34 hall hQ hq hSQ hfin
      go_wp2
      go_ret
      exact ⟨by rw [HFIN.out]; rfl, rfl⟩
end Go.Proofs
