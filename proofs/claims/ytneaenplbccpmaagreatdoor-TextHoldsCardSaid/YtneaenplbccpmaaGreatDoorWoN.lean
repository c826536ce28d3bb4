/-
  Signs of a text's beginning: where it ends with a sign, its signs are the text's first ones. No condition.
-/
import Derived.Test.YtneaenplbccpmaaGreatDoorWoM
namespace Go.Proofs
open Go Go.RowKit Sm Go.Lib
theorem Sm.get_ext0 (s : ByteArray) (m j : Nat) (hj : j < m) : (s.extract 0 m).get! j = s.get! j := by
  cases s with
  | mk a =>
    show (ByteArray.extract ⟨a⟩ 0 m).data[j]! = a[j]!
    rw [ByteArray.data_extract]
    show (a.extract 0 m)[j]! = a[j]!
    by_cases h : j < a.size
    · rw [getElem!_pos a j h, getElem!_pos _ j (by simp; omega), Array.getElem_extract]
      simp
    · rw [getElem!_neg a j h, getElem!_neg _ j (by simp; omega)]
theorem Sm.decodeN_cut {n m b0 b1 b2 b3 c1 c2 c3 : Nat} (hw : (decodeN n b0 b1 b2 b3).2 ≤ m) (hmn : m ≤ n) (h1 : 1 < m → c1 = b1) (h2 : 2 < m → c2 = b2) (h3 : 3 < m → c3 = b3) : decodeN m b0 c1 c2 c3 = decodeN n b0 b1 b2 b3 := by
  unfold decodeN at hw ⊢
  by_cases a : b0 < 128
  · simp [a]
  · simp only [a, if_false] at hw ⊢
    by_cases m1 : 1 < m
    · have e1 := h1 m1
      subst e1
      have n1 : 1 < n := by omega
      by_cases m2 : 2 < m
      · have e2 := h2 m2
        subst e2
        have n2 : 2 < n := by omega
        by_cases m3 : 3 < m
        · have e3 := h3 m3
          subst e3
          have n3 : 3 < n := by omega
          simp only [m1, m2, m3, n1, n2, n3, true_and]
        · simp only [m1, m2, n1, n2, true_and] at hw ⊢
          split
          · rfl
          · split
            · rfl
            · rename_i g1 g2
              simp only [g1, g2, if_false] at hw
              rw [if_neg (by omega)]
              split at hw
              · split at hw
                · omega
                · rename_i x y; rw [if_pos x, if_neg y]
              · rename_i x; rw [if_neg x]
      · simp only [m1, n1, true_and] at hw ⊢
        split
        · rfl
        · rename_i g1
          simp only [g1, if_false] at hw
          rw [if_neg (by omega), if_neg (by omega)]
          split at hw
          · split at hw
            · omega
            · rename_i x y; rw [if_pos x, if_neg y]
          · rename_i x
            rw [if_neg x]
            split at hw
            · split at hw
              · omega
              · rename_i x2 y; rw [if_pos x2, if_neg y]
            · rename_i x2; rw [if_neg x2]
    · rw [if_neg (by omega), if_neg (by omega), if_neg (by omega)]
      split at hw
      · split at hw
        · omega
        · rename_i x y; rw [if_pos x, if_neg y]
      · rename_i x
        rw [if_neg x]
        split at hw
        · split at hw
          · omega
          · rename_i x2 y; rw [if_pos x2, if_neg y]
        · rename_i x2
          rw [if_neg x2]
          split at hw
          · split at hw
            · omega
            · rename_i x3 y; rw [if_pos x3, if_neg y]
          · rename_i x3; rw [if_neg x3]
theorem Sm.pos_mono (s : ByteArray) {k j : Nat} (h : k ≤ j) : posK s k ≤ posK s j := by
  obtain ⟨d, rfl⟩ : ∃ d, j = k + d := ⟨j - k, by omega⟩
  clear h
  induction d with
  | zero => exact Nat.le_refl _
  | succ d ih =>
    refine Nat.le_trans ih ?_
    rw [← Nat.add_assoc, posK]
    split <;> omega
theorem Sm.dec_cut {s : ByteArray} {p m : Nat} (h : p + (Utf8.decode s p).2 ≤ m) (hm : m ≤ s.size) (hp : p < s.size) : Utf8.decode (s.extract 0 m) p = Utf8.decode s p := by
  have hw := (dec_width s p hp).1
  have hs : (s.extract 0 m).size = m := by simp; omega
  rw [decode_at] at h hw
  rw [decode_at, decode_at, hs, get_ext0 s m p (by omega)]
  refine decodeN_cut (by omega) (by omega) (fun h1 => ?_) (fun h2 => ?_) (fun h3 => ?_)
  · rw [get_ext0 s m _ (by omega)]
  · rw [get_ext0 s m _ (by omega)]
  · rw [get_ext0 s m _ (by omega)]
/-- signs of a beginning -/
theorem Sm.pos_cut {s : ByteArray} {j : Nat} (hj : j ≤ cntS s) : ∀ k, k ≤ j → posK (s.extract 0 (posK s j)) k = posK s k
  | 0, _ => rfl
  | k + 1, h => by
    have ih := pos_cut hj k (by omega)
    have hlt := cntS_lt (s := s) (j := k) (by omega)
    have hsz : (s.extract 0 (posK s j)).size = posK s j := by have := posK_le s j; simp; omega
    have hmono : posK s (k + 1) ≤ posK s j := pos_mono s (by omega)
    have hs := posK_succ hlt
    have hst := posK_step hlt
    rw [posK_succ hlt, posK, ih, hsz, if_pos (by omega), dec_cut (by omega) (posK_le s j) hlt]
theorem Sm.cnt_cut {s : ByteArray} {j : Nat} (hj : j ≤ cntS s) : cntS (s.extract 0 (posK s j)) = j := by
  have hsz : (s.extract 0 (posK s j)).size = posK s j := by have := posK_le s j; simp; omega
  refine (cntS_of (k := j) ?_ ?_).symm
  · rw [pos_cut hj j (Nat.le_refl _), hsz]; omega
  · intro i hi
    rw [pos_cut hj i (by omega), hsz]
    have h1 := posK_step (cntS_lt (s := s) (j := i) (by omega))
    have h2 := pos_mono s (k := i + 1) (j := j) (by omega)
    omega
theorem Sm.sign_find {s : ByteArray} {i : Nat} (hi : i < s.size) : ∀ d k, k + d = cntS s → posK s k ≤ i → ∃ j, j < cntS s ∧ posK s j ≤ i ∧ i < posK s (j + 1)
  | 0, k, h, hk => by
    rw [show k = cntS s by omega, cntS_end] at hk
    omega
  | d + 1, k, h, hk => by
    by_cases hn : posK s (k + 1) ≤ i
    · exact sign_find hi d (k + 1) (by omega) hn
    · exact ⟨k, by omega, hk, by omega⟩
/-- a byte below 128 is a sign of its own -/
theorem Sm.sign_at {s : ByteArray} {i : Nat} (hi : i < s.size) (hb : (s.get! i).toNat < 128) : ∃ j, j < cntS s ∧ posK s j = i := by
  obtain ⟨j, hj, h1, h2⟩ := sign_find hi (cntS s) 0 (by omega) (Nat.zero_le _)
  refine ⟨j, hj, ?_⟩
  have hlt := cntS_lt hj
  rw [posK_succ hlt] at h2
  by_cases h128 : (s.get! (posK s j)).toNat < 128
  · rw [dec_low h128] at h2
    simp only at h2
    omega
  · have hd := (dec_high (s := s) (p := posK s j) (by omega)).2 (i - posK s j) (by omega)
    rw [show posK s j + (i - posK s j) = i by omega] at hd
    omega
theorem Sm.pos_lt {s : ByteArray} {k j : Nat} (h : posK s k < posK s j) : k < j := by
  by_cases hk : k < j
  · exact hk
  · have := pos_mono s (k := j) (j := k) (by omega)
    omega
/-- a piece ends with a sign -/
theorem Sm.piece_cnt (n : Nat) (l : List (BitVec 8)) : ∃ j, j ≤ min n (cntS (strB l)) ∧ (pieceL n l).length = posK (strB l) j ∧ cntS (strB (pieceL n l)) = j := by
  have hj : ∃ j, j ≤ min n (cntS (strB l)) ∧ (pieceL n l).length = posK (strB l) j := by
    have hle : (pieceL n l).length ≤ posK (strB l) (min n (cntS (strB l))) := by
      unfold pieceL
      have := (List.takeWhile_prefix (fun b => !(b == 32#8)) (l := l.take (posK (strB l) (min n (cntS (strB l)))))).length_le
      rw [List.length_take] at this
      omega
    by_cases he : (pieceL n l).length = posK (strB l) (min n (cntS (strB l)))
    · exact ⟨_, Nat.le_refl _, he⟩
    · have hp := posK_le (strB l) (min n (cntS (strB l)))
      have hsz := strB_length l
      obtain ⟨b, hb1, hb2⟩ := tw_end (f := fun b => !(b == 32#8)) (l.take (posK (strB l) (min n (cntS (strB l))))) (by
        show (pieceL n l).length < _
        rw [List.length_take]
        omega)
      have hb3 : b = 32#8 := by simpa using hb2
      have hb4 : l[(pieceL n l).length]? = some 32#8 := by
        rw [← hb3]
        have := hb1
        rw [List.getElem?_take] at this
        split at this
        · exact this
        · cases this
      have hbt := byte_get (strB l) (j := (pieceL n l).length) (b := 32#8) (by rw [strL_strB]; exact hb4)
      obtain ⟨j, hj1, hj2⟩ := sign_at (s := strB l) (i := (pieceL n l).length) (by omega) (by rw [hbt]; decide)
      refine ⟨j, ?_, hj2.symm⟩
      have := pos_lt (s := strB l) (k := j) (j := min n (cntS (strB l))) (by omega)
      omega
  obtain ⟨j, h1, h2⟩ := hj
  refine ⟨j, h1, h2, ?_⟩
  have e : strB (pieceL n l) = (strB l).extract 0 (posK (strB l) j) := by
    rw [cut_strB, List.drop_zero, ← h2]
    congr 1
    have hle : (pieceL n l).length ≤ l.length := piece_le n l
    unfold pieceL
    have hpre := (List.takeWhile_prefix (fun b => !(b == 32#8)) (l := l.take (posK (strB l) (min n (cntS (strB l)))))).trans (List.take_prefix _ _)
    exact (List.prefix_iff_eq_take.1 hpre)
  rw [e]
  exact cnt_cut (by omega)
end Go.Proofs
