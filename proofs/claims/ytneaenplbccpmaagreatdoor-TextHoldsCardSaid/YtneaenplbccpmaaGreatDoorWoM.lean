/-
  Words and lines of a text: the plain facts. No condition.
-/
import Derived.Test.YtneaenplbccpmaaGreatDoorTxU
namespace Go.Proofs
open Go Go.RowKit Sm Go.Lib
/-- without the blanks ahead -/
def Sm.bl (l : List (BitVec 8)) : List (BitVec 8) := l.dropWhile (· == 32#8)
/-- the piece of a word with which bytes begin -/
def Sm.pieceL (n : Nat) (l : List (BitVec 8)) : List (BitVec 8) := (l.take (posK (strB l) (min n (cntS (strB l))))).takeWhile (fun b => !(b == 32#8))
/-- what is left behind k pieces -/
def Sm.leftK (l : List (BitVec 8)) (n : Nat) : Nat → List (BitVec 8)
  | 0 => bl l
  | k + 1 => bl ((leftK l n k).drop (pieceL n (leftK l n k)).length)
theorem Sm.bl_len (l : List (BitVec 8)) : (bl l).length ≤ l.length := by
  unfold bl
  exact (List.dropWhile_suffix _).length_le
theorem Sm.bl_head {l : List (BitVec 8)} {b : BitVec 8} {r : List (BitVec 8)} (h : bl l = b :: r) : b ≠ 32#8 := by
  intro e
  subst e
  unfold bl at h
  have := List.head?_dropWhile_not (· == 32#8) l
  rw [h] at this
  simp at this
theorem Sm.leftK_head (l : List (BitVec 8)) (n k : Nat) {b : BitVec 8} {r : List (BitVec 8)} (h : leftK l n k = b :: r) : b ≠ 32#8 := by
  cases k with
  | zero => exact bl_head h
  | succ k => exact bl_head h
theorem Sm.piece_le (n : Nat) (l : List (BitVec 8)) : (pieceL n l).length ≤ l.length := by
  unfold pieceL
  have := (List.takeWhile_prefix (fun b => !(b == 32#8)) (l := l.take (posK (strB l) (min n (cntS (strB l)))))).length_le
  rw [List.length_take] at this
  omega
theorem Sm.piece_pos {n : Nat} (hn : 0 < n) {b : BitVec 8} {r : List (BitVec 8)} (hb : b ≠ 32#8) : 0 < (pieceL n (b :: r)).length := by
  have hs : 0 < (strB (b :: r)).size := by rw [strB_length]; simp
  have h0 : posK (strB (b :: r)) 0 < (strB (b :: r)).size := hs
  have hc := posK_cnt h0
  have h1 : 0 < posK (strB (b :: r)) (min n (cntS (strB (b :: r)))) := by
    obtain ⟨k, hk⟩ : ∃ k, min n (cntS (strB (b :: r))) = k + 1 := ⟨min n (cntS (strB (b :: r))) - 1, by omega⟩
    rw [hk]
    by_cases hlt : posK (strB (b :: r)) k < (strB (b :: r)).size
    · have := posK_step hlt; omega
    · rw [posK, if_neg hlt]
      have := posK_le (strB (b :: r)) k
      omega
  unfold pieceL
  obtain ⟨q, hq⟩ : ∃ q, posK (strB (b :: r)) (min n (cntS (strB (b :: r)))) = q + 1 := ⟨posK (strB (b :: r)) (min n (cntS (strB (b :: r)))) - 1, by omega⟩
  rw [hq, List.take_succ_cons, List.takeWhile_cons, if_pos (by simp [hb])]
  simp
theorem Sm.leftK_len {l : List (BitVec 8)} {n k : Nat} (hn : 0 < n) (h : leftK l n k ≠ []) : (leftK l n (k + 1)).length < (leftK l n k).length := by
  obtain ⟨b, r, hbr⟩ := List.exists_cons_of_ne_nil h
  have hp := piece_pos (r := r) hn (leftK_head l n k hbr)
  have := bl_len ((leftK l n k).drop (pieceL n (leftK l n k)).length)
  rw [← hbr] at hp
  rw [List.length_drop] at this
  have hl : 0 < (leftK l n k).length := List.length_pos_iff.2 h
  show (bl _).length < _
  omega
theorem Sm.left_map (l : List (BitVec 8)) : trimLeftB (l.map UInt8.ofBitVec) 32 = (bl l).map UInt8.ofBitVec := by
  unfold trimLeftB bl
  induction l with
  | nil => rfl
  | cons b r ih =>
    simp only [List.map_cons, List.dropWhile_cons]
    by_cases h : b = 32#8
    · subst h
      rw [if_pos (by decide), if_pos (by decide)]
      exact ih
    · rw [if_neg (by
        intro e
        have e2 : UInt8.ofBitVec b = UInt8.ofBitVec 32#8 := by simpa using e
        exact h (ofBV_inj e2)), if_neg (by simpa using h)]
      rfl
theorem Sm.behindBlanks_any (l : List (BitVec 8)) (w : World) : Calls Tryz.prog 51 #[.string (strB l)] w fun e w' => e = .returned (.string (strB (bl l))) ∧ w = w' := by
  have h := Tryz.strings_TrimLeft_one (strB l) 32 (by decide) w
  rw [strB_data, left_map, mk_strB] at h
  obtain ⟨S, hS⟩ : ∃ S, strB l = S := ⟨_, rfl⟩
  obtain ⟨T, hT⟩ : ∃ T, strB (bl l) = T := ⟨_, rfl⟩
  rw [hS, hT] at h
  rw [hS, hT]
  clear hS hT
  go_enter Tryz.func51, Tryz.ntmps51
  go_wp2_with (go_at_call 77; (with_reducible refine h.mono ?_); rintro e w' ⟨rfl, rfl⟩)
  go_ret
  exact ⟨rfl, rfl⟩
theorem Sm.index_cons (c b : UInt8) (r : List UInt8) : index (b :: r) [c] = if b = c then 0 else if index r [c] = -1 then -1 else index r [c] + 1 := by
  show (if ([c] : List UInt8).isPrefixOf (b :: r) then 0 else if index r [c] == -1 then -1 else index r [c] + 1) = _
  by_cases h : b = c
  · subst h
    rw [if_pos rfl, if_pos (by simp)]
  · rw [if_neg h, if_neg (by simp; exact fun e => h e.symm)]
    by_cases h1 : index r [c] = -1
    · rw [if_pos h1, if_pos (by simpa using h1)]
    · rw [if_neg h1, if_neg (by simpa using h1)]
theorem Sm.index_take (c : UInt8) : ∀ l : List UInt8, (if 0 ≤ index l [c] then l.take (index l [c]).toNat else l) = l.takeWhile (fun b => !(b == c))
  | [] => by simp [index]
  | b :: r => by
    have ih := index_take c r
    have hg := index_ge r [c]
    rw [List.takeWhile_cons, index_cons]
    by_cases h : b = c
    · subst h
      simp
    · have hne : (!(b == c)) = true := by simpa using h
      rw [if_neg h, hne]
      simp only [↓reduceIte]
      by_cases h1 : index r [c] = -1
      · rw [if_pos h1, if_neg (by decide)]
        rw [if_neg (by omega)] at ih
        rw [← ih]
      · rw [if_neg h1, if_pos (by omega), show (index r [c] + 1).toNat = (index r [c]).toNat + 1 by omega, List.take_succ_cons]
        rw [if_pos (by omega)] at ih
        rw [ih]
theorem Sm.tw_map (l : List (BitVec 8)) : (l.map UInt8.ofBitVec).takeWhile (fun b => !(b == (32 : UInt8))) = (l.takeWhile (fun b => !(b == 32#8))).map UInt8.ofBitVec := by
  induction l with
  | nil => rfl
  | cons b r ih =>
    simp only [List.map_cons, List.takeWhile_cons]
    by_cases h : b = 32#8
    · subst h
      rw [if_neg (by decide), if_neg (by decide)]
      rfl
    · rw [if_pos (by
        have : ¬ UInt8.ofBitVec b = 32 := fun e => h (ofBV_inj (e.trans (by decide)))
        simpa using this), if_pos (by simpa using h), ih]
      rfl
theorem Sm.Cut2_any (l : List (BitVec 8)) (w : World) (hm : l.length ≤ 1000000) (hL : LaysT w) :
    Calls Tryz.prog 92 #[.string (strB l), .string { data := #[32] }] w fun e w' => ∃ y b, e = .returned (.tuple #[.string (strB (l.takeWhile (fun b => !(b == 32#8)))), y, .bool b]) ∧ Below w.heap.size w w' := by
  obtain ⟨m, hmx⟩ := hL.mx
  refine (Tryz.strings_Cut (strB l) { data := #[32] } m w (by rw [strB_length]; omega) hmx).mono ?_
  rintro e w' ⟨rfl, n, rfl⟩
  refine ⟨.string ⟨(cut (strB l).data.toList [32]).2.1.toArray⟩, (cut (strB l).data.toList [32]).2.2, ?_, below_drewN w n⟩
  have e1 : (⟨(cut (strB l).data.toList [32]).1.toArray⟩ : ByteArray) = strB (l.takeWhile (fun b => !(b == 32#8))) := by
    have h := index_take 32 (strB l).data.toList
    have h2 : (cut (strB l).data.toList [32]).1 = (strB l).data.toList.takeWhile (fun b => !(b == (32 : UInt8))) := by
      rw [← h]
      unfold cut
      split <;> rfl
    rw [h2, strB_data, tw_map]
    exact mk_strB _
  show Ending.returned (.tuple #[.string ⟨(cut (strB l).data.toList [32]).1.toArray⟩, _, _]) = _
  rw [e1]
end Go.Proofs
