/-
  Which texts may be said: the plain facts on broken bytes, on signs of a kind, on blanks ahead and behind. No condition.
-/
import Derived.Lib.ValidLaws
import Derived.Lib.TrimUEq
import Derived.Lib.TrimByte
import Derived.Shelf.GgClosure.StringsIndexFunc
import Derived.Test.YtohidbkhccepnaaDoorTxMath
namespace Go.Proofs
open Go.Lib
/-- is it so of one of n, from k on? -/
def Sm.anyF (f : Nat → Bool) : Nat → Nat → Bool
  | _, 0 => false
  | k, n + 1 => f k || anyF f (k + 1) n
def Sm.brokenB (s : ByteArray) : Bool := Sm.anyF (fun k => Sm.brokeP s (Sm.posK s k)) 0 (Sm.cntS s)
def Sm.anyR (p : Nat → Bool) (s : ByteArray) : Bool := Sm.anyF (fun k => p (Sm.runeK s k)) 0 (Sm.cntS s)
theorem Sm.get_drop (s : ByteArray) (p j : Nat) : (s.data.toList.drop p).getD j 0 = s.get! (p + j) := by
  rw [List.getD_eq_getElem?_getD, List.getElem?_drop]
  cases s with
  | mk a =>
    show (a.toList[p + j]?).getD 0 = a[p + j]!
    rw [Array.getElem?_toList, getElem!_def]
    cases a[p + j]? <;> rfl
theorem Sm.decodeL_drop (s : ByteArray) (p : Nat) : decodeL (s.data.toList.drop p) = Utf8.decode s p := by
  rw [decodeL_N, decode_at, Sm.get_drop, Sm.get_drop, Sm.get_drop, Sm.get_drop, List.length_drop]
  rfl
theorem Sm.broke_iff {s : ByteArray} {p : Nat} : ((Utf8.decode s p).1 = 65533 ∧ (Utf8.decode s p).2 = 1) ↔ Sm.brokeP s p = true := by
  constructor
  · intro ⟨h1, h2⟩
    unfold Sm.brokeP
    refine decide_eq_true ⟨?_, h2⟩
    by_cases hb : 128 ≤ (s.get! p).toNat
    · exact hb
    · exfalso
      rw [decode_at] at h1
      unfold decodeN at h1
      have := (s.get! p).toNat_lt
      rw [if_pos (by omega)] at h1
      simp only at h1
      omega
  · intro h
    rw [Sm.broke_rune h]
    exact ⟨rfl, rfl⟩
theorem Sm.valid_from (s : ByteArray) : ∀ n k, k + n = Sm.cntS s → validD (s.data.toList.drop (Sm.posK s k)) = !Sm.anyF (fun k => Sm.brokeP s (Sm.posK s k)) k n
  | 0, k, h => by
    have : Sm.posK s k = s.size := by rw [show k = Sm.cntS s by omega]; exact Sm.cntS_end s
    rw [this, List.drop_of_length_le (by rw [Array.length_toList]; exact Nat.le_refl _)]
    rfl
  | n + 1, k, h => by
    have hlt := Sm.cntS_lt (s := s) (j := k) (by omega)
    have hne : s.data.toList.drop (Sm.posK s k) ≠ [] := by
      intro e
      have := congrArg List.length e
      rw [List.length_drop, Array.length_toList] at this
      have h2 : s.data.size = s.size := rfl
      simp only [List.length_nil] at this
      omega
    rw [validD_step _ hne, Sm.decodeL_drop]
    unfold Sm.anyF
    by_cases hb : Sm.brokeP s (Sm.posK s k) = true
    · rw [if_pos (Sm.broke_iff.2 hb), hb]
      rfl
    · rw [if_neg (fun e => hb (Sm.broke_iff.1 e)), List.drop_drop, ← Sm.posK_succ hlt, Sm.valid_from s n (k + 1) (by omega)]
      simp only [Bool.not_eq_true] at hb
      rw [hb]
      rfl
theorem Sm.valid_eq (s : ByteArray) : validD s.data.toList = !Sm.brokenB s := by
  have h := Sm.valid_from s (Sm.cntS s) 0 (by omega)
  rwa [show Sm.posK s 0 = 0 from rfl, List.drop_zero] at h
theorem Sm.idx_from (p : Nat → Bool) (s : ByteArray) : ∀ n k f, k + n = Sm.cntS s → s.size ≤ Sm.posK s k + f → decide (0 ≤ idxFuncFrom p true s f (Sm.posK s k)) = Sm.anyF (fun k => p (Sm.runeK s k)) k n
  | 0, k, f, h, _ => by
    have : Sm.posK s k = s.size := by rw [show k = Sm.cntS s by omega]; exact Sm.cntS_end s
    rw [idxFuncFrom_end p true s f _ (by omega)]
    rfl
  | n + 1, k, f, h, hf => by
    have hlt := Sm.cntS_lt (s := s) (j := k) (by omega)
    obtain ⟨g, rfl⟩ : ∃ g, f = g + 1 := ⟨f - 1, by omega⟩
    have hst := Sm.posK_step hlt
    unfold idxFuncFrom Sm.anyF
    rw [if_pos hlt]
    by_cases hb : p (Sm.runeK s k) = true
    · rw [if_pos (show p (Utf8.decode s (Sm.posK s k)).1 = true from hb), hb]
      simp
    · rw [if_neg (show ¬ p (Utf8.decode s (Sm.posK s k)).1 = true from hb), ← Sm.posK_succ hlt, Sm.idx_from p s n (k + 1) g (by omega) (by omega)]
      simp only [Bool.not_eq_true] at hb
      rw [hb]
      rfl
theorem Sm.idx_eq (p : Nat → Bool) (s : ByteArray) : decide (0 ≤ idxFunc p true s) = Sm.anyR p s := Sm.idx_from p s (Sm.cntS s) 0 s.size (by omega) (by show s.size ≤ 0 + s.size; omega)
/-- is there nothing, or a blank ahead or behind? -/
def Sm.blankB (s : ByteArray) : Bool := decide (s.size = 0 ∨ s.get! 0 = 32 ∨ s.get! (s.size - 1) = 32)
theorem Sm.drop_len (p : UInt8 → Bool) : ∀ l : List UInt8, (l.dropWhile p).length ≤ l.length
  | [] => by simp
  | b :: r => by
    rw [List.dropWhile_cons]
    split
    · have := Sm.drop_len p r
      simp only [List.length_cons]
      omega
    · exact Nat.le_refl _
theorem Sm.left_iff (c : UInt8) (l : List UInt8) (hne : l ≠ []) : trimLeftB l c = l ↔ l.getD 0 0 ≠ c := by
  cases l with
  | nil => exact absurd rfl hne
  | cons b r =>
    unfold trimLeftB
    rw [List.dropWhile_cons]
    by_cases h : b = c
    · rw [if_pos (by simp [h])]
      constructor
      · intro e
        have h1 := congrArg List.length e
        have h2 := Sm.drop_len (· == c) r
        simp only [List.length_cons] at h1
        omega
      · intro e
        exact absurd h e
    · rw [if_neg (by simp [h])]
      exact ⟨fun _ => h, fun _ => rfl⟩
theorem Sm.right_iff (c : UInt8) (l : List UInt8) (hne : l ≠ []) : trimRightB l c = l ↔ l.getD (l.length - 1) 0 ≠ c := by
  have h0 : 0 < l.length := List.length_pos_iff.2 hne
  have h := Sm.left_iff c l.reverse (by simpa using hne)
  have e1 : l.reverse.getD 0 0 = l.getD (l.length - 1) 0 := by
    rw [List.getD_eq_getElem?_getD, List.getElem?_reverse h0, List.getD_eq_getElem?_getD]
    simp
  rw [e1] at h
  unfold trimLeftB at h
  unfold trimRightB
  rw [← h]
  constructor
  · intro e
    have := congrArg List.reverse e
    rwa [List.reverse_reverse] at this
  · intro e
    rw [e, List.reverse_reverse]
theorem Sm.trim_iff (c : UInt8) (l : List UInt8) (hne : l ≠ []) : trimB l c = l ↔ l.getD 0 0 ≠ c ∧ l.getD (l.length - 1) 0 ≠ c := by
  unfold trimB
  constructor
  · intro e
    have hr : trimRightB l c = l := by
      by_cases h : trimRightB l c = l
      · exact h
      · exfalso
        have h1 : (trimLeftB (trimRightB l c) c).length ≤ (trimRightB l c).length := Sm.drop_len _ _
        rw [e] at h1
        have h2 : (trimRightB l c).length ≤ l.length := by
          unfold trimRightB
          rw [List.length_reverse]
          have := Sm.drop_len (· == c) l.reverse
          rw [List.length_reverse] at this
          exact this
        refine h ?_
        unfold trimRightB at h1 h2 ⊢
        have hs : l.reverse.dropWhile (· == c) <:+ l.reverse := List.dropWhile_suffix _
        rw [List.length_reverse] at h1 h2
        have := hs.eq_of_length (by rw [List.length_reverse]; omega)
        rw [this, List.reverse_reverse]
    rw [hr] at e
    exact ⟨(Sm.left_iff c l hne).1 e, (Sm.right_iff c l hne).1 hr⟩
  · intro ⟨h1, h2⟩
    rw [(Sm.right_iff c l hne).2 h2]
    exact (Sm.left_iff c l hne).2 h1
theorem Sm.list_get (s : ByteArray) (j : Nat) : s.data.toList.getD j 0 = s.get! j := by
  have := Sm.get_drop s 0 j
  rwa [List.drop_zero, Nat.zero_add] at this
theorem Sm.list_len (s : ByteArray) : s.data.toList.length = s.size := by rw [Array.length_toList]; rfl
theorem Sm.blank_eq (s : ByteArray) (h : 0 < s.size) : Sm.blankB s = !decide (trimB s.data.toList 32 = s.data.toList) := by
  have hne : s.data.toList ≠ [] := by
    intro e
    have := congrArg List.length e
    rw [Sm.list_len] at this
    simp only [List.length_nil] at this
    omega
  have hi := Sm.trim_iff 32 _ hne
  rw [Sm.list_get, Sm.list_get, Sm.list_len] at hi
  unfold Sm.blankB
  by_cases hb : trimB s.data.toList 32 = s.data.toList
  · rw [decide_eq_true hb, decide_eq_false (fun e => by
      have := hi.1 hb
      rcases e with e | e | e
      · omega
      · exact this.1 e
      · exact this.2 e)]
    rfl
  · rw [decide_eq_false hb]
    refine decide_eq_true ?_
    by_cases h1 : s.get! 0 = 32
    · exact .inr (.inl h1)
    · by_cases h2 : s.get! (s.size - 1) = 32
      · exact .inr (.inr h2)
      · exact absurd (hi.2 ⟨h1, h2⟩) hb
/-- may a sign not be said? -/
def Sm.badR (n : Nat) : Bool := decide (n < 32 ∨ (127 ≤ n ∧ n ≤ 159))
/-- what Check answers -/
def Sm.checkN (s : ByteArray) : Int := if 200 < s.size then 3 else if Sm.brokenB s then 130 else if Sm.anyR Sm.badR s then 131 else if Sm.blankB s then 132 else 0
end Go.Proofs
