/-
  Who is named in a text: the plain facts, byte by byte and sign by sign. No condition.
-/
import Derived.Test.YtneaenplbccpmaaGreatDoorTxI
import Derived.Test.YtneaenplbccpmaaGreatDoorSpB
namespace Go.Proofs
open Go Go.RowKit Sm Go.Lib
def Sm.nmB (b : BitVec 8) : Bool := nameN b.toNat
/-- the names that stand behind an @, each as often as it does -/
def Sm.rawF : Bool → List (BitVec 8) → List (List (BitVec 8))
  | _, [] => []
  | inN, b :: r => (if b = 64#8 ∧ inN = false ∧ 0 < (r.takeWhile nmB).length ∧ (r.takeWhile nmB).length ≤ 16 then [r.takeWhile nmB] else []) ++ rawF (nmB b) r
theorem Sm.rawF_cons (fl : Bool) (b : BitVec 8) (r : List (BitVec 8)) : rawF fl (b :: r) = (if b = 64#8 ∧ fl = false ∧ 0 < (r.takeWhile nmB).length ∧ (r.takeWhile nmB).length ≤ 16 then [r.takeWhile nmB] else []) ++ rawF (nmB b) r := rfl
def Sm.addN (acc : List (List (BitVec 8))) (x : List (BitVec 8)) : List (List (BitVec 8)) := if x ∈ acc then acc else acc ++ [x]
def Sm.dedL (l : List (List (BitVec 8))) : List (List (BitVec 8)) := l.foldl addN []
theorem Sm.dedL_succ {l : List (List (BitVec 8))} {k : Nat} (h : k < l.length) : dedL (l.take (k + 1)) = addN (dedL (l.take k)) l[k] := by
  unfold dedL
  rw [List.take_succ_eq_append_getElem h, List.foldl_append]
  rfl
theorem Sm.dec_low {s : ByteArray} {p : Nat} (hb : (s.get! p).toNat < 128) : Utf8.decode s p = ((s.get! p).toNat, 1) := by
  rw [decode_at]
  unfold decodeN
  rw [if_pos (by omega)]
theorem Sm.dec_high {s : ByteArray} {p : Nat} (hb : 128 ≤ (s.get! p).toNat) : 128 ≤ (Utf8.decode s p).1 ∧ ∀ j, j < (Utf8.decode s p).2 → 128 ≤ (s.get! (p + j)).toNat := by
  rw [decode_at]
  unfold decodeN
  repeat' split
  all_goals (refine ⟨by simp only; omega, fun j hj => ?_⟩; simp only at hj)
  all_goals (rcases (show j = 0 ∨ j = 1 ∨ j = 2 ∨ j = 3 by omega) with rfl | rfl | rfl | rfl <;> (try simp only [Nat.add_zero]) <;> omega)
theorem Sm.nmB_high {b : BitVec 8} (h : 128 ≤ b.toNat) : nmB b = false := by
  unfold nmB nameN
  exact decide_eq_false (by omega)
theorem Sm.rawF_high (l : List (BitVec 8)) : ∀ (m p : Nat) (fl : Bool), p + m ≤ l.length → (∀ j (h : p + j < l.length), j < m → 128 ≤ (l[p + j]).toNat) → rawF fl (l.drop p) = rawF (if m = 0 then fl else false) (l.drop (p + m))
  | 0, p, fl, _, _ => by simp
  | m + 1, p, fl, hl, h => by
    have hp : p < l.length := by omega
    have h0 := h 0 (by omega) (by omega)
    simp only [Nat.add_zero] at h0
    have hne : ¬ l[p] = 64#8 := by intro e; rw [e] at h0; simp at h0
    rw [List.drop_eq_getElem_cons hp]
    rw [rawF_cons, if_neg (fun e => hne e.1), List.nil_append, nmB_high h0, rawF_high l m (p + 1) false (by omega) (fun j hj hm => by
      have := h (j + 1) (by omega) (by omega)
      simpa [Nat.add_assoc, Nat.add_comm 1 j] using this)]
    rw [if_neg (by omega : ¬ m + 1 = 0), show p + (m + 1) = p + 1 + m by omega]
    split <;> rfl
/-- what a sign adds -/
def Sm.adds (s : ByteArray) (k : Nat) (fl : Bool) : List (List (BitVec 8)) :=
  if runeK s k = 64 ∧ fl = false ∧ 0 < (((strL s).drop (posK s k + 1)).takeWhile nmB).length ∧ (((strL s).drop (posK s k + 1)).takeWhile nmB).length ≤ 16 then [((strL s).drop (posK s k + 1)).takeWhile nmB] else []
theorem Sm.raw_step {s : ByteArray} {k : Nat} (h : k < cntS s) (fl : Bool) :
    rawF fl ((strL s).drop (posK s k)) = adds s k fl ++ rawF (nameN (runeK s k)) ((strL s).drop (posK s (k + 1))) := by
  have hp := cntS_lt h
  have hpl : posK s k < (strL s).length := by rw [strL_length]; exact hp
  have hat := strL_at s (posK s k) hpl
  have hw := dec_width s _ hp
  rw [posK_succ hp]
  unfold adds runeK
  by_cases hb : (s.get! (posK s k)).toNat < 128
  · rw [dec_low hb]
    have hN : (strL s)[posK s k].toNat = (s.get! (posK s k)).toNat := by rw [hat]; rfl
    rw [List.drop_eq_getElem_cons hpl, rawF_cons]
    have e64 : ((strL s)[posK s k] = 64#8) = ((s.get! (posK s k)).toNat = 64) := by
      rw [← hN]
      exact propext ⟨fun e => by rw [e]; rfl, fun e => BitVec.eq_of_toNat_eq (by rw [e]; rfl)⟩
    have en : nmB (strL s)[posK s k] = nameN (s.get! (posK s k)).toNat := by unfold nmB; rw [hN]
    rw [en]
    simp only [e64]
  · have hd := dec_high (s := s) (p := posK s k) (by omega)
    rw [if_neg (by omega), List.nil_append]
    have hn : nameN (Utf8.decode s (posK s k)).1 = false := by unfold nameN; exact decide_eq_false (by omega)
    rw [hn, rawF_high (strL s) (Utf8.decode s (posK s k)).2 (posK s k) fl (by rw [strL_length]; exact hw.2) (fun j hj hm => by
      rw [strL_at]
      exact hd.2 j hm)]
    rw [if_neg (by omega)]
/-- who is named -/
def Sm.namedS (s : ByteArray) : List (List (BitVec 8)) := dedL (rawF false (strL s))
theorem Sm.addN_len (acc : List (List (BitVec 8))) (x : List (BitVec 8)) : (addN acc x).length ≤ acc.length + 1 := by
  unfold addN
  split
  · omega
  · simp
theorem Sm.dedL_len (l : List (List (BitVec 8))) : ∀ k, k ≤ l.length → (dedL (l.take k)).length ≤ k
  | 0, _ => by simp [dedL]
  | k + 1, h => by
    rw [dedL_succ (by omega)]
    have := addN_len (dedL (l.take k)) l[k]
    have := dedL_len l k (by omega)
    omega
theorem Sm.rawF_len : ∀ (l : List (BitVec 8)) (fl : Bool), (rawF fl l).length ≤ l.length
  | [], _ => by simp [rawF]
  | b :: r, fl => by
    have := rawF_len r (nmB b)
    rw [rawF_cons, List.length_append]
    split <;> simp <;> omega
end Go.Proofs
