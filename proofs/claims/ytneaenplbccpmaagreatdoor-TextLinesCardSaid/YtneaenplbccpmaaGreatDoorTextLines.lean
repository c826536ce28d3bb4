/-
  The law TextLines holds of every text and every width: Lines answers the document's lines, or that there are none of that width. Conditions: the row's own.
-/
import Derived.Test.YtneaenplbccpmaaGreatDoorTxLn
import Derived.Deep.DeepCutAuto
import Derived.Deep.CutRange
import Derived.Test.YtneaenplbccpmaaGreatDoorTxSm
import Derived.Deep.Onto
import Derived.Test.YtneaenplbccpmaaGreatDoorTxWk
import Derived.Test.YtneaenplbccpmaaGreatDoorFrame
namespace Go.Proofs
open Go Go.RowKit Sm Go.Lib
theorem Sm.dec_ext (s : ByteArray) (p q : Nat) (h : p ≤ s.size) : Utf8.decode (s.extract p s.size) q = Utf8.decode s (p + q) := by
  rw [decode_at, decode_at, size_ext, get_ext s p _ h, get_ext s p _ h, get_ext s p _ h, get_ext s p _ h, Nat.sub_sub]
  simp only [Nat.add_assoc]
theorem Sm.pos_ext (s : ByteArray) (j : Nat) : ∀ k, posK (s.extract (posK s j) s.size) k + posK s j = posK s (j + k)
  | 0 => by simp [posK]
  | k + 1 => by
    have ih := pos_ext s j k
    have hp := posK_le s j
    have hk := posK_le (s.extract (posK s j) s.size) k
    rw [size_ext] at hk
    rw [← Nat.add_assoc, posK, posK, size_ext]
    by_cases h : posK s (j + k) < s.size
    · rw [if_pos h, if_pos (by omega), dec_ext s _ _ hp, Nat.add_comm (posK s j), ih]
      omega
    · rw [if_neg h, if_neg (by omega), ih]
/-- the signs behind a place -/
theorem Sm.cnt_drop (s : ByteArray) {j : Nat} (hj : j ≤ cntS s) : cntS (s.extract (posK s j) s.size) + j = cntS s := by
  have h : cntS s - j = cntS (s.extract (posK s j) s.size) := cntS_of (by
    have h1 := pos_ext s j (cntS s - j)
    rw [show j + (cntS s - j) = cntS s by omega, cntS_end] at h1
    rw [size_ext]
    omega) (fun i hi => by
    have h1 := pos_ext s j i
    have h2 := cntS_lt (s := s) (j := j + i) (by omega)
    rw [size_ext]
    omega)
  omega
theorem Sm.get_strB (l : List (BitVec 8)) {i : Nat} {b : BitVec 8} (h : l[i]? = some b) : ((strB l).get! i).toNat = b.toNat := byte_get (strB l) (by rw [strL_strB]; exact h)
/-- two texts with a blank between them -/
theorem Sm.cnt_blank (a b : List (BitVec 8)) : cntS (strB (a ++ 32#8 :: b)) = cntS (strB a) + 1 + cntS (strB b) := by
  obtain ⟨s, hs⟩ : ∃ s, strB (a ++ 32#8 :: b) = s := ⟨_, rfl⟩
  have hsz : s.size = a.length + (b.length + 1) := by rw [← hs, strB_length]; simp
  have hb : (s.get! a.length).toNat = 32 := by
    rw [← hs]
    exact get_strB (a ++ 32#8 :: b) (i := a.length) (b := 32#8) (by simp)
  obtain ⟨j, hj, hp⟩ := sign_at (s := s) (i := a.length) (by omega) (by omega)
  have e1 : s.extract 0 (posK s j) = strB a := by
    rw [hp, ← hs, cut_strB, List.drop_zero]
    congr 1
    simp
  have c1 := cnt_cut (s := s) (j := j) (by omega)
  rw [e1] at c1
  have hp1 : posK s (j + 1) = a.length + 1 := by
    rw [posK_succ (cntS_lt hj), hp, dec_low (by omega)]
  have e2 : s.extract (posK s (j + 1)) s.size = strB b := by
    rw [hp1, ← hs, cut_strB, List.take_of_length_le (by rw [strB_length]; exact Nat.le_refl _)]
    congr 1
    rw [show a.length + 1 = (a ++ [32#8]).length by simp, show a ++ 32#8 :: b = (a ++ [32#8]) ++ b by simp, List.drop_left]
  have c2 := cnt_drop s (j := j + 1) (by omega)
  rw [e2] at c2
  rw [hs]
  omega
def Sm.cntL (xs : List (List (BitVec 8))) : Nat := (xs.map fun x => cntS (strB x)).sum
theorem Sm.joinL_cons (x y : List (BitVec 8)) (r : List (List (BitVec 8))) : joinL (x :: y :: r) = x ++ 32#8 :: joinL (y :: r) := by
  simp [joinL, List.intercalate, List.intersperse]
theorem Sm.cnt_joinL : ∀ (x : List (BitVec 8)) (r : List (List (BitVec 8))), cntS (strB (joinL (x :: r))) = cntL (x :: r) + r.length
  | x, [] => by simp [joinL, List.intercalate, cntL]
  | x, y :: r => by
    have ih := cnt_joinL y r
    rw [joinL_cons, cnt_blank, ih]
    simp only [cntL, List.map_cons, List.sum_cons, List.length_cons]
    omega
theorem Sm.room_sum (l : List (BitVec 8)) (n : Nat) : ∀ k, roomK l n k = (n : Int) - (cntL (piecesK l n k) : Int) - k
  | 0 => by simp [roomK, cntL, piecesK]
  | k + 1 => by
    have ih := room_sum l n k
    have e : cntL (piecesK l n (k + 1)) = cntL (piecesK l n k) + cntP l n k := by
      rw [piecesK_succ]
      unfold cntL cntP
      simp
    unfold roomK
    rw [ih, e]
    omega
theorem Sm.piece_cnt_pos {l : List (BitVec 8)} {n k : Nat} (hn : 0 < n) (h : leftK l n k ≠ []) : 0 < cntP l n k := by
  obtain ⟨b, r, hbr⟩ := List.exists_cons_of_ne_nil h
  have hp := piece_pos (r := r) hn (leftK_head l n k hbr)
  rw [← hbr] at hp
  rcases Nat.eq_zero_or_pos (cntS (strB (pieceL n (leftK l n k)))) with e | e
  · have h0 := cntS_end (strB (pieceL n (leftK l n k)))
    rw [e] at h0
    have h1 : posK (strB (pieceL n (leftK l n k))) 0 = 0 := rfl
    rw [strB_length] at h0
    omega
  · exact e
/-- a line's signs -/
theorem Sm.line_cnt {l : List (BitVec 8)} {n m : Nat} (hn : 0 < n) (hm : 0 < m) (h : ∀ i, i < m → fits l n i) : 0 < cntS (strB (joinL (piecesK l n m))) ∧ cntS (strB (joinL (piecesK l n m))) ≤ n := by
  have hne : piecesK l n m ≠ [] := fun e => by have := piecesK_len l n m; rw [e] at this; simp at this; omega
  obtain ⟨x, r, hxr⟩ := List.exists_cons_of_ne_nil hne
  have hrl : r.length + 1 = m := by have := piecesK_len l n m; rw [hxr] at this; simpa using this
  have hc := cnt_joinL x r
  rw [← hxr] at hc
  obtain ⟨m, rfl⟩ : ∃ k, m = k + 1 := ⟨m - 1, by omega⟩
  have hlast := h m (by omega)
  have hpos := piece_cnt_pos hn hlast.1
  have hroom := room_sum l n m
  have e : cntL (piecesK l n (m + 1)) = cntL (piecesK l n m) + cntP l n m := by
    rw [piecesK_succ]
    unfold cntL cntP
    simp
  have h2 := hlast.2
  rw [hc, e]
  omega
theorem Sm.fillF_spec {l : List (BitVec 8)} {n : Nat} (hn : 0 < n) : ∀ f k, (∀ i, i < k → fits l n i) → l.length ≤ k + f → (∀ i, i < fillF l n f k → fits l n i) ∧ ¬ fits l n (fillF l n f k)
  | 0, k, h, hf => by
    unfold fillF
    refine ⟨h, fun h2 => ?_⟩
    have h3 := fill_m hn h
    have h4 : 0 < (leftK l n k).length := List.length_pos_iff.2 h2.1
    omega
  | f + 1, k, h, hf => by
    unfold fillF
    by_cases hk : fits l n k
    · rw [if_pos hk]
      exact fillF_spec hn f (k + 1) (fun i hi => by
        by_cases e : i = k
        · exact e ▸ hk
        · exact h i (by omega)) (by omega)
    · rw [if_neg hk]
      exact ⟨h, hk⟩
theorem Sm.fillN_spec {l : List (BitVec 8)} {n : Nat} (hn : 0 < n) : (∀ i, i < fillN l n → fits l n i) ∧ ¬ fits l n (fillN l n) := fillF_spec hn l.length 0 (fun i hi => by omega) (by omega)
theorem Sm.fillN_pos {l : List (BitVec 8)} {n : Nat} (hn : 0 < n) (hl : l ≠ []) (hb : bl l = l) : 0 < fillN l n := by
  rcases Nat.eq_zero_or_pos (fillN l n) with e | e
  · have h := (fillN_spec (l := l) hn).2
    rw [e] at h
    exact absurd (fits_zero hl hb) h
  · exact e
theorem Sm.linesF_cnt {n : Nat} (hn : 0 < n) : ∀ f l, bl l = l → ∀ x ∈ linesF n f l, 0 < cntS (strB x) ∧ cntS (strB x) ≤ n
  | 0, l, _, x, h => by simp [linesF] at h
  | f + 1, l, hb, x, h => by
    unfold linesF at h
    by_cases hl : l = []
    · rw [if_pos hl] at h; simp at h
    · rw [if_neg hl] at h
      rcases List.mem_cons.1 h with e | e
      · rw [e]
        exact line_cnt hn (fillN_pos hn hl hb) (fillN_spec hn).1
      · exact linesF_cnt hn f _ (leftK_bl l n _) x e
/-- the bytes that are no blank -/
def Sm.solid (l : List (BitVec 8)) : List (BitVec 8) := l.filter fun b => !(b == 32#8)
theorem Sm.solid_bl : ∀ l : List (BitVec 8), solid (bl l) = solid l
  | [] => rfl
  | b :: r => by
    by_cases h : b = 32#8
    · subst h
      have ih := solid_bl r
      unfold bl solid at ih ⊢
      simpa using ih
    · unfold bl
      rw [List.dropWhile_cons_of_neg (by simpa using h)]
theorem Sm.piece_split (n : Nat) (l : List (BitVec 8)) : pieceL n l ++ l.drop (pieceL n l).length = l := by
  have hp : pieceL n l <+: l := (List.takeWhile_prefix _).trans (List.take_prefix _ _)
  obtain ⟨t, ht⟩ := hp
  have e : l.drop (pieceL n l).length = t := by
    have := congrArg (List.drop (pieceL n l).length) ht
    rw [List.drop_left] at this
    exact this.symm
  rw [e]
  exact ht
theorem Sm.solid_app (a b : List (BitVec 8)) : solid (a ++ b) = solid a ++ solid b := List.filter_append ..
theorem Sm.solid_pieces (l : List (BitVec 8)) (n : Nat) : ∀ k, (piecesK l n k).flatMap solid ++ solid (leftK l n k) = solid l
  | 0 => solid_bl l
  | k + 1 => by
    have ih := solid_pieces l n k
    rw [piecesK_succ, List.flatMap_append, ← ih, List.append_assoc]
    congr 1
    have e := congrArg solid (piece_split n (leftK l n k))
    rw [solid_app] at e
    rw [← e]
    simp only [List.flatMap_cons, List.flatMap_nil, List.append_nil]
    congr 1
    exact solid_bl _
theorem Sm.solid_join : ∀ xs : List (List (BitVec 8)), solid (joinL xs) = xs.flatMap solid
  | [] => rfl
  | [x] => by simp [joinL, List.intercalate]
  | x :: y :: r => by
    rw [joinL_cons, solid_app, List.flatMap_cons, ← solid_join (y :: r)]
    rfl
theorem Sm.solid_lines {n : Nat} (hn : 0 < n) : ∀ f l, bl l = l → l.length < f → solid (linesF n f l).flatten = solid l
  | 0, l, _, h => absurd h (by omega)
  | f + 1, l, hb, h => by
    unfold linesF
    by_cases hl : l = []
    · rw [if_pos hl, hl]; rfl
    · rw [if_neg hl, List.flatten_cons, solid_app, solid_join]
      have h1 := fill_m hn (fillN_spec (l := l) hn).1
      have h2 := fillN_pos hn hl hb
      rw [solid_lines hn f _ (leftK_bl l n _) (by omega)]
      exact solid_pieces l n _
/-- put together, the lines are the text, but for blanks -/
theorem Sm.solid_all {n : Nat} (hn : 0 < n) (s : List (BitVec 8)) : solid (linesS n s).flatten = solid s := by
  unfold linesS
  rw [solid_lines hn _ _ (bl_bl s) (by have := bl_len s; omega), solid_bl]
theorem Sm.lines_cnt {n : Nat} (hn : 0 < n) (s : List (BitVec 8)) : ∀ x ∈ linesS n s, 0 < cntS (strB x) ∧ cntS (strB x) ≤ n := linesF_cnt hn _ _ (bl_bl s)
end Go.Proofs
namespace Go.Proofs
open Go Go.RowKit Sm Go.Lib
/-- no blank -/
def Sm.nb (b : BitVec 8) : Bool := !(b == 32#8)
/-- how many signs bytes have -/
def Sm.cn (l : List (BitVec 8)) : Nat := cntS (strB l)
/-- the lines of what is left, where a line is begun with so many signs -/
def Sm.gre (n : Nat) (l cur : List (BitVec 8)) (has : Nat) : List (List (BitVec 8)) :=
  if _h : l = [] then (if 0 < has then [cur] else [])
  else if 0 < has ∧ has + 1 + cn (pieceL n l) ≤ n then gre n (bl (l.drop (max 1 (pieceL n l).length))) (cur ++ 32#8 :: pieceL n l) (has + 1 + cn (pieceL n l))
  else (if 0 < has then [cur] else []) ++ gre n (bl (l.drop (max 1 (pieceL n l).length))) (pieceL n l) (cn (pieceL n l))
termination_by l.length
decreasing_by
  all_goals
    have h1 := bl_len (l.drop (max 1 (pieceL n l).length))
    rw [List.length_drop] at h1
    have h2 : 0 < l.length := List.length_pos_iff.2 (by assumption)
    omega
theorem Sm.gre_nil (n : Nat) (cur : List (BitVec 8)) (has : Nat) : gre n [] cur has = if 0 < has then [cur] else [] := by
  rw [gre]; simp
theorem Sm.bl_ne {l : List (BitVec 8)} (hl : l ≠ []) (hb : bl l = l) : ∃ b r, l = b :: r ∧ b ≠ 32#8 := by
  obtain ⟨b, r, e⟩ := List.exists_cons_of_ne_nil hl
  exact ⟨b, r, e, bl_head (hb.trans e)⟩
theorem Sm.piece_pos' {n : Nat} (hn : 0 < n) {l : List (BitVec 8)} (hl : l ≠ []) (hb : bl l = l) : 0 < (pieceL n l).length := by
  obtain ⟨b, r, e, hne⟩ := bl_ne hl hb
  rw [e]
  exact piece_pos hn hne
theorem Sm.cn_pos {l : List (BitVec 8)} (h : 0 < l.length) : 0 < cn l := by
  rcases Nat.eq_zero_or_pos (cn l) with e | e
  · have h0 := cntS_end (strB l)
    unfold cn at e
    rw [e] at h0
    have h1 : posK (strB l) 0 = 0 := rfl
    rw [strB_length] at h0
    omega
  · exact e
theorem Sm.gre_more {n : Nat} (hn : 0 < n) {l : List (BitVec 8)} (hl : l ≠ []) (hb : bl l = l) (cur : List (BitVec 8)) {has : Nat} (h0 : 0 < has) (h : has + 1 + cn (pieceL n l) ≤ n) :
    gre n l cur has = gre n (bl (l.drop (pieceL n l).length)) (cur ++ 32#8 :: pieceL n l) (has + 1 + cn (pieceL n l)) := by
  have hp := piece_pos' hn hl hb
  rw [gre, dif_neg hl, if_pos ⟨h0, h⟩, Nat.max_eq_right hp]
theorem Sm.gre_first {n : Nat} (hn : 0 < n) {l : List (BitVec 8)} (hl : l ≠ []) (hb : bl l = l) (cur : List (BitVec 8)) :
    gre n l cur 0 = gre n (bl (l.drop (pieceL n l).length)) (pieceL n l) (cn (pieceL n l)) := by
  have hp := piece_pos' hn hl hb
  rw [gre, dif_neg hl, if_neg (by omega), if_neg (by omega), Nat.max_eq_right hp, List.nil_append]
theorem Sm.gre_stop {n : Nat} (hn : 0 < n) {l : List (BitVec 8)} (hb : bl l = l) (cur cur2 : List (BitVec 8)) {has : Nat} (h : l ≠ [] → ¬ (0 < has ∧ has + 1 + cn (pieceL n l) ≤ n)) :
    gre n l cur has = (if 0 < has then [cur] else []) ++ gre n l cur2 0 := by
  by_cases hl : l = []
  · subst hl
    rw [gre_nil, gre_nil]
    simp
  · have hp := piece_pos' hn hl hb
    rw [gre_first hn hl hb cur2, gre, dif_neg hl, if_neg (h hl), Nat.max_eq_right hp]
theorem Sm.cntP_cn (l : List (BitVec 8)) (n k : Nat) : cntP l n k = cn (pieceL n (leftK l n k)) := rfl
theorem Sm.joinL_snoc : ∀ (xs : List (List (BitVec 8))) (x : List (BitVec 8)), xs ≠ [] → joinL (xs ++ [x]) = joinL xs ++ 32#8 :: x
  | [], _, h => absurd rfl h
  | [a], x, _ => by rw [List.cons_append, List.nil_append, joinL_cons]; simp [joinL, List.intercalate]
  | a :: b :: r, x, _ => by
    have ih := joinL_snoc (b :: r) x (by simp)
    rw [List.cons_append, List.cons_append, joinL_cons, joinL_cons, ← List.cons_append, ih, List.append_assoc]
    rfl
theorem Sm.cntL_succ (l : List (BitVec 8)) (n k : Nat) : cntL (piecesK l n (k + 1)) = cntL (piecesK l n k) + cntP l n k := by
  rw [piecesK_succ]
  unfold cntL cntP
  simp
theorem Sm.gre_fill {n : Nat} (hn : 0 < n) {l : List (BitVec 8)} (hb : bl l = l) {m : Nat} (h1 : ∀ i, i < m → fits l n i) (h2 : ¬ fits l n m) :
    ∀ d k, 0 < k → k + d = m → gre n (leftK l n k) (joinL (piecesK l n k)) (cntL (piecesK l n k) + k - 1) = joinL (piecesK l n m) :: gre n (leftK l n m) [] 0
  | 0, k, hk, e => by
    obtain rfl : k = m := by omega
    have hr := room_sum l n k
    have hpos : 0 < cntL (piecesK l n k) + k - 1 := by
      obtain ⟨j, rfl⟩ : ∃ j, k = j + 1 := ⟨k - 1, by omega⟩
      have h3 := piece_cnt_pos hn (h1 j (by omega)).1
      rw [cntL_succ]
      omega
    rw [gre_stop hn (leftK_bl l n k) _ [] (fun hl hx => by
      refine h2 ⟨hl, ?_⟩
      rw [hr, cntP_cn]
      omega), if_pos hpos]
    rfl
  | d + 1, k, hk, e => by
    have hf := h1 k (by omega)
    have hr := room_sum l n k
    have h3 := hf.2
    rw [hr, cntP_cn] at h3
    have hpos : 0 < cntL (piecesK l n k) + k - 1 := by
      obtain ⟨j, rfl⟩ : ∃ j, k = j + 1 := ⟨k - 1, by omega⟩
      have h3 := piece_cnt_pos hn (h1 j (by omega)).1
      rw [cntL_succ]
      omega
    have ih := gre_fill hn hb h1 h2 d (k + 1) (by omega) (by omega)
    rw [gre_more hn hf.1 (leftK_bl l n k) _ hpos (by omega), ← ih]
    have e1 : joinL (piecesK l n k) ++ 32#8 :: pieceL n (leftK l n k) = joinL (piecesK l n (k + 1)) := by
      rw [piecesK_succ, joinL_snoc _ _ (fun h => by have := piecesK_len l n k; rw [h] at this; simp at this; omega)]
    have e2 : cntL (piecesK l n k) + k - 1 + 1 + cn (pieceL n (leftK l n k)) = cntL (piecesK l n (k + 1)) + (k + 1) - 1 := by
      rw [cntL_succ, cntP_cn]
      omega
    rw [e1, e2]
    rfl
theorem Sm.gre_line {n : Nat} (hn : 0 < n) {l : List (BitVec 8)} (hl : l ≠ []) (hb : bl l = l) : gre n l [] 0 = joinL (piecesK l n (fillN l n)) :: gre n (leftK l n (fillN l n)) [] 0 := by
  have hs := fillN_spec (l := l) hn
  have hp := fillN_pos hn hl hb
  have h := gre_fill hn hb hs.1 hs.2 (fillN l n - 1) 1 (by omega) (by omega)
  rw [← h, gre_first hn hl hb]
  have e0 : leftK l n 0 = l := hb
  have e1 : leftK l n 1 = bl (l.drop (pieceL n l).length) := by
    show bl ((leftK l n 0).drop (pieceL n (leftK l n 0)).length) = _
    rw [e0]
  have e2 : piecesK l n 1 = [pieceL n l] := by
    rw [piecesK_succ, e0]
    rfl
  rw [e1, e2]
  have e3 : joinL [pieceL n l] = pieceL n l := by simp [joinL, List.intercalate]
  have e4 : cntL [pieceL n l] + 1 - 1 = cn (pieceL n l) := by simp [cntL, cn]
  rw [e3, e4]
theorem Sm.linesF_gre {n : Nat} (hn : 0 < n) : ∀ f l, bl l = l → l.length < f → linesF n f l = gre n l [] 0
  | 0, l, _, h => absurd h (by omega)
  | f + 1, l, hb, h => by
    unfold linesF
    by_cases hl : l = []
    · rw [if_pos hl, hl, gre_nil]; rfl
    · have h1 := fill_m hn (fillN_spec (l := l) hn).1
      have h2 := fillN_pos hn hl hb
      rw [if_neg hl, gre_line hn hl hb, linesF_gre hn f _ (leftK_bl l n _) (by omega)]
theorem Sm.linesS_gre {n : Nat} (hn : 0 < n) (s : List (BitVec 8)) : linesS n s = gre n (bl s) [] 0 := by
  unfold linesS
  exact linesF_gre hn _ _ (bl_bl s) (by have := bl_len s; omega)
/-- words, where one is begun -/
def Sm.wordsA : List (BitVec 8) → List (BitVec 8) → List (List (BitVec 8))
  | [], cur => if cur = [] then [] else [cur]
  | b :: r, cur => if b = 32#8 then (if cur = [] then [] else [cur]) ++ wordsA r [] else wordsA r (cur ++ [b])
def Sm.wordsS (s : List (BitVec 8)) : List (List (BitVec 8)) := wordsA s []
theorem Sm.wordsA_app : ∀ (w t cur : List (BitVec 8)), (∀ b ∈ w, b ≠ 32#8) → wordsA (w ++ t) cur = wordsA t (cur ++ w)
  | [], t, cur, _ => by simp
  | b :: r, t, cur, h => by
    rw [List.cons_append, wordsA, if_neg (h b (by simp)), wordsA_app r t _ (fun x hx => h x (by simp [hx]))]
    simp
theorem Sm.words_bl : ∀ l : List (BitVec 8), wordsS (bl l) = wordsS l
  | [] => rfl
  | b :: r => by
    by_cases h : b = 32#8
    · subst h
      have ih := words_bl r
      have e1 : bl (32#8 :: r) = bl r := by unfold bl; rw [List.dropWhile_cons_of_pos (by decide)]
      have e2 : wordsS (32#8 :: r) = wordsS r := by unfold wordsS; rw [wordsA]; simp
      rw [e1, ih, e2]
    · unfold bl
      rw [List.dropWhile_cons_of_neg (by simpa using h)]
theorem Sm.nb_mem : ∀ (l : List (BitVec 8)), ∀ x ∈ l.takeWhile nb, nb x = true
  | [], x, h => by simp at h
  | b :: r, x, h => by
    by_cases hb : nb b = true
    · rw [List.takeWhile_cons_of_pos hb] at h
      rcases List.mem_cons.1 h with e | e
      · rw [e]; exact hb
      · exact nb_mem r x e
    · rw [List.takeWhile_cons_of_neg hb] at h
      simp at h
theorem Sm.nb_all : ∀ (l : List (BitVec 8)), (∀ x ∈ l, nb x = true) → l.takeWhile nb = l
  | [], _ => rfl
  | b :: r, h => by
    rw [List.takeWhile_cons_of_pos (h b (by simp)), nb_all r (fun x hx => h x (by simp [hx]))]
/-- the first word -/
theorem Sm.words_first {R : List (BitVec 8)} (hR : R ≠ []) (hb : bl R = R) : ∃ w t, R = w ++ t ∧ w ≠ [] ∧ (∀ b ∈ w, b ≠ 32#8) ∧ (t = [] ∨ ∃ r, t = 32#8 :: r) ∧ wordsS R = w :: wordsS (bl t) := by
  obtain ⟨b, r, e, hne⟩ := bl_ne hR hb
  have hsplit := (List.takeWhile_append_dropWhile (p := nb) (l := R)).symm
  have hw : ∀ x ∈ R.takeWhile nb, x ≠ 32#8 := fun x hx => by
    have := nb_mem R x hx
    unfold nb at this
    simpa using this
  have hw0 : R.takeWhile nb ≠ [] := by
    rw [e, List.takeWhile_cons_of_pos (by unfold nb; simpa using hne)]
    simp
  have ht : R.dropWhile nb = [] ∨ ∃ r, R.dropWhile nb = 32#8 :: r := by
    cases hd : R.dropWhile nb with
    | nil => exact .inl rfl
    | cons x r =>
      have := List.head?_dropWhile_not nb R
      rw [hd] at this
      have hx : x = 32#8 := by simpa [nb] using this
      exact .inr ⟨r, by rw [hx]⟩
  refine ⟨_, _, hsplit, hw0, hw, ht, ?_⟩
  rw [words_bl]
  unfold wordsS
  conv => lhs; rw [hsplit]
  rw [wordsA_app _ _ _ hw, List.nil_append]
  rcases ht with h | ⟨r, h⟩
  · rw [h, wordsA, if_neg hw0]; rfl
  · rw [h, wordsA, if_pos rfl, if_neg hw0, wordsA, if_pos rfl]; rfl
theorem Sm.words_nil {R : List (BitVec 8)} (hb : bl R = R) (h : wordsS R = []) : R = [] := by
  by_cases hR : R = []
  · exact hR
  · obtain ⟨w, t, _, _, _, _, e⟩ := words_first hR hb
    rw [e] at h
    cases h
/-- where a word ends a sign ends -/
theorem Sm.word_sign {w t : List (BitVec 8)} (ht : t = [] ∨ ∃ r, t = 32#8 :: r) : cn w ≤ cntS (strB (w ++ t)) ∧ posK (strB (w ++ t)) (cn w) = w.length ∧ ∀ k, k ≤ cn w → posK (strB (w ++ t)) k = posK (strB w) k := by
  have hj : ∃ j, j ≤ cntS (strB (w ++ t)) ∧ posK (strB (w ++ t)) j = w.length := by
    rcases ht with rfl | ⟨r, rfl⟩
    · refine ⟨_, Nat.le_refl _, ?_⟩
      rw [cntS_end, strB_length, List.append_nil]
    · have hb : ((strB (w ++ 32#8 :: r)).get! w.length).toNat = 32 := get_strB (w ++ 32#8 :: r) (i := w.length) (b := 32#8) (by simp)
      obtain ⟨j, h1, h2⟩ := sign_at (s := strB (w ++ 32#8 :: r)) (i := w.length) (by rw [strB_length]; simp) (by omega)
      exact ⟨j, by omega, h2⟩
  obtain ⟨j, h1, h2⟩ := hj
  have e : (strB (w ++ t)).extract 0 (posK (strB (w ++ t)) j) = strB w := by
    rw [h2, cut_strB, List.drop_zero, List.take_left]
  have hc := cnt_cut h1
  have hp := pos_cut h1
  rw [e] at hc hp
  have hcn : cn w = j := hc
  rw [hcn]
  exact ⟨h1, h2, fun k hk => (hp k hk).symm⟩
theorem Sm.take_nb {w : List (BitVec 8)} (hw : ∀ b ∈ w, b ≠ 32#8) (i : Nat) : (w.take i).takeWhile nb = w.take i := by
  refine nb_all _ (fun x hx => ?_)
  have := hw x (List.mem_of_mem_take hx)
  unfold nb
  simpa using this
/-- the piece with which a word begins -/
theorem Sm.piece_word {n : Nat} {w t : List (BitVec 8)} (hw : ∀ b ∈ w, b ≠ 32#8) (ht : t = [] ∨ ∃ r, t = 32#8 :: r) : pieceL n (w ++ t) = if cn w ≤ n then w else w.take (posK (strB w) n) := by
  obtain ⟨h1, h2, h3⟩ := word_sign (w := w) ht
  have hdef : pieceL n (w ++ t) = ((w ++ t).take (posK (strB (w ++ t)) (min n (cntS (strB (w ++ t)))))).takeWhile nb := rfl
  rw [hdef]
  by_cases h : cn w ≤ n
  · rw [if_pos h]
    have hle : w.length ≤ posK (strB (w ++ t)) (min n (cntS (strB (w ++ t)))) := by
      rw [← h2]
      exact pos_mono _ (by omega)
    obtain ⟨d, hd⟩ : ∃ d, posK (strB (w ++ t)) (min n (cntS (strB (w ++ t)))) = w.length + d := ⟨_, (Nat.add_sub_cancel' hle).symm⟩
    rw [hd, List.take_length_add_append, List.takeWhile_append_of_pos (fun x hx => by have := hw x hx; unfold nb; simpa using this)]
    rcases ht with rfl | ⟨r, rfl⟩
    · simp
    · cases d with
      | zero => simp
      | succ d => rw [List.take_succ_cons, List.takeWhile_cons_of_neg (by decide), List.append_nil]
  · rw [if_neg h, Nat.min_eq_left (by omega), h3 n (by omega)]
    have hlt : posK (strB w) n ≤ w.length := by have := posK_le (strB w) n; rwa [strB_length] at this
    rw [List.take_append_of_le_length hlt, take_nb hw]
theorem Sm.drop_word (w t : List (BitVec 8)) : (w ++ t).drop w.length = t := List.drop_left
theorem Sm.bl_word {x t : List (BitVec 8)} (hx : x ≠ []) (hw : ∀ b ∈ x, b ≠ 32#8) : bl (x ++ t) = x ++ t := by
  obtain ⟨b, r, rfl⟩ := List.exists_cons_of_ne_nil hx
  unfold bl
  rw [List.cons_append, List.dropWhile_cons_of_neg (by simpa using hw b (by simp))]
/-- a word that goes into the line -/
theorem Sm.gre_word {n : Nat} (hn : 0 < n) {w t cur : List (BitVec 8)} {has : Nat} (hw0 : w ≠ []) (hw : ∀ b ∈ w, b ≠ 32#8) (ht : t = [] ∨ ∃ r, t = 32#8 :: r) (h0 : 0 < has) (h : has + 1 + cn w ≤ n) :
    gre n (w ++ t) cur has = gre n (bl t) (cur ++ 32#8 :: w) (has + 1 + cn w) := by
  have hp := piece_word (n := n) hw ht
  rw [if_pos (by omega)] at hp
  rw [gre_more hn (by simp [hw0]) (bl_word hw0 hw) _ h0 (by rw [hp]; exact h), hp, drop_word]
/-- a word that does not -/
theorem Sm.gre_new {n : Nat} (hn : 0 < n) {w t cur : List (BitVec 8)} {has : Nat} (hw0 : w ≠ []) (hw : ∀ b ∈ w, b ≠ 32#8) (ht : t = [] ∨ ∃ r, t = 32#8 :: r) (h : ¬ (0 < has ∧ has + 1 + cn w ≤ n)) :
    gre n (w ++ t) cur has = (if 0 < has then [cur] else []) ++ gre n (w ++ t) [] 0 := by
  have hp := piece_word (n := n) hw ht
  refine gre_stop hn (bl_word hw0 hw) _ _ (fun _ => ?_)
  rw [hp]
  by_cases hc : cn w ≤ n
  · rw [if_pos hc]; exact h
  · rw [if_neg hc]
    have : cn (w.take (posK (strB w) n)) = n := by
      have hcc := cnt_cut (s := strB w) (j := n) (by unfold cn at hc; omega)
      rw [cut_strB, List.drop_zero] at hcc
      exact hcc
    rw [this]
    omega
/-- a word longer than a line -/
theorem Sm.gre_cut {n : Nat} (hn : 0 < n) {x t : List (BitVec 8)} (hw : ∀ b ∈ x, b ≠ 32#8) (ht : t = [] ∨ ∃ r, t = 32#8 :: r) (h : n < cn x) :
    x.drop (posK (strB x) n) ≠ [] ∧ (∀ b ∈ x.drop (posK (strB x) n), b ≠ 32#8) ∧ gre n (x ++ t) [] 0 = x.take (posK (strB x) n) :: gre n (x.drop (posK (strB x) n) ++ t) [] 0 := by
  have hx0 : x ≠ [] := fun e => by
    have h1 := cntS_le (strB x)
    rw [strB_length, e] at h1
    unfold cn at h
    rw [e] at h
    simp at h1
    omega
  have hlt : posK (strB x) n < x.length := by
    have := cntS_lt (s := strB x) (j := n) h
    rwa [strB_length] at this
  have hd0 : x.drop (posK (strB x) n) ≠ [] := fun e => by
    have := congrArg List.length e
    rw [List.length_drop] at this
    simp at this
    omega
  have hdw : ∀ b ∈ x.drop (posK (strB x) n), b ≠ 32#8 := fun b hb => hw b (List.mem_of_mem_drop hb)
  refine ⟨hd0, hdw, ?_⟩
  have hp := piece_word (n := n) hw ht
  rw [if_neg (by omega)] at hp
  have hcn : cn (x.take (posK (strB x) n)) = n := by
    have hcc := cnt_cut (s := strB x) (j := n) (by unfold cn at h; omega)
    rw [cut_strB, List.drop_zero] at hcc
    exact hcc
  have hl : (x.take (posK (strB x) n)).length = posK (strB x) n := by rw [List.length_take]; omega
  rw [gre_first hn (by simp [hx0]) (bl_word hx0 hw), hp, hcn, hl, List.drop_append_of_le_length (by omega), bl_word hd0 hdw,
    gre_stop hn (bl_word hd0 hdw) _ [] (fun _ hh => by omega), if_pos hn]
  rfl
/-- what is left of a word begins a line -/
theorem Sm.gre_rest {n : Nat} (hn : 0 < n) {x t : List (BitVec 8)} (hx0 : x ≠ []) (hw : ∀ b ∈ x, b ≠ 32#8) (ht : t = [] ∨ ∃ r, t = 32#8 :: r) (h : cn x ≤ n) :
    gre n (x ++ t) [] 0 = gre n (bl t) x (cn x) := by
  have hp := piece_word (n := n) hw ht
  rw [if_pos h] at hp
  rw [gre_first hn (by simp [hx0]) (bl_word hx0 hw), hp, drop_word]
end Go.Proofs
namespace Go.Proofs
open Go Go.RowKit Sm Go.Lib
attribute [local go_sem] Oper.semAt_some
/-- what lies between two places -/
def Sm.wdC (l : List (BitVec 8)) (fr i : Nat) : List (BitVec 8) := (l.drop fr).take (i - fr)
theorem Sm.wdC_len {l : List (BitVec 8)} {fr i : Nat} (hi : i ≤ l.length) : (wdC l fr i).length = i - fr := by
  unfold wdC
  rw [List.length_take, List.length_drop]
  omega
theorem Sm.wdC_nil (l : List (BitVec 8)) (i : Nat) : wdC l i i = [] := by
  unfold wdC
  simp
theorem Sm.wdC_succ {l : List (BitVec 8)} {fr i : Nat} (h : fr ≤ i) (hi : i < l.length) : wdC l fr (i + 1) = wdC l fr i ++ [l[i]] := by
  unfold wdC
  have hd : i - fr < (l.drop fr).length := by rw [List.length_drop]; omega
  rw [show i + 1 - fr = i - fr + 1 by omega, List.take_succ_eq_append_getElem hd]
  congr 2
  rw [List.getElem_drop]
  congr 1
  omega
structure Sm.WdI (w wr : World) (l : List (BitVec 8)) (fr i : Nat) (v : Value) (out : List (List (BitVec 8))) : Prop where
  fr_ : fr ≤ i
  le : i ≤ l.length + 1
  eq : i ≤ l.length → wordsS l = out ++ wordsA (l.drop i) (wdC l fr i)
  eq2 : i = l.length + 1 → wordsS l = out
  row : wr.ownsRow w.heap.size 9 1 v out.length (strC out)
  below : Below w.heap.size w wr
  cnt : out.length ≤ i
/-- a byte that is no blank -/
theorem Sm.WdI.step {w wr : World} {l : List (BitVec 8)} {fr i : Nat} {v : Value} {out : List (List (BitVec 8))} (h : WdI w wr l fr i v out) (hi : i < l.length) (hb : l[i] ≠ 32#8) : WdI w wr l fr (i + 1) v out := by
  have hf := h.fr_
  refine ⟨by omega, by omega, fun _ => ?_, fun e => by omega, h.row, h.below, by have := h.cnt; omega⟩
  have he := h.eq (by omega)
  rw [List.drop_eq_getElem_cons hi, wordsA, if_neg hb, ← wdC_succ hf hi] at he
  exact he
/-- a word's end -/
theorem Sm.WdI.done {w wr W : World} {l : List (BitVec 8)} {fr i : Nat} {v v2 : Value} {out : List (List (BitVec 8))} (h : WdI w wr l fr i v out) (hi : i ≤ l.length) (hb : ∀ h : i < l.length, l[i] = 32#8) {out2 : List (List (BitVec 8))} (ho : out2 = out ++ (if fr < i then [wdC l fr i] else []))
    (hr : W.ownsRow w.heap.size 9 1 v2 out2.length (strC out2)) (hW : Below w.heap.size w W) : WdI w W l (i + 1) (i + 1) v2 out2 := by
  have hf := h.fr_
  have hl := wdC_len (fr := fr) hi
  have hc : (if wdC l fr i = [] then [] else [wdC l fr i]) = (if fr < i then [wdC l fr i] else []) := by
    by_cases e : fr < i
    · rw [if_pos e, if_neg (fun e2 => by rw [e2] at hl; simp at hl; omega)]
    · rw [if_neg e, if_pos (List.length_eq_zero_iff.1 (by omega))]
  have he := h.eq hi
  refine ⟨Nat.le_refl _, by omega, fun hi2 => ?_, fun e => ?_, hr, hW, ?_⟩
  · have hlt : i < l.length := by omega
    rw [List.drop_eq_getElem_cons hlt, wordsA, if_pos (hb hlt), hc, ← List.append_assoc, ← ho] at he
    rw [wdC_nil]
    exact he
  · obtain rfl : i = l.length := by omega
    rw [List.drop_length, wordsA, hc, ← ho] at he
    exact he
  · rw [ho, List.length_append]
    have := h.cnt
    split <;> simp <;> omega
set_option maxRecDepth 100000 in
set_option maxHeartbeats 2000000 in
theorem Sm.refWords_any (l : List (BitVec 8)) (w : World) (hm : l.length ≤ 1000000) : Calls Tryz.prog 53 #[.string (strB l)] w fun e w' => ∃ A c, e = .returned (.slice A (wordsS l).length c) ∧ w'.ownsRow w.heap.size 9 1 (.slice A (wordsS l).length c) (wordsS l).length (strC (wordsS l)) ∧ (wordsS l).length ≤ l.length + 1 ∧ Below w.heap.size w w' := by
  obtain ⟨s, hs⟩ : ∃ s, strB l = s := ⟨_, rfl⟩
  have hsz : s.size = l.length := by rw [← hs, strB_length]
  have hix : ∀ (k : Nat) (h : k < l.length) w, (Instr.index 9 (.string s) (.int .i64 (k : Int))).run Tryz.prog w = .ok (.int .u8 ((l[k]).toNat : Int)) w := fun k h w => by
    rw [← get_strB l (List.getElem?_eq_getElem h), hs]
    exact byte_at s k (by omega) w
  have hsl : ∀ fr i, fr ≤ i → i ≤ l.length → ∀ w, (Instr.slice 9 (.string s) (some (.int .i64 (fr : Int))) (some (.int .i64 (i : Int))) none).run Tryz.prog w = .ok (.string (strB (wdC l fr i))) w := fun fr i h1 h2 w => by
    rw [run_slice_string (P := Tryz.prog) w 9 s .i64 .i64 (fr : Int) (i : Int) Tryz.underlying9 (by omega) (by omega) (by omega)]
    rw [Int.toNat_natCast, Int.toNat_natCast, ← hs, cut_strB, List.drop_take]
    rfl
  obtain ⟨i9, hi9, hs0, hs1, hs2⟩ := info_parts info9
  have hI0 : WdI w w l 0 0 (.slice none 0 0) [] := ⟨Nat.le_refl _, Nat.zero_le _, fun _ => by rw [wdC_nil]; rfl, fun e => by omega, World.ownsRow_nil _ _ _ _, Below.refl _ _, Nat.zero_le _⟩
  have HI0 := Lib.hid hI0
  have HIX := Lib.hid hix
  have HSL := Lib.hid hsl
  rw [hs]
  have HZ := Lib.hid hsz
  clear hI0 hs hix hsl hsz
  obtain ⟨n, hn⟩ : ∃ n, s.size = n := ⟨_, rfl⟩
  have hnl : n = l.length := by rw [← hn]; exact HZ.out
  have hn1 : n ≤ 1000000 := by omega
  have HNL := Lib.hid hnl
  clear hnl hm
  go_enter Tryz.func53, Tryz.ntmps53
  go_wp2
  go_loopw [3, 4, 5] (fun v3 v4 v5 wr => ∃ (fr i : Nat) (out : List (List (BitVec 8))), i ≤ n + 1 ∧ v4 = .int .i64 (fr : Int) ∧ v5 = .int .i64 (i : Int) ∧ Hid (WdI w wr l fr i v3 out)) (fun _ _ v5 _ => n + 1 - (RowKit.intOf v5).toNat)
  case atStart => exact ⟨0, 0, [], Nat.zero_le _, rfl, rfl, HI0⟩
  case round =>
    obtain ⟨wo, rfl⟩ : ∃ wo : World, wo = wr := ⟨_, rfl⟩
    obtain ⟨fr, i, out, hi, rfl, rfl, HI⟩ := hrel
    clear HI0
    have hfi := HI.out.fr_
    by_cases hin : i ≤ n
    · have hin2 : i ≤ l.length := by have := HNL.out; omega
      obtain ⟨q, hq⟩ : ∃ q, out.length = q := ⟨_, rfl⟩
      have hqb : q ≤ 1000001 := by have := HI.out.cnt; omega
      have hrow0 := HI.out.row
      rw [hq] at hrow0
      obtain ⟨A, c, hvA⟩ := own_slice hrow0
      subst hvA
      have HROW := Lib.hid hrow0
      have HQ := Lib.hid hq
      clear hq hrow0
      obtain ⟨b, hb⟩ : ∃ b : Bool, decide (∀ h : i < l.length, l[i] = 32#8) = b := ⟨_, rfl⟩
      have HBB := Lib.hid hb
      clear hb
      go_upto_region 6 with fail
      go_cut [21] from 12 to 21 (fun s21 wx => s21 = .bool b ∧ wx = wo)
      case first =>
        by_cases hie : i = n
        · have e1 : ((i : Int) == (n : Int)) = true := by simp; omega
          have hbt : b = true := by
            rw [← HBB.out]
            exact decide_eq_true (fun h => by have := HNL.out; omega)
          have HBT := Lib.hid hbt
          clear hie hbt
          go_wp2
          go_meet
          exact ⟨by rw [HBT.out], rfl⟩
        · have hil : i < l.length := by have := HNL.out; omega
          have e1 : ((i : Int) == (n : Int)) = false := by simp; omega
          have hiN : i < n := by omega
          have ix := HIX.out i hil
          obtain ⟨x, hx⟩ : ∃ x, (l[i]).toNat = x := ⟨_, rfl⟩
          rw [hx] at ix
          by_cases h32 : x = 32
          · have hbt : b = true := by
              rw [← HBB.out]
              exact decide_eq_true (fun h => BitVec.eq_of_toNat_eq (by rw [hx, h32]; rfl))
            have HBT := Lib.hid hbt
            subst h32
            clear hie hbt hx
            go_wp2
            go_meet
            exact ⟨by rw [HBT.out], rfl⟩
          · have hbt : b = false := by
              rw [← HBB.out]
              exact decide_eq_false (fun h => h32 (by rw [← hx, h hil]; rfl))
            have e2 : ((x : Int) == 32) = false := by simp; omega
            have HBT := Lib.hid hbt
            clear hie hbt hx h32
            go_wp2
            go_meet
            exact ⟨by rw [HBT.out], rfl⟩
      case rest =>
        obtain ⟨rfl, hwc⟩ := hcut
        subst hwc
        cases b with
        | true =>
          have hbl := of_decide_eq_true HBB.out
          by_cases hlt : fr < i
          · have hslw := HSL.out fr i hfi hin2
            have HD := Lib.hid (fun (W : World) (v2 : Value) ho hr hW => HI.out.done (W := W) (v2 := v2) hin2 hbl (out2 := out ++ [wdC l fr i]) ho hr hW)
            have hnx : Hid (out ++ [wdC l fr i] = out ++ (if fr < i then [wdC l fr i] else [])) := Lib.hid (by rw [if_pos hlt])
            have hlti : (fr : Int) < (i : Int) := by omega
            have hb0 := HI.out.below
            have hb5 : Below w.heap.size w (wc.alloc (.cells #[.string (strB (wdC l fr i))] 9)) := hb0.alloc hb0.size _
            have hwz := hb5.size
            have hvb : ∀ b, (Value.slice A q c).ownBlock = some b → w.heap.size ≤ b := fun b e => (HROW.out.lt b e).1
            obtain ⟨T, hT⟩ : ∃ T, strB (wdC l fr i) = T := ⟨_, rfl⟩
            rw [hT] at hslw hb5 hwz
            have hrow5 : (wc.alloc (.cells #[.string T] 9)).ownsRow w.heap.size 9 1 (.slice A q c) q (strC out) := HROW.out.alloc _
            have HT := Lib.hid hT
            have HB5 := Lib.hid hb5
            have hilen : (i : Int) ≤ (n : Int) := by omega
            clear hT hb0 hb5 hbl
            go_wp2_with (at_builtin; refine wpList_append_own_at _ rfl _ _ 40 rfl w.heap.size 9 i9 _ 1 16 Tryz.underlying40 hi9 hs0 hs1 hs2 rfl (by decide) _ q (strC out) rfl hrow5 ⟨wc.heap.size, 0, none⟩ 1 1 [.string T] rfl rfl (cell_one_new _ _ _) (by simp [Value.oneCell']) (by unfold maxLen; omega) (by omega) hwz ?_; intro v2 W2 hown2 hg2 _ hat2)
            have hN2 := HD.out W2 v2 hnx.out (by
              rw [List.length_append, HQ.out]
              unfold strC at hown2 ⊢
              rw [List.map_append, List.map_cons, List.map_nil, HT.out]
              exact hown2) (HB5.out.trans ((But.grown hg2).to_below HB5.out.size (fun b e => hvb b e)))
            have HN2 := Lib.hid hN2
            clear hown2 hg2 hat2 hN2
            go_roundw
            case rel => exact ⟨i + 1, i + 1, _, by omega, by go_num, by go_num, HN2⟩
            case measure => simp [RowKit.intOf]; omega
          · have HN2 : Hid (WdI w wc l (i + 1) (i + 1) (.slice A q c) out) := Lib.hid (HI.out.done hin2 hbl (by rw [if_neg hlt, List.append_nil]) HI.out.row HI.out.below)
            have hlti : ¬ (fr : Int) < (i : Int) := by omega
            clear hbl
            go_wp2
            go_roundw
            case rel => exact ⟨i + 1, i + 1, _, by omega, by go_num, by go_num, HN2⟩
            case measure => simp [RowKit.intOf]; omega
        | false =>
          have hbl := of_decide_eq_false HBB.out
          have hil : i < l.length := by
            by_cases h : i < l.length
            · exact h
            · exact absurd (fun h2 => absurd h2 h) hbl
          have HN2 : Hid (WdI w wc l fr (i + 1) (.slice A q c) out) := Lib.hid (HI.out.step hil (fun e => hbl (fun _ => e)))
          clear hbl
          go_wp2
          go_roundw
          case rel => exact ⟨fr, i + 1, _, by omega, rfl, by go_num, HN2⟩
          case measure => simp [RowKit.intOf]; omega
    · have hie : i = l.length + 1 := by have := HNL.out; have := HI.out.le; omega
      have he := HI.out.eq2 hie
      obtain ⟨A, c, hvA⟩ := own_slice HI.out.row
      subst hvA
      have hini : ¬ (i : Int) ≤ (n : Int) := by omega
      have HE := Lib.hid he
      have HIE := Lib.hid hie
      clear he hie
      go_wp2
      go_ret
      refine ⟨A, c, ?_, ?_, ?_, HI.out.below⟩
      · rw [HE.out]; rfl
      · rw [HE.out]; exact HI.out.row
      · rw [HE.out]
        have := HI.out.cnt
        have := HIE.out
        omega
end Go.Proofs
namespace Go.Proofs
open Go Go.RowKit Sm Go.Lib
attribute [local go_sem] Oper.semAt_some
theorem Sm.linesF_len (n : Nat) : ∀ f l, (linesF n f l).length ≤ f
  | 0, l => by simp [linesF]
  | f + 1, l => by
    unfold linesF
    have := linesF_len n f (leftK l n (fillN l n))
    split
    · simp
    · rw [List.length_cons]; omega
theorem Sm.linesS_len (n : Nat) (l : List (BitVec 8)) : (linesS n l).length ≤ l.length + 1 := linesF_len n _ _
/-- how all stands behind i words -/
structure Sm.LiI (w W : World) (n : Nat) (l : List (BitVec 8)) (i : Nat) (v : Value) (out : List (List (BitVec 8))) (line R : List (BitVec 8)) (has : Nat) : Prop where
  bl_ : bl R = R
  wd : wordsS R = (wordsS l).drop i
  eq : linesS n l = out ++ gre n R line has
  low : has ≤ n
  len : line.length + R.length ≤ l.length + i
  row : W.ownsRow w.heap.size 9 1 v out.length (strC out)
  below : Below w.heap.size w W
theorem Sm.LiI.cnt {w W : World} {n : Nat} {l : List (BitVec 8)} {i : Nat} {v : Value} {out : List (List (BitVec 8))} {line R : List (BitVec 8)} {has : Nat} (h : LiI w W n l i v out line R has) : out.length ≤ l.length + 1 := by
  have h1 := linesS_len n l
  rw [h.eq, List.length_append] at h1
  omega
theorem Sm.LiI.keep {w W W' : World} {n : Nat} {l : List (BitVec 8)} {i : Nat} {v : Value} {out : List (List (BitVec 8))} {line R : List (BitVec 8)} {has : Nat} (h : LiI w W n l i v out line R has) (hb : Below W.heap.size W W') : LiI w W' n l i v out line R has :=
  ⟨h.bl_, h.wd, h.eq, h.low, h.len, own_below h.row hb, h.below.trans (hb.mono h.below.size)⟩
/-- the next word -/
theorem Sm.LiI.word {w W : World} {n : Nat} {l : List (BitVec 8)} {i : Nat} {v : Value} {out : List (List (BitVec 8))} {line R : List (BitVec 8)} {has : Nat} (h : LiI w W n l i v out line R has) (hi : i < (wordsS l).length) :
    ∃ t, R = (wordsS l)[i] ++ t ∧ (wordsS l)[i] ≠ [] ∧ (∀ b ∈ (wordsS l)[i], b ≠ 32#8) ∧ (t = [] ∨ ∃ r, t = 32#8 :: r) ∧ wordsS (bl t) = (wordsS l).drop (i + 1) := by
  have hd := h.wd
  rw [List.drop_eq_getElem_cons hi] at hd
  have hR : R ≠ [] := fun e => by rw [e] at hd; cases hd
  obtain ⟨x, t, h1, h2, h3, h4, h5⟩ := words_first hR h.bl_
  rw [h5] at hd
  injection hd with e1 e2
  subst e1
  exact ⟨t, h1, h2, h3, h4, e2⟩
/-- how all stands while a word is cut -/
structure Sm.LiX (w W : World) (n : Nat) (l : List (BitVec 8)) (i : Nat) (v : Value) (out : List (List (BitVec 8))) (x t : List (BitVec 8)) : Prop where
  ne : x ≠ []
  nb_ : ∀ b ∈ x, b ≠ 32#8
  t_ : t = [] ∨ ∃ r, t = 32#8 :: r
  wd : wordsS (bl t) = (wordsS l).drop (i + 1)
  eq : linesS n l = out ++ gre n (x ++ t) [] 0
  len : x.length + t.length ≤ l.length + i
  row : W.ownsRow w.heap.size 9 1 v out.length (strC out)
  below : Below w.heap.size w W
theorem Sm.LiX.cnt {w W : World} {n : Nat} {l : List (BitVec 8)} {i : Nat} {v : Value} {out : List (List (BitVec 8))} {x t : List (BitVec 8)} (h : LiX w W n l i v out x t) : out.length ≤ l.length + 1 := by
  have h1 := linesS_len n l
  rw [h.eq, List.length_append] at h1
  omega
theorem Sm.LiX.keep {w W W' : World} {n : Nat} {l : List (BitVec 8)} {i : Nat} {v : Value} {out : List (List (BitVec 8))} {x t : List (BitVec 8)} (h : LiX w W n l i v out x t) (hb : Below W.heap.size W W') : LiX w W' n l i v out x t :=
  ⟨h.ne, h.nb_, h.t_, h.wd, h.eq, h.len, own_below h.row hb, h.below.trans (hb.mono h.below.size)⟩
/-- a word that goes into the line -/
theorem Sm.LiI.more {w W : World} {n : Nat} {l : List (BitVec 8)} {i : Nat} {v : Value} {out : List (List (BitVec 8))} {line R : List (BitVec 8)} {has : Nat} (h : LiI w W n l i v out line R has) (hn : 0 < n) (hi : i < (wordsS l).length) (h0 : 0 < has) (hf : has + 1 + cn (wordsS l)[i] ≤ n) :
    ∃ R', LiI w W n l (i + 1) v out (line ++ 32#8 :: (wordsS l)[i]) R' (has + 1 + cn (wordsS l)[i]) := by
  obtain ⟨t, e, h1, h2, h3, h4⟩ := h.word hi
  have hq := h.eq
  have hl := h.len
  have hbl := bl_len t
  rw [e, gre_word hn h1 h2 h3 h0 hf] at hq
  rw [e, List.length_append] at hl
  exact ⟨bl t, bl_bl t, h4, hq, hf, by rw [List.length_append, List.length_cons]; omega, h.row, h.below⟩
/-- a word that does not -/
theorem Sm.LiI.new {w W W' : World} {n : Nat} {l : List (BitVec 8)} {i : Nat} {v v2 : Value} {out : List (List (BitVec 8))} {line R : List (BitVec 8)} {has : Nat} (h : LiI w W n l i v out line R has) (hn : 0 < n) (hi : i < (wordsS l).length) (hf : ¬ (0 < has ∧ has + 1 + cn (wordsS l)[i] ≤ n)) {out2 : List (List (BitVec 8))} (ho : out2 = out ++ (if 0 < has then [line] else []))
    (hr : W'.ownsRow w.heap.size 9 1 v2 out2.length (strC out2)) (hb : Below w.heap.size w W') : ∃ t, LiX w W' n l i v2 out2 (wordsS l)[i] t := by
  obtain ⟨t, e, h1, h2, h3, h4⟩ := h.word hi
  have hq := h.eq
  have hl := h.len
  rw [e, gre_new hn h1 h2 h3 hf, ← List.append_assoc, ← ho] at hq
  rw [e, List.length_append] at hl
  exact ⟨t, h1, h2, h3, h4, hq, by omega, hr, hb⟩
/-- a piece of a word -/
theorem Sm.LiX.cut {w W W' : World} {n : Nat} {l : List (BitVec 8)} {i : Nat} {v v2 : Value} {out : List (List (BitVec 8))} {x t : List (BitVec 8)} (h : LiX w W n l i v out x t) (hn : 0 < n) (hc : n < cn x)
    (hr : W'.ownsRow w.heap.size 9 1 v2 (out.length + 1) (strC out ++ [.string (strB (x.take (posK (strB x) n)))])) (hb : Below w.heap.size w W') : LiX w W' n l i v2 (out ++ [x.take (posK (strB x) n)]) (x.drop (posK (strB x) n)) t := by
  obtain ⟨h1, h2, h3⟩ := gre_cut hn h.nb_ h.t_ hc
  have hq := h.eq
  have hl := h.len
  rw [h3] at hq
  refine ⟨h1, h2, h.t_, h.wd, by rw [List.append_assoc]; exact hq, by rw [List.length_drop]; omega, ?_, hb⟩
  rw [List.length_append]
  unfold strC at hr ⊢
  rw [List.map_append]
  exact hr
/-- what is left of a word -/
theorem Sm.LiX.rest {w W : World} {n : Nat} {l : List (BitVec 8)} {i : Nat} {v : Value} {out : List (List (BitVec 8))} {x t : List (BitVec 8)} (h : LiX w W n l i v out x t) (hn : 0 < n) (hc : cn x ≤ n) : ∃ R', LiI w W n l (i + 1) v out x R' (cn x) := by
  have hq := h.eq
  have hl := h.len
  have hbl := bl_len t
  rw [gre_rest hn h.ne h.nb_ h.t_ hc] at hq
  exact ⟨bl t, bl_bl t, h.wd, hq, hc, by omega, h.row, h.below⟩
theorem Sm.LiI.end_ {w W : World} {n : Nat} {l : List (BitVec 8)} {i : Nat} {v : Value} {out : List (List (BitVec 8))} {line R : List (BitVec 8)} {has : Nat} (h : LiI w W n l i v out line R has) (hi : (wordsS l).length ≤ i) : linesS n l = out ++ (if 0 < has then [line] else []) := by
  have hd := h.wd
  rw [List.drop_eq_nil_of_le hi] at hd
  have hR := words_nil h.bl_ hd
  have hq := h.eq
  rw [hR, gre_nil] at hq
  exact hq
theorem Sm.cutS_B (x : List (BitVec 8)) {n : Nat} (h : n ≤ cn x) : cutS (strB x) (n : Int) = strB (x.take (posK (strB x) n)) := by
  unfold cutS
  rw [Int.toNat_natCast, Nat.min_eq_left (show n ≤ cntS (strB x) from h), cut_strB, List.drop_zero]
set_option maxRecDepth 100000 in
set_option maxHeartbeats 4000000 in
theorem Sm.refLines_any (l : List (BitVec 8)) (n : Nat) (w : World) (hm : l.length ≤ 400000) (hn : 0 < n) (hn2 : n ≤ 200) : Calls Tryz.prog 27 #[.string (strB l), .int .i64 (n : Int)] w fun e w' => ∃ A c, e = .returned (.slice A (linesS n l).length c) ∧ w'.ownsRow w.heap.size 9 1 (.slice A (linesS n l).length c) (linesS n l).length (strC (linesS n l)) ∧ Below w.heap.size w w' := by
  have hwd := refWords_any l w (by omega)
  obtain ⟨s, hs⟩ : ∃ s, strB l = s := ⟨_, rfl⟩
  rw [hs] at hwd ⊢
  obtain ⟨WL, hWL⟩ : ∃ WL, wordsS l = WL := ⟨_, rfl⟩
  obtain ⟨M, hM⟩ : ∃ M, WL.length = M := ⟨_, rfl⟩
  have HWL := Lib.hid hWL
  have HM := Lib.hid hM
  rw [hWL, hM] at hwd
  have hsig : ∀ (x : List (BitVec 8)) (W : World), x.length ≤ 1000000 → Calls Tryz.prog 13 #[.string (strB x)] W fun e w' => ∃ A c, e = .returned (.slice A (cn x) c) ∧ Below W.heap.size W w' := fun x W hx => (Signs_any (strB x) W (by rw [strB_length]; omega)).mono fun e w' ⟨A, c, h1, _, h2⟩ => ⟨A, c, h1, h2⟩
  have HSG := Lib.hid hsig
  have hnI : (n : Int) ≤ 200 := by omega
  have hmI : (l.length : Int) ≤ 400000 := by omega
  obtain ⟨i9, hi9, hs0, hs1, hs2⟩ := info_parts info9
  clear hs hWL hM hsig
  go_enter Tryz.func27, Tryz.ntmps27
  go_wp2_with (go_at_call 53; (with_reducible refine hwd.mono ?_); clear hwd; rintro e w2 ⟨A8, c8, rfl, hrow8, hM1, hb8⟩)
  have hRW : RowS w2 (.slice A8 M c8) WL := by
    have := RowS.of (xs := WL) (by rw [HM.out]; exact hrow8)
    rwa [HM.out] at this
  have HRW := Lib.hid hRW
  have hI0 : LiI w2 w2 n l 0 (.slice none 0 0) [] [] (bl l) 0 := ⟨bl_bl l, by rw [words_bl, List.drop_zero], by rw [linesS_gre hn, List.nil_append], Nat.zero_le _, by have := bl_len l; simp; omega, World.ownsRow_nil _ _ _ _, Below.refl _ _⟩
  have HI0 := Lib.hid hI0
  have HB8 := Lib.hid hb8
  have hstr0 : strB ([] : List (BitVec 8)) = ⟨#[]⟩ := by decide +kernel
  clear hRW hI0 hrow8 hb8
  go_loopw [5, 6, 7, 9] (fun v5 v6 v7 v9 wr => ∃ (i : Nat) (out : List (List (BitVec 8))) (line R : List (BitVec 8)) (has : Nat), i ≤ M ∧ v6 = .string (strB line) ∧ v7 = .int .i64 (has : Int) ∧ v9 = .int .i64 (i : Int) ∧ Hid (LiI w2 wr n l i v5 out line R has)) (fun _ _ _ v9 _ => M - (RowKit.intOf v9).toNat)
  case atStart => exact ⟨0, [], [], bl l, 0, Nat.zero_le _, by rw [hstr0], rfl, rfl, HI0⟩
  case round =>
    obtain ⟨wo, rfl⟩ : ∃ wo : World, wo = wr := ⟨_, rfl⟩
    obtain ⟨i, out, line, R, has, hi, rfl, rfl, rfl, HI⟩ := hrel
    clear HI0 hstr0
    have hlow := HI.out.low
    have hasI : (has : Int) ≤ 200 := by omega
    obtain ⟨q, hq⟩ : ∃ q, out.length = q := ⟨_, rfl⟩
    have hqb : q ≤ 400001 := by have := HI.out.cnt; omega
    have hrow0 := HI.out.row
    rw [hq] at hrow0
    obtain ⟨A5, c5, hvA⟩ := own_slice hrow0
    subst hvA
    have HROW := Lib.hid hrow0
    have HQ := Lib.hid hq
    have hllen : line.length ≤ 1000000 := by have := HI.out.len; omega
    clear hq hrow0
    by_cases hlt : i < M
    · have hil : i < (wordsS l).length := by rw [HWL.out, HM.out]; exact hlt
      have hilW : i < WL.length := by rw [HM.out]; exact hlt
      obtain ⟨A', c', hAc, hlc, hcl⟩ := HRW.out
      rcases hcl with hcl | ⟨g, rfl, hg, hcl⟩
      · rw [hcl] at hilW; simp at hilW
      · injection hAc with e1 e2 e3
        subst e1 e3
        clear e2
        rw [HM.out] at hlc
        obtain ⟨x, hx⟩ : ∃ x, (wordsS l)[i] = x := ⟨_, rfl⟩
        have hxW : WL[i] = x := by rw [← hx]; congr 1; exact HWL.out.symm
        have hcf : ∀ W, Below w2.heap.size w2 W → W.cell? ⟨g, i, none⟩ = some (.string (strB x)) := fun W hb => by
          rw [← hxW]; exact (hb.cell (p := ⟨g, i, none⟩) hg).trans (hcl i hilW)
        obtain ⟨t0, ht0, hx0, _, _, _⟩ := HI.out.word hil
        rw [hx] at ht0 hx0
        have hxl : x.length ≤ 900000 := by
          have h1 := HI.out.len
          rw [ht0, List.length_append] at h1
          omega
        have hcnx : cn x ≤ x.length := by have := cntS_le (strB x); rw [strB_length] at this; exact this
        have hsx := fun W => HSG.out x W (by omega)
        have hMO := HI.out.more hn hil
        have hNE := fun W' v2 => HI.out.new (W' := W') (v2 := v2) hn hil
        rw [hx] at hMO hNE
        obtain ⟨C, hC⟩ : ∃ C, cn x = C := ⟨_, rfl⟩
        rw [hC] at hsx hMO hNE hcnx
        obtain ⟨X, hX⟩ : ∃ X, strB x = X := ⟨_, rfl⟩
        rw [hX] at hcf hsx
        have hCI : (C : Int) ≤ 900000 := by omega
        have hXz : X.size ≤ 900000 := by rw [← hX, strB_length]; exact hxl
        have HCF := Lib.hid hcf
        have HSX := Lib.hid hsx
        have HC := Lib.hid hC
        have HX := Lib.hid hX
        have hB0 := HI.out.below
        have HBL := Lib.hid hB0
        have c0 := hcf wo hB0
        clear ht0 hx0 hxW hcl hilW hg hsx hC hX hcf hB0
        by_cases hf : 0 < has ∧ has + 1 + C ≤ n
        · obtain ⟨R', hL2⟩ := hMO hf.1 hf.2
          obtain ⟨f1, f2⟩ := hf
          have hfin : Hid (strB (line ++ 32#8 :: x) = strB line ++ { data := #[32] } ++ X) := Lib.hid (by
            have e32 : ({ data := #[32] } : ByteArray) = strB [32#8] := by decide +kernel
            rw [e32, ← HX.out, strB_join, strB_join, List.append_assoc]
            rfl)
          have HL2 := Lib.hid hL2
          have g1 : (0 : Int) < (has : Int) := by omega
          have g2 : (has : Int) + 1 + (C : Int) ≤ (n : Int) := by omega
          have hSz : (strB line).size ≤ 1000000 := by rw [strB_length]; exact hllen
          obtain ⟨S, hS⟩ : ∃ S, strB line = S := ⟨_, rfl⟩
          rw [hS] at hfin hSz ⊢
          clear hMO hNE hL2 f1 f2 hS hx
          go_wp2_with (go_at_call 13; (with_reducible refine (HSX.out _).mono ?_); rintro e w3 ⟨A3, c3, rfl, hb3⟩; have HBL := Lib.hid (HBL.out.trans (hb3.mono HBL.out.size)); have c0 := HCF.out _ HBL.out; have HB3 := Lib.hid hb3; clear hb3)
          go_roundw
          case rel => exact ⟨i + 1, out, _, R', has + 1 + C, by omega, by rw [hfin.out], by go_num, by go_num, Lib.hid (HL2.out.keep HB3.out)⟩
          case measure => simp [RowKit.intOf]; omega
        · clear hMO
          obtain ⟨S, hS⟩ : ∃ S, strB line = S := ⟨_, rfl⟩
          have HS := Lib.hid hS
          rw [hS]
          clear hS
          go_upto_region 8 with (go_at_call 13; (with_reducible refine (HSX.out _).mono ?_); rintro e w3 ⟨A3, c3, rfl, hb3⟩; have HBL := Lib.hid (HBL.out.trans (hb3.mono HBL.out.size)); have c0 := HCF.out _ HBL.out; have HB3 := Lib.hid hb3; clear hb3)
          go_cut [35] from 26 to 77 (fun s35 wx => s35 = .bool false ∧ wx = w3)
          case first =>
            by_cases f1 : 0 < has
            · have g1 : (0 : Int) < (has : Int) := by omega
              have g2 : ¬ (has : Int) + 1 + (C : Int) ≤ (n : Int) := by omega
              clear hNE hf f1
              go_wp2
              go_meet
              exact ⟨rfl, rfl⟩
            · have g1 : ¬ (0 : Int) < (has : Int) := by omega
              clear hNE hf f1
              go_wp2
              go_meet
              exact ⟨rfl, rfl⟩
          case rest =>
            obtain ⟨rfl, hwc⟩ := hcut
            subst hwc
            have hNE2 := fun W' v2 out2 => hNE W' v2 hf (out2 := out2)
            have HNE := Lib.hid hNE2
            clear hNE hNE2 hf
            go_upto_if 48 with fail
            go_cut [5] from 47 to 77 (fun s5 wx => ∃ (out2 : List (List (BitVec 8))) (t : List (BitVec 8)), Hid (LiX w2 wx n l i s5 out2 x t))
            case first =>
              by_cases f1 : 0 < has
              · have g1 : (0 : Int) < (has : Int) := by omega
                have hrow3 : wc.ownsRow w2.heap.size 9 1 (.slice A5 q c5) q (strC out) := own_below HROW.out HB3.out
                have hrow5 : (wc.alloc (.cells #[.string S] 9)).ownsRow w2.heap.size 9 1 (.slice A5 q c5) q (strC out) := hrow3.alloc _
                have hb5 : Below w2.heap.size w2 (wc.alloc (.cells #[.string S] 9)) := HBL.out.alloc HBL.out.size _
                have hwz := hb5.size
                have hvb : ∀ b, (Value.slice A5 q c5).ownBlock = some b → w2.heap.size ≤ b := fun b e => (hrow3.lt b e).1
                have hout : Hid (out ++ [line] = out ++ (if 0 < has then [line] else [])) := Lib.hid (by rw [if_pos f1])
                have HB5 := Lib.hid hb5
                clear hb5 f1 hrow3
                go_wp2_with (at_builtin; refine wpList_append_own_at _ rfl _ _ 40 rfl w2.heap.size 9 i9 _ 1 16 Tryz.underlying40 hi9 hs0 hs1 hs2 rfl (by decide) _ q (strC out) rfl hrow5 ⟨wc.heap.size, 0, none⟩ 1 1 [.string S] rfl rfl (cell_one_new _ _ _) (by simp [Value.oneCell']) (by unfold maxLen; omega) (by omega) hwz ?_; intro v2 W2 hown2 hg2 _ hat2)
                obtain ⟨t, hN2⟩ := HNE.out W2 v2 _ hout.out (by
                  rw [List.length_append, HQ.out]
                  unfold strC at hown2 ⊢
                  rw [List.map_append, List.map_cons, List.map_nil, HS.out]
                  exact hown2) (HB5.out.trans ((But.grown hg2).to_below HB5.out.size (fun b e => hvb b e)))
                have HN2 := Lib.hid hN2
                clear hown2 hg2 hat2 hN2
                go_meet
                exact ⟨_, t, HN2⟩
              · have g1 : ¬ (0 : Int) < (has : Int) := by omega
                obtain ⟨t, hN2⟩ := HNE.out wc (.slice A5 q c5) out (by rw [if_neg f1, List.append_nil]) (by rw [HQ.out]; exact own_below HROW.out HB3.out) HBL.out
                have HN2 := Lib.hid hN2
                clear hN2 f1
                go_wp2
                go_meet
                exact ⟨_, t, HN2⟩
            case rest =>
              obtain ⟨out2, t, HX2⟩ := hcut
              have c9 := HCF.out _ HX2.out.below
              clear HNE HROW HB3 HBL c0 HI HQ hqb
              obtain ⟨xs, hxs⟩ : ∃ xs, xs = x := ⟨_, rfl⟩
              rw [← HX.out] at c9
              rw [← hxs] at HX2 c9
              clear hxs
              go_wp2_with fail
              go_loopw [5, 11] (fun v5 v11 wr => ∃ (o : List (List (BitVec 8))) (y : List (BitVec 8)), v11 = .string (strB y) ∧ Hid (LiX w2 wr n l i v5 o y t)) (fun _ v11 _ => strLen v11)
              case atStart => exact ⟨out2, xs, rfl, HX2⟩
              case round =>
                obtain ⟨wo2, rfl⟩ : ∃ wo2 : World, wo2 = wr := ⟨_, rfl⟩
                obtain ⟨o, y, rfl, HY⟩ := hrel
                clear HX2 c9
                obtain ⟨q, hq⟩ : ∃ q, o.length = q := ⟨_, rfl⟩
                have hqb : q ≤ 400001 := by have := HY.out.cnt; omega
                have hrow0 := HY.out.row
                rw [hq] at hrow0
                obtain ⟨A5, c5, hvA⟩ := own_slice hrow0
                subst hvA
                have HQ := Lib.hid hq
                have hyl : y.length ≤ 900000 := by have := HY.out.len; have := hM1; omega
                have hcny : cn y ≤ y.length := by have := cntS_le (strB y); rw [strB_length] at this; exact this
                have hsy := fun W => HSG.out y W (by omega)
                have hc0 : 0 < cn y := cn_pos (List.length_pos_iff.2 HY.out.ne)
                have hct : ∀ W, n ≤ cn y → Calls Tryz.prog 17 #[.string (strB y), .int .i64 (n : Int)] W fun e w' => e = .returned (.string (strB (y.take (posK (strB y) n)))) ∧ Below W.heap.size W w' := fun W hc => by
                  have h := refCut_any (strB y) (n : Int) W (by rw [strB_length]; omega) (by omega) (by omega)
                  rwa [cutS_B y hc] at h
                by_cases hc : n < cn y
                · have hp0 : posK (strB y) n ≤ y.length := by have := posK_le (strB y) n; rwa [strB_length] at this
                  have hp1 : 0 < posK (strB y) n := by
                    have h1 := posK_ge (strB y) n (cntS_lt hc)
                    omega
                  have hct2 := fun W => hct W (by omega)
                  have HCU := Lib.hid (fun (W' : World) (v2 : Value) hr hb => HY.out.cut (W' := W') (v2 := v2) hn hc hr hb)
                  have hsl : ∀ w, (Instr.slice 9 (.string (strB y)) (some (.int .i64 ((y.take (posK (strB y) n)).length : Int))) none none).run Tryz.prog w = .ok (.string (strB (y.drop (posK (strB y) n)))) w := fun w => by
                    have hz := strB_length y
                    have hzt : (y.take (posK (strB y) n)).length = posK (strB y) n := by rw [List.length_take]; omega
                    rw [hzt]
                    have h := run_slice_string_l (P := Tryz.prog) w 9 (strB y) Tryz.underlying9 .i64 (posK (strB y) n : Int) (by omega) (by omega)
                    rw [h, Int.toNat_natCast, cut_strB]
                    congr 2
                    rw [List.take_of_length_le (by omega)]
                  have hdl : Hid ((y.drop (posK (strB y) n)).length < y.length) := Lib.hid (by rw [List.length_drop]; omega)
                  have htl : ((y.take (posK (strB y) n)).length : Int) ≤ (y.length : Int) := by
                    have := List.length_take_le (posK (strB y) n) y
                    rw [List.length_take]
                    omega
                  obtain ⟨T, hT⟩ : ∃ T, y.take (posK (strB y) n) = T := ⟨_, rfl⟩
                  obtain ⟨D, hD⟩ : ∃ D, y.drop (posK (strB y) n) = D := ⟨_, rfl⟩
                  have hTz : (strB T).size = T.length := strB_length T
                  rw [hT] at hct2 HCU hsl htl
                  rw [hD] at HCU hsl hdl
                  obtain ⟨Cy, hCy⟩ : ∃ Cy, cn y = Cy := ⟨_, rfl⟩
                  obtain ⟨Y, hY⟩ : ∃ Y, strB y = Y := ⟨_, rfl⟩
                  obtain ⟨ST, hST⟩ : ∃ ST, strB T = ST := ⟨_, rfl⟩
                  obtain ⟨SD, hSD⟩ : ∃ SD, strB D = SD := ⟨_, rfl⟩
                  rw [hCy] at hsy hc hcny
                  have hYz : Y.size = y.length := by rw [← hY, strB_length]
                  rw [hY] at hsy hct2 hsl ⊢
                  rw [hST] at hct2 HCU hTz
                  rw [hSD] at hsl
                  obtain ⟨tl, htl2⟩ : ∃ tl, T.length = tl := ⟨_, rfl⟩
                  rw [htl2] at hsl htl hTz
                  have hcI : (n : Int) < (Cy : Int) := by omega
                  have hCyI : (Cy : Int) ≤ 900000 := by omega
                  have hYb : Y.size ≤ 900000 := by omega
                  have HSY := Lib.hid hsy
                  have HCT := Lib.hid hct2
                  have HDL := Lib.hid hdl.out
                  have HSD := Lib.hid hSD
                  have HYZ := Lib.hid hYz
                  have HBY := Lib.hid HY.out.below
                  have HRY := Lib.hid hrow0
                  clear hq hrow0 hsy hct hct2 hT hD hCy hY hST hSD htl2 hp0 hp1 hc0 hdl hYz hyl hcny hc
                  go_wp2_with (first
                    | (go_at_call 13; (with_reducible refine (HSY.out _).mono ?_); rintro e w4 ⟨A4, c4, rfl, hb4⟩; have HBY := Lib.hid (HBY.out.trans (hb4.mono HBY.out.size)); have HRY := Lib.hid (own_below HRY.out hb4); clear hb4)
                    | (go_at_call 17; (with_reducible refine (HCT.out _).mono ?_); rintro e w5 ⟨rfl, hb5⟩; have HBY := Lib.hid (HBY.out.trans (hb5.mono HBY.out.size)); have HRY := Lib.hid (own_below HRY.out hb5); have hrow5 : (w5.alloc (.cells #[.string ST] 9)).ownsRow w2.heap.size 9 1 (.slice A5 q c5) q (strC o) := HRY.out.alloc _; have hb6 : Below w2.heap.size w2 (w5.alloc (.cells #[.string ST] 9)) := HBY.out.alloc HBY.out.size _; have hwz := hb6.size; have HB6 := Lib.hid hb6; have hvb : ∀ b, (Value.slice A5 q c5).ownBlock = some b → w2.heap.size ≤ b := (fun b e => (HRY.out.lt b e).1); clear hb5 hb6)
                    | (at_builtin; refine wpList_append_own_at _ rfl _ _ 40 rfl w2.heap.size 9 i9 _ 1 16 Tryz.underlying40 hi9 hs0 hs1 hs2 rfl (by decide) _ q (strC o) rfl hrow5 ⟨w5.heap.size, 0, none⟩ 1 1 [.string ST] rfl rfl (cell_one_new _ _ _) (by simp [Value.oneCell']) (by unfold maxLen; omega) (by omega) hwz ?_; intro v2 W2 hown2 hg2 _ hat2; go_loud (have HN2 := Lib.hid (HCU.out W2 v2 (by rw [HQ.out]; exact hown2) (HB6.out.trans ((But.grown hg2).to_below HB6.out.size (fun b e => hvb b e)))); clear hown2 hg2 hat2 hrow5 hvb HB6 HCU HBY HRY hwz))
                    | (go_at_call 17; (with_reducible refine (HCT.out _).mono ?_); rintro e w7 ⟨rfl, hb7⟩; have HN3 := Lib.hid (HN2.out.keep hb7); clear hb7))
                  go_roundw
                  case rel => exact ⟨_, D, by rw [HSD.out], HN3⟩
                  case measure =>
                    have h1 := HDL.out
                    have h2 := HYZ.out
                    have h3 : SD.size = D.length := by rw [← HSD.out, strB_length]
                    show SD.size < Y.size
                    omega
                · obtain ⟨R', hL2⟩ := HY.out.rest hn (by omega)
                  have HL2 := Lib.hid hL2
                  obtain ⟨Cy, hCy⟩ : ∃ Cy, cn y = Cy := ⟨_, rfl⟩
                  rw [hCy] at hsy hc HL2 hcny
                  have hcI : ¬ (n : Int) < (Cy : Int) := by omega
                  have hCyI : (Cy : Int) ≤ 900000 := by omega
                  have HSY := Lib.hid hsy
                  have HBY : Hid (LiI w2 wo2 n l (i + 1) (.slice A5 o.length c5) o y R' Cy) := by rw [hq]; exact HL2
                  obtain ⟨Y, hY⟩ : ∃ Y, strB y = Y := ⟨_, rfl⟩
                  have HSYY := Lib.hid hY
                  rw [hY] at HSY ⊢
                  clear hsy hct hrow0 hc0 hCy hL2 HL2 hcny hc hyl HY hY hq
                  go_wp2_with (go_at_call 13; (with_reducible refine (HSY.out _).mono ?_); rintro e w4 ⟨A4, c4, rfl, hb4⟩; have HBY := Lib.hid (HBY.out.keep hb4); clear hb4)
                  go_roundw
                  case rel => exact ⟨i + 1, o, y, R', Cy, by omega, by rw [HSYY.out], rfl, by go_num, by rw [← HQ.out]; exact HBY⟩
                  case measure => simp [RowKit.intOf]; omega
    · obtain rfl : i = M := by omega
      have he := HI.out.end_ (by rw [HWL.out, HM.out]; exact Nat.le_refl _)
      have HE := Lib.hid he
      clear he
      by_cases f1 : 0 < has
      · have g1 : (0 : Int) < (has : Int) := by omega
        rw [if_pos f1] at HE
        obtain ⟨S, hS⟩ : ∃ S, strB line = S := ⟨_, rfl⟩
        have hb0 := HI.out.below
        have hrow5 : (wo.alloc (.cells #[.string S] 9)).ownsRow w2.heap.size 9 1 (.slice A5 q c5) q (strC out) := HROW.out.alloc _
        have hb5 : Below w2.heap.size w2 (wo.alloc (.cells #[.string S] 9)) := hb0.alloc hb0.size _
        have hwz := hb5.size
        have hvb : ∀ b, (Value.slice A5 q c5).ownBlock = some b → w2.heap.size ≤ b := fun b e => (HROW.out.lt b e).1
        have HB5 := Lib.hid hb5
        have HS := Lib.hid hS
        rw [hS]
        clear hS hb5 f1 hb0 HI
        go_wp2_with (at_builtin; refine wpList_append_own_at _ rfl _ _ 40 rfl w2.heap.size 9 i9 _ 1 16 Tryz.underlying40 hi9 hs0 hs1 hs2 rfl (by decide) _ q (strC out) rfl hrow5 ⟨wo.heap.size, 0, none⟩ 1 1 [.string S] rfl rfl (cell_one_new _ _ _) (by simp [Value.oneCell']) (by unfold maxLen; omega) (by omega) hwz ?_; intro v2 W2 hown2 hg2 _ hat2; go_loud (obtain ⟨A6, c6, hv6⟩ := own_slice hown2; subst hv6; have HO2 := Lib.hid hown2; have HB6 := Lib.hid (HB5.out.trans ((But.grown hg2).to_below HB5.out.size (fun b e => hvb b e))); clear hown2 hg2 hat2))
        go_ret
        have hlen : (linesS n l).length = q + 1 := by rw [HE.out, List.length_append, HQ.out]; rfl
        refine ⟨A6, c6, by rw [hlen]; rfl, ?_, HB8.out.trans (HB6.out.mono HB8.out.size)⟩
        rw [hlen, HE.out]
        have h1 := HO2.out
        unfold strC at h1 ⊢
        rw [List.map_append, List.map_cons, List.map_nil, HS.out]
        exact World.ownsRow.mono h1 HB8.out.size
      · have g1 : ¬ (0 : Int) < (has : Int) := by omega
        rw [if_neg f1, List.append_nil] at HE
        have hb0 := Lib.hid HI.out.below
        clear f1 HI
        go_wp2
        go_ret
        have hlen : (linesS n l).length = q := by rw [HE.out, HQ.out]
        refine ⟨A5, c5, by rw [hlen]; rfl, ?_, HB8.out.trans (hb0.out.mono HB8.out.size)⟩
        rw [hlen, HE.out]
        exact World.ownsRow.mono HROW.out HB8.out.size
set_option maxRecDepth 100000 in
set_option maxHeartbeats 2000000 in
theorem Sm.lines_law (s : ByteArray) (n : Int) (w : World) (_hs : s.size ≤ 9223372036854775807) (h0 : -9223372036854775808 ≤ n) (h1 : n ≤ 9223372036854775807) (hL : LaysT w) :
    Calls Tryz.prog 8 #[.string s, .int .i64 n] w fun e w' => e = .returned (.bool true) ∧ Below w.heap.size w w' := by
  have hwk : ∀ W, Below w.heap.size w W → Calls Tryz.prog 12 #[] W fun e w' => e = .returned (.bool true) ∧ Below W.heap.size W w' := fun W hb => works_any W (hL.keep hb)
  have HWK := Lib.hid hwk
  by_cases hl : 300 < s.size
  · have h12 := hwk w (Below.refl _ _)
    clear hwk
    go_enter Tryz.func8, Tryz.ntmps8
    go_wp2_with (go_at_call 12; (with_reducible refine h12.mono ?_); rintro e w1 ⟨rfl, hb1⟩)
    go_ret
    exact ⟨rfl, hb1⟩
  · clear hwk
    by_cases hbad : n < 1 ∨ 200 < n
    · have hE : linesE s n = 2 := by unfold linesE; rw [if_pos hbad]
      have hbd := Lines_bad s n w (by rw [hE]; decide) h0 h1
      rw [hE] at hbd
      have HBD := Lib.hid hbd
      clear hbd hE
      by_cases a1 : n < 1
      · clear hbad
        go_enter Tryz.func8, Tryz.ntmps8
        go_wp2_with (first
          | (go_at_call 26; (with_reducible refine HBD.out.mono ?_); rintro e w1 ⟨rfl, hb1⟩)
          | (go_at_call 20; (with_reducible refine (num_any _ _).mono ?_); rintro e w' ⟨rfl, rfl⟩)
          | (go_at_call 12; (with_reducible refine (HWK.out _ hb1).mono ?_); rintro e w5 ⟨rfl, hb5⟩))
        go_ret
        exact ⟨rfl, hb1.trans (hb5.mono hb1.size)⟩
      · have a2 : 200 < n := by omega
        clear hbad
        go_enter Tryz.func8, Tryz.ntmps8
        go_wp2_with (first
          | (go_at_call 26; (with_reducible refine HBD.out.mono ?_); rintro e w1 ⟨rfl, hb1⟩)
          | (go_at_call 20; (with_reducible refine (num_any _ _).mono ?_); rintro e w' ⟨rfl, rfl⟩)
          | (go_at_call 12; (with_reducible refine (HWK.out _ hb1).mono ?_); rintro e w5 ⟨rfl, hb5⟩))
        go_ret
        exact ⟨rfl, hb1.trans (hb5.mono hb1.size)⟩
    · obtain ⟨N, rfl⟩ : ∃ N : Nat, n = (N : Int) := ⟨n.toNat, by omega⟩
      have hN0 : 0 < N := by omega
      have hN1 : N ≤ 200 := by omega
      have hln : ∀ W, LaysT W → Calls Tryz.prog 26 #[.string s, .int .i64 (N : Int)] W fun e w' => ∃ A c, e = .returned (.tuple #[.slice A (linesS N (strL s)).length c, .int .i64 0]) ∧ RowS w' (.slice A (linesS N (strL s)).length c) (linesS N (strL s)) ∧ Below W.heap.size W w' := fun W hW => by
        have h := Lines_any (strL s) N W (by rw [strL_length]; omega) hN0 hN1 hW
        rw [strB_strL] at h
        refine h.mono ?_
        rintro e w' ⟨A, c, rfl, h1, h2⟩
        exact ⟨A, c, rfl, RowS.of h1, h2⟩
      have hrf : ∀ W, Calls Tryz.prog 27 #[.string s, .int .i64 (N : Int)] W fun e w' => ∃ A c, e = .returned (.slice A (linesS N (strL s)).length c) ∧ RowS w' (.slice A (linesS N (strL s)).length c) (linesS N (strL s)) ∧ Below W.heap.size W w' := fun W => by
        have h := refLines_any (strL s) N W (by rw [strL_length]; omega) hN0 hN1
        rw [strB_strL] at h
        refine h.mono ?_
        rintro e w' ⟨A, c, rfl, h1, h2⟩
        exact ⟨A, c, rfl, RowS.of h1, h2⟩
      have hlb := linesS_len N (strL s)
      rw [strL_length] at hlb
      obtain ⟨LL, hLL⟩ : ∃ LL, linesS N (strL s) = LL := ⟨_, rfl⟩
      rw [hLL] at hln hrf hlb
      have hsm : ∀ v u W, RowS W v LL → RowS W u LL → Calls Tryz.prog 24 #[v, u] W fun e w' => e = .returned (.bool true) ∧ Below W.heap.size W w' := fun v u W hv hu => by
        have h := same_any v u LL LL W hv hu (by omega) (by omega)
        simpa using h
      obtain ⟨M, hM⟩ : ∃ M, LL.length = M := ⟨_, rfl⟩
      rw [hM] at hln hrf
      have HLN := Lib.hid hln
      have HRF := Lib.hid hrf
      have HSM := Lib.hid hsm
      clear hln hrf hsm hM hLL hlb hbad h0 h1
      go_enter Tryz.func8, Tryz.ntmps8
      go_wp2_with (first
        | (go_at_call 26; (with_reducible refine (HLN.out _ hL).mono ?_); rintro e w1 ⟨A1, c1, rfl, hr1, hb1⟩)
        | (go_at_call 27; (with_reducible refine (HRF.out _).mono ?_); rintro e w2 ⟨A2, c2, rfl, hr2, hb2⟩; have hr1b := hr1.keep hb2; replace hb2 := hb1.trans (hb2.mono hb1.size))
        | (go_at_call 24; (with_reducible refine (HSM.out _ _ _ hr1b hr2).mono ?_); rintro e w3 ⟨rfl, hb3⟩; replace hb3 := hb2.trans (hb3.mono hb2.size))
        | (go_at_call 20; (with_reducible refine (num_any _ _).mono ?_); rintro e w' ⟨rfl, rfl⟩)
        | (go_at_call 12; (with_reducible refine (HWK.out _ hb3).mono ?_); rintro e w5 ⟨rfl, hb5⟩))
      go_ret
      exact ⟨rfl, hb3.trans (hb5.mono hb3.size)⟩
end Go.Proofs
namespace Go.Proofs.YtneaenplbccpmaaGreatDoor
open Go Go.ChangeShapes Go.WideShapes Go.ChangeAt Go.WideMaps Go.WideElems Go.RowKit Go.Lib Sm
set_option maxRecDepth 100000 in
theorem textLines_lifted (os : Os) (started : os.Started) (H : Type) (enc : TypeId × Value → H) :
    ReturnsInHanded {} Tryz.checked os 8 .any (fun w args => (Rows.textLinesSpec.pre enc Tryz.prog Tryz.f8 [] false w args ∧ laidMetH Tryz.prog laidL w) ∧ sizedMet enc Tryz.prog Tryz.f8 (OpenSpec.ofChange Rows.textLinesSpec) false w args)
      (Rows.textLinesSpec.post enc Tryz.prog Tryz.f8 false true false false) := by
  refine laidHanded started #[.string ByteArray.empty, .int .i64 0] (by kernel_rfl) Tryz.func8 (World.shaped_of_ZipB (by kernel_rfl) (by kernel_rfl)) (by kernel_rfl) (by kernel_rfl) (by kernel_rfl) ?_
  intro W base args ds gs before hval0 hW hL
  have hval : ∀ (j : Nat) t v, Tryz.f8.params[j]? = some t → args[j]? = some v → Value.okWide Tryz.prog W .any base t v := hval0
  have hW' := hW
  obtain ⟨p, q, hA0, hV, rfl, hfz, hnd⟩ := hW
  have hA : DataW.TrodAll enc Tryz.prog W 0 (fun _ => true) true Tryz.f8.params.toList args.toList ds p := hA0
  rw [Tryz.params8] at hA hval
  obtain ⟨v0, vs0, d0, ds0, p0, q0, hargs, rfl, rfl, h0, r0⟩ := trodAll_cons hA
  obtain ⟨v1, vs1, d1, ds1, p1, q1, rfl, rfl, rfl, h1, r1⟩ := trodAll_cons r0
  obtain ⟨rfl, rfl, rfl⟩ := trodAll_nil r1
  obtain rfl : args = #[v0, v1] := by cases args; simp_all
  obtain ⟨rfl, rfl⟩ := trodVars_none hV
  obtain ⟨s0, rfl, rfl, rfl, hs0⟩ := Go.ChangeMaps.open_string Tryz.underlying9 (hval 0 9 v0 rfl rfl) h0
  obtain ⟨a1, rfl, rfl, rfl, w1⟩ := open_int Tryz.underlying3 (hval 1 3 v1 rfl rfl) h1
  obtain ⟨lo1, up1⟩ := bd64 rfl w1
  refine (lines_law s0 a1 W hs0 lo1 up1 hL).mono fun e W' ⟨he, hb⟩ => ?_
  subst he
  exact ⟨_, rfl, law_post hW' rfl rfl rfl rfl (by kernel_rfl) (by rw [Tryz.params8]; intro t ht; simp at ht; rcases ht with rfl | rfl <;> exact ⟨by kernel_rfl, of_decide_eq_true (by kernel_rfl)⟩) hb⟩
theorem textLines_holds : Rows.TextLinesSaid :=
  OpenClaim.holds_of_wide 8 Tryz.f8 rfl rfl rfl rfl rfl rfl rfl ⟨rfl, rfl, rfl, rfl, rfl⟩ rfl rfl rfl rfl rfl (by kernel_rfl) Tryz.func8 (by kernel_rfl)
    (of_decide_eq_true (by kernel_rfl)) (by unfold Func.isWrapper; first | (rw [if_pos (by decide +kernel)]; kernel_rfl) | (rw [if_neg (by decide +kernel)]; exact ⟨rfl, rfl⟩))
    (fun os started H enc _ => textLines_lifted os started H enc)
/-- the card -/
theorem textLines_card : Rows.TextLinesCardSaid :=
  Claim7.holds_tied_plain_at .later [] [.data, .data, .data, .data, .sentinel, .sentinel, .pinned] true (true, "ed007c98b8e6bbfba8db0ed1f540fab899121459d0b3226e22db2c0e1694eb46") true
    textLines_holds (fun _ h => by cases h) (by kernel_rfl) (fun _ h => by cases h) textLines_row_tie rfl ⟨rfl, rfl⟩ (by kernel_rfl) rfl
    (fun f fn hf hfn => by
      obtain rfl : f = 8 := Option.some.inj ((show Tryz.prog.funcNamed "antiphon/antiphonlaw03.TextLines" = some 8 by kernel_rfl).symm.trans hf) |>.symm
      obtain rfl : fn = Tryz.f8 := (Option.some.inj (Tryz.func8.symm.trans hfn)).symm
      exact ⟨by kernel_rfl, fun j t ht => by
        rw [Tryz.params8] at ht
        have hm : t ∈ [9, 3] := by simpa using Array.mem_of_getElem? ht
        have hall : ([9, 3].all fun u => !Tryz.prog.wantsStandIn u) = true := by kernel_rfl
        exact (show Tryz.prog.wantsStandIn t = false by simpa using List.all_eq_true.1 hall t hm)⟩)
    (by kernel_rfl)
end Go.Proofs.YtneaenplbccpmaaGreatDoor
