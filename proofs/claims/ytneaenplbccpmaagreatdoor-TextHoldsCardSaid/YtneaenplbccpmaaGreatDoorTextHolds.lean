/-
  The law TextHolds holds of every text and every width: signs put together are the text, lines have at most the width and keep the words, Unquote of Quote is the text, Fold of Fold is Fold. Conditions: the row's own.
-/
import Derived.Test.YtneaenplbccpmaaGreatDoorTxLn
import Derived.Test.YtneaenplbccpmaaGreatDoorTxF
import Derived.Deep.RegionHeldLaw
import Derived.Deep.RegionWith
import Derived.Deep.DeepCutAuto
import Derived.Deep.CutRange
import Derived.Deep.QuietTactic
import Derived.BigQuiet
import Derived.Test.YtneaenplbccpmaaGreatDoorTxWk
import Derived.Test.YtneaenplbccpmaaGreatDoorFrame
namespace Go.Proofs
open Go Go.RowKit Sm Go.Lib
theorem Sm.dec_ext (s : ByteArray) (p q : Nat) (h : p ≤ s.size) : Utf8.decode (s.extract p s.size) q = Utf8.decode s (p + q) := by
  rw [decode_at, decode_at, size_ext, get_ext s p _ h, get_ext s p _ h, get_ext s p _ h, get_ext s p _ h, Nat.sub_sub]
  simp only [Nat.add_assoc]
theorem Sm.pos_ext (s : ByteArray) (j : Nat) : ∀ k, posK (s.extract (posK s j) s.size) k + posK s j = posK s (j + k)
  | 0 => by simp [posK]
  | k + 1 => by
    have ih := pos_ext s j k
    have hp := posK_le s j
    have hk := posK_le (s.extract (posK s j) s.size) k
    rw [size_ext] at hk
    rw [← Nat.add_assoc, posK, posK, size_ext]
    by_cases h : posK s (j + k) < s.size
    · rw [if_pos h, if_pos (by omega), dec_ext s _ _ hp, Nat.add_comm (posK s j), ih]
      omega
    · rw [if_neg h, if_neg (by omega), ih]
/-- the signs behind a place -/
theorem Sm.cnt_drop (s : ByteArray) {j : Nat} (hj : j ≤ cntS s) : cntS (s.extract (posK s j) s.size) + j = cntS s := by
  have h : cntS s - j = cntS (s.extract (posK s j) s.size) := cntS_of (by
    have h1 := pos_ext s j (cntS s - j)
    rw [show j + (cntS s - j) = cntS s by omega, cntS_end] at h1
    rw [size_ext]
    omega) (fun i hi => by
    have h1 := pos_ext s j i
    have h2 := cntS_lt (s := s) (j := j + i) (by omega)
    rw [size_ext]
    omega)
  omega
theorem Sm.get_strB (l : List (BitVec 8)) {i : Nat} {b : BitVec 8} (h : l[i]? = some b) : ((strB l).get! i).toNat = b.toNat := byte_get (strB l) (by rw [strL_strB]; exact h)
/-- two texts with a blank between them -/
theorem Sm.cnt_blank (a b : List (BitVec 8)) : cntS (strB (a ++ 32#8 :: b)) = cntS (strB a) + 1 + cntS (strB b) := by
  obtain ⟨s, hs⟩ : ∃ s, strB (a ++ 32#8 :: b) = s := ⟨_, rfl⟩
  have hsz : s.size = a.length + (b.length + 1) := by rw [← hs, strB_length]; simp
  have hb : (s.get! a.length).toNat = 32 := by
    rw [← hs]
    exact get_strB (a ++ 32#8 :: b) (i := a.length) (b := 32#8) (by simp)
  obtain ⟨j, hj, hp⟩ := sign_at (s := s) (i := a.length) (by omega) (by omega)
  have e1 : s.extract 0 (posK s j) = strB a := by
    rw [hp, ← hs, cut_strB, List.drop_zero]
    congr 1
    simp
  have c1 := cnt_cut (s := s) (j := j) (by omega)
  rw [e1] at c1
  have hp1 : posK s (j + 1) = a.length + 1 := by
    rw [posK_succ (cntS_lt hj), hp, dec_low (by omega)]
  have e2 : s.extract (posK s (j + 1)) s.size = strB b := by
    rw [hp1, ← hs, cut_strB, List.take_of_length_le (by rw [strB_length]; exact Nat.le_refl _)]
    congr 1
    rw [show a.length + 1 = (a ++ [32#8]).length by simp, show a ++ 32#8 :: b = (a ++ [32#8]) ++ b by simp, List.drop_left]
  have c2 := cnt_drop s (j := j + 1) (by omega)
  rw [e2] at c2
  rw [hs]
  omega
def Sm.cntL (xs : List (List (BitVec 8))) : Nat := (xs.map fun x => cntS (strB x)).sum
theorem Sm.joinL_cons (x y : List (BitVec 8)) (r : List (List (BitVec 8))) : joinL (x :: y :: r) = x ++ 32#8 :: joinL (y :: r) := by
  simp [joinL, List.intercalate, List.intersperse]
theorem Sm.cnt_joinL : ∀ (x : List (BitVec 8)) (r : List (List (BitVec 8))), cntS (strB (joinL (x :: r))) = cntL (x :: r) + r.length
  | x, [] => by simp [joinL, List.intercalate, cntL]
  | x, y :: r => by
    have ih := cnt_joinL y r
    rw [joinL_cons, cnt_blank, ih]
    simp only [cntL, List.map_cons, List.sum_cons, List.length_cons]
    omega
theorem Sm.room_sum (l : List (BitVec 8)) (n : Nat) : ∀ k, roomK l n k = (n : Int) - (cntL (piecesK l n k) : Int) - k
  | 0 => by simp [roomK, cntL, piecesK]
  | k + 1 => by
    have ih := room_sum l n k
    have e : cntL (piecesK l n (k + 1)) = cntL (piecesK l n k) + cntP l n k := by
      rw [piecesK_succ]
      unfold cntL cntP
      simp
    unfold roomK
    rw [ih, e]
    omega
theorem Sm.piece_cnt_pos {l : List (BitVec 8)} {n k : Nat} (hn : 0 < n) (h : leftK l n k ≠ []) : 0 < cntP l n k := by
  obtain ⟨b, r, hbr⟩ := List.exists_cons_of_ne_nil h
  have hp := piece_pos (r := r) hn (leftK_head l n k hbr)
  rw [← hbr] at hp
  rcases Nat.eq_zero_or_pos (cntS (strB (pieceL n (leftK l n k)))) with e | e
  · have h0 := cntS_end (strB (pieceL n (leftK l n k)))
    rw [e] at h0
    have h1 : posK (strB (pieceL n (leftK l n k))) 0 = 0 := rfl
    rw [strB_length] at h0
    omega
  · exact e
/-- a line's signs -/
theorem Sm.line_cnt {l : List (BitVec 8)} {n m : Nat} (hn : 0 < n) (hm : 0 < m) (h : ∀ i, i < m → fits l n i) : 0 < cntS (strB (joinL (piecesK l n m))) ∧ cntS (strB (joinL (piecesK l n m))) ≤ n := by
  have hne : piecesK l n m ≠ [] := fun e => by have := piecesK_len l n m; rw [e] at this; simp at this; omega
  obtain ⟨x, r, hxr⟩ := List.exists_cons_of_ne_nil hne
  have hrl : r.length + 1 = m := by have := piecesK_len l n m; rw [hxr] at this; simpa using this
  have hc := cnt_joinL x r
  rw [← hxr] at hc
  obtain ⟨m, rfl⟩ : ∃ k, m = k + 1 := ⟨m - 1, by omega⟩
  have hlast := h m (by omega)
  have hpos := piece_cnt_pos hn hlast.1
  have hroom := room_sum l n m
  have e : cntL (piecesK l n (m + 1)) = cntL (piecesK l n m) + cntP l n m := by
    rw [piecesK_succ]
    unfold cntL cntP
    simp
  have h2 := hlast.2
  rw [hc, e]
  omega
theorem Sm.fillF_spec {l : List (BitVec 8)} {n : Nat} (hn : 0 < n) : ∀ f k, (∀ i, i < k → fits l n i) → l.length ≤ k + f → (∀ i, i < fillF l n f k → fits l n i) ∧ ¬ fits l n (fillF l n f k)
  | 0, k, h, hf => by
    unfold fillF
    refine ⟨h, fun h2 => ?_⟩
    have h3 := fill_m hn h
    have h4 : 0 < (leftK l n k).length := List.length_pos_iff.2 h2.1
    omega
  | f + 1, k, h, hf => by
    unfold fillF
    by_cases hk : fits l n k
    · rw [if_pos hk]
      exact fillF_spec hn f (k + 1) (fun i hi => by
        by_cases e : i = k
        · exact e ▸ hk
        · exact h i (by omega)) (by omega)
    · rw [if_neg hk]
      exact ⟨h, hk⟩
theorem Sm.fillN_spec {l : List (BitVec 8)} {n : Nat} (hn : 0 < n) : (∀ i, i < fillN l n → fits l n i) ∧ ¬ fits l n (fillN l n) := fillF_spec hn l.length 0 (fun i hi => by omega) (by omega)
theorem Sm.fillN_pos {l : List (BitVec 8)} {n : Nat} (hn : 0 < n) (hl : l ≠ []) (hb : bl l = l) : 0 < fillN l n := by
  rcases Nat.eq_zero_or_pos (fillN l n) with e | e
  · have h := (fillN_spec (l := l) hn).2
    rw [e] at h
    exact absurd (fits_zero hl hb) h
  · exact e
theorem Sm.linesF_cnt {n : Nat} (hn : 0 < n) : ∀ f l, bl l = l → ∀ x ∈ linesF n f l, 0 < cntS (strB x) ∧ cntS (strB x) ≤ n
  | 0, l, _, x, h => by simp [linesF] at h
  | f + 1, l, hb, x, h => by
    unfold linesF at h
    by_cases hl : l = []
    · rw [if_pos hl] at h; simp at h
    · rw [if_neg hl] at h
      rcases List.mem_cons.1 h with e | e
      · rw [e]
        exact line_cnt hn (fillN_pos hn hl hb) (fillN_spec hn).1
      · exact linesF_cnt hn f _ (leftK_bl l n _) x e
/-- the bytes that are no blank -/
def Sm.solid (l : List (BitVec 8)) : List (BitVec 8) := l.filter fun b => !(b == 32#8)
theorem Sm.solid_bl : ∀ l : List (BitVec 8), solid (bl l) = solid l
  | [] => rfl
  | b :: r => by
    by_cases h : b = 32#8
    · subst h
      have ih := solid_bl r
      unfold bl solid at ih ⊢
      simpa using ih
    · unfold bl
      rw [List.dropWhile_cons_of_neg (by simpa using h)]
theorem Sm.piece_split (n : Nat) (l : List (BitVec 8)) : pieceL n l ++ l.drop (pieceL n l).length = l := by
  have hp : pieceL n l <+: l := (List.takeWhile_prefix _).trans (List.take_prefix _ _)
  obtain ⟨t, ht⟩ := hp
  have e : l.drop (pieceL n l).length = t := by
    have := congrArg (List.drop (pieceL n l).length) ht
    rw [List.drop_left] at this
    exact this.symm
  rw [e]
  exact ht
theorem Sm.solid_app (a b : List (BitVec 8)) : solid (a ++ b) = solid a ++ solid b := List.filter_append ..
theorem Sm.solid_pieces (l : List (BitVec 8)) (n : Nat) : ∀ k, (piecesK l n k).flatMap solid ++ solid (leftK l n k) = solid l
  | 0 => solid_bl l
  | k + 1 => by
    have ih := solid_pieces l n k
    rw [piecesK_succ, List.flatMap_append, ← ih, List.append_assoc]
    congr 1
    have e := congrArg solid (piece_split n (leftK l n k))
    rw [solid_app] at e
    rw [← e]
    simp only [List.flatMap_cons, List.flatMap_nil, List.append_nil]
    congr 1
    exact solid_bl _
theorem Sm.solid_join : ∀ xs : List (List (BitVec 8)), solid (joinL xs) = xs.flatMap solid
  | [] => rfl
  | [x] => by simp [joinL, List.intercalate]
  | x :: y :: r => by
    rw [joinL_cons, solid_app, List.flatMap_cons, ← solid_join (y :: r)]
    rfl
theorem Sm.solid_lines {n : Nat} (hn : 0 < n) : ∀ f l, bl l = l → l.length < f → solid (linesF n f l).flatten = solid l
  | 0, l, _, h => absurd h (by omega)
  | f + 1, l, hb, h => by
    unfold linesF
    by_cases hl : l = []
    · rw [if_pos hl, hl]; rfl
    · rw [if_neg hl, List.flatten_cons, solid_app, solid_join]
      have h1 := fill_m hn (fillN_spec (l := l) hn).1
      have h2 := fillN_pos hn hl hb
      rw [solid_lines hn f _ (leftK_bl l n _) (by omega)]
      exact solid_pieces l n _
/-- put together, the lines are the text, but for blanks -/
theorem Sm.solid_all {n : Nat} (hn : 0 < n) (s : List (BitVec 8)) : solid (linesS n s).flatten = solid s := by
  unfold linesS
  rw [solid_lines hn _ _ (bl_bl s) (by have := bl_len s; omega), solid_bl]
theorem Sm.lines_cnt {n : Nat} (hn : 0 < n) (s : List (BitVec 8)) : ∀ x ∈ linesS n s, 0 < cntS (strB x) ∧ cntS (strB x) ≤ n := linesF_cnt hn _ _ (bl_bl s)
end Go.Proofs
namespace Go.Proofs
open Go Go.RowKit Sm Go.Lib
def Sm.foldN (x : Nat) : Nat := if 65 ≤ x ∧ x ≤ 90 then x + 32 else x
theorem Sm.foldN_cases (x : Nat) : (foldN x = x) ∨ (x < 128 ∧ foldN x < 128) := by
  unfold foldN
  split
  · exact .inr ⟨by omega, by omega⟩
  · exact .inl rfl
theorem Sm.cont_fold (x : Nat) : (foldN x / 64 = 2) = (x / 64 = 2) := by
  rcases foldN_cases x with h | ⟨h1, h2⟩
  · rw [h]
  · exact propext ⟨fun h => by omega, fun h => by omega⟩
theorem Sm.decodeN_fold (n b0 b1 b2 b3 : Nat) (h : 128 ≤ b0) : decodeN n (foldN b0) (foldN b1) (foldN b2) (foldN b3) = decodeN n b0 b1 b2 b3 := by
  have e0 : foldN b0 = b0 := by unfold foldN; rw [if_neg (by omega)]
  have k : ∀ x, x / 64 = 2 → foldN x = x := fun x hx => by unfold foldN; rw [if_neg (by omega)]
  unfold decodeN
  rw [e0]
  simp only [cont_fold]
  by_cases c1 : b1 / 64 = 2
  · rw [k b1 c1]
    by_cases c2 : b2 / 64 = 2
    · rw [k b2 c2]
      by_cases c3 : b3 / 64 = 2
      · rw [k b3 c3]
      · simp only [c3, and_false, if_false]
    · simp only [c2, and_false, false_and, if_false]
  · simp only [c1, and_false, false_and, if_false]
theorem Sm.decodeN_low (n b0 b1 b2 b3 : Nat) (h : b0 < 128) : decodeN n b0 b1 b2 b3 = (b0, 1) := by
  unfold decodeN
  rw [if_pos h]
theorem Sm.foldB_N (b : BitVec 8) : (foldB b).toNat = foldN b.toNat := by
  unfold foldB foldN
  split
  · rename_i h
    rw [BitVec.toNat_add]
    show (b.toNat + 32) % 256 = _
    omega
  · rfl
theorem Sm.fold_size (s : ByteArray) : (foldS s).size = s.size := by unfold foldS; rw [strB_length, List.length_map, strL_length]
theorem Sm.get_out (s : ByteArray) {i : Nat} (h : s.size ≤ i) : (s.get! i).toNat = 0 := by
  cases s with
  | mk a =>
    show (a[i]!).toNat = 0
    rw [getElem!_neg a i (by have : (⟨a⟩ : ByteArray).size = a.size := rfl; omega)]
    rfl
theorem Sm.get_fold (s : ByteArray) (i : Nat) : ((foldS s).get! i).toNat = foldN (s.get! i).toNat := by
  by_cases h : i < s.size
  · have hl : i < (strL s).length := by rw [strL_length]; exact h
    rw [byte_get s (List.getElem?_eq_getElem hl), ← foldB_N]
    unfold foldS
    exact get_strB _ (by rw [List.getElem?_map, List.getElem?_eq_getElem hl]; rfl)
  · rw [get_out s (by omega), get_out (foldS s) (by rw [fold_size]; omega)]
    rfl
theorem Sm.dec_fold_low {s : ByteArray} {p : Nat} (h : (s.get! p).toNat < 128) : Utf8.decode (foldS s) p = (foldN (s.get! p).toNat, 1) := by
  have h2 : foldN (s.get! p).toNat < 128 := by
    rcases foldN_cases (s.get! p).toNat with e | e
    · rw [e]; exact h
    · exact e.2
  rw [dec_low (by rw [get_fold]; exact h2), get_fold]
theorem Sm.dec_fold_high {s : ByteArray} {p : Nat} (h : 128 ≤ (s.get! p).toNat) : Utf8.decode (foldS s) p = Utf8.decode s p := by
  rw [decode_at, decode_at, get_fold, get_fold, get_fold, get_fold, fold_size, decodeN_fold _ _ _ _ _ h]
theorem Sm.dec_fold_width (s : ByteArray) (p : Nat) : (Utf8.decode (foldS s) p).2 = (Utf8.decode s p).2 := by
  by_cases h : (s.get! p).toNat < 128
  · rw [dec_fold_low h, dec_low h]
  · rw [dec_fold_high (by omega)]
theorem Sm.pos_fold (s : ByteArray) : ∀ k, posK (foldS s) k = posK s k
  | 0 => rfl
  | k + 1 => by rw [posK, posK, pos_fold s k, fold_size, dec_fold_width]
theorem Sm.cnt_fold (s : ByteArray) : cntS (foldS s) = cntS s := by
  refine (cntS_of ?_ fun j hj => ?_).symm
  · rw [pos_fold, fold_size, cntS_end]; omega
  · rw [pos_fold, fold_size]; exact cntS_lt hj
theorem Sm.broke_fold (s : ByteArray) (p : Nat) : brokeP (foldS s) p = brokeP s p := by
  unfold brokeP
  rw [dec_fold_width, get_fold]
  have e : (128 ≤ foldN (s.get! p).toNat) = (128 ≤ (s.get! p).toNat) := by
    rcases foldN_cases (s.get! p).toNat with h | h
    · rw [h]
    · exact propext ⟨fun x => by omega, fun x => by omega⟩
  simp only [e]
theorem Sm.badR_fold (x : Nat) : badR (foldN x) = badR x := by
  unfold badR foldN
  split
  · rw [decide_eq_false (by omega), decide_eq_false (by omega)]
  · rfl
theorem Sm.rune_fold (s : ByteArray) (k : Nat) : badR (runeK (foldS s) k) = badR (runeK s k) := by
  unfold runeK
  rw [pos_fold]
  by_cases h : (s.get! (posK s k)).toNat < 128
  · rw [dec_fold_low h, dec_low h]
    exact badR_fold _
  · rw [dec_fold_high (by omega)]
theorem Sm.foldN_32 (x : Nat) : (foldN x = 32) = (x = 32) := by
  unfold foldN
  split
  · exact propext ⟨fun h => by omega, fun h => by omega⟩
  · rfl
/-- Fold changes nothing of what Check tells -/
theorem Sm.check_fold (s : ByteArray) : checkN (foldS s) = checkN s := by
  have e1 : brokenB (foldS s) = brokenB s := by
    unfold brokenB
    rw [cnt_fold]
    congr 1
    funext k
    rw [pos_fold, broke_fold]
  have e2 : anyR badR (foldS s) = anyR badR s := by
    unfold anyR
    rw [cnt_fold]
    congr 1
    funext k
    exact rune_fold s k
  have e3 : blankB (foldS s) = blankB s := by
    unfold blankB
    have e : ∀ x : UInt8, (x = 32) = (x.toNat = 32) := fun x => propext ⟨fun h => by rw [h]; rfl, fun h => UInt8.toNat_inj.1 (by rw [h]; rfl)⟩
    simp only [e, get_fold, fold_size, foldN_32]
  unfold checkN
  rw [fold_size, e1, e2, e3]
theorem Sm.fold_fold (s : ByteArray) : foldS (foldS s) = foldS s := by
  unfold foldS
  rw [strL_strB, List.map_map]
  congr 2
  funext b
  refine BitVec.eq_of_toNat_eq ?_
  show (foldB (foldB b)).toNat = _
  rw [foldB_N, foldB_N]
  unfold foldN
  repeat' split
  all_goals omega
end Go.Proofs
namespace Go.Proofs
open Go Go.RowKit Sm Go.Lib
attribute [local go_sem] Oper.semAt_some
theorem Sm.retM {n : Nat} {P : Program} {fn : Func} {R : Ending → World → Prop} {a : Act} {w : World} {v : Value} (hr : (results fn a.tmps).run P w = .ok v w) (hd : a.defers = []) (hR : R (.returned v) w) : bodyPostM Fence.wide n P fn R .ret a w := by
  show LeavesInM Fence.wide n P fn a.tmps R a.defers .returning w
  rw [hd]
  exact ⟨v, hr, hR⟩
theorem Sm.wp_dead {P : Program} {c : Code} {K : Act → World → Prop} {Q : Exit → Act → World → Prop} {a : Act} {w : World} (h : c.wp P (Exit.then K (fun _ _ _ => False)) a w) : c.wp P (Exit.then K Q) a w :=
  wp_mono h (fun e a w h => by cases e <;> first | exact h | exact h.elim)
/-- how the two cells of the law stand behind k signs -/
structure Sm.HoI (s : ByteArray) (w w5 W : World) (k : Nat) : Prop where
  but : But (fun b => b = w.heap.size + 1 ∨ b = w.heap.size + 1 + 1) w5 W
  last : W.heap[w.heap.size + 1]? = some (.cells #[.int .i64 (posK s (k - 1) : Int)] 3 (0, 0))
  n_ : W.heap[w.heap.size + 1 + 1]? = some (.cells #[.int .i64 (k : Int)] 3 (0, 0))
  le : k ≤ cntS s
theorem Sm.ix_at {l : List (BitVec 8)} {S : ByteArray} (hS : strB l = S) {k : Nat} (h : k < l.length) (_hm : l.length ≤ 1000000) :
    (∀ w, (Instr.index 9 (.string S) (.int .i64 (k : Int))).run Tryz.prog w = .ok (.int .u8 ((l[k]).toNat : Int)) w) ∧ ∀ w, (Instr.slice 9 (.string S) (some (.int .i64 (k : Int))) (some (.int .i64 ((k : Int) + 1))) none).run Tryz.prog w = .ok (.string (strB [l[k]])) w := by
  have hz : S.size = l.length := by rw [← hS, strB_length]
  refine ⟨fun w => ?_, fun w => ?_⟩
  · rw [← get_strB l (List.getElem?_eq_getElem h), hS]
    exact byte_at S k (by omega) w
  · rw [run_slice_string (P := Tryz.prog) w 9 S .i64 .i64 (k : Int) ((k : Int) + 1) Tryz.underlying9 (by omega) (by omega) (by omega)]
    rw [Int.toNat_natCast, show ((k : Int) + 1).toNat = k + 1 by omega, ← hS, cut_strB, List.drop_take, show k + 1 - k = 1 by omega, List.drop_eq_getElem_cons h]
    rfl
theorem Sm.solid_yes {l : List (BitVec 8)} {k : Nat} (h : k < l.length) (hb : l[k] ≠ 32#8) : solid (l.take (k + 1)) = solid (l.take k) ++ [l[k]] := by
  rw [List.take_succ_eq_append_getElem h, solid_app]
  congr 1
  unfold solid
  simp [hb]
theorem Sm.solid_no {l : List (BitVec 8)} {k : Nat} (h : k < l.length) (hb : l[k] = 32#8) : solid (l.take (k + 1)) = solid (l.take k) := by
  rw [List.take_succ_eq_append_getElem h, solid_app, hb]
  simp [solid]
theorem Sm.solid_len (l : List (BitVec 8)) : (solid l).length ≤ l.length := List.length_filter_le _ _
theorem Sm.flat_len : ∀ (L : List (List (BitVec 8))) (k : Nat), ((L.take k).flatten).length ≤ (L.flatten).length
  | [], k => by simp
  | x :: r, 0 => by simp
  | x :: r, k + 1 => by
    have := flat_len r k
    simp only [List.take_succ_cons, List.flatten_cons, List.length_append]
    omega
theorem Sm.dec_four (s : ByteArray) (p : Nat) : (Utf8.decode s p).2 ≤ 4 := by
  rw [decode_at]
  unfold decodeN
  repeat' split
  all_goals (simp only; omega)
theorem Sm.pos_four (s : ByteArray) : ∀ k, posK s k ≤ 4 * k
  | 0 => Nat.zero_le _
  | k + 1 => by
    have ih := pos_four s k
    have := dec_four s (posK s k)
    rw [posK]
    split <;> omega
theorem Sm.flat_le {c : Nat} : ∀ (L : List (List (BitVec 8))), (∀ x ∈ L, x.length ≤ c) → L.flatten.length ≤ c * L.length
  | [], _ => by simp
  | x :: r, h => by
    have h1 := h x (by simp)
    have h2 := flat_le r (fun y hy => h y (by simp [hy]))
    rw [List.flatten_cons, List.length_append, List.length_cons, Nat.mul_succ]
    omega
theorem Sm.linesF_len (n : Nat) : ∀ f l, (linesF n f l).length ≤ f
  | 0, l => by simp [linesF]
  | f + 1, l => by
    unfold linesF
    have := linesF_len n f (leftK l n (fillN l n))
    split
    · simp
    · rw [List.length_cons]; omega
theorem Sm.lines_size {n : Nat} (hn : 1 ≤ n) (hn2 : n ≤ 200) (l : List (BitVec 8)) (hl : l.length ≤ 300) : (linesS n l).length ≤ 301 ∧ (linesS n l).flatten.length ≤ 300000 := by
  have h1 : (linesS n l).length ≤ 301 := by
    have := linesF_len n (l.length + 1) (bl l)
    unfold linesS
    omega
  refine ⟨h1, ?_⟩
  have h2 := flat_le (c := 800) (linesS n l) (fun x hx => by
    have h3 := (lines_cnt (n := n) hn l x hx).2
    have h4 := pos_four (strB x) (cntS (strB x))
    rw [cntS_end, strB_length] at h4
    omega)
  have h5 : 800 * (linesS n l).length ≤ 800 * 301 := Nat.mul_le_mul_left _ h1
  omega
theorem Sm.cut_all (s : ByteArray) : cutS s (cntS s : Int) = s := by
  unfold cutS
  rw [Int.toNat_natCast, Nat.min_self, cntS_end]
  cases s with
  | mk a =>
    show ByteArray.extract ⟨a⟩ 0 a.size = _
    refine ba_ext ?_
    rw [ByteArray.data_extract]
    simp
set_option maxRecDepth 300000 in
set_option maxHeartbeats 8000000 in
theorem Sm.holds_law (s : ByteArray) (n : Int) (w : World) (_hs : s.size ≤ 9223372036854775807) (h0 : -9223372036854775808 ≤ n) (h1 : n ≤ 9223372036854775807) (hL : LaysT w) :
    Calls Tryz.prog 11 #[.string s, .int .i64 n] w fun e w' => e = .returned (.bool true) ∧ Below w.heap.size w w' := by
  have hb0 : Below w.heap.size w (w.alloc (.cells #[.bool false] 4)) := (Below.refl _ _).alloc (Nat.le_refl _) _
  have hres0 : (w.alloc (.cells #[.bool false] 4)).heap[w.heap.size]? = some (.cells #[.bool false] 4 (0, 0)) := World.alloc_heap_new w _
  have hwk : ∀ wr, Below w.heap.size w wr → wr.heap[w.heap.size]? = some (.cells #[.bool false] 4 (0, 0)) → Calls Tryz.prog 12 #[] wr fun e w' => e = .returned (.bool true) ∧ w'.heap[w.heap.size]? = some (.cells #[.bool false] 4 (0, 0)) ∧ w'.cell? ⟨w.heap.size, 0, none⟩ = some (.bool false) ∧ w'.frozen? ⟨w.heap.size, 0, none⟩ = false ∧ Below w.heap.size w w' := fun wr hb h => by
    refine (works_any wr (hL.keep hb)).mono ?_
    rintro e w' ⟨h1, h2⟩
    have h3 := (h2.block _ (Array.getElem?_eq_some_iff.1 h).1).trans h
    exact ⟨h1, h3, cell_of_heap h3 0, frozen_of_heap h3 0, hb.trans (h2.mono hb.size)⟩
  refine (callsIn_wide (n := 3)).1 (callsIn_of_wp_marks Tryz.func11 rfl trivial ?_ rfl)
  refine wpIn_wide.2 ?_
  simp only [Tryz.ntmps11, List.size_toArray, List.length_cons, List.length_nil, Nat.reduceAdd, Nat.reduceSub, Array.replicate_succ, Array.replicate_zero, List.push_toArray, List.append_toArray, List.nil_append, List.cons_append]
  by_cases hbad : 300 < s.size ∨ n < 1 ∨ 200 < n
  · have hbd : (decide ((300 : Int) < (s.size : Int)) || (decide (n < 1) || decide (200 < n))) = true := by simp; omega
    have h12 := hwk _ hb0 hres0
    clear hwk hb0 hres0
    go_upto_region 1 with fail
    go_cut [29] from 19 to 29 (fun s29 wx => s29 = .bool true ∧ wx = w.alloc (.cells #[.bool false] 4))
    case first =>
      by_cases a1 : 300 < s.size
      · go_wp2
        go_meet
        exact ⟨rfl, rfl⟩
      · by_cases a2 : n < 1
        · go_wp2
          go_meet
          exact ⟨rfl, rfl⟩
        · have a3 : 200 < n := by omega
          go_wp2
          go_meet
          exact ⟨rfl, rfl⟩
    case rest =>
      obtain ⟨rfl, rfl⟩ := hcut
      go_wp2_with (go_at_call 12; (with_reducible refine h12.mono ?_); clear h12; rintro e w1 ⟨rfl, h1, h2, h3, hb1⟩)
      have h4 := cell_of_heap (heap_setCells (i := 0) (u := .bool true) h1) 0
      exact retM (v := .bool true) (by simp [results, Tryz.results11, go_sem, h4]) rfl ⟨rfl, hb1.setCell (p := ⟨w.heap.size, 0, none⟩) (Nat.le_refl _) _⟩
  · have hm : s.size ≤ 300 := by omega
    obtain ⟨N, rfl⟩ : ∃ N : Nat, n = (N : Int) := ⟨n.toNat, by omega⟩
    have hN0 : 1 ≤ N := by omega
    have hN1 : N ≤ 200 := by omega
    clear hbad h0 h1
    have a1 : ¬ 300 < s.size := by omega
    have hfn : ∀ (wx : World) (a : Addr), (binOp .eql 26 (.func (.func 33) #[] #[.pointer (some a)]) .nilFunc).run Tryz.prog wx = .ok (.bool false) wx := fun wx a => by kernel_rfl
    go_wp2_with (go_at_call 14; (with_reducible refine (Each_any s _).mono ?_); rintro e w' ⟨rfl, rfl⟩)
    obtain ⟨w5, hw5⟩ : ∃ w5, ((((w.alloc (.cells #[.bool false] 4)).alloc (.cells #[.int .i64 0] 3)).alloc (.cells #[.int .i64 0] 3)).alloc (.cells #[.string s] 9)).alloc (.cells #[.string s] 9) = w5 := ⟨_, rfl⟩
    have hb1 : Below (w.heap.size + 1) (w.alloc (.cells #[.bool false] 4)) w5 := by
      rw [← hw5]
      exact ((((Below.refl _ _).alloc (by simp) _).alloc (by simp) _).alloc (by simp) _).alloc (by simp) _
    have hb5 : Below w.heap.size w w5 := hb0.trans (hb1.mono (by omega))
    have hres5 : w5.heap[w.heap.size]? = some (.cells #[.bool false] 4 (0, 0)) := (hb1.block _ (by omega)).trans hres0
    have hx1 : w5.heap[w.heap.size + 1]? = some (.cells #[.int .i64 0] 3 (0, 0)) := by
      rw [← hw5]
      have := World.alloc_heap_new (w.alloc (.cells #[.bool false] 4)) (.cells #[.int .i64 0] 3)
      rw [World.size_alloc] at this
      exact (Below.heap_alloc _ _ _ (by simp)).trans ((Below.heap_alloc _ _ _ (by simp)).trans ((Below.heap_alloc _ _ _ (by simp)).trans this))
    have hx2 : w5.heap[w.heap.size + 1 + 1]? = some (.cells #[.int .i64 0] 3 (0, 0)) := by
      rw [← hw5]
      have := World.alloc_heap_new ((w.alloc (.cells #[.bool false] 4)).alloc (.cells #[.int .i64 0] 3)) (.cells #[.int .i64 0] 3)
      rw [World.size_alloc, World.size_alloc] at this
      exact (Below.heap_alloc _ _ _ (by simp)).trans ((Below.heap_alloc _ _ _ (by simp)).trans this)
    have hx4 : w5.heap[w.heap.size + 1 + 1 + 1 + 1]? = some (.cells #[.string s] 9 (0, 0)) := by
      rw [← hw5]
      have := World.alloc_heap_new ((((w.alloc (.cells #[.bool false] 4)).alloc (.cells #[.int .i64 0] 3)).alloc (.cells #[.int .i64 0] 3)).alloc (.cells #[.string s] 9)) (.cells #[.string s] 9)
      simpa only [World.size_alloc] using this
    have hs5 : w5.heap.size = w.heap.size + 5 := by rw [← hw5]; simp
    have hI0 : HoI s w w5 w5 0 := ⟨But.refl _ _, hx1, hx2, Nat.zero_le _⟩
    rw [hw5]
    have HI0 := Lib.hid hI0
    have HB5 := Lib.hid hb5
    have HR5 := Lib.hid hres5
    have HX4 := Lib.hid hx4
    clear hw5 hb1 hb5 hres5 hx1 hx2 hx4 hI0 hb0 hres0 hfn
    refine (wpIn_wide (n := 3)).1 ?_
    refine wpIn_range21 (gf := 33) (lb := #[.pointer (some ⟨w.heap.size + 1 + 1 + 1 + 1, 0, none⟩)]) rfl (enters_of Tryz.func33 (by kernel_rfl) rfl)
      (each_seq s _ w5 (fun b => b = w.heap.size + 1 ∨ b = w.heap.size + 1 + 1) HX4.out (fun b e => by omega))
      (fun b e => by omega) ?hH ?hrow 36 37 7 rfl ?hargs
      (fun k W => HoI s w w5 W k)
      (fun _ _ _ => False)
      ?hI ?hIx HI0.out ?assign ?body ?done ?stop
    case hH =>
      rintro k args W1 W' h hb
      exact h
    case hrow =>
      rintro k args W1 b _ h
      exact h.elim
    case hargs =>
      rintro k args W1 ⟨_, rfl⟩
      exact ⟨_, _, rfl⟩
    case hI =>
      rintro k W1 W' h hb
      exact ⟨h.but.trans (But.of_below hb) (fun b h1 h2 => by omega), (hb.block _ (by omega)).trans h.last, (hb.block _ (by omega)).trans h.n_, h.le⟩
    case hIx =>
      rintro c k W1 W' h hb
      exact h
    case assign =>
      intro l0 x v W1 K hK
      simp only [List.setIfInBounds_toArray, List.set_cons_zero, List.set_cons_succ] at hK ⊢
      gi_wp2
      exact hK
    case body =>
      rintro l0 q x v W1 hsz hI ⟨hq, e⟩
      simp only [Array.mk.injEq, List.cons.injEq, and_true] at e
      obtain ⟨rfl, rfl⟩ := e
      simp only [List.setIfInBounds_toArray, List.set_cons_zero, List.set_cons_succ]
      have k1 : W1.cell? ⟨w.heap.size + 1, 0, none⟩ = some (.int .i64 (posK s (q - 1) : Int)) := cell_of_heap hI.last 0
      have f1 := frozen_of_heap hI.last 0
      have k2 : W1.cell? ⟨w.heap.size + 1 + 1, 0, none⟩ = some (.int .i64 (q : Int)) := cell_of_heap hI.n_ 0
      have f2 := frozen_of_heap hI.n_ 0
      have hc1 := cntS_le s
      have hmono : posK s (q - 1) ≤ posK s q := pos_mono s (by omega)
      have hstep : 0 < q → posK s (q - 1) < posK s q := fun h0 => by
        have := posK_step (cntS_lt (s := s) (j := q - 1) (by omega))
        rwa [show q - 1 + 1 = q by omega] at this
      have hp3 : posK s q ≤ s.size := posK_le s q
      have hb : But (fun b => b = w.heap.size + 1 ∨ b = w.heap.size + 1 + 1) W1 ((W1.setCell ⟨w.heap.size + 1, 0, none⟩ (.int .i64 (posK s q : Int))).setCell ⟨w.heap.size + 1 + 1, 0, none⟩ (.int .i64 ((q : Int) + 1))) := ((But.refl _ _).set ⟨w.heap.size + 1, 0, none⟩ _ (.inl (.inl rfl))).set ⟨w.heap.size + 1 + 1, 0, none⟩ _ (.inl (.inr rfl))
      have hr1 := heap_setCells (i := 0) (u := .int .i64 (posK s q : Int)) hI.last
      have hr2 := heap_setCells (i := 0) (u := .int .i64 ((q : Int) + 1)) hI.n_
      have HBb := Lib.hid (hb.mono (fun b _ e => Or.inl e) : But (fun b => (b = w.heap.size + 1 ∨ b = w.heap.size + 1 + 1) ∨ rowE #[.int .i64 (posK s q : Int), .int .i32 (runeK s q : Int)] b) W1 _)
      have HP : Hid (HoI s w w5 ((W1.setCell ⟨w.heap.size + 1, 0, none⟩ (.int .i64 (posK s q : Int))).setCell ⟨w.heap.size + 1 + 1, 0, none⟩ (.int .i64 ((q : Int) + 1))) (q + 1)) := Lib.hid ⟨hI.but.trans hb (fun b _ e => e),
        (Below.heap_setCell _ ⟨w.heap.size + 1 + 1, 0, none⟩ _ _ (by simp)).trans hr1,
        by
          have h1 : (W1.setCell ⟨w.heap.size + 1, 0, none⟩ (.int .i64 (posK s q : Int))).heap[w.heap.size + 1 + 1]? = some (.cells #[.int .i64 (q : Int)] 3 (0, 0)) := (Below.heap_setCell _ ⟨w.heap.size + 1, 0, none⟩ _ _ (by simp)).trans hI.n_
          rw [show ((q + 1 : Nat) : Int) = (q : Int) + 1 by omega]
          exact heap_setCells (i := 0) (u := .int .i64 ((q : Int) + 1)) h1, hq⟩
      obtain ⟨p0, hp0⟩ : ∃ p0, posK s (q - 1) = p0 := ⟨_, rfl⟩
      obtain ⟨p1, hp1⟩ : ∃ p1, posK s q = p1 := ⟨_, rfl⟩
      rw [hp0] at k1 hmono hstep
      rw [hp1] at hmono hstep HBb HP hp3 ⊢
      have hlt : ¬ (p1 : Int) < (p0 : Int) := by omega
      clear hb hr1 hr2 hp0 hp1 hI
      by_cases hq0 : q = 0
      · have hq1 : ¬ (0 : Int) < (q : Int) := by omega
        clear hq0 hstep
        gi_wp2
        exact ⟨trivial, HBb.out, HP.out⟩
      · have hq1 : (0 : Int) < (q : Int) := by omega
        have hst := hstep (by omega)
        have hne : ((p1 : Int) == (p0 : Int)) = false := by simp; omega
        clear hq0 hstep hst
        gi_wp2
        exact ⟨trivial, HBb.out, HP.out⟩
    case done =>
      rintro k W1 hk hI hD
      have hbw : Below w.heap.size w W1 := HB5.out.trans (hI.but.to_below (n := w.heap.size) HB5.out.size (fun b e => by omega))
      have hrW : W1.heap[w.heap.size]? = some (.cells #[.bool false] 4 (0, 0)) := hI.but.box HR5.out (by omega)
      have hnW : ∀ W, Below W1.heap.size W1 W → W.cell? ⟨w.heap.size + 1 + 1, 0, none⟩ = some (.int .i64 (k : Int)) := fun W hb => cell_of_heap ((hb.block _ (Array.getElem?_eq_some_iff.1 hI.n_).1).trans hI.n_) 0
      have hDl := (Array.getElem?_eq_some_iff.1 hD).1
      subst hk
      have c15 : ∀ W, Calls Tryz.prog 15 #[.string s] W fun e w' => e = .returned (.int .i64 (cntS s : Int)) ∧ Below W.heap.size W w' := fun W => Len_any s W (by omega)
      have c16 : ∀ W, Calls Tryz.prog 16 #[.string s, .int .i64 (cntS s : Int)] W fun e w' => e = .returned (.string s) ∧ Below W.heap.size W w' := fun W => by
        have hc := cntS_le s
        have h := Cut_any s (cntS s : Int) W (by omega) (by omega) (by omega)
        rwa [cut_all] at h
      have hk0 : 0 < s.size → cntS s ≠ 0 := fun h0 e => by
        have h1 := cntS_end s
        rw [e] at h1
        have h2 : posK s 0 = 0 := rfl
        omega
      have hkc := cntS_le s
      obtain ⟨K, hK⟩ : ∃ K, cntS s = K := ⟨_, rfl⟩
      rw [hK] at c15 c16 hnW hk0 hkc
      have HC15 := Lib.hid c15
      have HC16 := Lib.hid c16
      have HNW := Lib.hid hnW
      have HBW := Lib.hid hbw
      have HRW := Lib.hid hrW
      have HD := Lib.hid hD
      have q0 := hnW W1 (Below.refl _ _)
      have q0d := hnW W1.drew (Below.refl _ _).drew
      have HS5 := Lib.hid hs5
      clear hK c15 c16 hnW hbw hrW hD hI HI0 HB5 HR5 HX4 hs5
      go_upto_region 12 with fail
      go_cut [72] from 53 to 72 (fun s72 wx => s72 = .bool false ∧ Hid (Below W1.heap.size W1 wx))
      case first =>
        by_cases hz : (0 : Int) < (s.size : Int)
        · have hne : ((K : Int) == 0) = false := by have := hk0 (by omega); simp; omega
          have hd : decide ((0 : Int) < (s.size : Int)) = true := decide_eq_true hz
          have hd2 : decide (0 < s.size) = true := decide_eq_true (by omega)
          clear hk0 hz
          refine wp_dead ?_
          go_region_held_law (fun W => W.cell? ⟨w.heap.size + 1 + 1, 0, none⟩ = some (.int .i64 (K : Int)))
            (first | exact q2 | exact q1 | exact q0d | exact q0)
            (first
            | (go_at_call 15; (with_reducible refine (HC15.out _).mono ?_); rintro e w6 ⟨rfl, hb6⟩; have HB6 : Hid (Below W1.heap.size W1 w6) := Lib.hid ((Below.refl _ _).drew.trans hb6); have q1 := HNW.out w6 HB6.out; clear hb6)
            | (go_at_call 16; (with_reducible refine (HC16.out _).mono ?_); rintro e w7 ⟨rfl, hb7⟩; have HB7 : Hid (Below W1.heap.size W1 w7) := Lib.hid (HB6.out.trans (hb7.mono HB6.out.size)); have q2 := HNW.out w7 HB7.out; clear hb7))
          all_goals
            go_wp2
            go_meet
            exact ⟨rfl, HB7⟩
        · have hd : decide ((0 : Int) < (s.size : Int)) = false := decide_eq_false hz
          have hd2 : decide (0 < s.size) = false := decide_eq_false (by omega)
          clear hk0
          refine wp_dead ?_
          go_region_with (first
            | (go_at_call 15; (with_reducible refine (HC15.out _).mono ?_); rintro e w6 ⟨rfl, hb6⟩; have HB6 : Hid (Below W1.heap.size W1 w6) := Lib.hid ((Below.refl _ _).drew.trans hb6); have q1 := HNW.out w6 HB6.out; clear hb6)
            | (go_at_call 16; (with_reducible refine (HC16.out _).mono ?_); rintro e w7 ⟨rfl, hb7⟩; have HB7 : Hid (Below W1.heap.size W1 w7) := Lib.hid (HB6.out.trans (hb7.mono HB6.out.size)); have q2 := HNW.out w7 HB7.out; clear hb7))
          all_goals
            go_wp2
            go_meet
            exact ⟨rfl, HB7⟩
      case rest =>
        obtain ⟨rfl, HB⟩ := hcut
        have hlim : (quoteS (strL s)).length ≤ 10000000 := by
          have h1 := quoteL_len (strL s)
          have h2 := strL_length s
          unfold quoteS
          rw [List.length_append]
          simp only [List.length_cons, List.length_nil]
          omega
        have hq : ∀ W, Calls Tryz.prog 28 #[.string s] W fun e w' => e = .returned (.string (strB (quoteS (strL s)))) ∧ Below W.heap.size W w' := fun W => Quote_any s W (by omega)
        have hu : ∀ W, LaysT W → Calls Tryz.prog 29 #[.string (strB (quoteS (strL s)))] W fun e w' => e = .returned (.tuple #[.string s, .int .i64 0]) ∧ Below W.heap.size W w' := fun W hW => by
          have h := Unq_yes (strL s) W hlim hW
          rwa [strB_strL] at h
        obtain ⟨QS, hQS⟩ : ∃ QS, strB (quoteS (strL s)) = QS := ⟨_, rfl⟩
        rw [hQS] at hq hu
        have hf1 : ∀ W, Calls Tryz.prog 18 #[.string s] W fun e w' => e = .returned (.string (foldS s)) ∧ Below W.heap.size W w' := fun W => Fold_any s W (by omega)
        have hf2 : ∀ W, Calls Tryz.prog 18 #[.string (foldS s)] W fun e w' => e = .returned (.string (foldS s)) ∧ Below W.heap.size W w' := fun W => by
          have h := Fold_any (foldS s) W (by rw [fold_size]; omega)
          rwa [fold_fold] at h
        have hc1 : ∀ W, LaysT W → Calls Tryz.prog 21 #[.string s] W fun e w' => e = .returned (.int .i64 (checkN s)) ∧ Below W.heap.size W w' := fun W hW => Check_any s W (by omega) hW
        have hc2 : ∀ W, LaysT W → Calls Tryz.prog 21 #[.string (foldS s)] W fun e w' => e = .returned (.int .i64 (checkN s)) ∧ Below W.heap.size W w' := fun W hW => by
          have h := Check_any (foldS s) W (by rw [fold_size]; omega) hW
          rwa [check_fold] at h
        obtain ⟨F, hF⟩ : ∃ F, foldS s = F := ⟨_, rfl⟩
        obtain ⟨C, hC⟩ : ∃ C, checkN s = C := ⟨_, rfl⟩
        rw [hF] at hf1 hf2 hc2
        rw [hC] at hc1 hc2
        have hln : ∀ W, LaysT W → Calls Tryz.prog 26 #[.string s, .int .i64 (N : Int)] W fun e w' => ∃ A c, e = .returned (.tuple #[.slice A (linesS N (strL s)).length c, .int .i64 0]) ∧ RowS w' (.slice A (linesS N (strL s)).length c) (linesS N (strL s)) ∧ Below W.heap.size W w' := fun W hW => by
          have h := Lines_any (strL s) N W (by rw [strL_length]; omega) hN0 hN1 hW
          rw [strB_strL] at h
          refine h.mono ?_
          rintro e w' ⟨A, c, rfl, h1, h2⟩
          exact ⟨A, c, rfl, RowS.of h1, h2⟩
        have hcn := lines_cnt (n := N) hN0 (strL s)
        have hso := solid_all (n := N) hN0 (strL s)
        have hlb := lines_size (n := N) hN0 hN1 (strL s) (by rw [strL_length]; exact hm)
        obtain ⟨LL, hLL⟩ : ∃ LL, linesS N (strL s) = LL := ⟨_, rfl⟩
        rw [hLL] at hln hcn hso hlb
        obtain ⟨M, hM⟩ : ∃ M, LL.length = M := ⟨_, rfl⟩
        rw [hM] at hln hlb
        have HQ := Lib.hid hq
        have HU := Lib.hid hu
        have HF1 := Lib.hid hf1
        have HF2 := Lib.hid hf2
        have HC1 := Lib.hid hc1
        have HC2 := Lib.hid hc2
        have HLN := Lib.hid hln
        have HCN := Lib.hid hcn
        have HSO := Lib.hid hso
        have HM := Lib.hid hM
        have HLT : Hid (∀ W, Below W1.heap.size W1 W → LaysT W) := Lib.hid fun W hb => (hL.keep HBW.out).keep hb
        obtain ⟨hlb1, hlb2⟩ := hlb
        clear hq hu hf1 hf2 hc1 hc2 hln hcn hso hM hLL hQS hF hC hlim hk0
        go_wp2_with (first
          | (go_at_call 28; (with_reducible refine (HQ.out _).mono ?_); rintro e w2 ⟨rfl, hb⟩; have HB := Lib.hid (HB.out.trans (hb.mono HB.out.size)); clear hb)
          | (go_at_call 29; (with_reducible refine (HU.out _ (HLT.out _ HB.out)).mono ?_); rintro e w3 ⟨rfl, hb⟩; have HB := Lib.hid (HB.out.trans (hb.mono HB.out.size)); clear hb)
          | (go_at_call 18; (with_reducible refine (HF1.out _).mono ?_); rintro e w4 ⟨rfl, hb⟩; have HB := Lib.hid (HB.out.trans (hb.mono HB.out.size)); clear hb)
          | (go_at_call 18; (with_reducible refine (HF2.out _).mono ?_); rintro e w5b ⟨rfl, hb⟩; have HB := Lib.hid (HB.out.trans (hb.mono HB.out.size)); clear hb)
          | (go_at_call 21; (with_reducible refine (HC1.out _ (HLT.out _ HB.out)).mono ?_); rintro e w6 ⟨rfl, hb⟩; have HB := Lib.hid (HB.out.trans (hb.mono HB.out.size)); clear hb)
          | (go_at_call 21; (with_reducible refine (HC2.out _ (HLT.out _ HB.out)).mono ?_); rintro e w6 ⟨rfl, hb⟩; have HB := Lib.hid (HB.out.trans (hb.mono HB.out.size)); clear hb)
          | (go_at_call 20; (with_reducible refine (num_any _ _).mono ?_); rintro e w' ⟨rfl, rfl⟩)
          | (go_at_call 26; (with_reducible refine (HLN.out _ (HLT.out _ HB.out)).mono ?_); rintro e w8 ⟨A, c, rfl, hr, hb⟩; have HB := Lib.hid (HB.out.trans (hb.mono HB.out.size)); have HR := Lib.hid hr; clear hb hr))
        clear HQ HU HF1 HF2 HC1 HC2 HLN
        have hstr0 : strB ((LL.take 0).flatten) = ⟨#[]⟩ := by
          rw [List.take_zero]
          decide +kernel
        go_loopw [13, 14] (fun v13 v14 wr => ∃ i : Nat, i ≤ M ∧ v13 = .string (strB ((LL.take i).flatten)) ∧ v14 = .int .i64 (i : Int) ∧ Hid (Below w8.heap.size w8 wr)) (fun _ v14 _ => M - (RowKit.intOf v14).toNat)
        case atStart => exact ⟨0, Nat.zero_le _, by rw [hstr0], rfl, Lib.hid (Below.refl _ _)⟩
        case round =>
          obtain ⟨wo, rfl⟩ : ∃ wo : World, wo = wr := ⟨_, rfl⟩
          obtain ⟨i, hi, rfl, rfl, HW⟩ := hrel
          clear hstr0
          by_cases hlt : i < M
          · have hil : i < LL.length := by have := HM.out; omega
            obtain ⟨A', c', hAc, hlc, hcl⟩ := HR.out
            rcases hcl with hcl | ⟨g, rfl, hg, hcl⟩
            · rw [hcl] at hil; simp at hil
            · injection hAc with e1 e2 e3
              subst e1 e3
              clear e2
              rw [HM.out] at hlc
              have hcf : ∀ W, Below w8.heap.size w8 W → W.cell? ⟨g, i, none⟩ = some (.string (strB LL[i])) := fun W hb => (hb.cell (p := ⟨g, i, none⟩) hg).trans (hcl i hil)
              have hcnt := HCN.out LL[i] (List.getElem_mem hil)
              have hfl : (LL.take (i + 1)).flatten = (LL.take i).flatten ++ LL[i] := by rw [List.take_succ_eq_append_getElem hil, List.flatten_append, List.flatten_cons, List.flatten_nil, List.append_nil]
              have hlen := flat_len LL (i + 1)
              rw [hfl, List.length_append] at hlen
              have h15 : ∀ W, Calls Tryz.prog 15 #[.string (strB LL[i])] W fun e w' => e = .returned (.int .i64 (cntS (strB LL[i]) : Int)) ∧ Below W.heap.size W w' := fun W => Len_any _ W (by rw [strB_length]; omega)
              have hfin : strB ((LL.take i).flatten) ++ strB LL[i] = strB ((LL.take (i + 1)).flatten) := by rw [strB_join, hfl]
              have z1 : (strB ((LL.take i).flatten)).size ≤ 300000 := by rw [strB_length]; omega
              have z2 : (strB LL[i]).size ≤ 300000 := by rw [strB_length]; omega
              obtain ⟨T, hT⟩ : ∃ T, strB LL[i] = T := ⟨_, rfl⟩
              obtain ⟨S, hS⟩ : ∃ S, strB ((LL.take i).flatten) = S := ⟨_, rfl⟩
              rw [hT] at hcf hcnt h15 hfin z2
              rw [hS] at hfin z1 ⊢
              obtain ⟨q, hq⟩ : ∃ q, cntS T = q := ⟨_, rfl⟩
              rw [hq] at hcnt h15
              obtain ⟨hq0, hq1⟩ := hcnt
              have HCF := Lib.hid hcf
              have HFIN := Lib.hid hfin
              have H15 := Lib.hid h15
              have hcw := hcf _ HW.out
              clear hcf hfin h15 hT hS hq hfl hlen hcl hil hg
              go_wp2_with (go_at_call 15; (with_reducible refine (H15.out _).mono ?_); rintro e w9 ⟨rfl, hb⟩; have HW := Lib.hid (HW.out.trans (hb.mono HW.out.size)); have hcw := HCF.out _ HW.out; clear hb)
              go_roundw
              case rel => exact ⟨i + 1, by omega, by rw [← HFIN.out], by go_num, HW⟩
              case measure => simp [RowKit.intOf]; omega
          · obtain rfl : i = M := by omega
            have hall : (LL.take i).flatten = LL.flatten := by rw [List.take_of_length_le (by rw [HM.out]; exact Nat.le_refl _)]
            rw [hall]
            obtain ⟨AL, hAL⟩ : ∃ AL, LL.flatten = AL := ⟨_, rfl⟩
            rw [hAL] at hlb2 ⊢
            have HALL := Lib.hid hAL
            obtain ⟨SA, hSA⟩ : ∃ SA, strB AL = SA := ⟨_, rfl⟩
            have hsa : SA.size = AL.length := by rw [← hSA, strB_length]
            obtain ⟨l, hl⟩ : ∃ l, strL s = l := ⟨_, rfl⟩
            have hls : s.size = l.length := by rw [← hl, strL_length]
            have hSl : strB l = s := by rw [← hl, strB_strL]
            rw [hSA]
            have HSA := Lib.hid hSA
            have HSZ := Lib.hid hsa
            have HSL := Lib.hid hSl
            have HLS := Lib.hid hls
            have HLE := Lib.hid hl
            clear hall hAL hSA hsa hl hSl hls HCN HR
            have hstr1 : strB (solid (l.take 0)) = ⟨#[]⟩ := by
              rw [List.take_zero]
              decide +kernel
            go_wp2_with fail
            go_loopw [15, 17] (fun v15 v17 wr => ∃ k : Nat, k ≤ s.size ∧ v15 = .string (strB (solid (l.take k))) ∧ v17 = .int .i64 (k : Int) ∧ Hid (Below w8.heap.size w8 wr)) (fun _ v17 _ => s.size - (RowKit.intOf v17).toNat)
            case atStart => exact ⟨0, Nat.zero_le _, by rw [hstr1], rfl, HW⟩
            case round =>
              obtain ⟨wo2, rfl⟩ : ∃ wo2 : World, wo2 = wr := ⟨_, rfl⟩
              obtain ⟨k, hk, rfl, rfl, HW2⟩ := hrel
              clear hstr1
              by_cases hlt2 : k < s.size
              · have hkl : k < l.length := by have := HLS.out; omega
                obtain ⟨ix, sx⟩ := ix_at HSL.out hkl (by have := HLS.out; omega)
                have z1 : (strB (solid (l.take k))).size ≤ 300 := by
                  rw [strB_length]
                  have h1 := solid_len (l.take k)
                  rw [List.length_take] at h1
                  omega
                have z2 : (strB [l[k]]).size ≤ 1 := by rw [strB_length]; simp
                by_cases h32 : l[k] = 32#8
                · have hfin : Hid (strB (solid (l.take (k + 1))) = strB (solid (l.take k))) := Lib.hid (by rw [solid_no hkl h32])
                  rw [h32] at ix
                  have e0 : (32#8 : BitVec 8).toNat = 32 := rfl
                  rw [e0] at ix
                  obtain ⟨S2, hS2⟩ : ∃ S2, strB (solid (l.take k)) = S2 := ⟨_, rfl⟩
                  rw [hS2] at hfin z1 ⊢
                  clear sx h32 z2 e0 hS2
                  go_wp2_with fail
                  go_roundw
                  case rel => exact ⟨k + 1, by omega, by rw [hfin.out], by go_num, HW2⟩
                  case measure => simp [RowKit.intOf]; omega
                · have hfin : Hid (strB (solid (l.take (k + 1))) = strB (solid (l.take k)) ++ strB [l[k]]) := Lib.hid (by rw [solid_yes hkl h32, strB_join])
                  have hxn : (l[k]).toNat ≠ 32 := fun e => h32 (BitVec.eq_of_toNat_eq e)
                  obtain ⟨x, hx⟩ : ∃ x, (l[k]).toNat = x := ⟨_, rfl⟩
                  rw [hx] at ix hxn
                  have e2 : ((x : Int) == 32) = false := by simp; omega
                  obtain ⟨S2, hS2⟩ : ∃ S2, strB (solid (l.take k)) = S2 := ⟨_, rfl⟩
                  obtain ⟨T2, hT2⟩ : ∃ T2, strB [l[k]] = T2 := ⟨_, rfl⟩
                  rw [hS2] at hfin z1 ⊢
                  rw [hT2] at hfin z2 sx
                  clear h32 hxn hx hS2 hT2
                  go_wp2_with fail
                  go_roundw
                  case rel => exact ⟨k + 1, by omega, by rw [hfin.out], by go_num, HW2⟩
                  case measure => simp [RowKit.intOf]; omega
              · obtain rfl : k = s.size := by omega
                have hall : l.take s.size = l := List.take_of_length_le (by have := HLS.out; omega)
                rw [hall]
                obtain ⟨BR, hBR⟩ : ∃ BR, strB (solid l) = BR := ⟨_, rfl⟩
                rw [hBR]
                have HBR := Lib.hid hBR
                have hstr2 : strB (solid (AL.take 0)) = ⟨#[]⟩ := by
                  rw [List.take_zero]
                  decide +kernel
                obtain ⟨na, hna⟩ : ∃ na, SA.size = na := ⟨_, rfl⟩
                have hna1 : na = AL.length := by rw [← hna]; exact HSZ.out
                have hna2 : na ≤ 300000 := by omega
                have HNA := Lib.hid hna1
                clear hall hBR hna1
                go_wp2_with fail
                go_loopw [16, 18] (fun v16 v18 wr => ∃ j : Nat, j ≤ na ∧ v16 = .string (strB (solid (AL.take j))) ∧ v18 = .int .i64 (j : Int) ∧ Hid (Below w8.heap.size w8 wr)) (fun _ v18 _ => na - (RowKit.intOf v18).toNat)
                case atStart => exact ⟨0, Nat.zero_le _, by rw [hstr2], rfl, HW2⟩
                case round =>
                  obtain ⟨wo3, rfl⟩ : ∃ wo3 : World, wo3 = wr := ⟨_, rfl⟩
                  obtain ⟨j, hj, rfl, rfl, HW3⟩ := hrel
                  clear hstr2
                  by_cases hlt3 : j < na
                  · have hkl : j < AL.length := by have := HNA.out; omega
                    obtain ⟨ix, sx⟩ := ix_at HSA.out hkl (by have := HNA.out; omega)
                    have z1 : (strB (solid (AL.take j))).size ≤ 300000 := by
                      rw [strB_length]
                      have h1 := solid_len (AL.take j)
                      rw [List.length_take] at h1
                      omega
                    have z2 : (strB [AL[j]]).size ≤ 1 := by rw [strB_length]; simp
                    by_cases h32 : AL[j] = 32#8
                    · have hfin : Hid (strB (solid (AL.take (j + 1))) = strB (solid (AL.take j))) := Lib.hid (by rw [solid_no hkl h32])
                      rw [h32] at ix
                      have e0 : (32#8 : BitVec 8).toNat = 32 := rfl
                      rw [e0] at ix
                      obtain ⟨S2, hS2⟩ : ∃ S2, strB (solid (AL.take j)) = S2 := ⟨_, rfl⟩
                      rw [hS2] at hfin z1 ⊢
                      clear sx h32 z2 e0 hS2
                      go_wp2_with fail
                      go_roundw
                      case rel => exact ⟨j + 1, by omega, by rw [hfin.out], by go_num, HW3⟩
                      case measure => simp [RowKit.intOf]; omega
                    · have hfin : Hid (strB (solid (AL.take (j + 1))) = strB (solid (AL.take j)) ++ strB [AL[j]]) := Lib.hid (by rw [solid_yes hkl h32, strB_join])
                      have hxn : (AL[j]).toNat ≠ 32 := fun e => h32 (BitVec.eq_of_toNat_eq e)
                      obtain ⟨x, hx⟩ : ∃ x, (AL[j]).toNat = x := ⟨_, rfl⟩
                      rw [hx] at ix hxn
                      have e2 : ((x : Int) == 32) = false := by simp; omega
                      obtain ⟨S2, hS2⟩ : ∃ S2, strB (solid (AL.take j)) = S2 := ⟨_, rfl⟩
                      obtain ⟨T2, hT2⟩ : ∃ T2, strB [AL[j]] = T2 := ⟨_, rfl⟩
                      rw [hS2] at hfin z1 ⊢
                      rw [hT2] at hfin z2 sx
                      clear h32 hxn hx hS2 hT2
                      go_wp2_with fail
                      go_roundw
                      case rel => exact ⟨j + 1, by omega, by rw [hfin.out], by go_num, HW3⟩
                      case measure => simp [RowKit.intOf]; omega
                  · obtain rfl : j = na := by omega
                    have hall : AL.take j = AL := List.take_of_length_le (by have := HNA.out; omega)
                    have hsame : strB (solid AL) = BR := by rw [← HALL.out, HSO.out, HLE.out, HBR.out]
                    rw [hall, hsame]
                    have hb3 : Below W1.heap.size W1 wo3 := HB.out.trans (HW3.out.mono HB.out.size)
                    have h12 := hwk wo3 (HBW.out.trans (hb3.mono HBW.out.size)) ((hb3.block _ (Array.getElem?_eq_some_iff.1 HRW.out).1).trans HRW.out)
                    have h12d : Calls Tryz.prog 12 #[] wo3 fun e w' => e = .returned (.bool true) ∧ w'.heap[w.heap.size]? = some (.cells #[.bool false] 4 (0, 0)) ∧ w'.cell? ⟨w.heap.size, 0, none⟩ = some (.bool false) ∧ w'.frozen? ⟨w.heap.size, 0, none⟩ = false ∧ Below w.heap.size w w' ∧ w'.heap[w5.heap.size]? = some (.deferred (some [])) := by
                      have hd3 := (hb3.block _ hDl).trans HD.out
                      refine (works_any wo3 (HLT.out _ hb3)).mono ?_
                      rintro e w' ⟨h1, h2⟩
                      have hr3 := (hb3.block _ (Array.getElem?_eq_some_iff.1 HRW.out).1).trans HRW.out
                      have h3 := (h2.block _ (Array.getElem?_eq_some_iff.1 hr3).1).trans hr3
                      have hbw3 := HBW.out.trans (hb3.mono HBW.out.size)
                      exact ⟨h1, h3, cell_of_heap h3 0, frozen_of_heap h3 0, hbw3.trans (h2.mono hbw3.size), (h2.block _ (Array.getElem?_eq_some_iff.1 hd3).1).trans hd3⟩
                    clear hall hsame hb3 h12 HLT
                    go_wp2_with (first
                      | (go_at_call 20; (with_reducible refine (num_any _ _).mono ?_); rintro e w' ⟨rfl, rfl⟩)
                      | (go_at_call 12; (with_reducible refine h12d.mono ?_); rintro e w9 ⟨rfl, r1, r2, r3, r4, r5⟩))
                    have hw25 := HS5.out
                    have hD9 : (w9.setCell ⟨w.heap.size, 0, none⟩ (.bool true)).heap[w5.heap.size]? = some (.deferred (some [])) := (Below.heap_setCell _ ⟨w.heap.size, 0, none⟩ _ _ (by simp; omega)).trans r5
                    have h4 : ((w9.setCell ⟨w.heap.size, 0, none⟩ (.bool true)).putObj w5.heap.size (.deferred none)).cell? ⟨w.heap.size, 0, none⟩ = some (.bool true) :=
                      cell_of_heap ((World.putObj_heap_other (by omega)).trans (heap_setCells (i := 0) (u := .bool true) r1)) 0
                    have hbz : Below w.heap.size w ((w9.setCell ⟨w.heap.size, 0, none⟩ (.bool true)).putObj w5.heap.size (.deferred none)) := by
                      have h5 := r4.setCell (p := ⟨w.heap.size, 0, none⟩) (Nat.le_refl _) (.bool true)
                      exact h5.trans ((put_but _ _ _).to_below h5.size (fun b e => by omega))
                    exact retM1 (v := .bool true) rfl hD9 (by simp [results, Tryz.results11, go_sem, h4]) ⟨rfl, hbz⟩
    case stop =>
      rintro cd q W1 _ h
      exact h.elim
end Go.Proofs
namespace Go.Proofs.YtneaenplbccpmaaGreatDoor
open Go Go.ChangeShapes Go.WideShapes Go.ChangeAt Go.WideMaps Go.WideElems Go.RowKit Go.Lib Sm
set_option maxRecDepth 100000 in
theorem textHolds_lifted (os : Os) (started : os.Started) (H : Type) (enc : TypeId × Value → H) :
    ReturnsInHanded {} Tryz.checked os 11 .any (fun w args => (Rows.textHoldsSpec.pre enc Tryz.prog Tryz.f11 [] false w args ∧ laidMetH Tryz.prog laidL w) ∧ sizedMet enc Tryz.prog Tryz.f11 (OpenSpec.ofChange Rows.textHoldsSpec) false w args)
      (Rows.textHoldsSpec.post enc Tryz.prog Tryz.f11 false true false false) := by
  refine laidHanded started #[.string ByteArray.empty, .int .i64 0] (by kernel_rfl) Tryz.func11 (World.shaped_of_ZipB (by kernel_rfl) (by kernel_rfl)) (by kernel_rfl) (by kernel_rfl) (by kernel_rfl) ?_
  intro W base args ds gs before hval0 hW hL
  have hval : ∀ (j : Nat) t v, Tryz.f11.params[j]? = some t → args[j]? = some v → Value.okWide Tryz.prog W .any base t v := hval0
  have hW' := hW
  obtain ⟨p, q, hA0, hV, rfl, hfz, hnd⟩ := hW
  have hA : DataW.TrodAll enc Tryz.prog W 0 (fun _ => true) true Tryz.f11.params.toList args.toList ds p := hA0
  rw [Tryz.params11] at hA hval
  obtain ⟨v0, vs0, d0, ds0, p0, q0, hargs, rfl, rfl, h0, r0⟩ := trodAll_cons hA
  obtain ⟨v1, vs1, d1, ds1, p1, q1, rfl, rfl, rfl, h1, r1⟩ := trodAll_cons r0
  obtain ⟨rfl, rfl, rfl⟩ := trodAll_nil r1
  obtain rfl : args = #[v0, v1] := by cases args; simp_all
  obtain ⟨rfl, rfl⟩ := trodVars_none hV
  obtain ⟨s0, rfl, rfl, rfl, hs0⟩ := Go.ChangeMaps.open_string Tryz.underlying9 (hval 0 9 v0 rfl rfl) h0
  obtain ⟨a1, rfl, rfl, rfl, w1⟩ := open_int Tryz.underlying3 (hval 1 3 v1 rfl rfl) h1
  obtain ⟨lo1, up1⟩ := bd64 rfl w1
  refine (holds_law s0 a1 W hs0 lo1 up1 hL).mono fun e W' ⟨he, hb⟩ => ?_
  subst he
  exact ⟨_, rfl, law_post hW' rfl rfl rfl rfl (by kernel_rfl) (by rw [Tryz.params11]; intro t ht; simp at ht; rcases ht with rfl | rfl <;> exact ⟨by kernel_rfl, of_decide_eq_true (by kernel_rfl)⟩) hb⟩
theorem textHolds_holds : Rows.TextHoldsSaid :=
  OpenClaim.holds_of_wide 11 Tryz.f11 rfl rfl rfl rfl rfl rfl rfl ⟨rfl, rfl, rfl, rfl, rfl⟩ rfl rfl rfl rfl rfl (by kernel_rfl) Tryz.func11 (by kernel_rfl)
    (of_decide_eq_true (by kernel_rfl)) (by unfold Func.isWrapper; first | (rw [if_pos (by decide +kernel)]; kernel_rfl) | (rw [if_neg (by decide +kernel)]; exact ⟨rfl, rfl⟩))
    (fun os started H enc _ => textHolds_lifted os started H enc)
/-- the card -/
theorem textHolds_card : Rows.TextHoldsCardSaid :=
  Claim7.holds_tied_plain_at .later [] [.data, .data, .data, .data, .sentinel, .sentinel, .pinned] true (true, "ed007c98b8e6bbfba8db0ed1f540fab899121459d0b3226e22db2c0e1694eb46") true
    textHolds_holds (fun _ h => by cases h) (by kernel_rfl) (fun _ h => by cases h) textHolds_row_tie rfl ⟨rfl, rfl⟩ (by kernel_rfl) rfl
    (fun f fn hf hfn => by
      obtain rfl : f = 11 := Option.some.inj ((show Tryz.prog.funcNamed "antiphon/antiphonlaw03.TextHolds" = some 11 by kernel_rfl).symm.trans hf) |>.symm
      obtain rfl : fn = Tryz.f11 := (Option.some.inj (Tryz.func11.symm.trans hfn)).symm
      exact ⟨by kernel_rfl, fun j t ht => by
        rw [Tryz.params11] at ht
        have hm : t ∈ [9, 3] := by simpa using Array.mem_of_getElem? ht
        have hall : ([9, 3].all fun u => !Tryz.prog.wantsStandIn u) = true := by kernel_rfl
        exact (show Tryz.prog.wantsStandIn t = false by simpa using List.all_eq_true.1 hall t hm)⟩)
    (by kernel_rfl)
end Go.Proofs.YtneaenplbccpmaaGreatDoor
