/-
  The program's Lines: what it answers. Conditions: as each theorem names them.
-/
import Derived.Test.YtneaenplbccpmaaGreatDoorTxF2
namespace Go.Proofs
open Go Go.RowKit Sm Go.Lib
attribute [local go_sem] Oper.semAt_some
instance (l : List (BitVec 8)) (n k : Nat) : Decidable (fits l n k) := inferInstanceAs (Decidable (_ ∧ _))
def Sm.fillF (l : List (BitVec 8)) (n : Nat) : Nat → Nat → Nat
  | 0, k => k
  | f + 1, k => if fits l n k then fillF l n f (k + 1) else k
/-- how many pieces a line takes -/
def Sm.fillN (l : List (BitVec 8)) (n : Nat) : Nat := fillF l n l.length 0
theorem Sm.fillF_eq {l : List (BitVec 8)} {n m : Nat} (h1 : ∀ i, i < m → fits l n i) (h2 : ¬ fits l n m) : ∀ f k, k ≤ m → m ≤ k + f → fillF l n f k = m
  | 0, k, hk, hf => by unfold fillF; omega
  | f + 1, k, hk, hf => by
    unfold fillF
    by_cases e : k = m
    · rw [if_neg (e ▸ h2)]; exact e
    · rw [if_pos (h1 k (by omega))]
      exact fillF_eq h1 h2 f (k + 1) (by omega) (by omega)
theorem Sm.fill_m {l : List (BitVec 8)} {n m : Nat} (hn : 0 < n) (h1 : ∀ i, i < m → fits l n i) : m + (leftK l n m).length ≤ l.length := by
  have h3 := sum_k l n hn m (fun i hi => (h1 i hi).1)
  have h4 := sum_left l n m
  omega
theorem Sm.fillN_eq {l : List (BitVec 8)} {n m : Nat} (hn : 0 < n) (h1 : ∀ i, i < m → fits l n i) (h2 : ¬ fits l n m) : m = fillN l n :=
  (fillF_eq h1 h2 l.length 0 (Nat.zero_le _) (by have := fill_m hn h1; omega)).symm
/-- the lines of a text that no blank leads -/
def Sm.linesF (n : Nat) : Nat → List (BitVec 8) → List (List (BitVec 8))
  | 0, _ => []
  | f + 1, l => if l = [] then [] else joinL (piecesK l n (fillN l n)) :: linesF n f (leftK l n (fillN l n))
/-- the lines of a text -/
def Sm.linesS (n : Nat) (s : List (BitVec 8)) : List (List (BitVec 8)) := linesF n (s.length + 1) (bl s)
theorem Sm.bl_bl (l : List (BitVec 8)) : bl (bl l) = bl l := by
  cases h : bl l with
  | nil => rfl
  | cons b r =>
    have hb := bl_head h
    unfold bl
    rw [List.dropWhile_cons_of_neg (by simpa using hb)]
theorem Sm.leftK_bl (l : List (BitVec 8)) (n k : Nat) : bl (leftK l n k) = leftK l n k := by
  cases k with
  | zero => exact bl_bl l
  | succ k => exact bl_bl _
set_option maxRecDepth 100000 in
theorem Sm.wide_any (n : Int) (p : Nat) (w : World) (h : Box1 w p (.int .i64 n) 3) :
    Calls Tryz.prog 48 #[.pointer (some ⟨p, 0, none⟩)] w fun e w' => e = .returned (.bool (decide (n < 1) || decide (200 < n))) ∧ Below w.heap.size w w' := by
  have c1 := h.cell
  clear h
  by_cases h1 : n < 1
  · go_enter Tryz.func48, Tryz.ntmps48
    go_wp2
    go_ret
    exact ⟨by simp [h1], Below.refl _ _⟩
  · go_enter Tryz.func48, Tryz.ntmps48
    go_wp2
    go_ret
    exact ⟨by simp; intro h; omega, Below.refl _ _⟩
/-- what first answers of Lines' two flaws -/
def Sm.linesE (s : ByteArray) (n : Int) : Int := if n < 1 ∨ 200 < n then 2 else if 1048576 < (s.size : Int) then 3 else 0
theorem Sm.first_two (s : ByteArray) (n : Int) (w w1 w3 : World) (hw1 : w.alloc (.cells #[.int .i64 n] 3) = w1) (y0 : Box1 w3 w1.heap.size (.string s) 9) (y1 : Box1 w3 (w1.heap.size + 1) (.int .i64 1048576) 3) (hb3 : Below w1.heap.size w1 w3) :
    Calls Tryz.prog 38 #[.slice (some ⟨w3.heap.size, 0, none⟩) 2 2]
      (w3.alloc (.cells #[.func (.func 48) #[] #[.pointer (some ⟨w.heap.size, 0, none⟩)], .int .i64 2, .func (.func 61) #[] #[.pointer (some ⟨w1.heap.size, 0, none⟩), .pointer (some ⟨w1.heap.size + 1, 0, none⟩)], .int .i64 3] 59))
      fun e w' => e = .returned (.int .i64 (linesE s n)) ∧ Below w1.heap.size w1 w' := by
  have l0 := y0.lt
  have l1 := y1.lt
  have hx : Box1 w1 w.heap.size (.int .i64 n) 3 := hw1 ▸ Box1.new w _ _
  have hx3 := hx.keep hb3 hx.lt
  have lx := hx3.lt
  obtain ⟨w4, hw4⟩ : ∃ w4, w3.alloc (.cells #[.func (.func 48) #[] #[.pointer (some ⟨w.heap.size, 0, none⟩)], .int .i64 2, .func (.func 61) #[] #[.pointer (some ⟨w1.heap.size, 0, none⟩), .pointer (some ⟨w1.heap.size + 1, 0, none⟩)], .int .i64 3] 59) = w4 := ⟨_, rfl⟩
  have hb4 : Below w3.heap.size w3 w4 := by rw [← hw4]; exact (Below.refl _ w3).alloc (Nat.le_refl _) _
  have hs4 : w3.heap.size < w4.heap.size := by rw [← hw4]; simp
  have hb04 : Below w1.heap.size w1 w4 := hb3.trans (hb4.mono hb3.size)
  have hc : ∀ j v, [(.func (.func 48) #[] #[.pointer (some ⟨w.heap.size, 0, none⟩)] : Value), .int .i64 2, .func (.func 61) #[] #[.pointer (some ⟨w1.heap.size, 0, none⟩), .pointer (some ⟨w1.heap.size + 1, 0, none⟩)], .int .i64 3][j]? = some v → w4.cell? ⟨w3.heap.size, j, none⟩ = some v := by
    intro j v hj
    rw [← hw4, cell_of_heap (World.alloc_heap_new w3 _) j]
    simpa using hj
  rw [hw4]
  refine (first_any [⟨48, #[.pointer (some ⟨w.heap.size, 0, none⟩)], 2, decide (n < 1) || decide (200 < n)⟩, ⟨61, #[.pointer (some ⟨w1.heap.size, 0, none⟩), .pointer (some ⟨w1.heap.size + 1, 0, none⟩)], 3, decide (1048576 < (s.size : Int))⟩] w3.heap.size 2 w4 (by simp) hs4 hc ?_).mono ?_
  · intro f hf
    simp only [List.mem_cons, List.mem_nil_iff, or_false] at hf
    rcases hf with rfl | rfl
    · exact ⟨enters_of Tryz.func48 (by kernel_rfl) rfl, fun W hW => wide_any n _ W ((hx3.keep hb4 lx).keep hW (by omega))⟩
    · exact ⟨enters_of Tryz.func61 (by kernel_rfl) rfl, fun W hW => long_any s 1048576 _ _ W ((y0.keep hb4 l0).keep hW (by omega)) ((y1.keep hb4 l1).keep hW (by omega))⟩
  · rintro e w' ⟨rfl, hb⟩
    refine ⟨?_, hb04.trans (hb.mono hb04.size)⟩
    simp only [firstW, linesE]
    by_cases h1 : n < 1
    · simp [h1]
    · by_cases h2 : 200 < n
      · simp [h2]
      · by_cases h3 : (1048576 : Int) < (s.size : Int)
        · simp [h1, h2, h3]
        · simp [h1, h2, h3]
set_option maxRecDepth 100000 in
set_option maxHeartbeats 1000000 in
/-- a width that is none, or a text that is too long -/
theorem Sm.Lines_bad (s : ByteArray) (n : Int) (w : World) (he : linesE s n ≠ 0) (_h0 : -9223372036854775808 ≤ n) (_h9 : n ≤ 9223372036854775807) : Calls Tryz.prog 26 #[.string s, .int .i64 n] w fun e w' => e = .returned (.tuple #[.slice none 0 0, .int .i64 (linesE s n)]) ∧ Below w.heap.size w w' := by
  have hmf : ∀ (fn : Fn) (first cap : Array Value) (w : World), (Instr.makeFunc fn first cap).run Tryz.prog w = .ok (.func fn first cap) w := fun _ _ _ _ => rfl
  obtain ⟨w1, hw1⟩ : ∃ w1, w.alloc (.cells #[.int .i64 n] 3) = w1 := ⟨_, rfl⟩
  have hlg := longer_any s 1048576 w1
  have hf := fun w3 y0 y1 hb3 => first_two s n w w1 w3 hw1 y0 y1 hb3
  have hbw : Below w.heap.size w w1 := by rw [← hw1]; exact (Below.refl _ w).alloc (Nat.le_refl _) _
  obtain ⟨E, hE⟩ : ∃ E, linesE s n = E := ⟨_, rfl⟩
  rw [hE] at he hf ⊢
  have hne : (E == 0) = false := by simpa using he
  have HF := Lib.hid hf
  have HW1 := Lib.hid hw1
  have HBW := Lib.hid hbw
  clear hf hw1 hE hbw
  go_enter Tryz.func26, Tryz.ntmps26
  go_wp2_with (first
    | (go_at_call 39; rw [HW1.out]; (with_reducible refine hlg.mono ?_); clear hlg; rintro e w3 ⟨rfl, y0, y1, hb3⟩; have hfc := HF.out w3 y0 y1 hb3; clear y0 y1 hb3)
    | (go_at_call 38; (with_reducible refine hfc.mono ?_); rintro e w4 ⟨rfl, hb4⟩))
  go_ret2
  exact ⟨rfl, HBW.out.trans (hb4.mono HBW.out.size)⟩
/-- what stays through the rounds -/
structure Sm.LnI (w wr : World) (B : Nat) (n : Nat) (L ls : List (List (BitVec 8))) (x : List (BitVec 8)) (f : Nat) (v : Value) (N : Nat) : Prop where
  low : Below w.heap.size w wr
  bx : wr.heap[B]? = some (.cells #[v] 40 (0, 0))
  wd : Box1 wr w.heap.size (.int .i64 (n : Int)) 3
  row : wr.ownsRow (B + 1) 9 1 v ls.length (strC ls)
  fuel : x.length < f
  res : ls ++ linesF n f x = L
  blk : bl x = x
  cnt : ls.length + x.length ≤ N
theorem Sm.LnI.next {w wr wr2 : World} {B n N f m : Nat} {L ls : List (List (BitVec 8))} {x : List (BitVec 8)} {v : Value} (h : LnI w wr B n L ls x f v N) (hn : 0 < n) (hB : w.heap.size < B) (hx : x ≠ []) (h1 : ∀ i, i < m → fits x n i) (h2 : ¬ fits x n m) (h0 : 0 < m) (hq : PutQ (B + 1) B ls (joinL (piecesK x n m)) v wr wr2) :
    ∃ v' f', LnI w wr2 B n L (ls ++ [joinL (piecesK x n m)]) (leftK x n m) f' v' N ∧ (leftK x n m).length < x.length := by
  obtain ⟨v', q1, q2, q3, q4⟩ := hq
  have hm := fill_m hn h1
  have he := fillN_eq hn h1 h2
  have hvB : ∀ g, v.ownBlock = some g → B + 1 ≤ g := fun g e => (h.row.lt g e).1
  cases f with
  | zero => exact absurd h.fuel (by omega)
  | succ f =>
    have hr := h.res
    have hfu := h.fuel
    have hcn := h.cnt
    unfold linesF at hr
    rw [if_neg hx, ← he] at hr
    refine ⟨v', f, ⟨h.low.trans (q3.to_below (n := w.heap.size) h.low.size (fun b e => ?_)), q1, q3.box h.wd (fun e => ?_), ?_, by omega, ?_, leftK_bl x n m, ?_⟩, by omega⟩
    · rcases e with e | e
      · omega
      · have := hvB b e; omega
    · rcases e with e | e
      · omega
      · have := hvB _ e; omega
    · rw [List.length_append]; exact q2
    · rw [List.append_assoc]; exact hr
    · rw [List.length_append]
      show ls.length + 1 + _ ≤ N
      omega
set_option maxRecDepth 100000 in
set_option maxHeartbeats 1000000 in
theorem Sm.Lines_any (l : List (BitVec 8)) (n : Nat) (w : World) (hm : l.length ≤ 400000) (hn : 0 < n) (hn2 : n ≤ 200) (hL : LaysT w) : Calls Tryz.prog 26 #[.string (strB l), .int .i64 (n : Int)] w fun e w' =>
    ∃ A c, e = .returned (.tuple #[.slice A (linesS n l).length c, .int .i64 0]) ∧ w'.ownsRow w.heap.size 9 1 (.slice A (linesS n l).length c) (linesS n l).length (strC (linesS n l)) ∧ Below w.heap.size w w' := by
  have hmf : ∀ (fn : Fn) (first cap : Array Value) (w : World), (Instr.makeFunc fn first cap).run Tryz.prog w = .ok (.func fn first cap) w := fun _ _ _ _ => rfl
  obtain ⟨w1, hw1⟩ : ∃ w1, w.alloc (.cells #[.int .i64 (n : Int)] 3) = w1 := ⟨_, rfl⟩
  have hlg := longer_any (strB l) 1048576 w1
  have hf := fun w3 y0 y1 hb3 => first_two (strB l) n w w1 w3 hw1 y0 y1 hb3
  have hbw : Below w.heap.size w w1 := by rw [← hw1]; exact (Below.refl _ w).alloc (Nat.le_refl _) _
  have hE : linesE (strB l) n = 0 := by
    unfold linesE
    rw [if_neg (by omega), if_neg (by rw [strB_length]; omega)]
  rw [hE] at hf
  have hbb := behindBlanks_any l
  have HF := Lib.hid hf
  have HW1 := Lib.hid hw1
  have HBW := Lib.hid hbw
  have hs1 : w1.heap.size = w.heap.size + 1 := by rw [← hw1]; simp
  have hx1 : Box1 w1 w.heap.size (.int .i64 (n : Int)) 3 := hw1 ▸ Box1.new w _ _
  have HS1 := Lib.hid hs1
  have HX1 := Lib.hid hx1
  obtain ⟨LL, hLL⟩ : ∃ LL, linesS n l = LL := ⟨_, rfl⟩
  rw [hLL]
  have HLL := Lib.hid hLL
  clear hf hw1 hE hbw hs1 hx1 hLL
  go_enter Tryz.func26, Tryz.ntmps26
  go_wp2_with (first
    | (go_at_call 39; rw [HW1.out]; (with_reducible refine hlg.mono ?_); clear hlg; rintro e w3 ⟨rfl, y0, y1, hb3⟩; have hfc := HF.out w3 y0 y1 hb3; clear y0 y1 hb3)
    | (go_at_call 38; (with_reducible refine hfc.mono ?_); rintro e w4 ⟨rfl, hb4⟩)
    | (go_at_call 51; (with_reducible refine (hbb _).mono ?_); rintro e w5 ⟨rfl, rfl⟩))
  have hs1 := HS1.out
  have hs4 := hb4.size
  obtain ⟨B, hB⟩ : ∃ B, w4.heap.size = B := ⟨_, rfl⟩
  obtain ⟨V, hV⟩ : ∃ V, w4.alloc (.cells #[.slice none 0 0] 40) = V := ⟨_, rfl⟩
  have hVB : Below w4.heap.size w4 V := by rw [← hV]; exact (Below.refl _ w4).alloc (Nat.le_refl _) _
  have hVs : V.heap.size = B + 1 := by rw [← hV]; simp [hB]
  have hI0 : LnI w V B n (linesS n l) [] (bl l) (l.length + 1) (.slice none 0 0) l.length := by
    refine ⟨HBW.out.trans ((hb4.mono (by omega)).trans (hVB.mono (by omega))), ?_, (HX1.out.keep hb4 (by omega)).keep hVB (by omega), World.ownsRow_nil _ _ _ _, ?_, rfl, bl_bl l, ?_⟩
    · rw [← hV, ← hB]; exact World.alloc_heap_new _ _
    · have := bl_len l; omega
    · have := bl_len l; simp; omega
  try rw [hB]
  rw [hV]
  have HVs := Lib.hid hVs
  have hwB : w.heap.size < B := by omega
  rw [HLL.out] at hI0
  have HI0 := Lib.hid hI0
  clear hI0 hVs hVB hV hb4 hfc hmf hbb hs1 hs4 hB
  go_loopw [9] (fun v9 wr => ∃ (x : List (BitVec 8)) (ls : List (List (BitVec 8))) (v : Value) (f : Nat), v9 = .string (strB x) ∧ Hid (LnI w wr B n LL ls x f v l.length)) (fun v9 _ => strLen v9)
  case atStart => exact ⟨_, _, _, _, rfl, HI0⟩
  case round =>
    obtain ⟨wo, rfl⟩ : ∃ wo : World, wo = wr := ⟨_, rfl⟩
    obtain ⟨x, ls, v, f, rfl, HI⟩ := hrel
    clear HI0
    by_cases hz : x = []
    · have e0 : strB ([] : List (BitVec 8)) = { data := #[] } := by decide +kernel
      have hres : ls = LL := by
        have hr := HI.out.res
        have hf := HI.out.fuel
        cases f with
        | zero => omega
        | succ f =>
          unfold linesF at hr
          rw [if_pos hz, List.append_nil] at hr
          exact hr
      have hrow := HI.out.row
      rw [hres] at hrow
      obtain ⟨A, c, hvA⟩ := own_slice hrow
      subst hvA
      have b0 := cell_of_heap HI.out.bx 0
      simp only [List.getElem?_toArray, List.getElem?_cons_zero] at b0
      rw [hz, e0]
      have hrow2 : wo.ownsRow w.heap.size 9 1 (.slice A LL.length c) LL.length (strC LL) := ⟨hrow.1, hrow.2.imp id (fun ⟨g, cap, cur, e, h1, r⟩ => ⟨g, cap, cur, e, by omega, r⟩)⟩
      have HR := Lib.hid hrow2
      clear hz e0 hrow hrow2 hres
      go_wp2_with fail
      go_ret2
      exact ⟨A, c, rfl, HR.out, HI.out.low⟩
    · have hIL := HI.out.low
      have hfi := fill_any x n (B + 1) B ls v wo hz HI.out.blk (by have := HI.out.cnt; omega) hn (by omega) (hL.keep hIL) HI.out.bx HI.out.row (fun g e => by have := (HI.out.row.lt g e).1; omega) (by have := (Array.getElem?_eq_some_iff.1 HI.out.bx).1; omega) (by have := HI.out.cnt; omega)
      have hnx := fun m wr2 h1 h2 h0 hq => HI.out.next (m := m) (wr2 := wr2) hn hwB hz h1 h2 h0 hq
      have hne0 : 0 < (strB x).toList.length := by rw [ByteArray.toList_eq, list_len, strB_length]; exact List.length_pos_iff.2 hz
      have he1 : (strB x).toList.isEmpty = false := by
        cases h : (strB x).toList with
        | nil => rw [h] at hne0; simp at hne0
        | cons _ _ => rfl
      have he2 : ¬ (strB x).toList = [] := fun e => by rw [e] at hne0; simp at hne0
      have c0 := HI.out.wd.cell
      have hln := strB_length x
      have HLN := Lib.hid hln
      have HFI := Lib.hid hfi
      have HNX := Lib.hid hnx
      clear hIL hfi hnx hne0 hln
      go_wp2_with (go_at_call 52; (with_reducible refine HFI.out.mono ?_); rintro e w2 ⟨m, h1, h2, h0, rfl, hq⟩; have HN := Lib.hid (HNX.out m w2 h1 h2 h0 hq); clear h1 h2 h0 hq)
      obtain ⟨v', f', hnew, hlt⟩ := HN.out
      refine ⟨⟨_, _, v', f', rfl, Lib.hid hnew⟩, ?_⟩
      have e1 := strB_length (leftK x n m)
      have e2 := HLN.out
      show strLen _ < strLen _
      simp only [strLen]
      omega
end Go.Proofs
