/-
  within, isAnywhere, isLink, link, picked, none, noLink and what they make. Conditions: as each theorem names them.
-/
import Derived.Laws.EntriesVeiled
import Derived.RangeFuncRecord
import Derived.Test.YtkipjlcbmiagcaaNtB
namespace Go.Proofs
open Go Go.RowKit Sm Go.Lib Go.Maps Go.WideMaps
attribute [local go_sem] Oper.semAt_some
def Sm.wiB (a b c : Int) : Bool := decide (a ≤ b) && decide (b ≤ c)
theorem Sm.within_any (a b c : Int) (w : World) : Calls Try.prog 53 #[.int .i64 a, .int .i64 b, .int .i64 c] w fun e w' => e = .returned (.bool (wiB a b c)) ∧ Below w.heap.size w w' := by
  unfold wiB
  by_cases h1 : a ≤ b
  · by_cases h2 : b ≤ c
    · go_enter Try.func53, Try.ntmps53
      go_wp2
      go_ret
      exact ⟨by simp [h1, h2], Below.refl _ _⟩
    · go_enter Try.func53, Try.ntmps53
      go_wp2
      go_ret
      exact ⟨by simp [h2], Below.refl _ _⟩
  · go_enter Try.func53, Try.ntmps53
    go_wp2
    go_ret
    exact ⟨by simp; omega, Below.refl _ _⟩
def Sm.anyB (a b : Int) : Bool := decide (a = -1) && decide (b = -1)
theorem Sm.isAnywhere_any (a b : Int) (w : World) : Calls Try.prog 63 #[.int .i64 a, .int .i64 b] w fun e w' => e = .returned (.bool (anyB a b)) ∧ Below w.heap.size w w' := by
  unfold anyB
  by_cases h1 : a = -1
  · subst h1
    by_cases h2 : b = -1
    · subst h2
      go_enter Try.func63, Try.ntmps63
      go_wp2
      go_ret
      exact ⟨by rfl, Below.refl _ _⟩
    · have h3 : (b == -1) = false := by simpa using h2
      go_enter Try.func63, Try.ntmps63
      go_wp2
      go_ret
      exact ⟨by simp [h2], Below.refl _ _⟩
  · have h3 : (a == -1) = false := by simpa using h1
    go_enter Try.func63, Try.ntmps63
    go_wp2
    go_ret
    exact ⟨by simp [h1], Below.refl _ _⟩
def Sm.lnkB (s : NSt) (a b : Int) : Bool := wiB 0 a (s.ends - 1) && wiB 0 b (s.ends - 1)
theorem Sm.isLink_any {p Mb base : Nat} {s : NSt} {D : List (Int × Int)} {A : Option Addr} {cap : Nat} {L : List MsgM} (a b : Int) (w : World) (h : NAt w p Mb base s D A cap L) :
    Calls Try.prog 61 #[.pointer (some ⟨p, 0, none⟩), .int .i64 a, .int .i64 b] w fun e w' => e = .returned (.bool (lnkB s a b)) ∧ Below w.heap.size w w' := by
  have h0 := within_any 0 a (s.ends - 1) w
  have HW := Lib.hid (fun W => within_any 0 b (s.ends - 1) W)
  have HH := Lib.hid h
  have c0 := cell_of_heap h.blk 0
  simp only [List.getElem?_toArray, List.getElem?_cons_zero] at c0
  have hl := h.lim.1
  have hl2 := h.lim.2.1
  obtain ⟨R, hR⟩ : ∃ R, s.ends = R := ⟨_, rfl⟩
  unfold lnkB
  rw [hR] at c0 hl hl2 h0 HW ⊢
  clear h
  obtain ⟨b0, hb0⟩ : ∃ x, wiB 0 a (R - 1) = x := ⟨_, rfl⟩
  rw [hb0] at h0 ⊢
  cases b0 with
  | false =>
    go_enter Try.func61, Try.ntmps61
    go_wp2_with (go_at_call 53; (with_reducible refine h0.mono ?_); clear h0; rintro e w1 ⟨rfl, hb1⟩; have HB1 := Lib.hid hb1; clear hb1)
    go_ret
    exact ⟨by rfl, HB1.out⟩
  | true =>
    go_enter Try.func61, Try.ntmps61
    go_wp2_with (first
      | (go_at_call 53; (with_reducible refine h0.mono ?_); clear h0; rintro e w1 ⟨rfl, hb1⟩; have d0 := cell_of_heap ((HH.out.keep hb1).blk) 0; simp only [List.getElem?_toArray, List.getElem?_cons_zero] at d0; rw [hR] at d0; have HB1 := Lib.hid hb1; clear hb1; have h0 := HW.out w1)
      | (go_at_call 53; (with_reducible refine h0.mono ?_); clear h0; rintro e w2 ⟨rfl, hb2⟩; have HB2 := Lib.hid hb2; clear hb2))
    go_ret
    exact ⟨by rfl, HB1.out.trans (HB2.out.mono HB1.out.size)⟩
theorem Sm.link_any (num a b : Int) (v : Value) (w : World) : Calls Try.prog 69 #[.agg #[.int .i64 num, .int .i64 a, .int .i64 b, v]] w fun e w' => e = .returned (lnkV a b) ∧ Below w.heap.size w w' := by
  go_enter Try.func69, Try.ntmps69
  go_wp2
  exact bodyPost_ret (v := lnkV a b) (by simp [results, Try.results69, go_sem, lnkV]) rfl ⟨rfl, ((Below.refl _ w).alloc (Nat.le_refl _) _).alloc (by simp) _⟩
/-- which of n a pick picks -/
def Sm.pickI (pick n : Int) : Int := (Int.tmod pick n + n) % n
theorem Sm.tmod_lt {a n : Int} (hn : 0 < n) : -n < Int.tmod a n ∧ Int.tmod a n < n := by
  rcases Int.le_total 0 a with h | h
  · have h1 := Int.tmod_nonneg n h
    have h2 := Int.tmod_lt_of_pos a hn
    omega
  · have h1 := Int.tmod_nonneg n (show 0 ≤ -a by omega)
    have h2 := Int.tmod_lt_of_pos (-a) hn
    rw [Int.neg_tmod] at h1 h2
    omega
theorem Sm.picked_any (pick n : Int) (h1 : 1 ≤ n) (h2 : n ≤ 4096) (w : World) : Calls Try.prog 65 #[.int .i64 pick, .int .i64 n] w fun e w' => e = .returned (.int .i64 (pickI pick n)) ∧ Below w.heap.size w w' := by
  have h3 : (n == 0) = false := by simp; omega
  have h4 := tmod_lt (a := pick) (n := n) (by omega)
  unfold pickI
  obtain ⟨m, hm⟩ : ∃ m, Int.tmod pick n = m := ⟨_, rfl⟩
  go_enter Try.func65, Try.ntmps65
  go_wp2
  rw [hm]
  go_ret
  exact ⟨by rfl, Below.refl _ _⟩
theorem Sm.bel2 (w : World) (o1 o2 : Obj) : Below w.heap.size w ((w.alloc o1).alloc o2) := ((Below.refl _ w).alloc (Nat.le_refl _) _).alloc (by simp) _
theorem Sm.bel4 (w : World) (o1 o2 o3 o4 : Obj) : Below w.heap.size w ((((w.alloc o1).alloc o2).alloc o3).alloc o4) := ((((Below.refl _ w).alloc (Nat.le_refl _) _).alloc (by simp) _).alloc (by simp; omega) _).alloc (by simp; omega) _
theorem Sm.old_alloc {w : World} {b : Nat} {x : Obj} (o : Obj) (h : w.heap[b]? = some x) : (w.alloc o).heap[b]? = some x := (((Below.refl w.heap.size w).alloc (Nat.le_refl _) o).block _ (Array.getElem?_eq_some_iff.1 h).1).trans h
theorem Sm.new_alloc {w : World} {b : Nat} (o : Obj) (h : b = w.heap.size) : (w.alloc o).heap[b]? = some o := by rw [h]; exact World.alloc_heap_new w o
theorem Sm.none_any (r : Option Addr) (w : World) : Calls Try.prog 33 #[.pointer r] w fun e w' => e = .returned (.agg #[.func (.func 59) #[] #[.pointer (some ⟨w.heap.size, 0, none⟩)], .int .i64 1]) ∧ w'.heap[w.heap.size]? = some (.cells #[.pointer r] 25 (0, 0)) ∧ Below w.heap.size w w' := by
  go_enter Try.func33, Try.ntmps33
  go_wp2
  refine bodyPost_ret (v := .agg #[.func (.func 59) #[] #[.pointer (some ⟨w.heap.size, 0, none⟩)], .int .i64 1]) ?_ rfl ⟨rfl, old_alloc _ (new_alloc _ rfl), bel2 _ _ _⟩
  simp [results, Try.results33, go_sem]
theorem Sm.noLink_any (r : Option Addr) (a b : Int) (w : World) : Calls Try.prog 34 #[.pointer r, .int .i64 a, .int .i64 b] w fun e w' => e = .returned (.agg #[.func (.func 60) #[] #[.pointer (some ⟨w.heap.size, 0, none⟩), .pointer (some ⟨w.heap.size + 1, 0, none⟩), .pointer (some ⟨w.heap.size + 2, 0, none⟩)], .int .i64 2]) ∧ w'.heap[w.heap.size]? = some (.cells #[.pointer r] 25 (0, 0)) ∧
    w'.heap[w.heap.size + 1]? = some (.cells #[.int .i64 a] 3 (0, 0)) ∧ w'.heap[w.heap.size + 2]? = some (.cells #[.int .i64 b] 3 (0, 0)) ∧ Below w.heap.size w w' := by
  go_enter Try.func34, Try.ntmps34
  go_wp2
  refine bodyPost_ret (v := .agg #[.func (.func 60) #[] #[.pointer (some ⟨w.heap.size, 0, none⟩), .pointer (some ⟨w.heap.size + 1, 0, none⟩), .pointer (some ⟨w.heap.size + 2, 0, none⟩)], .int .i64 2]) ?_ rfl ⟨rfl, old_alloc _ (old_alloc _ (old_alloc _ (new_alloc _ rfl))), old_alloc _ (old_alloc _ (new_alloc _ (by simp))), old_alloc _ (new_alloc _ (by simp)), bel4 _ _ _ _ _⟩
  simp [results, Try.results34, go_sem]
theorem Sm.none1_yes {p Mb base : Nat} {s : NSt} {D : List (Int × Int)} {A : Option Addr} {cap : Nat} {L : List MsgM} (b : Nat) (w : World) (h : NAt w p Mb base s D A cap L) (hb : w.heap[b]? = some (.cells #[.pointer (some ⟨p, 0, none⟩)] 25 (0, 0))) :
    Calls Try.prog 59 #[.pointer (some ⟨b, 0, none⟩)] w fun e w' => e = .returned (.bool false) ∧ Below w.heap.size w w' := by
  have ht := there_yes w h
  have c0 := cell_of_heap hb 0
  simp only [List.getElem?_toArray, List.getElem?_cons_zero] at c0
  clear h hb
  go_enter Try.func59, Try.ntmps59
  go_wp2_with (go_at_call 42; (with_reducible refine ht.mono ?_); rintro e w' ⟨rfl, rfl⟩)
  go_ret
  exact ⟨by rfl, Below.refl _ _⟩
theorem Sm.none1_no {v : Value} (b : Nat) (w : World) (h : NoNet w v) (hb : w.heap[b]? = some (.cells #[v] 25 (0, 0))) :
    Calls Try.prog 59 #[.pointer (some ⟨b, 0, none⟩)] w fun e w' => e = .returned (.bool true) ∧ Below w.heap.size w w' := by
  have ht := there_no w h
  have c0 := cell_of_heap hb 0
  simp only [List.getElem?_toArray, List.getElem?_cons_zero] at c0
  clear h hb
  go_enter Try.func59, Try.ntmps59
  go_wp2_with (go_at_call 42; (with_reducible refine ht.mono ?_); rintro e w' ⟨rfl, rfl⟩)
  go_ret
  exact ⟨by rfl, Below.refl _ _⟩
theorem Sm.noLink1_any {p Mb base : Nat} {s : NSt} {D : List (Int × Int)} {A : Option Addr} {cap : Nat} {L : List MsgM} (b1 b2 b3 : Nat) (x y : Int) (w : World) (h : NAt w p Mb base s D A cap L) (h1 : w.heap[b1]? = some (.cells #[.pointer (some ⟨p, 0, none⟩)] 25 (0, 0)))
    (h2 : w.heap[b2]? = some (.cells #[.int .i64 x] 3 (0, 0))) (h3 : w.heap[b3]? = some (.cells #[.int .i64 y] 3 (0, 0))) :
    Calls Try.prog 60 #[.pointer (some ⟨b1, 0, none⟩), .pointer (some ⟨b2, 0, none⟩), .pointer (some ⟨b3, 0, none⟩)] w fun e w' => e = .returned (.bool (!(lnkB s x y))) ∧ Below w.heap.size w w' := by
  have ht := isLink_any x y w h
  have c0 := cell_of_heap h1 0
  have d0 := cell_of_heap h2 0
  have e0 := cell_of_heap h3 0
  simp only [List.getElem?_toArray, List.getElem?_cons_zero] at c0 d0 e0
  obtain ⟨B, hB⟩ : ∃ B, lnkB s x y = B := ⟨_, rfl⟩
  rw [hB] at ht ⊢
  clear h h1 h2 h3 hB
  go_enter Try.func60, Try.ntmps60
  go_wp2_with (go_at_call 61; (with_reducible refine ht.mono ?_); rintro e w1 ⟨rfl, hb1⟩; have HB1 := Lib.hid hb1; clear hb1)
  go_ret
  exact ⟨by rfl, HB1.out⟩
end Go.Proofs
