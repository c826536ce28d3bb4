/-
  The contract of works: the rows of the chapter hold.
-/
import Derived.Test.YteeponciegmlcaaDoorFrD
namespace Go.Proofs
open Go.RowKit Go.Shelf Sm
def Sm.bA : List (BitVec 8) := [128#8, 0#8]
def Sm.bB : List (BitVec 8) := [5#8]
def Sm.bC : List (BitVec 8) := [2#8, 104#8]
def Sm.b3 : List (BitVec 8) := [3#8]
def Sm.b9 : List (BitVec 8) := [9#8]
theorem Sm.numS_A : numS bA 0 9 = ([], 120, 0, 120) := rfl
theorem Sm.numS_B : numS bB 0 4 = ([], 120, 0, 120) := rfl
theorem Sm.textS_C : textS bC 0 9 = ([], 120, [], 120) := rfl
theorem Sm.splitS_nil : splitS [] = ([], 0, 0) := rfl
theorem Sm.splitS_3 : splitS b3 = ([], 0, 121) := rfl
theorem Sm.splitS_9 : splitS b9 = ([], 0, 0) := rfl
def Sm.hiS : ByteArray := ⟨#[104, 105]⟩
theorem Sm.laid_hi : [] ++ numsB [300] ++ textB hiS = [172#8, 2#8, 2#8, 104#8, 105#8] := by
  have e1 : numB 300 = [172#8, 2#8] := by rw [numB_big (by decide), numB_small (by decide)]
  have e2 : numB 2 = [2#8] := numB_small (by decide)
  have e3 : strL hiS = [104#8, 105#8] := rfl
  have e4 : hiS.size = 2 := rfl
  unfold textB
  rw [e4, e2, e3]
  simp [numsB, e1]
theorem Sm.Wr.belowTo {w w' : World} {B : Nat} {v : Value} {l : List (BitVec 8)} (h : Wr w B v l) (hb : Below w.heap.size w w') : Wr w' B v l := h.below hb
theorem Sm.Split_at (l : List (BitVec 8)) (n : Nat) (A : Option Addr) (w : World) (sz : Nat) (f : Int) (hs : splitS l = ([], sz, f)) (hn : l.length = n) (hA : A = none → n = 0) (hr : Rd w w.heap.size A l) (ht : Tab w) (hbig : n ≤ 1000000) :
    Calls Tryd.prog 30 #[.slice A n n] w fun e w' => ∃ A' c', e = .returned (.tuple #[.slice A' 0 c', .int .i64 (sz : Int), .int .i64 f]) ∧ Below w.heap.size w w' := by
  refine (Split_any l n n A w hn (Nat.le_refl _) hA hr ht hbig).mono ?_
  rintro e w' ⟨⟨v, rfl, hown⟩, hb⟩
  rw [hs] at hown ⊢
  obtain ⟨A', c', rfl⟩ := own_slice hown
  exact ⟨A', c', rfl, hb⟩
set_option maxRecDepth 100000 in
set_option maxHeartbeats 8000000 in
theorem Sm.works_any (w : World) (ht : Tab w) : Calls Tryd.prog 12 #[] w fun e w' => e = .returned (.bool true) ∧ Below w.heap.size w w' := by
  have hb0 : Below w.heap.size w (w.alloc (.cells #[.slice none 0 0, .bool true] 38)) := (Below.refl _ _).alloc (Nat.le_refl _) _
  have hw0 := Wr.new w
  obtain ⟨B, hB⟩ : ∃ B, w.heap.size = B := ⟨_, rfl⟩
  have hBw : w.heap.size ≤ B := by omega
  rw [hB] at hw0
  go_enter Tryd.func12, Tryd.ntmps12
  go_wp2_with (go_at_call 13; (with_reducible refine (New_any _).mono ?_); rintro e w1 ⟨rfl, rfl⟩)
  have hs1 : (w.alloc (.cells #[.slice none 0 0, .bool true] 38)).heap.size = B + 1 := by simp [hB]
  obtain ⟨W1, hW1⟩ : ∃ W1, w.alloc (.cells #[.slice none 0 0, .bool true] 38) = W1 := ⟨_, rfl⟩
  rw [hW1] at hb0 hw0 hs1 ⊢
  have hbn : Below W1.heap.size W1 (W1.alloc (.cells #[.int .i64 300] 2)) := (Below.refl _ _).alloc (Nat.le_refl _) _
  have hone := Rds.one W1 (.int .i64 300) 2 hw0
  rw [hs1] at hone
  refine (WNumber_ok (W1.alloc (.cells #[.int .i64 300] 2)) (hw0.below hbn) [300] 1 1 _ (Lib.hid rfl) (by omega) (by decide) hone (Lib.hid (by intro x hx; simp at hx; subst hx; unfold okN; omega))).mono ?_
  rintro e w2 ⟨rfl, v2, hww2, hg2⟩
  have hbw2 : Below w.heap.size w w2 := (hb0.trans (hbn.mono hb0.size)).trans (hg2.but.to_below (n := w.heap.size) (by have := hbn.size; omega) (fun b e => by
    rcases e with e | e
    · omega
    · simp [Value.ownBlock] at e))
  clear hbn hone
  go_wp2_with fail
  refine (WText_ok w2 hww2 (by simp [numsB]; have := numB_len9 (n := 300) (by decide); omega) hiS (by decide)).mono ?_
  rintro e w3 ⟨rfl, v3, kww3, hg3⟩
  rw [laid_hi] at kww3
  have kbw3 : Below w.heap.size w w3 := hbw2.trans (hg3.but.to_below (n := w.heap.size) hbw2.size (fun b e => by
    rcases e with e | e
    · omega
    · have := (hww2.block b e).1; omega))
  have HS3 := Lib.hid (And.intro hs1 hBw)
  clear hww2 hbw2 hg2 hg3 hw0 hb0 hs1 hBw
  go_wp2_with fail
  -- bA
  have hbr1 : Below w3.heap.size w3 (w3.alloc (.cells #[.int .u8 128, .int .u8 0] 5)) := (Below.refl _ _).alloc (Nat.le_refl _) _
  refine (Read_any bA 2 2 (w3.alloc (.cells #[.int .u8 128, .int .u8 0] 5)).heap.size _ _ (Lib.hid rfl) (by omega) (Nat.le_refl _) (Rd.lit w3 _ 5 _ bA _ _ rfl (by simp) rfl)).mono ?_
  rintro e r1 ⟨R1, rfl, hr1, hR1, hbR1⟩
  go_wp2_with fail
  refine (Number_any hr1 9).mono ?_
  rintro e q1 ⟨rfl, hq1, hbq1⟩
  rw [numS_A]
  have hbz1 : Below w3.heap.size w3 q1 := hbr1.trans ((hbR1.mono hbr1.size)) |>.trans (hbq1.to_below (n := w3.heap.size) (Nat.le_trans hbr1.size hbR1.size) (fun b e => by have := hbr1.size; omega))
  have hwq1 := kww3.below hbz1
  have hbwq1 := kbw3.trans (hbz1.mono kbw3.size)
  have kwq1 := hwq1
  have kbq1 := hbwq1
  clear hbr1 hr1 hR1 hbR1 hq1 hbq1 hbz1 hwq1 hbwq1 kww3 kbw3
  go_wp2_with fail
  -- bB
  have hbr2 : Below q1.heap.size q1 (q1.alloc (.cells #[.int .u8 5] 5)) := (Below.refl _ _).alloc (Nat.le_refl _) _
  refine (Read_any bB 1 1 (q1.alloc (.cells #[.int .u8 5] 5)).heap.size _ _ (Lib.hid rfl) (by omega) (Nat.le_refl _) (Rd.lit q1 _ 5 _ bB _ _ rfl (by simp) rfl)).mono ?_
  rintro e r2 ⟨R2, rfl, hr2, hR2, hbR2⟩
  go_wp2_with fail
  refine (Number_any hr2 4).mono ?_
  rintro e q2 ⟨rfl, hq2, hbq2⟩
  rw [numS_B]
  have hbz2 : Below q1.heap.size q1 q2 := hbr2.trans ((hbR2.mono hbr2.size)) |>.trans (hbq2.to_below (n := q1.heap.size) (Nat.le_trans hbr2.size hbR2.size) (fun b e => by have := hbr2.size; omega))
  have hwq2 := kwq1.below hbz2
  have hbwq2 := kbq1.trans (hbz2.mono kbq1.size)
  have kwq2 := hwq2
  have kbq2 := hbwq2
  clear hbr2 hr2 hR2 hbR2 hq2 hbq2 hbz2 hwq2 hbwq2 kwq1 kbq1
  go_wp2_with fail
  -- bC
  have hbr3 : Below q2.heap.size q2 (q2.alloc (.cells #[.int .u8 2, .int .u8 104] 5)) := (Below.refl _ _).alloc (Nat.le_refl _) _
  refine (Read_any bC 2 2 (q2.alloc (.cells #[.int .u8 2, .int .u8 104] 5)).heap.size _ _ (Lib.hid rfl) (by omega) (Nat.le_refl _) (Rd.lit q2 _ 5 _ bC _ _ rfl (by simp) rfl)).mono ?_
  rintro e r3 ⟨R3, rfl, hr3, hR3, hbR3⟩
  go_wp2_with fail
  refine (Text_any hr3 9).mono ?_
  rintro e q3 ⟨rfl, hq3, hbq3⟩
  rw [textS_C]
  have hbz3 : Below q2.heap.size q2 q3 := hbr3.trans ((hbR3.mono hbr3.size)) |>.trans (hbq3.to_below (n := q2.heap.size) (Nat.le_trans hbr3.size hbR3.size) (fun b e => by have := hbr3.size; omega))
  have hwq3 := kwq2.below hbz3
  have hbwq3 := kbq2.trans (hbz3.mono kbq2.size)
  have kwq3 := hwq3
  have kbq3 := hbwq3
  clear hbr3 hr3 hR3 hbR3 hq3 hbq3 hbz3 hwq3 hbwq3 kwq2 kbq2
  go_wp2_with fail
  refine (Split_at [] 0 none q3 0 0 splitS_nil rfl (fun _ => rfl) Rd.nil (ht.belowTo kbq3 ht.1) (by omega)).mono ?_
  rintro e s1 ⟨A1, c1, rfl, hbs1⟩
  have hws1 := kwq3.below hbs1
  have hbws1 := kbq3.trans (hbs1.mono kbq3.size)
  clear kwq3 kbq3 hbs1
  go_wp2_with fail
  have hbl2 : Below s1.heap.size s1 (s1.alloc (.cells #[.int .u8 3] 5)) := (Below.refl _ _).alloc (Nat.le_refl _) _
  refine (Split_at b3 1 _ (s1.alloc (.cells #[.int .u8 3] 5)) 0 121 splitS_3 rfl (fun e => by simp at e) (Rd.lit s1 _ 5 _ b3 _ _ rfl (by simp) rfl) (ht.belowTo (hbws1.trans (hbl2.mono hbws1.size)) ht.1) (by omega)).mono ?_
  rintro e s2 ⟨A2, c2, rfl, hbs2⟩
  have hbm2 := hbl2.trans (hbs2.mono hbl2.size)
  have hws2 := hws1.below hbm2
  have hbws2 := hbws1.trans (hbm2.mono hbws1.size)
  clear hws1 hbws1 hbs2 hbl2 hbm2
  go_wp2_with fail
  have hbl3 : Below s2.heap.size s2 (s2.alloc (.cells #[.int .u8 9] 5)) := (Below.refl _ _).alloc (Nat.le_refl _) _
  refine (Split_at b9 1 _ (s2.alloc (.cells #[.int .u8 9] 5)) 0 0 splitS_9 rfl (fun e => by simp at e) (Rd.lit s2 _ 5 _ b9 _ _ rfl (by simp) rfl) (ht.belowTo (hbws2.trans (hbl3.mono hbws2.size)) ht.1) (by omega)).mono ?_
  rintro e s3 ⟨A3, c3, rfl, hbs3⟩
  have hbm3 := hbl3.trans (hbs3.mono hbl3.size)
  have hws3 := hws2.below hbm3
  have hbws3 := hbws2.trans (hbm3.mono hbws2.size)
  clear hws2 hbws2 hbs3 hbl3 hbm3
  have hall := All_any s3 hws3 (by decide)
  go_wp2_with (first
    | (go_at_call 15; (with_reducible refine (num_any _ _).mono ?_); rintro e w' ⟨rfl, rfl⟩)
    | (go_at_call 17; (with_reducible refine hall.mono ?_); rintro e w9 ⟨u9, rfl, hown9, hb9⟩; obtain ⟨A9, c9, rfl⟩ := own_slice hown9; have hst := run_str (P := Tryd.prog) w9 27 5 Tryd.underlying27 Tryd.underlying5 [172#8, 2#8, 2#8, 104#8, 105#8] 5 c9 w9.heap.size A9 rfl (Rd.of_own hown9 (Nat.le_refl _)) 9 Tryd.underlying9; have hcmp : (strB [172#8, 2#8, 2#8, 104#8, 105#8]).toList = [172, 2, 2, 104, 105] := by rw [ByteArray.toList_eq]; rfl))
  go_ret
  exact ⟨rfl, hbws3.trans (hb9.mono hbws3.size)⟩
theorem Sm.works_from {w0 w : World} (hb : Below w0.heap.size w0 w) (ht : Tab w0) : Calls Tryd.prog 12 #[] w fun e W' => e = .returned (.bool true) ∧ Below w0.heap.size w0 W' :=
  (works_any w (ht.below hb)).mono fun _ _ ⟨he, h⟩ => ⟨he, hb.trans (h.mono hb.size)⟩
