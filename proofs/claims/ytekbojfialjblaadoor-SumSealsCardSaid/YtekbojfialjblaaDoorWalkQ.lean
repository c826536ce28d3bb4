/-
  The contract of works: the rows of the chapter hold.
-/
import Derived.Lib.SlBytesConst
import Derived.Lib.SmallJoins
import Derived.Test.YtekbojfialjblaaDoorWalkP
namespace Go.Proofs
open Go.RowKit Go.Shelf Sm
theorem Sm.own_form {w : World} {base : Nat} {e : TypeId} {v : Value} {n : Nat} {xs : List Value} (h : w.ownsRow base e 1 v n xs) (hn : 0 < n) : ∃ g cap, v = .slice (some ⟨g, 0, none⟩) n cap ∧ base ≤ g ∧ g < w.heap.size ∧ n ≤ cap := by
  obtain ⟨g, cap, hv, hb, hg⟩ := h.form hn
  refine ⟨g, cap, hv, hb, hg, ?_⟩
  rcases h.2 with ⟨_, h0⟩ | ⟨g', cap', cur, hv', _, _, hnc, _⟩
  · omega
  · rw [hv] at hv'
    injection hv' with _ _ e3
    omega
theorem Sm.may_1 : mayB 1 = true := by decide
theorem Sm.may_m1 : mayB (-1) = false := by decide
theorem Sm.Rd.lit (w : World) (cs : Array Value) (t : TypeId) (fr : Nat × Nat) (l : List (BitVec 8)) (N B : Nat) (hN : w.heap.size = N) (hB : N < B) (hcs : cs.toList = l.map byteCell) : Rd (w.alloc (.cells cs t fr)) B (some ⟨N, 0, none⟩) l := fun _ => by
  subst hN
  refine ⟨w.heap.size, 0, rfl, hB, fun j c hj => ?_⟩
  rw [Nat.zero_add, World.cell?_alloc_mark]
  have : cs.toList[j]? = some (byteCell c) := by rw [hcs, List.getElem?_map, hj]; rfl
  rw [← Array.getElem?_toList, this]
  rfl
def Sm.hi : List (BitVec 8) := [104#8, 105#8]
/-- two parts, in a block of their own -/
theorem Sm.RdP.two (w : World) (p q : Pt) (N B : Nat) (hN : w.heap.size = N) (hB : N < B) : RdP (w.alloc (.cells #[p.val, q.val] 22)) B (some ⟨N, 0, none⟩) [p, q] := fun _ => by
  subst hN
  refine ⟨w.heap.size, 0, rfl, hB, fun j r hj => ?_⟩
  match j, hj with
  | 0, hj =>
    simp at hj
    subst hj
    rw [Nat.zero_add]
    simp [World.cell?_alloc_new]
  | 1, hj =>
    simp at hj
    subst hj
    simp [World.cell?_alloc_new]
def Sm.b5 : List (BitVec 8) := [49#8, 50#8, 51#8, 52#8, 53#8]
def Sm.b4 : List (BitVec 8) := [54#8, 55#8, 56#8, 57#8]
theorem Sm.sum_digits (p q : Pt) (hp : p.l = b5) (hq : q.l = b4) : (iv (sumP [p, q]) == 3421780262) = true := by
  rw [sumP_flat]
  simp only [List.flatMap_cons, List.flatMap_nil, List.append_nil, hp, hq]
  decide +kernel
theorem Sm.str_hi : (strB hi).toList = [104, 105] := by rw [ByteArray.toList_eq]; rfl
set_option maxRecDepth 100000 in
set_option maxHeartbeats 4000000 in
theorem Sm.works_any (w : World) (ht : Tab w) :
    Calls Tryd.prog 13 #[] w fun e w' => e = .returned (.bool true) ∧ Below w.heap.size w w' := by
  have kc := fun (w : World) (C : Array Value) (n c g : Nat) (hg : g = w.heap.size) => Joins.run_convert_bytes_const_at (P := Tryd.prog) w 22 5 C n c g hg Tryd.underlying22 Tryd.underlying5
  go_enter Tryd.func13, Tryd.ntmps13
  go_wp2_with (first
    | (go_at_call 20; refine (Power_yes 1 _ may_1).mono ?_; rintro e w1 ⟨rfl, hb1⟩)
    | (go_at_call 20; refine (Power_no (-1) _ may_m1).mono ?_; rintro e w2 ⟨rfl, rfl⟩))
  have hb2 : Below w.heap.size w (w1.alloc (.cells #[.int .u8 104, .int .u8 105] 5 (2, 2 + 1))) := hb1.alloc hb1.size _
  have hok2 : Pt.ok ⟨some ⟨w1.heap.size, 0, none⟩, 2, 2, hi⟩ (w1.alloc (.cells #[.int .u8 104, .int .u8 105] 5 (2, 2 + 1))) (w1.alloc (.cells #[.int .u8 104, .int .u8 105] 5 (2, 2 + 1))).heap.size := ⟨rfl, by show 2 ≤ 9223372036854775807; omega, Rd.lit w1 _ 5 _ hi _ _ rfl (by simp) rfl⟩
  refine (Seal_any ⟨some ⟨w1.heap.size, 0, none⟩, 2, 2, hi⟩ _ (by show 2 ≤ 1000000; omega) hok2 (ht.belowTo hb2 ht.1)).mono ?_
  rintro e w3 ⟨v3, rfl, hown3, hb3⟩
  obtain ⟨g3, c3, rfl, hg3, hgl3, hc3⟩ := own_form hown3 (by show 0 < 2 + 4; omega)
  have hb3w : Below w.heap.size w w3 := hb2.trans (hb3.mono hb2.size)
  clear hok2
  go_wp2_with fail
  refine (Open_long hi (leN (sumB hi) 4) 2 c3 g3 0 _ (Lib.hid rfl) (Lib.hid (leN_length _ _)) (by decide) hc3 (Rd.of_own hown3 (Nat.le_refl _)) (ht.belowTo hb3w ht.1)).mono ?_
  rintro e w4 ⟨hop, hb4⟩
  unfold OpenPost at hop
  rw [if_pos rfl] at hop
  obtain ⟨v4, rfl, hown4⟩ := hop
  have hb4w : Below w.heap.size w w4 := hb3w.trans (hb4.mono hb3w.size)
  obtain ⟨A4, c4, rfl⟩ := own_slice hown4
  clear hb3 hown3 hb2 hb1
  go_wp2_with (go_at_call 27; refine (Open_short _ 3 3 _ (by decide)).mono ?_; rintro e w5 ⟨rfl, rfl⟩)
  have hb5 : Below w.heap.size w (w4.alloc (.cells #[.int .u8 97, .int .u8 98, .int .u8 99] 5 (3, 4))) := hb4w.alloc hb4w.size _
  refine (Sum_any [] 0 0 none _ (Lib.hid rfl) (by omega) (fun h => absurd h (by simp)) (fun p hp => by cases hp) (ht.belowTo hb5 ht.1)).mono ?_
  rintro e w6 ⟨rfl, hb6⟩
  have hb6w : Below w.heap.size w w6 := hb5.trans (hb6.mono hb5.size)
  have hs0 : (iv (sumP []) == 0) = true := by decide
  have hr4 : Rd w6 w4.heap.size A4 hi := (Rd.of_own hown4 (Nat.le_refl _)).keep fun p hp => (hb6.cell (by simp; omega)).trans (World.cell?_alloc_lt w4 _ p hp)
  have hs46 : w4.heap.size ≤ w6.heap.size := by have := hb6.size; simp at this; omega
  clear hb5 hb6 hown4
  go_wp2_with fail
  obtain ⟨W7, hW7⟩ : ∃ W7, W7 = ((w6.alloc (.cells #[.int .u8 49, .int .u8 50, .int .u8 51, .int .u8 52, .int .u8 53] 5 (5, 6))).alloc (.cells #[.int .u8 54, .int .u8 55, .int .u8 56, .int .u8 57] 5 (4, 5))) := ⟨_, rfl⟩
  have hs7 : W7.heap.size = w6.heap.size + 1 + 1 := by subst hW7; simp
  have hb67 : Below w6.heap.size w6 W7 := by subst hW7; exact ((Below.refl _ _).alloc (Nat.le_refl _) _).alloc (by simp) _
  have hp1 : Pt.ok ⟨some ⟨w6.heap.size, 0, none⟩, 5, 5, b5⟩ W7 (w6.heap.size + 1) := ⟨rfl, by show 5 ≤ 9223372036854775807; omega, by subst hW7; exact (Rd.lit w6 #[.int .u8 49, .int .u8 50, .int .u8 51, .int .u8 52, .int .u8 53] 5 (5, 6) b5 w6.heap.size (w6.heap.size + 1) rfl (by omega) rfl).alloc (by simp) _⟩
  have hp2 : Pt.ok ⟨some ⟨w6.heap.size + 1, 0, none⟩, 4, 4, b4⟩ W7 (w6.heap.size + 1 + 1) := ⟨rfl, by show 4 ≤ 9223372036854775807; omega, by subst hW7; exact Rd.lit _ #[.int .u8 54, .int .u8 55, .int .u8 56, .int .u8 57] 5 (4, 5) b4 (w6.heap.size + 1) (w6.heap.size + 1 + 1) (by simp) (by omega) rfl⟩
  rw [← hW7]
  have hb78 : Below W7.heap.size W7 (W7.alloc (.cells #[.slice (some ⟨w6.heap.size, 0, none⟩) 5 5, .slice (some ⟨w6.heap.size + 1, 0, none⟩) 4 4] 22)) := (Below.refl _ _).alloc (Nat.le_refl _) _
  have hb8w : Below w.heap.size w (W7.alloc (.cells #[.slice (some ⟨w6.heap.size, 0, none⟩) 5 5, .slice (some ⟨w6.heap.size + 1, 0, none⟩) 4 4] 22)) := (hb6w.trans (hb67.mono hb6w.size)).trans (hb78.mono (by have := hb6w.size; omega))
  have hrp := RdP.two W7 ⟨some ⟨w6.heap.size, 0, none⟩, 5, 5, b5⟩ ⟨some ⟨w6.heap.size + 1, 0, none⟩, 4, 4, b4⟩ (w6.heap.size + 1 + 1) (W7.alloc (.cells #[.slice (some ⟨w6.heap.size, 0, none⟩) 5 5, .slice (some ⟨w6.heap.size + 1, 0, none⟩) 4 4] 22)).heap.size hs7 (by simp; omega)
  refine (Sum_any [⟨some ⟨w6.heap.size, 0, none⟩, 5, 5, b5⟩, ⟨some ⟨w6.heap.size + 1, 0, none⟩, 4, 4, b4⟩] 2 2 (some ⟨w6.heap.size + 1 + 1, 0, none⟩) _ (Lib.hid rfl) (by omega) hrp ?_ (ht.belowTo hb8w ht.1)).mono ?_
  · intro p hp
    simp only [List.mem_cons, List.not_mem_nil, or_false] at hp
    rcases hp with rfl | rfl
    · exact (hp1.more (by omega)).keep (fun a ha => hb78.cell ha) |>.more (by simp)
    · exact (hp2.more (by omega)).keep (fun a ha => hb78.cell ha) |>.more (by simp)
  rintro e w9 ⟨rfl, hb9⟩
  have hb9w : Below w.heap.size w w9 := hb8w.trans (hb9.mono hb8w.size)
  have hsd := sum_digits ⟨some ⟨w6.heap.size, 0, none⟩, 5, 5, b5⟩ ⟨some ⟨w6.heap.size + 1, 0, none⟩, 4, 4, b4⟩ rfl rfl
  have hr9 : Rd w9 w4.heap.size A4 hi := hr4.keep fun p hp => (hb9.cell (by simp; omega)).trans ((hb78.cell (by omega)).trans (hb67.cell (by omega)))
  have hs49 : w4.heap.size ≤ w9.heap.size := by have := hb9.size; simp at this; omega
  clear hb67 hp1 hp2 hb78 hb8w hrp hb9 hs7 hr4 hs46
  go_wp2_with fail
  refine (mul_any one 5#32 w9).mono ?_
  rintro e w10 ⟨rfl, hb10⟩
  have hb10w : Below w.heap.size w w10 := hb9w.trans (hb10.mono hb9w.size)
  have hm5 : (iv (mul one 5#32) == 5) = true := by rw [one_mul]; decide
  have hpw : (iv (pw 1) == 1073741824) = true := by decide
  have hst := run_str (P := Tryd.prog) w10 22 5 Tryd.underlying22 Tryd.underlying5 hi 2 c4 w4.heap.size A4 rfl (hr9.keep fun p hp => hb10.cell (by omega)) 9 Tryd.underlying9
  have hsh := str_hi
  clear hW7 hb10 hr9 hs49 hb9w hb6w hb4w hb3w hb4 hg3 hgl3 hc3 hsd hs0
  go_wp2_with (go_at_call 23; refine (num_any _ _).mono ?_; rintro e w' ⟨rfl, rfl⟩)
  go_ret
  exact ⟨rfl, hb10w⟩
