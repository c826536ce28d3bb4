/-
  The contracts of the reference Seal and Open at readable bytes.
-/
import Derived.Deep.RegionHeld3
import Derived.Deep.DrawnRows
import Derived.Test.YteeponciegmlcaaDoorAid
namespace Go.Proofs
open Go.RowKit Go.Shelf Sm
theorem Sm.byte_at (x : BitVec 32) (k : Nat) : (iv x).tdiv ((2 : Int) ^ (8 * k)) % (256 : Int) = ib ((x >>> (8 * k)).setWidth 8) := by
  rw [Int.tdiv_eq_ediv_of_nonneg (iv_lo x), iv_shr]
  exact low_byte _
theorem Sm.byte0 (x : BitVec 32) : iv x % (256 : Int) = ib ((x >>> (8 * 0)).setWidth 8) := low_byte x
theorem Sm.byte1 (x : BitVec 32) : (iv x).tdiv (256 : Int) % (256 : Int) = ib ((x >>> (8 * 1)).setWidth 8) := byte_at x 1
theorem Sm.byte2 (x : BitVec 32) : (iv x).tdiv (65536 : Int) % (256 : Int) = ib ((x >>> (8 * 2)).setWidth 8) := byte_at x 2
theorem Sm.byte3 (x : BitVec 32) : (iv x).tdiv (16777216 : Int) % (256 : Int) = ib ((x >>> (8 * 3)).setWidth 8) := byte_at x 3
set_option maxRecDepth 100000 in
set_option maxHeartbeats 4000000 in
theorem Sm.refSeal_any (l : List (BitVec 8)) (n c : Nat) (A : Option Addr) (w : World) (hn : l.length = n) (hm : n ≤ 1000000) (hr : Rd w w.heap.size A l) :
    Calls Tryd.prog 62 #[.slice A n c] w fun e w' => ∃ v, e = .returned v ∧ w'.ownsRow w.heap.size 5 1 v (n + 4) ((l ++ leN (sumB l) 4).map byteCell) ∧ Below w.heap.size w w' := by
  obtain ⟨i0, hi, hz0, hz1, hz2⟩ := info_parts info5
  have HN := Lib.hid hn
  have HM : Hid (n ≤ 9223372036854775807) := Lib.hid (by omega)
  have hs0 := iv_lo (sumB l)
  have hle : Hid ((leN (sumB l) 4).map byteCell = [.int .u8 (iv (sumB l) % 256), .int .u8 ((iv (sumB l)).tdiv 256 % 256), .int .u8 ((iv (sumB l)).tdiv 65536 % 256), .int .u8 ((iv (sumB l)).tdiv 16777216 % 256)]) := Lib.hid (by rw [byte0, byte1, byte2, byte3]; rfl)
  have hb := Below.refl w.heap.size w
  clear hn
  go_enter Tryd.func62, Tryd.ntmps62
  go_wp2_with (first
    | (go_at_call 70; (with_reducible refine (refSum_any l n c w.heap.size A _ HN HM.out hr).mono ?_); rintro e w2 ⟨rfl, rfl⟩)
    | (at_builtin; refine wpList_append_rd _ rfl (.tmp 7) (.tmp 8) 27 rfl w.heap.size 5 i0 _ Tryd.underlying27 hi hz0 hz1 hz2 rfl _ 0 [] rfl (World.ownsRow_made w #[] 0 (Nat.le_refl _) (by decide) rfl) w.heap.size A n c l rfl HN.out (hr.alloc (Nat.le_refl _) _) ?_ (by simp) ?_; omega; intro v1 w1 hown1 hg1 hat1; have hb1 : Below w.heap.size w w1 := (hb.alloc (Nat.le_refl _) _).grown hg1 (by simp) (fun g e => by cases e; exact Nat.le_refl _); simp only [Nat.zero_add, List.nil_append] at hown1)
    | (at_builtin; refine wpList_append_own_at _ rfl (.tmp 10) (.tmp 25) 27 rfl w.heap.size 5 i0 _ 1 1 Tryd.underlying27 hi hz0 hz1 hz2 rfl (by decide) _ n _ rfl (hown1.alloc _) ⟨w1.heap.size, 0, none⟩ 4 4 [.int .u8 (iv (sumB l) % 256), .int .u8 ((iv (sumB l)).tdiv 256 % 256), .int .u8 ((iv (sumB l)).tdiv 65536 % 256), .int .u8 ((iv (sumB l)).tdiv 16777216 % 256)] rfl rfl (World.news_of_block (heap_alloc_new w1 _)) ?_ ?_ ?_ ?_ ?_; (simp [Value.oneCell']); (unfold maxLen; omega); omega; (have := hb1.size; simp; omega); intro v2 w2 hown2 hg2 _ hat2))
  go_ret
  refine ⟨v2, rfl, ?_, (hb1.alloc hb1.size _).grown hg2 (by have := hb1.size; simp; omega) (fun g e => (hown1.lt g e).1)⟩
  rw [List.map_append, hle.out]
  exact hown2
set_option maxRecDepth 100000 in
set_option maxHeartbeats 2000000 in
theorem Sm.refOpen_short (A : Option Addr) (n c : Nat) (w : World) (hn : n < 4) :
    Calls Tryd.prog 61 #[.slice A n c] w fun e w' => e = .returned (.tuple #[.slice none 0 0, .int .i64 110]) ∧ w = w' := by
  go_enter Tryd.func61, Tryd.ntmps61
  go_wp2
  go_ret2
  exact ⟨rfl, rfl⟩
set_option maxRecDepth 100000 in
set_option maxHeartbeats 4000000 in
theorem Sm.refOpen_long (l1 l2 : List (BitVec 8)) (m c b off : Nat) (w : World) (h1 : Hid (l1.length = m)) (h2 : Hid (l2.length = 4)) (hm : m ≤ 1000000) (hc : m + 4 ≤ c) (hr : Rd w w.heap.size (some ⟨b, off, none⟩) (l1 ++ l2)) :
    Calls Tryd.prog 61 #[.slice (some ⟨b, off, none⟩) (m + 4) c] w fun e w' => OpenPost w l1 l2 m e w' ∧ Below w.heap.size w w' := by
  obtain ⟨i0, hi, hz0, hz1, hz2⟩ := info_parts info5
  have b0 : 0 ≤ ((m : Int) + 4) - 4 := by omega
  have b2 : (m : Int) + 4 ≤ c := by omega
  have hr1 : Rd w w.heap.size (some ⟨b, off, none⟩) l1 := by
    have := hr.take m
    rwa [List.take_append_of_le_length (by rw [h1.out]; exact Nat.le_refl _), List.take_of_length_le (by rw [h1.out]; exact Nat.le_refl _)] at this
  have hl : Hid ((l1 ++ l2).length = m + 4) := Lib.hid (by rw [List.length_append, h1.out, h2.out])
  have hb := Below.refl w.heap.size w
  by_cases he : l2 = leN (sumB l1) 4
  · have hd : ((strB (l1 ++ leN (sumB l1) 4)).toList == (strB (l1 ++ l2)).toList) = true := by rw [strB_eq, he]; simp
    have HE := Lib.hid he
    clear he
    go_enter Tryd.func61, Tryd.ntmps61
    go_wp2_with (at_builtin; refine wpList_append_rd _ rfl (.tmp 8) (.tmp 13) 27 rfl w.heap.size 5 i0 _ Tryd.underlying27 hi hz0 hz1 hz2 rfl _ 0 [] rfl (World.ownsRow_made w #[] 0 (Nat.le_refl _) (by decide) rfl) w.heap.size (some ⟨b, off, none⟩) m c l1 rfl h1.out (hr1.alloc (Nat.le_refl _) _) ?_ (by simp) ?_; omega; intro v1 w1 hown1 hg1 hat1; have hb1 : Below w.heap.size w w1 := (hb.alloc (Nat.le_refl _) _).grown hg1 (by simp) (fun g e => by cases e; exact Nat.le_refl _); simp only [Nat.zero_add, List.nil_append] at hown1; obtain ⟨A1, c1, rfl⟩ := own_slice hown1)
    clear hg1 hat1 hb
    have hS1 : ∀ wx : World, Below w1.heap.size w1 wx → (convert 27 9 (.slice (some ⟨b, off, none⟩) (m + 4) c)).run Tryd.prog wx = .ok (.string (strB (l1 ++ l2))) wx := fun wx hx =>
      run_str (P := Tryd.prog) wx 27 5 Tryd.underlying27 Tryd.underlying5 (l1 ++ l2) (m + 4) c w.heap.size _ hl.out ((hr.below hb1).belowTo hx hb1.size) 9 Tryd.underlying9
    have hbd : Below w1.heap.size w1 w1.drew := (Below.refl _ _).drew
    have hrd : Rd w1.drew w1.drew.heap.size A1 l1 := (Rd.of_own hown1 (Nat.le_refl _) : Rd w1 w1.heap.size A1 l1)
    have s0 := hS1 _ hbd
    go_region_with (go_at_call 62; (with_reducible refine (refSeal_any l1 m c1 A1 _ h1.out hm hrd).mono ?_); rintro e w4 ⟨v4, rfl, hown4, hb4⟩; obtain ⟨A4, c4, rfl⟩ := own_slice hown4; have hb5 : Below w1.heap.size w1 w4 := hbd.trans hb4; have s1 := hS1 _ hb5; have hst4 := run_str (P := Tryd.prog) w4 27 5 Tryd.underlying27 Tryd.underlying5 (l1 ++ leN (sumB l1) 4) (m + 4) c4 w4.heap.size A4 (by rw [List.length_append, h1.out, leN_length]) (Rd.of_own hown4 (Nat.le_refl _)) 9 Tryd.underlying9)
    all_goals go_wp2
    all_goals go_ret2
    all_goals
      refine ⟨?_, hb1.trans (hb5.mono hb1.size)⟩
      unfold OpenPost
      rw [if_pos HE.out]
      exact ⟨_, rfl, own_below hown1 hb5⟩
  · have hd : ((strB (l1 ++ leN (sumB l1) 4)).toList == (strB (l1 ++ l2)).toList) = false := by rw [strB_eq, decide_eq_false (fun e => he (List.append_cancel_left e).symm)]
    have HE := Lib.hid he
    clear he
    go_enter Tryd.func61, Tryd.ntmps61
    go_wp2_with (at_builtin; refine wpList_append_rd _ rfl (.tmp 8) (.tmp 13) 27 rfl w.heap.size 5 i0 _ Tryd.underlying27 hi hz0 hz1 hz2 rfl _ 0 [] rfl (World.ownsRow_made w #[] 0 (Nat.le_refl _) (by decide) rfl) w.heap.size (some ⟨b, off, none⟩) m c l1 rfl h1.out (hr1.alloc (Nat.le_refl _) _) ?_ (by simp) ?_; omega; intro v1 w1 hown1 hg1 hat1; have hb1 : Below w.heap.size w w1 := (hb.alloc (Nat.le_refl _) _).grown hg1 (by simp) (fun g e => by cases e; exact Nat.le_refl _); simp only [Nat.zero_add, List.nil_append] at hown1; obtain ⟨A1, c1, rfl⟩ := own_slice hown1)
    clear hg1 hat1 hb
    have hS1 : ∀ wx : World, Below w1.heap.size w1 wx → (convert 27 9 (.slice (some ⟨b, off, none⟩) (m + 4) c)).run Tryd.prog wx = .ok (.string (strB (l1 ++ l2))) wx := fun wx hx =>
      run_str (P := Tryd.prog) wx 27 5 Tryd.underlying27 Tryd.underlying5 (l1 ++ l2) (m + 4) c w.heap.size _ hl.out ((hr.below hb1).belowTo hx hb1.size) 9 Tryd.underlying9
    have hbd : Below w1.heap.size w1 w1.drew := (Below.refl _ _).drew
    have hrd : Rd w1.drew w1.drew.heap.size A1 l1 := (Rd.of_own hown1 (Nat.le_refl _) : Rd w1 w1.heap.size A1 l1)
    have s0 := hS1 _ hbd
    go_region_with (go_at_call 62; (with_reducible refine (refSeal_any l1 m c1 A1 _ h1.out hm hrd).mono ?_); rintro e w4 ⟨v4, rfl, hown4, hb4⟩; obtain ⟨A4, c4, rfl⟩ := own_slice hown4; have hb5 : Below w1.heap.size w1 w4 := hbd.trans hb4; have s1 := hS1 _ hb5; have hst4 := run_str (P := Tryd.prog) w4 27 5 Tryd.underlying27 Tryd.underlying5 (l1 ++ leN (sumB l1) 4) (m + 4) c4 w4.heap.size A4 (by rw [List.length_append, h1.out, leN_length]) (Rd.of_own hown4 (Nat.le_refl _)) 9 Tryd.underlying9)
    all_goals go_wp2
    all_goals go_ret2
    all_goals
      refine ⟨?_, hb1.trans (hb5.mono hb1.size)⟩
      unfold OpenPost
      rw [if_neg HE.out]
      rfl
