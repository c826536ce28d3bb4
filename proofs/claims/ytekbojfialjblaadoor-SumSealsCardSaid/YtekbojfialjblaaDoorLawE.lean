/-
  The walk of the law SumJoins: at every readable bytes and number it returns true and nothing that lay has turned, where the table lies in memory.
-/
import Derived.Deep.RegionHeld3
import Derived.Deep.DrawnRows
import Derived.Test.YtekbojfialjblaaDoorLawD
import Derived.Test.YtekbojfialjblaaDoorJoined
namespace Go.Proofs
open Go.RowKit Go.Shelf Sm
theorem Sm.own_some {w : World} {base : Nat} {e : TypeId} {v : Value} {n : Nat} {xs : List Value} (h : w.ownsRow base e 1 v n xs) (hv : v.ownBlock ≠ none) : ∃ g cap, v = .slice (some ⟨g, 0, none⟩) n cap ∧ base ≤ g ∧ g < w.heap.size ∧ n ≤ cap := by
  rcases h.2 with ⟨rfl, _⟩ | ⟨g, cap, cur, rfl, hb, hg, hnc, _⟩
  · exact absurd rfl hv
  · exact ⟨g, cap, rfl, hb, (Array.getElem?_eq_some_iff.1 hg).1, hnc⟩
theorem Sm.Sum_one_at {w0 w : World} (hb : Below w0.heap.size w0 w) (p : Pt) (N : Nat) (hr : RdP w w.heap.size (some ⟨N, 0, none⟩) [p]) (hok : p.ok w0 w0.heap.size) (ht : Tab w0) :
    Calls Tryd.prog 14 #[.slice (some ⟨N, 0, none⟩) 1 1] w fun e w' => e = .returned (.int .u32 (iv (sumB p.l))) ∧ Below w0.heap.size w0 w' := by
  refine (Sum_any [p] 1 1 _ _ (Lib.hid rfl) (by omega) hr ?_ (ht.below hb)).mono ?_
  · intro q hq
    obtain rfl : q = p := by simpa using hq
    exact (hok.keep fun _ ha => hb.cell ha).more hb.size
  · rintro e w' ⟨rfl, h⟩
    exact ⟨by rw [sumP_one], hb.trans (h.mono hb.size)⟩
theorem Sm.Sum_one_from {w0 w : World} (hb : Below w0.heap.size w0 w) (p : Pt) (hok : p.ok w0 w0.heap.size) (ht : Tab w0) :
    Calls Tryd.prog 14 #[.slice (some ⟨w.heap.size, 0, none⟩) 1 1] (w.alloc (.cells #[.slice p.A p.n p.c] 22)) fun e w' => e = .returned (.int .u32 (iv (sumB p.l))) ∧ Below w0.heap.size w0 w' :=
  Sum_one_at (hb.alloc hb.size _) p _ (RdP.one w p w.heap.size _ rfl (by simp)) hok ht
theorem Sm.Sum_one_drew {w0 w : World} (hb : Below w0.heap.size w0 w) (p : Pt) (hok : p.ok w0 w0.heap.size) (ht : Tab w0) :
    Calls Tryd.prog 14 #[.slice (some ⟨w.heap.size, 0, none⟩) 1 1] (w.alloc (.cells #[.slice p.A p.n p.c] 22)).drew fun e w' => e = .returned (.int .u32 (iv (sumB p.l))) ∧ Below w0.heap.size w0 w' :=
  Sum_one_at (hb.alloc hb.size _).drew p _ (RdP.one w p w.heap.size _ rfl (by simp)) hok ht
theorem Sm.Sum_two_from {w0 w : World} (hb : Below w0.heap.size w0 w) (p q : Pt) (L : List (BitVec 8)) (hL : p.l ++ q.l = L) (hp : p.ok w0 w0.heap.size) (hq : q.ok w0 w0.heap.size) (ht : Tab w0) :
    Calls Tryd.prog 14 #[.slice (some ⟨w.heap.size, 0, none⟩) 2 2] (w.alloc (.cells #[.slice p.A p.n p.c, .slice q.A q.n q.c] 22)) fun e w' => e = .returned (.int .u32 (iv (sumB L))) ∧ Below w0.heap.size w0 w' := by
  have hb2 : Below w0.heap.size w0 (w.alloc (.cells #[p.val, q.val] 22)) := hb.alloc hb.size _
  refine (Sum_any [p, q] 2 2 _ _ (Lib.hid rfl) (by omega) (RdP.two w p q w.heap.size _ rfl (by simp)) ?_ (ht.below hb2)).mono ?_
  · intro r hr
    simp only [List.mem_cons, List.not_mem_nil, or_false] at hr
    rcases hr with rfl | rfl
    · exact (hp.keep fun _ ha => hb2.cell ha).more hb2.size
    · exact (hq.keep fun _ ha => hb2.cell ha).more hb2.size
  · rintro e w' ⟨rfl, h⟩
    exact ⟨by rw [sumP_flat, ← hL]; simp, hb2.trans (h.mono hb2.size)⟩
theorem Sm.join_sums {w0 w : World} (hb : Below w0.heap.size w0 w) (l1 l2 : List (BitVec 8)) (m : Nat) (hm : l2.length = m) (HJ : mayB (m : Int) = true) :
    Calls Tryd.prog 21 #[.int .u32 (iv (sumB l1)), .int .u32 (iv (sumB l2)), .int .i64 (m : Int)] w fun e w' => e = .returned (.tuple #[.int .u32 (iv (sumB (l1 ++ l2))), .int .i64 0]) ∧ Below w0.heap.size w0 w' :=
  (join_from hb (m : Int) _ _ HJ).mono fun _ _ ⟨he, h⟩ => ⟨by rw [he, Int.toNat_natCast, ← hm, sumB_join], h⟩
theorem Sm.more_sums {w0 w : World} (hb : Below w0.heap.size w0 w) (l1 : List (BitVec 8)) (p : Pt) (hok : p.ok w0 w0.heap.size) (ht : Tab w0) :
    Calls Tryd.prog 16 #[.int .u32 (iv (sumB l1)), .slice p.A p.n p.c] w fun e w' => e = .returned (.int .u32 (iv (sumB (l1 ++ p.l)))) ∧ Below w0.heap.size w0 w' :=
  (More_from hb _ p hok ht).mono fun _ _ ⟨he, h⟩ => ⟨by rw [he, sumB_append], h⟩
set_option maxRecDepth 100000 in
set_option maxHeartbeats 4000000 in
theorem Sm.joins_walk (l1 l2 : List (BitVec 8)) (n c m d : Nat) (A B : Option Addr) (cut : Int) (w : World) (hn : l1.length = n) (hm : l2.length = m) (hn9 : n ≤ 9223372036854775807) (hm9 : m ≤ 9223372036854775807) (hr1 : Rd w w.heap.size A l1) (hr2 : Rd w w.heap.size B l2) (ht : Tab w) :
    Calls Tryd.prog 11 #[.slice A n c, .slice B m d, .int .i64 cut] w fun e w' => e = .returned (.bool true) ∧ Below w.heap.size w w' := by
  obtain ⟨i0, hi, hz0, hz1, hz2⟩ := info_parts info5
  have HN := Lib.hid hn
  have HM := Lib.hid hm
  have hb := Below.refl w.heap.size w
  clear hn hm
  by_cases h : 500 < n ∨ 500 < m
  · go_enter Tryd.func11, Tryd.ntmps11
    go_wp2_with (go_at_call 13; (with_reducible refine (works_from hb ht).mono ?_); clear hb; rintro e w1 ⟨rfl, hb⟩)
    all_goals (go_ret; exact ⟨rfl, hb⟩)
  · have hn5 : n ≤ 500 := by omega
    have hm5 : m ≤ 500 := by omega
    clear h hn9 hm9
    go_enter Tryd.func11, Tryd.ntmps11
    go_wp2_with (first
      | (at_builtin; refine wpList_append_rd _ rfl (.tmp 20) (.tmp 21) 22 rfl w.heap.size 5 i0 _ Tryd.underlying22 hi hz0 hz1 hz2 rfl _ 0 [] rfl (World.ownsRow_made w #[] 0 (Nat.le_refl _) (by decide) rfl) w.heap.size A n c l1 rfl HN.out (hr1.alloc (Nat.le_refl _) _) ?_ (by simp) ?_; omega; intro v1 w1 hown1 hg1 hat1; have hb1 : Below w.heap.size w w1 := (hb.alloc (Nat.le_refl _) _).grown hg1 (by simp) (fun g e => by cases e; exact Nat.le_refl _); simp only [Nat.zero_add, List.nil_append] at hown1; obtain ⟨g1, cap1, rfl, hgb1, hgl1, hcap1⟩ := own_some hown1 (by rcases hat1 with e | e <;> rw [e] <;> simp [Value.ownBlock, Act.eval]))
      | (at_builtin; refine wpList_append_rd _ rfl (.tmp 22) (.tmp 23) 22 rfl w.heap.size 5 i0 _ Tryd.underlying22 hi hz0 hz1 hz2 rfl _ n _ rfl hown1 w.heap.size B m d l2 rfl HM.out (hr2.below hb1) ?_ hb1.size ?_; omega; intro v2 w2 hown2 hg2 hat2; have hb2 : Below w.heap.size w w2 := hb1.grown hg2 hb1.size (fun g e => (hown1.lt g e).1); obtain ⟨g2, cap2, rfl, hgb2, hgl2, hcap2⟩ := own_some hown2 (by rcases hat2 with e | e <;> rw [e] <;> simp [Value.ownBlock, Act.eval])))
    have ht2 := ht.below hb2
    have pa : Hid (Pt.ok ⟨A, n, c, l1⟩ w2 w2.heap.size) := Lib.hid ⟨HN.out, by show n ≤ 9223372036854775807; omega, (hr1.below hb2).more hb2.size⟩
    have pb : Hid (Pt.ok ⟨B, m, d, l2⟩ w2 w2.heap.size) := Lib.hid ⟨HM.out, by show m ≤ 9223372036854775807; omega, (hr2.below hb2).more hb2.size⟩
    have pall : Hid (Pt.ok ⟨some ⟨g2, 0, none⟩, n + m, cap2, l1 ++ l2⟩ w2 w2.heap.size) := Lib.hid (Pt.ok_own (by rw [List.map_append]; exact hown2) (by omega))
    have hbw := Lib.hid hb2
    obtain ⟨q, hq⟩ : ∃ q : Int, (if cut < (n : Int) + (m : Int) then cut else (n : Int) + (m : Int)) = q := ⟨_, rfl⟩
    obtain ⟨k, hk, hkn⟩ : ∃ k : Nat, (if 0 < q then q else 0) = (k : Int) ∧ k ≤ n + m := by
      refine ⟨(if 0 < q then q else 0).toNat, ?_, ?_⟩
      · split <;> omega
      · split at hq <;> split <;> omega
    have k0 : (0 : Int) ≤ (k : Int) := by omega
    have k1 : (k : Int) ≤ (n : Int) + (m : Int) := by omega
    have k2 : (n : Int) + (m : Int) ≤ (cap2 : Int) := by omega
    have k3 : (k : Int) ≤ (cap2 : Int) := by omega
    have HJ := Lib.hid (mayB_mk (n := (m : Int)) (by omega) (by omega))
    clear hb hg1 hat1 hown1 hgb1 hgl1 hcap1 hb1 hg2 hat2 hown2 hgb2 hgl2 hr1 hr2 ht hb2
    have hb := Below.refl w2.heap.size w2
    go_wp2_with (first
      | (go_at_call 14; (with_reducible refine (Sum_one_from hb ⟨A, n, c, l1⟩ pa.out ht2).mono ?_); clear hb; rintro e w3 ⟨rfl, hb⟩)
      | (go_at_call 14; (with_reducible refine (Sum_one_from hb ⟨B, m, d, l2⟩ pb.out ht2).mono ?_); clear hb; rintro e w3 ⟨rfl, hb⟩)
      | (go_at_call 21; (with_reducible refine (join_sums hb l1 l2 m HM.out HJ.out).mono ?_); clear hb; rintro e w3 ⟨rfl, hb⟩))
    have pk : Hid (Pt.ok ⟨some ⟨g2, 0, none⟩, k, cap2, (l1 ++ l2).take k⟩ w2 w2.heap.size) := Lib.hid ⟨by have := pall.out.1; simp only at this; rw [List.length_take, this]; show min k (n + m) = k; omega, by show k ≤ 9223372036854775807; omega, pall.out.2.2.take k⟩
    by_cases hck : cap2 = k
    · subst hck
      have pd : Hid (Pt.ok ⟨some ⟨g2, 0, none⟩, 0, 0, []⟩ w2 w2.heap.size) := Lib.hid ⟨rfl, by show 0 ≤ 9223372036854775807; omega, Rd.nil⟩
      have hL : Hid ((l1 ++ l2).take cap2 ++ [] = l1 ++ l2) := Lib.hid (by rw [List.append_nil, List.take_of_length_le (by have := pall.out.1; simp only at this; rw [this]; exact hcap2)])
      go_region_held3 (fun _ => True) (trivial) (first
        | (go_at_call 23; (with_reducible refine (num_any _ _).mono ?_); rintro e w4 ⟨rfl, rfl⟩)
        | (go_at_call 14; (with_reducible refine (Sum_one_drew hb ⟨some ⟨g2, 0, none⟩, n + m, cap2, l1 ++ l2⟩ pall.out ht2).mono ?_); clear hb; rintro e w3 ⟨rfl, hb⟩)
        | (go_at_call 14; (with_reducible refine (Sum_one_from hb ⟨A, n, c, l1⟩ pa.out ht2).mono ?_); clear hb; rintro e w3 ⟨rfl, hb⟩)
        | (go_at_call 16; (with_reducible refine (more_sums hb l1 ⟨B, m, d, l2⟩ pb.out ht2).mono ?_); clear hb; rintro e w3 ⟨rfl, hb⟩)
        | (go_at_call 14; (with_reducible refine (Sum_two_from hb ⟨some ⟨g2, 0, none⟩, cap2, cap2, (l1 ++ l2).take cap2⟩ ⟨some ⟨g2, 0, none⟩, 0, 0, []⟩ (l1 ++ l2) hL.out pk.out pd.out ht2).mono ?_); clear hb; rintro e w3 ⟨rfl, hb⟩)
        | (go_at_call 13; (with_reducible refine (works_from hb ht2).mono ?_); clear hb; rintro e w3 ⟨rfl, hb⟩))
      go_wp2
      go_ret
      exact ⟨rfl, hbw.out.trans (hb.mono hbw.out.size)⟩
    · have pd : Hid (Pt.ok ⟨some ⟨g2, k, none⟩, n + m - k, cap2 - k, (l1 ++ l2).drop k⟩ w2 w2.heap.size) := Lib.hid ⟨by have := pall.out.1; simp only at this; rw [List.length_drop, this], by show n + m - k ≤ 9223372036854775807; omega, by have := pall.out.2.2.drop k; rwa [Nat.zero_add] at this⟩
      go_region_held3 (fun _ => True) (trivial) (first
        | (go_at_call 23; (with_reducible refine (num_any _ _).mono ?_); rintro e w4 ⟨rfl, rfl⟩)
        | (go_at_call 14; (with_reducible refine (Sum_one_drew hb ⟨some ⟨g2, 0, none⟩, n + m, cap2, l1 ++ l2⟩ pall.out ht2).mono ?_); clear hb; rintro e w3 ⟨rfl, hb⟩)
        | (go_at_call 14; (with_reducible refine (Sum_one_from hb ⟨A, n, c, l1⟩ pa.out ht2).mono ?_); clear hb; rintro e w3 ⟨rfl, hb⟩)
        | (go_at_call 16; (with_reducible refine (more_sums hb l1 ⟨B, m, d, l2⟩ pb.out ht2).mono ?_); clear hb; rintro e w3 ⟨rfl, hb⟩)
        | (go_at_call 14; (with_reducible refine (Sum_two_from hb ⟨some ⟨g2, 0, none⟩, k, cap2, (l1 ++ l2).take k⟩ ⟨some ⟨g2, k, none⟩, n + m - k, cap2 - k, (l1 ++ l2).drop k⟩ (l1 ++ l2) (List.take_append_drop k _) pk.out pd.out ht2).mono ?_); clear hb; rintro e w3 ⟨rfl, hb⟩)
        | (go_at_call 13; (with_reducible refine (works_from hb ht2).mono ?_); clear hb; rintro e w3 ⟨rfl, hb⟩))
      go_wp2
      go_ret
      exact ⟨rfl, hbw.out.trans (hb.mono hbw.out.size)⟩
