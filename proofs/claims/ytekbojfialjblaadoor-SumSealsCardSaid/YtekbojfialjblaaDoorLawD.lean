/-
  The walk of the law SumParts: at every readable parts it returns true and nothing that lay has turned, where the table lies in memory.
-/
import Derived.Test.YtekbojfialjblaaDoorLawC
namespace Go.Proofs
open Go.RowKit Go.Shelf Sm
theorem Sm.Sum_from {w0 w : World} (hb : Below w0.heap.size w0 w) (ps : List Pt) (n c : Nat) (A : Option Addr) (hn : Hid (ps.length = n)) (hm : n ≤ 1000000) (hr : RdP w0 w0.heap.size A ps)
    (hok : ∀ p ∈ ps, p.ok w0 w0.heap.size) (ht : Tab w0) :
    Calls Tryd.prog 14 #[.slice A n c] w fun e w' => e = .returned (.int .u32 (iv (sumP ps))) ∧ Below w0.heap.size w0 w' :=
  (Sum_any ps n c A w hn hm ((hr.keep fun _ ha => hb.cell ha).more hb.size) (fun p hp => ((hok p hp).keep fun _ ha => hb.cell ha).more hb.size) (ht.below hb)).mono fun _ _ ⟨he, h⟩ => ⟨he, hb.trans (h.mono hb.size)⟩
set_option maxRecDepth 100000 in
set_option maxHeartbeats 4000000 in
theorem Sm.parts_walk (ps : List Pt) (n c : Nat) (A : Option Addr) (w : World) (hn : ps.length = n) (hm : n ≤ 9223372036854775807) (hr : RdP w w.heap.size A ps) (hok : ∀ p ∈ ps, p.ok w w.heap.size) (ht : Tab w) :
    Calls Tryd.prog 4 #[.slice A n c] w fun e w' => e = .returned (.bool true) ∧ Below w.heap.size w w' := by
  obtain ⟨i0, hi, hz0, hz1, hz2⟩ := info_parts info5
  have HN := Lib.hid hn
  have HOK := Lib.hid hok
  have hb := Below.refl w.heap.size w
  clear hn hok
  by_cases h : 30 < n
  · go_enter Tryd.func4, Tryd.ntmps4
    go_wp2_with (go_at_call 13; (with_reducible refine (works_from hb ht).mono ?_); clear hb; rintro e w1 ⟨rfl, hb⟩)
    go_ret
    exact ⟨rfl, hb⟩
  · have HM : Hid (n ≤ 30) := Lib.hid (by omega)
    clear hm
    go_enter Tryd.func4, Tryd.ntmps4
    go_wp2
    go_loopw [3, 4] (fun v vi wr => ∃ (k m : Nat) (xs : List (BitVec 8)), k ≤ n ∧ m ≤ 100 * k ∧ vi = .int .i64 (k : Int) ∧ wr.ownsRow w.heap.size 5 1 v m (xs.map byteCell) ∧ Below w.heap.size w wr ∧ Hid (xs = (ps.take k).flatMap (·.l)))
      (fun _ vi _ => n - (intOf vi).toNat)
    case atStart => exact ⟨0, 0, [], Nat.zero_le _, by omega, rfl, World.ownsRow_nil _ _ _ _, Below.refl _ _, Lib.hid rfl⟩
    case round =>
      obtain ⟨k, m, xs, hk, hmk, rfl, hown, hbr, HX⟩ := hrel
      clear hb
      by_cases hlt : k < n
      · have hkl : k < ps.length := by rw [HN.out]; exact hlt
        obtain ⟨b, off, hA, hbb, hc⟩ := hr (by omega)
        have hck := (hbr.cell (p := ⟨b, off + k, none⟩) hbb).trans (hc k _ (List.getElem?_eq_getElem hkl))
        obtain ⟨p, hp⟩ : ∃ p, p = ps[k] := ⟨_, rfl⟩
        rw [← hp] at hck
        have hpo := HOK.out p (by rw [hp]; exact List.getElem_mem hkl)
        have HP := Lib.hid hp
        unfold Pt.val at hck
        have hpl := Lib.hid hpo.1
        have hp3 := hpo.2.2
        have hp2 := hpo.2.1
        clear hr hc hp hpo
        subst hA
        by_cases h100 : 100 < p.n
        · go_wp2_with (go_at_call 13; (with_reducible refine (works_from hbr ht).mono ?_); clear hbr; rintro e w1 ⟨rfl, hbr⟩)
          go_ret
          exact ⟨rfl, hbr⟩
        · clear hp2
          go_wp2_with (at_builtin; refine wpList_append_rd _ rfl _ _ 22 rfl w.heap.size 5 i0 _ Tryd.underlying22 hi hz0 hz1 hz2 rfl _ m _ rfl hown w.heap.size p.A p.n p.c p.l rfl hpl.out (hp3.below hbr) ?_ hbr.size ?_; (have := HM.out; omega); intro v3 w3 hown3 hg3 hat3)
          have hb3 : Below w.heap.size w w3 := hbr.grown hg3 hbr.size (fun g e => (hown.lt g e).1)
          go_roundw
          case rel => exact ⟨k + 1, m + p.n, xs ++ p.l, by omega, by omega, by go_num, by rw [List.map_append]; exact hown3, hb3, Lib.hid (by rw [List.take_succ_eq_append_getElem hkl, List.flatMap_append, ← HX.out, ← HP.out]; simp)⟩
          case measure => simp [intOf]; omega
      · obtain rfl : k = n := by omega
        obtain ⟨A3, c3, rfl⟩ := own_slice hown
        have hxs : xs = ps.flatMap (·.l) := by rw [HX.out, List.take_of_length_le (by rw [HN.out]; exact Nat.le_refl _)]
        have hs : (iv (sumP ps) == iv (sumB xs)) = true := eq_self (by rw [sumP_flat, hxs])
        have hx3 := Rd.of_own hown (Nat.le_refl _)
        have hxl : Hid (xs.length = m) := Lib.hid (by have := hown.1; simpa using this)
        have hb4 : Below wr.heap.size wr wr := Below.refl _ _
        have hm9 : Hid (m ≤ 9223372036854775807) := Lib.hid (by have := HM.out; omega)
        clear hxs HX hown hmk
        go_wp2_with (first
          | (go_at_call 14; (refine (Sum_any ps k c A _ HN (by have := HM.out; omega) ((hr.keep fun _ ha => hbr.cell ha).more hbr.size) (fun q hq => ((HOK.out q hq).keep fun _ ha => hbr.cell ha).more hbr.size) (ht.below hbr)).mono ?_); rintro e w4 ⟨rfl, hb4⟩; have hb4w : Below w.heap.size w w4 := hbr.trans (hb4.mono hbr.size))
          | (go_at_call 15; (refine (refSum_any xs m c3 wr.heap.size A3 _ hxl hm9.out (hx3.below hb4)).mono ?_); rintro e w2 ⟨rfl, rfl⟩)
          | (go_at_call 13; (with_reducible refine (works_from hb4w ht).mono ?_); rintro e w5 ⟨rfl, hb5⟩))
        go_ret
        exact ⟨rfl, hb5⟩
