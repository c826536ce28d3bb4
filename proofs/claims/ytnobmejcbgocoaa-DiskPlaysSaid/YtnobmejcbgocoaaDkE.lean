/-
  The first bytes of a file, a file cut, a file made sure. Conditions: as each theorem names them.
-/
import Derived.Deep.Onto
import Derived.Test.YtnobmejcbgocoaaDkD
namespace Go.Proofs
open Go Go.RowKit Sm Go.Lib Go.Maps Go.WideMaps
attribute [local go_sem] Oper.semAt_some
theorem Sm.bytes_int (l : List (BitVec 8)) : (l.map ib).map (Value.int .u8) = l.map byteCell := by
  rw [List.map_map]
  rfl
theorem Sm.own_cells {w : World} {base n c : Nat} {g : Nat} {l : List (BitVec 8)} (h : w.ownsRow base 5 1 (.slice (some ⟨g, 0, none⟩) n c) n (l.map byteCell)) {k : Nat} (hk : k ≤ n) : ∀ i, i < k → w.cell? ((⟨g, 0, none⟩ : Addr).add i) = some (.int .u8 (((l.take k).map ib).getD i 0)) := fun i hi => by
  have hlen : l.length = n := by have := h.1; simpa using this
  have h1 := h.cellAt i (by omega)
  have hil : i < l.length := by omega
  rw [List.getElem?_map, List.getElem?_eq_getElem hil] at h1
  have h2 : ((l.take k).map ib).getD i 0 = ib l[i] := by
    rw [List.getD_eq_getElem?_getD, List.getElem?_map, List.getElem?_take, if_pos hi, List.getElem?_eq_getElem hil]
    rfl
  rw [h2]
  have h3 : (⟨g, 0, none⟩ : Addr).add i = ⟨g, i, none⟩ := by
    unfold Addr.add
    split
    · rename_i e; rw [e]
    · simp
  rw [h3]
  exact h1
set_option maxRecDepth 100000 in
theorem Sm.first_any {base n c : Nat} (A : Option Addr) (l : List (BitVec 8)) (k : Nat) (w : World) (h : w.ownsRow base 5 1 (.slice A n c) n (l.map byteCell)) (hk : k ≤ n) (hn : n ≤ 1000000000) :
    Calls Try.prog 37 #[.slice A n c, .int .i64 (k : Int)] w fun e w' => ∃ A' c', e = .returned (.slice A' k c') ∧ w'.ownsRow w.heap.size 5 1 (.slice A' k c') k ((l.take k).map byteCell) ∧ Below w.heap.size w w' := by
  have hlen : l.length = n := by have := h.1; simpa using this
  rcases h.2 with ⟨e, hz⟩ | ⟨g, cap, cur, e, hgb, hgh, hcap, hmx, hcs, hcur⟩
  · injection e with e1 e2 e3
    subst e1 e2 e3
    obtain rfl : k = 0 := by omega
    have hcl := Try.bytes_Clone_nil 0 0 w
    clear h hlen
    go_enter Try.func37, Try.ntmps37
    go_wp2_with (go_at_call 61; (with_reducible refine hcl.mono ?_); rintro e w' ⟨rfl, rfl⟩)
    go_ret
    exact ⟨none, 0, rfl, World.ownsRow_nil _ _ _ _, Below.refl _ _⟩
  · injection e with e1 e2 e3
    subst e1 e3
    have hcl := Try.bytes_Clone_at ⟨g, 0, none⟩ k k ((l.take k).map ib) w (by simp; omega) (by omega) (own_cells h hk)
    rw [bytes_int] at hcl
    have hk1 : (k : Int) ≤ (n : Int) := by omega
    have hk2 : (n : Int) ≤ (c : Int) := by omega
    have hkI : (k : Int) ≤ (c : Int) := by omega
    have hkb : (k : Int) ≤ 1000000000 := by omega
    clear h hcur hcs hgh hlen
    go_enter Try.func37, Try.ntmps37
    go_wp2_with (go_at_call 61; (with_reducible refine hcl.mono ?_); rintro e w' ⟨v', rfl, hown, _, hb⟩; obtain ⟨A', c', rfl⟩ := own_slice hown)
    go_ret
    exact ⟨A', c', rfl, hown, hb⟩
set_option maxRecDepth 100000 in
set_option maxHeartbeats 1000000 in
theorem Sm.cut_any {base n c : Nat} (A : Option Addr) (l : List (BitVec 8)) (sv k : Nat) (w : World) (h : w.ownsRow base 5 1 (.slice A n c) n (l.map byteCell)) (hk : k ≤ n) (hn : n ≤ 1000000000) :
    Calls Try.prog 42 #[.agg #[.slice A n c, .int .i64 (sv : Int)], .int .i64 (k : Int)] w fun e w' => ∃ A' c', e = .returned (.agg #[.slice A' k c', .int .i64 ((min sv k : Nat) : Int)]) ∧ w'.ownsRow w.heap.size 5 1 (.slice A' k c') k ((l.take k).map byteCell) ∧ Below w.heap.size w w' := by
  obtain ⟨w1, hw1⟩ : ∃ w1, (w.alloc (.cells #[.slice A n c, .int .i64 (sv : Int)] 79)).alloc (.cells #[.slice none 0 0, .int .i64 0] 79) = w1 := ⟨_, rfl⟩
  have hb1 : Below w.heap.size w w1 := by rw [← hw1]; exact ((Below.refl _ w).alloc (Nat.le_refl _) _).alloc (by simp) _
  have hx1 : w1.heap[w.heap.size]? = some (.cells #[.slice A n c, .int .i64 (sv : Int)] 79 (0, 0)) := by rw [← hw1]; exact (Below.heap_alloc _ _ _ (by simp)).trans (World.alloc_heap_new w _)
  have hr1 : w1.heap[w.heap.size + 1]? = some (.cells #[.slice none 0 0, .int .i64 0] 79 (0, 0)) := by
    rw [← hw1]
    have := World.alloc_heap_new (w.alloc (.cells #[.slice A n c, .int .i64 (sv : Int)] 79)) (.cells #[.slice none 0 0, .int .i64 0] 79)
    rwa [World.size_alloc] at this
  have hf := fun W (hb : Below w.heap.size w W) => first_any A l k W (own_below h hb) hk hn
  have hxl := (Array.getElem?_eq_some_iff.1 hx1).1
  have hrl := (Array.getElem?_eq_some_iff.1 hr1).1
  have hS : ∀ W, Below w1.heap.size w1 W → W.cell? ⟨w.heap.size, 0, none⟩ = some (.slice A n c) ∧ W.cell? ⟨w.heap.size, 1, none⟩ = some (.int .i64 (sv : Int)) := fun W hb => ⟨cell_of_heap ((hb.block _ hxl).trans hx1) 0, cell_of_heap ((hb.block _ hxl).trans hx1) 1⟩
  have HS := Lib.hid hS
  have HF := Lib.hid hf
  have HB1 := Lib.hid hb1
  have HR1 := Lib.hid hr1
  have q0 := hS w1 (Below.refl _ _)
  have hmin : Hid (min (sv : Int) (k : Int) = ((min sv k : Nat) : Int)) := Lib.hid (by omega)
  have HX1 := Lib.hid hx1
  clear h hb1 hx1 hr1 hS hf
  go_enter Try.func42, Try.ntmps42
  go_upto_region 1 with fail
  go_region_held_law (fun W => W.cell? ⟨w.heap.size, 0, none⟩ = some (.slice A n c) ∧ W.cell? ⟨w.heap.size, 1, none⟩ = some (.int .i64 (sv : Int)))
    (first | exact q2 _ _ | exact q1 | exact q0)
    (first | (go_at_call 37; (with_reducible refine (HF.out _ (HB1.out.drew)).mono ?_); rintro e w4 ⟨A', c', rfl, hown, hb4⟩; have HB4 : Hid (Below w1.heap.size w1 w4) := Lib.hid ((Below.refl _ _).drew.trans hb4); have q1 := HS.out w4 HB4.out; have hr4 := (HB4.out.block _ hrl).trans HR1.out; have r0 := cell_of_heap hr4 0; have r1 := cell_of_heap hr4 1; have f0 := frozen_of_heap hr4 0; have f1 := frozen_of_heap hr4 1; simp only [List.getElem?_toArray, List.getElem?_cons_zero, List.getElem?_cons_succ] at r0 r1
              have q2 : ∀ u v : Value, ((w4.setCell ⟨w.heap.size + 1, 0, none⟩ u).setCell ⟨w.heap.size + 1, 1, none⟩ v).cell? ⟨w.heap.size, 0, none⟩ = some (.slice A n c) ∧ ((w4.setCell ⟨w.heap.size + 1, 0, none⟩ u).setCell ⟨w.heap.size + 1, 1, none⟩ v).cell? ⟨w.heap.size, 1, none⟩ = some (.int .i64 (sv : Int)) := fun u v => by
                have h5 := (Below.heap_setCell (w4.setCell ⟨w.heap.size + 1, 0, none⟩ u) ⟨w.heap.size + 1, 1, none⟩ v w.heap.size (by simp)).trans ((Below.heap_setCell w4 ⟨w.heap.size + 1, 0, none⟩ u w.heap.size (by simp)).trans ((HB4.out.block _ hxl).trans HX1.out))
                exact ⟨cell_of_heap h5 0, cell_of_heap h5 1⟩))
  all_goals
    go_wp2
    have hz := file_cells (u := .slice A' k c') (v := .int .i64 (min (sv : Int) (k : Int))) hr4
    have z0 := cell_of_heap hz 0
    have z1 := cell_of_heap hz 1
    simp only [List.getElem?_toArray, List.getElem?_cons_zero, List.getElem?_cons_succ] at z0 z1
    have hb45 : But (fun b => b = w.heap.size + 1) w4 ((w4.setCell ⟨w.heap.size + 1, 0, none⟩ (.slice A' k c')).setCell ⟨w.heap.size + 1, 1, none⟩ (.int .i64 (min (sv : Int) (k : Int)))) := ((But.refl (fun b => b = w.heap.size + 1) w4).set ⟨w.heap.size + 1, 0, none⟩ _ (.inl rfl)).set ⟨w.heap.size + 1, 1, none⟩ _ (.inl rfl)
    have hrow := World.ownsRow.mono (hb45.row hown (fun g e1 e2 => by have h6 : w1.heap.size ≤ g := (hown.lt g e1).1; omega)) (show w.heap.size ≤ w1.drew.heap.size from HB1.out.size)
    have hbz := ((HB1.out.trans (HB4.out.mono HB1.out.size)).setCell (p := ⟨w.heap.size + 1, 0, none⟩) (by simp) (.slice A' k c')).setCell (p := ⟨w.heap.size + 1, 1, none⟩) (by simp) (.int .i64 (min (sv : Int) (k : Int)))
    refine bodyPost_ret (v := .agg #[.slice A' k c', .int .i64 (min (sv : Int) (k : Int))]) ?_ rfl ⟨A', c', by rw [hmin.out], hrow, hbz⟩
    simp [results, Try.results42, go_sem, z0, z1]
theorem Sm.synced_any {n c : Nat} (A : Option Addr) (sv : Int) (w : World) : Calls Try.prog 44 #[.agg #[.slice A n c, .int .i64 sv]] w fun e w' => e = .returned (.agg #[.slice A n c, .int .i64 (n : Int)]) ∧ Below w.heap.size w w' := by
  go_enter Try.func44, Try.ntmps44
  go_wp2
  exact bodyPost_ret (v := .agg #[.slice A n c, .int .i64 (n : Int)]) (by simp [results, Try.results44, go_sem]) rfl ⟨rfl, (((Below.refl _ w).alloc (Nat.le_refl _) _).alloc (by simp) _)⟩
end Go.Proofs
