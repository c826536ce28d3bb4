/-
  The laws' num and same: what they answer. Conditions: the rows' cells lie in memory.
-/
import Derived.Deep.QuietTactic
import Derived.BigQuiet
import Derived.Test.YtneaenplbccpmaaGreatDoorTxLn
namespace Go.Proofs
open Go Go.RowKit Sm Go.Lib
attribute [local go_sem] Oper.semAt_some
theorem Sm.num_any (e : Int) (w : World) : Calls Tryz.prog 20 #[.int .i64 e] w fun r w' => r = .returned (.int .i64 e) ∧ w = w' := by
  go_enter Tryz.func20, Tryz.ntmps20
  go_wp2
  go_ret
  exact ⟨rfl, rfl⟩
/-- a row of texts -/
def Sm.RowS (w : World) (v : Value) (xs : List (List (BitVec 8))) : Prop :=
  ∃ A c, v = .slice A xs.length c ∧ xs.length ≤ c ∧ (xs = [] ∨ ∃ g, A = some ⟨g, 0, none⟩ ∧ g < w.heap.size ∧ ∀ j (h : j < xs.length), w.cell? ⟨g, j, none⟩ = some (.string (strB xs[j])))
theorem Sm.RowS.of {w : World} {base : Nat} {A : Option Addr} {c : Nat} {xs : List (List (BitVec 8))} (h : w.ownsRow base 9 1 (.slice A xs.length c) xs.length (strC xs)) : RowS w (.slice A xs.length c) xs := by
  rcases Nat.eq_zero_or_pos xs.length with e | e
  · exact ⟨A, c, rfl, by omega, .inl (List.length_eq_zero_iff.1 e)⟩
  · obtain ⟨g, cap, eg, hgb, hgl⟩ := h.form e
    injection eg with e1 e2 e3
    subst e1 e3
    refine ⟨_, _, rfl, ?_, .inr ⟨g, rfl, by omega, fun j hj => ?_⟩⟩
    · rcases h.2 with ⟨h1, h2⟩ | ⟨g2, cap, cur, h1, h2, h3, h4, h5, h6, h7⟩
      · omega
      · injection h1 with f1 f2 f3
        omega
    · rw [h.cellAt j (by omega)]
      simp [strC, hj]
theorem Sm.RowS.keep {w w' : World} {v : Value} {xs : List (List (BitVec 8))} (h : RowS w v xs) (hb : Below w.heap.size w w') : RowS w' v xs := by
  obtain ⟨A, c, h1, h2, h3⟩ := h
  refine ⟨A, c, h1, h2, h3.imp id fun ⟨g, e, hg, hc⟩ => ⟨g, e, Nat.lt_of_lt_of_le hg hb.size, fun j hj => (hb.cell (p := ⟨g, j, none⟩) hg).trans (hc j hj)⟩⟩
theorem Sm.RowS.new (w : World) (xs : List (List (BitVec 8))) (_h0 : 0 < xs.length) : RowS (w.alloc (.cells (strC xs).toArray 9)) (.slice (some ⟨w.heap.size, 0, none⟩) xs.length xs.length) xs := by
  refine ⟨_, _, rfl, Nat.le_refl _, .inr ⟨_, rfl, by simp, fun j hj => ?_⟩⟩
  rw [cell_of_heap (World.alloc_heap_new w _) j]
  simp [strC, hj]
theorem Sm.list_inj {a b : ByteArray} (e : a.toList = b.toList) : a = b := by
  rw [ByteArray.toList_eq, ByteArray.toList_eq] at e
  exact ba_ext e
set_option maxRecDepth 100000 in
set_option maxHeartbeats 1000000 in
theorem Sm.same_any (v u : Value) (xs ys : List (List (BitVec 8))) (w : World) (hv : RowS w v xs) (hu : RowS w u ys) (hx : xs.length ≤ 1000000) (_hy : ys.length ≤ 1000000) :
    Calls Tryz.prog 24 #[v, u] w fun e w' => e = .returned (.bool (decide (xs = ys))) ∧ Below w.heap.size w w' := by
  obtain ⟨A, c, rfl, hxc, hA⟩ := hv
  obtain ⟨A2, c2, rfl, hyc, hA2⟩ := hu
  by_cases hl : xs.length = ys.length
  · have HA := Lib.hid hA
    have HA2 := Lib.hid hA2
    clear hA hA2
    go_enter Tryz.func24, Tryz.ntmps24
    go_wp2
    go_loopw [5] (fun vi wr => ∃ k : Nat, k ≤ xs.length ∧ vi = .int .i64 (k : Int) ∧ Hid (xs.take k = ys.take k) ∧ Hid (Below w.heap.size w wr)) (fun vi _ => xs.length - (RowKit.intOf vi).toNat)
    case atStart => exact ⟨0, Nat.zero_le _, rfl, Lib.hid rfl, Lib.hid (Below.refl _ _)⟩
    case round =>
      obtain ⟨wo, rfl⟩ : ∃ wo : World, wo = wr := ⟨_, rfl⟩
      obtain ⟨k, hk, rfl, HT, HB⟩ := hrel
      by_cases hlt : k < xs.length
      · obtain ⟨g, rfl, hg, hgc⟩ := HA.out.resolve_left (fun e => by rw [e] at hlt; simp at hlt)
        obtain ⟨g2, rfl, hg2, hgc2⟩ := HA2.out.resolve_left (fun e => by rw [e] at hl; simp at hl; rw [hl] at hlt; simp at hlt)
        have c1 := (HB.out.cell (p := ⟨g, k, none⟩) hg).trans (hgc k hlt)
        have c3 := (HB.out.cell (p := ⟨g2, k, none⟩) hg2).trans (hgc2 k (by omega))
        have htx : xs.take (k + 1) = xs.take k ++ [xs[k]] := List.take_succ_eq_append_getElem hlt
        have hty : ys.take (k + 1) = ys.take k ++ [ys[k]] := List.take_succ_eq_append_getElem (by omega)
        have HTX := Lib.hid htx
        have HTY := Lib.hid hty
        obtain ⟨a, ha⟩ : ∃ a, xs[k] = a := ⟨_, rfl⟩
        obtain ⟨b, hb⟩ : ∃ b, ys[k] = b := ⟨_, rfl⟩
        have HAX := Lib.hid ha
        have HBY := Lib.hid hb
        rw [ha] at c1
        rw [hb] at c3
        clear htx hty ha hb hgc hgc2
        by_cases hab : a = b
        · subst hab
          obtain ⟨sa, hsa⟩ : ∃ sa, strB a = sa := ⟨_, rfl⟩
          rw [hsa] at c1 c3
          clear hsa
          go_wp2
          go_quiet (fail)
          go_wp2
          refine ⟨⟨k + 1, by omega, by go_num, Lib.hid (by rw [HTX.out, HTY.out, HT.out, HAX.out, HBY.out]), Lib.hid (HB.out.trans ((below_drewN wo _).mono HB.out.size))⟩, by simp [RowKit.intOf]; omega⟩
        · have hse : ((strB a).toList == (strB b).toList) = false := by
            rw [beq_eq_false_iff_ne]
            exact fun e => hab (strB_inj (list_inj e))
          have hse2 : ¬ (strB a).toList = (strB b).toList := fun e => hab (strB_inj (list_inj e))
          have hne : Hid (xs ≠ ys) := Lib.hid (fun e => hab (by rw [← HAX.out, ← HBY.out]; simp only [e]))
          obtain ⟨sa, hsa⟩ : ∃ sa, strB a = sa := ⟨_, rfl⟩
          obtain ⟨sb, hsb⟩ : ∃ sb, strB b = sb := ⟨_, rfl⟩
          rw [hsa, hsb] at hse hse2
          rw [hsa] at c1
          rw [hsb] at c3
          clear hsa hsb
          go_wp2
          go_quiet (fail)
          go_wp2
          go_ret
          exact ⟨by simp [hne.out], HB.out.trans ((below_drewN wo _).mono HB.out.size)⟩
      · obtain rfl : k = xs.length := by omega
        have ht := HT.out
        rw [List.take_of_length_le (Nat.le_refl _), List.take_of_length_le (by omega)] at ht
        go_wp2
        go_ret
        exact ⟨by simp [ht], HB.out⟩
  · have hne : xs ≠ ys := fun e => hl (by rw [e])
    go_enter Tryz.func24, Tryz.ntmps24
    go_wp2
    go_ret
    exact ⟨by simp [hne], Below.refl _ _⟩
end Go.Proofs
