/-
  Fold, the program's and the document's: capital letters become small ones. Condition: a text that is not too long.
-/
import Derived.Lib.ConvBytes
import Derived.Test.YtneaenplbccpmaaGreatDoorStr
import Derived.Test.YtneaenplbccpmaaGreatDoorWBut
import Derived.Test.YtneaenplbccpmaaGreatDoorTxE
namespace Go.Proofs
open Go Go.RowKit Sm Go.Lib
def Sm.foldB (b : BitVec 8) : BitVec 8 := if 65 ≤ b.toNat ∧ b.toNat ≤ 90 then b + 32#8 else b
/-- bytes of which the first k are folded -/
def Sm.foldK (l : List (BitVec 8)) (k : Nat) : List (BitVec 8) := (l.take k).map foldB ++ l.drop k
def Sm.foldS (s : ByteArray) : ByteArray := strB ((strL s).map foldB)
theorem Sm.foldK_len (l : List (BitVec 8)) (k : Nat) : (foldK l k).length = l.length := by
  unfold foldK
  rw [List.length_append, List.length_map, List.length_take, List.length_drop]
  omega
theorem Sm.foldK_at {l : List (BitVec 8)} {k : Nat} (h : k < l.length) : (foldK l k)[k]? = some l[k] := by
  unfold foldK
  rw [List.getElem?_append_right (by rw [List.length_map, List.length_take]; omega), List.length_map, List.length_take, List.getElem?_drop]
  rw [show k + (k - min k l.length) = k by omega, List.getElem?_eq_getElem h]
theorem Sm.foldK_succ {l : List (BitVec 8)} {k : Nat} (h : k < l.length) : foldK l (k + 1) = (foldK l k).set k (foldB l[k]) := by
  unfold foldK
  rw [List.take_succ_eq_append_getElem h, List.map_append, List.append_assoc]
  rw [List.set_append_right _ _ (by rw [List.length_map, List.length_take]; omega)]
  congr 1
  rw [List.length_map, List.length_take, show k - min k l.length = 0 by omega, List.drop_eq_getElem_cons h]
  rfl
theorem Sm.foldK_same {l : List (BitVec 8)} {k : Nat} (h : k < l.length) (hb : foldB l[k] = l[k]) : foldK l (k + 1) = foldK l k := by
  rw [foldK_succ h, hb]
  have := foldK_at h
  apply List.ext_getElem?
  intro i
  rw [List.getElem?_set]
  split
  · rename_i e
    subst e
    rw [this, if_pos (by rw [foldK_len]; exact h)]
  · rfl
theorem Sm.foldK_all (l : List (BitVec 8)) : foldK l l.length = l.map foldB := by
  unfold foldK
  simp
/-- bytes of a text's own, in a block that the call made -/
structure Sm.FoldAt (w wr : World) (l : List (BitVec 8)) : Prop where
  box : ∃ (cs : Array Value) (fz : Nat × Nat), wr.heap[w.heap.size]? = some (.cells cs 5 fz) ∧ cs.size ≤ fz.1 ∧ l.length ≤ cs.size ∧ ∀ (j : Nat) (b : BitVec 8), l[j]? = some b → cs[j]? = some (Value.int .u8 (ib b))
  below : Below w.heap.size w wr
theorem Sm.FoldAt.cell {w wr : World} {l : List (BitVec 8)} (h : FoldAt w wr l) {j : Nat} {b : BitVec 8} (hj : l[j]? = some b) : wr.cell? ⟨w.heap.size, j, none⟩ = some (.int .u8 (ib b)) ∧ wr.frozen? ⟨w.heap.size, j, none⟩ = false := by
  obtain ⟨cs, fz, h1, h2, h3, h4⟩ := h.box
  have hl := (List.getElem?_eq_some_iff.1 hj).1
  refine ⟨(cell_of_heap h1 j).trans (h4 j b hj), ?_⟩
  simp [World.frozen?, h1]
  omega
theorem Sm.FoldAt.set {w wr : World} {l : List (BitVec 8)} (h : FoldAt w wr l) (j : Nat) (y : BitVec 8) : FoldAt w (wr.setCell ⟨w.heap.size, j, none⟩ (.int .u8 (ib y))) (l.set j y) := by
  obtain ⟨cs, fz, h1, h2, h3, h4⟩ := h.box
  refine ⟨⟨cs.setIfInBounds j (.int .u8 (ib y)), fz, heap_setCells (i := j) (u := .int .u8 (ib y)) h1, by simpa using h2, by simpa using h3, fun i b hb => ?_⟩, h.below.setCell (p := ⟨w.heap.size, j, none⟩) (Nat.le_refl _) _⟩
  rw [List.getElem?_set] at hb
  split at hb
  · rename_i e
    subst e
    split at hb
    · rename_i hl
      simp at hb
      subst hb
      rw [Array.getElem?_setIfInBounds_self_of_lt (by omega)]
    · cases hb
  · rename_i e
    rw [Array.getElem?_setIfInBounds_ne e]
    exact h4 i b hb
theorem Sm.conv_fold (s : ByteArray) (w : World) : ∃ c w', (convert 9 38 (.string s)).run Tryz.prog w = .ok (.slice (some ⟨w.heap.size, 0, none⟩) s.size c) w' ∧ FoldAt w w' (strL s) ∧ s.size ≤ c := by
  refine ⟨_, _, Lib.run_convert_string_bytes w 9 38 5 s Tryz.underlying9 Tryz.underlying38 Tryz.underlying5, ⟨⟨_, _, Lib.bytesWorld_at_new w 5 s, Nat.le_refl _, ?_, fun j b hj => ?_⟩, ⟨rfl, rfl, rfl, by rw [Lib.bytesWorld_size]; omega, fun k hk => Lib.bytesWorld_at_old w 5 s k hk⟩⟩, grownCap_ge _ _ _ _⟩
  · rw [strL_length]
    simp [Lib.bytesCells]
  · have hjl := (List.getElem?_eq_some_iff.1 hj).1
    rw [strL_length] at hjl
    have := Lib.bytesWorld_cell w 5 s j hjl
    rw [cell_of_heap (Lib.bytesWorld_at_new w 5 s)] at this
    rw [this]
    unfold strL at hj
    rw [List.getElem?_map] at hj
    have hj2 : s.data.toList[j]? = some s.data.toList[j] := List.getElem?_eq_getElem (by simpa using hjl)
    rw [hj2] at hj
    simp only [Option.map_some, Option.some.injEq] at hj
    subst hj
    rw [List.getD_eq_getElem?_getD, hj2]
    rfl
theorem Sm.FoldAt.rd {w wr : World} {l : List (BitVec 8)} (h : FoldAt w wr l) : Rd wr wr.heap.size (some ⟨w.heap.size, 0, none⟩) l := fun _ => by
  obtain ⟨cs, fz, h1, h2, h3, h4⟩ := h.box
  exact ⟨w.heap.size, 0, rfl, (Array.getElem?_eq_some_iff.1 h1).1, fun j c hj => by rw [Nat.zero_add, cell_of_heap h1, h4 j c hj]⟩
theorem Sm.foldB_ib {b : BitVec 8} (h0 : 65 ≤ ib b) (h1 : ib b ≤ 90) : foldB b = b + 32#8 ∧ ib (b + 32#8) = ib b + 32 := by
  unfold ib at *
  have hb := b.isLt
  refine ⟨by unfold foldB; rw [if_pos (by omega)], ?_⟩
  rw [BitVec.toNat_add]
  simp
  omega
theorem Sm.foldB_no {b : BitVec 8} (h : ¬ (65 ≤ ib b ∧ ib b ≤ 90)) : foldB b = b := by
  unfold ib at h
  unfold foldB
  rw [if_neg (by omega)]
set_option maxRecDepth 100000 in
set_option maxHeartbeats 2000000 in
theorem Sm.Fold_any (s : ByteArray) (w : World) (hm : s.size ≤ 1000000) : Calls Tryz.prog 18 #[.string s] w fun e w' => e = .returned (.string (foldS s)) ∧ Below w.heap.size w w' := by
  obtain ⟨c, w1, hcv, hF, hc⟩ := conv_fold s w
  have hl := strL_length s
  unfold foldS
  obtain ⟨l, hle⟩ : ∃ l, strL s = l := ⟨_, rfl⟩
  rw [hle] at hF hl ⊢
  have hF0 : FoldAt w w1 (foldK l 0) := by unfold foldK; simpa using hF
  have HF0 := Lib.hid hF0
  have HL := Lib.hid hl
  clear hF hF0 hl hle
  go_enter Tryz.func18, Tryz.ntmps18
  go_wp2
  clear hcv
  go_loopw [10] (fun vi wr => ∃ k : Nat, k ≤ s.size ∧ vi = .int .i64 (k : Int) ∧ Hid (FoldAt w wr (foldK l k))) (fun vi _ => s.size - (RowKit.intOf vi).toNat)
  case atStart => exact ⟨0, Nat.zero_le _, rfl, HF0⟩
  case round =>
    obtain ⟨k, hk, rfl, HF⟩ := hrel
    clear HF0
    by_cases hlt : k < s.size
    · have hkl : k < l.length := by have := HL.out; omega
      obtain ⟨b, hb⟩ : ∃ b, l[k] = b := ⟨_, rfl⟩
      have hat := foldK_at hkl
      rw [hb] at hat
      obtain ⟨c0, f0⟩ := HF.out.cell hat
      have hlo := ib_lo b
      have hhi := ib_hi b
      by_cases hcap : 65 ≤ ib b ∧ ib b ≤ 90
      · obtain ⟨g1, g2⟩ := foldB_ib hcap.1 hcap.2
        obtain ⟨q0, q1⟩ := hcap
        have hsc := foldK_succ hkl
        rw [hb, g1] at hsc
        have HS : Hid (FoldAt w (wr.setCell ⟨w.heap.size, k, none⟩ (.int .u8 (ib b + 32))) (foldK l (k + 1))) := Lib.hid (by rw [hsc, ← g2]; exact HF.out.set k (b + 32#8))
        have e1 : ib b - 65 + 97 = ib b + 32 := by omega
        clear hat hb g1 g2 hsc
        go_wp2
        go_roundw
        case rel => exact ⟨k + 1, by omega, by go_num, HS⟩
        case measure => simp [RowKit.intOf]; omega
      · have hsc := foldK_same hkl (by rw [hb]; exact foldB_no hcap)
        have HS : Hid (FoldAt w wr (foldK l (k + 1))) := Lib.hid (by rw [hsc]; exact HF.out)
        clear hat hb hsc
        by_cases q0 : 65 ≤ ib b
        · have q1 : ¬ ib b ≤ 90 := fun h => hcap ⟨q0, h⟩
          clear hcap
          go_wp2
          go_roundw
          case rel => exact ⟨k + 1, by omega, by go_num, HS⟩
          case measure => simp [RowKit.intOf]; omega
        · clear hcap
          go_wp2
          go_roundw
          case rel => exact ⟨k + 1, by omega, by go_num, HS⟩
          case measure => simp [RowKit.intOf]; omega
    · obtain rfl : k = s.size := by omega
      have hall : foldK l s.size = l.map foldB := by rw [← HL.out]; exact foldK_all l
      rw [hall] at HF
      have hst := run_str (P := Tryz.prog) wr 38 5 Tryz.underlying38 Tryz.underlying5 (l.map foldB) s.size c wr.heap.size (some ⟨w.heap.size, 0, none⟩) (by rw [List.length_map, HL.out]) HF.out.rd 9 Tryz.underlying9
      clear hall
      go_wp2
      go_ret
      exact ⟨rfl, HF.out.below⟩
set_option maxRecDepth 100000 in
set_option maxHeartbeats 2000000 in
theorem Sm.refFold_any (s : ByteArray) (w : World) (hm : s.size ≤ 1000000) : Calls Tryz.prog 19 #[.string s] w fun e w' => e = .returned (.string (foldS s)) ∧ Below w.heap.size w w' := by
  obtain ⟨c, w1, hcv, hF, hc⟩ := conv_fold s w
  have hl := strL_length s
  unfold foldS
  obtain ⟨l, hle⟩ : ∃ l, strL s = l := ⟨_, rfl⟩
  rw [hle] at hF hl ⊢
  have hF0 : FoldAt w w1 (foldK l 0) := by unfold foldK; simpa using hF
  have HF0 := Lib.hid hF0
  have HL := Lib.hid hl
  clear hF hF0 hl hle
  go_enter Tryz.func19, Tryz.ntmps19
  go_wp2
  clear hcv
  go_loopw [4] (fun vi wr => ∃ k : Nat, k ≤ s.size ∧ vi = .int .i64 (k : Int) ∧ Hid (FoldAt w wr (foldK l k))) (fun vi _ => s.size - (RowKit.intOf vi).toNat)
  case atStart => exact ⟨0, Nat.zero_le _, rfl, HF0⟩
  case round =>
    obtain ⟨k, hk, rfl, HF⟩ := hrel
    clear HF0
    by_cases hlt : k < s.size
    · have hkl : k < l.length := by have := HL.out; omega
      obtain ⟨b, hb⟩ : ∃ b, l[k] = b := ⟨_, rfl⟩
      have hat := foldK_at hkl
      rw [hb] at hat
      obtain ⟨c0, f0⟩ := HF.out.cell hat
      have hlo := ib_lo b
      have hhi := ib_hi b
      by_cases hcap : 65 ≤ ib b ∧ ib b ≤ 90
      · obtain ⟨g1, g2⟩ := foldB_ib hcap.1 hcap.2
        obtain ⟨q0, q1⟩ := hcap
        have hsc := foldK_succ hkl
        rw [hb, g1] at hsc
        have HS : Hid (FoldAt w (wr.setCell ⟨w.heap.size, k, none⟩ (.int .u8 (ib b + 32))) (foldK l (k + 1))) := Lib.hid (by rw [hsc, ← g2]; exact HF.out.set k (b + 32#8))
        skip
        clear hat hb g1 g2 hsc
        go_wp2
        go_roundw
        case rel => exact ⟨k + 1, by omega, by go_num, HS⟩
        case measure => simp [RowKit.intOf]; omega
      · have hsc := foldK_same hkl (by rw [hb]; exact foldB_no hcap)
        have HS : Hid (FoldAt w wr (foldK l (k + 1))) := Lib.hid (by rw [hsc]; exact HF.out)
        clear hat hb hsc
        by_cases q0 : 65 ≤ ib b
        · have q1 : ¬ ib b ≤ 90 := fun h => hcap ⟨q0, h⟩
          clear hcap
          go_wp2
          go_roundw
          case rel => exact ⟨k + 1, by omega, by go_num, HS⟩
          case measure => simp [RowKit.intOf]; omega
        · clear hcap
          go_wp2
          go_roundw
          case rel => exact ⟨k + 1, by omega, by go_num, HS⟩
          case measure => simp [RowKit.intOf]; omega
    · obtain rfl : k = s.size := by omega
      have hall : foldK l s.size = l.map foldB := by rw [← HL.out]; exact foldK_all l
      rw [hall] at HF
      have hst := run_str (P := Tryz.prog) wr 38 5 Tryz.underlying38 Tryz.underlying5 (l.map foldB) s.size c wr.heap.size (some ⟨w.heap.size, 0, none⟩) (by rw [List.length_map, HL.out]) HF.out.rd 9 Tryz.underlying9
      clear hall
      go_wp2
      go_ret
      exact ⟨rfl, HF.out.below⟩
end Go.Proofs
