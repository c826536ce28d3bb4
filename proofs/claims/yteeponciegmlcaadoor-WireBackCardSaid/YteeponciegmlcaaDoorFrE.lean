/-
  What a frame is split into; a copy and All of greater rows; bytes that are made. Conditions: what each theorem names.
-/
import Derived.Laws.MakeOwn
import Derived.Test.YteeponciegmlcaaDoorWorks
namespace Go.Proofs
open Go.RowKit Go.Shelf Sm
theorem Sm.seal_ok (l : List (BitVec 8)) : openOk (l ++ leN (sumB l) 4) ∧ openL (l ++ leN (sumB l) 4) = l := by
  have e4 : (l ++ leN (sumB l) 4).length - 4 = l.length := by rw [List.length_append, leN_length]; omega
  have et : (l ++ leN (sumB l) 4).take l.length = l := by rw [List.take_append_of_le_length (Nat.le_refl _), List.take_of_length_le (Nat.le_refl _)]
  have ho : openOk (l ++ leN (sumB l) 4) := by
    unfold openOk
    rw [e4, et, List.drop_append_of_le_length (Nat.le_refl _), List.drop_of_length_le (Nat.le_refl _), List.nil_append]
    exact ⟨by rw [List.length_append, leN_length]; omega, rfl⟩
  refine ⟨ho, ?_⟩
  unfold openL
  rw [if_pos ho, e4, et]
/-- a frame with whatever behind it is split into its bytes -/
theorem Sm.splitS_frame (l r : List (BitVec 8)) (h : l.length ≤ 4096) : splitS (frameB l ++ r) = (l, (frameB l).length, 0) := by
  have hg : getN (frameB l ++ r) = .num (l.length + 4) (numB (l.length + 4)).length := by
    unfold frameB
    rw [List.append_assoc]
    exact getN_numB (by unfold top; omega) _
  have hd : (frameB l ++ r).drop (numB (l.length + 4)).length = (l ++ leN (sumB l) 4) ++ r := by
    unfold frameB
    rw [List.append_assoc]
    exact drop_numB _ _
  have hl4 : (l ++ leN (sumB l) 4).length = l.length + 4 := by rw [List.length_append, leN_length]
  have ht : ((l ++ leN (sumB l) 4) ++ r).take (l.length + 4) = l ++ leN (sumB l) 4 := by
    rw [← hl4, List.take_append_of_le_length (Nat.le_refl _), List.take_of_length_le (Nat.le_refl _)]
  have hlen : (frameB l ++ r).length - (numB (l.length + 4)).length = l.length + 4 + r.length := by
    unfold frameB
    rw [List.length_append, List.length_append, hl4]
    omega
  unfold splitS
  rw [hg]
  simp only
  rw [if_neg (by omega), hlen, if_neg (by omega), hd, ht, if_pos (seal_ok l).1, (seal_ok l).2]
  unfold frameB
  rw [List.length_append, hl4]
/-- bytes that are made -/
theorem Sm.make_bytes (N : Nat) (hN : N ≤ 10000000) : ∃ (Z : Array Value) (l : List (BitVec 8)), l.length = N ∧ Z.toList = l.map byteCell ∧ ∀ w : World, (Instr.makeSlice 27 (.int .i64 (N : Int)) (.int .i64 (N : Int))).run Tryd.prog w = .ok (.slice (some ⟨w.heap.size, 0, none⟩) N N) (w.alloc (.cells Z 5)) := by
  obtain ⟨i0, hi, hz0, hz1, hz2⟩ := info_parts info5
  refine ⟨madeCells (Value.int .u8 0).cells (N * 1), List.replicate N 0#8, by simp, ?_, fun w => ?_⟩
  · have hs : (madeCells (Value.int .u8 0).cells (N * 1)).size = N := by rw [size_madeCells]; omega
    apply List.ext_getElem
    · rw [Array.length_toList, hs]
      simp
    · intro i h1 h2
      simp [madeCells, Value.cells, byteCell, ib, Nat.mod_one]
  · have := run_makeSlice (P := Tryd.prog) (w := w) 27 5 i0 _ Tryd.underlying27 hi hz0 .i64 .i64 (N : Int) (N : Int) (by omega) (by omega) (by rw [hz1]; simp; omega) (by rw [hz2]; omega) (by omega)
    rw [this, hz1]
    simp
theorem Sm.Clone_big (l : List (BitVec 8)) (n c N : Nat) (ad : Addr) (w : World) (hn : Hid (l.length = n)) (hm : n ≤ 100000000) (hN : N ≤ w.heap.size) (hr : Rd w N (some ad) l) :
    Calls Tryd.prog 40 #[.slice (some ad) n c] w fun e w' => ∃ v, e = .returned v ∧ w'.ownsRow w.heap.size 5 1 v n (l.map byteCell) ∧ Below w.heap.size w w' := by
  obtain ⟨i0, hi, hz0, hz1, hz2⟩ := info_parts info5
  have hq : ∀ wx : World, (binOp .eql 27 (.slice (some ad) n c) (.slice none 0 0)).run Tryd.prog wx = .ok (.bool false) wx := fun wx => Lib.run_eql_slice_nil wx 27 5 (some ad) n c 0 0 Tryd.underlying27
  go_enter Tryd.func40, Tryd.ntmps40
  go_wp2_with (at_builtin; refine wpList_append_own_at _ rfl _ _ 27 rfl w.heap.size 5 i0 _ 1 1 Tryd.underlying27 hi hz0 hz1 hz2 rfl (by decide) _ 0 [] rfl ?_ ad n c (l.map byteCell) rfl ?_ ?_ ?_ ?_ ?_ ?_ ?_; exact World.ownsRow_made w #[] 0 (Nat.le_refl _) (by decide) rfl; (rw [List.length_map, hn.out, Nat.mul_one]); exact (hr.alloc hN _).news; exact byteCell_one l; (unfold maxLen; omega); omega; (simp); intro v3 w3 hown3 hg3 _ _)
  go_ret
  refine ⟨v3, rfl, by simpa using hown3, ?_⟩
  refine ((Below.refl _ _).alloc (Nat.le_refl _) _).grown hg3 (by simp) (fun g e => ?_)
  cases e
  exact Nat.le_refl _
theorem Sm.All_big {B : Nat} {v : Value} {l : List (BitVec 8)} (w : World) (h : Wr w B v l) (hm : l.length ≤ 100000000) (h0 : 0 < l.length) : Calls Tryd.prog 17 #[.pointer (some ⟨B, 0, none⟩)] w fun e w' => ∃ A c, e = .returned (.slice A l.length c) ∧ Below w.heap.size w w' := by
  have hc0 := h.cell0
  obtain ⟨A, c, rfl⟩ := own_slice h.2
  have hr : Rd w w.heap.size A l := Rd.of_own h.2 (Nat.le_refl _)
  obtain ⟨b, off, rfl, _⟩ := hr h0
  go_enter Tryd.func17, Tryd.ntmps17
  go_wp2_with (first
    | (go_at_call 39; (with_reducible refine (there_any _ h).mono ?_); rintro e w1 ⟨rfl, rfl⟩)
    | (go_at_call 40; (with_reducible refine (Clone_big l l.length c w.heap.size _ _ (Lib.hid rfl) hm (Nat.le_refl _) hr).mono ?_); rintro e w1 ⟨u, rfl, hown, hb⟩))
  obtain ⟨A1, c1, rfl⟩ := own_slice hown
  go_ret
  exact ⟨_, _, rfl, hb⟩
end Go.Proofs
