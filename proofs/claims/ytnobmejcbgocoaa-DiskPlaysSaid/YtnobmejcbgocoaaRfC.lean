/-
  The document's name, place of a file, bytes used. Conditions: as each theorem names them.
-/
import Derived.Test.YtnobmejcbgocoaaRfB
namespace Go.Proofs
open Go Go.RowKit Sm Go.Lib Go.Maps Go.WideMaps
attribute [local go_sem] Oper.semAt_some
theorem Sm.get_bang (x : ByteArray) (k : Nat) (h : k < x.size) : (x[k]).toNat = (x.get! k).toNat := by
  cases x with
  | mk a =>
    show (a[k]).toNat = (a[k]!).toNat
    rw [getElem!_pos a k h]
set_option maxRecDepth 100000 in
set_option maxHeartbeats 2000000 in
theorem Sm.refName_any (x : ByteArray) (w : World) (hm : x.size ≤ 1000000) : Calls Try.prog 28 #[.string x] w fun e w' => e = .returned (.bool (nameOK (strL x))) ∧ w = w' := by
  have hl := strL_length x
  by_cases h1 : x.size < 1
  · have h1I : (x.size : Int) < 1 := by omega
    have hr : nameOK (strL x) = false := by
      unfold nameOK
      rw [decide_eq_false (by omega), Bool.false_and]
    have HR := Lib.hid hr
    clear hr
    go_enter Try.func28, Try.ntmps28
    go_wp2
    go_ret
    exact ⟨by rw [HR.out]; rfl, rfl⟩
  by_cases h2 : 20 < x.size
  · have h1I : ¬ (x.size : Int) < 1 := by omega
    have h2I : (20 : Int) < (x.size : Int) := by omega
    have hr : nameOK (strL x) = false := by
      unfold nameOK
      rw [decide_eq_false (by omega), Bool.false_and]
    have HR := Lib.hid hr
    clear hr
    go_enter Try.func28, Try.ntmps28
    go_wp2
    go_ret
    exact ⟨by rw [HR.out]; rfl, rfl⟩
  have h1I : ¬ (x.size : Int) < 1 := by omega
  have h2I : ¬ (20 : Int) < (x.size : Int) := by omega
  have HL := Lib.hid hl
  clear hl
  go_enter Try.func28, Try.ntmps28
  go_wp2
  go_loopw [3] (fun v3 wr => ∃ k : Nat, k ≤ x.size ∧ v3 = .int .i64 (k : Int) ∧ Hid (((strL x).take k).all (fun b => signN b.toNat) = true) ∧ wr = w) (fun v3 _ => x.size - (RowKit.intOf v3).toNat)
  case atStart => exact ⟨0, Nat.zero_le _, rfl, Lib.hid rfl, rfl⟩
  case round =>
    obtain ⟨k, hk, rfl, HA, rfl⟩ := hrel
    by_cases hlt : k < x.size
    · have hkx : k < (strL x).length := by rw [HL.out]; exact hlt
      obtain ⟨b, hb⟩ : ∃ b, (strL x)[k] = b := ⟨_, rfl⟩
      have hbk : (strL x)[k]? = some b := by rw [List.getElem?_eq_getElem hkx, hb]
      have hg := (get_bang x k hlt).trans (byte_get' x hbk)
      have htk : (strL x).take (k + 1) = (strL x).take k ++ [b] := by rw [← hb]; exact List.take_succ_eq_append_getElem hkx
      obtain ⟨y, hy⟩ : ∃ y, b.toNat = y := ⟨_, rfl⟩
      rw [hy] at hg
      have HALL : Hid (signN y = true → ((strL x).take (k + 1)).all (fun b => signN b.toNat) = true) := Lib.hid fun e => by
        rw [htk, List.all_append, HA.out]
        simp [hy, e]
      have HNO : Hid (signN y = false → nameOK (strL x) = false) := Lib.hid fun e => by
        unfold nameOK
        rw [Bool.and_eq_false_iff]
        right
        cases h : (strL x).all (fun b => signN b.toNat) with
        | false => rfl
        | true =>
          have := List.all_eq_true.1 h b (List.mem_of_getElem? hbk)
          rw [hy, e] at this
          cases this
      have hyb : y < 256 := by rw [← hy]; exact b.isLt
      clear htk hb hbk hy
      by_cases cA : 97 ≤ y ∧ y ≤ 122
      · have i1 : ¬ (y : Int) < 97 := by omega
        have i2 : ¬ (122 : Int) < (y : Int) := by omega
        have HA2 := Lib.hid (HALL.out (by unfold signN; exact decide_eq_true (by omega)))
        go_wp2
        go_roundw
        case rel => exact ⟨k + 1, by omega, by go_num, HA2, by first | rfl | trivial⟩
        case measure => simp [RowKit.intOf]; omega
      by_cases cB : 48 ≤ y ∧ y ≤ 57
      · have i1 : (y : Int) < 97 := by omega
        have i2 : ¬ (y : Int) < 48 := by omega
        have i3 : ¬ (57 : Int) < (y : Int) := by omega
        have HA2 := Lib.hid (HALL.out (by unfold signN; exact decide_eq_true (by omega)))
        go_wp2
        go_roundw
        case rel => exact ⟨k + 1, by omega, by go_num, HA2, by first | rfl | trivial⟩
        case measure => simp [RowKit.intOf]; omega
      by_cases cC : y = 46
      · have i1 : (y : Int) < 97 := by omega
        have i2 : (y : Int) < 48 := by omega
        have i3 : ((y : Int) != 46) = false := by rw [cC]; decide
        have HA2 := Lib.hid (HALL.out (by unfold signN; exact decide_eq_true (by omega)))
        go_wp2
        go_roundw
        case rel => exact ⟨k + 1, by omega, by go_num, HA2, by first | rfl | trivial⟩
        case measure => simp [RowKit.intOf]; omega
      have i0 : ((y : Int) != 46) = true := by rw [bne_iff_ne]; omega
      by_cases cD : y < 48
      · have i1 : (y : Int) < 97 := by omega
        have i2 : (y : Int) < 48 := by omega
        have HN2 := Lib.hid (HNO.out (by unfold signN; exact decide_eq_false (by omega)))
        go_wp2
        go_ret
        exact ⟨by rw [HN2.out]; rfl, rfl⟩
      by_cases cE : y < 97
      · have i1 : (y : Int) < 97 := by omega
        have i2 : ¬ (y : Int) < 48 := by omega
        have i3 : (57 : Int) < (y : Int) := by omega
        have HN2 := Lib.hid (HNO.out (by unfold signN; exact decide_eq_false (by omega)))
        go_wp2
        go_ret
        exact ⟨by rw [HN2.out]; rfl, rfl⟩
      · have i1 : ¬ (y : Int) < 97 := by omega
        have i2 : (122 : Int) < (y : Int) := by omega
        have i3 : ¬ (y : Int) < 48 := by omega
        have i4 : (57 : Int) < (y : Int) := by omega
        have HN2 := Lib.hid (HNO.out (by unfold signN; exact decide_eq_false (by omega)))
        go_wp2
        go_ret
        exact ⟨by rw [HN2.out]; rfl, rfl⟩
    · obtain rfl : k = x.size := by omega
      have HR : Hid (nameOK (strL x) = true) := Lib.hid (by
        have h := HA.out
        rw [List.take_of_length_le (by rw [HL.out]; exact Nat.le_refl _)] at h
        unfold nameOK
        rw [h, HL.out, decide_eq_true (by omega)]
        rfl)
      go_wp2
      go_ret
      exact ⟨by rw [HR.out]; rfl, rfl⟩
/-- the value of a disk of the document's -/
def Sm.refV (s : DSt) (A : Option Addr) (n c : Nat) : Value := .agg #[.int .i64 s.room, .slice A n c, .bool s.stops, .int .i64 s.after, .bool s.dead]
set_option maxRecDepth 100000 in
set_option maxHeartbeats 2000000 in
theorem Sm.refAt_any {S : Nat → Prop} (s : DSt) (A : Option Addr) (n c : Nat) (fs : List FileR) (x : ByteArray) (w : World) (h : FsAt S w A fs) (hn : fs.length = n) (hn2 : n ≤ 1000000) :
    Calls Try.prog 27 #[refV s A n c, .string x] w fun e w' => ∃ r : Int, e = .returned (.int .i64 r) ∧ ((r = -1 ∧ ∀ f ∈ fs, f.t.1 ≠ strL x) ∨ ∃ (i : Nat) (f : FileR), r = i ∧ fs[i]? = some f ∧ f.t.1 = strL x) ∧ Below w.heap.size w w' := by
  unfold refV
  obtain ⟨w1, hw1⟩ : ∃ w1, w.alloc (.cells #[.int .i64 s.room, .slice A n c, .bool s.stops, .int .i64 s.after, .bool s.dead] 28) = w1 := ⟨_, rfl⟩
  have hb1 : Below w.heap.size w w1 := by rw [← hw1]; exact (Below.refl _ w).alloc (Nat.le_refl _) _
  have hx1 : w1.heap[w.heap.size]? = some (.cells #[.int .i64 s.room, .slice A n c, .bool s.stops, .int .i64 s.after, .bool s.dead] 28 (0, 0)) := by rw [← hw1]; exact World.alloc_heap_new w _
  have q1 := cell_of_heap hx1 1
  simp only [List.getElem?_toArray, List.getElem?_cons_succ, List.getElem?_cons_zero] at q1
  have H := Lib.hid (h.keep hb1)
  have HN := Lib.hid hn
  have HB1 := Lib.hid hb1
  have hnI : (n : Int) ≤ 1000000 := by omega
  clear h hn hb1 hx1
  go_enter Try.func27, Try.ntmps27
  go_wp2
  go_loopw [5] (fun v5 wr => ∃ k : Nat, k ≤ n ∧ v5 = .int .i64 (k : Int) ∧ Hid (∀ f ∈ fs.take k, f.t.1 ≠ strL x) ∧ wr = w1) (fun v5 _ => n - (RowKit.intOf v5).toNat)
  case atStart => exact ⟨0, Nat.zero_le _, rfl, Lib.hid (fun f hf => by simp at hf), rfl⟩
  case round =>
    obtain ⟨k, hk, rfl, HA, rfl⟩ := hrel
    by_cases hlt : k < n
    · have hkx : k < fs.length := by rw [HN.out]; exact hlt
      obtain ⟨b, off, rfl, hb, _, hcl⟩ := H.out.1 (by omega)
      obtain ⟨f, hf⟩ : ∃ f, fs[k] = f := ⟨_, rfl⟩
      have hfk : fs[k]? = some f := by rw [List.getElem?_eq_getElem hkx, hf]
      have q0 : wr.cell? ⟨b, off + k * 3, none⟩ = some (.string (strB f.t.1)) := hcl k f hfk 0 _ rfl
      have hcmp : ((strB f.t.1).toList == x.toList) = decide (f.t.1 = strL x) := by rw [str_cmp, strL_strB]
      have htk : fs.take (k + 1) = fs.take k ++ [f] := by rw [← hf]; exact List.take_succ_eq_append_getElem hkx
      have HNX : Hid (f.t.1 ≠ strL x → ∀ g ∈ fs.take (k + 1), g.t.1 ≠ strL x) := Lib.hid fun e g hg => by
        rw [htk] at hg
        rcases List.mem_append.1 hg with h1 | h1
        · exact HA.out g h1
        · rw [List.mem_singleton.1 h1]; exact e
      obtain ⟨nm, hnm⟩ : ∃ nm, strB f.t.1 = nm := ⟨_, rfl⟩
      rw [hnm] at q0 hcmp
      have HFK := Lib.hid hfk
      clear hcl hfk htk hf hnm
      by_cases e : f.t.1 = strL x
      · rw [decide_eq_true e] at hcmp
        have HE := Lib.hid e
        clear e
        go_wp2
        go_ret
        exact ⟨(k : Int), rfl, .inr ⟨k, f, rfl, HFK.out, HE.out⟩, HB1.out⟩
      · rw [decide_eq_false e] at hcmp
        have HA2 := Lib.hid (HNX.out e)
        clear e
        go_wp2
        go_roundw
        case rel => exact ⟨k + 1, by omega, by go_num, HA2, by first | rfl | trivial⟩
        case measure => simp [RowKit.intOf]; omega
    · obtain rfl : k = n := by omega
      have HF : Hid (∀ f ∈ fs, f.t.1 ≠ strL x) := Lib.hid (by
        have h := HA.out
        rw [List.take_of_length_le (by rw [HN.out]; exact Nat.le_refl _)] at h
        exact h)
      go_wp2
      go_ret
      exact ⟨-1, rfl, .inl ⟨rfl, HF.out⟩, HB1.out⟩
def Sm.usedR (fs : List FileR) : Nat := (fs.map fun f => f.t.2.1.length).sum
theorem Sm.usedR_map (fs : List FileR) : usedR fs = usedL (fs.map fun f => f.t) := by
  unfold usedR usedL
  rw [List.map_map]
  rfl
set_option maxRecDepth 100000 in
set_option maxHeartbeats 2000000 in
theorem Sm.refUsed_any {S : Nat → Prop} (s : DSt) (A : Option Addr) (n c : Nat) (fs : List FileR) (w : World) (h : FsAt S w A fs) (hn : fs.length = n) (hn2 : n ≤ 1000000) (hu : usedR fs ≤ 1000000000) :
    Calls Try.prog 57 #[refV s A n c] w fun e w' => e = .returned (.int .i64 (usedR fs : Int)) ∧ Below w.heap.size w w' := by
  unfold refV
  obtain ⟨w1, hw1⟩ : ∃ w1, w.alloc (.cells #[.int .i64 s.room, .slice A n c, .bool s.stops, .int .i64 s.after, .bool s.dead] 28) = w1 := ⟨_, rfl⟩
  have hb1 : Below w.heap.size w w1 := by rw [← hw1]; exact (Below.refl _ w).alloc (Nat.le_refl _) _
  have hx1 : w1.heap[w.heap.size]? = some (.cells #[.int .i64 s.room, .slice A n c, .bool s.stops, .int .i64 s.after, .bool s.dead] 28 (0, 0)) := by rw [← hw1]; exact World.alloc_heap_new w _
  have q1 := cell_of_heap hx1 1
  simp only [List.getElem?_toArray, List.getElem?_cons_succ, List.getElem?_cons_zero] at q1
  have H := Lib.hid (h.keep hb1)
  have HN := Lib.hid hn
  have HB1 := Lib.hid hb1
  have HU := Lib.hid hu
  have hnI : (n : Int) ≤ 1000000 := by omega
  clear h hn hb1 hx1 hu
  go_enter Try.func57, Try.ntmps57
  go_wp2
  go_loopw [3, 4] (fun v3 v4 wr => ∃ (k u : Nat), k ≤ n ∧ v3 = .int .i64 (u : Int) ∧ v4 = .int .i64 (k : Int) ∧ Hid (u = usedR (fs.take k)) ∧ wr = w1) (fun _ v4 _ => n - (RowKit.intOf v4).toNat)
  case atStart => exact ⟨0, 0, Nat.zero_le _, rfl, rfl, Lib.hid rfl, rfl⟩
  case round =>
    obtain ⟨k, u, hk, rfl, rfl, HA, rfl⟩ := hrel
    by_cases hlt : k < n
    · have hkx : k < fs.length := by rw [HN.out]; exact hlt
      obtain ⟨b, off, rfl, hb, _, hcl⟩ := H.out.1 (by omega)
      obtain ⟨f, hf⟩ : ∃ f, fs[k] = f := ⟨_, rfl⟩
      have hfk : fs[k]? = some f := by rw [List.getElem?_eq_getElem hkx, hf]
      have q0 : wr.cell? ⟨b, off + k * 3 + 1, none⟩ = some (.slice f.A f.t.2.1.length f.c) := hcl k f hfk 1 _ rfl
      have htk : fs.take (k + 1) = fs.take k ++ [f] := by rw [← hf]; exact List.take_succ_eq_append_getElem hkx
      obtain ⟨lb, hlb⟩ : ∃ lb, f.t.2.1.length = lb := ⟨_, rfl⟩
      rw [hlb] at q0
      have hsum : u + lb = usedR (fs.take (k + 1)) := by
        rw [htk, HA.out, ← hlb]
        unfold usedR
        simp
      have hle : usedR (fs.take (k + 1)) ≤ 1000000000 := by
        refine Nat.le_trans ?_ HU.out
        have e1 : usedR fs = usedR (fs.take (k + 1)) + usedR (fs.drop (k + 1)) := by
          unfold usedR
          rw [← List.sum_append, ← List.map_append, List.take_append_drop]
        omega
      have HSUM := Lib.hid hsum
      have hul : (u : Int) + (lb : Int) ≤ 1000000000 := by omega
      have hu0 : (0 : Int) ≤ (u : Int) + (lb : Int) := by omega
      clear hcl hfk htk hf hsum hle hlb
      go_wp2
      go_roundw
      case rel => exact ⟨k + 1, u + lb, by omega, by go_num, by go_num, HSUM, by first | rfl | trivial⟩
      case measure => simp [RowKit.intOf]; omega
    · obtain rfl : k = n := by omega
      have HF : Hid (u = usedR fs) := Lib.hid (by
        have h := HA.out
        rw [List.take_of_length_le (by rw [HN.out]; exact Nat.le_refl _)] at h
        exact h)
      go_wp2
      go_ret
      exact ⟨by rw [← HF.out]; rfl, HB1.out⟩
end Go.Proofs
