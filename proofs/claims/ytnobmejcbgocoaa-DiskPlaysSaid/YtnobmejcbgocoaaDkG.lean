/-
  New, Stop, Used, Dead, Read, Sure, Names. Conditions: as each theorem names them.
-/
import Derived.Test.YtnobmejcbgocoaaDkF
namespace Go.Proofs
open Go Go.RowKit Sm Go.Lib Go.Maps Go.WideMaps
attribute [local go_sem] Oper.semAt_some
theorem Sm.empty_any (r : Int) (w : World) (h0 : 0 < r) (h1 : r ≤ 16777216) : Calls Try.prog 39 #[.int .i64 r] w fun e w' =>
    e = .returned (.pointer (some ⟨w.heap.size + 1, 0, none⟩)) ∧ DAt w' (w.heap.size + 1) w.heap.size (w.heap.size + 2) ⟨false, 0, false, r⟩ [] ∧ Below w.heap.size w w' := by
  obtain ⟨w1, hw1⟩ : ∃ w1, w.alloc (.map #[] 0) = w1 := ⟨_, rfl⟩
  have hm := World.ownsMap_made w Try.prog 9 heldElem
  rw [hw1] at hm
  have hs1 : w1.heap.size = w.heap.size + 1 := by rw [← hw1]; simp
  have hb1 : Below w.heap.size w w1 := by rw [← hw1]; exact (Below.refl _ w).alloc (Nat.le_refl _) _
  obtain ⟨w2, hw2⟩ : ∃ w2, w1.alloc (.cells #[.bool false, .int .i64 0, .bool false, .int .i64 r, .int .i64 0, .map (some w.heap.size)] 35) = w2 := ⟨_, rfl⟩
  have hx2 : w2.heap[w.heap.size + 1]? = some (.cells #[.bool false, .int .i64 0, .bool false, .int .i64 r, .int .i64 0, .map (some w.heap.size)] 35 (0, 0)) := by
    rw [← hw2, ← hs1]
    exact World.alloc_heap_new w1 _
  have hD : DAt w2 (w.heap.size + 1) w.heap.size (w.heap.size + 2) ⟨false, 0, false, r⟩ [] := by
    refine ⟨hx2, ⟨_, by rw [← hw2]; exact hm.alloc _, MapIs.nil⟩, List.Pairwise.nil, fun f hf => (by cases hf), fun f hf => (by cases hf), ⟨by omega, by omega, by omega, by rw [← hw2]; simp; omega⟩, ⟨h0, h1, by simp [usedG]; omega⟩, ⟨Int.le_refl 0, by show (0 : Int) ≤ 9223372036854775807; decide⟩, fun f hf => (by cases hf)⟩
  have hb2 : Below w.heap.size w w2 := by rw [← hw2]; exact hb1.alloc hb1.size _
  have HD := Lib.hid hD
  have HB2 := Lib.hid hb2
  clear hm hb1 hx2 hD hb2
  have hmm := @run_makeMap Try.prog
  go_enter Try.func39, Try.ntmps39
  go_wp2
  go_ret
  exact ⟨by rw [← hs1]; rfl, HD.out, HB2.out⟩
theorem Sm.new_bad (r : Int) (w : World) (h : r < 1 ∨ 16777216 < r) : Calls Try.prog 30 #[.int .i64 r] w fun e w' => e = .returned (.tuple #[.pointer none, .int .i64 2]) ∧ w = w' := by
  by_cases h1 : r < 1
  · go_enter Try.func30, Try.ntmps30
    go_wp2
    go_ret2
    exact ⟨rfl, rfl⟩
  · have h2 : 16777216 < r := by omega
    go_enter Try.func30, Try.ntmps30
    go_wp2
    go_ret2
    exact ⟨rfl, rfl⟩
theorem Sm.new_any (r : Int) (w : World) (h0 : 0 < r) (h1 : r ≤ 16777216) : Calls Try.prog 30 #[.int .i64 r] w fun e w' =>
    e = .returned (.tuple #[.pointer (some ⟨w.heap.size + 1, 0, none⟩), .int .i64 0]) ∧ DAt w' (w.heap.size + 1) w.heap.size (w.heap.size + 2) ⟨false, 0, false, r⟩ [] ∧ Below w.heap.size w w' := by
  have he := empty_any r w h0 h1
  go_enter Try.func30, Try.ntmps30
  go_wp2_with (go_at_call 39; (with_reducible refine he.mono ?_); rintro e w1 ⟨rfl, hD, hb⟩)
  go_ret2
  exact ⟨rfl, hD, hb⟩
theorem Sm.used_no {v : Value} (w : World) (h : NoDisk w v) : Calls Try.prog 23 #[v] w fun e w' => e = .returned (.int .i64 0) ∧ w = w' := by
  have ht := there_no w h
  clear h
  go_enter Try.func23, Try.ntmps23
  go_wp2_with (go_at_call 38; (with_reducible refine ht.mono ?_); rintro e w' ⟨rfl, rfl⟩)
  go_ret
  exact ⟨rfl, rfl⟩
theorem Sm.used_any {p Mb base : Nat} {s : DSt} {G : List FileM} (w : World) (h : DAt w p Mb base s G) : Calls Try.prog 23 #[.pointer (some ⟨p, 0, none⟩)] w fun e w' => e = .returned (.int .i64 (usedG G : Int)) ∧ w = w' := by
  have ht := there_yes w h
  have c4 := cell_of_heap h.blk 4
  simp only [List.getElem?_toArray, List.getElem?_cons_succ, List.getElem?_cons_zero] at c4
  clear h
  go_enter Try.func23, Try.ntmps23
  go_wp2_with (go_at_call 38; (with_reducible refine ht.mono ?_); rintro e w' ⟨rfl, rfl⟩)
  go_ret
  exact ⟨rfl, rfl⟩
theorem Sm.dead_no {v : Value} (w : World) (h : NoDisk w v) : Calls Try.prog 24 #[v] w fun e w' => e = .returned (.bool false) ∧ w = w' := by
  have ht := there_no w h
  clear h
  go_enter Try.func24, Try.ntmps24
  go_wp2_with (go_at_call 38; (with_reducible refine ht.mono ?_); rintro e w' ⟨rfl, rfl⟩)
  go_ret
  exact ⟨rfl, rfl⟩
theorem Sm.dead_any {p Mb base : Nat} {s : DSt} {G : List FileM} (w : World) (h : DAt w p Mb base s G) : Calls Try.prog 24 #[.pointer (some ⟨p, 0, none⟩)] w fun e w' => e = .returned (.bool s.dead) ∧ w = w' := by
  have ht := there_yes w h
  have c2 := cell_of_heap h.blk 2
  simp only [List.getElem?_toArray, List.getElem?_cons_succ, List.getElem?_cons_zero] at c2
  clear h
  go_enter Try.func24, Try.ntmps24
  go_wp2_with (go_at_call 38; (with_reducible refine ht.mono ?_); rintro e w' ⟨rfl, rfl⟩)
  go_ret
  exact ⟨rfl, rfl⟩
theorem Sm.stop_no {v : Value} (n : Int) (w : World) (h : NoDisk w v) : Calls Try.prog 21 #[v, .int .i64 n] w fun e w' => e = .returned (.int .i64 1) ∧ w = w' := by
  have ht := there_no w h
  clear h
  go_enter Try.func21, Try.ntmps21
  go_wp2_with (go_at_call 38; (with_reducible refine ht.mono ?_); rintro e w' ⟨rfl, rfl⟩)
  go_ret
  exact ⟨rfl, rfl⟩
theorem Sm.stop_bad {p Mb base : Nat} {s : DSt} {G : List FileM} (n : Int) (w : World) (h : DAt w p Mb base s G) (hn : n < 0 ∨ s.dead = true) : Calls Try.prog 21 #[.pointer (some ⟨p, 0, none⟩), .int .i64 n] w fun e w' => e = .returned (.int .i64 (if n < 0 then 2 else 172)) ∧ w = w' := by
  have ht := there_yes w h
  have c2 := cell_of_heap h.blk 2
  simp only [List.getElem?_toArray, List.getElem?_cons_succ, List.getElem?_cons_zero] at c2
  clear h
  by_cases h0 : n < 0
  · rw [if_pos h0]
    clear hn
    go_enter Try.func21, Try.ntmps21
    go_wp2_with (go_at_call 38; (with_reducible refine ht.mono ?_); rintro e w' ⟨rfl, rfl⟩)
    go_ret
    exact ⟨rfl, rfl⟩
  · rw [if_neg h0]
    have hd : s.dead = true := hn.resolve_left h0
    rw [hd] at c2
    clear hn hd
    go_enter Try.func21, Try.ntmps21
    go_wp2_with (go_at_call 38; (with_reducible refine ht.mono ?_); rintro e w' ⟨rfl, rfl⟩)
    go_ret
    exact ⟨rfl, rfl⟩
set_option maxRecDepth 100000 in
theorem Sm.stop_any {p Mb base : Nat} {s : DSt} {G : List FileM} (n : Int) (w : World) (h : DAt w p Mb base s G) (hn : 0 ≤ n ∧ n ≤ 9223372036854775807) (hd : s.dead = false) : Calls Try.prog 21 #[.pointer (some ⟨p, 0, none⟩), .int .i64 n] w fun e w' =>
    e = .returned (.int .i64 0) ∧ DAt w' p Mb base ⟨true, n, false, s.room⟩ G ∧ But (DMay p Mb) w w' := by
  have ht := there_yes w h
  have hb := h.blk
  have c0 := cell_of_heap hb 0
  have c1 := cell_of_heap hb 1
  have c2 := cell_of_heap hb 2
  have f0 := frozen_of_heap hb 0
  have f1 := frozen_of_heap hb 1
  have f2 := frozen_of_heap hb 2
  simp only [List.getElem?_toArray, List.getElem?_cons_succ, List.getElem?_cons_zero] at c0 c1 c2
  rw [hd] at c2
  have h0 : ¬ n < 0 := by omega
  have HE := Lib.hid (h.end3 true n false hn)
  have HB := Lib.hid (set3_but w p Mb (.bool true) (.int .i64 n) (.bool false))
  unfold set3 at HE HB
  clear h hb hn hd
  go_enter Try.func21, Try.ntmps21
  go_wp2_with (go_at_call 38; (with_reducible refine ht.mono ?_); rintro e w' ⟨rfl, rfl⟩)
  go_ret
  exact ⟨rfl, HE.out, HB.out⟩
/-- one name in a row of its own -/
theorem Sm.row_one (x : ByteArray) (w : World) : RowT (w.alloc (.cells #[.string x] 9)) (some ⟨w.heap.size, 0, none⟩) [x] :=
  .inr ⟨_, rfl, by simp, fun j hj => by
    have : j = 0 := by simpa using hj
    subst this
    exact cell_of_heap (World.alloc_heap_new w _) 0⟩
theorem Sm.chk_one {x : ByteArray} (h : nameOK (strL x) = true) : chkN [x] = 0 := by unfold chkN; simp [h]
theorem Sm.chk_one_bad {x : ByteArray} (h : nameOK (strL x) = false) : chkN [x] = 170 := by unfold chkN; simp [h]
/-- what find tells of one name -/
def Sm.findV (G : List FileM) (x : ByteArray) (v : Value) (e : Int) : Prop :=
  (nameOK (strL x) = false ∧ v = zeroF ∧ e = 170) ∨ (nameOK (strL x) = true ∧ (∀ f ∈ G, f.name ≠ strL x) ∧ v = zeroF ∧ e = 5) ∨ (nameOK (strL x) = true ∧ ∃ f ∈ G, f.name = strL x ∧ v = f.val ∧ e = 0)
theorem Sm.find_one {p Mb base : Nat} {s : DSt} {G : List FileM} (x : ByteArray) (w : World) (h : DAt w p Mb base s G) (hxz : x.size ≤ 1000000) :
    Calls Try.prog 36 #[.pointer (some ⟨p, 0, none⟩), .slice (some ⟨w.heap.size, 0, none⟩) 1 1] (w.alloc (.cells #[.string x] 9)) fun e w' => ∃ v n, e = .returned (.tuple #[v, .int .i64 n]) ∧ findV G x v n ∧ Below w.heap.size w w' := by
  have hb0 : Below w.heap.size w (w.alloc (.cells #[.string x] 9)) := (Below.refl _ w).alloc (Nat.le_refl _) _
  have hD := h.keep hb0
  have hr := row_one x w
  have hs : ∀ y ∈ [x], y.size ≤ 1000000 := fun y hy => by simp at hy; subst hy; exact hxz
  cases hk : nameOK (strL x) with
  | false =>
    refine (find_bad _ 1 1 [x] _ hD hr rfl (Nat.le_refl _) (by omega) hs (chk_one_bad hk)).mono ?_
    rintro e w' ⟨rfl, hb⟩
    exact ⟨_, _, rfl, .inl ⟨hk, rfl, rfl⟩, hb0.trans (hb.mono hb0.size)⟩
  | true =>
    by_cases hf : ∃ f ∈ G, f.name = strL x
    · obtain ⟨f, hf, e⟩ := hf
      refine (find_some _ 1 1 x [] _ hD hr rfl (Nat.le_refl _) (by omega) hs (chk_one hk) hf e.symm).mono ?_
      rintro _ w' ⟨rfl, hb⟩
      exact ⟨_, _, rfl, .inr (.inr ⟨hk, f, hf, e, rfl, rfl⟩), hb0.trans (hb.mono hb0.size)⟩
    · have hno : ∀ f ∈ G, f.name ≠ strL x := fun f h1 h2 => hf ⟨f, h1, h2⟩
      refine (find_none _ 1 1 x [] _ hD hr rfl (Nat.le_refl _) (by omega) hs (chk_one hk) hno).mono ?_
      rintro _ w' ⟨rfl, hb⟩
      exact ⟨_, _, rfl, .inr (.inl ⟨hk, hno, rfl, rfl⟩), hb0.trans (hb.mono hb0.size)⟩
/-- of what is told a slice and a number are the parts -/
theorem Sm.findV_parts {G : List FileM} {x : ByteArray} {v : Value} {e : Int} (h : findV G x v e) : ∃ A n c sv, v = .agg #[.slice A n c, .int .i64 sv] := by
  rcases h with ⟨_, rfl, _⟩ | ⟨_, _, rfl, _⟩ | ⟨_, f, _, _, rfl, _⟩
  · exact ⟨_, _, _, _, rfl⟩
  · exact ⟨_, _, _, _, rfl⟩
  · exact ⟨_, _, _, _, rfl⟩
/-- .. and the bytes lie there -/
theorem Sm.findV_row {G : List FileM} {x : ByteArray} {A : Option Addr} {n c : Nat} {sv : Int} {e : Int} (h : findV G x (.agg #[.slice A n c, .int .i64 sv]) e) {W : World} {p Mb base : Nat} {s : DSt} (hD : DAt W p Mb base s G) :
    ∃ l, W.ownsRow base 5 1 (.slice A n c) n (l.map byteCell) ∧ l.length = n ∧ n ≤ 16777216 ∧ ((e = 0 ∧ ∃ f ∈ G, f.name = strL x ∧ f.bytes = l ∧ (f.sure : Int) = sv) ∨ (e ≠ 0 ∧ n = 0 ∧ sv = 0 ∧ (Value.slice A n c) = .slice none 0 0)) := by
  rcases h with ⟨_, h1, rfl⟩ | ⟨_, _, h1, rfl⟩ | ⟨_, f, hf, hn, h1, rfl⟩
  · unfold zeroF at h1
    injection h1 with h1
    simp only [Array.mk.injEq, List.cons.injEq, and_true, Value.slice.injEq, Value.int.injEq, true_and] at h1
    obtain ⟨⟨rfl, rfl, rfl⟩, rfl⟩ := h1
    exact ⟨[], World.ownsRow_nil _ _ _ _, rfl, by omega, .inr ⟨by decide, rfl, rfl, rfl⟩⟩
  · unfold zeroF at h1
    injection h1 with h1
    simp only [Array.mk.injEq, List.cons.injEq, and_true, Value.slice.injEq, Value.int.injEq, true_and] at h1
    obtain ⟨⟨rfl, rfl, rfl⟩, rfl⟩ := h1
    exact ⟨[], World.ownsRow_nil _ _ _ _, rfl, by omega, .inr ⟨by decide, rfl, rfl, rfl⟩⟩
  · unfold FileM.val FileM.sl at h1
    injection h1 with h1
    simp only [Array.mk.injEq, List.cons.injEq, and_true, Value.slice.injEq, Value.int.injEq, true_and] at h1
    obtain ⟨⟨rfl, rfl, rfl⟩, rfl⟩ := h1
    have hu := used_le hf
    have hr := hD.room_
    exact ⟨f.bytes, hD.row f hf, rfl, by omega, .inl ⟨rfl, f, hf, hn, rfl, rfl⟩⟩
set_option maxRecDepth 100000 in
set_option maxHeartbeats 1000000 in
theorem Sm.read_any {p Mb base : Nat} {s : DSt} {G : List FileM} (x : ByteArray) (w : World) (h : DAt w p Mb base s G) (hxz : x.size ≤ 1000000) :
    Calls Try.prog 12 #[.pointer (some ⟨p, 0, none⟩), .string x] w fun e w' => ∃ A n c sv er l, e = .returned (.tuple #[.slice A n c, .int .i64 er]) ∧ w'.ownsRow w.heap.size 5 1 (.slice A n c) n (l.map byteCell) ∧ (∃ A0 c0, findV G x (.agg #[.slice A0 n c0, .int .i64 sv]) er) ∧ l.length = n ∧ ((er = 0 ∧ ∃ f ∈ G, f.name = strL x ∧ f.bytes = l) ∨ (er ≠ 0 ∧ n = 0)) ∧ Below w.heap.size w w' := by
  have hf := find_one x w h hxz
  have H := Lib.hid h
  clear h
  go_enter Try.func12, Try.ntmps12
  go_upto_region 2 with (go_at_call 36; (with_reducible refine hf.mono ?_); clear hf; rintro e w1 ⟨v, er, rfl, hfv, hb1⟩; obtain ⟨A, n, c, sv, rfl⟩ := findV_parts hfv)
  obtain ⟨l, hrow, hlen, hn, hcase⟩ := findV_row hfv (H.out.keep hb1)
  have hF := Lib.hid fun W (hb : Below w1.heap.size w1 W) => first_any A l n W (own_below hrow hb) (Nat.le_refl _) (by omega)
  have HB := Lib.hid hb1
  have HC := Lib.hid hcase
  have HV := Lib.hid hfv
  clear hcase hfv hrow hb1
  have hnI : (0 : Int) ≤ (n : Int) ∧ (n : Int) ≤ 16777216 := by omega
  obtain ⟨hn0, hn1⟩ := hnI
  have hal : Below w1.heap.size w1 (w1.alloc (.cells #[.slice A n c, .int .i64 sv] 79)) := (Below.refl _ w1).alloc (Nat.le_refl _) _
  have hf1 := hF.out _ hal
  have HA := Lib.hid hal
  clear hal
  go_wp2_with (go_at_call 37; (with_reducible refine hf1.mono ?_); rintro e w2 ⟨A', c', rfl, hown, hb2⟩)
  go_ret2
  have hsz : w.heap.size ≤ w1.heap.size := HB.out.size
  have hsz2 := HA.out.size
  rw [List.take_of_length_le (by omega)] at hown
  refine ⟨A', n, c', sv, er, l, rfl, hown.mono (by omega), ⟨A, c, HV.out⟩, hlen, ?_, HB.out.trans ((HA.out.trans (hb2.mono hsz2)).mono hsz)⟩
  rcases HC.out with ⟨e1, f, h1, h2, h3, _⟩ | ⟨e1, e2, _, _⟩
  · exact .inl ⟨e1, f, h1, h2, h3⟩
  · exact .inr ⟨e1, e2⟩
set_option maxRecDepth 100000 in
set_option maxHeartbeats 1000000 in
theorem Sm.sure_any {p Mb base : Nat} {s : DSt} {G : List FileM} (x : ByteArray) (w : World) (h : DAt w p Mb base s G) (hxz : x.size ≤ 1000000) :
    Calls Try.prog 13 #[.pointer (some ⟨p, 0, none⟩), .string x] w fun e w' => ∃ A n c sv er, e = .returned (.tuple #[.int .i64 sv, .int .i64 er]) ∧ findV G x (.agg #[.slice A n c, .int .i64 sv]) er ∧ Below w.heap.size w w' := by
  have hf := find_one x w h hxz
  clear h
  go_enter Try.func13, Try.ntmps13
  go_wp2_with (go_at_call 36; (with_reducible refine hf.mono ?_); clear hf; rintro e w1 ⟨v, er, rfl, hfv, hb1⟩; obtain ⟨A, n, c, sv, rfl⟩ := findV_parts hfv)
  go_ret2
  exact ⟨A, n, c, sv, er, rfl, hfv, hb1.alloc hb1.size _⟩
end Go.Proofs
