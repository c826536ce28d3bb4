/-
  The contracts of a reader's truths and of its end, of Read, and of none.
  The contracts of a master's key, and of joined at bytes.
  The contract of made.
  The contract of Make.
  The contracts of find, and of the numbers of a token.
-/
import Derived.Test.YtbojnblececnhaaGreatDoorQ23
namespace Go.Proofs
open Go.RowKit Go.Shelf Sm
theorem Sm.cell_of_heap {w : World} {B : Nat} {cs : Array Value} {t : TypeId} {fr : Nat × Nat} (h : w.heap[B]? = some (.cells cs t fr)) (i : Nat) : w.cell? ⟨B, i, none⟩ = cs[i]? := by simp [World.cell?, h]
theorem Sm.frozen_of_heap {w : World} {B : Nat} {cs : Array Value} {t : TypeId} (h : w.heap[B]? = some (.cells cs t (0, 0))) (i : Nat) : w.frozen? ⟨B, i, none⟩ = false := by simp [World.frozen?, h]
theorem Sm.cap_one : cap 1 = 1 := rfl
theorem Sm.eq_one (m : Nat) : ((m : Int) == 1) = decide (m = 1) := by
  rw [Bool.eq_iff_iff]
  simp
  omega
/-- the world in which Truth calls take -/
def Sm.truW (w : World) (v : Value) : World := (w.alloc (.cells #[v] 0x61)).alloc (.cells #[.bool false] 4)
section
variable {w : World} {v : Value}
theorem Sm.truW_size : (truW w v).heap.size = w.heap.size + 1 + 1 := by simp [truW]
theorem Sm.truW_below : Below w.heap.size w (truW w v) := ((Below.refl _ w).alloc (Nat.le_refl _) _).alloc (by simp) _
theorem Sm.truW_r : (truW w v).cell? ⟨w.heap.size, 0, none⟩ = some v := by
  unfold truW
  rw [World.cell?_alloc_lt _ _ _ (by simp)]
  simp [World.cell?_alloc_new]
theorem Sm.truW_v : (truW w v).cell? ⟨w.heap.size + 1, 0, none⟩ = some (.bool false) := by
  unfold truW
  simp
theorem Sm.truW_f : (truW w v).frozen? ⟨w.heap.size + 1, 0, none⟩ = false := by
  unfold truW
  simp [go_sem]
end
set_option maxRecDepth 100000 in
set_option maxHeartbeats 2000000 in
theorem Sm.Read_any (l : List (BitVec 8)) (n c N : Nat) (A : Option Addr) (w : World) (hn : Hid (l.length = n)) (hm : n ≤ 1000000) (hN : N ≤ w.heap.size) (hr : Rd w N A l) :
    Calls Tryz.prog 59 #[.slice A n c] w fun e w' => ∃ B, e = .returned (.pointer (some ⟨B, 0, none⟩)) ∧ Rdr w' B l 0 ∧ w.heap.size ≤ B ∧ Below w.heap.size w w' := by
  go_enter Tryz.func59, Tryz.ntmps59
  go_wp2_with (go_at_call 77; (with_reducible refine (BClone_any l n c N A _ hn hm hN hr).mono ?_); rintro e w1 ⟨v, rfl, hown, hb⟩; obtain ⟨A1, c1, rfl⟩ := own_slice hown)
  go_ret
  have hx : (w1.alloc (.cells #[.slice A1 n c1, .int .i64 0, .bool true] 0x83)).heap[w1.heap.size]? = some (.cells #[.slice A1 n c1, .int .i64 0, .bool true] 0x83 (0, 0)) := World.alloc_heap_new w1 _
  refine ⟨w1.heap.size, rfl, .inl ⟨rfl, A1, n, c1, hx, ?_⟩, hb.size, hb.alloc hb.size _⟩
  have hform : n ≤ c1 ∧ (A1 = none → c1 = 0) := by
    rcases hown.2 with ⟨e1, _⟩ | ⟨g, cap, cur, e1, _, _, h3, _⟩
    · injection e1 with e2 e3 e4
      subst e2 e3 e4
      exact ⟨Nat.le_refl _, fun _ => rfl⟩
    · injection e1 with e2 e3 e4
      subst e2 e4
      exact ⟨h3, fun e => by cases e⟩
  refine { cell := ?_, frozen := ?_, len := hn.out, room := hform.1, none_ := hform.2, rd := ?_ }
  · exact cell_of_heap hx 0
  · exact frozen_of_heap hx 0
  · exact (Rd.of_own hown (Nat.le_refl _)).alloc (Nat.le_refl _) _
end Go.Proofs
namespace Go.Proofs
open Go.RowKit Go.Shelf Sm
def Sm.labB : ByteArray := ⟨#[116, 111, 107, 101, 110]⟩
/-- what a master's tags are made with -/
def Sm.keyS (s : ByteArray) : List (BitVec 8) := deriveS (sB s) (sB labB) 32
set_option maxRecDepth 100000 in
set_option maxHeartbeats 2000000 in
theorem Sm.key_any (n : Int) (s : ByteArray) (w : World) (ht : Tabs w) (hs : s.size ≤ 1000) :
    Calls Tryz.prog 57 #[.agg #[.int .i64 n, .string s]] w fun e w' => ∃ A c, e = .returned (.slice A 32 c) ∧ 32 ≤ c ∧ c ≤ 9223372036854775807 ∧ Rd w' w'.heap.size A (keyS s) ∧ Below w.heap.size w w' := by
  obtain ⟨W1, hW1⟩ : ∃ v, w.alloc (.cells #[.int .i64 n, .string s] 0x23) = v := ⟨_, rfl⟩
  have hb1 : Below w.heap.size w W1 := by rw [← hW1]; exact (Below.refl _ w).alloc (Nat.le_refl _) _
  have h1 : Blk W1 w.heap.size 0x23 #[.int .i64 n, .string s] := by rw [← hW1]; exact Blk.new w 0x23 _
  have hc1 := h1.cell 1
  simp only [List.getElem?_toArray, List.getElem?_cons_zero, List.getElem?_cons_succ] at hc1
  obtain ⟨W2, cx, hcv, hb2, hpx⟩ := str_conv s W1 (by omega)
  have hp := hpx w.heap.size h1.lt
  have hb02 : Below w.heap.size w W2 := hb1.trans (hb2.mono hb1.size)
  have hdv := Derive_yes 32 s.size cx (some ⟨W1.heap.size, 0, none⟩) (sB s) labB W2 (ht.keep hb02) (sB_length s) hs hp.room hp.most (rd_of_pt hp) (by decide) (by decide)
  have HDV := Lib.hid hdv
  have HB := Lib.hid hb02
  have HW := Lib.hid hW1
  clear hdv hb02 hp hpx hb2 h1 hb1 hW1 ht
  unfold labB at HDV
  go_enter Tryz.func57, Tryz.ntmps57
  go_upto_region 1 with fail
  rw [HW.out]
  go_wp2_with (go_at_call 79; refine HDV.out.mono ?_; rintro e w3 ⟨A, c, rfl, hrd, hb3, hc, hcm⟩)
  go_ret
  exact ⟨A, c, rfl, hc, hcm, hrd, HB.out.trans (hb3.mono HB.out.size)⟩
/-- what is joined behind k parts -/
def Sm.jB (l1 l2 : List (BitVec 8)) : Nat → List (BitVec 8)
  | 0 => []
  | 1 => l1
  | _ => l1 ++ l2
set_option maxRecDepth 100000 in
set_option maxHeartbeats 2000000 in
theorem Sm.joinedB_any (g n1 c1 n2 c2 : Nat) (a1 a2 : Addr) (l1 l2 : List (BitVec 8)) (w : World) (h0 : w.cell? ⟨g, 0, none⟩ = some (.slice (some a1) n1 c1)) (h1 : w.cell? ⟨g, 1, none⟩ = some (.slice (some a2) n2 c2))
    (hg : g < w.heap.size) (e1 : l1.length = n1) (e2 : l2.length = n2) (hm : n1 + n2 ≤ 100000) (r1 : Rd w w.heap.size (some a1) l1) (r2 : Rd w w.heap.size (some a2) l2) :
    Calls Tryz.prog 58 #[.slice (some ⟨g, 0, none⟩) 2 2] w fun e w' => ∃ A c, e = .returned (.slice A (n1 + n2) c) ∧ Rd w' w'.heap.size A (l1 ++ l2) ∧ Below w.heap.size w w' := by
  obtain ⟨i0, hi, hz0, hz1, hz2⟩ := info_parts info5
  have HR1 := Lib.hid r1
  have HR2 := Lib.hid r2
  have H0 := Lib.hid h0
  have H1 := Lib.hid h1
  have HE1 := Lib.hid e1
  have HE2 := Lib.hid e2
  clear r1 r2 h0 h1 e1 e2
  go_enter Tryz.func58, Tryz.ntmps58
  go_wp2
  go_loopw [3, 8] (fun s3 s8 wr => ∃ (j : Nat) (v : Value), j ≤ 2 ∧ s8 = .int .i64 (j : Int) ∧ s3 = v ∧ Hid (wr.ownsRow w.heap.size 5 1 v (jB l1 l2 j).length ((jB l1 l2 j).map byteCell)) ∧ Hid (Below w.heap.size w wr)) (fun _ s8 _ => 2 - (intOf s8).toNat)
  case atStart => exact ⟨0, _, by omega, rfl, rfl, Lib.hid (World.ownsRow_nil _ _ _ _), Lib.hid (Below.refl _ _)⟩
  case round =>
    obtain ⟨wo, rfl⟩ : ∃ wo : World, wo = wr := ⟨_, rfl⟩
    obtain ⟨j, v, hj, rfl, rfl, HO, HB⟩ := hrel
    have hsz := HB.out.size
    by_cases hj0 : j = 0
    · subst hj0
      have hp := (HB.out.cell (p := ⟨g, 0, none⟩) hg).trans H0.out
      have HNW := Lib.hid (Rd.news (HR1.out.below HB.out))
      have ho : wo.ownsRow w.heap.size 5 1 u3 0 [] := HO.out
      have HOO := Lib.hid ho
      clear ho
      go_wp2_with (at_builtin; refine wpList_append_own _ rfl (.tmp 12) (.tmp 13) 0x38 rfl w.heap.size 5 i0 _ 1 1 Tryz.underlying56 hi hz0 hz1 hz2 rfl (by decide) u3 0 [] rfl HOO.out a1 n1 c1 (l1.map byteCell) rfl (by rw [List.length_map, HE1.out, Nat.mul_one]) HNW.out (byteCell_one l1) (by unfold maxLen; omega) (by omega) hsz ?_; intro v5 w5 hown5 hg5 _)
      have hb5 : Below w.heap.size w w5 := HB.out.grown hg5 hsz (fun g e => own_ge HOO.out g e)
      refine ⟨⟨1, v5, by omega, by go_num, rfl, Lib.hid ?_, Lib.hid hb5⟩, by simp [intOf]⟩
      show w5.ownsRow w.heap.size 5 1 v5 l1.length (l1.map byteCell)
      rw [HE1.out]
      simpa using hown5
    · by_cases hj1 : j = 1
      · subst hj1
        have hp := (HB.out.cell (p := ⟨g, 1, none⟩) hg).trans H1.out
        have HNW := Lib.hid (Rd.news (HR2.out.below HB.out))
        have ho : wo.ownsRow w.heap.size 5 1 u3 l1.length (l1.map byteCell) := HO.out
        rw [HE1.out] at ho
        have HOO := Lib.hid ho
        clear ho
        go_wp2_with (at_builtin; refine wpList_append_own _ rfl (.tmp 12) (.tmp 13) 0x38 rfl w.heap.size 5 i0 _ 1 1 Tryz.underlying56 hi hz0 hz1 hz2 rfl (by decide) u3 n1 (l1.map byteCell) rfl HOO.out a2 n2 c2 (l2.map byteCell) rfl (by rw [List.length_map, HE2.out, Nat.mul_one]) HNW.out (byteCell_one l2) (by unfold maxLen; omega) (by omega) hsz ?_; intro v5 w5 hown5 hg5 _)
        have hb5 : Below w.heap.size w w5 := HB.out.grown hg5 hsz (fun g e => own_ge HOO.out g e)
        refine ⟨⟨2, v5, by omega, by go_num, rfl, Lib.hid ?_, Lib.hid hb5⟩, by simp [intOf]⟩
        show w5.ownsRow w.heap.size 5 1 v5 (l1 ++ l2).length ((l1 ++ l2).map byteCell)
        rw [List.length_append, HE1.out, HE2.out, List.map_append]
        exact hown5
      · obtain rfl : j = 2 := by omega
        have ho : wo.ownsRow w.heap.size 5 1 u3 (l1 ++ l2).length ((l1 ++ l2).map byteCell) := HO.out
        rw [List.length_append, HE1.out, HE2.out] at ho
        go_wp2
        obtain ⟨A, c, rfl⟩ := own_slice ho
        go_ret
        exact ⟨A, c, rfl, Rd.of_own ho (Nat.le_refl _), HB.out⟩
end Go.Proofs
namespace Go.Proofs
open Go.RowKit Go.Shelf Sm
theorem Sm.must_pairY (why : Int) (b0 b1 : Bool) (B : Nat) (W : World) (hB : B = W.heap.size) (h : (b0 && b1) = true) :
    Calls Tryz.prog 31 #[.int .i64 why, .slice (some ⟨B, 0, none⟩) 2 2] (W.alloc (.cells #[.bool b0, .bool b1] 4)) fun e w' => (∃ v, e = .returned v) ∧ W.alloc (.cells #[.bool b0, .bool b1] 4) = w'  := by
  subst hB
  obtain ⟨rfl, rfl⟩ : b0 = true ∧ b1 = true := by simpa using h
  exact must_two _ _ _ _ (World.cell?_alloc_new W #[.bool true, .bool true] 4 0) (World.cell?_alloc_new W #[.bool true, .bool true] 4 1)
theorem Sm.must_pairN (why : Int) (b0 b1 : Bool) (B : Nat) (W : World) (hB : B = W.heap.size) (h : (b0 && b1) = false) :
    Calls Tryz.prog 31 #[.int .i64 why, .slice (some ⟨B, 0, none⟩) 2 2] (W.alloc (.cells #[.bool b0, .bool b1] 4)) fun e w' => e = .panicked [pE why] ∧ W.alloc (.cells #[.bool b0, .bool b1] 4) = w'  := by
  subst hB
  cases b0
  · exact must_two0 _ _ _ _ (World.cell?_alloc_new W #[.bool false, .bool b1] 4 0)
  · obtain rfl : b1 = false := by simpa using h
    exact must_two1 _ _ _ _ (World.cell?_alloc_new W #[.bool true, .bool false] 4 0) (World.cell?_alloc_new W #[.bool true, .bool false] 4 1)
theorem Sm.must_oneY (why : Int) (b0 : Bool) (B : Nat) (W : World) (hB : B = W.heap.size) (h : b0 = true) :
    Calls Tryz.prog 31 #[.int .i64 why, .slice (some ⟨B, 0, none⟩) 1 1] (W.alloc (.cells #[.bool b0] 4)) fun e w' => (∃ v, e = .returned v) ∧ W.alloc (.cells #[.bool b0] 4) = w'  := by
  subst hB
  subst h
  exact must_yes _ _ _ _ (World.cell?_alloc_new W #[.bool true] 4 0)
theorem Sm.must_oneN (why : Int) (b0 : Bool) (B : Nat) (W : World) (hB : B = W.heap.size) (h : b0 = false) :
    Calls Tryz.prog 31 #[.int .i64 why, .slice (some ⟨B, 0, none⟩) 1 1] (W.alloc (.cells #[.bool b0] 4)) fun e w' => e = .panicked [pE why] ∧ W.alloc (.cells #[.bool b0] 4) = w'  := by
  subst hB
  subst h
  exact must_no _ _ _ _ (World.cell?_alloc_new W #[.bool false] 4 0)
/-- a token that may be -/
def Sm.TokOK (m s i : Int) : Prop := (0 ≤ m ∧ m < 16) ∧ (0 ≤ s ∧ s ≤ 2147483647) ∧ 0 ≤ i ∧ i ≤ 2147483647
/-- the bytes of a token -/
def Sm.tokB (s0 : ByteArray) (n m s i : Int) : List (BitVec 8) := numsB [n, m, s, i] ++ (tagS (keyS s0) (numsB [n, m, s, i])).take 16
theorem Sm.numsB_four (n m s i : Int) (h0 : 0 ≤ n ∧ n ≤ 2147483647) (h : TokOK m s i) : (∀ x ∈ [n, m, s, i], okN x) ∧ 0 < (numsB [n, m, s, i]).length ∧ (numsB [n, m, s, i]).length ≤ 36 := by
  obtain ⟨h1, h2, h3⟩ := h
  have ho : ∀ x ∈ [n, m, s, i], okN x := by
    intro x hx
    simp only [List.mem_cons, List.not_mem_nil, or_false] at hx
    rcases hx with rfl | rfl | rfl | rfl <;> exact ⟨by omega, by omega⟩
  refine ⟨ho, ?_, by have := numsB_len _ ho; simpa using this⟩
  have := numB_pos n.toNat
  simp only [numsB, List.flatMap_cons, List.length_append]
  omega
theorem Sm.own_most {w : World} {base n c : Nat} {e : TypeId} {A : Option Addr} {xs : List Value} (h : w.ownsRow base e 1 (.slice A n c) n xs) (_hn : n ≤ 100000 := by omega) : c ≤ 9223372036854775807 := by
  rcases h.2 with ⟨e, e2⟩ | ⟨k, cap, cur, e, hb, hk, hnc, hcm, hcs, htake⟩
  · simp only [Value.slice.injEq] at e
    omega
  · simp only [Value.slice.injEq] at e
    obtain ⟨rfl, _, rfl⟩ := e
    unfold maxLen at hcm
    omega
theorem Sm.keyS_length (s : ByteArray) : (keyS s).length = 32 := by
  unfold keyS deriveS
  rw [List.length_take, allK_length]
  rfl
/-- the tag of one part -/
theorem Sm.short_one (W : World) (Ak : Option Addr) (a1 : Addr) (ck c : Nat) (key BD : List (BitVec 8)) (g : Nat) (hg : g = W.heap.size) (ht : Tabs W) (hk : key.length = 32) (h1 : 32 ≤ ck) (h2 : ck ≤ 9223372036854775807) (hr : Rd W W.heap.size Ak key)
    (hb : Rd W W.heap.size (some a1) BD) (hl : BD.length ≤ 50000) (hc : BD.length ≤ c) (hcm : c ≤ 9223372036854775807) :
    Calls Tryz.prog 56 #[.slice Ak 32 ck, .int .i64 16, .slice (some ⟨g, 0, none⟩) 1 1] (W.alloc (.cells #[.slice (some a1) BD.length c] 0x38)) fun e w' => ∃ b, e = .returned (.tuple #[.slice (some ⟨b, 0, none⟩) 16 16, .int .i64 0]) ∧ Rd w' w'.heap.size (some ⟨b, 0, none⟩) ((tagS key BD).take 16) ∧ Below W.heap.size W w' := by
  subst hg
  have hba : Below W.heap.size W (W.alloc (.cells #[.slice (some a1) BD.length c] 0x38)) := (Below.refl _ _).alloc (Nat.le_refl _) _
  have hB : Blk (W.alloc (.cells #[.slice (some a1) BD.length c] 0x38)) W.heap.size 0x38 #[.slice (some a1) BD.length c] := Blk.new W 0x38 _
  have hj : joinP [⟨some a1, BD.length, c, BD⟩] = BD := by simp [joinP]
  have := Short_yes 16 32 ck 1 1 Ak (some ⟨W.heap.size, 0, none⟩) key [⟨some a1, BD.length, c, BD⟩] (W.alloc (.cells #[.slice (some a1) BD.length c] 0x38)) (by decide) (by decide) (ht.keep hba) hk (by decide) h1 h2
    ((hr.below hba).more hba.size) (fun g hg => ⟨rfl, by decide, fun _ => ⟨W.heap.size, 0, rfl, hB.lt, fun e => by have := hB.lt; omega, fun j v hj => by rw [Nat.zero_add, hB.cell j]; simpa [Pt.val] using hj⟩, fun p hp => by
      obtain rfl : p = ⟨some a1, BD.length, c, BD⟩ := by simpa using hp
      refine ⟨rfl, hc, hcm, fun hn => ?_⟩
      obtain ⟨b, off, e, hlt, hcell⟩ := hb (by simpa using hn)
      refine ⟨b, off, e, Nat.lt_of_lt_of_le hlt hba.size, fun e => by have := hba.size; omega, fun j v hj => ?_⟩
      rw [List.getElem?_map] at hj
      obtain ⟨x, hx, rfl⟩ := Option.map_eq_some_iff.1 hj
      exact (hba.cell (p := ⟨b, off + j, none⟩) hlt).trans (hcell j x hx)⟩) (by rw [hj]; omega)
  rw [hj] at this
  refine this.mono ?_
  rintro e w' ⟨b, rfl, h3, h4⟩
  exact ⟨b, rfl, h3, hba.trans (h4.mono hba.size)⟩
set_option maxRecDepth 100000 in
set_option maxHeartbeats 2000000 in
theorem Sm.made_ok (v : Value) (k : Kpt) (m s i : Int) (w : World) (hk : KeyV w v k) (ht : Tabs w) (hs : k.s0.size ≤ 1000) (hn : 0 ≤ k.n0 ∧ k.n0 ≤ 2147483647) (hT : TokOK m s i) :
    Calls Tryz.prog 33 #[v, .agg #[.int .i64 m, .int .i64 s, .int .i64 i]] w fun e w' => e = .returned (.string (strB (spellS (tokB k.s0 k.n0 m s i)))) ∧ Below w.heap.size w w' := by
  obtain ⟨ho, hp, hl⟩ := numsB_four k.n0 m s i hn hT
  obtain ⟨⟨t0, t1⟩, ⟨t2, t3⟩, t4, t5⟩ := hT
  obtain ⟨W1, hW1⟩ : ∃ x, w.alloc (.cells #[.int .i64 m, .int .i64 s, .int .i64 i] 0x18) = x := ⟨_, rfl⟩
  have hb1 : Below w.heap.size w W1 := by rw [← hW1]; exact (Below.refl _ w).alloc (Nat.le_refl _) _
  have h1 : Blk W1 w.heap.size 0x18 #[.int .i64 m, .int .i64 s, .int .i64 i] := by rw [← hW1]; exact Blk.new w 0x18 _
  have hlt1 := h1.lt
  have c0 := h1.cell 0
  have c1 := h1.cell 1
  have c2 := h1.cell 2
  simp only [List.getElem?_toArray, List.getElem?_cons_zero, List.getElem?_cons_succ] at c0 c1 c2
  obtain ⟨T, hTb⟩ : ∃ b, w.heap.size = b := ⟨_, rfl⟩
  rw [hTb] at c0 c1 c2 h1 hlt1
  have HB1 := Lib.hid hb1
  have HK1 := Lib.hid (hk.below hb1)
  have HT1 := Lib.hid (ht.keep hb1)
  have HW := Lib.hid hW1
  have HTB := Lib.hid hTb
  have HO := Lib.hid ho
  have HPL := Lib.hid (And.intro hp hl)
  have HN := Lib.hid hn
  have HS := Lib.hid hs
  have HT3 := Lib.hid h1
  clear hb1 hk ht hW1 ho hp hl hn hs h1
  go_enter Tryz.func33, Tryz.ntmps33
  go_upto_region 1 with fail
  rw [HW.out]
  clear hTb
  go_upto_region 4 with (go_at_call 31; (with_reducible refine (must_pairY _ _ _ _ _ (by first | rfl | (simp; done)) (by first | rfl | (simp; done) | (simp; omega))).mono ?_); rintro e w4 ⟨⟨v4, rfl⟩, rfl⟩)
  obtain ⟨W4, hW4⟩ : ∃ x, ((W1.alloc (.cells #[.bool true, .bool true] 4)).alloc (.cells #[.bool true, .bool true] 4)).alloc (.cells #[.bool true, .bool true] 4) = x := ⟨_, rfl⟩
  have hb4 : Below W1.heap.size W1 W4 := by rw [← hW4]; exact (((Below.refl _ _).alloc (Nat.le_refl _) _).alloc (by simp) _).alloc (by simp; omega) _
  have HW4 := Lib.hid hW4
  have HK4 := Lib.hid (HK1.out.below hb4)
  have HT4 := Lib.hid (HT1.out.keep hb4)
  have HTK := Lib.hid (HT3.out.keep hb4)
  have HB4 := Lib.hid (HB1.out.trans (hb4.mono HB1.out.size))
  have hnw := newest_any W4 v k HK4.out
  have HNW := Lib.hid hnw
  clear hnw hW4 hb4 c0 c1 c2 hlt1
  rw [HW4.out]
  go_upto_region 5 with (go_at_call 39; (with_reducible refine HNW.out.mono ?_); rintro e w5 ⟨rfl, hb5⟩)
  have hb5w := HB4.out.trans (hb5.mono HB4.out.size)
  have htk5 := HTK.out.keep hb5
  have htl5 := htk5.lt
  obtain ⟨M, hM⟩ : ∃ b, w5.heap.size = b := ⟨_, rfl⟩
  obtain ⟨W6, hW6⟩ : ∃ x, w5.alloc (.cells #[.int .i64 k.n0, .string k.s0] 0x23) = x := ⟨_, rfl⟩
  have hb6 : Below w5.heap.size w5 W6 := by rw [← hW6]; exact (Below.refl _ _).alloc (Nat.le_refl _) _
  have hm6 : Blk W6 M 0x23 #[.int .i64 k.n0, .string k.s0] := by rw [← hW6, ← hM]; exact Blk.new w5 0x23 _
  have htk6 := htk5.keep hb6
  have HM6 := Lib.hid hm6
  have HTK6 := Lib.hid htk6
  have HB6 := Lib.hid (hb5w.trans (hb6.mono hb5w.size))
  have HT6 := Lib.hid ((HT4.out.keep hb5).keep hb6)
  have HW6 := Lib.hid hW6
  have hml6 := hm6.lt
  have htl6 := htk6.lt
  rw [hM, hW6]
  clear hW6 hM hb5w htk5 htl5 hb6 hm6 htk6 hb5 HNW HTK HB4 HT4 HK4 HW4 HK1 HT1 HT3 HB1 HW
  go_upto_region 6 with (go_at_call 53; (with_reducible refine (New_any W6).mono ?_); rintro e w7 ⟨rfl, rfl⟩)
  obtain ⟨B, hB⟩ : ∃ b, W6.heap.size = b := ⟨_, rfl⟩
  obtain ⟨W7, hW7⟩ : ∃ x, W6.alloc (.cells #[.slice none 0 0, .bool true] 0x78) = x := ⟨_, rfl⟩
  have hb7 : Below W6.heap.size W6 W7 := by rw [← hW7]; exact (Below.refl _ _).alloc (Nat.le_refl _) _
  have hw7 : Wr W7 B (.slice none 0 0) [] := by rw [← hW7, ← hB]; exact Wr.new W6
  have hm7 := HM6.out.keep hb7
  have htk7 := HTK6.out.keep hb7
  have mc0 := hm7.cell 0
  have tc0 := htk7.cell 0
  have tc1 := htk7.cell 1
  have tc2 := htk7.cell 2
  simp only [List.getElem?_toArray, List.getElem?_cons_zero, List.getElem?_cons_succ] at mc0 tc0 tc1 tc2
  have hml7 := hm7.lt
  have htl7 := htk7.lt
  have hBl7 := hw7.lt
  have HB7 := Lib.hid (HB6.out.trans (hb7.mono HB6.out.size))
  have HT7 := Lib.hid (HT6.out.keep hb7)
  have HBB := Lib.hid hB
  obtain ⟨W8, hW8⟩ : ∃ x, W7.alloc (.cells #[.int .i64 k.n0, .int .i64 m, .int .i64 s, .int .i64 i] 2) = x := ⟨_, rfl⟩
  have hb8 : Below W7.heap.size W7 W8 := by rw [← hW8]; exact (Below.refl _ _).alloc (Nat.le_refl _) _
  have h8 : Blk W8 W7.heap.size 2 #[.int .i64 k.n0, .int .i64 m, .int .i64 s, .int .i64 i] := by rw [← hW8]; exact Blk.new W7 2 _
  have hwn := WNumber_ok W8 (hw7.below hb8) [k.n0, m, s, i] 4 4 (some ⟨W7.heap.size, 0, none⟩) (Lib.hid rfl) (by decide) (by decide)
    (fun _ => ⟨W7.heap.size, 0, rfl, h8.lt, (fun h => by rcases h with e | e <;> first | omega | cases e), fun j v hj => by rw [Nat.zero_add]; rw [h8.cell j]; simpa [intC] using hj⟩) (Lib.hid HO.out)
  have hb8w := hb7.trans (hb8.mono hb7.size)
  have HWN := Lib.hid hwn
  have HB8 := Lib.hid hb8w
  have HW8 := Lib.hid hW8
  clear hwn hb8w hW8 h8 hb8 hw7 hm7 htk7 hb7
  rw [hW7, hB]
  clear hW7 hB
  go_upto_region 7 with (rw [HW8.out]; go_at_call 54; (with_reducible refine HWN.out.mono ?_); rintro e w9 ⟨rfl, v9, hw9, hgo⟩)
  have hs89 := hgo.but.size
  have hb9 : Below W6.heap.size W6 w9 := HB8.out.trans (hgo.but.to_below (n := W6.heap.size) HB8.out.size (fun b h => by rcases h with e | e <;> first | (have := HBB.out; omega) | cases e))
  have hm9 : Blk w9 M 0x23 #[.int .i64 k.n0, .string k.s0] := (hb9.block M hml6).trans HM6.out
  have HB9 := Lib.hid (HB6.out.trans (hb9.mono HB6.out.size))
  have HT9 := Lib.hid (HT6.out.keep hb9)
  have hlen := HPL.out
  simp only [List.nil_append] at hw9
  obtain ⟨BD, hBD⟩ : ∃ l, numsB [k.n0, m, s, i] = l := ⟨_, rfl⟩
  rw [hBD] at hw9 hlen
  have hall := All_any w9 hw9 (by omega)
  have HALL := Lib.hid hall
  have HM9 := Lib.hid hm9
  have HLEN := Lib.hid hlen
  have HBD := Lib.hid hBD
  clear hall hm9 hlen hBD hw9 hgo hs89 hb9 mc0 tc0 tc1 tc2 hml7 htl7 hBl7 hml6 htl6 HM6 HTK6 HB6 HT6 HW6 HB7 HT7 HWN HB8 HW8 HO HPL
  go_upto_region 8 with (go_at_call 55; (with_reducible refine HALL.out.mono ?_); rintro e w10 ⟨u, rfl, hown, hb10⟩)
  obtain ⟨A, c, rfl⟩ := own_slice hown
  have hr10 : Rd w10 w10.heap.size A BD := Rd.of_own hown (Nat.le_refl _)
  have hcc := own_cap hown
  have hcm := own_most hown (by have := HLEN.out; omega)
  obtain ⟨a1, rfl⟩ : ∃ a1, A = some a1 := by
    obtain ⟨b, off, e, _⟩ := hr10 (HLEN.out.1)
    exact ⟨_, e⟩
  have hm10 := HM9.out.keep hb10
  have m0 := hm10.cell 0
  have m1 := hm10.cell 1
  simp only [List.getElem?_toArray, List.getElem?_cons_zero, List.getElem?_cons_succ] at m0 m1
  have HB10 := Lib.hid (HB9.out.trans (hb10.mono HB9.out.size))
  have HT10 := Lib.hid (HT9.out.keep hb10)
  have HKEY := Lib.hid (key_any k.n0 k.s0 w10 HT10.out HS.out)
  have HR10 := Lib.hid hr10
  have HCC := Lib.hid (And.intro hcc hcm)
  have hml := hm10.lt
  clear hown hb10 hcc hcm hm10 hr10 HALL HM9 HB9 HT9
  go_upto_region 9 with (first
    | (go_at_call 57; (with_reducible refine HKEY.out.mono ?_); rintro e w11 ⟨Ak, ck, rfl, hk1, hk2, hkr, hb11⟩)
    | (go_at_call 56; refine (short_one w11 Ak a1 ck c (keyS k.s0) BD _ rfl (HT10.out.keep hb11) (keyS_length _) hk1 hk2 hkr ((HR10.out.below hb11).more hb11.size) (by have := HLEN.out; omega) HCC.out.1 HCC.out.2).mono ?_; rintro e w12 ⟨b, rfl, htr, hb12⟩))
  obtain ⟨W13, hW13⟩ : ∃ x, w12.alloc (.cells #[.slice (some a1) BD.length c, .slice (some ⟨b, 0, none⟩) 16 16] 0x38) = x := ⟨_, rfl⟩
  have hb13 : Below w12.heap.size w12 W13 := by rw [← hW13]; exact (Below.refl _ _).alloc (Nat.le_refl _) _
  have h13 : Blk W13 w12.heap.size 0x38 #[.slice (some a1) BD.length c, .slice (some ⟨b, 0, none⟩) 16 16] := by rw [← hW13]; exact Blk.new w12 0x38 _
  have hb1012 : Below w10.heap.size w10 w12 := hb11.trans (hb12.mono hb11.size)
  have hb1013 : Below w10.heap.size w10 W13 := hb1012.trans (hb13.mono hb1012.size)
  have htl : ((tagS (keyS k.s0) BD).take 16).length = 16 := by rw [List.length_take, tagS_length]; rfl
  have hj := joinedB_any w12.heap.size BD.length c 16 16 a1 ⟨b, 0, none⟩ BD ((tagS (keyS k.s0) BD).take 16) W13 (h13.cell 0) (h13.cell 1) h13.lt rfl htl (by have := HLEN.out; omega) ((HR10.out.below hb1013).more hb1013.size) ((htr.below hb13).more hb13.size)
  have HJ := Lib.hid hj
  have HW13 := Lib.hid hW13
  have HB13 := Lib.hid (HB10.out.trans (hb1013.mono HB10.out.size))
  have HTL := Lib.hid htl
  clear hj hW13 htl hb1012 hb1013 h13 hb13 hb11 hb12 hkr htr m0 m1 hml HKEY HCC HR10 HT10 HB10
  go_wp2_with (first
    | (rw [HW13.out]; go_at_call 58; (with_reducible refine HJ.out.mono ?_); rintro e w14 ⟨A2, c2, rfl, hr14, hb14⟩)
    | (go_at_call 26; refine (Spell_any _ c2 A2 (BD ++ (tagS (keyS k.s0) BD).take 16) w14 (by rw [List.length_append, HTL.out]) (by have := HLEN.out; omega) hr14).mono ?_; rintro e w15 ⟨rfl, hb15⟩))
  go_ret
  refine ⟨?_, HB13.out.trans ((hb14.trans (hb15.mono hb14.size)).mono HB13.out.size)⟩
  unfold tokB
  rw [HBD.out]
  rfl
set_option maxRecDepth 100000 in
set_option maxHeartbeats 1000000 in
theorem Sm.made_arg (v : Value) (m s i : Int) (w : World) (hT : ¬ TokOK m s i) :
    Calls Tryz.prog 33 #[v, .agg #[.int .i64 m, .int .i64 s, .int .i64 i]] w fun e w' => e = .panicked [pE 2] ∧ Below w.heap.size w w' := by
  obtain ⟨W1, hW1⟩ : ∃ x, w.alloc (.cells #[.int .i64 m, .int .i64 s, .int .i64 i] 0x18) = x := ⟨_, rfl⟩
  have hb1 : Below w.heap.size w W1 := by rw [← hW1]; exact (Below.refl _ w).alloc (Nat.le_refl _) _
  have h1 : Blk W1 w.heap.size 0x18 #[.int .i64 m, .int .i64 s, .int .i64 i] := by rw [← hW1]; exact Blk.new w 0x18 _
  have hlt1 := h1.lt
  have c0 := h1.cell 0
  have c1 := h1.cell 1
  have c2 := h1.cell 2
  simp only [List.getElem?_toArray, List.getElem?_cons_zero, List.getElem?_cons_succ] at c0 c1 c2
  have HB1 := Lib.hid hb1
  have HW := Lib.hid hW1
  clear hb1 hW1 h1
  by_cases g1 : 0 ≤ m ∧ m < 16
  · by_cases g2 : 0 ≤ s ∧ s ≤ 2147483647
    · have g3 : ¬ (0 ≤ i ∧ i ≤ 2147483647) := fun h => hT ⟨g1, g2, h⟩
      clear hT
      obtain ⟨t0, t1⟩ := g1
      obtain ⟨t2, t3⟩ := g2
      go_enter Tryz.func33, Tryz.ntmps33
      go_upto_region 1 with fail
      rw [HW.out]
      go_wp2_with (go_at_call 31; first
        | ((with_reducible refine (must_pairY _ _ _ _ _ (by first | rfl | (simp; done)) (by first | rfl | (simp; done) | (simp; omega))).mono ?_); rintro e w4 ⟨⟨v4, rfl⟩, rfl⟩)
        | ((with_reducible refine (must_pairN _ _ _ _ _ (by first | rfl | (simp; done)) (by first | rfl | (simp; done) | (simp; omega))).mono ?_); rintro e w4 ⟨rfl, rfl⟩))
      exact ⟨rfl, rfl, HB1.out.trans (((((Below.refl _ _).alloc (Nat.le_refl _) _).alloc (by simp) _).alloc (by simp; omega) _).mono HB1.out.size)⟩
    · clear hT
      obtain ⟨t0, t1⟩ := g1
      go_enter Tryz.func33, Tryz.ntmps33
      go_upto_region 1 with fail
      rw [HW.out]
      go_wp2_with (go_at_call 31; first
        | ((with_reducible refine (must_pairY _ _ _ _ _ (by first | rfl | (simp; done)) (by first | rfl | (simp; done) | (simp; omega))).mono ?_); rintro e w4 ⟨⟨v4, rfl⟩, rfl⟩)
        | ((with_reducible refine (must_pairN _ _ _ _ _ (by first | rfl | (simp; done)) (by first | rfl | (simp; done) | (simp; omega))).mono ?_); rintro e w4 ⟨rfl, rfl⟩))
      exact ⟨rfl, rfl, HB1.out.trans ((((Below.refl _ _).alloc (Nat.le_refl _) _).alloc (by simp) _).mono HB1.out.size)⟩
  · clear hT
    go_enter Tryz.func33, Tryz.ntmps33
    go_upto_region 1 with fail
    rw [HW.out]
    go_wp2_with (go_at_call 31; ((with_reducible refine (must_pairN _ _ _ _ _ (by first | rfl | (simp; done)) (by first | rfl | (simp; done) | (simp; omega))).mono ?_); rintro e w4 ⟨rfl, rfl⟩))
    exact ⟨rfl, rfl, HB1.out.trans (((Below.refl _ _).alloc (Nat.le_refl _) _).mono HB1.out.size)⟩
end Go.Proofs
namespace Go.Proofs
open Go.RowKit Go.Shelf Sm
/-- three variables, one behind the other -/
theorem Sm.three_vars (w : World) (a b c : Array Value) (s t u : TypeId) : ∃ W0, ((w.alloc (.cells a s)).alloc (.cells b t)).alloc (.cells c u) = W0 ∧ W0.heap.size = w.heap.size + 3 ∧ Below w.heap.size w W0 ∧ Blk W0 w.heap.size s a ∧ Blk W0 (w.heap.size + 1) t b ∧ Blk W0 (w.heap.size + 1 + 1) u c := by
  refine ⟨_, rfl, by simp, (((Below.refl _ w).alloc (Nat.le_refl _) _).alloc (by simp) _).alloc (by simp; omega) _, ?_, ?_, ?_⟩
  · exact ((Blk.new w s a).alloc _).alloc _
  · exact (Blk.newAt (X := w.alloc (.cells a s)) (by simp) t b).alloc _
  · exact Blk.newAt (X := (w.alloc (.cells a s)).alloc (.cells b t)) (by simp) u c
theorem Sm.enters30 : ∀ args w, (callFunc 30 args).run Tryz.prog w = .ok (.enter 30 args) w := enters_of Tryz.func30 (by kernel_rfl) rfl
set_option maxRecDepth 100000 in
set_option maxHeartbeats 1000000 in
theorem Sm.deed25_ok (Bk Bt Bd B : Nat) (k : Kpt) (m s i : Int) (x : Value) (w : World) (hK : KeyAt w B k) (ht : Tabs w) (hs0 : ¬ k.s0 = ⟨#[]⟩) (hs : k.s0.size ≤ 1000) (hn : 0 ≤ k.n0 ∧ k.n0 ≤ 2147483647) (hT : TokOK m s i)
    (hk : w.cell? ⟨Bk, 0, none⟩ = some (.pointer (some ⟨B, 0, none⟩))) (htk : Blk w Bt 0x18 #[.int .i64 m, .int .i64 s, .int .i64 i]) (hd : w.cell? ⟨Bd, 0, none⟩ = some x) (hf : w.frozen? ⟨Bd, 0, none⟩ = false) (hlk : Bk < w.heap.size) (hld : Bd < w.heap.size) :
    Calls Tryz.prog 30 #[.pointer (some ⟨Bk, 0, none⟩), .pointer (some ⟨Bt, 0, none⟩), .pointer (some ⟨Bd, 0, none⟩)] w fun e w' => (∃ v, e = .returned v) ∧ But (fun b => b = Bd) w w' ∧ w'.cell? ⟨Bd, 0, none⟩ = some (.string (strB (spellS (tokB k.s0 k.n0 m s i)))) ∧ w'.frozen? ⟨Bd, 0, none⟩ = false := by
  have hct := kthere_yes w (.pointer (some ⟨B, 0, none⟩)) k (.inr ⟨B, rfl, hK⟩) hs0
  have HCT := Lib.hid hct
  have hmk : ∀ v, Below w.heap.size w v → Calls Tryz.prog 33 #[.pointer (some ⟨B, 0, none⟩), .agg #[.int .i64 m, .int .i64 s, .int .i64 i]] v fun e w' => e = .returned (.string (strB (spellS (tokB k.s0 k.n0 m s i)))) ∧ Below v.heap.size v w' := fun v hv => made_ok _ k m s i v (.inr ⟨B, rfl, Blk.keep hK hv⟩) (ht.keep hv) hs hn hT
  have HMK := Lib.hid hmk
  have HTK := Lib.hid htk
  clear hct hmk hK ht hs hn hT htk hs0
  go_enter Tryz.func30, Tryz.ntmps30
  go_upto_region 1 with (first
    | (go_at_call 32; (with_reducible refine HCT.out.mono ?_); rintro e w1 ⟨rfl, hb1⟩)
    | (go_at_call 31; (with_reducible refine (must_yes _ _ _ _ (World.cell?_alloc_new w1 #[.bool true] 4 0)).mono ?_); rintro e w4 ⟨⟨v4, rfl⟩, rfl⟩))
  obtain ⟨w2, hw2⟩ : ∃ v, w1.alloc (.cells #[.bool true] 4) = v := ⟨_, rfl⟩
  have hb2 : Below w.heap.size w w2 := by rw [← hw2]; exact hb1.alloc hb1.size _
  have hk2 := (hb2.cell (p := ⟨Bk, 0, none⟩) hlk).trans hk
  have htk2 := HTK.out.keep hb2
  have t0 := htk2.cell 0
  have t1 := htk2.cell 1
  have t2 := htk2.cell 2
  simp only [List.getElem?_toArray, List.getElem?_cons_zero, List.getElem?_cons_succ] at t0 t1 t2
  have HM2 := Lib.hid (HMK.out w2 hb2)
  have HB2 := Lib.hid hb2
  rw [hw2]
  have hsz2 := hb2.size
  have hd2 := (hb2.cell (p := ⟨Bd, 0, none⟩) hld).trans hd
  have hf2 := (hb2.frozen (p := ⟨Bd, 0, none⟩) hld).trans hf
  have hld2 : Bd < w2.heap.size := by omega
  clear hw2 hb1 hb2 hk htk2 HMK HCT HTK hd hf
  go_wp2_with (go_at_call 33; (with_reducible refine HM2.out.mono ?_); rintro e w3 ⟨rfl, hb3⟩; have hd3 := (hb3.cell (p := ⟨Bd, 0, none⟩) hld2).trans hd2; have hf3 := (hb3.frozen (p := ⟨Bd, 0, none⟩) hld2).trans hf2; have hsz3 := hb3.size; have hld3 : Bd < w3.heap.size := by omega)
  go_end0
  refine ⟨⟨_, rfl⟩, ?_, World.cell?_setCell_same _ _ _ hd3, by rw [World.frozen?_setCell]; exact hf3⟩
  exact (But.of_all (HB2.out.trans (hb3.mono HB2.out.size)) (fun b => b = Bd)).set _ _ (.inl rfl)
set_option maxRecDepth 100000 in
set_option maxHeartbeats 1000000 in
theorem Sm.deed25_arg (Bk Bt Bd B : Nat) (k : Kpt) (m s i : Int) (w : World) (hK : KeyAt w B k) (hs0 : ¬ k.s0 = ⟨#[]⟩) (hT : ¬ TokOK m s i)
    (hk : w.cell? ⟨Bk, 0, none⟩ = some (.pointer (some ⟨B, 0, none⟩))) (htk : Blk w Bt 0x18 #[.int .i64 m, .int .i64 s, .int .i64 i]) (hlk : Bk < w.heap.size) :
    Calls Tryz.prog 30 #[.pointer (some ⟨Bk, 0, none⟩), .pointer (some ⟨Bt, 0, none⟩), .pointer (some ⟨Bd, 0, none⟩)] w fun e w' => e = .panicked [pE 2] ∧ Below w.heap.size w w' := by
  have hct := kthere_yes w (.pointer (some ⟨B, 0, none⟩)) k (.inr ⟨B, rfl, hK⟩) hs0
  have HCT := Lib.hid hct
  have hmk := fun v => made_arg (.pointer (some ⟨B, 0, none⟩)) m s i v hT
  have HMK := Lib.hid hmk
  have HTK := Lib.hid htk
  clear hct hmk hK hT htk hs0
  go_enter Tryz.func30, Tryz.ntmps30
  go_upto_region 1 with (first
    | (go_at_call 32; (with_reducible refine HCT.out.mono ?_); rintro e w1 ⟨rfl, hb1⟩)
    | (go_at_call 31; (with_reducible refine (must_yes _ _ _ _ (World.cell?_alloc_new w1 #[.bool true] 4 0)).mono ?_); rintro e w4 ⟨⟨v4, rfl⟩, rfl⟩))
  obtain ⟨w2, hw2⟩ : ∃ v, w1.alloc (.cells #[.bool true] 4) = v := ⟨_, rfl⟩
  have hb2 : Below w.heap.size w w2 := by rw [← hw2]; exact hb1.alloc hb1.size _
  have hk2 := (hb2.cell (p := ⟨Bk, 0, none⟩) hlk).trans hk
  have htk2 := HTK.out.keep hb2
  have t0 := htk2.cell 0
  have t1 := htk2.cell 1
  have t2 := htk2.cell 2
  simp only [List.getElem?_toArray, List.getElem?_cons_zero, List.getElem?_cons_succ] at t0 t1 t2
  have HB2 := Lib.hid hb2
  rw [hw2]
  have hsz2 := hb2.size
  clear hw2 hb1 hb2 hk htk2 HCT HTK
  go_wp2_with (go_at_call 33; (with_reducible refine (HMK.out w2).mono ?_); rintro e w3 ⟨rfl, hb3⟩)
  exact ⟨rfl, rfl, HB2.out.trans (hb3.mono HB2.out.size)⟩
set_option maxRecDepth 100000 in
set_option maxHeartbeats 1000000 in
theorem Sm.Make_ok (B : Nat) (k : Kpt) (m s i : Int) (w : World) (hK : KeyAt w B k) (ht : Tabs w) (hs0 : ¬ k.s0 = ⟨#[]⟩) (hs : k.s0.size ≤ 1000) (hn : 0 ≤ k.n0 ∧ k.n0 ≤ 2147483647) (hT : TokOK m s i) :
    Calls Tryz.prog 10 #[.pointer (some ⟨B, 0, none⟩), .agg #[.int .i64 m, .int .i64 s, .int .i64 i]] w fun e w' => e = .returned (.tuple #[.string (strB (spellS (tokB k.s0 k.n0 m s i))), .int .i64 0]) ∧ Below w.heap.size w w' := by
  have hmf : ∀ (fn : Fn) (first cap : Array Value) (w : World), (Instr.makeFunc fn first cap).run Tryz.prog w = .ok (.func fn first cap) w := fun _ _ _ _ => rfl
  obtain ⟨W0, hW0, hz, hb0, b0, b1, b2⟩ := three_vars w #[.pointer (some ⟨B, 0, none⟩)] #[.int .i64 m, .int .i64 s, .int .i64 i] #[.string ⟨#[]⟩] 0x1b 0x18 9
  have htr := tried_any 30 #[.pointer (some ⟨w.heap.size, 0, none⟩), .pointer (some ⟨w.heap.size + 1, 0, none⟩), .pointer (some ⟨w.heap.size + 1 + 1, 0, none⟩)] enters30 W0 (w.heap.size + 1 + 1) (by omega)
    (fun w' => w'.cell? ⟨w.heap.size + 1 + 1, 0, none⟩ = some (.string (strB (spellS (tokB k.s0 k.n0 m s i)))) ∧ w'.frozen? ⟨w.heap.size + 1 + 1, 0, none⟩ = false)
    (fun v hv hvz => deed25_ok w.heap.size (w.heap.size + 1) (w.heap.size + 1 + 1) B k m s i _ v (Blk.keep hK (hb0.trans (hv.mono hb0.size))) (ht.keep (hb0.trans (hv.mono hb0.size))) hs0 hs hn hT ((b0.keep hv).cell 0) (b1.keep hv) ((b2.keep hv).cell 0) ((b2.keep hv).frozen 0) (by omega) (by omega))
  have HTR := Lib.hid htr
  have HZ := Lib.hid hz
  have HB0 := Lib.hid hb0
  clear htr hz hb0 b0 b1 b2 hK ht hs hn hT hs0
  go_enter Tryz.func10, Tryz.ntmps10
  go_upto_region 1 with fail
  clear hW0
  go_upto_region 2 with (go_at_call 29; (with_reducible refine HTR.out.mono ?_); rintro e w4 ⟨rfl, w2, ⟨hc, hfc⟩, hz2, hbt, hbt0⟩)
  have hz := HZ.out
  have hc4 := (hbt.cell (p := ⟨w.heap.size + 1 + 1, 0, none⟩) (by simp; omega) (by simp; omega)).trans hc
  have hf4 := (hbt.frozen (p := ⟨w.heap.size + 1 + 1, 0, none⟩) (by simp; omega) (by simp; omega)).trans hfc
  have HB4 := Lib.hid (But.below HB0.out hbt0 (fun b e => by have e : b = w.heap.size + 1 + 1 := e; omega))
  clear hbt hbt0 hc hfc hz hz2
  go_wp2
  have hset := World.cell?_setCell_same w4 ⟨w.heap.size + 1 + 1, 0, none⟩ (.string (strB (spellS (tokB k.s0 k.n0 m s i)))) hc4
  exact bodyPost_ret (v := .tuple #[.string (strB (spellS (tokB k.s0 k.n0 m s i))), .int .i64 0]) (by simp [results, Tryz.results10, go_sem, hset]) rfl ⟨rfl, HB4.out.setCell (p := ⟨w.heap.size + 1 + 1, 0, none⟩) (by simp; omega) _⟩
set_option maxRecDepth 100000 in
set_option maxHeartbeats 1000000 in
theorem Sm.Make_arg (B : Nat) (k : Kpt) (m s i : Int) (w : World) (hK : KeyAt w B k) (hs0 : ¬ k.s0 = ⟨#[]⟩) (hT : ¬ TokOK m s i) :
    Calls Tryz.prog 10 #[.pointer (some ⟨B, 0, none⟩), .agg #[.int .i64 m, .int .i64 s, .int .i64 i]] w fun e w' => e = .returned (.tuple #[.string ⟨#[]⟩, .int .i64 2]) ∧ Below w.heap.size w w' := by
  have hmf : ∀ (fn : Fn) (first cap : Array Value) (w : World), (Instr.makeFunc fn first cap).run Tryz.prog w = .ok (.func fn first cap) w := fun _ _ _ _ => rfl
  obtain ⟨W0, hW0, hz, hb0, b0, b1, b2⟩ := three_vars w #[.pointer (some ⟨B, 0, none⟩)] #[.int .i64 m, .int .i64 s, .int .i64 i] #[.string ⟨#[]⟩] 0x1b 0x18 9
  have htr := tried_not 30 #[.pointer (some ⟨w.heap.size, 0, none⟩), .pointer (some ⟨w.heap.size + 1, 0, none⟩), .pointer (some ⟨w.heap.size + 1 + 1, 0, none⟩)] enters30 W0 2
    (fun v hv => deed25_arg w.heap.size (w.heap.size + 1) (w.heap.size + 1 + 1) B k m s i v (Blk.keep hK (hb0.trans (hv.mono hb0.size))) hs0 hT ((b0.keep hv).cell 0) (b1.keep hv) (by have := hv.size; omega))
  have HTR := Lib.hid htr
  have HZ := Lib.hid hz
  have HB0 := Lib.hid hb0
  have HD := Lib.hid b2
  clear htr hz hb0 b0 b1 b2 hK hT hs0
  go_enter Tryz.func10, Tryz.ntmps10
  go_upto_region 1 with fail
  clear hW0
  go_upto_region 2 with (go_at_call 29; (with_reducible refine HTR.out.mono ?_); rintro e w4 ⟨rfl, hbt⟩)
  have hz := HZ.out
  have hc4 := (HD.out.keep hbt).cell 0
  have hf4 := (HD.out.keep hbt).frozen 0
  simp only [List.getElem?_toArray, List.getElem?_cons_zero] at hc4
  have HB4 := Lib.hid (HB0.out.trans (hbt.mono HB0.out.size))
  clear hbt hz
  go_wp2
  have hset := World.cell?_setCell_same w4 ⟨w.heap.size + 1 + 1, 0, none⟩ (.string ⟨#[]⟩) hc4
  exact bodyPost_ret (v := .tuple #[.string ⟨#[]⟩, .int .i64 2]) (by simp [results, Tryz.results10, go_sem, hset]) rfl ⟨rfl, HB4.out.setCell (p := ⟨w.heap.size + 1 + 1, 0, none⟩) (by simp; omega) _⟩
end Go.Proofs
namespace Go.Proofs
open Go.RowKit Go.Shelf Sm
def Sm.thB (s : ByteArray) : Bool := decide (0 < s.size)
theorem Sm.thB_no {s : ByteArray} (h : thB s = false) : s = ⟨#[]⟩ := by
  have hm0 : s.size = 0 := by simpa [thB] using h
  cases s with
  | mk d =>
    have : d.size = 0 := hm0
    rw [Array.eq_empty_of_size_eq_zero this]
theorem Sm.thB_yes {s : ByteArray} (h : thB s = true) : ¬ s = ⟨#[]⟩ := by
  rintro rfl
  revert h
  decide
theorem Sm.mthere_any (w : World) (n : Int) (s : ByteArray) : Calls Tryz.prog 52 #[.agg #[.int .i64 n, .string s]] w fun e w' => e = .returned (.bool (thB s)) ∧ Below w.heap.size w w' := by
  by_cases h : thB s = true
  · rw [h]
    exact mthere_yes w n s (thB_yes h)
  · have h : thB s = false := by simpa using h
    obtain rfl := thB_no h
    exact mthere_no w n
/-- the master at a place -/
def Sm.pickK (k : Kpt) : Nat → Int × ByteArray
  | 0 => (k.n0, k.s0)
  | 1 => (k.n1, k.s1)
  | _ => (k.n2, k.s2)
def Sm.hitK (k : Kpt) (num : Int) (j : Nat) : Bool := thB (pickK k j).2 && decide ((pickK k j).1 = num)
/-- the master of a number -/
def Sm.findS (k : Kpt) (num : Int) : Option (Int × ByteArray) := if hitK k num 0 then some (pickK k 0) else if hitK k num 1 then some (pickK k 1) else if hitK k num 2 then some (pickK k 2) else none
theorem Sm.findS_hit {k : Kpt} {num : Int} {j : Nat} (hj : j < 3) (h0 : ∀ i, i < j → hitK k num i = false) (h : hitK k num j = true) : findS k num = some (pickK k j) := by
  unfold findS
  by_cases h1 : j = 0
  · subst h1; rw [if_pos h]
  · rw [if_neg (by rw [h0 0 (by omega)]; decide)]
    by_cases h2 : j = 1
    · subst h2; rw [if_pos h]
    · rw [if_neg (by rw [h0 1 (by omega)]; decide)]
      obtain rfl : j = 2 := by omega
      rw [if_pos h]
theorem Sm.findS_none {k : Kpt} {num : Int} (h0 : ∀ i, i < 3 → hitK k num i = false) : findS k num = none := by
  unfold findS
  rw [if_neg (by rw [h0 0 (by omega)]; decide), if_neg (by rw [h0 1 (by omega)]; decide), if_neg (by rw [h0 2 (by omega)]; decide)]
theorem Sm.index_m (k : Kpt) (j : Nat) (hj : j < 3) (w : World) : (Instr.index 0x25 (.agg #[.int .i64 k.n0, .string k.s0, .int .i64 k.n1, .string k.s1, .int .i64 k.n2, .string k.s2]) (.int .i64 (j : Int))).run Tryz.prog w = .ok (.agg #[.int .i64 (pickK k j).1, .string (pickK k j).2]) w := by
  by_cases h1 : j = 0
  · subst h1; kernel_rfl
  · by_cases h2 : j = 1
    · subst h2; kernel_rfl
    · obtain rfl : j = 2 := by omega
      kernel_rfl
/-- how finding ends -/
def Sm.FindPost (k : Kpt) (num : Int) (w : World) (e : Ending) (w' : World) : Prop := Below w.heap.size w w' ∧ match findS k num with
  | some p => e = .returned (.agg #[.int .i64 p.1, .string p.2])
  | none => e = .panicked [pE 162]
set_option maxRecDepth 100000 in
set_option maxHeartbeats 1000000 in
theorem Sm.find_any (B : Nat) (k : Kpt) (num : Int) (w : World) (hK : KeyAt w B k) : Calls Tryz.prog 64 #[.pointer (some ⟨B, 0, none⟩), .int .i64 num] w (FindPost k num w) := by
  obtain ⟨W1, hW1⟩ : ∃ x, w.alloc (.cells #[.int .i64 0, .string ⟨#[]⟩] 0x23) = x := ⟨_, rfl⟩
  have hb1 : Below w.heap.size w W1 := by rw [← hW1]; exact (Below.refl _ w).alloc (Nat.le_refl _) _
  have h1 : Blk W1 w.heap.size 0x23 #[.int .i64 0, .string ⟨#[]⟩] := by rw [← hW1]; exact Blk.new w 0x23 _
  obtain ⟨c0, c1, c2, c3, c4, c5⟩ := KeyAt.cs (Blk.keep hK hb1)
  have HW := Lib.hid hW1
  have HB1 := Lib.hid hb1
  have HR1 := Lib.hid h1
  clear hW1 hb1 h1 hK
  go_enter Tryz.func64, Tryz.ntmps64
  go_upto_region 1 with fail
  rw [HW.out]
  go_wp2
  clear c0 c1 c2 c3 c4 c5
  go_loopw [11] (fun s11 wr => ∃ j : Nat, j ≤ 3 ∧ s11 = .int .i64 (j : Int) ∧ (∀ i, i < j → hitK k num i = false) ∧ Hid (Below w.heap.size w wr) ∧ Hid (Blk wr w.heap.size 0x23 #[.int .i64 0, .string ⟨#[]⟩])) (fun s11 _ => 3 - (intOf s11).toNat)
  case atStart => exact ⟨0, by omega, rfl, fun i h => absurd h (Nat.not_lt_zero _), HB1, HR1⟩
  case round =>
    obtain ⟨wo, rfl⟩ : ∃ wo : World, wo = wr := ⟨_, rfl⟩
    obtain ⟨j, hj, rfl, h0, HB, HR⟩ := hrel
    have HH := Lib.hid h0
    clear h0 HB1 HR1
    by_cases hlt : j < 3
    · have hix := index_m k j hlt
      have hhit : hitK k num j = (thB (pickK k j).2 && decide ((pickK k j).1 = num)) := rfl
      have hfd : hitK k num j = true → findS k num = some (pickK k j) := findS_hit hlt HH.out
      obtain ⟨⟨pn, ps⟩, hp⟩ : ∃ p, pickK k j = p := ⟨_, rfl⟩
      rw [hp] at hix hhit hfd
      simp only at hix hhit hfd
      have hth := fun v => mthere_any v pn ps
      obtain ⟨wA, hwA⟩ : ∃ x, wo.alloc (.cells #[.int .i64 pn, .string ps] 0x23) = x := ⟨_, rfl⟩
      have hbA : Below w.heap.size w wA := by rw [← hwA]; exact HB.out.alloc HB.out.size _
      have hmA : Blk wA wo.heap.size 0x23 #[.int .i64 pn, .string ps] := by rw [← hwA]; exact Blk.new wo 0x23 _
      have hrA : Blk wA w.heap.size 0x23 #[.int .i64 0, .string ⟨#[]⟩] := by rw [← hwA]; exact HR.out.alloc _
      have a0 := hmA.cell 0
      have a1 := hmA.cell 1
      simp only [List.getElem?_toArray, List.getElem?_cons_zero, List.getElem?_cons_succ] at a0 a1
      have HMA := Lib.hid hmA
      have HRA := Lib.hid hrA
      have HBA := Lib.hid hbA
      have HWA := Lib.hid hwA
      have HTH := Lib.hid (hth wA)
      have HIT := Lib.hid hhit
      have HFD := Lib.hid hfd
      have hlo : w.heap.size ≤ wo.heap.size := HB.out.size
      have hro : w.heap.size ≠ wo.heap.size := Nat.ne_of_lt (HR.out.lt)
      clear hth hwA hbA hmA hrA hhit hfd hp HB HR
      go_upto_region 4 with fail
      rw [HWA.out]
      cases hb : thB ps with
      | false =>
        rw [hb] at HTH HIT
        go_wp2_with (go_at_call 52; (with_reducible refine HTH.out.mono ?_); rintro e w2 ⟨rfl, hb2⟩)
        have hmis : hitK k num j = false := by rw [HIT.out]; rfl
        refine ⟨⟨j + 1, by omega, by go_num, fun i hi => ?_, Lib.hid (HBA.out.trans (hb2.mono HBA.out.size)), Lib.hid (HRA.out.keep hb2)⟩, by simp [intOf]; omega⟩
        rcases Nat.lt_or_ge i j with h | h
        · exact HH.out i h
        · obtain rfl : i = j := by omega
          exact hmis
      | true =>
        rw [hb] at HTH HIT
        by_cases he : pn = num
        · subst he
          have hhit : hitK k pn j = true := by rw [HIT.out]; simp
          have HF := Lib.hid (HFD.out hhit)
          clear hhit
          go_wp2_with (go_at_call 52; (with_reducible refine HTH.out.mono ?_); rintro e w2 ⟨rfl, hb2⟩; have hm2 := HMA.out.keep hb2; have hr2 := HRA.out.keep hb2; have q0 := hm2.cell 0; have q1 := hm2.cell 1; have r0 := hr2.cell 0; have r1 := hr2.cell 1; have s0 := hr2.frozen 0; have s1 := hr2.frozen 1; simp only [List.getElem?_toArray, List.getElem?_cons_zero, List.getElem?_cons_succ] at q0 q1 r0 r1)
          have hz1 := heap_setCell_same w2 w.heap.size 0 _ 0x23 (.int .i64 pn) hr2
          simp only [List.setIfInBounds_toArray, List.set_cons_zero] at hz1
          have hz2 := heap_setCell_same _ w.heap.size 1 _ 0x23 (.string ps) hz1
          simp only [List.setIfInBounds_toArray, List.set_cons_succ, List.set_cons_zero] at hz2
          have e0 := Blk.cell hz2 0
          have e1 := Blk.cell hz2 1
          simp only [List.getElem?_toArray, List.getElem?_cons_zero, List.getElem?_cons_succ] at e0 e1
          refine bodyPost_ret (v := .agg #[.int .i64 pn, .string ps]) (by simp [results, Tryz.results64, go_sem, e0, e1]) rfl ⟨?_, ?_⟩
          · exact ((HBA.out.trans (hb2.mono HBA.out.size)).setCell (p := ⟨w.heap.size, 0, none⟩) (Nat.le_refl _) _).setCell (p := ⟨w.heap.size, 1, none⟩) (Nat.le_refl _) _
          · rw [HF.out]
        · have hmis : hitK k num j = false := by rw [HIT.out]; simp [he]
          have HM := Lib.hid hmis
          clear hmis
          go_wp2_with (go_at_call 52; (with_reducible refine HTH.out.mono ?_); rintro e w2 ⟨rfl, hb2⟩; have hm2 := HMA.out.keep hb2; have q0 := hm2.cell 0; have q1 := hm2.cell 1; simp only [List.getElem?_toArray, List.getElem?_cons_zero, List.getElem?_cons_succ] at q0 q1)
          refine ⟨⟨j + 1, by omega, by go_num, fun i hi => ?_, Lib.hid (HBA.out.trans (hb2.mono HBA.out.size)), Lib.hid (HRA.out.keep hb2)⟩, by simp [intOf]; omega⟩
          rcases Nat.lt_or_ge i j with h | h
          · exact HH.out i h
          · obtain rfl : i = j := by omega
            exact HM.out
    · obtain rfl : j = 3 := by omega
      go_wp2
      have hf := findS_none HH.out
      refine ⟨rfl, HB.out, ?_⟩
      rw [hf]
      rfl
end Go.Proofs
