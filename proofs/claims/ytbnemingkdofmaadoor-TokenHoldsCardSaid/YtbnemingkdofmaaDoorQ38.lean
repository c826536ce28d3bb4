/-
  The contracts of find, and of the numbers of a token.
  The contracts of the numbers that are asked for where a token is opened.
-/
import Derived.Test.YtbnemingkdofmaaDoorQ37
namespace Go.Proofs
open Go.RowKit Go.Shelf Sm
def Sm.thB (s : ByteArray) : Bool := decide (0 < s.size)
theorem Sm.thB_no {s : ByteArray} (h : thB s = false) : s = ⟨#[]⟩ := by
  have hm0 : s.size = 0 := by simpa [thB] using h
  cases s with
  | mk d =>
    have : d.size = 0 := hm0
    rw [Array.eq_empty_of_size_eq_zero this]
theorem Sm.thB_yes {s : ByteArray} (h : thB s = true) : ¬ s = ⟨#[]⟩ := by
  rintro rfl
  revert h
  decide
theorem Sm.mthere_any (w : World) (n : Int) (s : ByteArray) : Calls Tryd.prog 39 #[.agg #[.int .i64 n, .string s]] w fun e w' => e = .returned (.bool (thB s)) ∧ Below w.heap.size w w' := by
  by_cases h : thB s = true
  · rw [h]
    exact mthere_yes w n s (thB_yes h)
  · have h : thB s = false := by simpa using h
    obtain rfl := thB_no h
    exact mthere_no w n
/-- the master at a place -/
def Sm.pickK (k : Kpt) : Nat → Int × ByteArray
  | 0 => (k.n0, k.s0)
  | 1 => (k.n1, k.s1)
  | _ => (k.n2, k.s2)
def Sm.hitK (k : Kpt) (num : Int) (j : Nat) : Bool := thB (pickK k j).2 && decide ((pickK k j).1 = num)
/-- the master of a number -/
def Sm.findS (k : Kpt) (num : Int) : Option (Int × ByteArray) := if hitK k num 0 then some (pickK k 0) else if hitK k num 1 then some (pickK k 1) else if hitK k num 2 then some (pickK k 2) else none
theorem Sm.findS_hit {k : Kpt} {num : Int} {j : Nat} (hj : j < 3) (h0 : ∀ i, i < j → hitK k num i = false) (h : hitK k num j = true) : findS k num = some (pickK k j) := by
  unfold findS
  by_cases h1 : j = 0
  · subst h1; rw [if_pos h]
  · rw [if_neg (by rw [h0 0 (by omega)]; decide)]
    by_cases h2 : j = 1
    · subst h2; rw [if_pos h]
    · rw [if_neg (by rw [h0 1 (by omega)]; decide)]
      obtain rfl : j = 2 := by omega
      rw [if_pos h]
theorem Sm.findS_none {k : Kpt} {num : Int} (h0 : ∀ i, i < 3 → hitK k num i = false) : findS k num = none := by
  unfold findS
  rw [if_neg (by rw [h0 0 (by omega)]; decide), if_neg (by rw [h0 1 (by omega)]; decide), if_neg (by rw [h0 2 (by omega)]; decide)]
theorem Sm.index_m (k : Kpt) (j : Nat) (hj : j < 3) (w : World) : (Instr.index 0x39 (.agg #[.int .i64 k.n0, .string k.s0, .int .i64 k.n1, .string k.s1, .int .i64 k.n2, .string k.s2]) (.int .i64 (j : Int))).run Tryd.prog w = .ok (.agg #[.int .i64 (pickK k j).1, .string (pickK k j).2]) w := by
  by_cases h1 : j = 0
  · subst h1; kernel_rfl
  · by_cases h2 : j = 1
    · subst h2; kernel_rfl
    · obtain rfl : j = 2 := by omega
      kernel_rfl
/-- how finding ends -/
def Sm.FindPost (k : Kpt) (num : Int) (w : World) (e : Ending) (w' : World) : Prop := Below w.heap.size w w' ∧ match findS k num with
  | some p => e = .returned (.agg #[.int .i64 p.1, .string p.2])
  | none => e = .panicked [pE 162]
set_option maxRecDepth 100000 in
set_option maxHeartbeats 1000000 in
theorem Sm.find_any (B : Nat) (k : Kpt) (num : Int) (w : World) (hK : KeyAt w B k) : Calls Tryd.prog 51 #[.pointer (some ⟨B, 0, none⟩), .int .i64 num] w (FindPost k num w) := by
  obtain ⟨W1, hW1⟩ : ∃ x, w.alloc (.cells #[.int .i64 0, .string ⟨#[]⟩] 0x37) = x := ⟨_, rfl⟩
  have hb1 : Below w.heap.size w W1 := by rw [← hW1]; exact (Below.refl _ w).alloc (Nat.le_refl _) _
  have h1 : Blk W1 w.heap.size 0x37 #[.int .i64 0, .string ⟨#[]⟩] := by rw [← hW1]; exact Blk.new w 0x37 _
  obtain ⟨c0, c1, c2, c3, c4, c5⟩ := KeyAt.cs (Blk.keep hK hb1)
  have HW := Lib.hid hW1
  have HB1 := Lib.hid hb1
  have HR1 := Lib.hid h1
  clear hW1 hb1 h1 hK
  go_enter Tryd.func51, Tryd.ntmps51
  go_upto_region 1 with fail
  rw [HW.out]
  go_wp2
  clear c0 c1 c2 c3 c4 c5
  go_loopw [11] (fun s11 wr => ∃ j : Nat, j ≤ 3 ∧ s11 = .int .i64 (j : Int) ∧ (∀ i, i < j → hitK k num i = false) ∧ Hid (Below w.heap.size w wr) ∧ Hid (Blk wr w.heap.size 0x37 #[.int .i64 0, .string ⟨#[]⟩])) (fun s11 _ => 3 - (intOf s11).toNat)
  case atStart => exact ⟨0, by omega, rfl, fun i h => absurd h (Nat.not_lt_zero _), HB1, HR1⟩
  case round =>
    obtain ⟨wo, rfl⟩ : ∃ wo : World, wo = wr := ⟨_, rfl⟩
    obtain ⟨j, hj, rfl, h0, HB, HR⟩ := hrel
    have HH := Lib.hid h0
    clear h0 HB1 HR1
    by_cases hlt : j < 3
    · have hix := index_m k j hlt
      have hhit : hitK k num j = (thB (pickK k j).2 && decide ((pickK k j).1 = num)) := rfl
      have hfd : hitK k num j = true → findS k num = some (pickK k j) := findS_hit hlt HH.out
      obtain ⟨⟨pn, ps⟩, hp⟩ : ∃ p, pickK k j = p := ⟨_, rfl⟩
      rw [hp] at hix hhit hfd
      simp only at hix hhit hfd
      have hth := fun v => mthere_any v pn ps
      obtain ⟨wA, hwA⟩ : ∃ x, wo.alloc (.cells #[.int .i64 pn, .string ps] 0x37) = x := ⟨_, rfl⟩
      have hbA : Below w.heap.size w wA := by rw [← hwA]; exact HB.out.alloc HB.out.size _
      have hmA : Blk wA wo.heap.size 0x37 #[.int .i64 pn, .string ps] := by rw [← hwA]; exact Blk.new wo 0x37 _
      have hrA : Blk wA w.heap.size 0x37 #[.int .i64 0, .string ⟨#[]⟩] := by rw [← hwA]; exact HR.out.alloc _
      have a0 := hmA.cell 0
      have a1 := hmA.cell 1
      simp only [List.getElem?_toArray, List.getElem?_cons_zero, List.getElem?_cons_succ] at a0 a1
      have HMA := Lib.hid hmA
      have HRA := Lib.hid hrA
      have HBA := Lib.hid hbA
      have HWA := Lib.hid hwA
      have HTH := Lib.hid (hth wA)
      have HIT := Lib.hid hhit
      have HFD := Lib.hid hfd
      have hlo : w.heap.size ≤ wo.heap.size := HB.out.size
      have hro : w.heap.size ≠ wo.heap.size := Nat.ne_of_lt (HR.out.lt)
      clear hth hwA hbA hmA hrA hhit hfd hp HB HR
      go_upto_region 4 with fail
      rw [HWA.out]
      cases hb : thB ps with
      | false =>
        rw [hb] at HTH HIT
        go_wp2_with (go_at_call 39; (with_reducible refine HTH.out.mono ?_); rintro e w2 ⟨rfl, hb2⟩)
        have hmis : hitK k num j = false := by rw [HIT.out]; rfl
        refine ⟨⟨j + 1, by omega, by go_num, fun i hi => ?_, Lib.hid (HBA.out.trans (hb2.mono HBA.out.size)), Lib.hid (HRA.out.keep hb2)⟩, by simp [intOf]; omega⟩
        rcases Nat.lt_or_ge i j with h | h
        · exact HH.out i h
        · obtain rfl : i = j := by omega
          exact hmis
      | true =>
        rw [hb] at HTH HIT
        by_cases he : pn = num
        · subst he
          have hhit : hitK k pn j = true := by rw [HIT.out]; simp
          have HF := Lib.hid (HFD.out hhit)
          clear hhit
          go_wp2_with (go_at_call 39; (with_reducible refine HTH.out.mono ?_); rintro e w2 ⟨rfl, hb2⟩; have hm2 := HMA.out.keep hb2; have hr2 := HRA.out.keep hb2; have q0 := hm2.cell 0; have q1 := hm2.cell 1; have r0 := hr2.cell 0; have r1 := hr2.cell 1; have s0 := hr2.frozen 0; have s1 := hr2.frozen 1; simp only [List.getElem?_toArray, List.getElem?_cons_zero, List.getElem?_cons_succ] at q0 q1 r0 r1)
          have hz1 := heap_setCell_same w2 w.heap.size 0 _ 0x37 (.int .i64 pn) hr2
          simp only [List.setIfInBounds_toArray, List.set_cons_zero] at hz1
          have hz2 := heap_setCell_same _ w.heap.size 1 _ 0x37 (.string ps) hz1
          simp only [List.setIfInBounds_toArray, List.set_cons_succ, List.set_cons_zero] at hz2
          have e0 := Blk.cell hz2 0
          have e1 := Blk.cell hz2 1
          simp only [List.getElem?_toArray, List.getElem?_cons_zero, List.getElem?_cons_succ] at e0 e1
          refine bodyPost_ret (v := .agg #[.int .i64 pn, .string ps]) (by simp [results, Tryd.results51, go_sem, e0, e1]) rfl ⟨?_, ?_⟩
          · exact ((HBA.out.trans (hb2.mono HBA.out.size)).setCell (p := ⟨w.heap.size, 0, none⟩) (Nat.le_refl _) _).setCell (p := ⟨w.heap.size, 1, none⟩) (Nat.le_refl _) _
          · rw [HF.out]
        · have hmis : hitK k num j = false := by rw [HIT.out]; simp [he]
          have HM := Lib.hid hmis
          clear hmis
          go_wp2_with (go_at_call 39; (with_reducible refine HTH.out.mono ?_); rintro e w2 ⟨rfl, hb2⟩; have hm2 := HMA.out.keep hb2; have q0 := hm2.cell 0; have q1 := hm2.cell 1; simp only [List.getElem?_toArray, List.getElem?_cons_zero, List.getElem?_cons_succ] at q0 q1)
          refine ⟨⟨j + 1, by omega, by go_num, fun i hi => ?_, Lib.hid (HBA.out.trans (hb2.mono HBA.out.size)), Lib.hid (HRA.out.keep hb2)⟩, by simp [intOf]; omega⟩
          rcases Nat.lt_or_ge i j with h | h
          · exact HH.out i h
          · obtain rfl : i = j := by omega
            exact HM.out
    · obtain rfl : j = 3 := by omega
      go_wp2
      have hf := findS_none HH.out
      refine ⟨rfl, HB.out, ?_⟩
      rw [hf]
      rfl
end Go.Proofs
namespace Go.Proofs
open Go.RowKit Go.Shelf Sm
/-- a number ahead, and what is behind it -/
def Sm.numO (l : List (BitVec 8)) (most : Int) : Option (List (BitVec 8) × Int) := match getN l with
  | .num m k => if (m : Int) ≤ most then some (l.drop k, (m : Int)) else none
  | _ => none
theorem Sm.numS_some {l l' : List (BitVec 8)} {most n : Int} (hm : 0 ≤ most) (h : numO l most = some (l', n)) : numS l 0 most = (l', 0, n, 0) := by
  unfold numO at h
  unfold numS
  rw [if_neg (by simp), if_neg (by omega)]
  cases hg : getN l with
  | num m k =>
    rw [hg] at h
    simp only at h ⊢
    by_cases hle : (m : Int) ≤ most
    · rw [if_pos hle] at h ⊢
      injection h with h
      injection h with h1 h2
      rw [h1, h2]
    · rw [if_neg hle] at h
      cases h
  | cut => rw [hg] at h; cases h
  | bad => rw [hg] at h; cases h
theorem Sm.numS_none {l : List (BitVec 8)} {most : Int} (hm : 0 ≤ most) (h : numO l most = none) : numS l 0 most = ([], 120, 0, 120) := by
  unfold numO at h
  unfold numS
  rw [if_neg (by simp), if_neg (by omega)]
  cases hg : getN l with
  | num m k =>
    rw [hg] at h
    simp only at h ⊢
    by_cases hle : (m : Int) ≤ most
    · rw [if_pos hle] at h
      cases h
    · rw [if_neg hle]
  | cut => rfl
  | bad => rfl
theorem Sm.numO_bound {l l' : List (BitVec 8)} {most n : Int} (h : numO l most = some (l', n)) : 0 ≤ n ∧ n ≤ most ∧ ∃ k, k ≤ l.length ∧ l' = l.drop k := by
  unfold numO at h
  cases hg : getN l with
  | num m k =>
    rw [hg] at h
    simp only at h
    by_cases hle : (m : Int) ≤ most
    · rw [if_pos hle] at h
      injection h with h
      injection h with h1 h2
      subst h1 h2
      exact ⟨by omega, hle, k, (getN_form hg).2.2.2, rfl⟩
    · rw [if_neg hle] at h
      cases h
  | cut => rw [hg] at h; cases h
  | bad => rw [hg] at h; cases h
set_option maxRecDepth 100000 in
set_option maxHeartbeats 1000000 in
theorem Sm.ask_yes (Br R : Nat) (l l' : List (BitVec 8)) (most n : Int) (w : World) (hr : Rdr w R l 0) (hc : w.cell? ⟨Br, 0, none⟩ = some (.pointer (some ⟨R, 0, none⟩))) (hm : 0 ≤ most) (hn : numO l most = some (l', n)) :
    Calls Tryd.prog 47 #[.int .i64 most, .pointer (some ⟨Br, 0, none⟩)] w fun e w' => e = .returned (.int .i64 n) ∧ Rdr w' R l' 0 ∧ But (fun b => b = R) w w' := by
  have hN := Number_any hr most
  rw [numS_some hm hn] at hN
  have HN := Lib.hid hN
  clear hN hn hr
  go_enter Tryd.func47, Tryd.ntmps47
  go_wp2_with (first
    | (go_at_call 48; (with_reducible refine HN.out.mono ?_); rintro e w1 ⟨rfl, hr1, hb1⟩)
    | (go_at_call 26; (with_reducible refine (must_oneY _ _ _ _ (by first | rfl | (simp; done)) (by first | rfl | (simp; done))).mono ?_); rintro e w4 ⟨⟨v4, rfl⟩, rfl⟩))
  go_ret
  have hba : Below w1.heap.size w1 (w1.alloc (.cells #[.bool true] 4)) := (Below.refl _ _).alloc (Nat.le_refl _) _
  exact ⟨rfl, hr1.but (But.of_all hba (fun _ => False)) (fun _ _ h => h), hb1.trans (But.of_all hba (fun b => b = R)) (fun _ _ h => h)⟩
set_option maxRecDepth 100000 in
set_option maxHeartbeats 1000000 in
theorem Sm.ask_no (Br R : Nat) (l : List (BitVec 8)) (most : Int) (w : World) (hr : Rdr w R l 0) (hc : w.cell? ⟨Br, 0, none⟩ = some (.pointer (some ⟨R, 0, none⟩))) (hm : 0 ≤ most) (hn : numO l most = none) :
    Calls Tryd.prog 47 #[.int .i64 most, .pointer (some ⟨Br, 0, none⟩)] w fun e w' => e = .panicked [pE 161] ∧ But (fun b => b = R) w w' := by
  have hN := Number_any hr most
  rw [numS_none hm hn] at hN
  have HN := Lib.hid hN
  clear hN hn hr
  go_enter Tryd.func47, Tryd.ntmps47
  go_wp2_with (first
    | (go_at_call 48; (with_reducible refine HN.out.mono ?_); rintro e w1 ⟨rfl, hr1, hb1⟩)
    | (go_at_call 26; (with_reducible refine (must_oneN _ _ _ _ (by first | rfl | (simp; done)) (by first | rfl | (simp; done))).mono ?_); rintro e w4 ⟨rfl, rfl⟩))
  have hba : Below w1.heap.size w1 (w1.alloc (.cells #[.bool false] 4)) := (Below.refl _ _).alloc (Nat.le_refl _) _
  exact ⟨rfl, rfl, hb1.trans (But.of_all hba (fun b => b = R)) (fun _ _ h => h)⟩
end Go.Proofs
