/-
  What TokenOpens, TokenMakes, TokenForged and TokenKeys have in common, and the walk of TokenOpens.
-/
import Derived.BigQuiet
import Derived.Deep.RegionHeldLaw
import Derived.Deep.CutRange
import Derived.Test.YtbojnblececnhaaGreatDoorQ35
import Derived.Test.YtbojnblececnhaaGreatDoorQ27
namespace Go.Proofs
open Go.RowKit Go.Shelf Sm
theorem Sm.Open_V (B : Nat) (k : Kpt) (s : ByteArray) (w : World) (hK : KeyAt w B k) (ht : Tabs w) (hs0 : ¬ k.s0 = ⟨#[]⟩) (hss : k.s0.size ≤ 1000 ∧ k.s1.size ≤ 1000 ∧ k.s2.size ≤ 1000) (hm : s.size ≤ 9223372036854775807) :
    Calls Tryz.prog 11 #[.pointer (some ⟨B, 0, none⟩), .string s] w fun e w' => e = .returned (OpenV (openS k s)) ∧ Below w.heap.size w w' := by
  cases ho : openS k s with
  | ok p =>
    obtain ⟨a, b, c⟩ := p
    exact Open_ok B k s a b c w hK ht hs0 hss hm ho
  | error no => exact Open_no B k s no w hK ht hs0 hss hm ho
theorem Sm.few_parts {f : ByteArray} {ss : List ByteArray} (h : fewB f ss = true) : (∀ x ∈ ss, x.size ≤ 100) ∧ f.size ≤ 100 ∧ ss.length ≤ 12 := by
  unfold fewB at h
  simp only [Bool.and_eq_true, decide_eq_true_eq, List.all_eq_true] at h
  exact ⟨h.1, h.2.1, h.2.2⟩
/-- what turned hands over -/
def Sm.Handed (w' : World) (N : Nat) (p : Option Addr) (f0 : Int) (A0 : Option Addr) (n0 : Nat) : Prop := p = none ∨ ∃ (B : Nat) (d : Kd) (j : Nat), p = some ⟨B, 0, none⟩ ∧ f0 = d.first ∧ n0 = d.ms.length ∧ j ≤ 20 ∧ d.OK j ∧ KeyAt w' B d.pt ∧ N ≤ B ∧ Rds w' (fun b => b = B) A0 (d.ms.map Value.string)
theorem Sm.turnedK_any (f : ByteArray) (n c : Nat) (A : Option Addr) (ss : List ByteArray) (w : World) (hl : ss.length = n) (hfew : fewB f ss = true) (hr : Rds w (fun _ => False) A (ss.map Value.string)) :
    Calls Tryz.prog 9 #[.string f, .slice A n c] w fun e w' => ∃ p f0 A0 n0 c0, e = .returned (.tuple #[.pointer p, .agg #[.int .i64 f0, .slice A0 n0 c0], .bool true]) ∧ Hid (Handed w' w.heap.size p f0 A0 n0) ∧ Below w.heap.size w w' := by
  obtain ⟨h1, h2, h3⟩ := few_parts hfew
  have key : Calls Tryz.prog 9 #[.string f, .slice A n c] w (TurnedPost w) := by
    by_cases hb : 1 ≤ f.size ∧ f.size ≤ 64
    · exact turned_all f n c A ss w hb.1 hb.2 hl (by omega) h1 hr
    · exact turned_not f n c A w (by omega) hb
  refine key.mono ?_
  rintro e w' ⟨hb, ⟨f0, A0, n0, c0, rfl⟩ | ⟨B, d, A0, c0, j, hj, rfl, hok, hk, hB, hrow⟩⟩
  · exact ⟨none, f0, A0, n0, c0, rfl, Lib.hid (.inl rfl), hb⟩
  · exact ⟨some ⟨B, 0, none⟩, d.first, A0, d.ms.length, c0, rfl, Lib.hid (.inr ⟨B, d, j, rfl, rfl, rfl, hj, hok, hk, hB, hrow⟩), hb⟩
set_option maxRecDepth 100000 in
set_option maxHeartbeats 2000000 in
theorem Sm.opens_long (f : ByteArray) (n c : Nat) (A : Option Addr) (ss : List ByteArray) (s : ByteArray) (w : World) (ht : Tabs w) (hl : ss.length = n) (hm : n ≤ 9223372036854775807) (hr : Rds w (fun _ => False) A (ss.map Value.string)) (hno : ¬ (fewB f ss = true ∧ s.size ≤ 300)) :
    Calls Tryz.prog 4 #[.string f, .slice A n c, .string s] w fun e w' => e = .returned (.bool true) ∧ Below w.heap.size w w' := by
  have hfw := few_any f n c A ss w hl hm hr
  have HWK := Lib.hid (works_any w ht)
  by_cases g1 : fewB f ss = true
  · have h2 : (300 : Int) < (s.size : Int) := by
      rcases Nat.lt_or_ge 300 s.size with h | h
      · omega
      · exact absurd ⟨g1, h⟩ hno
    rw [g1] at hfw
    have HFW := Lib.hid hfw
    clear hfw hno g1 ht hr hl
    go_enter Tryz.func4, Tryz.ntmps4
    go_wp2_with (first
      | (go_at_call 7; (with_reducible refine HFW.out.mono ?_); rintro e w2 ⟨rfl, rfl⟩)
      | (go_at_call 8; (with_reducible refine HWK.out.mono ?_); rintro e w8 ⟨rfl, hb8⟩))
    go_ret
    exact ⟨rfl, hb8⟩
  · rw [show fewB f ss = false by simpa using g1] at hfw
    have HFW := Lib.hid hfw
    clear hfw hno g1 ht hr hl
    go_enter Tryz.func4, Tryz.ntmps4
    go_wp2_with (first
      | (go_at_call 7; (with_reducible refine HFW.out.mono ?_); rintro e w2 ⟨rfl, rfl⟩)
      | (go_at_call 8; (with_reducible refine HWK.out.mono ?_); rintro e w8 ⟨rfl, hb8⟩))
    go_ret
    exact ⟨rfl, hb8⟩
set_option maxRecDepth 100000 in
set_option maxHeartbeats 2000000 in
theorem Sm.opens_few (f : ByteArray) (n c : Nat) (A : Option Addr) (ss : List ByteArray) (s : ByteArray) (w : World) (ht : Tabs w) (hl : ss.length = n) (hm : n ≤ 9223372036854775807) (hr : Rds w (fun _ => False) A (ss.map Value.string)) (hfew : fewB f ss = true) (hs : s.size ≤ 300) :
    Calls Tryz.prog 4 #[.string f, .slice A n c, .string s] w fun e w' => e = .returned (.bool true) ∧ Below w.heap.size w w' := by
  have hfw := few_any f n c A ss w hl hm hr
  rw [hfew] at hfw
  have HFW := Lib.hid hfw
  have HTN := Lib.hid (turnedK_any f n c A ss w hl hfew hr)
  have HT := Lib.hid ht
  have hsi : ¬ (300 : Int) < (s.size : Int) := by omega
  clear hfw hr hl hfew ht
  go_enter Tryz.func4, Tryz.ntmps4
  go_upto_region 3 with (go_at_call 7; (with_reducible refine HFW.out.mono ?_); rintro e w2 ⟨rfl, rfl⟩)
  go_upto_region 4 with (go_at_call 9; (with_reducible refine HTN.out.mono ?_); rintro e w3 ⟨p, f0, A0, n0, c0, rfl, HH, hb3⟩)
  obtain ⟨B8, hB8⟩ : ∃ b, w3.heap.size = b := ⟨_, rfl⟩
  obtain ⟨W4, hW4⟩ : ∃ v, w3.alloc (.cells #[.int .i64 f0, .slice A0 n0 c0] 29) = v := ⟨_, rfl⟩
  have hb34 : Below w3.heap.size w3 W4 := by rw [← hW4]; exact (Below.refl _ _).alloc (Nat.le_refl _) _
  have h8 : Blk W4 B8 29 #[.int .i64 f0, .slice A0 n0 c0] := by rw [← hW4, ← hB8]; exact Blk.new w3 29 _
  have HB4 := Lib.hid (hb3.trans (hb34.mono hb3.size))
  have H8 := Lib.hid h8
  have HWK := Lib.hid (works_any W4 (HT.out.keep HB4.out))
  have hw3 := hb3.size
  rw [hW4, hB8]
  clear hW4 h8 hb3 HTN HFW
  rcases HH.out with rfl | ⟨B, d, j, rfl, rfl, rfl, hj, hok, hk, hBl, hrow⟩
  · clear HH hb34 hB8
    go_wp2_with (go_at_call 8; (with_reducible refine HWK.out.mono ?_); rintro e w8 ⟨rfl, hb8⟩)
    go_ret
    exact ⟨rfl, HB4.out.trans (hb8.mono HB4.out.size)⟩
  · have hk4 : KeyAt W4 B d.pt := Blk.keep hk hb34
    have hrow4 := hrow.below hb34
    have HOK := Lib.hid hok
    have HK4 := Lib.hid hk4
    have HROW := Lib.hid hrow4
    have hs2 : s.size ≤ 9223372036854775807 := by omega
    have HOP := Lib.hid (Open_V B d.pt s W4 hk4 (HT.out.keep HB4.out) (Kd.there hok) (Kd.sizes hok) hs2)
    have HRO : Hid (∀ W : World, Below W4.heap.size W4 W → Calls Tryz.prog 19 #[.agg #[.int .i64 d.first, .slice A0 d.ms.length c0], .string s] W fun e w' => e = .returned (OpenV (openS d.pt s)) ∧ Below W.heap.size W w') := Lib.hid (fun W hb => refOpen_any d j c0 A0 s W hok (by omega) ((hrow4.below hb).weaker (fun _ h => h.elim)))
    clear HH hb34 hB8 hk hrow hok hk4 hrow4 HWK
    have hc8 : ∀ W : World, Below W4.heap.size W4 W → W.cell? ⟨B8, 0, none⟩ = some (.int .i64 d.first) ∧ W.cell? ⟨B8, 1, none⟩ = some (.slice A0 d.ms.length c0) := fun W hb => ⟨(H8.out.keep hb).cell 0, (H8.out.keep hb).cell 1⟩
    have HC8 := Lib.hid hc8
    clear hc8
    cases ho : openS d.pt s with
    | ok q =>
      obtain ⟨qa, qb, qc⟩ := q
      rw [ho] at HOP HRO
      clear ho
      unfold OpenV at HOP HRO
      go_upto_region 7 with (go_at_call 11; (with_reducible refine HOP.out.mono ?_); rintro e w6 ⟨rfl, hb6⟩)
      obtain ⟨B10, hB10⟩ : ∃ b, w6.heap.size = b := ⟨_, rfl⟩
      obtain ⟨W6, hW6⟩ : ∃ v, w6.alloc (.cells #[.int .i64 qa, .int .i64 qb, .int .i64 qc] 24) = v := ⟨_, rfl⟩
      have hb46 : Below W4.heap.size W4 W6 := by rw [← hW6]; exact hb6.alloc hb6.size _
      have h10 : Blk W6 B10 24 #[.int .i64 qa, .int .i64 qb, .int .i64 qc] := by rw [← hW6, ← hB10]; exact Blk.new w6 24 _
      have hw68 : W4.heap.size ≤ W6.heap.size := hb46.size
      have H10 := Lib.hid h10
      have HB6 := Lib.hid hb46
      have HRW := Lib.hid (HRO.out W6 hb46)
      obtain ⟨z0, z1⟩ := HC8.out W6 hb46
      rw [hW6, hB10]
      clear hW6 hB10 h10 hb46 hb6 HRO HOP HC8
      go_upto_region 8 with (go_at_call 19; (with_reducible refine HRW.out.mono ?_); rintro e w7 ⟨rfl, hb7⟩)
      obtain ⟨B12, hB12⟩ : ∃ b, w7.heap.size = b := ⟨_, rfl⟩
      obtain ⟨W7, hW7⟩ : ∃ v, w7.alloc (.cells #[.int .i64 qa, .int .i64 qb, .int .i64 qc] 24) = v := ⟨_, rfl⟩
      have hb67 : Below W6.heap.size W6 W7 := by rw [← hW7]; exact hb7.alloc hb7.size _
      have h12 : Blk W7 B12 24 #[.int .i64 qa, .int .i64 qb, .int .i64 qc] := by rw [← hW7, ← hB12]; exact Blk.new w7 24 _
      have h10 := H10.out.keep hb67
      have hbw7 : Below w.heap.size w W7 := HB4.out.trans ((HB6.out.trans (hb67.mono HB6.out.size)).mono HB4.out.size)
      have HB7 := Lib.hid hbw7
      have HWK := Lib.hid (works_any W7 (HT.out.keep hbw7))
      have x0 := h10.cell 0
      have x1 := h10.cell 1
      have x2 := h10.cell 2
      have y0 := h12.cell 0
      have y1 := h12.cell 1
      have y2 := h12.cell 2
      simp only [List.getElem?_toArray, List.getElem?_cons_zero, List.getElem?_cons_succ] at x0 x1 x2 y0 y1 y2
      rw [hW7, hB12]
      clear hW7 hB12 h10 h12 hb7 hb67 hbw7 z0 z1 HRW H10 HB6
      go_wp2_with (first
        | (go_at_call 12; (with_reducible refine (num_any _ _).mono ?_); rintro e w8 ⟨rfl, rfl⟩)
        | (go_at_call 8; (with_reducible refine HWK.out.mono ?_); rintro e w9 ⟨rfl, hb9⟩))
      go_ret
      exact ⟨rfl, HB7.out.trans (hb9.mono HB7.out.size)⟩
    | error no =>
      rw [ho] at HOP HRO
      clear ho
      unfold OpenV at HOP HRO
      go_upto_region 7 with (go_at_call 11; (with_reducible refine HOP.out.mono ?_); rintro e w6 ⟨rfl, hb6⟩)
      obtain ⟨B10, hB10⟩ : ∃ b, w6.heap.size = b := ⟨_, rfl⟩
      obtain ⟨W6, hW6⟩ : ∃ v, w6.alloc (.cells #[.int .i64 0, .int .i64 0, .int .i64 0] 24) = v := ⟨_, rfl⟩
      have hb46 : Below W4.heap.size W4 W6 := by rw [← hW6]; exact hb6.alloc hb6.size _
      have h10 : Blk W6 B10 24 #[.int .i64 0, .int .i64 0, .int .i64 0] := by rw [← hW6, ← hB10]; exact Blk.new w6 24 _
      have hw68 : W4.heap.size ≤ W6.heap.size := hb46.size
      have H10 := Lib.hid h10
      have HB6 := Lib.hid hb46
      have HRW := Lib.hid (HRO.out W6 hb46)
      obtain ⟨z0, z1⟩ := HC8.out W6 hb46
      rw [hW6, hB10]
      clear hW6 hB10 h10 hb46 hb6 HRO HOP HC8
      go_upto_region 8 with (go_at_call 19; (with_reducible refine HRW.out.mono ?_); rintro e w7 ⟨rfl, hb7⟩)
      obtain ⟨B12, hB12⟩ : ∃ b, w7.heap.size = b := ⟨_, rfl⟩
      obtain ⟨W7, hW7⟩ : ∃ v, w7.alloc (.cells #[.int .i64 0, .int .i64 0, .int .i64 0] 24) = v := ⟨_, rfl⟩
      have hb67 : Below W6.heap.size W6 W7 := by rw [← hW7]; exact hb7.alloc hb7.size _
      have h12 : Blk W7 B12 24 #[.int .i64 0, .int .i64 0, .int .i64 0] := by rw [← hW7, ← hB12]; exact Blk.new w7 24 _
      have h10 := H10.out.keep hb67
      have hbw7 : Below w.heap.size w W7 := HB4.out.trans ((HB6.out.trans (hb67.mono HB6.out.size)).mono HB4.out.size)
      have HB7 := Lib.hid hbw7
      have HWK := Lib.hid (works_any W7 (HT.out.keep hbw7))
      have x0 := h10.cell 0
      have x1 := h10.cell 1
      have x2 := h10.cell 2
      have y0 := h12.cell 0
      have y1 := h12.cell 1
      have y2 := h12.cell 2
      simp only [List.getElem?_toArray, List.getElem?_cons_zero, List.getElem?_cons_succ] at x0 x1 x2 y0 y1 y2
      rw [hW7, hB12]
      clear hW7 hB12 h10 h12 hb7 hb67 hbw7 z0 z1 HRW H10 HB6
      go_wp2_with (first
        | (go_at_call 12; (with_reducible refine (num_any _ _).mono ?_); rintro e w8 ⟨rfl, rfl⟩)
        | (go_at_call 8; (with_reducible refine HWK.out.mono ?_); rintro e w9 ⟨rfl, hb9⟩))
      go_ret
      exact ⟨rfl, HB7.out.trans (hb9.mono HB7.out.size)⟩
theorem Sm.opens_law (f : ByteArray) (n c : Nat) (A : Option Addr) (ss : List ByteArray) (s : ByteArray) (w : World) (ht : Tabs w) (hl : ss.length = n) (hm : n ≤ 9223372036854775807) (hr : Rds w (fun _ => False) A (ss.map Value.string)) :
    Calls Tryz.prog 4 #[.string f, .slice A n c, .string s] w fun e w' => e = .returned (.bool true) ∧ Below w.heap.size w w' := by
  by_cases h : fewB f ss = true ∧ s.size ≤ 300
  · exact opens_few f n c A ss s w ht hl hm hr h.1 h.2
  · exact opens_long f n c A ss s w ht hl hm hr h
end Go.Proofs
