/-
  The chapter's rows (works). No condition.
-/
import Derived.Lib.SlBytesConst
import Derived.Test.YtnobmejcbgocoaaDkW
namespace Go.Proofs
open Go Go.RowKit Sm Go.Lib Go.Maps Go.WideMaps
attribute [local go_sem] Oper.semAt_some
set_option maxRecDepth 100000 in
set_option maxHeartbeats 4000000 in
theorem Sm.works_any (w : World) : Calls Try.prog 10 #[] w fun e w' => e = .returned (.bool true) ∧ Below w.heap.size w w' := by
  have hnew := new_M 8 w (by decide) (by decide)
  obtain ⟨n0, hn0⟩ : ∃ n0, w.heap.size = n0 := ⟨_, rfl⟩
  obtain ⟨p, hp⟩ : ∃ p, n0 + 1 = p := ⟨_, rfl⟩
  rw [hn0, hp] at hnew
  rw [hn0]
  have HN0 := Lib.hid hn0
  clear hn0 hp
  have A1 : ∀ W, DN n0 p W ⟨false, 0, false, 8⟩ [] → Calls Try.prog 16 #[.pointer (some ⟨p, 0, none⟩), .string ⟨#[97]⟩, .slice (some ⟨W.heap.size, 0, none⟩) 2 2] (W.alloc (.cells #[.int .u8 104, .int .u8 105] 5 (2, 3))) fun e w' => e = .returned (.int .i64 0) ∧ DN n0 p w' ⟨false, 0, false, 8⟩ [([97#8], [104#8, 105#8], 0)] ∧ Below n0 W w' :=
    fun W h => app_lit ⟨#[97]⟩ [104#8, 105#8] 2 W h (by decide) (by decide) rfl (by decide) (⟨false, 0, false, 8⟩, [([97#8], [104#8, 105#8], 0)], 0) (by kernel_rfl)
  have S1 : ∀ W, DN n0 p W ⟨false, 0, false, 8⟩ [([97#8], [104#8, 105#8], 0)] → Calls Try.prog 17 #[.pointer (some ⟨p, 0, none⟩), .string ⟨#[97]⟩] W fun e w' => e = .returned (.int .i64 0) ∧ DN n0 p w' ⟨false, 0, false, 8⟩ [([97#8], [104#8, 105#8], 2)] ∧ Below n0 W w' :=
    fun W h => syn_lit ⟨#[97]⟩ W h (by decide) (by decide) (⟨false, 0, false, 8⟩, [([97#8], [104#8, 105#8], 2)], 0) (by kernel_rfl)
  have A2 : ∀ W, DN n0 p W ⟨false, 0, false, 8⟩ [([97#8], [104#8, 105#8], 2)] → Calls Try.prog 16 #[.pointer (some ⟨p, 0, none⟩), .string ⟨#[97]⟩, .slice (some ⟨W.heap.size, 0, none⟩) 3 3] (W.alloc (.cells #[.int .u8 121, .int .u8 111, .int .u8 117] 5 (3, 4))) fun e w' => e = .returned (.int .i64 0) ∧ DN n0 p w' ⟨false, 0, false, 8⟩ [([97#8], [104#8, 105#8, 121#8, 111#8, 117#8], 2)] ∧ Below n0 W w' :=
    fun W h => app_lit ⟨#[97]⟩ [121#8, 111#8, 117#8] 3 W h (by decide) (by decide) rfl (by decide) (⟨false, 0, false, 8⟩, [([97#8], [104#8, 105#8, 121#8, 111#8, 117#8], 2)], 0) (by kernel_rfl)
  have A3 : ∀ W, DN n0 p W ⟨false, 0, false, 8⟩ [([97#8], [104#8, 105#8, 121#8, 111#8, 117#8], 2)] → Calls Try.prog 16 #[.pointer (some ⟨p, 0, none⟩), .string ⟨#[98]⟩, .slice (some ⟨W.heap.size, 0, none⟩) 4 4] (W.alloc (.cells #[.int .u8 49, .int .u8 50, .int .u8 51, .int .u8 52] 5 (4, 5))) fun e w' => e = .returned (.int .i64 171) ∧ DN n0 p w' ⟨false, 0, false, 8⟩ [([97#8], [104#8, 105#8, 121#8, 111#8, 117#8], 2)] ∧ Below n0 W w' :=
    fun W h => app_lit ⟨#[98]⟩ [49#8, 50#8, 51#8, 52#8] 4 W h (by decide) (by decide) rfl (by decide) (⟨false, 0, false, 8⟩, [([97#8], [104#8, 105#8, 121#8, 111#8, 117#8], 2)], 171) (by kernel_rfl)
  have T1 : ∀ W, DN n0 p W ⟨false, 0, false, 8⟩ [([97#8], [104#8, 105#8, 121#8, 111#8, 117#8], 2)] → Calls Try.prog 21 #[.pointer (some ⟨p, 0, none⟩), .int .i64 1] W fun e w' => e = .returned (.int .i64 0) ∧ DN n0 p w' ⟨true, 1, false, 8⟩ [([97#8], [104#8, 105#8, 121#8, 111#8, 117#8], 2)] ∧ Below n0 W w' :=
    fun W h => stop_lit 1 W h (by decide) (⟨true, 1, false, 8⟩, 0) (by kernel_rfl)
  have A4 : ∀ W, DN n0 p W ⟨true, 1, false, 8⟩ [([97#8], [104#8, 105#8, 121#8, 111#8, 117#8], 2)] → Calls Try.prog 16 #[.pointer (some ⟨p, 0, none⟩), .string ⟨#[97]⟩, .slice (some ⟨W.heap.size, 0, none⟩) 1 1] (W.alloc (.cells #[.int .u8 120] 5 (1, 2))) fun e w' => e = .returned (.int .i64 0) ∧ DN n0 p w' ⟨true, 0, false, 8⟩ [([97#8], [104#8, 105#8, 121#8, 111#8, 117#8, 120#8], 2)] ∧ Below n0 W w' :=
    fun W h => app_lit ⟨#[97]⟩ [120#8] 1 W h (by decide) (by decide) rfl (by decide) (⟨true, 0, false, 8⟩, [([97#8], [104#8, 105#8, 121#8, 111#8, 117#8, 120#8], 2)], 0) (by kernel_rfl)
  have S2 : ∀ W, DN n0 p W ⟨true, 0, false, 8⟩ [([97#8], [104#8, 105#8, 121#8, 111#8, 117#8, 120#8], 2)] → Calls Try.prog 17 #[.pointer (some ⟨p, 0, none⟩), .string ⟨#[97]⟩] W fun e w' => e = .returned (.int .i64 172) ∧ DN n0 p w' ⟨false, 0, true, 8⟩ [([97#8], [104#8, 105#8, 121#8, 111#8, 117#8, 120#8], 2)] ∧ Below n0 W w' :=
    fun W h => syn_lit ⟨#[97]⟩ W h (by decide) (by decide) (⟨false, 0, true, 8⟩, [([97#8], [104#8, 105#8, 121#8, 111#8, 117#8, 120#8], 2)], 172) (by kernel_rfl)
  have C1 : ∀ W, DN n0 p W ⟨false, 0, true, 8⟩ [([97#8], [104#8, 105#8, 121#8, 111#8, 117#8, 120#8], 2)] → Calls Try.prog 18 #[.pointer (some ⟨p, 0, none⟩), .string ⟨#[97]⟩, .int .i64 9] W fun e w' => e = .returned (.int .i64 4) ∧ DN n0 p w' ⟨false, 0, true, 8⟩ [([97#8], [104#8, 105#8, 121#8, 111#8, 117#8, 120#8], 2)] ∧ Below n0 W w' :=
    fun W h => cut_lit ⟨#[97]⟩ 9 W h (by decide) (by decide) (⟨false, 0, true, 8⟩, [([97#8], [104#8, 105#8, 121#8, 111#8, 117#8, 120#8], 2)], 4) (by kernel_rfl)
  have C2 : ∀ W, DN n0 p W ⟨false, 0, true, 8⟩ [([97#8], [104#8, 105#8, 121#8, 111#8, 117#8, 120#8], 2)] → Calls Try.prog 18 #[.pointer (some ⟨p, 0, none⟩), .string ⟨#[97]⟩, .int .i64 5] W fun e w' => e = .returned (.int .i64 172) ∧ DN n0 p w' ⟨false, 0, true, 8⟩ [([97#8], [104#8, 105#8, 121#8, 111#8, 117#8, 120#8], 2)] ∧ Below n0 W w' :=
    fun W h => cut_lit ⟨#[97]⟩ 5 W h (by decide) (by decide) (⟨false, 0, true, 8⟩, [([97#8], [104#8, 105#8, 121#8, 111#8, 117#8, 120#8], 2)], 172) (by kernel_rfl)
  have R1 : ∀ W, DN n0 p W ⟨false, 0, true, 8⟩ [([97#8], [104#8, 105#8, 121#8, 111#8, 117#8, 120#8], 2)] → Calls Try.prog 12 #[.pointer (some ⟨p, 0, none⟩), .string ⟨#[97]⟩] W fun e w' => ∃ A c, e = .returned (.tuple #[.slice A 6 c, .int .i64 0]) ∧ (convert 36 9 (.slice A 6 c)).run Try.prog w' = .ok (.string ⟨#[104, 105, 121, 111, 117, 120]⟩) w' ∧ Below W.heap.size W w' := fun W h => by
    refine (read_M ⟨#[97]⟩ W h.1 (by decide)).mono ?_
    rintro e w' ⟨A, c, rfl, h1, h2⟩
    have ht : tellM [([97#8], [104#8, 105#8, 121#8, 111#8, 117#8, 120#8], 2)] (strL ⟨#[97]⟩) = ([104#8, 105#8, 121#8, 111#8, 117#8, 120#8], 2, 0) := by kernel_rfl
    rw [ht] at h1 ⊢
    exact ⟨A, c, rfl, run_str (P := Try.prog) w' 36 5 Try.underlying36 Try.underlying5 [104#8, 105#8, 121#8, 111#8, 117#8, 120#8] 6 c w'.heap.size A rfl (Rd.of_own h1 (Nat.le_refl _)) 9 Try.underlying9, h2⟩
  have D1 : ∀ W, DN n0 p W ⟨false, 0, true, 8⟩ [([97#8], [104#8, 105#8, 121#8, 111#8, 117#8, 120#8], 2)] → Calls Try.prog 24 #[.pointer (some ⟨p, 0, none⟩)] W fun e w' => e = .returned (.bool true) ∧ W = w' := fun W h => dead_M W h.1
  have L1 : ∀ W, DN n0 p W ⟨false, 0, true, 8⟩ [([97#8], [104#8, 105#8, 121#8, 111#8, 117#8, 120#8], 2)] → Calls Try.prog 34 #[.pointer (some ⟨p, 0, none⟩), .string ⟨#[97]⟩, .slice none 0 0] W fun e w' => e = .returned (.string ⟨#[104, 105]⟩) ∧ Below W.heap.size W w' :=
    fun W h => left_lit ⟨#[97]⟩ W h (by decide) (by decide) ⟨#[104, 105]⟩ (by kernel_rfl)
  have L2 : ∀ W, DN n0 p W ⟨false, 0, true, 8⟩ [([97#8], [104#8, 105#8, 121#8, 111#8, 117#8, 120#8], 2)] → Calls Try.prog 34 #[.pointer (some ⟨p, 0, none⟩), .string ⟨#[97]⟩, .slice (some ⟨W.heap.size, 0, none⟩) 1 1] (W.alloc (.cells #[.int .i64 2] 3)) fun e w' => e = .returned (.string ⟨#[104, 105, 121, 111]⟩) ∧ Below W.heap.size W w' :=
    fun W h => left_one ⟨#[97]⟩ 2 W h (by decide) (by decide) ⟨#[104, 105, 121, 111]⟩ (by kernel_rfl)
  have L3 : ∀ W, DN n0 p W ⟨false, 0, true, 8⟩ [([97#8], [104#8, 105#8, 121#8, 111#8, 117#8, 120#8], 2)] → Calls Try.prog 34 #[.pointer (some ⟨p, 0, none⟩), .string ⟨#[97]⟩, .slice (some ⟨W.heap.size, 0, none⟩) 1 1] (W.alloc (.cells #[.int .i64 5] 3)) fun e w' => e = .returned (.string ⟨#[104, 105]⟩) ∧ Below W.heap.size W w' :=
    fun W h => left_one ⟨#[97]⟩ 5 W h (by decide) (by decide) ⟨#[104, 105]⟩ (by kernel_rfl)
  have L4 : ∀ W, DN n0 p W ⟨false, 0, true, 8⟩ [([97#8], [104#8, 105#8, 121#8, 111#8, 117#8, 120#8], 2)] → Calls Try.prog 34 #[.pointer (some ⟨p, 0, none⟩), .string ⟨#[97]⟩, .slice (some ⟨W.heap.size, 0, none⟩) 1 1] (W.alloc (.cells #[.int .i64 (-1)] 3)) fun e w' => e = .returned (.string ⟨#[104, 105, 121, 111, 117, 120]⟩) ∧ Below W.heap.size W w' :=
    fun W h => left_one ⟨#[97]⟩ (-1) W h (by decide) (by decide) ⟨#[104, 105, 121, 111, 117, 120]⟩ (by kernel_rfl)
  have kc := fun (w : World) (C : Array Value) (n c : Nat) => Lib.run_convert_bytes_const (P := Try.prog) w 36 5 C n c Try.underlying36 Try.underlying5
  go_enter Try.func10, Try.ntmps10
  go_wp2_with (first
    | (go_at_call 30; (with_reducible refine hnew.mono ?_); clear hnew; rintro e w1 ⟨rfl, hD, hb⟩; have HB1 := Lib.hid (show Below n0 w w1 from hb); have HD1 := Lib.hid (show DN n0 p w1 ⟨false, 0, false, 8⟩ [] from ⟨hD, by have h1 := hb.size; have h2 := HN0.out; omega⟩); clear hD hb)
    | (go_at_call 16; (with_reducible refine (A1 _ HD1.out).mono ?_); rintro e w2 ⟨rfl, hD, hb⟩; have HB2 := Lib.hid (HB1.out.trans hb); have HD2 := Lib.hid hD; clear hD hb HD1 HB1)
    | (go_at_call 17; (with_reducible refine (S1 _ HD2.out).mono ?_); rintro e w3 ⟨rfl, hD, hb⟩; have HB3 := Lib.hid (HB2.out.trans hb); have HD3 := Lib.hid hD; clear hD hb HD2 HB2)
    | (go_at_call 16; (with_reducible refine (A2 _ HD3.out).mono ?_); rintro e w4 ⟨rfl, hD, hb⟩; have HB4 := Lib.hid (HB3.out.trans hb); have HD4 := Lib.hid hD; clear hD hb HD3 HB3)
    | (go_at_call 16; (with_reducible refine (A3 _ HD4.out).mono ?_); rintro e w5 ⟨rfl, hD, hb⟩; have HB5 := Lib.hid (HB4.out.trans hb); have HD5 := Lib.hid hD; clear hD hb HD4 HB4)
    | (go_at_call 21; (with_reducible refine (T1 _ HD5.out).mono ?_); rintro e w6 ⟨rfl, hD, hb⟩; have HB6 := Lib.hid (HB5.out.trans hb); have HD6 := Lib.hid hD; clear hD hb HD5 HB5)
    | (go_at_call 16; (with_reducible refine (A4 _ HD6.out).mono ?_); rintro e w7 ⟨rfl, hD, hb⟩; have HB7 := Lib.hid (HB6.out.trans hb); have HD7 := Lib.hid hD; clear hD hb HD6 HB6)
    | (go_at_call 17; (with_reducible refine (S2 _ HD7.out).mono ?_); rintro e w8 ⟨rfl, hD, hb⟩; have HB8 := Lib.hid (HB7.out.trans hb); have HD8 := Lib.hid hD; clear hD hb HD7 HB7)
    | (go_at_call 18; (with_reducible refine (C1 _ HD8.out).mono ?_); rintro e w9 ⟨rfl, hD, hb⟩; have HB9 := Lib.hid (HB8.out.trans hb); have HD9 := Lib.hid hD; clear hD hb HD8 HB8)
    | (go_at_call 18; (with_reducible refine (C2 _ HD9.out).mono ?_); rintro e wa ⟨rfl, hD, hb⟩; have HBa := Lib.hid (HB9.out.trans hb); have HDa := Lib.hid hD; clear hD hb HD9 HB9)
    | (go_at_call 12; (with_reducible refine (R1 _ HDa.out).mono ?_); rintro e wb ⟨A, c, rfl, hcv, hb⟩; have HBb := Lib.hid (HBa.out.trans (hb.mono HDa.out.2)); have HDb := Lib.hid (HDa.out.keep hb); clear hb HDa HBa)
    | (go_at_call 15; (with_reducible refine (num_any _ _ (by decide) (by decide)).mono ?_); rintro e w' ⟨rfl, rfl⟩)
    | (go_at_call 24; (with_reducible refine (D1 _ HDb.out).mono ?_); rintro e w' ⟨rfl, rfl⟩)
    | (go_at_call 34; (with_reducible refine (L1 _ HDb.out).mono ?_); rintro e wc ⟨rfl, hb⟩; have HBc := Lib.hid (HBb.out.trans (hb.mono HDb.out.2)); have HDc := Lib.hid (HDb.out.keep hb); clear hb HDb HBb)
    | (go_at_call 34; (with_reducible refine (L2 _ HDc.out).mono ?_); rintro e wd ⟨rfl, hb⟩; have HBd := Lib.hid (HBc.out.trans (hb.mono HDc.out.2)); have HDd := Lib.hid (HDc.out.keep hb); clear hb HDc HBc)
    | (go_at_call 34; (with_reducible refine (L3 _ HDd.out).mono ?_); rintro e we ⟨rfl, hb⟩; have HBe := Lib.hid (HBd.out.trans (hb.mono HDd.out.2)); have HDe := Lib.hid (HDd.out.keep hb); clear hb HDd HBd)
    | (go_at_call 34; (with_reducible refine (L4 _ HDe.out).mono ?_); rintro e wf ⟨rfl, hb⟩; have HBf := Lib.hid (HBe.out.trans (hb.mono HDe.out.2)); clear hb HDe HBe))
  go_ret
  exact ⟨rfl, HBf.out⟩
end Go.Proofs
