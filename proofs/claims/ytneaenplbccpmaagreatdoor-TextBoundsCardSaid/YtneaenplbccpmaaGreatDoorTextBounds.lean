/-
  The law TextBounds holds: the bounds of texts, and one past them. Conditions: the row's own.
-/
import Derived.Test.YtneaenplbccpmaaGreatDoorTxWk
import Derived.Test.YtneaenplbccpmaaGreatDoorFrame
namespace Go.Proofs
open Go Go.RowKit Sm Go.Lib
attribute [local go_sem] Oper.semAt_some
/-- bytes of which the first k are an x -/
def Sm.xK (N k : Nat) : List (BitVec 8) := List.replicate k 120#8 ++ List.replicate (N - k) 0#8
theorem Sm.xK_len {N k : Nat} (h : k ≤ N) : (xK N k).length = N := by
  unfold xK
  simp
  omega
theorem Sm.xK_succ {N k : Nat} (h : k < N) : xK N (k + 1) = (xK N k).set k 120#8 := by
  unfold xK
  rw [List.set_append_right _ _ (by simp), List.length_replicate, Nat.sub_self]
  rw [show N - k = (N - (k + 1)) + 1 by omega, List.replicate_succ (n := N - (k + 1)), List.set_cons_zero, List.replicate_succ', List.append_assoc]
  rfl
theorem Sm.xK_all (N : Nat) : xK N N = List.replicate N 120#8 := by
  unfold xK
  simp
theorem Sm.make_bytes (N : Nat) (hN : N ≤ 10000000) : ∃ (Z : Array Value), Z.toList = (xK N 0).map byteCell ∧ ∀ w : World, (Instr.makeSlice 38 (.int .i64 (N : Int)) (.int .i64 (N : Int))).run Tryz.prog w = .ok (.slice (some ⟨w.heap.size, 0, none⟩) N N) (w.alloc (.cells Z 5)) := by
  obtain ⟨i0, hi, hz0, hz1, hz2⟩ := info_parts info5
  refine ⟨madeCells (Value.int .u8 0).cells (N * 1), ?_, fun w => ?_⟩
  · have hs : (madeCells (Value.int .u8 0).cells (N * 1)).size = N := by rw [size_madeCells]; omega
    apply List.ext_getElem
    · rw [Array.length_toList, hs, List.length_map, xK_len (Nat.zero_le _)]
    · intro i h1 h2
      simp [madeCells, Value.cells, byteCell, ib, Nat.mod_one, xK]
  · have := run_makeSlice (P := Tryz.prog) (w := w) 38 5 i0 _ Tryz.underlying38 hi hz0 .i64 .i64 (N : Int) (N : Int) (by omega) (by omega) (by rw [hz1]; simp; omega) (by rw [hz2]; omega) (by omega)
    rw [this, hz1]
    simp
theorem Sm.x_check : checkN (strB (List.replicate 200 120#8)) = 0 := by decide +kernel
/-- the first bytes of the row, as a text -/
theorem Sm.x_text {wr W : World} {base g N : Nat} (h : wr.ownsRow base 5 1 (.slice (some ⟨g, 0, none⟩) N N) N ((List.replicate N 120#8).map byteCell)) (hb : Below wr.heap.size wr W) (M : Nat) (hM : M ≤ N) :
    (convert 38 9 (.slice (some ⟨g, 0, none⟩) M N)).run Tryz.prog W = .ok (.string (strB (List.replicate M 120#8))) W := by
  refine run_str (P := Tryz.prog) W 38 5 Tryz.underlying38 Tryz.underlying5 (List.replicate M 120#8) M N W.heap.size (some ⟨g, 0, none⟩) (by simp) (fun hl => ?_) 9 Tryz.underlying9
  have h2 := own_below h hb
  have hgl := (h2.lt g rfl).2
  refine ⟨g, 0, rfl, hgl, fun j c hj => ?_⟩
  have hjM := (List.getElem?_eq_some_iff.1 hj).1
  simp at hjM
  rw [Nat.zero_add, h2.cellAt j (by omega), List.getElem?_map]
  have hc : c = 120#8 := by
    have := (List.getElem?_eq_some_iff.1 hj).2
    simpa using this.symm
  subst hc
  rw [List.getElem?_eq_getElem (by simp; omega)]
  simp [byteCell]
set_option maxRecDepth 100000 in
set_option maxHeartbeats 1000000 in
theorem Sm.bounds_law (w : World) (hL : LaysT w) : Calls Tryz.prog 10 #[] w fun e w' => e = .returned (.bool true) ∧ Below w.heap.size w w' := by
  obtain ⟨N, hN⟩ : ∃ N : Nat, N = 1048577 := ⟨_, rfl⟩
  have hNi : (N : Int) = 1048577 := by omega
  obtain ⟨Z, hZ, hmk⟩ := make_bytes N (by omega)
  rw [hNi] at hmk
  have hZs : Z.size = N := by rw [← Array.length_toList, hZ, List.length_map, xK_len (Nat.zero_le _)]
  obtain ⟨w1, hw1⟩ : ∃ w1, w.alloc (.cells Z 5) = w1 := ⟨_, rfl⟩
  have hb1 : Below w.heap.size w w1 := by rw [← hw1]; exact (Below.refl _ w).alloc (Nat.le_refl _) _
  have ho1 : w1.ownsRow w.heap.size 5 1 (.slice (some ⟨w.heap.size, 0, none⟩) N N) N ((xK N 0).map byteCell) := by
    refine ⟨by rw [List.length_map, xK_len (Nat.zero_le _), Nat.mul_one], .inr ⟨w.heap.size, N, Z, rfl, Nat.le_refl _, ?_, Nat.le_refl _, by unfold maxLen; omega, by omega, ?_⟩⟩
    · rw [← hw1]; exact World.alloc_heap_new _ _
    · rw [hZ, List.take_of_length_le (by rw [List.length_map, xK_len (Nat.zero_le _)]; omega)]
  have hmk1 := hmk w
  rw [hw1] at hmk1
  have HO1 := Lib.hid ho1
  have HB1 := Lib.hid hb1
  have hNlo : 1048577 ≤ N := by omega
  have hNhi : N ≤ 1048577 := by omega
  clear hmk hZ hZs hw1 ho1 hb1 hN hNi
  go_enter Tryz.func10, Tryz.ntmps10
  go_wp2
  go_loopw [2] (fun vi wr => ∃ k : Nat, k ≤ N ∧ vi = .int .i64 (k : Int) ∧ Hid (wr.ownsRow w.heap.size 5 1 (.slice (some ⟨w.heap.size, 0, none⟩) N N) N ((xK N k).map byteCell)) ∧ Hid (Below w.heap.size w wr)) (fun vi _ => N - (RowKit.intOf vi).toNat)
  case atStart => exact ⟨0, Nat.zero_le _, rfl, HO1, HB1⟩
  case round =>
    obtain ⟨k, hk, rfl, HO, HB⟩ := hrel
    clear HO1 HB1
    by_cases hlt : k < N
    · have c0 : wr.cell? ⟨w.heap.size, k, none⟩ = some (byteCell ((xK N k)[k]'(by rw [xK_len hk]; exact hlt))) := by
        rw [HO.out.cellAt k (by omega), List.getElem?_map, List.getElem?_eq_getElem (by rw [xK_len hk]; exact hlt)]
        rfl
      have f0 : wr.frozen? ⟨w.heap.size, k, none⟩ = false := by
        rcases HO.out.2 with ⟨e, _⟩ | ⟨g, cap, cur, e, _, h, _⟩
        · cases e
        · injection e with e1 e2 e3
          injection e1 with e1
          injection e1 with e1
          rw [e1]
          exact frozen_of_heap h k
      have hs := HO.out.stored k (.int .u8 (ib 120#8))
      have hset : ((xK N k).map byteCell).set k (.int .u8 (ib 120#8)) = (xK N (k + 1)).map byteCell := by
        rw [xK_succ hlt, List.map_set]
        rfl
      rw [hset] at hs
      have HS : Hid ((wr.setCell ⟨w.heap.size, k, none⟩ (.int .u8 120)).ownsRow w.heap.size 5 1 (.slice (some ⟨w.heap.size, 0, none⟩) N N) N ((xK N (k + 1)).map byteCell)) := Lib.hid hs.1
      have HB2 : Hid (Below w.heap.size w (wr.setCell ⟨w.heap.size, k, none⟩ (.int .u8 120))) := Lib.hid (HB.out.setCell (p := ⟨w.heap.size, k, none⟩) (Nat.le_refl _) _)
      obtain ⟨y, hy⟩ : ∃ y, byteCell ((xK N k)[k]'(by rw [xK_len hk]; exact hlt)) = y := ⟨_, rfl⟩
      rw [hy] at c0
      clear hs hset hy
      go_wp2
      go_roundw
      case rel => exact ⟨k + 1, by omega, by go_num, HS, HB2⟩
      case measure => simp [RowKit.intOf]; omega
    · obtain rfl : k = N := by omega
      have hall := HO.out
      rw [xK_all] at hall
      have hcv := fun M hM W (hb : Below wr.heap.size wr W) => x_text hall hb M hM
      obtain ⟨S1, hS1⟩ : ∃ S1, strB (List.replicate 1048576 120#8) = S1 := ⟨_, rfl⟩
      obtain ⟨S2, hS2⟩ : ∃ S2, strB (List.replicate k 120#8) = S2 := ⟨_, rfl⟩
      obtain ⟨S3, hS3⟩ : ∃ S3, strB (List.replicate 200 120#8) = S3 := ⟨_, rfl⟩
      obtain ⟨S4, hS4⟩ : ∃ S4, strB (List.replicate 201 120#8) = S4 := ⟨_, rfl⟩
      have l1 : S1.size = 1048576 := by rw [← hS1, strB_length, List.length_replicate]
      have l2 : S2.size = 1048577 := by rw [← hS2, strB_length, List.length_replicate]; omega
      have l3 : S3.size = 200 := by rw [← hS3, strB_length, List.length_replicate]
      have l4 : S4.size = 201 := by rw [← hS4, strB_length, List.length_replicate]
      have k3 : checkN S3 = 0 := by rw [← hS3]; exact x_check
      have k4 : checkN S4 = 3 := by unfold checkN; rw [if_pos (by omega)]
      have v1 := hcv 1048576 (by omega)
      have v2 := hcv k (Nat.le_refl _)
      have v3 := hcv 200 (by omega)
      have v4 := hcv 201 (by omega)
      rw [hS1] at v1
      rw [hS2] at v2
      rw [hS3] at v3
      rw [hS4] at v4
      have n1 := fun W => Named_any S1 W (by omega)
      have n2 := fun W => Named_long S2 W (by omega)
      have n3 := fun W => Lines_bad S2 200 W (by unfold linesE; rw [if_neg (by omega), if_pos (by omega)]; decide) (by omega) (by omega)
      have e3 : linesE S2 200 = 3 := by unfold linesE; rw [if_neg (by omega), if_pos (by omega)]
      rw [e3] at n3
      have n4 := fun W hW => Check_any S3 W (by omega) hW
      have n5 := fun W hW => Check_any S4 W (by omega) hW
      rw [k3] at n4
      rw [k4] at n5
      have HN1 := Lib.hid n1
      have HN2 := Lib.hid n2
      have HN3 := Lib.hid n3
      have HN4 := Lib.hid n4
      have HN5 := Lib.hid n5
      have V2 := Lib.hid v2
      have V3 := Lib.hid v3
      have V4 := Lib.hid v4
      have HLw := Lib.hid (hL.keep HB.out)
      have HR : Hid (Below wr.heap.size wr wr) := Lib.hid (Below.refl _ _)
      have u1 := v1 wr (Below.refl _ _)
      clear hall hcv hS1 hS2 hS3 hS4 l1 l2 l3 l4 k3 k4 v1 v2 v3 v4 n1 n2 n3 n4 n5 e3
      go_wp2_with (first
        | (go_at_call 20; (with_reducible refine (num_any _ _).mono ?_); rintro e w' ⟨rfl, rfl⟩)
        | (go_at_call 23; (with_reducible refine (HN1.out _).mono ?_); rintro e w2 ⟨A1, k1, rfl, _, hb⟩; have HR := Lib.hid (HR.out.trans (hb.mono HR.out.size)); clear hb; have u2 := V2.out _ HR.out)
        | (go_at_call 23; (with_reducible refine (HN2.out _).mono ?_); rintro e w2 ⟨rfl, hb⟩; have HR := Lib.hid (HR.out.trans (hb.mono HR.out.size)); clear hb u2; have u3 := V2.out _ HR.out)
        | (go_at_call 26; (with_reducible refine (HN3.out _).mono ?_); rintro e w2 ⟨rfl, hb⟩; have HR := Lib.hid (HR.out.trans (hb.mono HR.out.size)); clear hb u3; have u4 := V3.out _ HR.out)
        | (go_at_call 21; (with_reducible refine (HN4.out _ (HLw.out.keep HR.out)).mono ?_); rintro e w2 ⟨rfl, hb⟩; have HR := Lib.hid (HR.out.trans (hb.mono HR.out.size)); clear hb u4; have u5 := V4.out _ HR.out)
        | (go_at_call 21; (with_reducible refine (HN5.out _ (HLw.out.keep HR.out)).mono ?_); rintro e w2 ⟨rfl, hb⟩; have HR := Lib.hid (HR.out.trans (hb.mono HR.out.size)); clear hb u5)
        | (go_at_call 12; (with_reducible refine (works_any _ (HLw.out.keep HR.out)).mono ?_); rintro e w2 ⟨rfl, hb⟩; have HR := Lib.hid (HR.out.trans (hb.mono HR.out.size)); clear hb))
      go_ret
      exact ⟨rfl, HB.out.trans (HR.out.mono HB.out.size)⟩
end Go.Proofs
namespace Go.Proofs.YtneaenplbccpmaaGreatDoor
open Go Go.ChangeShapes Go.WideShapes Go.ChangeAt Go.WideMaps Go.WideElems Go.RowKit Go.Lib Sm
set_option maxRecDepth 100000 in
theorem textBounds_lifted (os : Os) (started : os.Started) (H : Type) (enc : TypeId × Value → H) :
    ReturnsInHanded {} Tryz.checked os 10 .any (fun w args => (Rows.textBoundsSpec.pre enc Tryz.prog Tryz.f10 [] false w args ∧ laidMetH Tryz.prog laidL w) ∧ sizedMet enc Tryz.prog Tryz.f10 (OpenSpec.ofChange Rows.textBoundsSpec) false w args)
      (Rows.textBoundsSpec.post enc Tryz.prog Tryz.f10 false true false false) := by
  refine laidHanded started #[] (by kernel_rfl) Tryz.func10 (World.shaped_of_ZipB (by kernel_rfl) (by kernel_rfl)) (by kernel_rfl) (by kernel_rfl) (by kernel_rfl) ?_
  intro W base args ds gs before hval0 hW hL
  have hval : ∀ (j : Nat) t v, Tryz.f10.params[j]? = some t → args[j]? = some v → Value.okWide Tryz.prog W .any base t v := hval0
  have hW' := hW
  obtain ⟨p, q, hA0, hV, rfl, hfz, hnd⟩ := hW
  have hA : DataW.TrodAll enc Tryz.prog W 0 (fun _ => true) true Tryz.f10.params.toList args.toList ds p := hA0
  rw [Tryz.params10] at hA hval
  obtain ⟨hargs, rfl, rfl⟩ := trodAll_nil hA
  obtain rfl : args = #[] := by cases args; simp_all
  obtain ⟨rfl, rfl⟩ := trodVars_none hV
  refine (bounds_law W hL).mono fun e W' ⟨he, hb⟩ => ?_
  subst he
  exact ⟨_, rfl, law_post hW' rfl rfl rfl rfl (by kernel_rfl) (by rw [Tryz.params10]; intro t ht; simp at ht) hb⟩
theorem textBounds_holds : Rows.TextBoundsSaid :=
  OpenClaim.holds_of_wide 10 Tryz.f10 rfl rfl rfl rfl rfl rfl rfl ⟨rfl, rfl, rfl, rfl, rfl⟩ rfl rfl rfl rfl rfl (by kernel_rfl) Tryz.func10 (by kernel_rfl)
    (of_decide_eq_true (by kernel_rfl)) (by unfold Func.isWrapper; first | (rw [if_pos (by decide +kernel)]; kernel_rfl) | (rw [if_neg (by decide +kernel)]; exact ⟨rfl, rfl⟩))
    (fun os started H enc _ => textBounds_lifted os started H enc)
/-- the card -/
theorem textBounds_card : Rows.TextBoundsCardSaid :=
  Claim7.holds_tied_plain_at .later [] [.data, .data, .data, .data, .sentinel, .sentinel, .pinned] true (true, "ed007c98b8e6bbfba8db0ed1f540fab899121459d0b3226e22db2c0e1694eb46") true
    textBounds_holds (fun _ h => by cases h) (by kernel_rfl) (fun _ h => by cases h) textBounds_row_tie rfl ⟨rfl, rfl⟩ (by kernel_rfl) rfl
    (fun f fn hf hfn => by
      obtain rfl : f = 10 := Option.some.inj ((show Tryz.prog.funcNamed "antiphon/antiphonlaw03.TextBounds" = some 10 by kernel_rfl).symm.trans hf) |>.symm
      obtain rfl : fn = Tryz.f10 := (Option.some.inj (Tryz.func10.symm.trans hfn)).symm
      exact ⟨by kernel_rfl, fun j t ht => by
        rw [Tryz.params10] at ht
        simp at ht⟩)
    (by kernel_rfl)
end Go.Proofs.YtneaenplbccpmaaGreatDoor
