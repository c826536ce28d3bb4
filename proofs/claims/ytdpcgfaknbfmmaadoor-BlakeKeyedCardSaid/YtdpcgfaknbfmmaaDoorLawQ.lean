/-
  The walk of the law BlakeSums: at every parts it returns true and nothing that lay has turned, where the tables lie in memory.
-/
import Derived.Deep.RegionHeldLaw
import Derived.Test.YtdpcgfaknbfmmaaDoorJoi
import Derived.Test.YtdpcgfaknbfmmaaDoorRefG
import Derived.Test.YtdpcgfaknbfmmaaDoorFrom
namespace Go.Proofs
open Go.RowKit Sm
theorem Sm.slice33_all (b : Nat) (w : World) : (Instr.sliceAt 0x21 (.pointer (some ⟨b, 0, none⟩)) none none none).run Tryd.prog w = .ok (.slice (some ⟨b, 0, none⟩) 32 32) w := by
  have hu : Tryd.prog.underlying 0x21 = some (.array (Tryd.prog.arrayLen 0x21) (Tryd.prog.elem 0x21)) := by kernel_rfl
  have ha : Tryd.prog.arrayLen 0x21 = 32 := by kernel_rfl
  have he : Tryd.prog.elem 0x21 = 5 := by kernel_rfl
  have hs : ∀ w, (sizeOf 5).run Tryd.prog w = .ok 1 w := fun _ => by kernel_rfl
  rw [run_sliceAt_array_all w 0x21 ⟨b, 0, none⟩ hu, he, hs]
  simp only [Result.andThen_ok, slicedAt, ha, Nat.zero_mul]
  rw [if_neg (by omega), Addr.add_mid, Nat.add_zero]
theorem Sm.refKeyed_from {w v : World} (size n c n2 c2 : Nat) (A A2 : Option Addr) (key b D : List (BitVec 8)) (hs0 : 1 ≤ size) (hs1 : size ≤ 32) (hn : n ≤ 32) (hk : key.length = n) (hb : b.length = n2) (hn2 : n2 ≤ 100000) (hr : Rd w w.heap.size A key) (hr2 : Rd w w.heap.size A2 b) (hD : (hashW size key b).take size = D) (hbw : Below w.heap.size w v) :
    Calls Tryd.prog 20 #[.int .i64 (size : Int), .slice A n c, .slice A2 n2 c2] v fun e w' => ∃ A' c', e = .returned (.slice A' size c') ∧ (convert 0x1e 9 (.slice A' size c')).run Tryd.prog w' = .ok (.string (strB D)) w' ∧ Below w.heap.size w w' := by
  refine (refKeyed_any size n c n2 c2 A A2 key b v hs0 hs1 hn hk hb hn2 ((hr.below hbw).more hbw.size) ((hr2.below hbw).more hbw.size)).mono ?_
  rintro e w' ⟨A', c', rfl, hrd, hb2⟩
  rw [hD] at hrd
  have hl : D.length = size := by rw [← hD, List.length_take, hashW_length]; omega
  exact ⟨A', c', rfl, run_str (P := Tryd.prog) w' 0x1e 5 Tryd.underlying30 Tryd.underlying5 D size c' w'.heap.size A' hl hrd 9 Tryd.underlying9, hbw.trans (hb2.mono hbw.size)⟩
set_option maxRecDepth 100000 in
set_option maxHeartbeats 2000000 in
theorem Sm.sums_no (A : Option Addr) (n c : Nat) (ps : List Pt) (w : World) (ht : Tabs w) (h : PsC w A n ps) (hnm : n ≤ 9223372036854775807) (hf : ¬ Few 20 ps) :
    Calls Tryd.prog 4 #[.slice A n c] w fun e w' => e = .returned (.bool true) ∧ Below w.heap.size w w' := by
  have hj := joined_no A n c ps w h hnm hf
  have hw := fun v (hb : Below w.heap.size w v) => works_from hb ht
  clear h hf ht
  go_enter Tryd.func4, Tryd.ntmps4
  go_wp2_with (first
    | (go_at_call 18; (with_reducible refine hj.mono ?_); clear hj; rintro e w1 ⟨rfl, hb1⟩)
    | (go_at_call 17; (with_reducible refine (hw _ hb1).mono ?_); clear hw; rintro e w2 ⟨rfl, hb2⟩))
  go_ret
  exact ⟨rfl, hb2⟩
set_option maxRecDepth 100000 in
set_option maxHeartbeats 4000000 in
theorem Sm.sums_yes (A : Option Addr) (n c : Nat) (ps : List Pt) (w : World) (ht : Tabs w) (h : PsC w A n ps) (hnc : n ≤ c) (hf : Few 20 ps) :
    Calls Tryd.prog 4 #[.slice A n c] w fun e w' => e = .returned (.bool true) ∧ Below w.heap.size w w' := by
  have hj := joined_yes A n c ps w h hf
  have hlen : (joinP ps).length ≤ 4000 := by
    have := joinP_take_le ps ps.length (fun p hp => by rw [List.take_length] at hp; rw [(h.each p hp).len]; exact hf.2 p hp) hf.1
    rwa [List.take_length] at this
  have hn20 : n ≤ 20 := by rw [← h.len]; exact hf.1
  have HJ := Lib.hid hj
  have HLEN := Lib.hid hlen
  have HP := Lib.hid h
  have HT := Lib.hid ht
  clear hj hlen h ht hf
  go_enter Tryd.func4, Tryd.ntmps4
  go_upto_region 4 with (go_at_call 18; (with_reducible refine HJ.out.mono ?_); rintro e w1 ⟨v1, rfl, hown1, hb1⟩)
  obtain ⟨A1, c1, rfl⟩ := own_slice hown1
  have hrd1 : Rd w1 w1.heap.size A1 (joinP ps) := Rd.of_own hown1 (Nat.le_refl _)
  have hs1 := Sum_any A n c ps w1 (fun g hg => (HP.out.below hb1).ok (by omega) g hg) hnc (HT.out.keep hb1) (by have := HLEN.out; omega)
  obtain ⟨b, hb⟩ : ∃ b, joinP ps = b := ⟨_, rfl⟩
  rw [hb] at hrd1 hs1 HLEN
  obtain ⟨D, hD⟩ : ∃ D, hashW 32 [] b = D := ⟨_, rfl⟩
  have hDl : D.length = 32 := by rw [← hD]; exact hashW_length ..
  rw [hD] at hs1
  obtain ⟨L, hL⟩ : ∃ L, b.length = L := ⟨_, rfl⟩
  rw [hb, hL]
  rw [hL] at HLEN
  have HLB := Lib.hid hL
  have HD := Lib.hid hD
  have HDL := Lib.hid hDl
  have HS1 := Lib.hid hs1
  have HRD := Lib.hid hrd1
  have HB1 := Lib.hid hb1
  clear hown1 hb1 hrd1 hs1 hb hD hDl hL HJ HP
  go_upto_region 5 with (first
    | (go_at_call 19; (with_reducible refine HS1.out.mono ?_); rintro e w2 ⟨rfl, hb2⟩)
    | (refine wpList_store_row rfl 0x21 _ _ rfl w2.heap.size (bvs D) rfl rfl 0x21 (bvs (List.replicate 32 0#8)) (World.alloc_heap_new w2 _) (i36 D HDL.out) (by rw [bvs_size, bvs_size, HDL.out]; rfl) (bvs_one D) ?_))
  rw [zu32_eq]
  obtain ⟨W5, hW5⟩ : ∃ W5, (w2.alloc (.cells (bvs (List.replicate 32 0#8)) 0x21)).setRow w2.heap.size (bvs D) = W5 := ⟨_, rfl⟩
  obtain ⟨sb, hsb⟩ : ∃ sb, w2.heap.size = sb := ⟨_, rfl⟩
  have hB5 : Blk W5 sb 0x21 (bvs D) := by rw [← hW5, ← hsb]; exact setRow_heap _ _ _ _ _ _ (World.alloc_heap_new w2 _)
  have hb15 : Below w1.heap.size w1 W5 := by rw [← hW5]; exact below_setRow (hb2.alloc hb2.size _) hb2.size _
  have hcv : ∀ W, Below W5.heap.size W5 W → (convert 0x1e 9 (.slice (some ⟨sb, 0, none⟩) 32 32)).run Tryd.prog W = .ok (.string (strB D)) W := fun W hb =>
    run_str (P := Tryd.prog) W 0x1e 5 Tryd.underlying30 Tryd.underlying5 D 32 32 W.heap.size (some ⟨sb, 0, none⟩) HDL.out ((hB5.keep hb).rd (hB5.keep hb).lt) 9 Tryd.underlying9
  have hrk : ∀ v, Below W5.heap.size W5 v → Calls Tryd.prog 20 #[.int .i64 32, .slice none 0 0, .slice A1 L c1] v fun e w' => ∃ A' c', e = .returned (.slice A' 32 c') ∧ (convert 0x1e 9 (.slice A' 32 c')).run Tryd.prog w' = .ok (.string (strB D)) w' ∧ Below W5.heap.size W5 w' := fun v hb => refKeyed_from (w := W5) (v := v) 32 0 0 L c1 none A1 [] b D (by decide) (by decide) (by decide) rfl HLB.out (by have := HLEN.out; omega) Rd.nil ((HRD.out.below hb15).more hb15.size) (by rw [HD.out, List.take_of_length_le (by rw [HDL.out]; exact Nat.le_refl _)]) hb
  have hsl := slice33_all sb
  have ht5 := (HT.out.keep HB1.out).keep hb15
  rw [hW5, hsb]
  have HCV := Lib.hid hcv
  have HRK := Lib.hid hrk
  have HT5 := Lib.hid ht5
  have HB5 := Lib.hid (HB1.out.trans (hb15.mono HB1.out.size))
  have k0 := hcv W5 (Below.refl _ _)
  have k0d := hcv W5.drew (Below.refl _ _).drew
  clear hW5 hsb hB5 hb15 hcv hrk ht5 hb2 HS1 HRD HB1
  go_region_held_law (fun W => (convert 0x1e 9 (.slice (some ⟨sb, 0, none⟩) 32 32)).run Tryd.prog W = .ok (.string (strB D)) W)
    (first | exact k8 | exact k7 | exact k0d | exact k0)
    (first
    | (go_at_call 20; (with_reducible refine (HRK.out _ (Below.refl _ _).drew).mono ?_); rintro e w7 ⟨A7, c7, rfl, t7, hb7⟩; have k7 := HCV.out w7 hb7)
    | (go_at_call 17; (with_reducible refine (works_from hb7 HT5.out).mono ?_); rintro e w8 ⟨rfl, hb8⟩; have k8 := HCV.out w8 hb8))
  all_goals
   go_wp2
   go_ret
   exact ⟨rfl, HB5.out.trans (hb8.mono HB5.out.size)⟩
theorem Sm.sums_law (A : Option Addr) (n c : Nat) (ps : List Pt) (w : World) (ht : Tabs w) (h : PsC w A n ps) (hnc : n ≤ c) (hnm : n ≤ 9223372036854775807) :
    Calls Tryd.prog 4 #[.slice A n c] w fun e w' => e = .returned (.bool true) ∧ Below w.heap.size w w' := by
  by_cases hf : Few 20 ps
  · exact sums_yes A n c ps w ht h hnc hf
  · exact sums_no A n c ps w ht h hnm hf
end Go.Proofs
