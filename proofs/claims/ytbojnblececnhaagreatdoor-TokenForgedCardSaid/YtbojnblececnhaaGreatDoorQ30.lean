/-
  The contract of the reference's Keyed: at every size, key and bytes that may be.
-/
import Derived.Deep.QuietTactic
import Derived.BigQuiet
import Derived.IntWalk
import Derived.Deep.CutRange
import Derived.StillTailTactics
import Derived.Test.YtbojnblececnhaaGreatDoorQ11
import Derived.Test.YtbojnblececnhaaGreatDoorQ29
import Derived.Test.YtbojnblececnhaaGreatDoorQ12
namespace Go.Proofs
open Go.RowKit Sm
set_option maxRecDepth 100000 in
set_option maxHeartbeats 4000000 in
theorem Sm.refKeyed_new (size n c n2 c2 : Nat) (A A2 : Option Addr) (key b : List (BitVec 8)) (w : World) (hs0 : 1 ≤ size) (hs1 : size ≤ 32) (hn : n ≤ 32) (hk : key.length = n) (hb : b.length = n2) (hn2 : n2 ≤ 100000) (hr : Rd w w.heap.size A key) (hr2 : Rd w w.heap.size A2 b) :
    Calls Tryz.prog 104 #[.int .i64 (size : Int), .slice A n c, .slice A2 n2 c2] w fun e w' => ∃ A' c', e = .returned (.slice A' size c') ∧ Rd w' w'.heap.size A' ((hashW size key b).take size) ∧ Below w.heap.size w w' ∧ (∀ a : Addr, A' = some a → w.heap.size ≤ a.block) ∧ size ≤ c' := by
  obtain ⟨i0, hi, hz0, hz1, hz2⟩ := info_parts info5
  have hws0 : (startS size key).ws = beginL.set 0 (beginL.getD 0 0 ^^^ BitVec.ofNat 32 (16842752 + 256 * n + size)) := by unfold startS; rw [hk]
  have e1 := (first_num n size (beginL.getD 0 0)).resolve_right (by omega)
  obtain ⟨b0, hb0⟩ : ∃ b0, beginL.getD 0 0 = b0 := ⟨_, rfl⟩
  rw [hb0] at e1 hws0
  obtain ⟨x0, hx0⟩ : ∃ x0, b0 ^^^ BitVec.ofNat 32 (16842752 + 256 * n + size) = x0 := ⟨_, rfl⟩
  rw [hx0] at e1 hws0
  have hbl : beginL.length = 8 := rfl
  have hnb : (n : Int) ≤ 32 := by omega
  have hsb : (size : Int) ≤ 32 := by omega
  have HWS := Lib.hid hws0
  have HB0 := Lib.hid hb0
  have HBL := Lib.hid hbl
  have HK := Lib.hid hk
  have HB := Lib.hid hb
  have HR := Lib.hid (And.intro hr hr2)
  have HN := Lib.hid (And.intro hs0 (And.intro hs1 (And.intro hn hn2)))
  clear hws0 hb0 hx0 hbl hk hb hr hr2 hs0 hs1 hn hn2
  go_enter Tryz.func104, Tryz.ntmps104
  go_upto_region 2 with (first
    | (go_at_call 112; (with_reducible refine (first_any _).mono ?_); rintro e wf ⟨rfl, hbf⟩)
    | (refine wpList_store_row rfl 0xa4 _ _ rfl wf.heap.size (wvs beginL) rfl rfl 0xa4 (wvs (List.replicate 8 0#32)) (World.alloc_heap_new wf _) i27b rfl (wvs_one beginL) ?_))
  rw [z8_eq]
  obtain ⟨Hb, hHb⟩ : ∃ Hb, wf.heap.size = Hb := ⟨_, rfl⟩
  obtain ⟨W1, hW1⟩ : ∃ W1, (wf.alloc (.cells (wvs (List.replicate 8 0#32)) 0xa4)).setRow wf.heap.size (wvs beginL) = W1 := ⟨_, rfl⟩
  have hb1 : Below w.heap.size w W1 := by
    rw [← hW1]
    exact below_setRow (hbf.alloc hbf.size _) hbf.size _
  have hh1 : Blk W1 Hb 0xa4 (wvs beginL) := by rw [← hW1, ← hHb]; exact setRow_heap _ _ _ _ _ _ (World.alloc_heap_new wf _)
  have hlH : w.heap.size ≤ Hb := by rw [← hHb]; exact hbf.size
  rw [hW1, hHb]
  clear hW1 hHb hbf
  have cw := hh1.word (k := 0) (by decide)
  have fw := hh1.frozen 0
  rw [HB0.out] at cw
  have HH1 := Lib.hid hh1
  have HB1 := Lib.hid hb1
  have HLH := Lib.hid hlH
  clear hh1 hb1 hlH
  go_upto_region 4 with fail
  obtain ⟨W2, hW2⟩ : ∃ W2, W1.setCell ⟨Hb, 0, none⟩ (.int .u32 (iv x0)) = W2 := ⟨_, rfl⟩
  have hb2 : Below w.heap.size w W2 := by rw [← hW2]; exact HB1.out.setCell (p := ⟨Hb, 0, none⟩) HLH.out _
  have hh2 : Blk W2 Hb 0xa4 (wvs (startS size key).ws) := by rw [← hW2, HWS.out]; exact HH1.out.setWord 0 x0
  rw [hW2]
  clear hW2 cw fw e1
  obtain ⟨ws, hws⟩ : ∃ ws, (startS size key).ws = ws := ⟨_, rfl⟩
  have hwl : ws.length = 8 := by rw [← hws]; exact startS_ws size key
  rw [hws] at hh2
  have HW := Lib.hid hws
  have HWL := Lib.hid hwl
  have HH2 := Lib.hid hh2
  have HB2 := Lib.hid hb2
  have HZ2 := Lib.hid hh2.lt
  clear hws hwl hh2 hb2 HH1 HB1 HWS HB0 hsb
  go_upto_if 30 with fail
  have hrk : Rd W2 w.heap.size A key := HR.out.1.below HB2.out
  have HRK := Lib.hid hrk
  clear hrk
  go_cut [8] from 30 to 37 (fun s8 wx => Hid (AheadAt W2 (if key.length = 0 then [] else pad key) s8 wx))
  case first =>
    by_cases h0 : 0 < n
    case neg =>
      go_wp2_with fail
      go_meet
      have h0 : key.length = 0 := by rw [HK.out]; omega
      exact Lib.hid (by rw [if_pos h0]; exact ⟨World.ownsRow_nil _ _ _ _, Below.refl _ _⟩)
    case pos =>
      obtain ⟨m, hm⟩ : ∃ m, n + m = 64 := ⟨64 - n, by have := HN.out; omega⟩
      have hsub : (64 : Int) - (n : Int) = (m : Int) := by omega
      have hm0 : 0 < m := by have := HN.out; omega
      have HM := Lib.hid hm
      clear hm
      go_wp2_with (first
        | (at_builtin; refine wpList_append_rd _ rfl (.tmp 31) (.tmp 32) 0x38 rfl W2.heap.size 5 i0 _ Tryz.underlying56 hi hz0 hz1 hz2 rfl _ 0 [] rfl (World.ownsRow_made W2 #[] 0 (Nat.le_refl _) (by decide) rfl) w.heap.size A n c key rfl HK.out (HRK.out.alloc HB2.out.size _) (by omega) (by simp) ?_; intro v33 w33 hown33 hg33 _)
        | (at_builtin; refine wpList_append_zeros _ rfl (.tmp 33) (.tmp 36) 0x38 3 9 rfl W2.heap.size 5 i0 .i64 .i64 Tryz.underlying56 Tryz.underlying3 Tryz.underlying9 hi hz0 hz1 hz2 v33 (0 + n) _ rfl hown33 m rfl hm0 (by have := HN.out; have := HM.out; omega) (by have := hg33.size; simp at this; omega) ?_; intro v37 w37 hown37 hg37))
      go_meet
      refine Lib.hid ?_
      rw [if_neg (by rw [HK.out]; omega)]
      have hlp : (pad key).length = 0 + n + m := by rw [pad_length key (by rw [HK.out]; have := HN.out; omega)]; have := HM.out; omega
      have hpd : (pad key).map byteCell = [] ++ key.map byteCell ++ (List.replicate m 0#8).map byteCell := by
        unfold pad
        rw [List.map_append, List.nil_append, HK.out, show 64 - n = m by have := HM.out; omega]
      have s33 := hg33.size
      have hB1 : Below W2.heap.size W2 (W2.alloc (.cells #[] 5)) := (Below.refl _ _).alloc (Nat.le_refl _) _
      refine ⟨by rw [hlp, hpd]; exact hown37, ?_⟩
      exact ((hB1.grown hg33 hB1.size (fun g e => by cases e; exact Nat.le_refl _)).grown hg37 (Nat.le_trans hB1.size s33) (fun g e => own_ge hown33 g e))
  case rest =>
    have HA := hcut
    clear hcut
    obtain ⟨ps, hps⟩ : ∃ ps, (if key.length = 0 then [] else pad key) = ps := ⟨_, rfl⟩
    have hpl : ps.length ≤ 64 := by
      rw [← hps]
      split
      · simp
      · rw [pad_length key (by rw [HK.out]; have := HN.out; omega)]; exact Nat.le_refl _
    have hall : allS key b = ps ++ b := by unfold allS; rw [hps]
    rw [hps] at HA
    have hown := HA.out.1
    have hbA := HA.out.2
    have hr2A : Rd wc w.heap.size A2 b := (HR.out.2.below HB2.out).belowTo hbA HB2.out.size
    have HR2 := Lib.hid hr2A
    have HOW := Lib.hid hown
    have HBA := Lib.hid hbA
    have HPL := Lib.hid hpl
    have HALL := Lib.hid hall
    clear hps hall hpl hown hbA hr2A HA
    go_upto_region 7 with (first
      | (at_builtin; refine wpList_append_rd _ rfl (.tmp 38) (.tmp 39) 0x38 rfl W2.heap.size 5 i0 _ Tryz.underlying56 hi hz0 hz1 hz2 rfl _ ps.length _ rfl HOW.out w.heap.size A2 n2 c2 b rfl HB.out HR2.out (by have := HPL.out; have := HN.out; omega) HBA.out.size ?_; intro v40 w40 hown40 hg40 _))
    obtain ⟨A8, c8, rfl⟩ := own_slice hown40
    obtain ⟨all, hal⟩ : ∃ all, allS key b = all := ⟨_, rfl⟩
    have hlen : all.length = ps.length + n2 := by rw [← hal, HALL.out, List.length_append, HB.out]
    have hown : w40.ownsRow W2.heap.size 5 1 (.slice A8 (ps.length + n2) c8) (ps.length + n2) (all.map byteCell) := by
      rw [← hal, HALL.out, List.map_append]
      exact hown40
    have hb40 : Below W2.heap.size W2 w40 := HBA.out.grown hg40 HBA.out.size (fun g e => own_ge HOW.out g e)
    have hky := KyAt.start (HH2.out.keep hb40) hown HZ2.out (HB2.out.trans (hb40.mono HB2.out.size))
    have hLm : ps.length + n2 ≤ 200000 := by have := HPL.out; have := HN.out; omega
    obtain ⟨L, hL⟩ : ∃ L, ps.length + n2 = L := ⟨_, rfl⟩
    obtain ⟨lo, hlo⟩ : ∃ lo, w40.heap.size = lo := ⟨_, rfl⟩
    have hlo2 : w.heap.size ≤ lo ∧ Hb < lo ∧ lo = w40.heap.size := by
      have h1 := hb40.size
      have h2 := HB2.out.size
      have h3 := HZ2.out
      omega
    rw [hL] at hlen hLm
    rw [hlo] at hky
    rw [hL]
    have HAL := Lib.hid hal
    have HLEN := Lib.hid hlen
    have HLO := Lib.hid hlo2
    have HKY := Lib.hid hky
    clear hal hlen hown hown40 hg40 hb40 hky hL hlo hlo2 HBA HOW HALL HPL HR2 HZ2 HH2 HRK HB HK
    have hz24 := (zero_of_info z24).1
    go_wp2_with fail
    go_loopw [9] (fun s9 wr => ∃ j p : Nat, s9 = .int .i64 (p : Int) ∧ p ≤ L ∧ Hid (p = 64 * j ∧ j ≤ cnt all) ∧ Hid (KyAt w wr lo Hb (pressK ws 0 all j) A8 all ∧ lo ≤ wr.heap.size)) (fun s9 _ => L + 64 - (intOf s9).toNat)
    case atStart => exact ⟨0, 0, rfl, Nat.zero_le _, Lib.hid ⟨rfl, Nat.zero_le _⟩, Lib.hid ⟨HKY.out, by rw [← HLO.out.2.2]; exact Nat.le_refl _⟩⟩
    case round =>
      obtain ⟨wo, rfl⟩ : ∃ wo : World, wo = wr := ⟨_, rfl⟩
      obtain ⟨j, p, rfl, hpL, HP, HR1⟩ := hrel
      clear HKY
      go_upto_region 9 with fail
      obtain ⟨Bb, hBb⟩ : ∃ Bb, wo.heap.size = Bb := ⟨_, rfl⟩
      obtain ⟨W4, hW4⟩ : ∃ W4, wo.alloc (.cells (bvs z64) 0x84) = W4 := ⟨_, rfl⟩
      have hky4 : KyAt w W4 lo Hb (pressK ws 0 all j) A8 all := by rw [← hW4]; exact HR1.out.1.keep ((Below.refl _ _).alloc (Nat.le_refl _) _)
      have hB4 : Blk W4 Bb 0x84 (bvs (pad ((chunk all j).take 0))) := by rw [← hW4, ← hBb]; exact Blk.new wo 0x84 _
      have hlB : lo ≤ Bb := by rw [← hBb]; exact HR1.out.2
      rw [hW4, hBb]
      have HBl := Lib.hid hlB
      have HR4 := Lib.hid (And.intro hky4 hB4)
      clear hW4 hBb hky4 hB4 hlB HR1
      go_upto_region 10 with fail
      have hm : (if (L : Int) - (p : Int) < 64 then (L : Int) - (p : Int) else 64) = (((chunk all j).length : Nat) : Int) := by
        rw [chunk_length, HLEN.out]
        have := HP.out
        split <;> omega
      have hm2 : min (64 : Int) ((L : Int) - (p : Int)) = (((chunk all j).length : Nat) : Int) := by
        rw [chunk_length, HLEN.out]
        have := HP.out
        omega
      first | rw [hm] | rw [hm2]
      clear hm2
      have hcl := chunk_length all j
      have hcle := chunk_le all j
      rw [HLEN.out] at hcl
      obtain ⟨C, hC⟩ : ∃ C, chunk all j = C := ⟨_, rfl⟩
      have hgd : ∀ k, k < C.length → C.getD k 0 = all.getD (p + k) 0 := by
        intro k hk
        rw [HP.out.1, ← hC]
        exact chunk_getD all j k (by rw [hC]; exact hk)
      rw [hC] at hcl hcle HR4
      rw [hC]
      have HC := Lib.hid hC
      obtain ⟨m, hCm⟩ : ∃ m, C.length = m := ⟨_, rfl⟩
      rw [hCm] at hcl hcle hgd
      rw [hCm]
      have hpm : p + m ≤ L := by have := HP.out; omega
      have HCM := Lib.hid hCm
      have HCL := Lib.hid hcl
      have HGD := Lib.hid hgd
      obtain ⟨Hj, hHj⟩ : ∃ H, pressK ws 0 all j = H := ⟨_, rfl⟩
      have hHl : Hj.length = 8 := by rw [← hHj, pressK_length, HWL.out]
      rw [hHj] at HR4
      have HHJ := Lib.hid hHj
      have HHL := Lib.hid hHl
      clear hm hC hCm hcl hgd hHj hHl
      go_wp2_with fail
      go_loopw [12] (fun s12 wi => ∃ k : Nat, k ≤ m ∧ s12 = .int .i64 (k : Int) ∧ Hid (KyAt w wi lo Hb Hj A8 all ∧ Blk wi Bb 0x84 (bvs (pad (C.take k))))) (fun s12 _ => m - (intOf s12).toNat)
      case atStart => exact ⟨0, Nat.zero_le _, rfl, HR4⟩
      case round =>
        obtain ⟨wi, rfl⟩ : ∃ wi : World, wi = wr := ⟨_, rfl⟩
        obtain ⟨k, hk, rfl, HRk⟩ := hrel
        clear HR4
        by_cases hlt : k < m
        · obtain ⟨bo, off, rfl, hcell⟩ := HRk.out.1.at_ (k := p + k) (by rw [HLEN.out]; omega)
          have hdst := HRk.out.2.byte (k := k) (by rw [pad_length _ (by rw [List.length_take]; omega)]; omega)
          have hdf := HRk.out.2.frozen k
          obtain ⟨zz, hzz⟩ : ∃ z, (pad (C.take k)).getD k 0 = z := ⟨_, rfl⟩
          rw [hzz] at hdst
          obtain ⟨x, hx⟩ : ∃ x, all.getD (p + k) 0 = x := ⟨_, rfl⟩
          rw [hx] at hcell
          have HX := Lib.hid hx
          have hpk : (p : Int) + (k : Int) < (L : Int) := by omega
          have hpt : ((p : Int) + (k : Int)).toNat = p + k := by omega
          have hk64 : (k : Int) < 64 := by omega
          clear hzz hx
          go_wp2_with fail
          go_roundw
          case rel =>
            refine ⟨k + 1, by omega, by go_num, Lib.hid ⟨?_, ?_⟩⟩
            · exact HRk.out.1.setIn (by have := HLO.out; have := HBl.out; omega) HBl.out (by have := HLO.out; have := HBl.out; omega) _
            · have h1 := HRk.out.2.setByte k x
              have h2 := pad_set C k (by rw [HCM.out]; omega) (by rw [HCM.out]; omega)
              rw [HGD.out k hlt, HX.out] at h2
              rw [h2] at h1
              exact h1
          case measure => simp [intOf]; omega
        · obtain rfl : k = m := by omega
          have hct : C.take k = C := List.take_of_length_le (by rw [HCM.out]; omega)
          have hR5 := HRk.out
          rw [hct] at hR5
          have hpc := refPress_any Hj (pad C) (p + k)
          obtain ⟨last, hla⟩ : ∃ last, ((p : Int) + (k : Int) == (L : Int)) = last := ⟨_, rfl⟩
          have hlaN : (p + k == L) = last := by
            rw [← hla, Bool.eq_iff_iff]
            simp
            omega
          have hpc := refPress_any Hj (pad C) (p + k) last HHL.out (pad_length C (by rw [HCM.out]; omega)) (by omega)
          obtain ⟨X, hX⟩ : ∃ X, pressS Hj (pad C) (p + k) last = X := ⟨_, rfl⟩
          have hXl : X.length = 8 := by rw [← hX, pressS_length, HHL.out]
          rw [hX] at hpc
          simp only [Int.natCast_add] at hpc
          have i24c : Hid ((Tryz.prog.info? 0x84).map (·.size) = some (bvs (pad C)).size) := Lib.hid (i24 _ (pad_length C (by rw [HCM.out]; omega)))
          have HX := Lib.hid hX
          have HXL := Lib.hid hXl
          have HPC := Lib.hid hpc
          have HR5 := Lib.hid hR5
          have HLA := Lib.hid hlaN
          clear hX hXl hpc hR5 hct HRk
          go_upto_region 16 with (first
            | (refine wpList_load_row rfl 0xa4 _ rfl Hb rfl 0xa4 _ (0, 0) _ HR5.out.1.h Tryz.underlying164 rfl (i23 _ HHL.out) ?_)
            | (refine wpList_load_row rfl 0x84 _ rfl Bb rfl 0x84 _ (0, 0) _ HR5.out.2 Tryz.underlying132 rfl i24c.out ?_)
            | (go_at_call 113; (with_reducible refine (HPC.out _).mono ?_); rintro e w5 ⟨rfl, hb5⟩)
            | (refine wpList_store_row rfl 0xa4 _ _ rfl Hb (wvs X) rfl rfl 0xa4 _ (HR5.out.1.h.keep hb5) (i23 _ HXL.out) (by rw [wvs_size, wvs_size, HHL.out, HXL.out]) (wvs_one X) ?_))
          have hky6 : KyAt w (w5.setRow Hb (wvs X)) lo Hb X A8 all := (HR5.out.1.keep hb5).setH HLH.out X
          obtain ⟨W6, hW6⟩ : ∃ W6, w5.setRow Hb (wvs X) = W6 := ⟨_, rfl⟩
          have hs6 : lo ≤ W6.heap.size := by
            rw [← hW6, size_setRow]
            have := HBl.out
            have := HR5.out.2.lt
            have := hb5.size
            omega
          rw [hW6] at hky6 ⊢
          have HK6 := Lib.hid (And.intro hky6 hs6)
          clear hW6 hky6 hs6 hb5 HPC HR5
          have hxe : last = false → j < cnt all ∧ p + k = 64 * (j + 1) := by
            intro e
            have h1 := HLA.out
            rw [e] at h1
            have h2 : p + k ≠ L := by simpa using h1
            have h3 := HP.out
            have h4 := HCL.out
            have h5 : cnt all = (L - 1) / 64 := by unfold cnt; rw [HLEN.out]
            omega
          have hxt : last = true → j = cnt all ∧ p + k = L := by
            intro e
            have h1 := HLA.out
            rw [e] at h1
            have h2 : p + k = L := by simpa using h1
            have h3 := HP.out
            have h4 := HCL.out
            have h5 : cnt all = (L - 1) / 64 := by unfold cnt; rw [HLEN.out]
            omega
          have HXE := Lib.hid hxe
          have HXT := Lib.hid hxt
          have hlaN := HLA.out
          clear hxe hxt
          cases last
          · go_wp2_with fail
            obtain ⟨h1, h2⟩ := HXE.out rfl
            go_roundw
            case rel =>
              refine ⟨j + 1, p + k, by go_num, hpm, Lib.hid ⟨h2, h1⟩, Lib.hid ⟨?_, HK6.out.2⟩⟩
              have : pressK ws 0 all (j + 1) = X := by
                rw [pressK, HHJ.out, HC.out, Nat.zero_add, ← h2, HX.out]
              rw [this]
              exact HK6.out.1
            case measure =>
              have := HP.out.1
              simp [intOf]; omega
          · obtain ⟨h1, h2⟩ := HXT.out rfl
            have hF : lastS ws all = X := by
              rw [lastS_eq, ← h1, HHJ.out, HC.out, HLEN.out, ← h2, HX.out]
            have HF := Lib.hid hF
            clear h1 h2 hF
            go_wp2_with fail
            have HF6 := Lib.hid HK6.out.1.h
            have HB6 := Lib.hid HK6.out.1.below
            clear HK6
            go_loopw [13, 14] (fun s13 s14 wr => ∃ q : Nat, q ≤ 8 ∧ s14 = .int .i64 (q : Int) ∧ Hid (wr.ownsRow W6.heap.size 5 1 s13 (4 * q) ((outB X q).map byteCell) ∧ Blk wr Hb 0xa4 (wvs X) ∧ Below W6.heap.size W6 wr)) (fun _ s14 _ => 8 - (intOf s14).toNat)
            case atStart => exact ⟨0, by omega, rfl, Lib.hid ⟨World.ownsRow_nil _ _ _ _, HF6.out, Below.refl _ _⟩⟩
            case round =>
              obtain ⟨wo7, rfl⟩ : ∃ wo7 : World, wo7 = wr := ⟨_, rfl⟩
              obtain ⟨q, hq, rfl, HQ⟩ := hrel
              by_cases hlt : q < 8
              · have hc := HQ.out.2.1.word (k := q) (by rw [HXL.out]; exact hlt)
                have hby0 := byteAt_0 X q
                have hby1 := byteAt_j X q 1 (by decide)
                have hby2 := byteAt_j X q 2 (by decide)
                have hby3 := byteAt_j X q 3 (by decide)
                obtain ⟨x, hx⟩ : ∃ x, X.getD q 0 = x := ⟨_, rfl⟩
                rw [hx] at hc hby0 hby1 hby2 hby3
                have HBY := Lib.hid (And.intro hby0 (And.intro hby1 (And.intro hby2 hby3)))
                clear hby0 hby1 hby2 hby3 hx
                have g0 : (0 : Int) ≤ (q : Int) := by omega
                have g7 : (q : Int) < 8 := by omega
                have hx0 := iv_lo x
                have d0 := byte0 x
                have d1 := byte1 x
                have d2 := byte2 x
                have d3 := byte3 x
                obtain ⟨y0, hy0⟩ : ∃ y, x.setWidth 8 = y := ⟨_, rfl⟩
                obtain ⟨y1, hy1⟩ : ∃ y, (x >>> 8).setWidth 8 = y := ⟨_, rfl⟩
                obtain ⟨y2, hy2⟩ : ∃ y, (x >>> 16).setWidth 8 = y := ⟨_, rfl⟩
                obtain ⟨y3, hy3⟩ : ∃ y, (x >>> 24).setWidth 8 = y := ⟨_, rfl⟩
                rw [hy0] at d0
                rw [hy1] at d1
                rw [hy2] at d2
                rw [hy3] at d3
                have hsucc : outB X (q + 1) = outB X q ++ [y0, y1, y2, y3] := by
                  rw [outB_succ, HBY.out.1, HBY.out.2.1, HBY.out.2.2.1, HBY.out.2.2.2, ← hy0, ← hy1, ← hy2, ← hy3]
                have HSU := Lib.hid hsucc
                clear hy0 hy1 hy2 hy3 hsucc hx0
                go_upto_region 21 with fail
                have hS0 : wo7.drew.cell? ⟨Hb, q, none⟩ = some (.int .u32 (iv x)) := hc
                refine wp_region_held_drew (S := fun wx => wx.cell? ⟨Hb, q, none⟩ = some (.int .u32 (iv x))) rfl hS0 (fun hHeld => ?_)
                simp only [List.size_toArray, List.length_cons, List.length_nil, Nat.reduceAdd]
                have ho7 : wo7.drew.ownsRow W6.heap.size 5 1 u13 (4 * q) ((outB X q).map byteCell) := own_below HQ.out.1 (Below.refl _ _).drew
                have hb7 : Below W6.heap.size W6 wo7.drew := HQ.out.2.2.drew
                have hf7 : Blk wo7.drew Hb 0xa4 (wvs X) := HQ.out.2.1.drew
                obtain ⟨W7, hW7⟩ : ∃ W, wo7.drew = W := ⟨_, rfl⟩
                rw [hW7] at ho7 hb7 hf7 hS0 hHeld ⊢
                clear hW7 hc HQ
                refine wpAnyH_take (i := 0) (v := u13) rfl (by kernel_rfl) (by kernel_rfl) (by kernel_rfl) (fun _ _ _ h => h) (Or.inl ⟨by rfl, ?_⟩) (by assumption) ?_
                · intro wx hs1
                  go_simp
                try simp only [Act.put]
                refine wpAnyH_take (i := 1) (v := .int .i64 (q : Int)) rfl (by kernel_rfl) (by kernel_rfl) (by kernel_rfl) (fun _ _ _ h => h) (Or.inl ⟨by rfl, ?_⟩) (by assumption) ?_
                · intro wx hs1
                  go_simp
                try simp only [Act.put]
                refine wpAnyH_take (i := 2) (v := .pointer (some ⟨Hb, q, none⟩)) rfl (by kernel_rfl) (by kernel_rfl) (by kernel_rfl) (fun _ _ _ h => h) (Or.inl ⟨by rfl, ?_⟩) (by assumption) ?_
                · intro wx hs1
                  go_simp
                try simp only [Act.put]
                refine wpAnyH_take (i := 3) (v := .int .u32 (iv x)) rfl (by kernel_rfl) (by kernel_rfl) (by kernel_rfl) (fun _ _ _ h => h) (Or.inl ⟨by rfl, ?_⟩) (by assumption) ?_
                · intro wx hs1
                  go_simp
                try simp only [Act.put]
                refine wpAnyH_take (i := 4) (v := .int .u32 ((iv x).tmod 256)) rfl (by kernel_rfl) (by kernel_rfl) (by kernel_rfl) (fun _ _ _ h => h) (Or.inl ⟨by rfl, ?_⟩) (by assumption) ?_
                · intro wx hs1
                  go_simp
                try simp only [Act.put]
                refine wpAnyH_take (i := 5) (v := .int .u8 (ib y0)) rfl (by kernel_rfl) (by kernel_rfl) (by kernel_rfl) (fun _ _ _ h => h) (Or.inl ⟨by rfl, ?_⟩) (by assumption) ?_
                · intro wx hs1
                  go_simp
                try simp only [Act.put]
                refine wpAnyH_take (i := 6) (v := .int .i64 (q : Int)) rfl (by kernel_rfl) (by kernel_rfl) (by kernel_rfl) (fun _ _ _ h => h) (Or.inl ⟨by rfl, ?_⟩) (by assumption) ?_
                · intro wx hs1
                  go_simp
                try simp only [Act.put]
                refine wpAnyH_take (i := 7) (v := .pointer (some ⟨Hb, q, none⟩)) rfl (by kernel_rfl) (by kernel_rfl) (by kernel_rfl) (fun _ _ _ h => h) (Or.inl ⟨by rfl, ?_⟩) (by assumption) ?_
                · intro wx hs1
                  go_simp
                try simp only [Act.put]
                refine wpAnyH_take (i := 8) (v := .int .u32 (iv x)) rfl (by kernel_rfl) (by kernel_rfl) (by kernel_rfl) (fun _ _ _ h => h) (Or.inl ⟨by rfl, ?_⟩) (by assumption) ?_
                · intro wx hs1
                  go_simp
                try simp only [Act.put]
                refine wpAnyH_take (i := 9) (v := .int .u32 (IntKind.u32.wrap ((iv x).tdiv 256))) rfl (by kernel_rfl) (by kernel_rfl) (by kernel_rfl) (fun _ _ _ h => h) (Or.inl ⟨by rfl, ?_⟩) (by assumption) ?_
                · intro wx hs1
                  go_simp
                try simp only [Act.put]
                refine wpAnyH_take (i := 10) (v := .int .u32 ((IntKind.u32.wrap ((iv x).tdiv 256)).tmod 256)) rfl (by kernel_rfl) (by kernel_rfl) (by kernel_rfl) (fun _ _ _ h => h) (Or.inl ⟨by rfl, ?_⟩) (by assumption) ?_
                · intro wx hs1
                  go_simp
                try simp only [Act.put]
                refine wpAnyH_take (i := 11) (v := .int .u8 (ib y1)) rfl (by kernel_rfl) (by kernel_rfl) (by kernel_rfl) (fun _ _ _ h => h) (Or.inl ⟨by rfl, ?_⟩) (by assumption) ?_
                · intro wx hs1
                  go_simp
                try simp only [Act.put]
                refine wpAnyH_take (i := 12) (v := .int .i64 (q : Int)) rfl (by kernel_rfl) (by kernel_rfl) (by kernel_rfl) (fun _ _ _ h => h) (Or.inl ⟨by rfl, ?_⟩) (by assumption) ?_
                · intro wx hs1
                  go_simp
                try simp only [Act.put]
                refine wpAnyH_take (i := 13) (v := .pointer (some ⟨Hb, q, none⟩)) rfl (by kernel_rfl) (by kernel_rfl) (by kernel_rfl) (fun _ _ _ h => h) (Or.inl ⟨by rfl, ?_⟩) (by assumption) ?_
                · intro wx hs1
                  go_simp
                try simp only [Act.put]
                refine wpAnyH_take (i := 14) (v := .int .u32 (iv x)) rfl (by kernel_rfl) (by kernel_rfl) (by kernel_rfl) (fun _ _ _ h => h) (Or.inl ⟨by rfl, ?_⟩) (by assumption) ?_
                · intro wx hs1
                  go_simp
                try simp only [Act.put]
                refine wpAnyH_take (i := 15) (v := .int .u32 (IntKind.u32.wrap ((iv x).tdiv 65536))) rfl (by kernel_rfl) (by kernel_rfl) (by kernel_rfl) (fun _ _ _ h => h) (Or.inl ⟨by rfl, ?_⟩) (by assumption) ?_
                · intro wx hs1
                  go_simp
                try simp only [Act.put]
                refine wpAnyH_take (i := 16) (v := .int .u32 ((IntKind.u32.wrap ((iv x).tdiv 65536)).tmod 256)) rfl (by kernel_rfl) (by kernel_rfl) (by kernel_rfl) (fun _ _ _ h => h) (Or.inl ⟨by rfl, ?_⟩) (by assumption) ?_
                · intro wx hs1
                  go_simp
                try simp only [Act.put]
                refine wpAnyH_take (i := 17) (v := .int .u8 (ib y2)) rfl (by kernel_rfl) (by kernel_rfl) (by kernel_rfl) (fun _ _ _ h => h) (Or.inl ⟨by rfl, ?_⟩) (by assumption) ?_
                · intro wx hs1
                  go_simp
                try simp only [Act.put]
                refine wpAnyH_take (i := 18) (v := .int .i64 (q : Int)) rfl (by kernel_rfl) (by kernel_rfl) (by kernel_rfl) (fun _ _ _ h => h) (Or.inl ⟨by rfl, ?_⟩) (by assumption) ?_
                · intro wx hs1
                  go_simp
                try simp only [Act.put]
                refine wpAnyH_take (i := 19) (v := .pointer (some ⟨Hb, q, none⟩)) rfl (by kernel_rfl) (by kernel_rfl) (by kernel_rfl) (fun _ _ _ h => h) (Or.inl ⟨by rfl, ?_⟩) (by assumption) ?_
                · intro wx hs1
                  go_simp
                try simp only [Act.put]
                refine wpAnyH_take (i := 20) (v := .int .u32 (iv x)) rfl (by kernel_rfl) (by kernel_rfl) (by kernel_rfl) (fun _ _ _ h => h) (Or.inl ⟨by rfl, ?_⟩) (by assumption) ?_
                · intro wx hs1
                  go_simp
                try simp only [Act.put]
                refine wpAnyH_take (i := 21) (v := .int .u32 (IntKind.u32.wrap ((iv x).tdiv 16777216))) rfl (by kernel_rfl) (by kernel_rfl) (by kernel_rfl) (fun _ _ _ h => h) (Or.inl ⟨by rfl, ?_⟩) (by assumption) ?_
                · intro wx hs1
                  go_simp
                try simp only [Act.put]
                refine wpAnyH_take (i := 22) (v := .int .u8 (ib y3)) rfl (by kernel_rfl) (by kernel_rfl) (by kernel_rfl) (fun _ _ _ h => h) (Or.inl ⟨by rfl, ?_⟩) (by assumption) ?_
                · intro wx hs1
                  go_simp
                try simp only [Act.put]
                refine wpAnyH_ready (rs := [23]) (by kernel_rfl) (by simp) (AllReadyH.cons rfl (fun K hK => ?_) AllReadyH.nil)
                go_simp
                have hS8 : (W7.alloc (.cells #[.int .u8 (ib y0), .int .u8 (ib y1), .int .u8 (ib y2), .int .u8 (ib y3)] 5)).cell? ⟨Hb, q, none⟩ = some (.int .u32 (iv x)) := (World.cell?_alloc_lt _ _ _ hf7.lt).trans hS0
                refine hK.out _ _ hS8 (fun hHeld => ?_)
                clear hK K
                try simp only [Act.put]
                have hr8 : Rd (W7.alloc (.cells #[.int .u8 (ib y0), .int .u8 (ib y1), .int .u8 (ib y2), .int .u8 (ib y3)] 5)) (W7.heap.size + 1) (some ⟨W7.heap.size, 0, none⟩) [y0, y1, y2, y3] := fun _ => ⟨W7.heap.size, 0, rfl, by omega, fun j c hj => by
                  rw [World.cell?_alloc_mark]
                  rcases j with _ | _ | _ | _ | j <;> simp at hj <;> subst hj <;> rfl⟩
                have ho8 := own_below ho7 ((Below.refl W7.heap.size W7).alloc (Nat.le_refl _) (.cells #[.int .u8 (ib y0), .int .u8 (ib y1), .int .u8 (ib y2), .int .u8 (ib y3)] 5))
                have hb8 : Below W6.heap.size W6 (W7.alloc (.cells #[.int .u8 (ib y0), .int .u8 (ib y1), .int .u8 (ib y2), .int .u8 (ib y3)] 5)) := hb7.alloc hb7.size _
                have hf8 : Blk (W7.alloc (.cells #[.int .u8 (ib y0), .int .u8 (ib y1), .int .u8 (ib y2), .int .u8 (ib y3)] 5)) Hb 0xa4 (wvs X) := hf7.alloc _
                obtain ⟨W8, hW8⟩ : ∃ W, W7.alloc (.cells #[.int .u8 (ib y0), .int .u8 (ib y1), .int .u8 (ib y2), .int .u8 (ib y3)] 5) = W := ⟨_, rfl⟩
                rw [hW8] at hS8 hr8 ho8 hb8 hf8 hHeld ⊢
                clear hW8 ho7 hb7 hf7
                have hq32 : 4 * q + 4 ≤ 1000000000 := by omega
                refine wpAnyH_ready (rs := [24]) (by kernel_rfl) (by simp) (AllReadyH.cons rfl (fun K hK => ?_) AllReadyH.nil)
                rw [if_pos (by rfl)]
                refine oper_append_rd (.tmp 79) (.tmp 102) 0x38 rfl W6.heap.size 5 i0 _ Tryz.underlying56 hi hz0 hz1 hz2 rfl u13 (4 * q) _ rfl ho8 (W7.heap.size + 1) (some ⟨W7.heap.size, 0, none⟩) 4 4 [y0, y1, y2, y3] rfl rfl hr8 hq32 hb8.size ?_
                intro v9 w9 hown9 hg9 _
                have hb9 : Below W6.heap.size W6 w9 := hb8.grown hg9 hb8.size (fun g e => own_ge ho8 g e)
                have hf9 : Blk w9 Hb 0xa4 (wvs X) := (hb9.block Hb HF6.out.lt).trans HF6.out
                have hS9 : w9.cell? ⟨Hb, q, none⟩ = some (.int .u32 (iv x)) := (hb9.cell (p := ⟨Hb, q, none⟩) HF6.out.lt).trans ((hb8.cell (p := ⟨Hb, q, none⟩) HF6.out.lt).symm.trans hS8)
                refine hK.out _ _ hS9 (fun hHeld => ?_)
                clear hK K
                try simp only [Act.put]
                refine wpAnyH_ready (rs := [25]) (by kernel_rfl) (by simp) (AllReadyH.cons rfl (fun K hK => ?_) AllReadyH.nil)
                go_simp
                refine hK.out _ _ hS9 (fun hHeld => ?_)
                clear hK K
                try simp only [Act.put]
                refine wpAnyH_done (by kernel_rfl) ?_ _
                have HR9 := Lib.hid (And.intro hown9 (And.intro hf9 hb9))
                clear hown9 hg9 hb9 hf9 hS9 hS8 hr8 ho8 hb8 hf8 hHeld hS0 d0 d1 d2 d3 g0 g7 hq32
                go_wp2_with fail
                go_roundw
                case rel =>
                  refine ⟨q + 1, by omega, by go_num, Lib.hid ⟨?_, HR9.out.2.1, HR9.out.2.2⟩⟩
                  have := HR9.out.1
                  rw [HSU.out, List.map_append, show 4 * (q + 1) = 4 * q + 4 by omega]
                  exact this
                case measure => simp [intOf]; omega
              · obtain rfl : q = 8 := by omega
                have hown := HQ.out.1
                have hbq := HQ.out.2.2
                obtain ⟨g, cap, rfl, hgb, hglt⟩ := hown.form (by decide)
                have hcap : 32 ≤ cap := by
                  rcases hown.2 with ⟨h1, _⟩ | ⟨g', cap', cur, h1, _, _, hnc, _⟩
                  · cases h1
                  · cases h1; exact hnc
                have hrd : Rd wo7 wo7.heap.size (some ⟨g, 0, none⟩) ((outB X 8).take size) := (Rd.of_own hown (Nat.le_refl _)).take size
                have hsl := cut_h (some ⟨g, 0, none⟩) (4 * 8) cap size (by have := HN.out; omega)
                have hca : cutA (some ⟨g, 0, none⟩) 0 cap = some ⟨g, 0, none⟩ := by
                  rw [cutA, if_neg (by omega), Option.map_some, Addr.add_mid]
                rw [hca] at hsl
                have HRD := Lib.hid hrd
                have HBQ := Lib.hid hbq
                clear hown hbq hrd HQ
                go_wp2_with fail
                go_ret
                refine ⟨_, _, rfl, ?_, HB6.out.trans (HBQ.out.mono HB6.out.size), (fun a e => by cases e; exact Nat.le_trans HB6.out.size hgb), by have := HN.out; omega⟩
                rw [hashW_all, HW.out, HAL.out, HF.out, ← digest_eq]
                exact HRD.out
theorem Sm.refKeyed_any (size n c n2 c2 : Nat) (A A2 : Option Addr) (key b : List (BitVec 8)) (w : World) (hs0 : 1 ≤ size) (hs1 : size ≤ 32) (hn : n ≤ 32) (hk : key.length = n) (hb : b.length = n2) (hn2 : n2 ≤ 100000) (hr : Rd w w.heap.size A key) (hr2 : Rd w w.heap.size A2 b) :
    Calls Tryz.prog 104 #[.int .i64 (size : Int), .slice A n c, .slice A2 n2 c2] w fun e w' => ∃ A' c', e = .returned (.slice A' size c') ∧ Rd w' w'.heap.size A' ((hashW size key b).take size) ∧ Below w.heap.size w w' :=
  (refKeyed_new size n c n2 c2 A A2 key b w hs0 hs1 hn hk hb hn2 hr hr2).mono fun _ _ ⟨A', c', e, h1, h2, _⟩ => ⟨A', c', e, h1, h2⟩
end Go.Proofs
