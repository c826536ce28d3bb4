/-
  The contract of the document's Press of layer 4.
-/
import Derived.Deep.QuietTactic
import Derived.BigQuiet
import Derived.IntWalk
import Derived.Deep.CutRange
import Derived.StillTailTactics
import Derived.Test.YtbojnblececnhaaGreatDoorQ28
import Derived.Test.YtbojnblececnhaaGreatDoorQ05
import Derived.Test.YtbojnblececnhaaGreatDoorQ10
namespace Go.Proofs
open Go.RowKit Sm
set_option maxRecDepth 100000 in
set_option maxHeartbeats 4000000 in
theorem Sm.refPress_any (H : List (BitVec 32)) (B : List (BitVec 8)) (n : Nat) (last : Bool) (hH : H.length = 8) (hB : B.length = 64) (hn : n < 18446744073709551616) (w : World) :
    Calls Tryz.prog 113 #[.agg (wvs H), .agg (bvs B), .int .u64 (n : Int), .bool last] w fun e w' => e = .returned (.agg (wvs (pressS H B n last))) ∧ Below w.heap.size w w' := by
  have h0 : RfAt w ((((w.alloc (.cells (wvs H) 0xa4)).alloc (.cells (bvs B) 0x84)).alloc (.cells (wvs (List.replicate 8 0#32)) 0xa4)).alloc (.cells (wvs (List.replicate 16 0#32)) 0xb7)) H B (giv B 0) :=
    ⟨(((Blk.new w 0xa4 (wvs H)).alloc _).alloc _).alloc _,
      ((Blk.newAt (X := w.alloc (.cells (wvs H) 0xa4)) (by simp) 0x84 (bvs B)).alloc _).alloc _,
      (Blk.newAt (X := (w.alloc (.cells (wvs H) 0xa4)).alloc (.cells (bvs B) 0x84)) (by simp) 0xa4 (wvs (List.replicate 8 0#32))).alloc _,
      Blk.newAt (X := ((w.alloc (.cells (wvs H) 0xa4)).alloc (.cells (bvs B) 0x84)).alloc (.cells (wvs (List.replicate 8 0#32)) 0xa4)) (by simp) 0xb7 (wvs (List.replicate 16 0#32)),
      ((((Below.refl _ w).alloc (Nat.le_refl _) _).alloc (by simp) _).alloc (by simp <;> omega) _).alloc (by simp <;> omega) _, by simp⟩
  go_enter Tryz.func113, Tryz.ntmps113
  go_wp2
  rw [z8_eq, z16_eq]
  obtain ⟨W0, hW0⟩ : ∃ W0, (((w.alloc (.cells (wvs H) 0xa4)).alloc (.cells (bvs B) 0x84)).alloc (.cells (wvs (List.replicate 8 0#32)) 0xa4)).alloc (.cells (wvs (List.replicate 16 0#32)) 0xb7) = W0 := ⟨_, rfl⟩
  rw [hW0] at h0 ⊢
  clear hW0
  have HH := Lib.hid hH
  have HB := Lib.hid hB
  have HN := Lib.hid hn
  clear hH hB hn
  go_loopw [10] (fun i wr => ∃ k : Nat, k ≤ 16 ∧ i = .int .i64 (k : Int) ∧ Hid (RfAt w wr H B (giv B k))) (fun i _ => 16 - (intOf i).toNat)
  case atStart => exact ⟨0, by omega, rfl, Lib.hid h0⟩
  case round =>
    obtain ⟨wo, rfl⟩ : ∃ wo : World, wo = wr := ⟨_, rfl⟩
    obtain ⟨k, hk, rfl, HR⟩ := hrel
    clear h0
    by_cases hlt : k < 16
    · have b0 := HR.out.b.byte (k := 4 * k) (by rw [HB.out]; omega)
      have b1 := HR.out.b.byte (k := 4 * k + 1) (by rw [HB.out]; omega)
      have b2 := HR.out.b.byte (k := 4 * k + 2) (by rw [HB.out]; omega)
      have b3 := HR.out.b.byte (k := 4 * k + 3) (by rw [HB.out]; omega)
      rw [ib_iv] at b0 b1 b2 b3
      obtain ⟨x, hx⟩ : ∃ x, wordB B k = x := ⟨_, rfl⟩
      have hs : wordB B k = _ := wordF_sum (fun j => B.getD (4 * k + j) 0)
      simp only [Nat.add_zero] at hs
      rw [hx] at hs
      obtain ⟨c0, hc0⟩ : ∃ c, (B.getD (4 * k) 0).setWidth 32 = c := ⟨_, rfl⟩
      obtain ⟨c1, hc1⟩ : ∃ c, (B.getD (4 * k + 1) 0).setWidth 32 = c := ⟨_, rfl⟩
      obtain ⟨c2, hc2⟩ : ∃ c, (B.getD (4 * k + 2) 0).setWidth 32 = c := ⟨_, rfl⟩
      obtain ⟨c3, hc3⟩ : ∃ c, (B.getD (4 * k + 3) 0).setWidth 32 = c := ⟨_, rfl⟩
      rw [hc0] at b0 hs
      rw [hc1] at b1 hs
      rw [hc2] at b2 hs
      rw [hc3] at b3 hs
      have m1 := mul_wrap c1 8 256 (by decide)
      have m2 := mul_wrap c2 16 65536 (by decide)
      have m3 := mul_wrap c3 24 16777216 (by decide)
      obtain ⟨d1, hd1⟩ : ∃ d, c1 <<< 8 = d := ⟨_, rfl⟩
      obtain ⟨d2, hd2⟩ : ∃ d, c2 <<< 16 = d := ⟨_, rfl⟩
      obtain ⟨d3, hd3⟩ : ∃ d, c3 <<< 24 = d := ⟨_, rfl⟩
      rw [hd1] at m1 hs
      rw [hd2] at m2 hs
      rw [hd3] at m3 hs
      have a1 := iv_add_wrap c0 d1
      have a2 := iv_add_wrap (c0 + d1) d2
      have a3 := iv_add_wrap (c0 + d1 + d2) d3
      rw [← hs] at a3
      have w0 := wrap_iv c0
      have w1 := wrap_iv c1
      have w2 := wrap_iv c2
      have w3 := wrap_iv c3
      have HX := Lib.hid hx
      clear hs hx hc0 hc1 hc2 hc3 hd1 hd2 hd3
      have g0 : (0 : Int) ≤ (k : Int) := by omega
      have g1 : (k : Int) < 16 := by omega
      have p0 : IntKind.i64.wrap (4 * (k : Int)) = 4 * (k : Int) := IntWalk.i64_in _ (by omega)
      have p1 : IntKind.i64.wrap (4 * (k : Int) + 1) = 4 * (k : Int) + 1 := IntWalk.i64_in _ (by omega)
      have p2 : IntKind.i64.wrap (4 * (k : Int) + 2) = 4 * (k : Int) + 2 := IntWalk.i64_in _ (by omega)
      have p3 : IntKind.i64.wrap (4 * (k : Int) + 3) = 4 * (k : Int) + 3 := IntWalk.i64_in _ (by omega)
      have q0 : 0 ≤ 4 * (k : Int) := by omega
      have q1 : 0 ≤ 4 * (k : Int) + 1 := by omega
      have q2 : 0 ≤ 4 * (k : Int) + 2 := by omega
      have q3 : 0 ≤ 4 * (k : Int) + 3 := by omega
      have r0 : 4 * (k : Int) < 64 := by omega
      have r1 : 4 * (k : Int) + 1 < 64 := by omega
      have r2 : 4 * (k : Int) + 2 < 64 := by omega
      have r3 : 4 * (k : Int) + 3 < 64 := by omega
      have t0 : (4 * (k : Int)).toNat = 4 * k := by omega
      have t1 : (4 * (k : Int) + 1).toNat = 4 * k + 1 := by omega
      have t2 : (4 * (k : Int) + 2).toNat = 4 * k + 2 := by omega
      have t3 : (4 * (k : Int) + 3).toNat = 4 * k + 3 := by omega
      go_upto_region 5 with fail
      go_still_tail 30, (by kernel_rfl)
      change wpList _ _ _ _ _ wo.drew
      obtain ⟨W4, hW4⟩ : ∃ W4, wo.drew = W4 := ⟨_, rfl⟩
      have hR4 : RfAt w W4 H B (giv B k) := by rw [← hW4]; exact HR.out.drew
      rw [hW4]
      clear hW4 b0 b1 b2 b3 p0 p1 p2 p3 q0 q1 q2 q3 r0 r1 r2 r3 t0 t1 t2 t3 m1 m2 m3 a1 a2 a3 w0 w1 w2 w3
      have hgc := hR4.g.word (k := k) (by rw [giv_length]; exact hlt)
      have hgf := hR4.g.frozen k
      obtain ⟨zz, hzz⟩ : ∃ zz, (giv B k).getD k 0 = zz := ⟨_, rfl⟩
      rw [hzz] at hgc
      have HR4 := Lib.hid hR4
      clear hzz hR4
      go_wp2
      go_roundw
      case rel =>
        refine ⟨k + 1, by omega, by go_num, Lib.hid ?_⟩
        rw [giv, HX.out]
        exact HR4.out.setG k x
      case measure => simp [intOf]; omega
    · obtain rfl : k = 16 := by omega
      have HR0 := HR.out
      clear HR
      rw [show ((16 : Nat) : Int) = 16 from rfl]
      go_upto_region 8 with (first
        | (go_at_call 112; (with_reducible refine (first_any _).mono ?_); rintro e wf ⟨rfl, hbf⟩)
        | (refine wpList_store_row rfl 0xa4 _ _ rfl wf.heap.size (wvs beginL) rfl rfl 0xa4 (wvs (List.replicate 8 0#32)) (World.alloc_heap_new wf _) i27b rfl (wvs_one beginL) ?_))
      rw [z16_eq] at hbf
      rw [z8_eq]
      obtain ⟨Fb, hFb⟩ : ∃ Fb, wf.heap.size = Fb := ⟨_, rfl⟩
      obtain ⟨W3, hW3⟩ : ∃ W3, (wf.alloc (.cells (wvs (List.replicate 8 0#32)) 0xa4)).setRow wf.heap.size (wvs beginL) = W3 := ⟨_, rfl⟩
      have hPv := HR0.newV
      have hPf := hPv.keep hbf
      have hlf : w.heap.size + 4 < Fb := by
        have h1 := hPv.v.lt
        have h2 := hbf.size
        omega
      have hP3 : PrAt w W3 H B (giv B 16) (vin H 0) := by
        rw [← hW3]
        exact hPf.keep (below_setRow ((Below.refl _ wf).alloc (Nat.le_refl _) _) (Nat.le_refl _) _)
      have hF3 : Blk W3 Fb 0xa4 (wvs beginL) := by
        rw [← hW3, ← hFb]
        exact setRow_heap _ _ _ _ _ _ (World.alloc_heap_new wf _)
      rw [hW3, hFb, HR0.size]
      have HF0 := Lib.hid (And.intro hP3 hF3)
      have HL := Lib.hid hlf
      clear hFb hW3 hPv hPf hlf hP3 hF3 hbf HR0
      go_wp2
      go_loopw [13] (fun i wr => ∃ k : Nat, k ≤ 8 ∧ i = .int .i64 (k : Int) ∧ Hid (PrAt w wr H B (giv B 16) (vin H k) ∧ Blk wr Fb 0xa4 (wvs beginL))) (fun i _ => 8 - (intOf i).toNat)
      case atStart => exact ⟨0, by omega, rfl, HF0⟩
      case round =>
        obtain ⟨wo1, rfl⟩ : ∃ wo1 : World, wo1 = wr := ⟨_, rfl⟩
        obtain ⟨p, hk, rfl, HR⟩ := hrel
        clear HF0
        by_cases hlt : p < 8
        · have hb0 := HR.out.2.word (k := p) hlt
          have hh0 := HR.out.1.h.word (k := p) (by rw [HH.out]; exact hlt)
          have hv0 := HR.out.1.v.word (k := p) (by rw [vin_length]; omega)
          have hv1 := HR.out.1.v.word (k := p + 8) (by rw [vin_length]; omega)
          have hf0 := HR.out.1.v.frozen p
          have hf1 := HR.out.1.v.frozen (p + 8)
          have H0 : Hid (w.heap.size < wo1.heap.size ∧ w.heap.size ≠ w.heap.size + 4) := Lib.hid ⟨HR.out.1.h.lt, by omega⟩
          have H1 : Hid (Fb < wo1.heap.size ∧ Fb ≠ w.heap.size + 4) := Lib.hid ⟨HR.out.2.lt, by have := HL.out; omega⟩
          obtain ⟨x, hx⟩ : ∃ x, H.getD p 0 = x := ⟨_, rfl⟩
          obtain ⟨y, hy⟩ : ∃ y, beginL.getD p 0 = y := ⟨_, rfl⟩
          obtain ⟨z0, hz0⟩ : ∃ z, (vin H p).getD p 0 = z := ⟨_, rfl⟩
          obtain ⟨z1, hz1⟩ : ∃ z, (vin H p).getD (p + 8) 0 = z := ⟨_, rfl⟩
          rw [hx] at hh0
          rw [hy] at hb0
          rw [hz0] at hv0
          rw [hz1] at hv1
          have HS := Lib.hid (And.intro hh0 hb0)
          have Hx := Lib.hid hx
          have Hy := Lib.hid hy
          clear hx hy hz0 hz1
          have g4 : IntKind.i64.wrap ((p : Int) + 8) = (p : Int) + 8 := IntWalk.i64_in _ (by omega)
          have g5 : 0 ≤ (p : Int) + 8 := by omega
          have g6 : ((p : Int) + 8).toNat = p + 8 := by omega
          have g7 : (p : Int) < 8 := by omega
          have g8 : (p : Int) + 8 < 16 := by omega
          have g9 : (p : Int) < 16 := by omega
          have g0 : (0 : Int) ≤ (p : Int) := by omega
          go_wp2
          go_region_held3 (fun W => W.cell? ⟨w.heap.size, p, none⟩ = some (.int .u32 (iv x)) ∧ W.cell? ⟨Fb, p, none⟩ = some (.int .u32 (iv y)))
            ((refine keep2 H0.out H1.out HS.out ?_; (repeat first | exact But.refl _ _ | apply But.drew | (refine But.set ?_ _ _ (Or.inl rfl))))) (first | fail)
          clear g0 g4 g5 g6 g7 g8 g9
          go_wp2
          go_roundw
          case rel =>
            refine ⟨p + 1, by omega, by go_num, Lib.hid ⟨?_, ?_⟩⟩
            · rw [vin, Hx.out, Hy.out]
              exact ((HR.out.1.setV p x).setV (p + 8) y).drew
            · exact ((HR.out.2.other (by simp; have := HL.out; omega) _).other (by simp; have := HL.out; omega) _).drew
          case measure => simp [intOf]; omega
        · obtain rfl : p = 8 := by omega
          rw [show ((8 : Nat) : Int) = 8 from rfl]
          obtain ⟨V8, hV8⟩ : ∃ V, vin H 8 = V := ⟨_, rfl⟩
          have hVl : V8.length = 16 := by rw [← hV8, vin_length]
          have HR0 := HR.out.1
          rw [hV8] at HR0
          have HV8 := Lib.hid hV8
          clear HR hV8
          have d12 := HR0.v.word (k := 12) (by omega)
          have d13 := HR0.v.word (k := 13) (by omega)
          have d14 := HR0.v.word (k := 14) (by omega)
          have f12 := HR0.v.frozen 12
          have f13 := HR0.v.frozen 13
          have f14 := HR0.v.frozen 14
          obtain ⟨y12, hy12⟩ : ∃ z, V8.getD 12 0 = z := ⟨_, rfl⟩
          obtain ⟨y13, hy13⟩ : ∃ z, V8.getD 13 0 = z := ⟨_, rfl⟩
          obtain ⟨y14, hy14⟩ : ∃ z, V8.getD 14 0 = z := ⟨_, rfl⟩
          rw [hy12] at d12
          rw [hy13] at d13
          rw [hy14] at d14
          have HY := Lib.hid (And.intro hy12 (And.intro hy13 hy14))
          have HVl := Lib.hid hVl
          clear hy12 hy13 hy14 hVl
          have hlo := lo_num n
          have hhi := hi_num n
          have hqw := quo_wrap n HN.out
          have e12 := bits_xor y12 (BitVec.ofNat 32 n)
          have e13 := bits_xor y13 (BitVec.ofNat 32 (n / 4294967296))
          go_upto_if 85 with fail
          go_cut [85] from 86 (fun s85 wx => s85 = .bool last ∧ Hid (PrAt w wx H B (giv B 16) (vfl H n last)))
          case first =>
            obtain ⟨W3, hW3⟩ : ∃ W3, (wo1.setCell ⟨w.heap.size + 4, 12, none⟩ (.int .u32 (iv (y12 ^^^ BitVec.ofNat 32 n)))).setCell ⟨w.heap.size + 4, 13, none⟩ (.int .u32 (iv (y13 ^^^ BitVec.ofNat 32 (n / 4294967296)))) = W3 := ⟨_, rfl⟩
            have hR3 : PrAt w W3 H B (giv B 16) (vhi n (vlo n V8)) := by
              have := (HR0.setV 12 (y12 ^^^ BitVec.ofNat 32 n)).setV 13 (y13 ^^^ BitVec.ofNat 32 (n / 4294967296))
              rw [← hW3]
              unfold vhi vlo
              rw [getD_set_ne _ (by decide), HY.out.1, HY.out.2.1]
              exact this
            rw [hW3]
            have d14' := hR3.v.word (k := 14) (by rw [vhi_length, vlo_length, HVl.out]; decide)
            have f14' := hR3.v.frozen 14
            have hy14 : (vhi n (vlo n V8)).getD 14 0 = y14 := by
              unfold vhi vlo
              rw [getD_set_ne _ (by decide), getD_set_ne _ (by decide), HY.out.2.2]
            rw [hy14] at d14'
            have HY14 := Lib.hid hy14
            clear hW3 hy14 d12 d13 d14 f12 f13 f14 hlo hhi hqw e12 e13
            have hx := sub_word y14
            have hx' := sub_word' y14
            have hx2 := iv_mod (~~~ y14)
            cases last
            · go_wp2_with fail
              go_meet
              exact ⟨rfl, Lib.hid (by rw [vfl_no, HV8.out]; exact hR3)⟩
            · go_wp2_with fail
              go_meet
              exact ⟨rfl, Lib.hid (by rw [vfl_yes, HV8.out, vla, HY14.out]; exact hR3.setV 14 (~~~ y14))⟩
          case rest =>
            obtain ⟨rfl, HR⟩ := hcut
            clear HR0 d12 d13 d14 f12 f13 f14 hlo hhi hqw e12 e13 HY HVl HV8 HL
            obtain ⟨VF, hVF⟩ : ∃ V, vfl H n last = V := ⟨_, rfl⟩
            have hVl : VF.length = 16 := by rw [← hVF, vfl_length]
            have HR0 := HR.out
            rw [hVF] at HR0
            have HVF := Lib.hid hVF
            have HVl := Lib.hid hVl
            clear HR hVF hVl
            obtain ⟨G, hG⟩ : ∃ G, giv B 16 = G := ⟨_, rfl⟩
            have hGl : G.length = 16 := by rw [← hG, giv_length]
            rw [hG] at HR0
            have HG := Lib.hid hG
            have HGl := Lib.hid hGl
            clear hG hGl
            have HR1 : PrAt w wc H B G (rounds VF G 0) := HR0
            clear HR0
            go_wp2_with fail
            go_loopw [14] (fun i wr => ∃ k : Nat, k ≤ 10 ∧ i = .int .i64 (k : Int) ∧ Hid (PrAt w wr H B G (rounds VF G k))) (fun i _ => 10 - (intOf i).toNat)
            case atStart => exact ⟨0, by omega, rfl, Lib.hid HR1⟩
            case round =>
              obtain ⟨wo2, rfl⟩ : ∃ wo2 : World, wo2 = wr := ⟨_, rfl⟩
              obtain ⟨k, hk, rfl, HR⟩ := hrel
              clear HR1
              by_cases hlt : k < 10
              · have hOl := ord_length k hlt
                have hO16 := ord_lt k hlt
                have hoc := order_any k hlt
                obtain ⟨O, hO⟩ : ∃ O, ord k = O := ⟨_, rfl⟩
                rw [hO] at hoc hOl hO16
                have HO := Lib.hid hO
                have HOl := Lib.hid hOl
                have HO16 := Lib.hid hO16
                have HOC := Lib.hid hoc
                obtain ⟨V, hV⟩ : ∃ V, rounds VF G k = V := ⟨_, rfl⟩
                have hVl : V.length = 16 := by rw [← hV, rounds_length, HVl.out]
                have HRk := HR.out
                rw [hV] at HRk
                have HV := Lib.hid hV
                have HVL := Lib.hid hVl
                clear hO hOl hO16 hoc hV hVl HR
                have i86 : Hid ((Tryz.prog.info? 0xb8).map (·.size) = some (nv O).size) := Lib.hid (by rw [nv_size, HOl.out]; kernel_rfl)
                have j86 : Hid ((nv (List.replicate 16 0)).size = (nv O).size) := Lib.hid (by simp [nv, HOl.out])
                go_upto_region 20 with (first
                  | (go_at_call 117; (with_reducible refine (HOC.out _).mono ?_); rintro e w3 ⟨rfl, hb3⟩)
                  | (refine wpList_store_row rfl 0xb8 _ _ rfl w3.heap.size (nv O) rfl rfl 0xb8 (nv (List.replicate 16 0)) (World.alloc_heap_new w3 _) i86.out j86.out (nv_one O) ?_))
                rw [eqz16]
                obtain ⟨Ob, hOb⟩ : ∃ Ob, w3.heap.size = Ob := ⟨_, rfl⟩
                obtain ⟨W3, hW3⟩ : ∃ W3, (w3.alloc (.cells (nv (List.replicate 16 0)) 0xb8)).setRow w3.heap.size (nv O) = W3 := ⟨_, rfl⟩
                have hR3 : PrAt w W3 H B G V := by
                  rw [← hW3]
                  exact (HRk.keep hb3).keep (below_setRow ((Below.refl _ w3).alloc (Nat.le_refl _) _) (Nat.le_refl _) _)
                have hO3 : Blk W3 Ob 0xb8 (nv O) := by rw [← hW3, ← hOb]; exact setRow_heap _ _ _ _ _ _ (World.alloc_heap_new w3 _)
                have hlO : w.heap.size + 4 < Ob := by
                  have h1 := HRk.v.lt
                  have h2 := hb3.size
                  omega
                rw [hW3, hOb]
                have HLO := Lib.hid hlO
                have HR0 : Hid (PrAt w W3 H B G (rndS V G O 0) ∧ Blk W3 Ob 0xb8 (nv O)) := Lib.hid ⟨hR3, hO3⟩
                clear hW3 hOb hb3 hR3 hO3 HRk HOC hlO
                go_wp2_with fail
                go_loopw [16] (fun i wr => ∃ j : Nat, j ≤ 8 ∧ i = .int .i64 (j : Int) ∧ Hid (PrAt w wr H B G (rndS V G O j) ∧ Blk wr Ob 0xb8 (nv O))) (fun i _ => 8 - (intOf i).toNat)
                case atStart => exact ⟨0, by omega, rfl, HR0⟩
                case round =>
                  obtain ⟨wo3, rfl⟩ : ∃ wo3 : World, wo3 = wr := ⟨_, rfl⟩
                  obtain ⟨j, hj, rfl, HR⟩ := hrel
                  clear HR0
                  by_cases hlj : j < 8
                  · have hpc := places_any j hlj
                    have i88 : Hid ((Tryz.prog.info? 0xba).map (·.size) = some (nv (mxR j)).size) := Lib.hid (by rw [nv_size, mxR_length j hlj]; kernel_rfl)
                    have j88 : Hid ((nv (List.replicate 4 0)).size = (nv (mxR j)).size) := Lib.hid (by simp [nv, mxR_length j hlj])
                    have HPC := Lib.hid hpc
                    clear hpc
                    go_upto_region 24 with (first
                      | (go_at_call 118; (with_reducible refine (HPC.out _).mono ?_); rintro e w4 ⟨rfl, hb4⟩)
                      | (refine wpList_store_row rfl 0xba _ _ rfl w4.heap.size (nv (mxR j)) rfl rfl 0xba (nv (List.replicate 4 0)) (World.alloc_heap_new w4 _) i88.out j88.out (nv_one _) ?_))
                    rw [eqz4]
                    obtain ⟨Pb, hPb⟩ : ∃ Pb, w4.heap.size = Pb := ⟨_, rfl⟩
                    obtain ⟨W4, hW4⟩ : ∃ W4, (w4.alloc (.cells (nv (List.replicate 4 0)) 0xba)).setRow w4.heap.size (nv (mxR j)) = W4 := ⟨_, rfl⟩
                    have hk4 : Below wo3.heap.size wo3 W4 := by
                      rw [← hW4]
                      exact below_setRow (hb4.alloc hb4.size _) hb4.size _
                    have hR4 := HR.out.1.keep hk4
                    have hO4 := HR.out.2.keep hk4
                    have hP4 : Blk W4 Pb 0xba (nv (mxR j)) := by rw [← hW4, ← hPb]; exact setRow_heap _ _ _ _ _ _ (World.alloc_heap_new w4 _)
                    have hlP : w.heap.size + 4 < Pb ∧ Ob ≠ Pb := by
                      have h1 := HR.out.1.v.lt
                      have h2 := hb4.size
                      have h3 := HR.out.2.lt
                      omega
                    rw [hW4, hPb]
                    have HLP := Lib.hid hlP
                    clear hW4 hPb hb4 hk4 HR HPC hlP
                    obtain ⟨V', hV'⟩ : ∃ V', rndS V G O j = V' := ⟨_, rfl⟩
                    have hVl' : V'.length = 16 := by rw [← hV', rndS_length, HVL.out]
                    rw [hV'] at hR4
                    have HV' := Lib.hid hV'
                    have HVL' := Lib.hid hVl'
                    clear hV' hVl'
                    have a16 := getD_lt HO16.out (2 * j)
                    have b16 := getD_lt HO16.out (2 * j + 1)
                    obtain ⟨oa, hoa⟩ : ∃ oa, O.getD (2 * j) 0 = oa := ⟨_, rfl⟩
                    obtain ⟨ob, hob⟩ : ∃ ob, O.getD (2 * j + 1) 0 = ob := ⟨_, rfl⟩
                    rw [hoa] at a16
                    rw [hob] at b16
                    obtain ⟨x, hx⟩ : ∃ x, G.getD oa 0 = x := ⟨_, rfl⟩
                    obtain ⟨y, hy⟩ : ∃ y, G.getD ob 0 = y := ⟨_, rfl⟩
                    have co := hO4.nat (k := 2 * j) (by rw [HOl.out]; omega)
                    have co' := hO4.nat (k := 2 * j + 1) (by rw [HOl.out]; omega)
                    rw [hoa] at co
                    rw [hob] at co'
                    have cm := hR4.g.word (k := oa) (by rw [HGl.out]; omega)
                    have cm' := hR4.g.word (k := ob) (by rw [HGl.out]; omega)
                    rw [hx] at cm
                    rw [hy] at cm'
                    have n0 := mx_lt j 0 hlj (by decide)
                    have n1 := mx_lt j 1 hlj (by decide)
                    have n2 := mx_lt j 2 hlj (by decide)
                    have n3 := mx_lt j 3 hlj (by decide)
                    have p0 : W4.cell? ⟨Pb, 0, none⟩ = some (.int .i64 ((mx j 0 : Nat) : Int)) := hP4.nat (k := 0) (by rw [mxR_length j hlj]; decide)
                    have p1 : W4.cell? ⟨Pb, 1, none⟩ = some (.int .i64 ((mx j 1 : Nat) : Int)) := hP4.nat (k := 1) (by rw [mxR_length j hlj]; decide)
                    have p2 : W4.cell? ⟨Pb, 2, none⟩ = some (.int .i64 ((mx j 2 : Nat) : Int)) := hP4.nat (k := 2) (by rw [mxR_length j hlj]; decide)
                    have p3 : W4.cell? ⟨Pb, 3, none⟩ = some (.int .i64 ((mx j 3 : Nat) : Int)) := hP4.nat (k := 3) (by rw [mxR_length j hlj]; decide)
                    obtain ⟨m0, hm0⟩ : ∃ m, mx j 0 = m := ⟨_, rfl⟩
                    obtain ⟨m1, hm1⟩ : ∃ m, mx j 1 = m := ⟨_, rfl⟩
                    obtain ⟨m2, hm2⟩ : ∃ m, mx j 2 = m := ⟨_, rfl⟩
                    obtain ⟨m3, hm3⟩ : ∃ m, mx j 3 = m := ⟨_, rfl⟩
                    rw [hm0] at n0 p0
                    rw [hm1] at n1 p1
                    rw [hm2] at n2 p2
                    rw [hm3] at n3 p3
                    have v0 := hR4.v.word (k := m0) (by rw [HVL'.out]; omega)
                    have v1 := hR4.v.word (k := m1) (by rw [HVL'.out]; omega)
                    have v2 := hR4.v.word (k := m2) (by rw [HVL'.out]; omega)
                    have v3 := hR4.v.word (k := m3) (by rw [HVL'.out]; omega)
                    obtain ⟨q, hq⟩ : ∃ q, mixS ⟨V'.getD m0 0, V'.getD m1 0, V'.getD m2 0, V'.getD m3 0⟩ x y = q := ⟨_, rfl⟩
                    have hqs : stepQ V' G O j = q := by
                      unfold stepQ gatherQ
                      rw [hm0, hm1, hm2, hm3, hoa, hob, hx, hy, hq]
                    have HQ := Lib.hid hq
                    have HQS := Lib.hid hqs
                    have HM := Lib.hid (And.intro hm0 (And.intro hm1 (And.intro hm2 hm3)))
                    clear hq hqs hm0 hm1 hm2 hm3 hoa hob hx hy
                    obtain ⟨z0, hz0⟩ : ∃ z, V'.getD m0 0 = z := ⟨_, rfl⟩
                    obtain ⟨z1, hz1⟩ : ∃ z, V'.getD m1 0 = z := ⟨_, rfl⟩
                    obtain ⟨z2, hz2⟩ : ∃ z, V'.getD m2 0 = z := ⟨_, rfl⟩
                    obtain ⟨z3, hz3⟩ : ∃ z, V'.getD m3 0 = z := ⟨_, rfl⟩
                    rw [hz0] at v0
                    rw [hz1] at v1
                    rw [hz2] at v2
                    rw [hz3] at v3
                    rw [hz0, hz1, hz2, hz3] at HQ
                    clear hz0 hz1 hz2 hz3
                    have HS := Lib.hid (And.intro (And.intro p0 (And.intro p1 (And.intro p2 (And.intro p3 (And.intro v0 (And.intro v1 (And.intro v2 v3))))))) (And.intro co (And.intro co' (And.intro cm cm'))))
                    have HLs := Lib.hid (And.intro hP4.lt (And.intro hR4.v.lt (And.intro hO4.lt hR4.g.lt)))
                    have HR4 := Lib.hid (And.intro hR4 (And.intro hO4 hP4))
                    clear hR4 hO4 hP4
                    have i0 : (0 : Int) ≤ (m0 : Int) := by omega
                    have i1 : (0 : Int) ≤ (m1 : Int) := by omega
                    have i2 : (0 : Int) ≤ (m2 : Int) := by omega
                    have i3 : (0 : Int) ≤ (m3 : Int) := by omega
                    have i4 : (0 : Int) ≤ (oa : Int) := by omega
                    have i5 : (0 : Int) ≤ (ob : Int) := by omega
                    have j0 : (m0 : Int) < 16 := by omega
                    have j1 : (m1 : Int) < 16 := by omega
                    have j2 : (m2 : Int) < 16 := by omega
                    have j3 : (m3 : Int) < 16 := by omega
                    have j4 : (oa : Int) < 16 := by omega
                    have j5 : (ob : Int) < 16 := by omega
                    have g1 : IntKind.i64.wrap (2 * (j : Int)) = 2 * (j : Int) := IntWalk.i64_in _ (by omega)
                    have g2 : 0 ≤ 2 * (j : Int) := by omega
                    have g3 : (2 * (j : Int)).toNat = 2 * j := by omega
                    have g4 : IntKind.i64.wrap (2 * (j : Int) + 1) = 2 * (j : Int) + 1 := IntWalk.i64_in _ (by omega)
                    have g5 : 0 ≤ 2 * (j : Int) + 1 := by omega
                    have g6 : (2 * (j : Int) + 1).toNat = 2 * j + 1 := by omega
                    have g7 : 2 * (j : Int) < 16 := by omega
                    have g8 : 2 * (j : Int) + 1 < 16 := by omega
                    unfold Act.put
                    simp only []
                    go_cut [18] from 96 to 152 (fun s18 wx => MidRel W4 q s18 wx)
                    case first =>
                      go_region_held3 (fun W => W.cell? ⟨Pb, 0, none⟩ = some (.int .i64 (m0 : Int)) ∧ W.cell? ⟨Pb, 1, none⟩ = some (.int .i64 (m1 : Int)) ∧ W.cell? ⟨Pb, 2, none⟩ = some (.int .i64 (m2 : Int)) ∧ W.cell? ⟨Pb, 3, none⟩ = some (.int .i64 (m3 : Int)) ∧ W.cell? ⟨w.heap.size + 4, m0, none⟩ = some (.int .u32 (iv z0)) ∧ W.cell? ⟨w.heap.size + 4, m1, none⟩ = some (.int .u32 (iv z1)) ∧ W.cell? ⟨w.heap.size + 4, m2, none⟩ = some (.int .u32 (iv z2)) ∧ W.cell? ⟨w.heap.size + 4, m3, none⟩ = some (.int .u32 (iv z3)) ∧ W.cell? ⟨Ob, 2 * j, none⟩ = some (.int .i64 (oa : Int)) ∧ W.cell? ⟨Ob, 2 * j + 1, none⟩ = some (.int .i64 (ob : Int)) ∧ W.cell? ⟨w.heap.size + 3, oa, none⟩ = some (.int .u32 (iv x)) ∧ W.cell? ⟨w.heap.size + 3, ob, none⟩ = some (.int .u32 (iv y)))
                        ((refine keep12 HLs.out.1 HLs.out.2.1 HLs.out.2.2.1 HLs.out.2.2.2 HS.out ?_; (repeat first | exact Below.refl _ _ | exact hb3 | apply Below.drew | (refine Below.alloc ?_ (by first | exact hb3.size | (simp <;> omega)) _) | (refine Below.setCell ?_ (by simp) _))))
                        (first | (go_at_call 119; (with_reducible refine (refmixc _ _ _ _ _ _ q HQ _).mono ?_); rintro e w3 ⟨rfl, hb⟩; have hb3 : Below W4.heap.size W4 w3 := (by repeat first | exact Below.refl _ _ | apply Below.drew | (refine Below.alloc ?_ (by simp) _) : Below W4.heap.size W4 _).trans (hb.mono (by simp)); (try (have y0 : w3.cell? ⟨W4.heap.size, 0, none⟩ = some (.int .u32 0) := (hb.cell (p := ⟨W4.heap.size, 0, none⟩) (by simp)).trans (by simp); have y1 : w3.cell? ⟨W4.heap.size, 1, none⟩ = some (.int .u32 0) := (hb.cell (p := ⟨W4.heap.size, 1, none⟩) (by simp)).trans (by simp); have y2 : w3.cell? ⟨W4.heap.size, 2, none⟩ = some (.int .u32 0) := (hb.cell (p := ⟨W4.heap.size, 2, none⟩) (by simp)).trans (by simp); have y3 : w3.cell? ⟨W4.heap.size, 3, none⟩ = some (.int .u32 0) := (hb.cell (p := ⟨W4.heap.size, 3, none⟩) (by simp)).trans (by simp); have x0 : w3.frozen? ⟨W4.heap.size, 0, none⟩ = false := (hb.frozen (p := ⟨W4.heap.size, 0, none⟩) (by simp)).trans (by simp); have x1 : w3.frozen? ⟨W4.heap.size, 1, none⟩ = false := (hb.frozen (p := ⟨W4.heap.size, 1, none⟩) (by simp)).trans (by simp); have x2 : w3.frozen? ⟨W4.heap.size, 2, none⟩ = false := (hb.frozen (p := ⟨W4.heap.size, 2, none⟩) (by simp)).trans (by simp); have x3 : w3.frozen? ⟨W4.heap.size, 3, none⟩ = false := (hb.frozen (p := ⟨W4.heap.size, 3, none⟩) (by simp)).trans (by simp); have hbk : Hid (w3.heap[W4.heap.size]? = some (.cells #[.int .u32 0, .int .u32 0, .int .u32 0, .int .u32 0] 0xbc (0, 0))) := Lib.hid ((hb.block _ (by simp)).trans (World.alloc_heap_new W4 _)))); clear hb))
                      all_goals (go_wp2_with fail; go_meet)
                      · exact ⟨_, rfl, Blk.new w3 0xbc _, hb3.alloc hb3.size _, hb3.size⟩
                      · exact ⟨_, rfl, row4_set _ _ _ _ hbk.out, (((hb3.setCell (p := ⟨W4.heap.size, 0, none⟩) (by simp) _).setCell (p := ⟨W4.heap.size, 1, none⟩) (by simp) _).setCell (p := ⟨W4.heap.size, 2, none⟩) (by simp) _).setCell (p := ⟨W4.heap.size, 3, none⟩) (by simp) _, Nat.le_refl _⟩
                    case rest =>
                      obtain ⟨Qb, rfl, hQ, hbq, hlq⟩ := hcut
                      have hR5 := HR4.out.1.keep hbq
                      have hO5 := HR4.out.2.1.keep hbq
                      have hP5 := HR4.out.2.2.keep hbq
                      have q0 := hQ.cell 0
                      have q1 := hQ.cell 1
                      have q2 := hQ.cell 2
                      have q3 := hQ.cell 3
                      simp only [List.getElem?_toArray, List.getElem?_cons_zero, List.getElem?_cons_succ] at q0 q1 q2 q3
                      have r0 := (hbq.cell (p := ⟨Pb, 0, none⟩) HLs.out.1).trans p0
                      have r1 := (hbq.cell (p := ⟨Pb, 1, none⟩) HLs.out.1).trans p1
                      have r2 := (hbq.cell (p := ⟨Pb, 2, none⟩) HLs.out.1).trans p2
                      have r3 := (hbq.cell (p := ⟨Pb, 3, none⟩) HLs.out.1).trans p3
                      have u0 := (hbq.cell (p := ⟨w.heap.size + 4, m0, none⟩) HLs.out.2.1).trans v0
                      have u1 := (hbq.cell (p := ⟨w.heap.size + 4, m1, none⟩) HLs.out.2.1).trans v1
                      have u2 := (hbq.cell (p := ⟨w.heap.size + 4, m2, none⟩) HLs.out.2.1).trans v2
                      have u3 := (hbq.cell (p := ⟨w.heap.size + 4, m3, none⟩) HLs.out.2.1).trans v3
                      have f0 := hR5.v.frozen m0
                      have f1 := hR5.v.frozen m1
                      have f2 := hR5.v.frozen m2
                      have f3 := hR5.v.frozen m3
                      obtain ⟨d01, d02, d03, d12, d13, d23⟩ := mx_ne j hlj
                      rw [HM.out.1] at d01 d02 d03
                      rw [HM.out.2.1] at d01 d12 d13
                      rw [HM.out.2.2.1] at d02 d12 d23
                      rw [HM.out.2.2.2] at d03 d13 d23
                      have d10 := Ne.symm d01
                      have d20 := Ne.symm d02
                      have d30 := Ne.symm d03
                      have d21 := Ne.symm d12
                      have d31 := Ne.symm d13
                      have d32 := Ne.symm d23
                      have HPQ : Hid ((Pb < wc.heap.size ∧ Pb ≠ w.heap.size + 4) ∧ (Qb < wc.heap.size ∧ Qb ≠ w.heap.size + 4)) := Lib.hid ⟨⟨hP5.lt, by have := HLP.out; omega⟩, ⟨hQ.lt, by have := HLs.out.2.1; omega⟩⟩
                      have HS2 := Lib.hid (And.intro r0 (And.intro r1 (And.intro r2 (And.intro r3 (And.intro q0 (And.intro q1 (And.intro q2 q3)))))))
                      have HR5 := Lib.hid (And.intro hR5 hO5)
                      clear HR4 HS hR5 hO5 hP5 hQ hbq hlq p0 p1 p2 p3 v0 v1 v2 v3 co co' cm cm' i4 i5 j4 j5 g1 g2 g3 g4 g5 g6 g7 g8
                      go_upto_region 25 with fail
                      go_region_held3 (fun W => W.cell? ⟨Pb, 0, none⟩ = some (.int .i64 (m0 : Int)) ∧ W.cell? ⟨Pb, 1, none⟩ = some (.int .i64 (m1 : Int)) ∧ W.cell? ⟨Pb, 2, none⟩ = some (.int .i64 (m2 : Int)) ∧ W.cell? ⟨Pb, 3, none⟩ = some (.int .i64 (m3 : Int)) ∧ W.cell? ⟨Qb, 0, none⟩ = some (.int .u32 (iv q.a)) ∧ W.cell? ⟨Qb, 1, none⟩ = some (.int .u32 (iv q.b)) ∧ W.cell? ⟨Qb, 2, none⟩ = some (.int .u32 (iv q.c)) ∧ W.cell? ⟨Qb, 3, none⟩ = some (.int .u32 (iv q.d)))
                        ((refine keepPQ HPQ.out.1 HPQ.out.2 HS2.out ?_; (repeat first | exact But.refl _ _ | apply But.drew | (refine But.set ?_ _ _ (Or.inl rfl))))) (first | fail)
                      clear i0 i1 i2 i3 j0 j1 j2 j3 d01 d02 d03 d12 d13 d23 d10 d20 d30 d21 d31 d32 r0 r1 r2 r3 q0 q1 q2 q3 u0 u1 u2 u3 f0 f1 f2 f3
                      go_wp2
                      go_roundw
                      case rel =>
                        refine ⟨j + 1, by omega, by go_num, Lib.hid ⟨?_, ?_⟩⟩
                        · have hset : rndS V G O (j + 1) = (((V'.set m0 q.a).set m1 q.b).set m2 q.c).set m3 q.d := by
                            rw [rndS, HV'.out, HQS.out]
                            show ((((V'.set (mx j 0) (q.get 0)).set (mx j 1) (q.get 1)).set (mx j 2) (q.get 2)).set (mx j 3) (q.get 3)) = _
                            rw [HM.out.1, HM.out.2.1, HM.out.2.2.1, HM.out.2.2.2]
                            rfl
                          rw [hset]
                          exact ((((HR5.out.1.setV m0 q.a).setV m1 q.b).setV m2 q.c).setV m3 q.d).drew
                        · have := HLO.out
                          exact ((((HR5.out.2.other (by simp; omega) _).other (by simp; omega) _).other (by simp; omega) _).other (by simp; omega) _).drew
                      case measure => simp [intOf]; omega
                  · obtain rfl : j = 8 := by omega
                    go_wp2
                    refine ⟨⟨k + 1, by omega, by go_num, Lib.hid ?_⟩, by simp [intOf]; omega⟩
                    rw [rounds, HO.out, HV.out]
                    exact HR.out.1
              · obtain rfl : k = 10 := by omega
                have HR0 := HR.out
                clear HR
                rw [show ((10 : Nat) : Int) = 10 from rfl]
                obtain ⟨V, hV⟩ : ∃ V, rounds VF G 10 = V := ⟨_, rfl⟩
                have hVl : V.length = 16 := by rw [← hV, rounds_length, HVl.out]
                rw [hV] at HR0
                have HV := Lib.hid hV
                have HVL := Lib.hid hVl
                clear hV hVl
                have HR1 : PrAt w wo2 (fin H V 0) B G V := HR0
                clear HR0
                go_wp2
                go_loopw [19] (fun i wr => ∃ k : Nat, k ≤ 8 ∧ i = .int .i64 (k : Int) ∧ Hid (PrAt w wr (fin H V k) B G V)) (fun i _ => 8 - (intOf i).toNat)
                case atStart => exact ⟨0, by omega, rfl, Lib.hid HR1⟩
                case round =>
                  obtain ⟨wo3, rfl⟩ : ∃ wo3 : World, wo3 = wr := ⟨_, rfl⟩
                  obtain ⟨p, hk, rfl, HR⟩ := hrel
                  clear HR1
                  by_cases hlt : p < 8
                  · have hh0 := HR.out.h.word (k := p) (by rw [fin_length, HH.out]; exact hlt)
                    have hv0 := HR.out.v.word (k := p) (by rw [HVL.out]; omega)
                    have hv1 := HR.out.v.word (k := p + 8) (by rw [HVL.out]; omega)
                    have hf0 := HR.out.h.frozen p
                    obtain ⟨x, hx⟩ : ∃ x, (fin H V p).getD p 0 = x := ⟨_, rfl⟩
                    obtain ⟨y, hy⟩ : ∃ y, V.getD p 0 = y := ⟨_, rfl⟩
                    obtain ⟨z, hz⟩ : ∃ z, V.getD (p + 8) 0 = z := ⟨_, rfl⟩
                    rw [hx] at hh0
                    rw [hy] at hv0
                    rw [hz] at hv1
                    have HX := Lib.hid (And.intro hx (And.intro hy hz))
                    clear hx hy hz
                    have e1 := bits_xor x y
                    have e2 := bits_xor (x ^^^ y) z
                    have g4 : IntKind.i64.wrap ((p : Int) + 8) = (p : Int) + 8 := IntWalk.i64_in _ (by omega)
                    have g5 : 0 ≤ (p : Int) + 8 := by omega
                    have g6 : ((p : Int) + 8).toNat = p + 8 := by omega
                    have g7 : (p : Int) < 8 := by omega
                    have g8 : (p : Int) + 8 < 16 := by omega
                    have g9 : (p : Int) < 16 := by omega
                    have g0 : (0 : Int) ≤ (p : Int) := by omega
                    go_upto_region 29 with fail
                    go_still_tail 13, (by kernel_rfl)
                    change wpList _ _ _ _ _ wo3.drew
                    obtain ⟨W4, hW4⟩ : ∃ W4, wo3.drew = W4 := ⟨_, rfl⟩
                    have hR4 : PrAt w W4 (fin H V p) B G V := by rw [← hW4]; exact HR.out.drew
                    rw [hW4]
                    clear hW4 hh0 hv0 hv1 hf0 g4 g5 g6 g7 g8 g9 g0 e1 e2
                    have hh0 := hR4.h.word (k := p) (by rw [fin_length, HH.out]; exact hlt)
                    have hf0 := hR4.h.frozen p
                    have HR4 := Lib.hid hR4
                    clear hR4
                    go_wp2
                    go_roundw
                    case rel =>
                      refine ⟨p + 1, by omega, by go_num, Lib.hid ?_⟩
                      rw [fin, HX.out.1, HX.out.2.1, HX.out.2.2, ← BitVec.xor_assoc]
                      exact HR4.out.setH p _
                    case measure => simp [intOf]; omega
                  · obtain rfl : p = 8 := by omega
                    obtain ⟨F, hF⟩ : ∃ F, fin H V 8 = F := ⟨_, rfl⟩
                    have hFl : F.length = 8 := by rw [← hF, fin_length, HH.out]
                    have HR0 := HR.out
                    rw [hF] at HR0
                    have hfin : pressS H B n last = F := by
                      unfold pressS
                      rw [HVF.out, HG.out, HV.out, hF]
                    have HF := Lib.hid hfin
                    have i27 : Hid ((Tryz.prog.info? 0xa4).map (·.size) = some (wvs F).size) := Lib.hid (by rw [wvs_size, hFl]; kernel_rfl)
                    have j27 : Hid ((wvs (List.replicate 8 0#32)).size = (wvs F).size) := Lib.hid (by rw [wvs_size, wvs_size, hFl]; rfl)
                    have HR1 := Lib.hid HR0
                    clear HR HR0 hF hFl hfin
                    go_wp2_with (first
                      | (refine wpList_load_row rfl 0xa4 _ rfl w.heap.size rfl 0xa4 _ (0, 0) _ HR1.out.h Tryz.underlying164 rfl i27.out ?_)
                      | (refine wpList_store_row rfl 0xa4 _ _ rfl (w.heap.size + 1 + 1) (wvs F) rfl rfl 0xa4 _ HR1.out.r i27.out j27.out (wvs_one F) ?_))
                    refine bodyPost_ret (results_cell_row rfl _ _ (w.heap.size + 1 + 1) 0xa4 (wvs F) (0, 0) _ rfl (setRow_heap _ _ _ _ _ _ HR1.out.r) Tryz.underlying164 rfl i27.out) rfl ⟨by rw [HF.out], ?_⟩
                    exact below_setRow HR1.out.below (by omega) _
end Go.Proofs
